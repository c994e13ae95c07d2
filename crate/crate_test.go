package crate_test

import (
	"math"
	"runtime"
	"strings"
	"testing"
	"unsafe"

	"pointsman/api"
	"pointsman/crate"
)

// item is a thing by hand: its kind, and what it is.
type item struct {
	kind int
	n    int
	s    string
	b    bool
}

const (
	isInt = iota
	isText
	isBool
)

func number(n int) item  { return item{kind: isInt, n: n} }
func text(s string) item { return item{kind: isText, s: s} }
func truth(b bool) item  { return item{kind: isBool, b: b} }

func add(c *crate.Crate, x item) bool {
	switch x.kind {
	case isInt:
		return c.AddInt(x.n)
	case isText:
		return c.AddText(x.s)
	}
	return c.AddBool(x.b)
}

func filled(t *testing.T, items ...item) *crate.Crate {
	t.Helper()
	c := crate.New()
	for i, x := range items {
		if !add(c, x) {
			t.Fatalf("thing %d of %v is not added", i, items)
		}
	}
	return c
}

// mustInt is what MustInt answers, and what it panics with.
func mustInt(c *crate.Crate, i int) (n int, why any) {
	defer func() { why = recover() }()
	return c.MustInt(i), nil
}

// checkPlace asks all that can be asked of a place at which x stands.
func checkPlace(t *testing.T, c *crate.Crate, i int, x item) {
	t.Helper()
	if n, ok := c.Int(i); n != x.n || ok != (x.kind == isInt) {
		t.Errorf("Int(%d) = %d, %v, where %+v stands", i, n, ok, x)
	}
	if s, ok := c.Text(i); s != x.s || ok != (x.kind == isText) {
		t.Errorf("Text(%d) = %q, %v, where %+v stands", i, s, ok, x)
	}
	if b, ok := c.Bool(i); b != x.b || ok != (x.kind == isBool) {
		t.Errorf("Bool(%d) = %v, %v, where %+v stands", i, b, ok, x)
	}
	if n, why := mustInt(c, i); n != x.n || (why == nil) != (x.kind == isInt) {
		t.Errorf("MustInt(%d) = %d, panics with %v, where %+v stands", i, n, why, x)
	}
}

// checkNothing asks all that can be asked of a place at which nothing stands.
func checkNothing(t *testing.T, c *crate.Crate, i int) {
	t.Helper()
	if n, ok := c.Int(i); n != 0 || ok {
		t.Errorf("Int(%d) = %d, %v, where nothing stands", i, n, ok)
	}
	if s, ok := c.Text(i); s != "" || ok {
		t.Errorf("Text(%d) = %q, %v, where nothing stands", i, s, ok)
	}
	if b, ok := c.Bool(i); b || ok {
		t.Errorf("Bool(%d) = %v, %v, where nothing stands", i, b, ok)
	}
	if n, why := mustInt(c, i); why == nil {
		t.Errorf("MustInt(%d) = %d, where nothing stands", i, n)
	}
}

// check holds a crate against its things, at all its places and at some beside them.
func check(t *testing.T, c *crate.Crate, items ...item) {
	t.Helper()
	if c.Len() != len(items) {
		t.Fatalf("Len() = %d, want %d", c.Len(), len(items))
	}
	for i, x := range items {
		checkPlace(t, c, i, x)
	}
	for _, i := range []int{-1, -2, len(items), len(items) + 1, -len(items), api.MaxCrate, -api.MaxCrate, math.MinInt32, math.MaxInt32, math.MinInt, math.MinInt + 1, math.MaxInt} {
		if i < 0 || i >= len(items) {
			checkNothing(t, c, i)
		}
	}
}

// oddThings are unlike one another, and many look alike.
func oddThings() []item {
	return []item{
		number(0), number(1), number(-1), number(math.MaxInt), number(math.MinInt),
		text(""), text("0"), text("1"), text("-1"), text("true"), text("false"), text("\x00"), text("nil"), text("\xff"), text("\ufffd"),
		truth(false), truth(true),
	}
}

// rows are all rows of at most so many of the things.
func rows(things []item, most int) [][]item {
	all := [][]item{nil}
	for from := 0; most > 0; most-- {
		to := len(all)
		for _, row := range all[from:to] {
			for _, x := range things {
				all = append(all, append(row[:len(row):len(row)], x))
			}
		}
		from = to
	}
	return all
}

// P2.1

func TestExample(t *testing.T) {
	c := crate.New()
	if !c.AddText("x") {
		t.Error("AddText(x) = false")
	}
	if n, ok := c.Int(0); n != 0 || ok {
		t.Errorf("Int(0) = %d, %v", n, ok)
	}
}

func TestEachThingAlone(t *testing.T) {
	for _, x := range oddThings() {
		check(t, filled(t, x), x)
	}
	check(t, filled(t))
}

func TestThingsOfAllKindsInEachOrder(t *testing.T) {
	for _, row := range rows([]item{number(-7), number(0), text("x"), text(""), truth(true), truth(false)}, 4) {
		check(t, filled(t, row...), row...)
	}
}

func TestEachStandsBehindAll(t *testing.T) {
	c := crate.New()
	var items []item
	for i := range api.MaxCrate {
		items = append(items, oddThings()[i%len(oddThings())])
		if !add(c, items[i]) {
			t.Fatalf("thing %d is not added", i)
		}
		check(t, c, items...)
	}
}

func TestFull(t *testing.T) {
	for _, last := range oddThings() {
		c := crate.New()
		var items []item
		for i := range api.MaxCrate - 1 {
			items = append(items, number(i))
			c.AddInt(i)
		}
		items = append(items, last)
		if !add(c, last) {
			t.Fatalf("%+v is not added as the last one", last)
		}
		for range 2 {
			for _, x := range oddThings() {
				if add(c, x) {
					t.Errorf("%+v is added behind the last one", x)
				}
			}
		}
		check(t, c, items...)
		if !crate.Same(c, filled(t, items...)) {
			t.Error("what was not added made a crate another one")
		}
	}
}

func TestMustIntPanicsWithAnError(t *testing.T) {
	c := filled(t, text("7"), truth(true), number(7))
	for _, i := range []int{-1, 0, 1, 3} {
		_, why := mustInt(c, i)
		if _, ok := why.(runtime.Error); !ok {
			t.Errorf("MustInt(%d) panics with %v, want the error of an assertion", i, why)
		}
	}
	check(t, c, text("7"), truth(true), number(7))
}

func TestLongText(t *testing.T) {
	long := strings.Repeat("\u00e9\xff", 1<<20)
	check(t, filled(t, text(long), text(""), text(long[1:])), text(long), text(""), text(long[1:]))
	if crate.Same(filled(t, text(long)), filled(t, text(long[1:]))) || !crate.Same(filled(t, text(long)), filled(t, text(long))) {
		t.Error("Same of long texts")
	}
}

func TestCratesAreApart(t *testing.T) {
	a, b := crate.New(), crate.New()
	a.AddInt(1)
	b.AddText("x")
	a.AddBool(true)
	check(t, a, number(1), truth(true))
	check(t, b, text("x"))
	check(t, crate.New())
}

func TestAZeroCrateIsOneOfNone(t *testing.T) {
	var c crate.Crate
	check(t, &c)
	if !crate.Same(&c, crate.New()) || !crate.Same(&c, nil) {
		t.Error("Same of a zero crate")
	}
	if !c.AddText("x") || !c.AddInt(7) {
		t.Error("nothing is added")
	}
	check(t, &c, text("x"), number(7))
}

func TestTextsAreCopies(t *testing.T) {
	handed := []byte("abc")
	c := crate.New()
	c.AddText(unsafe.String(&handed[0], len(handed)))
	handed[0] = 'z'
	check(t, c, text("abc"))
	a, _ := c.Text(0)
	b, _ := c.Text(0)
	if unsafe.StringData(a) == unsafe.StringData(b) {
		t.Error("two answers share memory")
	}
}

func TestAnswersStay(t *testing.T) {
	c := filled(t, text("abc"), number(7), truth(true))
	s, _ := c.Text(0)
	n, _ := c.Int(1)
	b, _ := c.Bool(2)
	for c.AddText("z") {
	}
	if s != "abc" || n != 7 || !b {
		t.Errorf("the answers became %q, %d, %v", s, n, b)
	}
	for i, x := range []item{text("abc"), number(7), truth(true)} {
		checkPlace(t, c, i, x)
	}
}

// P2.2

func sameByHand(a, b []item) bool {
	if len(a) != len(b) {
		return false
	}
	for i := range a {
		if a[i] != b[i] {
			return false
		}
	}
	return true
}

// checkSame holds Same of all pairs against the rows that the crates were filled with.
func checkSame(t *testing.T, all [][]item) {
	t.Helper()
	first, second := make([]*crate.Crate, len(all)), make([]*crate.Crate, len(all))
	for i, row := range all {
		first[i], second[i] = filled(t, row...), filled(t, row...)
	}
	for i, a := range all {
		for k, b := range all {
			if got, want := crate.Same(first[i], second[k]), sameByHand(a, b); got != want {
				t.Fatalf("Same(%+v, %+v) = %v, want %v", a, b, got, want)
			}
		}
		if !crate.Same(first[i], first[i]) {
			t.Fatalf("%+v is not the same as itself", a)
		}
		check(t, first[i], a...)
	}
}

func TestSameOfAllShortRows(t *testing.T) {
	checkSame(t, rows(oddThings(), 2))
	checkSame(t, rows([]item{number(0), number(1), text(""), text("0"), truth(false), truth(true)}, 4))
}

func TestSameOfLongRows(t *testing.T) {
	var whole []item
	for i := range api.MaxCrate {
		whole = append(whole, oddThings()[i%len(oddThings())])
	}
	all := [][]item{whole}
	for n := range api.MaxCrate {
		all = append(all, whole[:n])
		other := append([]item(nil), whole...)
		other[n] = text("another")
		all = append(all, other)
	}
	checkSame(t, all)
}

func TestSameAfterMoreIsAdded(t *testing.T) {
	a, b := filled(t, number(1), text("x")), filled(t, number(1))
	if crate.Same(a, b) || crate.Same(b, a) {
		t.Error("one is the other's beginning, and they are the same")
	}
	b.AddText("x")
	if !crate.Same(a, b) || !crate.Same(b, a) {
		t.Error("they are not the same once the other one is whole")
	}
	a.AddBool(false)
	if crate.Same(a, b) || crate.Same(b, a) {
		t.Error("they are the same though one has more")
	}
}

// P2.3

func TestNil(t *testing.T) {
	var none *crate.Crate
	for range 2 {
		check(t, none)
		checkNothing(t, none, 0)
		for _, x := range oddThings() {
			if add(none, x) {
				t.Errorf("%+v is added to a nil crate", x)
			}
		}
	}
}

func TestSameOfNil(t *testing.T) {
	if !crate.Same(nil, nil) || !crate.Same(nil, crate.New()) || !crate.Same(crate.New(), nil) {
		t.Error("a nil crate is not as one of none")
	}
	for _, x := range oddThings() {
		c := filled(t, x)
		if crate.Same(nil, c) || crate.Same(c, nil) {
			t.Errorf("a nil crate is the same as one of %+v", x)
		}
	}
}
