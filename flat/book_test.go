package flat_test

import (
	"math"
	"slices"
	"testing"

	"pointsman/api"
	"pointsman/crate"
	"pointsman/flat"
)

// row is a crate by hand: each of its things is an int, a string or a bool.
type row []any

// crateOf is a row as a crate.
func crateOf(t *testing.T, things row) *crate.Crate {
	t.Helper()
	c := crate.New()
	for i, thing := range things {
		if !add(c, thing) {
			t.Fatalf("thing %d is not added: %.99v", i, things)
		}
	}
	return c
}

func add(c *crate.Crate, thing any) bool {
	switch x := thing.(type) {
	case int:
		return c.AddInt(x)
	case string:
		return c.AddText(x)
	}
	return c.AddBool(thing.(bool))
}

// rowOf is a crate as a row.
func rowOf(c *crate.Crate) row {
	things := row{}
	for i := range c.Len() {
		if n, ok := c.Int(i); ok {
			things = append(things, n)
		}
		if s, ok := c.Text(i); ok {
			things = append(things, s)
		}
		if b, ok := c.Bool(i); ok {
			things = append(things, b)
		}
	}
	return things
}

// bookOf is what the chapter says that Of is, place by place.
func bookOf(l []api.RouteState) []int {
	n := make([]int, len(l)*4)
	for at := range n {
		s := l[at/4]
		switch at % 4 {
		case 0:
			n[at] = s.Mode
		case 1:
			n[at] = s.Timer
		case 2:
			n[at] = s.Gone
		case 3:
			n[at] = map[bool]int{false: 0, true: 1}[s.Seen]
		}
	}
	return n
}

// bookTake is the routes that numbers are of, one cut off after the other; false of what is none.
func bookTake(n []int) ([]api.RouteState, bool) {
	l := []api.RouteState{}
	for len(n) > 0 {
		if len(n) < 4 || n[3] < 0 || n[3] > 1 {
			return nil, false
		}
		l = append(l, api.RouteState{Mode: n[0], Timer: n[1], Gone: n[2], Seen: n[3] > 0})
		n = n[4:]
	}
	return l, true
}

// bookDiff is what the chapter says that Diff is: each place is asked by itself, from the last one on.
func bookDiff(a, b []int) ([]api.Change, bool) {
	if len(a) != len(b) {
		return nil, false
	}
	var l []api.Change
	for at := len(a) - 1; at >= 0; at-- {
		if a[at] != b[at] {
			l = append([]api.Change{{At: at, To: b[at]}}, l...)
		}
	}
	return l, true
}

// bookApply asks of each place for itself which change of it comes last.
func bookApply(a []int, l []api.Change) ([]int, bool) {
	for _, c := range l {
		if !slices.Contains(places(len(a)), c.At) {
			return nil, false
		}
	}
	n := []int{}
	for at, to := range a {
		for _, c := range l {
			if c.At == at {
				to = c.To
			}
		}
		n = append(n, to)
	}
	return n, true
}

func places(length int) []int {
	l := []int{}
	for at := range length {
		l = append(l, at)
	}
	return l
}

// bookLay is what is laid of routes; false, if that is more than 100 things.
func bookLay(epoch, count int, l []api.RouteState) (row, bool) {
	things := row{"state", epoch, count, len(l)}
	for _, n := range bookOf(l) {
		things = append(things, n)
	}
	return things, len(things) <= 100
}

// told is what Read answers.
type told struct {
	epoch, count int
	l            []api.RouteState
	ok           bool
}

// bookRead tries all numbers of routes that a crate has room for: what was laid is what Lay lays again.
func bookRead(things row) told {
	if len(things) < 4 {
		return told{}
	}
	epoch, _ := things[1].(int)
	count, _ := things[2].(int)
	for many := range 25 {
		if len(things) != 4+4*many {
			continue
		}
		var n []int
		for _, thing := range things[4:] {
			x, _ := thing.(int)
			n = append(n, x)
		}
		l, ok := bookTake(n)
		again, _ := bookLay(epoch, count, l)
		if ok && slices.Equal(again, things) {
			return told{epoch, count, l, true}
		}
	}
	return told{}
}

// checkTake holds Take of numbers against the book, and what it answers against Of.
func checkTake(t *testing.T, n []int) {
	t.Helper()
	want, wantOK := bookTake(n)
	l, ok := flat.Take(n)
	if ok != wantOK || !slices.Equal(l, want) {
		t.Fatalf("Take(%v): %+v, %v; want %+v, %v", n, l, ok, want, wantOK)
	}
	if again := flat.Of(l); ok && !slices.Equal(again, n) {
		t.Fatalf("Of Take(%v): %v", n, again)
	}
}

// checkOf holds Of routes against the book, and what it answers against Take.
func checkOf(t *testing.T, l []api.RouteState) {
	t.Helper()
	n := flat.Of(l)
	if want := bookOf(l); !slices.Equal(n, want) {
		t.Fatalf("Of(%+v): %v; want %v", l, n, want)
	}
	if again, ok := flat.Take(n); !ok || !slices.Equal(again, l) {
		t.Fatalf("Take of Of(%+v): %+v, %v", l, again, ok)
	}
}

// checkDiff holds Diff of rows against the book, and what it answers against Apply.
func checkDiff(t *testing.T, a, b []int) {
	t.Helper()
	want, wantOK := bookDiff(a, b)
	l, ok := flat.Diff(a, b)
	if ok != wantOK || !slices.Equal(l, want) {
		t.Fatalf("Diff(%v, %v): %+v, %v; want %+v, %v", a, b, l, ok, want, wantOK)
	}
	if !ok {
		return
	}
	if again, ok := flat.Apply(a, l); !ok || !slices.Equal(again, b) {
		t.Fatalf("Apply(%v, %+v): %v, %v; want %v", a, l, again, ok, b)
	}
}

func checkApply(t *testing.T, a []int, l []api.Change) {
	t.Helper()
	want, wantOK := bookApply(a, l)
	n, ok := flat.Apply(a, l)
	if ok != wantOK || !slices.Equal(n, want) {
		t.Fatalf("Apply(%v, %+v): %v, %v; want %v, %v", a, l, n, ok, want, wantOK)
	}
}

// checkLay holds Lay against the book, and what it answers against Read.
func checkLay(t *testing.T, epoch, count int, l []api.RouteState) {
	t.Helper()
	c := flat.Lay(epoch, count, l)
	want, fits := bookLay(epoch, count, l)
	if !fits {
		if c != nil {
			t.Fatalf("Lay of %d routes: %d things; want nil", len(l), c.Len())
		}
		return
	}
	if c == nil || !slices.Equal(rowOf(c), want) || !crate.Same(c, crateOf(t, want)) {
		t.Fatalf("Lay(%d, %d, %+v): %v; want %v", epoch, count, l, rowOf(c), want)
	}
	isTold(t, c, told{epoch, count, l, true})
}

func checkRead(t *testing.T, things row) {
	t.Helper()
	isTold(t, crateOf(t, things), bookRead(things))
}

func isTold(t *testing.T, c *crate.Crate, want told) {
	t.Helper()
	epoch, count, l, ok := flat.Read(c)
	if epoch != want.epoch || count != want.count || !slices.Equal(l, want.l) || ok != want.ok {
		t.Fatalf("Read of %.299q: %d, %d, %+v, %v; want %+v", rowOf(c), epoch, count, l, ok, want)
	}
}

// dice are numbers that are the same in every run.
type dice uint64

func (d *dice) under(n int) int {
	*d = *d*6364136223846793005 + 1442695040888963407
	return int(uint64(*d) >> 33 % uint64(n))
}

// number is one of any size, below nought or not.
func (d *dice) number() int {
	n := d.under(1<<31)<<33 ^ d.under(1<<31)<<16 ^ d.under(1<<16)
	return n >> d.under(64)
}

func (d *dice) numbers(length int) []int {
	n := make([]int, length)
	for i := range n {
		n[i] = d.number()
	}
	return n
}

func (d *dice) routes(length int) []api.RouteState {
	l := make([]api.RouteState, length)
	for i := range l {
		l[i] = api.RouteState{Mode: d.number(), Timer: d.number(), Gone: d.number(), Seen: d.under(2) == 1}
	}
	return l
}

// oddNumbers are the least and the greatest, and some about nought.
func oddNumbers() []int { return []int{math.MinInt, -1, 0, 1, 2, math.MaxInt} }

// rows are all rows of at most so many of the things.
func rows[T any](things []T, longest int) [][]T {
	all := [][]T{nil}
	for from := 0; longest > 0; longest-- {
		to := len(all)
		for _, row := range all[from:to] {
			for _, x := range things {
				all = append(all, append(slices.Clone(row), x))
			}
		}
		from = to
	}
	return all
}

// someRoutes are routes in all modes, as they may stand.
func someRoutes() []api.RouteState {
	return []api.RouteState{
		{},
		{Mode: api.Setting, Timer: 8},
		{Mode: api.Locked},
		{Mode: api.Used, Gone: 4, Seen: true},
		{Mode: api.Used, Gone: 1},
		{Mode: api.Releasing, Timer: 5},
	}
}

// Lists of nothing: nil, empty, and with spare room.

func noRoutes() [][]api.RouteState {
	return [][]api.RouteState{nil, {}, make([]api.RouteState, 0, 4), someRoutes()[:0]}
}

func noNumbers() [][]int {
	return [][]int{nil, {}, make([]int, 0, 4), oddNumbers()[:0]}
}

func noChanges() [][]api.Change {
	return [][]api.Change{nil, {}, make([]api.Change, 0, 4), append([]api.Change{}, api.Change{At: 9})[:0]}
}
