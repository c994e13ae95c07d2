package flat_test

import (
	"slices"
	"sync"
	"testing"

	"pointsman/api"
	"pointsman/crate"
	"pointsman/flat"
)

// P9.4, W6, W7: what is handed in is neither changed nor kept; what is answered is new memory, and stays what it is.

// roomy is a list with something in the spare room behind its end.
func roomy[T any](list []T, spare T) []T {
	return slices.Concat(list, []T{spare, spare, spare})[:len(list)]
}

// spoil overwrites a list with its spare room.
func spoil[T any](list []T, with T) {
	list = list[:cap(list)]
	for i := range list {
		list[i] = with
	}
}

// stays holds a list with its spare room against what it was.
func stays[T comparable](t *testing.T, what string, list []T, was []T) {
	t.Helper()
	if !slices.Equal(list[:cap(list)], was) {
		t.Errorf("%s: became %v; was %v", what, list[:cap(list)], was)
	}
}

// room is a list with its spare room, as it is now.
func room[T any](list []T) []T { return slices.Clone(list[:cap(list)]) }

// equal holds an answer against what it must be, as it is still.
func equal[T comparable](t *testing.T, what string, list []T, want []T) {
	t.Helper()
	if !slices.Equal(list, want) {
		t.Errorf("%s: %v; want %v", what, list, want)
	}
}

var (
	spareRoute  = api.RouteState{Mode: 91, Timer: 92, Gone: 93, Seen: true}
	spareChange = api.Change{At: 1, To: 94}
)

// someLists are lists of routes: none, one, all modes, as many as a crate has room for, and too many.
func someLists() [][]api.RouteState {
	d := dice(7)
	return [][]api.RouteState{{}, {{}}, someRoutes(), d.routes(24), d.routes(25)}
}

func TestRoutesStay(t *testing.T) {
	for _, l := range someLists() {
		mine := roomy(l, spareRoute)
		was := room(mine)
		n := flat.Of(mine)
		c := flat.Lay(1, 2, mine)
		stays(t, "routes", mine, was)
		spoil(n, 77)
		for c.AddInt(77) {
		}
		stays(t, "routes", mine, was)
	}
}

func TestRoutesAreNotKept(t *testing.T) {
	for _, l := range someLists() {
		mine := roomy(l, spareRoute)
		n := flat.Of(mine)
		c := flat.Lay(1, 2, mine)
		spoil(mine, spareRoute)
		equal(t, "Of", n, bookOf(l))
		if want, fits := bookLay(1, 2, l); fits {
			equal(t, "Lay", rowOf(c), want)
		}
	}
}

func TestNumbersStay(t *testing.T) {
	for _, l := range someLists() {
		for _, cut := range []int{0, 1} {
			mine := roomy(bookOf(l), 1)
			mine = mine[:len(mine)+cut]
			was := room(mine)
			got, _ := flat.Take(mine)
			stays(t, "numbers", mine, was)
			spoil(got, spareRoute)
			stays(t, "numbers", mine, was)
		}
	}
}

func TestNumbersAreNotKept(t *testing.T) {
	for _, l := range someLists() {
		mine := roomy(bookOf(l), 1)
		got, _ := flat.Take(mine)
		spoil(mine, 77)
		equal(t, "Take", got, l)
	}
}

// somePairs are rows of one length, and of unlike ones.
func somePairs() [][2][]int {
	d := dice(8)
	return [][2][]int{{{}, {}}, {{1}, {1}}, {{1}, {2}}, {{1, 2, 3}, {1, 5, 3}}, {{1, 2, 3}, {1, 5}}, {{}, {1}}, {d.numbers(40), d.numbers(40)}}
}

func TestRowsStayWithDiff(t *testing.T) {
	for _, p := range somePairs() {
		a, b := roomy(p[0], 81), roomy(p[1], 82)
		wasA, wasB := room(a), room(b)
		l, ok := flat.Diff(a, b)
		stays(t, "first row", a, wasA)
		stays(t, "second row", b, wasB)
		spoil(a, 77)
		spoil(b, 78)
		want, wantOK := bookDiff(p[0], p[1])
		equal(t, "Diff", l, want)
		if ok != wantOK {
			t.Errorf("Diff(%v, %v): %v", p[0], p[1], ok)
		}
	}
}

func TestRowsStayWithApply(t *testing.T) {
	for _, p := range somePairs() {
		for _, last := range []api.Change{{At: 0, To: 5}, {At: len(p[0]) - 1, To: 6}, {At: len(p[0]), To: 7}, {At: -1, To: 8}} {
			changes, _ := bookDiff(p[0], p[1])
			changes = append(changes, last)
			a, l := roomy(p[0], 81), roomy(changes, spareChange)
			wasA, wasL := room(a), room(l)
			n, _ := flat.Apply(a, l)
			stays(t, "row", a, wasA)
			stays(t, "changes", l, wasL)
			want, _ := bookApply(p[0], changes)
			spoil(a, 77)
			spoil(l, spareChange)
			equal(t, "Apply", n, want)
		}
	}
}

// An Apply of no changes answers a row of its own, too.
func TestApplyOfNoneIsNew(t *testing.T) {
	for _, p := range somePairs() {
		a := roomy(p[0], 81)
		was := room(a)
		n, _ := flat.Apply(a, nil)
		spoil(n, 77)
		stays(t, "row", a, was)
		n, _ = flat.Apply(a, nil)
		_ = append(n, 9)
		stays(t, "row", a, was)
		spoil(a, 77)
		equal(t, "Apply", n, p[0])
	}
}

// Answers share nothing with one another, nor with any that comes later.
func TestAnswersAreNew(t *testing.T) {
	for _, l := range someLists() {
		n, m := flat.Of(l), flat.Of(l)
		spoil(n, 77)
		equal(t, "Of", m, bookOf(l))
		equal(t, "Of", flat.Of(l), bookOf(l))
		k, _ := flat.Take(m)
		j, _ := flat.Take(m)
		spoil(k, spareRoute)
		equal(t, "Take", j, l)
		equal(t, "Take", m, bookOf(l))
	}
	for _, p := range somePairs() {
		want, ok := bookDiff(p[0], p[1])
		k, _ := flat.Diff(p[0], p[1])
		j, _ := flat.Diff(p[0], p[1])
		spoil(k, spareChange)
		equal(t, "Diff", j, want)
		if !ok {
			continue
		}
		n, _ := flat.Apply(p[0], j)
		m, _ := flat.Apply(p[0], j)
		spoil(n, 77)
		equal(t, "Apply", m, p[1])
		equal(t, "Diff", j, want)
	}
}

// Crates of the same routes are apart: each gets things of its own behind.
func TestCratesAreNew(t *testing.T) {
	want, _ := bookLay(1, 2, someRoutes())
	c, d := flat.Lay(1, 2, someRoutes()), flat.Lay(1, 2, someRoutes())
	c.AddText("c")
	equal(t, "Lay", rowOf(d), want)
	d.AddBool(true)
	equal(t, "Lay", rowOf(c), append(slices.Clone(want), "c"))
	equal(t, "Lay", rowOf(d), append(slices.Clone(want), true))
	equal(t, "Lay", rowOf(flat.Lay(1, 2, someRoutes())), want)
}

// Read changes no crate, be it one that was laid or none such.
func TestCrateStays(t *testing.T) {
	whole, _ := bookLay(1, 2, someRoutes())
	for length := range len(whole) + 1 {
		for _, spare := range oddThings() {
			things := append(slices.Clone(whole[:length]), spare)
			c := crateOf(t, things)
			for range 2 {
				_, _, l, _ := flat.Read(c)
				spoil(l, spareRoute)
				equal(t, "crate", rowOf(c), things)
			}
		}
	}
}

// What was read stays when the crate gets more things, though it then is no such crate.
func TestCrateIsNotKept(t *testing.T) {
	for _, l := range someLists()[:4] {
		c := flat.Lay(1, 2, l)
		_, _, a, _ := flat.Read(c)
		_, _, b, _ := flat.Read(c)
		spoil(a, spareRoute)
		equal(t, "Read", b, l)
		isTold(t, c, told{1, 2, l, true})
		if c.AddInt(0) {
			isTold(t, c, told{})
		}
		equal(t, "Read", b, l)
	}
}

// W2: what is answered depends on nothing that was asked earlier.
func TestOneBehindAnother(t *testing.T) {
	d := dice(9)
	for range 1000 {
		checkOf(t, d.routes(d.under(8)))
		checkTake(t, d.numbers(4))
		checkDiff(t, d.numbers(d.under(3)), d.numbers(d.under(3)))
		checkApply(t, d.numbers(3), []api.Change{{At: d.under(4), To: d.number()}})
		checkLay(t, d.number(), d.number(), d.routes(d.under(26)))
		isTold(t, nil, told{})
	}
}

// W2: calls at one time are apart, though they are handed the same memory.
func TestManyAtOneTime(t *testing.T) {
	l := someRoutes()
	n := bookOf(l)
	c := flat.Lay(0, 7, l)
	got := make([]*crate.Crate, 16)
	var all sync.WaitGroup
	for i := range got {
		all.Go(func() {
			for range 50 {
				_, count, routes, _ := flat.Read(c)
				a := flat.Of(routes)
				a[i] = -i
				changes, _ := flat.Diff(n, a)
				b, _ := flat.Apply(n, changes)
				b[3] = i % 2
				routes, _ = flat.Take(b[:4])
				got[i] = flat.Lay(i, count, append(routes, l...))
			}
		})
	}
	all.Wait()
	for i, c := range got {
		first := bookOf(l)[:4]
		first[min(i, 3)] -= i
		first[3] = i % 2
		equal(t, "Lay", rowOf(c)[:8], row{"state", i, 7, 7, first[0], first[1], first[2], first[3]})
		equal(t, "Lay", rowOf(c)[8:], rowOf(flat.Lay(0, 7, l))[4:])
	}
}
