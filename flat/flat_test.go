package flat_test

import (
	"math"
	"slices"
	"testing"

	"pointsman/api"
	"pointsman/flat"
)

// P9.1

func TestOfRoutesInAllModes(t *testing.T) {
	want := []int{0, 0, 0, 0, 1, 8, 0, 0, 2, 0, 0, 0, 3, 0, 4, 1, 3, 0, 1, 0, 4, 5, 0, 0}
	if n := flat.Of(someRoutes()); !slices.Equal(n, want) {
		t.Errorf("Of: %v; want %v", n, want)
	}
	if l, ok := flat.Take(want); !ok || !slices.Equal(l, someRoutes()) {
		t.Errorf("Take: %+v, %v; want %+v", l, ok, someRoutes())
	}
}

func TestOfNone(t *testing.T) {
	for _, l := range noRoutes() {
		if n := flat.Of(l); len(n) != 0 {
			t.Errorf("Of none: %v", n)
		}
	}
	for _, n := range noNumbers() {
		if l, ok := flat.Take(n); !ok || len(l) != 0 {
			t.Errorf("Take of none: %+v, %v", l, ok)
		}
	}
}

// oddRoutes are all routes of odd numbers.
func oddRoutes() []api.RouteState {
	var l []api.RouteState
	for _, mode := range append(oddNumbers(), 3, 4, 5) {
		for _, timer := range oddNumbers() {
			for _, gone := range oddNumbers() {
				l = append(l, api.RouteState{Mode: mode, Timer: timer, Gone: gone}, api.RouteState{Mode: mode, Timer: timer, Gone: gone, Seen: true})
			}
		}
	}
	return l
}

func TestEachRouteAlone(t *testing.T) {
	for _, s := range oddRoutes() {
		checkOf(t, []api.RouteState{s})
	}
	checkOf(t, oddRoutes())
}

func TestRoutesInEachOrder(t *testing.T) {
	for _, l := range rows(someRoutes(), 4) {
		checkOf(t, l)
	}
}

// Take asks no more than how long the row is, and what Seen is: whether routes may stand so is lock's.
func TestAllShortRowsOfNumbers(t *testing.T) {
	for _, n := range rows(oddNumbers(), 5) {
		checkTake(t, n)
	}
	for _, n := range rows([]int{0, 1, 2}, 9) {
		checkTake(t, n)
	}
}

func TestRowsThatAreNoMultipleOfFour(t *testing.T) {
	for length := range 300 {
		n := make([]int, length)
		if l, ok := flat.Take(n); ok != (length%4 == 0) || ok && len(l) != length/4 || !ok && len(l) != 0 {
			t.Errorf("Take of %d noughts: %d routes, %v", length, len(l), ok)
		}
		checkTake(t, n)
	}
}

func TestSeenThatIsNone(t *testing.T) {
	for r := range someRoutes() {
		for _, seen := range []int{2, -1, 3, 256, 257, 1 << 32, 1<<32 + 1, math.MinInt, math.MinInt + 1, math.MaxInt} {
			n := flat.Of(someRoutes())
			n[4*r+3] = seen
			if l, ok := flat.Take(n); ok || len(l) != 0 {
				t.Errorf("Take where Seen of route %d is %d: %+v, %v", r, seen, l, ok)
			}
		}
	}
}

// Each number of a row is made each other odd one.
func TestOneNumberIsAnother(t *testing.T) {
	for at := range 24 {
		for _, x := range oddNumbers() {
			n := flat.Of(someRoutes())
			n[at] = x
			checkTake(t, n)
		}
	}
}

func TestLongRows(t *testing.T) {
	d := dice(1)
	for range 2000 {
		checkOf(t, d.routes(d.under(40)))
		checkTake(t, d.numbers(d.under(20)))
		n := bookOf(d.routes(1 + d.under(40)))
		n[d.under(len(n))] = d.under(4) - 1
		checkTake(t, n)
		checkTake(t, n[:d.under(len(n))])
	}
	checkOf(t, d.routes(100000))
}

// P9.2

func TestExample(t *testing.T) {
	l, ok := flat.Diff([]int{1, 2, 3}, []int{1, 5, 3})
	if !ok || !slices.Equal(l, []api.Change{{At: 1, To: 5}}) {
		t.Errorf("Diff: %+v, %v", l, ok)
	}
	n, ok := flat.Apply([]int{1, 2, 3}, l)
	if !ok || !slices.Equal(n, []int{1, 5, 3}) {
		t.Errorf("Apply: %v, %v", n, ok)
	}
}

func TestDiffOfAllShortRows(t *testing.T) {
	all := rows([]int{-1, 0, 1}, 4)
	for _, a := range all {
		for _, b := range all {
			checkDiff(t, a, b)
		}
	}
	all = rows(oddNumbers(), 2)
	for _, a := range all {
		for _, b := range all {
			checkDiff(t, a, b)
		}
	}
}

func TestDiffOfNone(t *testing.T) {
	for _, a := range noNumbers() {
		for _, b := range noNumbers() {
			if l, ok := flat.Diff(a, b); !ok || len(l) != 0 {
				t.Errorf("Diff of none: %+v, %v", l, ok)
			}
		}
		for _, b := range [][]int{{0}, {0, 0, 0, 0}} {
			if l, ok := flat.Diff(a, b); ok || len(l) != 0 {
				t.Errorf("Diff(%v, %v): %+v, %v", a, b, l, ok)
			}
			if l, ok := flat.Diff(b, a); ok || len(l) != 0 {
				t.Errorf("Diff(%v, %v): %+v, %v", b, a, l, ok)
			}
		}
	}
}

// Rows that begin alike are of unlike length all the same.
func TestDiffOfRowsOfUnlikeLength(t *testing.T) {
	whole := flat.Of(someRoutes())
	for a := range len(whole) + 1 {
		for b := range len(whole) + 1 {
			if l, ok := flat.Diff(whole[:a], whole[:b]); ok != (a == b) || len(l) != 0 {
				t.Errorf("Diff of rows of %d and %d: %+v, %v", a, b, l, ok)
			}
		}
	}
}

func TestDiffOfLongRows(t *testing.T) {
	d := dice(2)
	for range 2000 {
		a := d.numbers(d.under(60))
		b := slices.Clone(a)
		for range d.under(len(a) + 1) {
			b[d.under(len(b))] = d.number()
		}
		checkDiff(t, a, b)
		checkDiff(t, a, d.numbers(len(a)))
		checkDiff(t, a, d.numbers(d.under(60)))
	}
	checkDiff(t, make([]int, 5000), d.numbers(5000))
}

func TestApplyOfAllShortLists(t *testing.T) {
	var changes []api.Change
	for _, at := range []int{math.MinInt, -1, 0, 1, 2, math.MaxInt} {
		changes = append(changes, api.Change{At: at, To: 7}, api.Change{At: at, To: -8})
	}
	for _, a := range rows([]int{5, 6}, 3) {
		for _, l := range rows(changes, 3) {
			checkApply(t, a, l)
		}
	}
}

// Of two changes of one place the last one holds, whatever is between them.
func TestTwoChangesOfOnePlace(t *testing.T) {
	l := []api.Change{{At: 1, To: 7}, {At: 0, To: 4}, {At: 1, To: 8}, {At: 1, To: 9}, {At: 2, To: math.MinInt}}
	if n, ok := flat.Apply([]int{1, 2, 3}, l); !ok || !slices.Equal(n, []int{4, 9, math.MinInt}) {
		t.Errorf("Apply: %v, %v", n, ok)
	}
	slices.Reverse(l)
	if n, ok := flat.Apply([]int{1, 2, 3}, l); !ok || !slices.Equal(n, []int{4, 7, math.MinInt}) {
		t.Errorf("Apply: %v, %v", n, ok)
	}
}

// A change of a place that is not there is none, first, last, or between others.
func TestPlacesThatAreNotThere(t *testing.T) {
	a := []int{1, 2, 3}
	for _, at := range []int{-1, -3, 3, 4, 1 << 32, 1<<62 + 1, -1 << 32, math.MinInt, math.MaxInt} {
		for k := range 3 {
			l := slices.Insert([]api.Change{{At: 0, To: 9}, {At: 2, To: 8}}, k, api.Change{At: at, To: 7})
			if n, ok := flat.Apply(a, l); ok || len(n) != 0 {
				t.Errorf("Apply(%v, %+v): %v, %v", a, l, n, ok)
			}
		}
	}
	for _, none := range noNumbers() {
		if n, ok := flat.Apply(none, []api.Change{{}}); ok || len(n) != 0 {
			t.Errorf("Apply of no numbers: %v, %v", n, ok)
		}
		for _, l := range noChanges() {
			if n, ok := flat.Apply(none, l); !ok || len(n) != 0 {
				t.Errorf("Apply of none to none: %v, %v", n, ok)
			}
			if n, ok := flat.Apply(a, l); !ok || !slices.Equal(n, []int{1, 2, 3}) {
				t.Errorf("Apply of none: %v, %v", n, ok)
			}
		}
	}
}

func TestApplyOfLongLists(t *testing.T) {
	d := dice(3)
	for range 3000 {
		a := d.numbers(1 + d.under(30))
		l := make([]api.Change, d.under(40))
		for i := range l {
			l[i] = api.Change{At: d.under(len(a)), To: d.number()}
		}
		checkApply(t, a, l)
		checkApply(t, a[:len(a)-1], l)
	}
}

// How routes stand, a change later: what the layers above tell by these calls.
func TestRoutesByChanges(t *testing.T) {
	d := dice(4)
	for range 1000 {
		a, b := d.routes(6), d.routes(6)
		b[d.under(6)] = a[d.under(6)]
		l, ok := flat.Diff(flat.Of(a), flat.Of(b))
		n, there := flat.Apply(flat.Of(a), l)
		again, are := flat.Take(n)
		if !ok || !there || !are || !slices.Equal(again, b) {
			t.Fatalf("from %+v to %+v: %+v", a, b, again)
		}
	}
}
