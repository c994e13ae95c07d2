package flat_test

import (
	"math"
	"slices"
	"strings"
	"testing"

	"pointsman/api"
	"pointsman/crate"
	"pointsman/flat"
)

// P9.3

func TestLayRoutesInAllModes(t *testing.T) {
	want := row{"state", 5, 77, 6, 0, 0, 0, 0, 1, 8, 0, 0, 2, 0, 0, 0, 3, 0, 4, 1, 3, 0, 1, 0, 4, 5, 0, 0}
	c := flat.Lay(5, 77, someRoutes())
	if !slices.Equal(rowOf(c), want) {
		t.Errorf("Lay: %v; want %v", rowOf(c), want)
	}
	isTold(t, c, told{5, 77, someRoutes(), true})
	isTold(t, crateOf(t, want), told{5, 77, someRoutes(), true})
}

func TestLayOfOddNumbers(t *testing.T) {
	for _, epoch := range append(oddNumbers(), api.MaxTime) {
		for _, count := range append(oddNumbers(), api.MaxTime) {
			for _, l := range append(noRoutes(), someRoutes()[:1], someRoutes()) {
				checkLay(t, epoch, count, l)
			}
		}
	}
	for _, s := range oddRoutes() {
		checkLay(t, 1, 2, []api.RouteState{s})
		checkLay(t, -1, 0, []api.RouteState{{}, s, {}})
	}
}

func TestLayRoutesInEachOrder(t *testing.T) {
	for _, l := range rows(someRoutes(), 3) {
		checkLay(t, 3, 4, l)
	}
}

// 24 routes fill a crate; of one more nothing is laid.
func TestAsManyRoutesAsThereIsRoomFor(t *testing.T) {
	d := dice(5)
	for many := range 60 {
		l := d.routes(many)
		checkLay(t, many, -many, l)
		if c := flat.Lay(1, 2, l); (c != nil) != (many <= 24) {
			t.Errorf("Lay of %d routes: %v", many, rowOf(c))
		}
	}
	if c := flat.Lay(1, 2, d.routes(24)); c.Len() != api.MaxCrate || c.AddInt(1) {
		t.Errorf("Lay of 24 routes: %d things", c.Len())
	}
	for _, many := range []int{100, 256 + 1, 1 << 16, 1<<16 + 1, 1 << 20} {
		if c := flat.Lay(1, 2, make([]api.RouteState, many)); c != nil {
			t.Errorf("Lay of %d routes: %v", many, rowOf(c))
		}
	}
}

func TestCratesOfNone(t *testing.T) {
	for _, c := range []*crate.Crate{nil, crate.New(), new(crate.Crate)} {
		isTold(t, c, told{})
	}
}

// oddThings are some of each kind that look like one another, and like what is laid.
func oddThings() row { return row{"state", "0", "", 0, 1, 2, -1, true, false} }

func TestReadOfAllShortRows(t *testing.T) {
	for _, things := range rows(oddThings(), 4) {
		checkRead(t, things)
	}
	for _, things := range rows(oddThings(), 5) {
		checkRead(t, append(row{"state", 7, 8, 1}, things...))
	}
	for _, things := range rows(row{0, 1, "1", true}, 5) {
		checkRead(t, append(row{"state", 7, 8, 2, 3, 0, 1}, things...))
	}
}

func TestAnotherTextAhead(t *testing.T) {
	for _, ahead := range []string{"", "State", "STATE", "stat", "state ", " state", "states", "state\x00", "\x00state", "stat\u00e9", "\u017ftate", "state\n", "statestate", "tate", strings.Repeat("state", 1<<16)} {
		things, _ := bookLay(1, 2, someRoutes())
		things[0] = ahead
		isTold(t, crateOf(t, things), told{})
	}
}

// At each place of what was laid stands a thing of another kind, or is none, or one more.
func TestOneThingIsAnother(t *testing.T) {
	for _, l := range [][]api.RouteState{nil, {{}}, someRoutes(), make([]api.RouteState, 23)} {
		whole, _ := bookLay(5, 77, l)
		for at := range whole {
			for _, thing := range append(oddThings(), "state", "5", 6, 24, math.MinInt, math.MaxInt) {
				things := slices.Clone(whole)
				things[at] = thing
				checkRead(t, things)
				checkRead(t, slices.Insert(slices.Clone(whole), at, thing))
				checkRead(t, append(slices.Clone(whole), thing))
			}
			checkRead(t, slices.Delete(slices.Clone(whole), at, at+1))
			checkRead(t, whole[:at])
		}
	}
}

func TestAThingOfAnotherKindAtEachPlace(t *testing.T) {
	whole, _ := bookLay(0, 0, make([]api.RouteState, 24))
	for at := range whole {
		for _, thing := range []any{"0", "", "24", "State", false, true} {
			things := slices.Clone(whole)
			things[at] = thing
			isTold(t, crateOf(t, things), told{})
		}
	}
	for _, thing := range []any{0, 1, -1, 24} {
		whole[0] = thing
		isTold(t, crateOf(t, whole), told{})
	}
}

func TestAThingTooFewOrTooMany(t *testing.T) {
	for many := range 25 {
		whole, _ := bookLay(1, 2, make([]api.RouteState, many))
		for length := range whole {
			isTold(t, crateOf(t, whole[:length]), told{})
		}
		for len(whole) < api.MaxCrate {
			whole = append(whole, 0)
			isTold(t, crateOf(t, whole), told{})
		}
	}
}

// Four times such a number of routes wraps round to that of the numbers that are there.
func TestNumbersOfRoutesThatWrap(t *testing.T) {
	for many := range 25 {
		whole, _ := bookLay(1, 2, make([]api.RouteState, many))
		for _, more := range []int{1 << 62, 2 << 61, -1 << 62, 3 << 61, math.MinInt, 1 << 32, 1 << 30, 1 << 16, 256, 1 << 61, 1, -1} {
			whole[3] = many + more
			isTold(t, crateOf(t, whole), told{})
		}
		for n := -120; n <= 120; n++ {
			whole[3] = n
			want := told{}
			if n == many {
				want = told{1, 2, make([]api.RouteState, many), true}
			}
			isTold(t, crateOf(t, whole), want)
		}
		for _, n := range []int{math.MinInt, math.MinInt + 1, math.MaxInt, math.MaxInt - 1, math.MinInt32, math.MaxInt32, 1 << 32} {
			whole[3] = n
			isTold(t, crateOf(t, whole), told{})
		}
	}
}

func TestSeenThatIsNoneInACrate(t *testing.T) {
	for r := range someRoutes() {
		for _, seen := range []any{2, -1, 256, 257, 1<<32 + 1, math.MinInt, math.MaxInt, true, false, "1", "0"} {
			things, _ := bookLay(1, 2, someRoutes())
			things[4+4*r+3] = seen
			isTold(t, crateOf(t, things), told{})
		}
	}
}

func TestReadOfLongRows(t *testing.T) {
	d := dice(6)
	for range 5000 {
		things, _ := bookLay(d.number(), d.number(), d.routes(d.under(25)))
		checkRead(t, things)
		for range d.under(3) {
			things[d.under(len(things))] = oddThings()[d.under(len(oddThings()))]
		}
		checkRead(t, things)
	}
}
