package unit_test

import (
	"math"
	"testing"

	"pointsman/api"
	"pointsman/unit"
)

// Routes by which telegrams are told apart.

func first() []api.RouteState  { return routes(2, 0, 1) }
func second() []api.RouteState { return []api.RouteState{{}, {Mode: 3, Gone: 1, Seen: true}, {}} }

// took holds that a unit takes over, granted the epoch behind its copy's, and how.
func took(t *testing.T, what string, u *unit.Unit, epoch, count int, l []api.RouteState) {
	t.Helper()
	u.Granted(epoch+1, count)
	is(t, what, u, api.Active, count, l)
	sends(t, what, u, heard{epoch + 1, count, l})
}

// hasNone holds that a unit has no copy of this epoch, whatever its count.
func hasNone(t *testing.T, what string, u *unit.Unit, epoch int) {
	t.Helper()
	u.Granted(epoch+1, math.MinInt)
	is(t, what, u, api.Forced, math.MinInt, idle())
}

// P12.2: what is heard is a copy, and nothing more, until it is granted

func TestHear(t *testing.T) {
	for _, x := range []heard{
		{1, 5, idle()}, {1, 5, first()}, {1, 5, second()}, {0, 0, first()}, {0, 0, idle()}, {7, 1 << 40, second()},
		{-1, -1, first()}, {-5, 3, first()}, {3, -5, second()}, {math.MaxInt - 1, math.MaxInt, first()}, {math.MinInt, math.MinInt, second()},
	} {
		u := made(t)
		hear(u, x.epoch, x.count, x.routes)
		is(t, "heard", u, api.Standby, 0, idle())
		tick(u, 20)
		tells(t, "heard", u.Cycle(field(nor), true, []api.Cmd{call(0)}), 0, false, false)
		is(t, "heard", u, api.Standby, 0, idle())
		took(t, "heard", u, x.epoch, x.count, x.routes)
	}
}

// All ways in which routes may stand, and may not, are those of the Lock.
func TestHearRoutes(t *testing.T) {
	for _, s := range []api.RouteState{
		{Mode: 1}, {Mode: 1, Timer: 8}, {Mode: 2}, {Mode: 4}, {Mode: 4, Timer: 5},
		{Mode: 3}, {Mode: 3, Seen: true}, {Mode: 3, Gone: 1}, {Mode: 3, Gone: 1, Seen: true},
	} {
		u := made(t)
		l := []api.RouteState{s, {}, {Mode: 2}}
		hear(u, 1, 5, l)
		took(t, "heard", u, 1, 5, l)
	}
	for _, l := range wrongRoutes() {
		u := made(t)
		hear(u, 1, 5, l)
		is(t, "wrong routes", u, api.Standby, 0, idle())
		hasNone(t, "wrong routes", u, 1)
		v := made(t)
		hear(v, 1, 5, first())
		hear(v, 1, 6, l)
		hear(v, 2, 6, l)
		took(t, "wrong routes behind a copy", v, 1, 5, first())
	}
}

func TestHearNoTelegram(t *testing.T) {
	for i, b := range noTelegrams(1, 6) {
		u := made(t)
		u.Hear(b)
		is(t, "no telegram", u, api.Standby, 0, idle())
		u.Granted(2, 6)
		is(t, "no telegram", u, api.Forced, 6, idle())
		v := made(t)
		hear(v, 1, 5, first())
		v.Hear(b)
		v.Granted(2, 5)
		if v.Mode() != api.Active || v.Count() != 5 {
			t.Errorf("%d: %x is heard", i, b)
		}
	}
}

func TestHearSpoilt(t *testing.T) {
	for _, b := range spoilt(heard{1, 6, second()}.telegram()) {
		u := made(t)
		u.Hear(b)
		hasNone(t, "spoilt", u, 1)
		v := made(t)
		hear(v, 1, 5, first())
		v.Hear(b)
		took(t, "spoilt behind a copy", v, 1, 5, first())
	}
}

// A telegram that came to be another one with a whole sum is that one.
func TestHearAnotherOne(t *testing.T) {
	u := made(t)
	u.Hear(stateOf(append([]int{4, 9, 3}, flatOf(second())...)...))
	took(t, "another one", u, 4, 9, second())
}

// P12.2: older than the copy, newer, the same, by epoch and by count

func TestHearInOrder(t *testing.T) {
	for _, x := range []struct {
		epoch, count int
		newer        bool
	}{
		{4, 10, false}, {4, 9, false}, {4, 11, true}, {4, 0, false}, {4, -1, false}, {4, math.MaxInt, true}, {4, math.MinInt, false},
		{3, 9, false}, {3, 10, false}, {3, 11, false}, {3, math.MaxInt, false}, {-4, 10, false}, {math.MinInt, math.MaxInt, false},
		{5, 10, true}, {5, 9, true}, {5, 0, true}, {5, 11, true}, {5, math.MinInt, true}, {math.MaxInt - 1, math.MinInt, true},
	} {
		u := made(t)
		hear(u, 4, 10, first())
		hear(u, x.epoch, x.count, second())
		if x.newer {
			took(t, "newer", u, x.epoch, x.count, second())
		} else {
			took(t, "not newer", u, 4, 10, first())
		}
	}
}

// Each is held against the copy, not against what was refused.
func TestHearMany(t *testing.T) {
	u := made(t)
	for _, x := range []heard{
		{4, 10, first()}, {4, 12, wrongRoutes()[4]}, {9, 9, nil}, {3, 99, second()}, {4, 11, second()}, {4, 11, first()}, {4, 10, first()},
	} {
		hear(u, x.epoch, x.count, x.routes)
	}
	took(t, "many", u, 4, 11, second())
}

// P12.2: only a Standby hears

func TestHearOfNoStandby(t *testing.T) {
	for what, u := range map[string]*unit.Unit{"Active": active(t, first()), "Forced": forced(t), "Boot": booting(t), "Down": down(t)} {
		mode, count, l := u.Mode(), u.Count(), u.Routes()
		hear(u, 1, 50, second())
		hear(u, 2, 50, second())
		hear(u, 3, 50, second())
		is(t, what, u, mode, count, l)
		u.Start()
		tick(u, 5)
		is(t, what+", that stands by now", u, api.Standby, count, idle())
		u.Granted(4, 50)
		is(t, what+", that stands by now", u, api.Forced, 50, idle())
	}
}

// What was Active, or was Forced, hears again as soon as it stands by.
func TestHearAgain(t *testing.T) {
	for what, u := range map[string]*unit.Unit{"Active": active(t, first()), "Forced": forced(t), "Boot": booting(t)} {
		tick(u, 5)
		hear(u, 3, 50, second())
		took(t, what, u, 3, 50, second())
	}
	u := active(t, first())
	u.Yield()
	hear(u, 1, 4, second())
	took(t, "Yield", u, 1, 4, second())
}

// P12.3: a Standby with a copy

func TestTakeOver(t *testing.T) {
	for _, x := range []struct {
		epoch, last int
		over        bool
	}{
		{6, 10, false}, {5, 10, true}, {4, 10, false}, {3, 10, false}, {1, 10, false}, {0, 10, false}, {-4, 10, false},
		{5, 11, false}, {5, 9, true}, {5, 0, true}, {5, -1, true}, {5, math.MinInt, true}, {5, math.MaxInt, false}, {6, 9, false}, {4, 9, false},
		{math.MaxInt, 10, false}, {math.MinInt, 10, false},
	} {
		u := made(t)
		hear(u, 4, 10, first())
		u.Granted(x.epoch, x.last)
		if x.over {
			is(t, "it takes over", u, api.Active, 10, first())
			sends(t, "it takes over", u, heard{x.epoch, 10, first()})
		} else {
			is(t, "it does not", u, api.Forced, x.last, idle())
		}
	}
}

// One less is that of whole numbers: nothing is behind the greatest.
func TestTakeOverDoesNotWrap(t *testing.T) {
	for _, x := range []struct {
		copied, granted int
		over            bool
	}{
		{math.MaxInt, math.MinInt, false}, {math.MaxInt, math.MaxInt, false}, {math.MaxInt - 1, math.MaxInt, true},
		{math.MinInt, math.MaxInt, false}, {math.MinInt, math.MinInt, false}, {math.MinInt, math.MinInt + 1, true}, {-1, 0, true}, {0, -1, false},
	} {
		u := made(t)
		hear(u, x.copied, 10, first())
		u.Granted(x.granted, 10)
		if (u.Mode() == api.Active) != x.over {
			t.Errorf("a copy of %d, granted %d: mode %d", x.copied, x.granted, u.Mode())
		}
	}
}

// The copy is used up, whether it took over with it or not.
func TestCopyIsUsedUp(t *testing.T) {
	u := made(t)
	hear(u, 4, 10, first())
	u.Granted(5, 10)
	tick(u, 5)
	hasNone(t, "it took over", u, 4)
	v := made(t)
	hear(v, 4, 10, first())
	v.Granted(9, 10)
	tick(v, 5)
	hasNone(t, "it was forced", v, 4)
	w := made(t)
	hear(w, 4, 10, first())
	w.Granted(9, 10)
	w.Granted(5, 10)
	is(t, "another epoch while it is forced", w, api.Forced, 10, idle())
	// what is older than a copy that is used up is heard
	tick(w, 5)
	hear(w, 1, 1, second())
	took(t, "older", w, 1, 1, second())
}

// A grant counts from the tick in which it comes.
func TestGrantRenews(t *testing.T) {
	u := active(t, first())
	for range 20 {
		tick(u, 4)
		u.Granted(2, 77)
		is(t, "renewed", u, api.Active, 5, first())
	}
	tick(u, 4)
	is(t, "its last tick", u, api.Active, 5, first())
	tick(u, 1)
	is(t, "behind it", u, api.Standby, 5, idle())
	v := forced(t)
	for range 20 {
		tick(v, 4)
		v.Granted(2, 77)
		is(t, "renewed", v, api.Forced, 7, idle())
	}
	tick(v, 5)
	is(t, "behind it", v, api.Standby, 7, idle())
}

// P12.3: another epoch, of one that is Active, and of one that is Forced

func TestGrantOfAnotherEpoch(t *testing.T) {
	for _, epoch := range []int{3, 1, 0, -2, 4, math.MaxInt, math.MinInt} {
		u := active(t, first())
		tick(u, 4)
		u.Granted(epoch, 40)
		is(t, "active", u, api.Forced, 40, idle())
		tick(u, 4)
		is(t, "its lease is new", u, api.Forced, 40, idle())
		forceThrough(t, u, 40)
		sends(t, "active again", u, heard{epoch, 50, idle()})
		v := forced(t)
		tick(v, 4)
		for range 9 {
			v.Cycle(field(nor), true, nil)
		}
		v.Granted(epoch, 40)
		is(t, "forced", v, api.Forced, 40, idle())
		tick(v, 4)
		forceThrough(t, v, 40)
		sends(t, "active at last", v, heard{epoch, 50, idle()})
	}
}

// Forced by its own epoch it goes on as it is: last does not matter.
func TestGrantOfItsOwnEpoch(t *testing.T) {
	u := forced(t)
	for i := range 9 {
		u.Granted(2, 1000+i)
		u.Cycle(field(nor), true, nil)
		is(t, "forced", u, api.Forced, 8+i, idle())
	}
	u.Granted(2, 0)
	u.Cycle(field(nor), true, nil)
	is(t, "forced no more", u, api.Active, 17, idle())
	u.Cycle(field(nor), true, []api.Cmd{call(0)})
	u.Granted(2, 0)
	is(t, "active", u, api.Active, 18, routes(2, 0, 0))
}

// Epoch 0 is one as any other, though a lease that nobody granted tells it, too.
func TestEpochZero(t *testing.T) {
	u := made(t)
	u.Granted(0, 3)
	forceThrough(t, u, 3)
	u.Granted(0, 8)
	is(t, "renewed", u, api.Active, 13, idle())
	sends(t, "renewed", u, heard{0, 13, idle()})
}

// forceThrough is the Cycles of one that was just forced, to the one behind which it is Active.
func forceThrough(t *testing.T, u *unit.Unit, count int) {
	t.Helper()
	for i := range 10 {
		is(t, "forced", u, api.Forced, count+i, idle())
		tells(t, "forced", u.Cycle(field(nor), true, []api.Cmd{call(0)}), 0, false, false)
	}
	is(t, "forced no more", u, api.Active, count+10, idle())
}
