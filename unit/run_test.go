package unit_test

import (
	"math"
	"slices"
	"testing"

	"pointsman/api"
	"pointsman/lock"
	"pointsman/unit"
)

// P12.4: a Forced one

func TestForced(t *testing.T) {
	forceThrough(t, forced(t), 7)
	// whether it is connected does not matter, nor what the field tells
	u := forced(t)
	for i, in := range []api.In{field(nor), field(rev, 0), {}, field(nor, 0, 1, 2), field(9), field(nor), {Lies: []int{1}}, field(0), field(nor)} {
		tells(t, "forced", u.Cycle(in, i%3 == 0, []api.Cmd{call(0), call(2)}), 0, false, false)
		is(t, "forced", u, api.Forced, 8+i, idle())
	}
	tells(t, "the last one", u.Cycle(field(nor), true, []api.Cmd{call(0)}), 0, false, false)
	is(t, "the last one", u, api.Active, 17, idle())
	tells(t, "the next one", u.Cycle(field(nor), true, []api.Cmd{call(0)}), 0, true, false)
	is(t, "the next one", u, api.Active, 18, routes(2, 0, 0))
}

// One that ceased to be Forced ahead of its end begins anew.
func TestForcedTwice(t *testing.T) {
	u := forced(t)
	for range 9 {
		u.Cycle(field(nor), true, nil)
	}
	tick(u, 5)
	u.Granted(2, 20)
	forceThrough(t, u, 20)
	v := forced(t)
	for range 9 {
		v.Cycle(field(nor), true, nil)
	}
	v.Crash()
	v.Start()
	tick(v, 3)
	v.Granted(2, 20)
	forceThrough(t, v, 20)
}

// P12.4: an Active one that is connected tells what its Lock tells

func TestActive(t *testing.T) {
	u := active(t, idle())
	tells(t, "called", u.Cycle(field(rev), true, []api.Cmd{call(0)}), nor, false, false)
	is(t, "called", u, api.Active, 6, []api.RouteState{{Mode: 1, Timer: 1}, {}, {}})
	tells(t, "driven", u.Cycle(field(0), true, nil), nor, false, false)
	tells(t, "it lies", u.Cycle(field(nor), true, []api.Cmd{}), 0, true, false)
	is(t, "it lies", u, api.Active, 8, routes(2, 0, 0))
	tells(t, "another one", u.Cycle(field(nor), true, []api.Cmd{call(2)}), 0, true, true)
	tells(t, "a train", u.Cycle(field(nor, 0), true, nil), 0, false, true)
	is(t, "a train", u, api.Active, 10, []api.RouteState{{Mode: 3, Seen: true}, {}, {Mode: 2}})
}

// Commands are done in their order, and one that is refused does not keep the next ones.
func TestCommands(t *testing.T) {
	for _, x := range []struct {
		l    []api.Cmd
		want []api.RouteState
	}{
		{nil, routes(2, 0, 0)},
		{[]api.Cmd{}, routes(2, 0, 0)},
		{[]api.Cmd{cancel(0)}, []api.RouteState{{Mode: 4, Timer: 1}, {}, {}}},
		{[]api.Cmd{cancel(0), cancel(0), cancel(0)}, []api.RouteState{{Mode: 4, Timer: 1}, {}, {}}},
		{[]api.Cmd{call(0), call(1), cancel(2), call(2)}, routes(2, 0, 2)},
		{[]api.Cmd{call(2), cancel(2)}, routes(2, 0, 0)},
		{[]api.Cmd{cancel(2), call(2)}, routes(2, 0, 2)},
		{[]api.Cmd{{}, {Kind: 9}, call(-1), call(3), {Kind: -1, Route: 2}, call(2), {Kind: 3}}, routes(2, 0, 2)},
	} {
		u := active(t, routes(2, 0, 0))
		u.Cycle(field(nor), true, x.l)
		if !slices.Equal(u.Routes(), x.want) || u.Count() != 6 {
			t.Errorf("%v: %v, %d; want %v", x.l, u.Routes(), u.Count(), x.want)
		}
	}
}

// P12.4: while it is not connected nothing is commanded, and nothing told; its Lock goes on

func TestNotConnected(t *testing.T) {
	u := active(t, routes(2, 0, 0))
	tells(t, "a way that is clear", u.Cycle(field(nor), false, []api.Cmd{cancel(0), call(2)}), 0, false, false)
	is(t, "a way that is clear", u, api.Active, 6, routes(2, 0, 0))
	tells(t, "a train", u.Cycle(field(nor, 0), false, []api.Cmd{call(2)}), 0, false, false)
	is(t, "a train", u, api.Active, 7, []api.RouteState{{Mode: 3, Seen: true}, {}, {}})
	tells(t, "connected", u.Cycle(field(nor, 0), true, []api.Cmd{call(2)}), 0, false, true)
	is(t, "connected", u, api.Active, 8, []api.RouteState{{Mode: 3, Seen: true}, {}, {Mode: 2}})
	v := active(t, routes(1, 0, 0))
	for i := range 8 {
		tells(t, "a point to be driven", v.Cycle(field(rev), false, nil), 0, false, false)
		is(t, "a point to be driven", v, api.Active, 6+i, []api.RouteState{{Mode: 1, Timer: 1 + i}, {}, {}})
	}
	v.Cycle(field(rev), false, nil)
	is(t, "given up", v, api.Active, 14, idle())
}

// An in that may not be is a cycle in which nothing happens.
func TestNoIn(t *testing.T) {
	for _, in := range []api.In{{}, {Occupied: make([]bool, 3)}, {Lies: []int{1}}, {Occupied: make([]bool, 4), Lies: []int{1}}, field(3), field(-1)} {
		for _, connected := range []bool{true, false} {
			u := active(t, []api.RouteState{{Mode: 4, Timer: 5}, {}, {}})
			tells(t, "no in", u.Cycle(in, connected, []api.Cmd{call(2)}), 0, false, false)
			is(t, "no in", u, api.Active, 6, []api.RouteState{{Mode: 4, Timer: 5}, {}, {}})
		}
	}
}

// It tells what a Lock alone tells that meets the same, however it came to be Active.
func TestAsALock(t *testing.T) {
	d := dice(5)
	k, _ := lock.New(junction())
	u := made(t)
	u.Granted(1, 0)
	for range 10 {
		u.Cycle(d.in(), true, d.commands())
	}
	for i := range 20000 {
		in, l := d.in(), d.commands()
		for _, c := range l {
			k.Command(in, c)
		}
		got, want := u.Cycle(in, true, l), k.Cycle(in)
		if !isOut(got, want) || !slices.Equal(u.Routes(), k.Routes()) || u.Count() != 11+i {
			t.Fatalf("%d: told %v, %v; want %v, %v", i, got, u.Routes(), want, k.Routes())
		}
	}
}

// P12.4: Cycle of all others

func TestCycleOfOthers(t *testing.T) {
	for what, u := range map[string]*unit.Unit{"Standby": made(t), "Boot": booting(t), "Down": down(t)} {
		mode := u.Mode()
		for range 30 {
			for _, connected := range []bool{true, false} {
				tells(t, what, u.Cycle(field(nor), connected, []api.Cmd{call(0), call(2)}), 0, false, false)
				tells(t, what, u.Cycle(api.In{}, connected, nil), 0, false, false)
				is(t, what, u, mode, 0, idle())
			}
		}
	}
}

// P12.4: the last tick of a lease, and the one behind it

func TestCycleInTheLastTick(t *testing.T) {
	u := active(t, routes(2, 0, 0))
	tick(u, 4)
	tells(t, "its last tick", u.Cycle(field(nor), true, nil), 0, true, false)
	is(t, "its last tick", u, api.Active, 6, routes(2, 0, 0))
	tick(u, 1)
	tells(t, "behind it", u.Cycle(field(nor), true, nil), 0, false, false)
	is(t, "behind it", u, api.Standby, 6, idle())
}

// P12.4: 2^63 - 1 cycles stay that

func TestGreatestCount(t *testing.T) {
	u := made(t)
	hear(u, 1, math.MaxInt-2, routes(2, 0, 0))
	u.Granted(2, 5)
	for _, want := range []int{math.MaxInt - 1, math.MaxInt, math.MaxInt, math.MaxInt} {
		tells(t, "active", u.Cycle(field(nor), want%2 == 0, nil), 0, want%2 == 0, false)
		is(t, "active", u, api.Active, want, routes(2, 0, 0))
		sends(t, "active", u, heard{2, want, routes(2, 0, 0)})
	}
	v := made(t)
	v.Granted(2, math.MaxInt-5)
	for i := range 9 {
		v.Cycle(field(nor), true, nil)
		is(t, "forced", v, api.Forced, math.MaxInt-5+min(5, i+1), idle())
	}
	v.Cycle(field(nor), true, nil)
	is(t, "forced", v, api.Active, math.MaxInt, idle())
	// what another one told of the greatest is a copy as any other
	w := made(t)
	w.Hear(v.Send())
	w.Granted(3, math.MaxInt)
	is(t, "taken over", w, api.Active, math.MaxInt, idle())
}

func TestCountBelowNought(t *testing.T) {
	u := made(t)
	u.Granted(1, -4)
	forceThrough(t, u, -4)
	v := made(t)
	hear(v, 1, -2, idle())
	v.Granted(2, -3)
	for i := range 4 {
		is(t, "active", v, api.Active, i-2, idle())
		v.Cycle(field(nor), true, nil)
	}
}

// What follows: two units, of which one is granted the field, is forced, is Active and sends; the other one hears it,
// and takes over when the first one yields, or crashes.

func TestHandedOver(t *testing.T) {
	for _, crash := range []bool{false, true} {
		a, b := made(t), made(t)
		a.Granted(1, 0)
		forceThrough(t, a, 0)
		count := 10
		for _, in := range []api.In{field(rev), field(0), field(nor), field(nor, 0)} {
			a.Granted(1, count)
			a.Cycle(in, true, []api.Cmd{call(0)})
			b.Cycle(in, false, []api.Cmd{call(0)})
			b.Hear(a.Send())
			count++
		}
		stands := []api.RouteState{{Mode: 3, Seen: true}, {}, {}}
		is(t, "the first one", a, api.Active, 14, stands)
		is(t, "the other one", b, api.Standby, 0, idle())
		if crash {
			a.Crash()
		} else if !a.Yield() {
			t.Error("the first one does not yield")
		}
		b.Granted(2, 14)
		is(t, "the other one goes on", b, api.Active, 14, stands)
		tells(t, "the other one goes on", b.Cycle(field(nor, 1), true, []api.Cmd{call(2)}), 0, false, true)
		is(t, "the other one goes on", b, api.Active, 15, []api.RouteState{{Mode: 3, Gone: 1}, {}, {Mode: 2}})
		if crash {
			start(t, "the first one", a, api.OK)
			tick(a, 3)
		}
		a.Hear(b.Send())
		b.Cycle(field(nor, 1), true, nil)
		// it lost the last telegram, and so it does not know enough
		a.Granted(3, 16)
		is(t, "the first one again", a, api.Forced, 16, idle())
		a.Granted(4, 2)
		forceThrough(t, a, 2)
	}
}
