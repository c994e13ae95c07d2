package unit_test

import (
	"fmt"
	"math"
	"testing"

	"pointsman/api"
	"pointsman/unit"
)

// field is what junction's field tells, with trains in some sections.
func field(lies int, trains ...int) api.In {
	in := api.In{Occupied: make([]bool, 3), Lies: []int{lies}}
	for _, section := range trains {
		in.Occupied[section] = true
	}
	return in
}

const nor, rev = api.Normal, api.Reverse

func call(r int) api.Cmd   { return api.Cmd{Kind: api.CmdCall, Route: r} }
func cancel(r int) api.Cmd { return api.Cmd{Kind: api.CmdCancel, Route: r} }

// routes is junction's routes, all in these modes and else as at first.
func routes(x, y, z int) []api.RouteState {
	return []api.RouteState{{Mode: x}, {Mode: y}, {Mode: z}}
}

// The things that are done with a unit, each with the book beside it.

func doCrash() act {
	return act{"Crash", func(t *testing.T, u *unit.Unit, b *book) { u.Crash(); b.crash() }}
}

func doStart() act {
	return act{"Start", func(t *testing.T, u *unit.Unit, b *book) {
		if got, want := u.Start(), b.start(); got != want {
			t.Fatalf("Start() = %v; want %v", got, want)
		}
	}}
}

func doTick(times int) act {
	return act{fmt.Sprint("Tick * ", times), func(t *testing.T, u *unit.Unit, b *book) {
		for range times {
			u.Tick(false)
			b.tick()
		}
	}}
}

func doSlow() act {
	return act{"slow Tick", func(t *testing.T, u *unit.Unit, b *book) { u.Tick(true) }}
}

func doHear(epoch, count int, l []api.RouteState) act {
	h := heard{epoch, count, l}
	return act{fmt.Sprint("Hear ", h), func(t *testing.T, u *unit.Unit, b *book) {
		u.Hear(h.telegram())
		b.hear(h)
	}}
}

func doGranted(epoch, last int) act {
	return act{fmt.Sprintf("Granted(%d, %d)", epoch, last), func(t *testing.T, u *unit.Unit, b *book) {
		u.Granted(epoch, last)
		b.granted(epoch, last)
	}}
}

func doCycle(times int, in api.In, connected bool, l ...api.Cmd) act {
	return act{fmt.Sprint("Cycle * ", times, in, connected, l), func(t *testing.T, u *unit.Unit, b *book) {
		for range times {
			mode := u.Mode()
			got, want := u.Cycle(in, connected, l), b.cycle(in, connected, l)
			if !isOut(got, want) {
				t.Fatalf("Cycle(%v, %v, %v) = %v; want %v", in, connected, l, got, want)
			}
			if !isSafe(got, 1, 2) && (mode != api.Active || !connected) {
				t.Fatalf("in mode %d, connected %v: told %v", mode, connected, got)
			}
		}
	}}
}

func doYield() act {
	return act{"Yield", func(t *testing.T, u *unit.Unit, b *book) {
		if got, want := u.Yield(), b.yield(); got != want {
			t.Fatalf("Yield() = %v; want %v", got, want)
		}
	}}
}

// acts is all that may happen in a short course.
func acts() course {
	return course{
		doCrash(), doStart(), doSlow(), doTick(1), doTick(2), doTick(4), doYield(),
		doHear(1, 5, routes(2, 0, 0)), doHear(1, 4, routes(0, 0, 1)), doHear(1, 6, routes(0, 1, 0)), doHear(2, 0, routes(4, 0, 2)),
		doGranted(1, 0), doGranted(2, 5), doGranted(2, 6), doGranted(3, -1),
		doCycle(1, field(nor), true, call(0), call(2)), doCycle(1, field(nor, 0), false, call(2)), doCycle(9, field(rev, 2), true, cancel(0)),
	}
}

// starts are courses behind which a unit stands in all kinds of ways.
func starts() []course {
	active := course{doHear(1, 5, routes(2, 0, 0)), doGranted(2, 5)}
	return []course{
		{},
		{doCrash()},
		{doTick(9), doCrash(), doStart()},
		{doCrash(), doStart(), doTick(2)},
		{doHear(1, 5, routes(2, 0, 0))},
		{doGranted(1, 7)},
		{doTick(3), doGranted(2, 7), doCycle(9, field(nor), true), doTick(4)},
		active,
		append(active[:2:2], doTick(4), doSlow()),
		append(active[:2:2], doTick(5)),
		{doHear(0, math.MaxInt-1, routes(0, 2, 0)), doGranted(1, math.MaxInt-1), doCycle(1, field(rev, 0), true)},
	}
}

// P12.1 to P12.6: all that can happen in three turns, behind each of the starts

func TestEveryCourse(t *testing.T) {
	for _, start := range starts() {
		every(len(acts()), 3, func(row []int) {
			u, b := made(t), bookOf(junction())
			c := start[:len(start):len(start)]
			for _, n := range row {
				c = append(c, acts()[n])
			}
			c.happen(t, u, b)
		})
	}
}
