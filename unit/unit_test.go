package unit_test

import (
	"slices"
	"testing"

	"pointsman/api"
	"pointsman/unit"
)

func made(t *testing.T) *unit.Unit {
	t.Helper()
	u, e := unit.New(junction())
	if e != api.OK || u == nil {
		t.Fatalf("New = %v, %v", u, e)
	}
	return u
}

// active is one that took over in epoch 2 with 5 as its count.
func active(t *testing.T, l []api.RouteState) *unit.Unit {
	t.Helper()
	u := made(t)
	hear(u, 1, 5, l)
	u.Granted(2, 5)
	is(t, "active", u, api.Active, 5, l)
	return u
}

// forced is one that was granted epoch 2, with 7 as the last count.
func forced(t *testing.T) *unit.Unit {
	t.Helper()
	u := made(t)
	u.Granted(2, 7)
	is(t, "forced", u, api.Forced, 7, idle())
	return u
}

// down is one that crashed.
func down(t *testing.T) *unit.Unit {
	t.Helper()
	u := made(t)
	u.Crash()
	is(t, "down", u, api.Down, 0, idle())
	return u
}

// booting is one that crashed and was started.
func booting(t *testing.T) *unit.Unit {
	t.Helper()
	u := down(t)
	start(t, "booting", u, api.OK)
	is(t, "booting", u, api.Boot, 0, idle())
	return u
}

func hear(u *unit.Unit, epoch, count int, l []api.RouteState) {
	u.Hear(heard{epoch, count, l}.telegram())
}

func start(t *testing.T, what string, u *unit.Unit, want api.Errno) {
	t.Helper()
	if e := u.Start(); e != want {
		t.Errorf("%s: Start() = %v; want %v", what, e, want)
	}
}

func tick(u *unit.Unit, times int) {
	for range times {
		u.Tick(false)
	}
}

func idle() []api.RouteState { return routes(0, 0, 0) }

// is holds what is told at any time; only one that is Active sends.
func is(t *testing.T, what string, u *unit.Unit, mode, count int, l []api.RouteState) {
	t.Helper()
	if u.Mode() != mode || u.Count() != count || !slices.Equal(u.Routes(), l) {
		t.Errorf("%s: %d, %d, %v; want %d, %d, %v", what, u.Mode(), u.Count(), u.Routes(), mode, count, l)
	}
	if s := u.Send(); mode != api.Active && len(s) != 0 {
		t.Errorf("%s: Send = %x", what, s)
	}
}

func sends(t *testing.T, what string, u *unit.Unit, want heard) {
	t.Helper()
	if s := u.Send(); string(s) != string(want.telegram()) {
		t.Errorf("%s: Send = %x; want %x", what, s, want.telegram())
	}
}

// tells holds what a Cycle answers.
func tells(t *testing.T, what string, o api.Out, drive int, s, u bool) {
	t.Helper()
	if !isOut(o, api.Out{Drive: []int{drive}, Proceed: []bool{s, u}}) {
		t.Errorf("%s: told %v; want %v, %v, %v", what, o, drive, s, u)
	}
}

// The chapter's example, and the numbers that these tests say

func TestExample(t *testing.T) {
	u := made(t)
	u.Granted(1, 0)
	is(t, "New, Granted(1, 0)", u, api.Forced, 0, idle())
	if api.Down != 0 || api.Boot != 1 || api.Standby != 2 || api.Active != 3 || api.Forced != 4 {
		t.Error("modes of units are others than these tests say")
	}
	if api.BootTime != 3 || api.ForceTime != 10 || api.LeaseTime-api.Margin != 5 {
		t.Error("times are others than these tests say")
	}
}

// P12.1: New

func TestNew(t *testing.T) {
	u := made(t)
	is(t, "new", u, api.Standby, 0, idle())
	start(t, "new", u, api.ErrState)
	if u.Yield() {
		t.Error("a new one yields")
	}
	tells(t, "new", u.Cycle(field(nor), true, []api.Cmd{call(0)}), 0, false, false)
	is(t, "new", u, api.Standby, 0, idle())
}

// Without a copy: not even with one of epoch 0 and count 0.
func TestNewHasNoCopy(t *testing.T) {
	for _, x := range [][2]int{{1, 0}, {1, -1}, {0, 0}, {0, -9}, {2, 0}} {
		u := made(t)
		u.Granted(x[0], x[1])
		is(t, "without a copy", u, api.Forced, x[1], idle())
	}
}

func TestNewOfNoLayout(t *testing.T) {
	for what, spoil := range map[string]func(l *api.Layout){
		"nothing":           func(l *api.Layout) { *l = api.Layout{} },
		"no section":        func(l *api.Layout) { l.Sections = nil },
		"no signal":         func(l *api.Layout) { l.Signals = []string{} },
		"a name twice":      func(l *api.Layout) { l.Sections[1] = "a" },
		"a point nowhere":   func(l *api.Layout) { l.Points[0].Section = 3 },
		"a way of nothing":  func(l *api.Layout) { l.Routes[2].Path = nil },
		"a way of a loop":   func(l *api.Layout) { l.Routes[0].To = 0 },
		"a point forgotten": func(l *api.Layout) { l.Routes[0].Points = nil },
		"too many routes": func(l *api.Layout) {
			for _, name := range []string{"k", "l", "m", "n"} {
				l.Routes = append(l.Routes, api.Route{Name: name, From: 1, Path: []int{2}})
			}
		},
	} {
		l := junction()
		spoil(&l)
		if u, e := unit.New(l); u != nil || e != api.ErrPlan {
			t.Errorf("%s: New = %v, %v", what, u, e)
		}
	}
}

// least is a unit of the least layout of all: it has no routes and no points.
func least(t *testing.T) *unit.Unit {
	t.Helper()
	u, e := unit.New(api.Layout{Sections: []string{"a"}, Signals: []string{"S"}})
	if e != api.OK {
		t.Fatal(e)
	}
	return u
}

func TestNewOfLeastLayout(t *testing.T) {
	u := least(t)
	in := api.In{Occupied: []bool{false}}
	hear(u, 1, 5, idle())
	hear(u, 1, 4, nil)
	u.Granted(2, 4)
	is(t, "the least", u, api.Active, 4, nil)
	sends(t, "the least", u, heard{2, 4, nil})
	for i := range 4 {
		if o := u.Cycle(in, true, []api.Cmd{call(0)}); !isSafe(o, 0, 1) {
			t.Errorf("told %v", o)
		}
		is(t, "the least", u, api.Active, 5+i, nil)
	}
}

// What is no telegram is no copy of no routes, either.
func TestLeastLayoutHearsNoTelegram(t *testing.T) {
	for _, b := range append(noTelegrams(0, 0), spoilt(heard{0, 0, nil}.telegram())...) {
		u := least(t)
		u.Hear(b)
		u.Granted(1, 0)
		is(t, "no telegram", u, api.Forced, 0, nil)
	}
}

// The greatest layout of all has as many routes as may be: all of them find room in what it sends.
func TestNewOfMostRoutes(t *testing.T) {
	l := junction()
	for _, name := range []string{"k", "l", "m"} {
		l.Routes = append(l.Routes, api.Route{Name: name, From: 1, Path: []int{2}})
	}
	u, e := unit.New(l)
	if e != api.OK {
		t.Fatal(e)
	}
	stand := append(routes(1, 0, 0), api.RouteState{Mode: 4, Timer: 5}, api.RouteState{}, api.RouteState{})
	hear(u, 8, 9, stand)
	u.Granted(9, 9)
	is(t, "the greatest", u, api.Active, 9, stand)
	sends(t, "the greatest", u, heard{9, 9, stand})
}

// P12.1: Crash

func TestCrash(t *testing.T) {
	copied := made(t)
	hear(copied, 1, 5, routes(2, 0, 0))
	for what, u := range map[string]*unit.Unit{
		"Standby": made(t), "a copy": copied, "Boot": booting(t), "Active": active(t, routes(2, 0, 2)), "Forced": forced(t), "Down": down(t),
	} {
		tick(u, 2)
		for range 2 {
			u.Crash()
			is(t, what, u, api.Down, 0, idle())
			tells(t, what, u.Cycle(field(nor), true, []api.Cmd{call(0)}), 0, false, false)
			if u.Yield() {
				t.Errorf("%s: what is Down yields", what)
			}
			is(t, what, u, api.Down, 0, idle())
		}
		start(t, what, u, api.OK)
		tick(u, 2)
		is(t, what, u, api.Boot, 0, idle())
		tick(u, 1)
		is(t, what, u, api.Standby, 0, idle())
		tells(t, what, u.Cycle(field(nor), true, []api.Cmd{call(0)}), 0, false, false)
		u.Granted(2, 3)
		is(t, what+": no copy, no lease", u, api.Forced, 3, idle())
	}
}

// What is Down hears nothing, is granted nothing, and has no clock.
func TestDown(t *testing.T) {
	u := down(t)
	hear(u, 1, 5, routes(2, 0, 0))
	u.Granted(1, 4)
	u.Granted(2, 5)
	tick(u, 50)
	is(t, "down", u, api.Down, 0, idle())
	start(t, "down", u, api.OK)
	tick(u, 2)
	is(t, "its clock stood still", u, api.Boot, 0, idle())
	tick(u, 1)
	u.Granted(2, 5)
	is(t, "what it did not hear", u, api.Forced, 5, idle())
}

// P12.1: Start

func TestStartOfWhatIsNotDown(t *testing.T) {
	for what, u := range map[string]*unit.Unit{"Standby": made(t), "Boot": booting(t), "Active": active(t, routes(2, 0, 2)), "Forced": forced(t)} {
		mode, count, l := u.Mode(), u.Count(), u.Routes()
		for range 3 {
			start(t, what, u, api.ErrState)
			is(t, what, u, mode, count, l)
		}
	}
}

// A Start in vain does not set the clock.
func TestStartInVain(t *testing.T) {
	u := booting(t)
	tick(u, 2)
	start(t, "boot", u, api.ErrState)
	tick(u, 1)
	is(t, "boot", u, api.Standby, 0, idle())
	v := active(t, routes(2, 0, 2))
	tick(v, 4)
	start(t, "active", v, api.ErrState)
	tick(v, 1)
	is(t, "active", v, api.Standby, 5, idle())
}

// P12.1: Tick of a Boot one

func TestBoot(t *testing.T) {
	u := booting(t)
	for _, x := range []struct {
		slow bool
		want int
	}{{true, 1}, {false, 1}, {true, 1}, {true, 1}, {false, 1}, {true, 1}, {true, 1}, {false, 2}, {false, 2}, {true, 2}, {false, 2}} {
		u.Tick(x.slow)
		is(t, "boot", u, x.want, 0, idle())
	}
}

// However long it ran ahead of it, and however often it crashes meanwhile.
func TestBootAgain(t *testing.T) {
	u := made(t)
	tick(u, 1000)
	is(t, "a long time", u, api.Standby, 0, idle())
	for ticks := range 6 {
		u.Crash()
		tick(u, ticks)
		start(t, "again", u, api.OK)
		for i := range ticks {
			is(t, "again", u, []int{1, 1, 1, 2, 2, 2}[i], 0, idle())
			u.Tick(false)
		}
		is(t, "again", u, []int{1, 1, 1, 2, 2, 2}[ticks], 0, idle())
	}
}

// A Boot one hears nothing, is granted nothing, does nothing.
func TestBootIsDeaf(t *testing.T) {
	u := booting(t)
	for range 3 {
		hear(u, 1, 5, routes(2, 0, 0))
		u.Granted(1, 4)
		u.Granted(2, 5)
		tells(t, "boot", u.Cycle(field(nor), true, []api.Cmd{call(0)}), 0, false, false)
		is(t, "boot", u, api.Boot, 0, idle())
		if u.Yield() {
			t.Error("a Boot one yields")
		}
		u.Tick(false)
	}
	tells(t, "booted", u.Cycle(field(nor), true, []api.Cmd{call(0)}), 0, false, false)
	is(t, "booted", u, api.Standby, 0, idle())
	u.Granted(2, 5)
	is(t, "booted", u, api.Forced, 5, idle())
}

// P12.1: Tick of an Active and of a Forced one

func TestLease(t *testing.T) {
	for _, ahead := range []int{0, 1, 4, 5, 100} {
		for what, l := range map[string][]api.RouteState{"Active": routes(2, 0, 2), "Forced": idle()} {
			u, mode, count := made(t), api.Forced, 3
			tick(u, ahead)
			if what == "Active" {
				hear(u, 1, 5, l)
				mode, count = api.Active, 5
			}
			u.Granted(2, 3)
			for range 4 {
				tick(u, 1)
				is(t, what, u, mode, count, l)
				u.Tick(true)
				u.Tick(true)
				is(t, what+", slow", u, mode, count, l)
			}
			tick(u, 1)
			is(t, what+", its lease is over", u, api.Standby, count, idle())
			tells(t, what, u.Cycle(field(nor), true, []api.Cmd{call(0)}), 0, false, false)
			if u.Yield() {
				t.Errorf("%s: it yields what it has no more", what)
			}
			u.Granted(3, count)
			is(t, what+", no copy", u, api.Forced, count, idle())
		}
	}
}

// Granted the same epoch again behind its lease it begins anew.
func TestLeaseIsDropped(t *testing.T) {
	u := active(t, routes(2, 0, 0))
	tick(u, 5)
	u.Granted(2, 1)
	is(t, "the same epoch", u, api.Forced, 1, idle())
	v := forced(t)
	for range 9 {
		v.Cycle(field(nor), true, nil)
	}
	tick(v, 5)
	is(t, "forced", v, api.Standby, 16, idle())
	v.Granted(2, 16)
	for range 9 {
		v.Cycle(field(nor), true, nil)
	}
	is(t, "all of it once more", v, api.Forced, 25, idle())
}

// A clock that stands still holds on: it is the relay that does not.
func TestSlow(t *testing.T) {
	u := active(t, routes(2, 0, 0))
	for range 100 {
		u.Tick(true)
	}
	is(t, "slow", u, api.Active, 5, routes(2, 0, 0))
	tick(u, 4)
	is(t, "slow", u, api.Active, 5, routes(2, 0, 0))
	tick(u, 1)
	is(t, "slow no more", u, api.Standby, 5, idle())
}

// P12.5: Yield

func TestYield(t *testing.T) {
	u := active(t, routes(2, 0, 2))
	u.Cycle(field(nor), true, nil)
	if !u.Yield() {
		t.Error("an Active one does not yield")
	}
	is(t, "it yielded", u, api.Standby, 6, idle())
	if u.Yield() {
		t.Error("it yields twice")
	}
	tells(t, "it yielded", u.Cycle(field(nor), true, []api.Cmd{call(0)}), 0, false, false)
	is(t, "it yielded", u, api.Standby, 6, idle())
	v := active(t, routes(2, 0, 2))
	v.Yield()
	v.Granted(3, 5)
	is(t, "without a copy", v, api.Forced, 5, idle())
	w := active(t, routes(2, 0, 2))
	w.Yield()
	hear(w, 0, 2, routes(0, 1, 0))
	w.Granted(1, 2)
	is(t, "with a copy, though an old one", w, api.Active, 2, routes(0, 1, 0))
}

func TestYieldOfWhatIsNotActive(t *testing.T) {
	for what, u := range map[string]*unit.Unit{"Standby": made(t), "Boot": booting(t), "Down": down(t), "Forced": forced(t)} {
		mode, count := u.Mode(), u.Count()
		if u.Yield() {
			t.Errorf("%s yields", what)
		}
		is(t, what, u, mode, count, idle())
	}
	// its copy stays
	u := made(t)
	hear(u, 1, 5, routes(2, 0, 0))
	u.Yield()
	u.Granted(2, 5)
	is(t, "a copy", u, api.Active, 5, routes(2, 0, 0))
	// its lease stays
	v := forced(t)
	v.Yield()
	for range 10 {
		v.Cycle(field(nor), true, nil)
	}
	is(t, "a lease", v, api.Active, 17, idle())
}

// P12.5: Send, by its bytes

func TestSend(t *testing.T) {
	u := made(t)
	hear(u, 0x0102, 0x0304, []api.RouteState{{Mode: 3, Gone: 1, Seen: true}, {}, {Mode: 1, Timer: 8}})
	u.Granted(0x0103, 0)
	want := []byte{16, 2, 5, 's', 't', 'a', 't', 'e'}
	for _, n := range []byte{0, 0, 3, 3, 0, 1, 1, 0, 0, 0, 0, 1, 8, 0, 0} {
		want = append(want, 1, 0, 0, 0, 0, 0, 0, 0, n)
	}
	want[15], want[16] = 1, 3
	want[24], want[25] = 3, 4
	if got := u.Send(); len(got) != 6+len(want) || string(got[6:]) != string(want) || string(got) != string(sealed(want)) {
		t.Errorf("Send = %v; want %v", got, sealed(want))
	}
	if string(u.Send()) != string(u.Send()) {
		t.Error("Send twice is not the same")
	}
	is(t, "it sent", u, api.Active, 0x0304, []api.RouteState{{Mode: 3, Gone: 1, Seen: true}, {}, {Mode: 1, Timer: 8}})
}

// It sends whether it is connected or not, and in each tick of its lease.
func TestSendGoesOn(t *testing.T) {
	u := active(t, routes(2, 0, 0))
	sends(t, "at once", u, heard{2, 5, routes(2, 0, 0)})
	u.Cycle(field(nor), true, []api.Cmd{call(2)})
	sends(t, "connected", u, heard{2, 6, routes(2, 0, 2)})
	u.Cycle(field(nor), false, nil)
	sends(t, "not connected", u, heard{2, 7, routes(2, 0, 2)})
	tick(u, 4)
	sends(t, "its last tick", u, heard{2, 7, routes(2, 0, 2)})
	u.Granted(2, 99)
	sends(t, "renewed", u, heard{2, 7, routes(2, 0, 2)})
	tick(u, 5)
	is(t, "no more", u, api.Standby, 7, idle())
}

// P12.6: a nil Unit

func TestNil(t *testing.T) {
	var u *unit.Unit
	for range 2 {
		u.Crash()
		start(t, "nil", u, api.ErrState)
		u.Tick(false)
		u.Tick(true)
		u.Hear(heard{1, 5, idle()}.telegram())
		u.Hear(nil)
		u.Granted(1, 0)
		for _, connected := range []bool{true, false} {
			if o := u.Cycle(field(nor), connected, []api.Cmd{call(0)}); len(o.Drive)+len(o.Proceed) != 0 {
				t.Errorf("told %v", o)
			}
		}
		if u.Yield() {
			t.Error("it yields")
		}
		is(t, "nil", u, 0, 0, nil)
	}
}

// W1: a Unit that no New made does not panic, and tells nothing.
func TestZero(t *testing.T) {
	u := &unit.Unit{}
	start(t, "zero", u, api.OK)
	for range 3 {
		u.Tick(false)
		u.Hear(heard{1, 5, nil}.telegram())
		u.Granted(1, 0)
		u.Granted(2, 5)
		u.Send()
		u.Yield()
		if o := u.Cycle(field(nor), true, []api.Cmd{call(0)}); len(o.Drive)+len(o.Proceed)+len(u.Routes()) != 0 {
			t.Errorf("told %v, %v", o, u.Routes())
		}
	}
	u.Crash()
	is(t, "zero", u, api.Down, 0, nil)
}
