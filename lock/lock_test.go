package lock_test

import (
	"math"
	"slices"
	"testing"

	"pointsman/api"
	"pointsman/lock"
)

// fork has two ways out of a: through goes on over b and c and needs W normal in b, and V reverse beside it;
// aside goes over d and needs W reverse beside it; back goes over e, in which V lies, and needs it reverse, and nothing of the others;
// over goes over f alone, and needs W reverse beside it.
func fork() api.Layout {
	return api.Layout{
		Sections: []string{"a", "b", "c", "d", "e", "f"},
		Points:   []api.Point{{Name: "W", Section: 1}, {Name: "V", Section: 4}},
		Signals:  []string{"S", "T", "U", "R"},
		Routes: []api.Route{
			{Name: "through", From: 0, To: 1, Path: []int{0, 1, 2}, Points: []api.Need{normal(0)}, Flank: []api.Need{reverse(1)}},
			{Name: "aside", From: 0, To: 2, Path: []int{0, 3}, Flank: []api.Need{reverse(0)}},
			{Name: "back", From: 1, To: 0, Path: []int{4}, Points: []api.Need{reverse(1)}},
			{Name: "over", From: 2, To: 3, Path: []int{5}, Flank: []api.Need{reverse(0)}},
		},
	}
}

const (
	through = iota
	aside
	back
	over
)

const (
	nowhere = api.Nowhere
	nor     = api.Normal
	rev     = api.Reverse
)

func normal(point int) api.Need  { return api.Need{Point: point} }
func reverse(point int) api.Need { return api.Need{Point: point, Reverse: true} }

func call(r int) api.Cmd   { return api.Cmd{Kind: 1, Route: r} }
func cancel(r int) api.Cmd { return api.Cmd{Kind: 2, Route: r} }

// field is what the fork tells with W and V so, and trains in some sections.
func field(w, v int, trains ...int) api.In {
	in := api.In{Occupied: make([]bool, 6), Lies: []int{w, v}}
	for _, section := range trains {
		in.Occupied[section] = true
	}
	return in
}

func made(t *testing.T, l api.Layout) *lock.Lock {
	t.Helper()
	k, e := lock.New(l)
	if k == nil || e != api.OK {
		t.Fatalf("New = %v, %v", k, e)
	}
	return k
}

func idle(n int) []api.RouteState { return make([]api.RouteState, n) }

// alone is how four routes stand if all but one are Idle.
func alone(r int, s api.RouteState) []api.RouteState {
	l := idle(4)
	l[r] = s
	return l
}

func stand(t *testing.T, k *lock.Lock, l []api.RouteState) {
	t.Helper()
	if !k.Set(l) {
		t.Fatalf("Set(%v) = false", l)
	}
}

func isOut(o api.Out, drive []int, proceed []bool) bool {
	return slices.Equal(o.Drive, drive) && slices.Equal(o.Proceed, proceed)
}

// safe tells whether an answer tells the fork nothing.
func safe(o api.Out) bool {
	return isOut(o, []int{0, 0}, []bool{false, false, false, false})
}

// P5.1: New

func TestNew(t *testing.T) {
	k := made(t, fork())
	if !slices.Equal(k.Routes(), idle(4)) {
		t.Errorf("Routes = %v", k.Routes())
	}
	for section := range 6 {
		if k.Holder(section) != -1 {
			t.Errorf("Holder(%d) = %d", section, k.Holder(section))
		}
	}
	if o := k.Cycle(field(nor, rev)); !safe(o) || !slices.Equal(k.Routes(), idle(4)) {
		t.Errorf("Cycle = %v, Routes = %v", o, k.Routes())
	}
	k = made(t, api.Layout{Sections: []string{"a"}, Signals: []string{"S"}})
	in := api.In{Occupied: []bool{true}}
	if o := k.Cycle(in); len(k.Routes()) != 0 || !isOut(o, nil, []bool{false}) || !k.Set(nil) || !k.Set(idle(0)) || k.Set(idle(1)) || k.Command(in, call(0)) != api.ErrNone {
		t.Error("a layout without routes and points")
	}
}

func TestNewOfNoLayout(t *testing.T) {
	for _, x := range []struct {
		what string
		make func(l *api.Layout)
	}{
		{"no sections", func(l *api.Layout) { l.Sections = nil }},
		{"no signals", func(l *api.Layout) { l.Signals = nil }},
		{"a name twice", func(l *api.Layout) { l.Sections[5] = "a" }},
		{"a name that is none", func(l *api.Layout) { l.Routes[3].Name = "set" }},
		{"a point nowhere", func(l *api.Layout) { l.Points[1].Section = 6 }},
		{"a point below", func(l *api.Layout) { l.Points[1].Section = -1 }},
		{"a path without a section", func(l *api.Layout) { l.Routes[3].Path = nil }},
		{"a path over what is not there", func(l *api.Layout) { l.Routes[2].Path[0] = math.MaxInt }},
		{"a point that is lacking", func(l *api.Layout) { l.Routes[0].Points = nil }},
		{"a flank that is not there", func(l *api.Layout) { l.Routes[3].Flank[0].Point = 2 }},
		{"from and to are one", func(l *api.Layout) { l.Routes[1].To = 0 }},
		{"very many sections", func(l *api.Layout) { l.Sections = make([]string, 1<<20) }},
	} {
		l := fork()
		x.make(&l)
		if k, e := lock.New(l); k != nil || e != api.ErrPlan {
			t.Errorf("%s: New = %v, %v", x.what, k, e)
		}
	}
	if k, e := lock.New(api.Layout{}); k != nil || e != api.ErrPlan {
		t.Errorf("nothing: New = %v, %v", k, e)
	}
}

// MayIn

func wrongIns() []api.In {
	clear := make([]bool, 6)
	return []api.In{
		{},
		{Occupied: clear},
		{Lies: []int{nor, rev}},
		{Occupied: clear[:5], Lies: []int{nor, rev}},
		{Occupied: make([]bool, 7), Lies: []int{nor, rev}},
		{Occupied: make([]bool, 1<<20), Lies: []int{nor, rev}},
		{Occupied: clear, Lies: []int{nor}},
		{Occupied: clear, Lies: []int{nor, rev, nor}},
		{Occupied: clear, Lies: make([]int, 1<<20)},
		{Occupied: clear, Lies: []int{3, rev}},
		{Occupied: clear, Lies: []int{nor, 3}},
		{Occupied: clear, Lies: []int{-1, rev}},
		{Occupied: clear, Lies: []int{nor, -1}},
		{Occupied: clear, Lies: []int{nor, math.MaxInt}},
		{Occupied: clear, Lies: []int{math.MinInt, rev}},
	}
}

func TestMayIn(t *testing.T) {
	for w := -2; w <= 4; w++ {
		for v := -2; v <= 4; v++ {
			want := 0 <= w && w <= 2 && 0 <= v && v <= 2
			if lock.MayIn(fork(), field(w, v)) != want || lock.MayIn(fork(), field(w, v, 0, 1, 2, 3, 4, 5)) != want {
				t.Errorf("points so: %d, %d: MayIn = %v", w, v, !want)
			}
		}
	}
	for _, in := range wrongIns() {
		if lock.MayIn(fork(), in) {
			t.Errorf("%d sections, points so: %.9v: MayIn = true", len(in.Occupied), in.Lies[:min(len(in.Lies), 9)])
		}
	}
	small := api.Layout{Sections: []string{"a"}, Signals: []string{"S"}}
	if !lock.MayIn(small, api.In{Occupied: []bool{true}}) || !lock.MayIn(small, api.In{Occupied: []bool{false}, Lies: []int{}}) || lock.MayIn(small, api.In{Occupied: []bool{true}, Lies: []int{0}}) {
		t.Error("a layout without points")
	}
	if !lock.MayIn(api.Layout{}, api.In{}) || lock.MayIn(api.Layout{}, field(nor, rev)) {
		t.Error("a layout of nothing")
	}
}

// P5.1: Command, what is wrong with what it is handed, and in which order

func TestCommandErrors(t *testing.T) {
	k := made(t, fork())
	was := alone(back, api.RouteState{Mode: api.Setting, Timer: 2})
	stand(t, k, was)
	right := field(nor, rev)
	for _, in := range wrongIns() {
		for _, c := range []api.Cmd{call(0), cancel(2), call(9), {Kind: 3}, {}} {
			if e := k.Command(in, c); e != api.ErrArg {
				t.Errorf("an in that may not be: Command(%v) = %v", c, e)
			}
		}
	}
	for _, kind := range []int{0, 3, -1, math.MaxInt, math.MinInt} {
		for _, r := range []int{0, 2, 4, -1} {
			if e := k.Command(right, api.Cmd{Kind: kind, Route: r}); e != api.ErrArg {
				t.Errorf("Command(%d, %d) = %v", kind, r, e)
			}
		}
	}
	for _, r := range []int{4, 5, -1, math.MaxInt, math.MinInt} {
		for _, c := range []api.Cmd{call(r), cancel(r)} {
			if e := k.Command(right, c); e != api.ErrNone {
				t.Errorf("Command(%v) = %v", c, e)
			}
		}
	}
	// Not Idle is told ahead of a train in the way.
	if e := k.Command(field(nor, rev, 4), call(back)); e != api.ErrState {
		t.Errorf("called twice, with a train: %v", e)
	}
	if !slices.Equal(k.Routes(), was) {
		t.Errorf("Routes = %v", k.Routes())
	}
}

// P5.1: Call

func TestCallIsBusy(t *testing.T) {
	for _, x := range []struct {
		what string
		l    []api.RouteState
		in   api.In
		r    int
		want api.Errno
	}{
		{"all is free", idle(4), field(nor, rev), through, api.OK},
		{"no point lies right", idle(4), field(rev, nor), through, api.OK},
		{"points lie nowhere", idle(4), field(nowhere, nowhere), through, api.OK},
		{"a train in the first section", idle(4), field(nor, rev, 0), through, api.ErrBusy},
		{"a train in the middle", idle(4), field(nor, rev, 1), through, api.ErrBusy},
		{"a train in the last section", idle(4), field(nor, rev, 2), through, api.ErrBusy},
		{"a train in the only section", idle(4), field(nor, rev, 4), back, api.ErrBusy},
		{"trains elsewhere", idle(4), field(rev, rev, 2, 3, 4, 5), through, api.ErrBusy},
		{"trains beside the way alone", idle(4), field(nor, rev, 3, 5), through, api.OK},
		{"a point beside, under a train, right", idle(4), field(nor, rev, 4), through, api.OK},
		{"a point beside, under a train, wrong", idle(4), field(nor, nor, 4), through, api.ErrBusy},
		{"a point beside, under a train, nowhere", idle(4), field(nor, nowhere, 4), through, api.ErrBusy},
		{"the other one is wrong, and free", idle(4), field(rev, rev, 4), through, api.OK},
		{"a point beside, in what back holds, right", alone(back, api.RouteState{Mode: api.Locked}), field(nor, rev), through, api.OK},
		{"a point beside, in what back holds, wrong", alone(back, api.RouteState{Mode: api.Locked}), field(nor, nor), through, api.ErrBusy},
		{"a point beside, in what back holds, nowhere", alone(back, api.RouteState{Mode: api.Setting}), field(nor, nowhere), through, api.ErrBusy},
		{"likewise, Used", alone(back, api.RouteState{Mode: api.Used, Seen: true}), field(nor, nor), through, api.ErrBusy},
		{"likewise, Releasing", alone(back, api.RouteState{Mode: api.Releasing, Timer: 5}), field(nor, nor), through, api.ErrBusy},
		{"it conflicts with one that is Setting", alone(through, api.RouteState{Mode: api.Setting}), field(rev, rev), aside, api.ErrBusy},
		{"Locked", alone(through, api.RouteState{Mode: api.Locked}), field(rev, rev), aside, api.ErrBusy},
		{"Used", alone(through, api.RouteState{Mode: api.Used, Seen: true}), field(rev, rev), aside, api.ErrBusy},
		{"Used, and what both share is gone", alone(through, api.RouteState{Mode: api.Used, Gone: 2}), field(rev, rev), aside, api.ErrBusy},
		{"Releasing", alone(through, api.RouteState{Mode: api.Releasing}), field(rev, rev), aside, api.ErrBusy},
		{"a point in unlike positions, no section shared", alone(over, api.RouteState{Mode: api.Locked}), field(nor, rev), through, api.ErrBusy},
		{"the other way about", alone(through, api.RouteState{Mode: api.Locked}), field(rev, rev), over, api.ErrBusy},
		{"a point in like positions", alone(over, api.RouteState{Mode: api.Locked}), field(rev, rev), aside, api.OK},
		{"a train where that of another one has been", alone(over, api.RouteState{Mode: api.Used}), field(rev, rev, 5), aside, api.OK},
	} {
		k := made(t, fork())
		stand(t, k, x.l)
		if e := k.Command(x.in, call(x.r)); e != x.want {
			t.Errorf("%s: %v; want %v", x.what, e, x.want)
		}
		want := slices.Clone(x.l)
		if x.want == api.OK {
			want[x.r] = api.RouteState{Mode: api.Setting}
		}
		if !slices.Equal(k.Routes(), want) {
			t.Errorf("%s: Routes = %v; want %v", x.what, k.Routes(), want)
		}
	}
}

// A point whose section another route has let go behind its train is free again.
func TestCallBehindATrain(t *testing.T) {
	l := fork()
	l.Routes = []api.Route{
		{Name: "run", From: 0, To: 1, Path: []int{1, 2}, Points: []api.Need{reverse(0)}},
		{Name: "over", From: 2, To: 3, Path: []int{5}, Flank: []api.Need{reverse(0)}},
	}
	k := made(t, l)
	for gone, want := range []api.Errno{api.ErrBusy, api.OK} {
		stand(t, k, []api.RouteState{{Mode: api.Used, Gone: gone}, {}})
		if e := k.Command(field(nor, nor, 2), call(1)); e != want {
			t.Errorf("%d gone: %v", gone, e)
		}
	}
}

func TestCallOfWhatIsNotIdle(t *testing.T) {
	for _, s := range notIdle() {
		k := made(t, fork())
		stand(t, k, alone(through, s))
		if e := k.Command(field(nor, rev), call(through)); e != api.ErrState || !slices.Equal(k.Routes(), alone(through, s)) {
			t.Errorf("%v: Call = %v, Routes = %v", s, e, k.Routes())
		}
	}
}

func notIdle() []api.RouteState {
	return []api.RouteState{
		{Mode: api.Setting},
		{Mode: api.Setting, Timer: 8},
		{Mode: api.Locked},
		{Mode: api.Used},
		{Mode: api.Used, Gone: 2, Seen: true},
		{Mode: api.Releasing},
		{Mode: api.Releasing, Timer: 5},
	}
}

// P5.1: Cancel

func TestCancel(t *testing.T) {
	for i, x := range []struct {
		want api.Errno
		then api.RouteState
	}{
		{api.OK, api.RouteState{}},
		{api.OK, api.RouteState{}},
		{api.OK, api.RouteState{Mode: api.Releasing}},
		{api.ErrState, api.RouteState{Mode: api.Used}},
		{api.ErrState, api.RouteState{Mode: api.Used, Gone: 2, Seen: true}},
		{api.ErrState, api.RouteState{Mode: api.Releasing}},
		{api.ErrState, api.RouteState{Mode: api.Releasing, Timer: 5}},
	} {
		for _, in := range []api.In{field(nor, rev), field(rev, nowhere, 0, 1, 2, 3, 4, 5)} {
			k := made(t, fork())
			stand(t, k, alone(through, notIdle()[i]))
			if e := k.Command(in, cancel(through)); e != x.want || !slices.Equal(k.Routes(), alone(through, x.then)) {
				t.Errorf("%v: Cancel = %v, Routes = %v", notIdle()[i], e, k.Routes())
			}
		}
	}
	k := made(t, fork())
	if e := k.Command(field(nor, rev), cancel(through)); e != api.ErrState || !slices.Equal(k.Routes(), idle(4)) {
		t.Errorf("Idle: Cancel = %v, Routes = %v", e, k.Routes())
	}
}

// P5.2, P5.3: the whole life of a route

// A turn is a cycle of a life: what the field tells, how the route stands behind it, and what the field is told.
type turn struct {
	in      api.In
	then    api.RouteState
	drive   []int
	proceed bool
}

func live(t *testing.T, k *lock.Lock, r int, life []turn) {
	t.Helper()
	for i, x := range life {
		proceed := make([]bool, 4)
		proceed[fork().Routes[r].From] = x.proceed
		o := k.Cycle(x.in)
		if !slices.Equal(k.Routes(), alone(r, x.then)) || !isOut(o, x.drive, proceed) {
			t.Errorf("turn %d: Routes = %v, Cycle = %v; want %v", i, k.Routes(), o, x)
		}
	}
}

func holders(k *lock.Lock) []int {
	var l []int
	for section := range 6 {
		l = append(l, k.Holder(section))
	}
	return l
}

func TestLife(t *testing.T) {
	none := []int{0, 0}
	k := made(t, fork())
	if e := k.Command(field(rev, nor), call(through)); e != api.OK {
		t.Fatalf("Call = %v", e)
	}
	held := func(want ...int) {
		t.Helper()
		if !slices.Equal(holders(k), want) {
			t.Errorf("held by %v; want %v", holders(k), want)
		}
	}
	held(0, 0, 0, -1, -1, -1)
	live(t, k, through, []turn{
		{field(rev, nor), api.RouteState{Mode: api.Setting, Timer: 1}, []int{nor, rev}, false},
		{field(nowhere, nowhere), api.RouteState{Mode: api.Setting, Timer: 2}, []int{nor, rev}, false},
		{field(nor, nowhere), api.RouteState{Mode: api.Setting, Timer: 3}, []int{0, rev}, false},
		{field(nowhere, rev), api.RouteState{Mode: api.Setting, Timer: 4}, []int{nor, 0}, false},
		{field(nor, rev), api.RouteState{Mode: api.Locked}, none, true},
		{field(nor, rev), api.RouteState{Mode: api.Locked}, none, true},
		{field(nor, nowhere), api.RouteState{Mode: api.Locked}, none, false},
		{field(rev, rev), api.RouteState{Mode: api.Locked}, none, false},
		{field(nor, rev, 1), api.RouteState{Mode: api.Locked}, none, false},
		{field(nor, rev, 2), api.RouteState{Mode: api.Locked}, none, false},
		{field(nor, rev, 3, 4, 5), api.RouteState{Mode: api.Locked}, none, true},
	})
	held(0, 0, 0, -1, -1, -1)
	live(t, k, through, []turn{
		{field(nor, rev, 0), api.RouteState{Mode: api.Used, Seen: true}, none, false},
		{field(nor, rev, 0, 1), api.RouteState{Mode: api.Used, Seen: true}, none, false},
	})
	held(0, 0, 0, -1, -1, -1)
	live(t, k, through, []turn{{field(nor, rev, 1), api.RouteState{Mode: api.Used, Gone: 1}, none, false}})
	held(-1, 0, 0, -1, -1, -1)
	live(t, k, through, []turn{
		{field(nor, rev, 1, 2), api.RouteState{Mode: api.Used, Gone: 1, Seen: true}, none, false},
		{field(nor, rev, 2), api.RouteState{Mode: api.Used, Gone: 2}, none, false},
	})
	held(-1, -1, 0, -1, -1, -1)
	live(t, k, through, []turn{
		{field(rev, nor, 0, 2), api.RouteState{Mode: api.Used, Gone: 2, Seen: true}, none, false},
		{field(rev, nor, 0), api.RouteState{}, none, false},
	})
	held(-1, -1, -1, -1, -1, -1)
	if e := k.Command(field(rev, nor), call(aside)); e != api.OK {
		t.Errorf("the other way behind it: Call = %v", e)
	}
}

func TestLifeOverOneSection(t *testing.T) {
	k := made(t, fork())
	in := field(rev, rev)
	if e := k.Command(in, call(over)); e != api.OK {
		t.Fatalf("Call = %v", e)
	}
	live(t, k, over, []turn{
		{in, api.RouteState{Mode: api.Locked}, []int{0, 0}, true},
		{field(rev, rev, 5), api.RouteState{Mode: api.Used, Seen: true}, []int{0, 0}, false},
		{field(rev, rev, 5), api.RouteState{Mode: api.Used, Seen: true}, []int{0, 0}, false},
		{in, api.RouteState{}, []int{0, 0}, false},
		{field(rev, rev, 5), api.RouteState{}, []int{0, 0}, false},
	})
}

// P5.2: of several steps that are due a route takes one

func TestOneStepACycle(t *testing.T) {
	for _, x := range []struct {
		what     string
		is, then api.RouteState
		in       api.In
	}{
		{"right, and a train is there already", api.RouteState{Mode: api.Setting}, api.RouteState{Mode: api.Locked}, field(nor, rev, 0)},
		{"right at the last moment", api.RouteState{Mode: api.Setting, Timer: 8}, api.RouteState{Mode: api.Locked}, field(nor, rev)},
		{"one below the most", api.RouteState{Mode: api.Setting, Timer: 7}, api.RouteState{Mode: api.Setting, Timer: 8}, field(rev, rev)},
		{"above the most", api.RouteState{Mode: api.Setting, Timer: 8}, api.RouteState{}, field(rev, rev)},
		{"a train while Setting", api.RouteState{Mode: api.Setting}, api.RouteState{Mode: api.Setting, Timer: 1}, field(rev, rev, 0)},
		{"points move under Locked", api.RouteState{Mode: api.Locked}, api.RouteState{Mode: api.Locked}, field(nowhere, nowhere)},
		{"a train, though points lie wrong", api.RouteState{Mode: api.Locked}, api.RouteState{Mode: api.Used, Seen: true}, field(rev, nor, 0)},
		{"a train in the others alone", api.RouteState{Mode: api.Locked}, api.RouteState{Mode: api.Locked}, field(nor, rev, 1, 2)},
		{"trains in all of them", api.RouteState{Mode: api.Locked}, api.RouteState{Mode: api.Used, Seen: true}, field(nor, rev, 0, 1, 2)},
		{"released", api.RouteState{Mode: api.Releasing, Timer: 5}, api.RouteState{}, field(nor, rev)},
		{"one less", api.RouteState{Mode: api.Releasing, Timer: 4}, api.RouteState{Mode: api.Releasing, Timer: 5}, field(nor, rev)},
		{"a train comes all the same", api.RouteState{Mode: api.Releasing}, api.RouteState{Mode: api.Used, Seen: true}, field(nor, rev, 0)},
		{"at the last moment", api.RouteState{Mode: api.Releasing, Timer: 5}, api.RouteState{Mode: api.Used, Seen: true}, field(nor, rev, 0)},
		{"a train further on", api.RouteState{Mode: api.Releasing, Timer: 1}, api.RouteState{Mode: api.Releasing, Timer: 2}, field(nor, rev, 1, 2)},
		{"points wrong while Releasing", api.RouteState{Mode: api.Releasing}, api.RouteState{Mode: api.Releasing, Timer: 1}, field(rev, nor)},
		{"it has jumped", api.RouteState{Mode: api.Used, Seen: true}, api.RouteState{Mode: api.Used, Gone: 1}, field(nor, rev, 2)},
		{"nowhere any more", api.RouteState{Mode: api.Used, Seen: true}, api.RouteState{Mode: api.Used, Gone: 1}, field(nor, rev)},
		{"not seen yet", api.RouteState{Mode: api.Used, Gone: 1}, api.RouteState{Mode: api.Used, Gone: 1}, field(nor, rev, 0, 2)},
		{"seen now", api.RouteState{Mode: api.Used, Gone: 1}, api.RouteState{Mode: api.Used, Gone: 1, Seen: true}, field(nor, rev, 0, 1, 2)},
		{"never seen in the first", api.RouteState{Mode: api.Used}, api.RouteState{Mode: api.Used, Seen: true}, field(nor, rev, 0)},
		{"gone, and in the next one", api.RouteState{Mode: api.Used, Gone: 1, Seen: true}, api.RouteState{Mode: api.Used, Gone: 2}, field(nor, rev, 2)},
		{"the last one, not seen", api.RouteState{Mode: api.Used, Gone: 2}, api.RouteState{Mode: api.Used, Gone: 2}, field(nor, rev, 0, 1)},
		{"the last one, still there", api.RouteState{Mode: api.Used, Gone: 2, Seen: true}, api.RouteState{Mode: api.Used, Gone: 2, Seen: true}, field(nor, rev, 2)},
		{"all gone", api.RouteState{Mode: api.Used, Gone: 2, Seen: true}, api.RouteState{}, field(nor, rev, 0, 1)},
		{"Idle under a train", api.RouteState{}, api.RouteState{}, field(nor, rev, 0, 1, 2)},
	} {
		k := made(t, fork())
		stand(t, k, alone(through, x.is))
		o := k.Cycle(x.in)
		if !slices.Equal(k.Routes(), alone(through, x.then)) {
			t.Errorf("%s: Routes = %v; want %v", x.what, k.Routes(), x.then)
		}
		for signal, on := range o.Proceed {
			if want := signal == 0 && x.then.Mode == api.Locked && !slices.Contains(x.in.Occupied[:3], true) && slices.Equal(x.in.Lies, []int{nor, rev}); on != want {
				t.Errorf("%s: signal %d: Proceed = %v", x.what, signal, on)
			}
		}
	}
}

func TestTimers(t *testing.T) {
	k := made(t, fork())
	k.Command(field(rev, rev), call(through))
	for i := 1; i <= 8; i++ {
		live(t, k, through, []turn{{field(rev, rev), api.RouteState{Mode: api.Setting, Timer: i}, []int{nor, 0}, false}})
	}
	live(t, k, through, []turn{{field(rev, rev), api.RouteState{}, []int{0, 0}, false}})
	k.Command(field(nor, rev), call(through))
	k.Cycle(field(nor, rev))
	if e := k.Command(field(nor, rev), cancel(through)); e != api.OK {
		t.Fatalf("Cancel = %v", e)
	}
	for i := 1; i <= 5; i++ {
		live(t, k, through, []turn{{field(nor, rev), api.RouteState{Mode: api.Releasing, Timer: i}, []int{0, 0}, false}})
		if !slices.Equal(holders(k), []int{0, 0, 0, -1, -1, -1}) {
			t.Errorf("Releasing: held by %v", holders(k))
		}
		if e := k.Command(field(rev, rev), call(aside)); e != api.ErrBusy {
			t.Errorf("Releasing: Call of the other one = %v", e)
		}
	}
	live(t, k, through, []turn{{field(nor, rev), api.RouteState{}, []int{0, 0}, false}})
	if e := k.Command(field(rev, rev), call(aside)); e != api.OK {
		t.Errorf("released: Call of the other one = %v", e)
	}
}

// P5.2: Drive

func TestDrive(t *testing.T) {
	setting, locked := api.RouteState{Mode: api.Setting}, api.RouteState{Mode: api.Locked}
	for _, x := range []struct {
		what string
		l    []api.RouteState
		in   api.In
		want []int
	}{
		{"both lie wrong", alone(through, setting), field(rev, nor), []int{nor, rev}},
		{"both lie nowhere", alone(through, setting), field(0, 0), []int{nor, rev}},
		{"one lies right", alone(through, setting), field(nor, nor), []int{0, rev}},
		{"a train on the one within", alone(through, setting), field(rev, nor, 1), []int{0, rev}},
		{"a train on the one beside", alone(through, setting), field(rev, nor, 4), []int{nor, 0}},
		{"trains where no points are", alone(through, setting), field(rev, nor, 0, 2, 3, 5), []int{nor, rev}},
		{"at the last moment", alone(through, api.RouteState{Mode: api.Setting, Timer: 7}), field(rev, nor), []int{nor, rev}},
		{"given up", alone(through, api.RouteState{Mode: api.Setting, Timer: 8}), field(rev, nor), []int{0, 0}},
		{"Locked alone", alone(through, locked), field(rev, nor), []int{0, 0}},
		{"Used alone", alone(through, api.RouteState{Mode: api.Used}), field(rev, nor), []int{0, 0}},
		{"Releasing alone", alone(through, api.RouteState{Mode: api.Releasing}), field(rev, nor), []int{0, 0}},
		{"back is Locked and holds V", []api.RouteState{setting, {}, locked, {}}, field(rev, nor), []int{nor, 0}},
		{"back is Used and holds V", []api.RouteState{setting, {}, {Mode: api.Used}, {}}, field(rev, nor), []int{nor, 0}},
		{"back is Releasing and holds V", []api.RouteState{setting, {}, {Mode: api.Releasing}, {}}, field(rev, nor), []int{nor, 0}},
		{"back lets V go in this cycle", []api.RouteState{setting, {}, {Mode: api.Releasing, Timer: 5}, {}}, field(rev, nor), []int{nor, rev}},
		{"back loses its train in this cycle", []api.RouteState{setting, {}, {Mode: api.Used, Seen: true}, {}}, field(rev, nor), []int{nor, rev}},
		{"back gives V up in this cycle", []api.RouteState{setting, {}, {Mode: api.Setting, Timer: 8}, {}}, field(rev, nor), []int{nor, rev}},
		{"back drives V itself", []api.RouteState{setting, {}, setting, {}}, field(rev, nor), []int{nor, rev}},
		{"back drives V, through is Locked", []api.RouteState{locked, {}, setting, {}}, field(rev, nor), []int{0, rev}},
		{"two drive one in one position", []api.RouteState{{}, setting, {}, setting}, field(nor, nor), []int{rev, 0}},
		{"one of two is Locked, and holds nothing of it", []api.RouteState{{}, setting, {}, locked}, field(nowhere, nor), []int{rev, 0}},
		{"the other one", []api.RouteState{{}, locked, {}, setting}, field(nowhere, nor), []int{rev, 0}},
	} {
		k := made(t, fork())
		stand(t, k, x.l)
		if o := k.Cycle(x.in); !slices.Equal(o.Drive, x.want) || slices.Contains(o.Proceed, true) {
			t.Errorf("%s: Cycle = %v; want %v", x.what, o, x.want)
		}
	}
}

// P5.2: Proceed of several signals, whatever the order of routes and signals

func TestProceed(t *testing.T) {
	locked := api.RouteState{Mode: api.Locked}
	for _, x := range []struct {
		what string
		l    []api.RouteState
		in   api.In
		want []bool
	}{
		{"two at one time", []api.RouteState{locked, {}, locked, {}}, field(nor, rev), []bool{true, true, false, false}},
		{"the second from one signal", alone(aside, locked), field(rev, nor), []bool{true, false, false, false}},
		{"one of two is not clear", []api.RouteState{locked, {}, locked, {}}, field(nor, rev, 2), []bool{false, true, false, false}},
		{"a point of both lies wrong", []api.RouteState{locked, {}, locked, {}}, field(nor, nor), []bool{false, false, false, false}},
		{"a point of one lies wrong", []api.RouteState{locked, {}, locked, {}}, field(rev, rev), []bool{false, true, false, false}},
		{"Setting becomes Locked", []api.RouteState{{}, {Mode: api.Setting}, {}, locked}, field(rev, nor), []bool{true, false, true, false}},
		{"becomes Locked, and is not clear", alone(aside, api.RouteState{Mode: api.Setting}), field(rev, nor, 3), []bool{false, false, false, false}},
		{"all the others", []api.RouteState{{Mode: api.Releasing}, {}, {Mode: api.Used, Seen: true}, {}}, field(nor, rev), []bool{false, false, false, false}},
	} {
		k := made(t, fork())
		stand(t, k, x.l)
		if o := k.Cycle(x.in); !slices.Equal(o.Proceed, x.want) || !slices.Equal(o.Drive, []int{0, 0}) {
			t.Errorf("%s: Cycle = %v; want %v", x.what, o, x.want)
		}
	}
}

// P5.2, W3: of an in that may not be nothing happens

func TestCycleOfNoIn(t *testing.T) {
	states := []api.RouteState{{Mode: api.Setting, Timer: 8}, {}, {Mode: api.Locked}, {}}
	k := made(t, fork())
	stand(t, k, states)
	for _, in := range wrongIns() {
		if o := k.Cycle(in); !safe(o) || !slices.Equal(k.Routes(), states) {
			t.Errorf("Cycle = %v, Routes = %v", o, k.Routes())
		}
	}
}

// P5.3: Safe and Holder

func TestSafe(t *testing.T) {
	k := made(t, fork())
	stand(t, k, []api.RouteState{{Mode: api.Setting}, {}, {Mode: api.Locked}, {}})
	if !safe(k.Safe()) {
		t.Errorf("Safe = %v", k.Safe())
	}
	k.Cycle(field(nor, rev))
	if !safe(k.Safe()) || k.Routes()[through].Mode != api.Locked {
		t.Errorf("Safe = %v, Routes = %v", k.Safe(), k.Routes())
	}
}

func TestHolder(t *testing.T) {
	k := made(t, fork())
	for _, x := range []struct {
		l    []api.RouteState
		want []int
	}{
		{idle(4), []int{-1, -1, -1, -1, -1, -1}},
		{[]api.RouteState{{Mode: api.Setting}, {}, {Mode: api.Locked}, {}}, []int{0, 0, 0, -1, 2, -1}},
		{[]api.RouteState{{}, {Mode: api.Releasing}, {}, {Mode: api.Used}}, []int{1, -1, -1, 1, -1, 3}},
		{[]api.RouteState{{Mode: api.Used}, {}, {}, {}}, []int{0, 0, 0, -1, -1, -1}},
		{[]api.RouteState{{Mode: api.Used, Gone: 1, Seen: true}, {}, {}, {}}, []int{-1, 0, 0, -1, -1, -1}},
		{[]api.RouteState{{Mode: api.Used, Gone: 2}, {}, {}, {}}, []int{-1, -1, 0, -1, -1, -1}},
	} {
		stand(t, k, x.l)
		if !slices.Equal(holders(k), x.want) {
			t.Errorf("%v: held by %v; want %v", x.l, holders(k), x.want)
		}
		for _, section := range []int{-1, 6, math.MaxInt, math.MinInt} {
			if k.Holder(section) != -1 {
				t.Errorf("Holder(%d) = %d", section, k.Holder(section))
			}
		}
	}
}

// P5.3: Set

func TestSetOfOneRoute(t *testing.T) {
	numbers := []int{math.MinInt, -1, 0, 1, 2, 3, 4, 5, 6, 7, 8, 9, math.MaxInt}
	k := made(t, fork())
	was := alone(back, api.RouteState{Mode: api.Locked})
	for r, sections := range []int{3, 2, 1, 1} {
		may := 0
		for _, mode := range numbers {
			for _, timer := range numbers {
				for _, gone := range numbers {
					for _, seen := range []bool{false, true} {
						s := api.RouteState{Mode: mode, Timer: timer, Gone: gone, Seen: seen}
						want := mode == 0 && timer == 0 && gone == 0 && !seen ||
							mode == 1 && 0 <= timer && timer <= 8 && gone == 0 && !seen ||
							mode == 2 && timer == 0 && gone == 0 && !seen ||
							mode == 3 && timer == 0 && 0 <= gone && gone <= sections-1 ||
							mode == 4 && 0 <= timer && timer <= 5 && gone == 0 && !seen
						stand(t, k, was)
						then := was
						if want {
							then = alone(r, s)
							may++
						}
						if k.Set(alone(r, s)) != want || !slices.Equal(k.Routes(), then) {
							t.Fatalf("Set of %v: %v, Routes = %v", alone(r, s), !want, k.Routes())
						}
					}
				}
			}
		}
		if may != 1+9+1+2*sections+6 {
			t.Errorf("route %d may stand in %d ways", r, may)
		}
	}
}

func TestSetOfSeveralRoutes(t *testing.T) {
	was := []api.RouteState{{}, {Mode: api.Used, Gone: 1}, {Mode: api.Setting, Timer: 3}, {}}
	// through excludes aside and over, nothing else is excluded.
	for _, x := range []struct {
		r, s int
		want bool
	}{{0, 1, false}, {0, 2, true}, {0, 3, false}, {2, 1, true}, {1, 3, true}, {2, 3, true}} {
		for _, a := range notIdle() {
			for _, b := range notIdle() {
				l := idle(4)
				l[x.r], l[x.s] = a, b
				for _, r := range []int{aside, back, over} {
					l[r].Gone = 0
				}
				k := made(t, fork())
				stand(t, k, was)
				then := was
				if x.want {
					then = l
				}
				if k.Set(l) != x.want || !slices.Equal(k.Routes(), then) {
					t.Errorf("Set of %v is not %v, Routes = %v", l, x.want, k.Routes())
				}
			}
		}
	}
}

func TestSetOfTooFewOrTooMany(t *testing.T) {
	was := []api.RouteState{{}, {Mode: api.Used, Gone: 1}, {Mode: api.Setting, Timer: 3}, {}}
	k := made(t, fork())
	stand(t, k, was)
	for _, l := range [][]api.RouteState{nil, {}, idle(1), idle(3), idle(5), idle(8), was[:3], append(slices.Clone(was), was...), idle(1 << 20)} {
		if k.Set(l) || !slices.Equal(k.Routes(), was) {
			t.Errorf("Set of %d: Routes = %v", len(l), k.Routes())
		}
	}
	// One that may not be, behind others that may.
	for r := range 4 {
		l := slices.Clone(was)
		l[r] = api.RouteState{Mode: 5}
		if k.Set(l) || !slices.Equal(k.Routes(), was) {
			t.Errorf("Set of %v: Routes = %v", l, k.Routes())
		}
	}
}

// W8: a nil Lock

func TestNil(t *testing.T) {
	var k *lock.Lock
	in := field(nor, rev)
	for _, x := range []api.In{in, {}} {
		for _, c := range []api.Cmd{call(0), cancel(0), call(-1), {}} {
			if e := k.Command(x, c); e != api.ErrArg {
				t.Errorf("Command(%v) = %v", c, e)
			}
		}
		if o := k.Cycle(x); len(o.Drive) != 0 || len(o.Proceed) != 0 {
			t.Errorf("Cycle = %v", o)
		}
	}
	if k.Set(nil) || k.Set(idle(0)) || k.Set(idle(4)) {
		t.Error("Set = true")
	}
	for _, section := range []int{-1, 0, 1, math.MaxInt} {
		if k.Holder(section) != -1 {
			t.Errorf("Holder(%d) = %d", section, k.Holder(section))
		}
	}
	if o := k.Safe(); len(k.Routes()) != 0 || len(o.Drive) != 0 || len(o.Proceed) != 0 {
		t.Errorf("Routes = %v, Safe = %v", k.Routes(), o)
	}
}

// W1: a Lock that New did not make ends its calls, too.
func TestZeroLock(t *testing.T) {
	var k lock.Lock
	for _, in := range []api.In{field(nor, rev), {}} {
		for _, c := range []api.Cmd{call(0), cancel(-1), {}} {
			if e := k.Command(in, c); e == api.OK {
				t.Errorf("Command(%v) = OK", c)
			}
		}
		if o := k.Cycle(in); len(o.Drive) != 0 || len(o.Proceed) != 0 {
			t.Errorf("Cycle = %v", o)
		}
	}
	if k.Set(idle(1)) || k.Holder(0) != -1 || len(k.Routes()) != 0 {
		t.Errorf("Holder = %d, Routes = %v", k.Holder(0), k.Routes())
	}
}
