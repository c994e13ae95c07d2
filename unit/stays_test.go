package unit_test

import (
	"fmt"
	"slices"
	"strings"
	"sync"
	"testing"

	"pointsman/api"
	"pointsman/unit"
)

// P12.6, W6, W7: what is handed in is neither changed nor kept; what is answered is new memory, and stays what it is.

// roomy is a list with something in the spare room behind its end.
func roomy[T any](row []T, spare T) []T {
	return append(slices.Clone(row), spare)[:len(row)]
}

// spoil overwrites a list with its spare room.
func spoil[T any](row []T, with T) {
	row = row[:cap(row)]
	for i := range row {
		row[i] = with
	}
}

// whole is a list with its spare room.
func whole[T any](row []T) []T { return row[:cap(row)] }

func roomyJunction() api.Layout {
	l := junction()
	l.Sections = roomy(l.Sections, "spare")
	l.Points = roomy(l.Points, api.Point{Name: "spare"})
	l.Signals = roomy(l.Signals, "spare")
	for i := range l.Routes {
		r := &l.Routes[i]
		spare := api.Need{Point: -9}
		r.Path, r.Points, r.Flank = roomy(r.Path, -9), roomy(r.Points, spare), roomy(r.Flank, spare)
	}
	l.Routes = roomy(l.Routes, api.Route{Name: "spare"})
	return l
}

// shown is all of a layout with all spare room.
func shown(l api.Layout) string {
	b := []any{whole(l.Sections), whole(l.Points), whole(l.Signals)}
	for _, r := range whole(l.Routes) {
		b = append(b, r.Name, r.From, r.To, whole(r.Path), whole(r.Points), whole(r.Flank))
	}
	return fmt.Sprint(b...)
}

func spoilLayout(l *api.Layout) {
	for i := range l.Routes {
		r := &l.Routes[i]
		spoil(r.Path, 2)
		spoil(r.Points, api.Need{Reverse: true})
		spoil(r.Flank, api.Need{})
	}
	spoil(l.Sections, "spoilt")
	spoil(l.Points, api.Point{Name: "spoilt", Section: 2})
	spoil(l.Signals, "spoilt")
	spoil(l.Routes, api.Route{Name: "spoilt"})
}

// run is a course in which a unit meets each mode; use does one call of it, and each answer is told.
func run(u *unit.Unit, use func(what string) string) []string {
	var told []string
	do := func(l ...string) {
		for _, what := range l {
			told = append(told, what+" "+use(what), fmt.Sprint(u.Mode(), u.Count(), u.Routes(), u.Send()))
		}
	}
	do("hear", "granted 2", "tick", "called", "train", "slow", "granted 2", "tick", "tick", "alone", "tick", "tick", "train", "tick", "called")
	do("granted 2", "called")
	for range 9 {
		do("train")
	}
	do("called", "granted 2", "train", "called", "granted 3", "tick", "tick", "crash", "hear", "start", "tick", "tick", "tick")
	do("hear", "junk", "granted 2", "called", "yield", "called", "hear", "granted 2", "train", "crash")
	return told
}

// plain does one call of a course.
func plain(u *unit.Unit) func(what string) string {
	return func(what string) string {
		switch what {
		case "hear":
			u.Hear(heard{1, 5, routes(2, 0, 0)}.telegram())
		case "junk":
			u.Hear(make([]byte, 30))
		case "granted 2":
			u.Granted(2, 5)
		case "granted 3":
			u.Granted(3, 6)
		case "tick":
			u.Tick(false)
		case "slow":
			u.Tick(true)
		case "called":
			return fmt.Sprint(u.Cycle(field(nor), true, []api.Cmd{cancel(0), call(2), call(0)}))
		case "train":
			return fmt.Sprint(u.Cycle(field(nor, 0), true, nil))
		case "alone":
			return fmt.Sprint(u.Cycle(field(nor), false, []api.Cmd{call(0)}))
		case "crash":
			u.Crash()
		case "start":
			return fmt.Sprint(u.Start())
		case "yield":
			return fmt.Sprint(u.Yield())
		}
		return ""
	}
}

// equal holds that two courses went alike.
func equal(t *testing.T, what string, got, want []string) {
	t.Helper()
	for i := range want {
		if i >= len(got) || got[i] != want[i] {
			t.Fatalf("%s: %v; want %v", what, got[min(i, len(got)):min(i+2, len(got))], want[i:min(i+2, len(want))])
		}
	}
}

// undisturbed is how the course goes that nobody meddles with; it comes to each of the modes.
func undisturbed(t *testing.T) []string {
	t.Helper()
	u := made(t)
	told := run(u, plain(u))
	for mode := range 5 {
		if !slices.ContainsFunc(told, func(s string) bool { return strings.HasPrefix(s, fmt.Sprint(mode, " ")) }) {
			t.Errorf("the course does not come to mode %d", mode)
		}
	}
	return told
}

func TestLayoutStays(t *testing.T) {
	l := roomyJunction()
	was := shown(l)
	u, e := unit.New(l)
	if e != api.OK {
		t.Fatal(e)
	}
	equal(t, "a layout with spare room", run(u, plain(u)), undisturbed(t))
	if shown(l) != was {
		t.Errorf("was %s\nis %s", was, shown(l))
	}
	l.Routes[0].To = 0
	was = shown(l)
	if _, e := unit.New(l); e != api.ErrPlan || shown(l) != was {
		t.Errorf("refused: was %s\nis %s", was, shown(l))
	}
}

func TestLayoutIsNotKept(t *testing.T) {
	want := undisturbed(t)
	l := roomyJunction()
	u, e := unit.New(l)
	if e != api.OK {
		t.Fatal(e)
	}
	spoilLayout(&l)
	equal(t, "a layout that is another one now", run(u, plain(u)), want)
	// it changes in the midst of all
	l = roomyJunction()
	v, _ := unit.New(l)
	calls := 0
	equal(t, "a layout that becomes another one", run(v, func(what string) string {
		if calls++; calls == 6 {
			spoilLayout(&l)
		}
		return plain(v)(what)
	}), want)
}

// meddled does one call of a course with lists of spare room, holds that they stay, and spoils them afterwards.
func meddled(t *testing.T, u *unit.Unit) func(what string) string {
	cycle := func(in api.In, connected bool, c []api.Cmd) string {
		in = api.In{Occupied: roomy(in.Occupied, true), Lies: roomy(in.Lies, 77)}
		c = roomy(c, call(1))
		was := fmt.Sprint(whole(in.Occupied), whole(in.Lies), whole(c))
		o := u.Cycle(in, connected, c)
		if is := fmt.Sprint(whole(in.Occupied), whole(in.Lies), whole(c)); is != was {
			t.Errorf("Cycle: was %s, is %s", was, is)
		}
		spoil(in.Occupied, true)
		spoil(in.Lies, 77)
		spoil(c, call(1))
		told := fmt.Sprint(o)
		spoil(o.Drive, 77)
		spoil(o.Proceed, true)
		return told
	}
	return func(what string) string {
		spoil(u.Routes(), api.RouteState{Mode: 2})
		spoil(u.Send(), 'x')
		switch what {
		case "hear", "junk":
			b := map[string][]byte{"hear": heard{1, 5, routes(2, 0, 0)}.telegram(), "junk": make([]byte, 30)}[what]
			b = roomy(b, 'y')
			was := slices.Clone(whole(b))
			u.Hear(b)
			if !slices.Equal(whole(b), was) {
				t.Errorf("Hear: was %x, is %x", was, whole(b))
			}
			spoil(b, 'z')
		case "called":
			return cycle(field(nor), true, []api.Cmd{cancel(0), call(2), call(0)})
		case "train":
			return cycle(field(nor, 0), true, nil)
		case "alone":
			return cycle(field(nor), false, []api.Cmd{call(0)})
		default:
			return plain(u)(what)
		}
		return ""
	}
}

func TestMeddled(t *testing.T) {
	u := made(t)
	equal(t, "meddled with", run(u, meddled(t, u)), undisturbed(t))
}

// Nothing that was answered is changed by what comes later.
func TestAnswersStay(t *testing.T) {
	u := made(t)
	var routed [][]api.RouteState
	var sent [][]byte
	var was []string
	look := func() {
		routed, sent = append(routed, u.Routes()), append(sent, u.Send())
		was = append(was, fmt.Sprint(u.Routes(), u.Send()))
	}
	run(u, func(what string) string {
		look()
		return plain(u)(what)
	})
	for i := range was {
		if is := fmt.Sprint(routed[i], sent[i]); is != was[i] {
			t.Errorf("%d: was %s, is %s", i, was[i], is)
		}
	}
	v := active(t, routes(2, 0, 0))
	proceeds, driven := v.Cycle(field(nor), true, nil), v.Cycle(field(rev), true, []api.Cmd{call(0)})
	alone := v.Cycle(field(nor), false, nil)
	v.Yield()
	none := v.Cycle(field(nor), true, nil)
	v.Granted(5, 5)
	v.Cycle(field(nor), true, nil)
	tells(t, "as it was", proceeds, 0, true, false)
	for _, o := range []api.Out{driven, alone, none} {
		tells(t, "as it was", o, 0, false, false)
	}
}

// No two answers share memory, spare room too: one is spoilt, the others stay.
func TestAnswersAreApart(t *testing.T) {
	u := active(t, routes(2, 0, 0))
	a, b := u.Routes(), u.Routes()
	spoil(a, api.RouteState{Mode: 4})
	x, y := u.Send(), u.Send()
	spoil(x, 'x')
	if !slices.Equal(b, routes(2, 0, 0)) || string(y) != string(heard{2, 5, routes(2, 0, 0)}.telegram()) {
		t.Errorf("became %v, %x", b, y)
	}
	o, p := u.Cycle(field(nor), true, nil), u.Cycle(field(nor), true, nil)
	spoil(o.Drive, 77)
	tells(t, "spoilt Drive", p, 0, true, false)
	spoil(o.Proceed, false)
	tells(t, "spoilt Proceed", p, 0, true, false)
	q, s := u.Cycle(field(nor), false, nil), u.Cycle(field(nor), false, nil)
	spoil(q.Drive, 77)
	spoil(q.Proceed, true)
	tells(t, "spoilt Safe", s, 0, false, false)
	is(t, "spoilt answers", u, api.Active, 9, routes(2, 0, 0))
}

// W2: two units of one layout have nothing in common.
func TestUnitsAreApart(t *testing.T) {
	l := junction()
	a, _ := unit.New(l)
	b, _ := unit.New(l)
	c, _ := unit.New(l)
	hear(b, 7, 8, routes(0, 1, 0))
	run(a, func(what string) string {
		is(t, "the one that heard", b, api.Standby, 0, idle())
		is(t, "the one that did not", c, api.Standby, 0, idle())
		return plain(a)(what)
	})
	took(t, "the one that heard", b, 7, 8, routes(0, 1, 0))
	hasNone(t, "the one that did not", c, 1)
	a.Start()
	tick(a, 9)
	b.Crash()
	is(t, "the one that stands by", a, api.Standby, 0, idle())
	// one telegram for two
	m := heard{1, 5, routes(2, 0, 0)}.telegram()
	d, e := made(t), made(t)
	d.Hear(m)
	e.Hear(m)
	d.Granted(2, 5)
	d.Cycle(field(nor, 0), true, []api.Cmd{cancel(0)})
	took(t, "the other one", e, 1, 5, routes(2, 0, 0))
}

// W8: a unit that is copied goes on in the copy, and so does one of the copy.
func TestCopy(t *testing.T) {
	u := made(t)
	equal(t, "copies", run(u, func(what string) string {
		copied := *u
		*u = unit.Unit{}
		*u = copied
		return plain(u)(what)
	}), undisturbed(t))
	v := *active(t, routes(2, 0, 0))
	tick(&v, 4)
	tells(t, "a copy", v.Cycle(field(nor), true, []api.Cmd{call(2)}), 0, true, true)
	is(t, "a copy", &v, api.Active, 6, routes(2, 0, 2))
}

// W2: units in many goroutines answer as one does alone, though they are of one layout.
func TestManyAtOneTime(t *testing.T) {
	want := undisturbed(t)
	l := junction()
	m := heard{1, 5, routes(2, 0, 0)}.telegram()
	got := make([][]string, 16)
	var all sync.WaitGroup
	for i := range got {
		all.Go(func() {
			u, _ := unit.New(l)
			got[i] = run(u, func(what string) string {
				if what == "hear" {
					u.Hear(m)
					return ""
				}
				return plain(u)(what)
			})
		})
	}
	all.Wait()
	for i, told := range got {
		equal(t, fmt.Sprint("goroutine ", i), told, want)
	}
}
