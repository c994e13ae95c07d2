package lock_test

import (
	"fmt"
	"slices"
	"testing"

	"pointsman/api"
	"pointsman/lock"
)

// P5.4, W6, W7: what is handed in is neither changed nor kept; what is answered is new memory, and stays what it is.

// roomy is a list with something in the spare room behind its end.
func roomy[T any](row []T, spare T) []T {
	return append(slices.Clone(row), spare)[:len(row)]
}

// spoil overwrites a list with its spare room.
func spoil[T any](row []T, with T) {
	row = row[:cap(row)]
	for i := range row {
		row[i] = with
	}
}

func roomyFork() api.Layout {
	l := fork()
	l.Sections = roomy(l.Sections, "spare")
	l.Points = roomy(l.Points, api.Point{Name: "spare"})
	l.Signals = roomy(l.Signals, "spare")
	for i := range l.Routes {
		r := &l.Routes[i]
		r.Path, r.Points, r.Flank = roomy(r.Path, -9), roomy(r.Points, normal(-9)), roomy(r.Flank, normal(-9))
	}
	l.Routes = roomy(l.Routes, api.Route{Name: "spare"})
	return l
}

// shown is all of a layout, with one element of each list's spare room.
func shown(l api.Layout) string {
	b := []any{l.Sections[:len(l.Sections)+1], l.Points[:len(l.Points)+1], l.Signals[:len(l.Signals)+1]}
	for _, r := range l.Routes {
		b = append(b, r.Name, r.From, r.To, r.Path[:len(r.Path)+1], r.Points[:len(r.Points)+1], r.Flank[:len(r.Flank)+1])
	}
	return fmt.Sprint(append(b, l.Routes[:len(l.Routes)+1][len(l.Routes)])...)
}

func roomyIn(in api.In) api.In {
	return api.In{Occupied: roomy(in.Occupied, true), Lies: roomy(in.Lies, 77)}
}

func shownIn(in api.In) string {
	return fmt.Sprint(in.Occupied[:len(in.Occupied)+1], in.Lies[:len(in.Lies)+1])
}

func spoilOut(o api.Out) {
	spoil(o.Drive, 77)
	spoil(o.Proceed, true)
}

// A lock and one that nobody meddles with: they must go on alike.
type twins struct{ meddled, other *lock.Lock }

func (x twins) alike(t *testing.T, what string) {
	t.Helper()
	if !slices.Equal(x.meddled.Routes(), x.other.Routes()) || !slices.Equal(holders(x.meddled), holders(x.other)) {
		t.Errorf("%s: Routes = %v; want %v", what, x.meddled.Routes(), x.other.Routes())
	}
	a, b := x.meddled.Safe(), x.other.Safe()
	if !isOut(a, b.Drive, b.Proceed) {
		t.Errorf("%s: Safe = %v; want %v", what, a, b)
	}
}

// course is a run in which each kind of call comes and each mode is met.
func course() []api.In {
	l := []api.In{field(rev, nor), field(nowhere, nor), field(nor, nowhere), field(nor, rev), field(nor, rev)}
	for _, section := range []int{0, 1, 2, 2, 3} {
		l = append(l, field(nor, rev, section))
	}
	return append(l, field(nor, nor), field(rev, rev), field(rev, rev), field(rev, rev, 4))
}

func TestLayoutStays(t *testing.T) {
	l := roomyFork()
	was := shown(l)
	x := twins{made(t, l), made(t, fork())}
	lock.MayIn(l, field(nor, rev))
	for i, in := range course() {
		for _, k := range []*lock.Lock{x.meddled, x.other} {
			k.Command(in, call(i%4))
			k.Cycle(in)
		}
		x.alike(t, "a layout with spare room")
	}
	if shown(l) != was {
		t.Errorf("was %s\nis %s", was, shown(l))
	}
}

func TestLayoutIsNotKept(t *testing.T) {
	for what, meddle := range map[string]func(l *api.Layout){
		"sections": func(l *api.Layout) { spoil(l.Sections, "spoilt") },
		"points":   func(l *api.Layout) { spoil(l.Points, api.Point{Name: "spoilt", Section: 3}) },
		"signals":  func(l *api.Layout) { spoil(l.Signals, "spoilt") },
		"paths":    func(l *api.Layout) { eachRoute(l, func(r *api.Route) { spoil(r.Path, 3) }) },
		"wants":    func(l *api.Layout) { eachRoute(l, func(r *api.Route) { spoil(r.Points, normal(1)) }) },
		"flanks":   func(l *api.Layout) { eachRoute(l, func(r *api.Route) { spoil(r.Flank, normal(1)) }) },
		"from":     func(l *api.Layout) { eachRoute(l, func(r *api.Route) { r.From = 3 }) },
		"routes":   func(l *api.Layout) { spoil(l.Routes, api.Route{Name: "spoilt"}) },
	} {
		l := roomyFork()
		x := twins{made(t, l), made(t, fork())}
		meddle(&l)
		for _, in := range course() {
			for r := range 4 {
				if a, b := x.meddled.Command(in, call(r)), x.other.Command(in, call(r)); a != b {
					t.Errorf("%s: Call of %d = %v; want %v", what, r, a, b)
				}
			}
			if a, b := x.meddled.Cycle(in), x.other.Cycle(in); !isOut(a, b.Drive, b.Proceed) {
				t.Errorf("%s: Cycle = %v; want %v", what, a, b)
			}
			x.alike(t, what)
		}
	}
}

func eachRoute(l *api.Layout, do func(r *api.Route)) {
	for i := range l.Routes {
		do(&l.Routes[i])
	}
}

func TestInStays(t *testing.T) {
	x := twins{made(t, fork()), made(t, fork())}
	for i, in := range course() {
		mine := roomyIn(in)
		was := shownIn(mine)
		lock.MayIn(fork(), mine)
		for _, c := range []api.Cmd{call(i % 4), cancel((i + 1) % 4)} {
			x.meddled.Command(mine, c)
			x.other.Command(in, c)
		}
		o := x.meddled.Cycle(mine)
		if shownIn(mine) != was {
			t.Errorf("was %s, is %s", was, shownIn(mine))
		}
		spoil(mine.Occupied, true)
		spoil(mine.Lies, 77)
		want := x.other.Cycle(in)
		if !isOut(o, want.Drive, want.Proceed) {
			t.Errorf("an answer became %v; want %v", o, want)
		}
		x.alike(t, "an in that is another one now")
	}
}

func TestSetKeepsNothing(t *testing.T) {
	want := []api.RouteState{{Mode: api.Used, Gone: 1}, {}, {Mode: api.Locked}, {}}
	spare := api.RouteState{Mode: 99}
	mine := roomy(want, spare)
	k := made(t, fork())
	before := k.Routes()
	stand(t, k, mine)
	k.Cycle(field(nor, rev, 1, 4))
	if !slices.Equal(mine, want) || mine[:5][4] != spare {
		t.Errorf("became %v", mine[:5])
	}
	stand(t, k, mine)
	spoil(mine, spare)
	if !slices.Equal(k.Routes(), want) {
		t.Errorf("Routes = %v", k.Routes())
	}
	if !slices.Equal(before, idle(4)) {
		t.Errorf("an answer of old became %v", before)
	}
	bad := roomy(append(want[:3:3], spare), spare)
	if k.Set(bad) || bad[3] != spare || bad[:5][4] != spare || !slices.Equal(k.Routes(), want) {
		t.Errorf("refused: %v, Routes = %v", bad[:5], k.Routes())
	}
}

func TestAnswersAreNew(t *testing.T) {
	x := twins{made(t, fork()), made(t, fork())}
	for i, in := range course() {
		for _, k := range []*lock.Lock{x.meddled, x.other} {
			k.Command(in, call(i%4))
		}
		spoil(x.meddled.Routes(), api.RouteState{Mode: 99})
		spoilOut(x.meddled.Safe())
		o := x.meddled.Cycle(in)
		spoilOut(o)
		spoilOut(x.meddled.Cycle(api.In{}))
		x.other.Cycle(in)
		x.alike(t, "spoilt answers")
	}
}

func TestAnswersStay(t *testing.T) {
	k := made(t, fork())
	k.Command(field(rev, nor), call(through))
	safe1, routes := k.Safe(), k.Routes()
	driven := k.Cycle(field(rev, nor))
	proceeding := k.Cycle(field(nor, rev))
	none := k.Cycle(api.In{})
	for range 3 {
		k.Command(field(nor, rev), cancel(through))
		k.Cycle(field(nor, rev, 0))
		k.Set(idle(4))
	}
	if !safe(safe1) || !safe(none) || !slices.Equal(routes, alone(through, api.RouteState{Mode: api.Setting})) {
		t.Errorf("became %v, %v, %v", safe1, none, routes)
	}
	if !isOut(driven, []int{nor, rev}, make([]bool, 4)) || !isOut(proceeding, []int{0, 0}, []bool{true, false, false, false}) {
		t.Errorf("became %v, %v", driven, proceeding)
	}
}

// W2: two of one layout have nothing in common.
func TestLocksAreApart(t *testing.T) {
	l := fork()
	a, b := made(t, l), made(t, l)
	a.Command(field(nor, rev), call(through))
	a.Cycle(field(nor, rev))
	if !slices.Equal(b.Routes(), idle(4)) || b.Holder(0) != -1 {
		t.Errorf("Routes of the other one = %v", b.Routes())
	}
}
