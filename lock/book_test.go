package lock_test

import (
	"slices"
	"strconv"
	"testing"

	"pointsman/api"
	"pointsman/lock"
)

// book is chapter 5 by its words, place by place: what a Lock is held against.
type book struct {
	l api.Layout
	s []api.RouteState
}

// lies is how a route needs a point to lie, or 0.
func (b *book) lies(r, point int) int {
	for _, row := range [][]api.Need{b.l.Routes[r].Points, b.l.Routes[r].Flank} {
		for _, n := range row {
			if n.Point == point && n.Reverse {
				return 2
			}
			if n.Point == point {
				return 1
			}
		}
	}
	return 0
}

func (b *book) right(in api.In, r int) bool {
	for p, lies := range in.Lies {
		if want := b.lies(r, p); want != 0 && want != lies {
			return false
		}
	}
	return true
}

func (b *book) clear(in api.In, r int) bool {
	for _, section := range b.l.Routes[r].Path {
		if in.Occupied[section] {
			return false
		}
	}
	return true
}

func (b *book) holds(r, section int) bool {
	at := slices.Index(b.l.Routes[r].Path, section)
	switch b.s[r].Mode {
	case 1, 2, 4:
		return at >= 0
	case 3:
		return at >= b.s[r].Gone
	}
	return false
}

func (b *book) holder(section int) int {
	for r := range b.s {
		if b.holds(r, section) {
			return r
		}
	}
	return -1
}

func (b *book) heldByAnother(r, section int) bool {
	for s := range b.s {
		if s != r && b.holds(s, section) {
			return true
		}
	}
	return false
}

func (b *book) conflict(r, s int) bool {
	x, y := b.l.Routes[r], b.l.Routes[s]
	if r == s || x.From == y.From {
		return true
	}
	for _, section := range x.Path {
		if slices.Contains(y.Path, section) {
			return true
		}
	}
	for p := range b.l.Points {
		if b.lies(r, p)+b.lies(s, p) == 3 {
			return true
		}
	}
	return false
}

// busy tells whether the field or another route is in the way of a call.
func (b *book) busy(in api.In, r int) bool {
	for s := range b.s {
		if b.conflict(r, s) && b.s[s].Mode != 0 {
			return true
		}
	}
	for p, point := range b.l.Points {
		if want := b.lies(r, p); want != 0 && want != in.Lies[p] && (in.Occupied[point.Section] || b.holder(point.Section) != -1) {
			return true
		}
	}
	return !b.clear(in, r)
}

func (b *book) command(in api.In, c api.Cmd) api.Errno {
	if c.Route < 0 || c.Route >= len(b.s) {
		return api.ErrNone
	}
	s := &b.s[c.Route]
	switch {
	case c.Kind == 1 && s.Mode != 0, c.Kind == 2 && s.Mode != 1 && s.Mode != 2:
		return api.ErrState
	case c.Kind == 1 && b.busy(in, c.Route):
		return api.ErrBusy
	case c.Kind == 1:
		*s = api.RouteState{Mode: 1}
	case s.Mode == 1:
		*s = api.RouteState{}
	default:
		*s = api.RouteState{Mode: 4}
	}
	return api.OK
}

func (b *book) step(in api.In, r int) {
	s, path := &b.s[r], b.l.Routes[r].Path
	coming := in.Occupied[path[0]]
	switch {
	case s.Mode == 1 && b.right(in, r):
		*s = api.RouteState{Mode: 2}
	case s.Mode == 1 && s.Timer == 8, s.Mode == 4 && s.Timer == 5 && !coming:
		*s = api.RouteState{}
	case (s.Mode == 2 || s.Mode == 4) && coming:
		*s = api.RouteState{Mode: 3, Seen: true}
	case s.Mode == 1, s.Mode == 4:
		s.Timer++
	case s.Mode == 3 && in.Occupied[path[s.Gone]]:
		s.Seen = true
	case s.Mode == 3 && s.Seen && s.Gone == len(path)-1:
		*s = api.RouteState{}
	case s.Mode == 3 && s.Seen:
		*s = api.RouteState{Mode: 3, Gone: s.Gone + 1}
	}
}

func (b *book) cycle(in api.In) api.Out {
	for r := range b.s {
		b.step(in, r)
	}
	o := api.Out{Drive: make([]int, len(b.l.Points)), Proceed: make([]bool, len(b.l.Signals))}
	for p, point := range b.l.Points {
		for r, s := range b.s {
			want := b.lies(r, p)
			if s.Mode == 1 && want != 0 && want != in.Lies[p] && !in.Occupied[point.Section] && !b.heldByAnother(r, point.Section) {
				o.Drive[p] = want
			}
		}
	}
	for signal := range o.Proceed {
		for r, x := range b.l.Routes {
			if x.From == signal && b.s[r].Mode == 2 && b.clear(in, r) && b.right(in, r) {
				o.Proceed[signal] = true
			}
		}
	}
	return o
}

// unsafe is what breaks P5.4, or nothing.
func (b *book) unsafe(in api.In, o api.Out) string {
	for r := range b.s {
		for s := range r {
			if b.conflict(r, s) && b.s[r].Mode != 0 && b.s[s].Mode != 0 {
				return "two that Conflict are both not Idle"
			}
		}
	}
	for p, to := range o.Drive {
		section := b.l.Points[p].Section
		if to == 0 {
			continue
		}
		if in.Occupied[section] {
			return "a point is driven under a train"
		}
		if h := b.holder(section); h != -1 && b.lies(h, p) != to {
			return "a point is driven under another's route"
		}
	}
	for signal, on := range o.Proceed {
		ways := 0
		for r, x := range b.l.Routes {
			if x.From == signal && b.s[r].Mode == 2 && b.clear(in, r) && b.right(in, r) {
				ways++
			}
		}
		if on && ways != 1 {
			return "a signal proceeds without a route that is Locked, clear, and lies right"
		}
	}
	return ""
}

// agree tells whether a Lock stands as the book has it.
func (b *book) agree(k *lock.Lock) bool {
	for section := range b.l.Sections {
		if k.Holder(section) != b.holder(section) {
			return false
		}
	}
	return slices.Equal(k.Routes(), b.s)
}

// cross is three sections, two points, and three routes: x and y need the points in each other's ways beside their own,
// z shares a section with x, and needs the point in y's way as y does. Only x and z exclude one another.
func cross() api.Layout {
	return api.Layout{
		Sections: []string{"a", "b", "c"},
		Points:   []api.Point{{Name: "W", Section: 1}, {Name: "V", Section: 2}},
		Signals:  []string{"S", "T", "U"},
		Routes: []api.Route{
			{Name: "x", From: 2, To: 1, Path: []int{1, 0}, Points: []api.Need{normal(0)}, Flank: []api.Need{reverse(1)}},
			{Name: "y", From: 1, To: 0, Path: []int{2}, Points: []api.Need{reverse(1)}, Flank: []api.Need{normal(0)}},
			{Name: "z", From: 0, To: 1, Path: []int{0}, Flank: []api.Need{reverse(1)}},
		},
	}
}

// ins is all that the field may tell of so many sections and points.
func ins(sections, points int) []api.In {
	all := []api.In{{}}
	for range sections {
		var more []api.In
		for _, in := range all {
			for _, train := range []bool{false, true} {
				more = append(more, api.In{Occupied: append(slices.Clone(in.Occupied), train)})
			}
		}
		all = more
	}
	for range points {
		var more []api.In
		for _, in := range all {
			for lies := range 3 {
				more = append(more, api.In{Occupied: in.Occupied, Lies: append(slices.Clone(in.Lies), lies)})
			}
		}
		all = more
	}
	return all
}

// ways is all that a route over so many sections may be.
func ways(sections int) []api.RouteState {
	l := []api.RouteState{{}, {Mode: 2}}
	for timer := range 9 {
		l = append(l, api.RouteState{Mode: 1, Timer: timer})
	}
	for timer := range 6 {
		l = append(l, api.RouteState{Mode: 4, Timer: timer})
	}
	for gone := range sections {
		l = append(l, api.RouteState{Mode: 3, Gone: gone}, api.RouteState{Mode: 3, Gone: gone, Seen: true})
	}
	return l
}

// P5.1 to P5.4: each command and one cycle, from all that a small layout may be, with all that its field may tell

func TestEveryStep(t *testing.T) {
	l := cross()
	k := made(t, l)
	all := ins(3, 2)
	stands := 0
	for _, x := range ways(2) {
		for _, y := range ways(1) {
			for _, z := range ways(1) {
				from := []api.RouteState{x, y, z}
				may := x.Mode == 0 || z.Mode == 0 // the only ones that Conflict
				if k.Set(from) != may {
					t.Fatalf("Set(%v) = %v", from, !may)
				}
				if may {
					stands++
					everyStep(t, k, l, from, all)
				}
			}
		}
	}
	if stands != 21*19+19*19-19 {
		t.Errorf("the layout may be in %d ways", stands)
	}
}

func everyStep(t *testing.T, k *lock.Lock, l api.Layout, from []api.RouteState, all []api.In) {
	t.Helper()
	for _, in := range all {
		k.Set(from)
		b := &book{l: l, s: slices.Clone(from)}
		o, want := k.Cycle(in), b.cycle(in)
		if !b.agree(k) || !isOut(o, want.Drive, want.Proceed) {
			t.Fatalf("%v with %v: %v, told %v; want %v, told %v", from, in, k.Routes(), o, b.s, want)
		}
		if why := b.unsafe(in, o); why != "" {
			t.Fatalf("%v with %v: %s", from, in, why)
		}
		for r := range from {
			for _, c := range []api.Cmd{call(r), cancel(r)} {
				k.Set(from)
				b := &book{l: l, s: slices.Clone(from)}
				e, want := k.Command(in, c), b.command(in, c)
				if e != want || !b.agree(k) {
					t.Fatalf("%v with %v: Command(%v) = %v, %v; want %v, %v", from, in, c, e, k.Routes(), want, b.s)
				}
			}
		}
	}
}

// dice are numbers that are the same in every run.
type dice uint64

func (d *dice) under(n int) int {
	*d = *d*6364136223846793005 + 1442695040888963407
	return int(uint64(*d) >> 33 % uint64(n))
}

// layout is one that may be, its routes short, so that several can stand at one time.
func (d *dice) layout() api.Layout {
	l := api.Layout{}
	for i := range 2 + d.under(api.MaxSections-1) {
		l.Sections = append(l.Sections, "a"+strconv.Itoa(i))
	}
	for i := range 2 + d.under(api.MaxSignals-1) {
		l.Signals = append(l.Signals, "s"+strconv.Itoa(i))
	}
	for i := range d.under(api.MaxPoints + 1) {
		l.Points = append(l.Points, api.Point{Name: "p" + strconv.Itoa(i), Section: d.under(len(l.Sections))})
	}
	for i := range 1 + d.under(api.MaxRoutes) {
		r := api.Route{Name: "r" + strconv.Itoa(i), From: d.under(len(l.Signals))}
		r.To = (r.From + 1 + d.under(len(l.Signals)-1)) % len(l.Signals)
		for range 1 + d.under(1+d.under(api.MaxPath)) {
			if section := d.under(len(l.Sections)); !slices.Contains(r.Path, section) {
				r.Path = append(r.Path, section)
			}
		}
		for p, point := range l.Points {
			n := api.Need{Point: p, Reverse: d.under(4) == 0}
			if slices.Contains(r.Path, point.Section) {
				r.Points = append(r.Points, n)
			} else if d.under(3) == 0 {
				r.Flank = append(r.Flank, n)
			}
		}
		l.Routes = append(l.Routes, r)
	}
	return l
}

// move is the field a cycle later: points that are driven get there sometimes, trains come, go, and follow routes.
func (d *dice) move(in api.In, o api.Out, b *book) api.In {
	then := api.In{Occupied: slices.Clone(in.Occupied), Lies: slices.Clone(in.Lies)}
	for p, to := range o.Drive {
		if to != 0 && d.under(3) == 0 {
			then.Lies[p] = to
		}
	}
	if len(then.Lies) > 0 && d.under(8) == 0 {
		then.Lies[d.under(len(then.Lies))] = d.under(3)
	}
	for r, s := range b.s {
		path := b.l.Routes[r].Path
		if s.Mode == 3 && d.under(2) == 0 {
			then.Occupied[path[s.Gone]] = !s.Seen
		} else if s.Mode > 1 && d.under(16) == 0 {
			then.Occupied[path[0]] = true
		}
	}
	if section := d.under(len(then.Occupied)); d.under(6) == 0 {
		then.Occupied[section] = !then.Occupied[section] && d.under(3) == 0
	}
	return then
}

// seen is how often what matters came about in many runs.
type seen struct {
	answers                 [9]int // of each error
	modes                   [5]int // of each mode
	drives, proceeds, pairs int
}

func (n *seen) count(b *book, o api.Out) {
	moving := 0
	for _, s := range b.s {
		n.modes[s.Mode]++
		if s.Mode != 0 {
			moving++
		}
	}
	if moving > 1 {
		n.pairs++
	}
	if slices.ContainsFunc(o.Drive, func(to int) bool { return to != 0 }) {
		n.drives++
	}
	if slices.Contains(o.Proceed, true) {
		n.proceeds++
	}
}

// P5.1 to P5.4, P0.2: long runs of many layouts, each call against the book, and nothing that is unsafe

func TestManyRuns(t *testing.T) {
	d := dice(5)
	n := &seen{}
	for range 1500 {
		l := d.layout()
		run(t, &d, l, n)
	}
	for e, times := range n.answers {
		want := slices.Contains([]int{int(api.OK), int(api.ErrNone), int(api.ErrState), int(api.ErrBusy)}, e)
		if want && times < 500 || !want && times > 0 {
			t.Errorf("error %d: %d times", e, times)
		}
	}
	for mode, times := range n.modes {
		if times < 2000 {
			t.Errorf("mode %d: %d times", mode, times)
		}
	}
	if min(n.drives, n.proceeds, n.pairs) < 2000 {
		t.Errorf("drives %d, proceeds %d, several routes %d times", n.drives, n.proceeds, n.pairs)
	}
}

func run(t *testing.T, d *dice, l api.Layout, n *seen) {
	t.Helper()
	k := made(t, l)
	b := &book{l: l, s: make([]api.RouteState, len(l.Routes))}
	in := api.In{Occupied: make([]bool, len(l.Sections)), Lies: make([]int, len(l.Points))}
	for p := range in.Lies {
		in.Lies[p] = 1
	}
	for range 100 {
		for range d.under(3) {
			c := api.Cmd{Kind: 1, Route: d.under(len(l.Routes))}
			if d.under(12) == 0 {
				c.Kind = 2
			}
			if d.under(20) == 0 {
				c.Route = len(l.Routes)
			}
			e := k.Command(in, c)
			n.answers[e]++
			if want := b.command(in, c); e != want || !b.agree(k) {
				t.Fatalf("%v, %v: Command(%v) = %v, %v; want %v, %v", l, in, c, e, k.Routes(), want, b.s)
			}
		}
		o := k.Cycle(in)
		if want := b.cycle(in); !b.agree(k) || !isOut(o, want.Drive, want.Proceed) {
			t.Fatalf("%v, %v: Cycle = %v, %v; want %v, %v", l, in, o, k.Routes(), want, b.s)
		}
		if why := b.unsafe(in, o); why != "" {
			t.Fatalf("%v, %v: %v, %v: %s", l, in, b.s, o, why)
		}
		if !k.Set(b.s) || !b.agree(k) {
			t.Fatalf("%v: Set(%v) of what stands", l, b.s)
		}
		n.count(b, o)
		in = d.move(in, o, b)
	}
}
