package table_test

import (
	"fmt"
	"math"
	"slices"
	"strconv"
	"testing"

	"pointsman/api"
	"pointsman/table"
)

// P4.2: Needs

func TestNeeds(t *testing.T) {
	l := junction()
	for r, want := range [][]api.Need{
		{{Point: 0}, {Point: 2, Reverse: true}, {Point: 1}, {Point: 3, Reverse: true}},
		{{Point: 1}, {Point: 3, Reverse: true}},
		nil,
		{{Point: 1, Reverse: true}, {Point: 0, Reverse: true}, {Point: 2}},
	} {
		if got := table.Needs(l, r); !slices.Equal(got, want) {
			t.Errorf("Needs(%d) = %v; want %v", r, got, want)
		}
	}
	l.Routes[1].Flank = nil
	if got := table.Needs(l, 1); !slices.Equal(got, needs(1)) {
		t.Errorf("Needs without a flank = %v", got)
	}
	l.Routes[2].Flank = needs(0, 2)
	if got := table.Needs(l, 2); !slices.Equal(got, needs(0, 2)) {
		t.Errorf("Needs of a flank alone = %v", got)
	}
}

// P4.2, P4.3: Conflict, for one reason at a time

// twoWays has one route over a and one over b that have nothing in common; both points lie beside them.
func twoWays() api.Layout {
	return api.Layout{
		Sections: []string{"a", "b", "c", "d"},
		Points:   []api.Point{{Name: "p", Section: 0}, {Name: "q", Section: 2}, {Name: "r", Section: 3}},
		Signals:  []string{"s", "t", "u", "v"},
		Routes: []api.Route{
			{Name: "x", From: 0, To: 1, Path: []int{0}, Points: needs(0)},
			{Name: "y", From: 2, To: 3, Path: []int{1}},
		},
	}
}

func TestConflict(t *testing.T) {
	turned := func(point int) []api.Need { return []api.Need{{Point: point, Reverse: true}} }
	for _, x := range []struct {
		change
		want bool
	}{
		{change{"nothing in common", func(l *api.Layout) {}}, false},
		{change{"one To", func(l *api.Layout) { l.Routes[1].To = 1 }}, false},
		{change{"the To of one is the From of the other", func(l *api.Layout) { l.Routes[1].From, l.Routes[1].To = 1, 2 }}, false},
		{change{"from end to end and back", func(l *api.Layout) { l.Routes[1].From, l.Routes[1].To = 1, 0 }}, false},
		{change{"one From", func(l *api.Layout) { l.Routes[1].From = 0 }}, true},
		{change{"one From and one To", func(l *api.Layout) { l.Routes[1].From, l.Routes[1].To = 0, 1 }}, true},
		{change{"one section", func(l *api.Layout) { l.Routes[1].Path, l.Routes[1].Points = []int{0}, needs(0) }}, true},
		{change{"one section, the last of both", func(l *api.Layout) { l.Routes[0].Path, l.Routes[1].Path = []int{0, 3}, []int{1, 3} }}, true},
		{change{"one section, first and last", func(l *api.Layout) { l.Routes[0].Path, l.Routes[1].Path = []int{3, 0}, []int{1, 3} }}, true},
		{change{"one section in the middle", func(l *api.Layout) { l.Routes[0].Path, l.Routes[1].Path = []int{0, 2}, []int{1, 2, 3} }}, true},
		{change{"longer ways apart", func(l *api.Layout) { l.Routes[0].Path, l.Routes[1].Path = []int{0, 2}, []int{1, 3} }}, false},
		{change{"within and beside, in one position", func(l *api.Layout) { l.Routes[1].Flank = needs(0) }}, false},
		{change{"within and beside, in unlike positions", func(l *api.Layout) { l.Routes[1].Flank = turned(0) }}, true},
		{change{"within reverse, beside normal", func(l *api.Layout) { l.Routes[0].Points, l.Routes[1].Flank = turned(0), needs(0) }}, true},
		{change{"within and beside, both reverse", func(l *api.Layout) { l.Routes[0].Points, l.Routes[1].Flank = turned(0), turned(0) }}, false},
		{change{"beside both, in one position", func(l *api.Layout) { l.Routes[0].Flank, l.Routes[1].Flank = needs(1), needs(1) }}, false},
		{change{"beside both, in unlike positions", func(l *api.Layout) { l.Routes[0].Flank, l.Routes[1].Flank = needs(1), turned(1) }}, true},
		{change{"beside both, both reverse", func(l *api.Layout) { l.Routes[0].Flank, l.Routes[1].Flank = turned(1), turned(1) }}, false},
		{change{"unlike points in unlike positions", func(l *api.Layout) { l.Routes[0].Flank, l.Routes[1].Flank = needs(1), turned(2) }}, false},
		{change{"one of several in unlike positions", func(l *api.Layout) {
			l.Routes[0].Flank, l.Routes[1].Flank = needs(1, 2), []api.Need{{Point: 0}, {Point: 1}, {Point: 2, Reverse: true}}
		}}, true},
		{change{"several in one position", func(l *api.Layout) { l.Routes[0].Flank, l.Routes[1].Flank = needs(1, 2), needs(0, 1, 2) }}, false},
	} {
		l := twoWays()
		x.make(&l)
		if table.Conflict(l, 0, 1) != x.want || table.Conflict(l, 1, 0) != x.want {
			t.Errorf("%s: Conflict = %v and %v; want %v", x.what, table.Conflict(l, 0, 1), table.Conflict(l, 1, 0), x.want)
		}
		if !table.Conflict(l, 0, 0) || !table.Conflict(l, 1, 1) {
			t.Errorf("%s: a route does not exclude itself", x.what)
		}
	}
}

func TestConflictJunction(t *testing.T) {
	l := junction()
	want := [][]bool{
		{true, false, true, true},
		{false, true, false, true},
		{true, false, true, false},
		{true, true, false, true},
	}
	for r := range l.Routes {
		for s := range l.Routes {
			if table.Conflict(l, r, s) != want[r][s] {
				t.Errorf("Conflict(%d, %d) = %v", r, s, !want[r][s])
			}
		}
	}
}

// P4.2: Entry

func TestEntry(t *testing.T) {
	l := junction()
	for signal, want := range [][]int{{0, 2}, {1}, {3}, nil} {
		if got := table.Entry(l, signal); !slices.Equal(got, want) {
			t.Errorf("Entry(%d) = %v; want %v", signal, got, want)
		}
	}
	for _, signal := range []int{-1, 4, math.MaxInt, math.MinInt} {
		if got := table.Entry(l, signal); len(got) != 0 {
			t.Errorf("Entry(%d) = %v", signal, got)
		}
	}
	l = api.Layout{Sections: row(1), Signals: row(2), Routes: routeRow(api.MaxRoutes)}
	if got := table.Entry(l, 0); !slices.Equal(got, []int{0, 1, 2, 3, 4, 5}) {
		t.Errorf("all from one signal: Entry = %v", got)
	}
	if got := table.Entry(l, 1); len(got) != 0 {
		t.Errorf("all to a signal, none from it: Entry = %v", got)
	}
	if got := table.Entry(api.Layout{Sections: row(1), Signals: row(1)}, 0); len(got) != 0 {
		t.Errorf("no routes: Entry = %v", got)
	}
}

// dice are numbers that are the same in every run.
type dice uint64

func (d *dice) under(n int) int {
	*d = *d*6364136223846793005 + 1442695040888963407
	return int(uint64(*d) >> 33 % uint64(n))
}

func (d *dice) layout() api.Layout {
	l := api.Layout{Sections: row(1 + d.under(api.MaxSections)), Signals: row(2 + d.under(api.MaxSignals-1)), Points: pointRow(d.under(api.MaxPoints + 1))}
	for i := range l.Points {
		l.Points[i].Section = d.under(len(l.Sections))
	}
	for i := range d.under(api.MaxRoutes + 1) {
		l.Routes = append(l.Routes, d.route(l, "x"+strconv.Itoa(i)))
	}
	return l
}

func (d *dice) route(l api.Layout, name string) api.Route {
	r := api.Route{Name: name, From: d.under(len(l.Signals))}
	r.To = (r.From + 1 + d.under(len(l.Signals)-1)) % len(l.Signals)
	for range 1 + d.under(api.MaxPath) {
		if s := d.under(len(l.Sections)); !slices.Contains(r.Path, s) {
			r.Path = append(r.Path, s)
		}
	}
	for i, p := range l.Points {
		n := api.Need{Point: i, Reverse: d.under(3) == 0}
		if slices.Contains(r.Path, p.Section) {
			r.Points = append(r.Points, n)
		} else if d.under(2) == 0 {
			r.Flank = append(r.Flank, n)
		}
	}
	return r
}

// clash is the words of P4.2, place by place.
func clash(l api.Layout, r, s int) bool {
	a, b := l.Routes[r], l.Routes[s]
	var ways, lies [2][api.MaxSections]int
	for i, x := range []api.Route{a, b} {
		for _, section := range x.Path {
			ways[i][section] = 1
		}
		for _, row := range [][]api.Need{x.Points, x.Flank} {
			for _, n := range row {
				lies[i][n.Point] = 1
				if n.Reverse {
					lies[i][n.Point] = 2
				}
			}
		}
	}
	for i := range api.MaxSections {
		if ways[0][i]+ways[1][i] == 2 || lies[0][i]+lies[1][i] == 3 {
			return true
		}
	}
	return r == s || a.From == b.From
}

// P4.1, P4.2, P4.3: many layouts, all of which may be

func TestManyLayouts(t *testing.T) {
	d := dice(4)
	seen := map[bool]int{}
	for range 20000 {
		l := d.layout()
		if !table.Is(l) {
			t.Fatalf("may not be: %v", l)
		}
		for r := range l.Routes {
			for s := range l.Routes {
				want := clash(l, r, s)
				if table.Conflict(l, r, s) != want || table.Conflict(l, s, r) != want {
					t.Fatalf("Conflict(%d, %d) or its turn is not %v: %v", r, s, want, l)
				}
				if r != s {
					seen[want]++
				}
			}
			if want := append(slices.Clone(l.Routes[r].Points), l.Routes[r].Flank...); !slices.Equal(table.Needs(l, r), want) {
				t.Fatalf("Needs(%d) = %v; want %v", r, table.Needs(l, r), want)
			}
		}
		for signal := range l.Signals {
			var want []int
			for i := range l.Routes {
				if l.Routes[i].From == signal {
					want = append(want, i)
				}
			}
			if !slices.Equal(table.Entry(l, signal), want) {
				t.Fatalf("Entry(%d) = %v; want %v", signal, table.Entry(l, signal), want)
			}
		}
	}
	if seen[true] < 1000 || seen[false] < 1000 {
		t.Errorf("seldom one or the other: %v", seen)
	}
}

// W1: of layouts and routes that are none nothing is said but that the call ends.

func TestWhatMayNotBe(t *testing.T) {
	odd := []int{-1, 0, 1, 2, 4, math.MaxInt, math.MinInt}
	for _, i := range odd {
		for _, l := range []api.Layout{
			{},
			junction(),
			{Points: []api.Point{{Section: i}}, Routes: []api.Route{{From: i, To: i, Path: []int{i}, Points: needs(i), Flank: needs(i)}, {}}},
			{Sections: row(1), Signals: row(2), Points: []api.Point{{Name: "p", Section: i}}, Routes: []api.Route{{Name: "x", To: 1, Path: []int{0, i}, Points: needs(0, i), Flank: needs(0, i)}}},
		} {
			table.Is(l)
			table.Entry(l, i)
			for _, r := range odd {
				if got := table.Needs(l, r); (r < 0 || r >= len(l.Routes)) && len(got) != 0 {
					t.Errorf("Needs(%d) of %d routes = %v", r, len(l.Routes), got)
				}
				for _, s := range odd {
					if table.Conflict(l, r, s) != table.Conflict(l, s, r) {
						t.Errorf("Conflict(%d, %d) hangs on which is which", r, s)
					}
				}
			}
		}
	}
}

// P4.3, W6: what is handed in is neither changed nor kept, and what is answered is new memory

// roomy is the same layout with something in the spare room of each list.
func roomy(l api.Layout) api.Layout {
	l.Sections = append(l.Sections, "spare")[:len(l.Sections)]
	l.Points = append(l.Points, api.Point{Name: "spare"})[:len(l.Points)]
	l.Signals = append(l.Signals, "spare")[:len(l.Signals)]
	for i := range l.Routes {
		r := &l.Routes[i]
		r.Path = append(r.Path, -9)[:len(r.Path)]
		r.Points = append(r.Points, needs(-9)...)[:len(r.Points)]
		r.Flank = append(r.Flank, needs(-9)...)[:len(r.Flank)]
	}
	l.Routes = append(l.Routes, api.Route{Name: "spare"})[:len(l.Routes)]
	return l
}

// shown is all of a layout, with one element of each list's spare room.
func shown(l api.Layout) string {
	var b []any
	b = append(b, l.Sections[:len(l.Sections)+1], l.Points[:len(l.Points)+1], l.Signals[:len(l.Signals)+1])
	for _, r := range l.Routes {
		b = append(b, r.Name, r.From, r.To, r.Path[:len(r.Path)+1], r.Points[:len(r.Points)+1], r.Flank[:len(r.Flank)+1])
	}
	return fmt.Sprint(append(b, l.Routes[:len(l.Routes)+1][len(l.Routes)])...)
}

// spoil overwrites a list with its spare room.
func spoil[T any](row []T, with T) {
	row = row[:cap(row)]
	for i := range row {
		row[i] = with
	}
}

func TestHandedInStays(t *testing.T) {
	l := roomy(junction())
	was := shown(l)
	table.Is(l)
	for r := range l.Routes {
		spoil(table.Needs(l, r), api.Need{Point: 77, Reverse: true})
		for s := range l.Routes {
			table.Conflict(l, r, s)
		}
	}
	for signal := range l.Signals {
		spoil(table.Entry(l, signal), 77)
	}
	if shown(l) != was {
		t.Errorf("was %s\nis %s", was, shown(l))
	}
}

func TestAnswersStay(t *testing.T) {
	l := junction()
	first, second := table.Needs(l, 0), table.Needs(l, 0)
	spoil(first, api.Need{Point: 77})
	spoil(l.Routes[0].Points, api.Need{Point: 78})
	spoil(l.Routes[0].Flank, api.Need{Point: 79})
	if want := table.Needs(junction(), 0); !slices.Equal(second, want) {
		t.Errorf("Needs became %v", second)
	}
	l = junction()
	one, other := table.Entry(l, 0), table.Entry(l, 0)
	spoil(one, 77)
	l.Routes[0].From, l.Routes[2].From = 3, 3
	if !slices.Equal(other, []int{0, 2}) {
		t.Errorf("Entry became %v", other)
	}
	if got := table.Entry(l, 3); !slices.Equal(got, []int{0, 2}) {
		t.Errorf("Entry of what is another layout now = %v", got)
	}
}
