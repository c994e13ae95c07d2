package table_test

import (
	"math"
	"slices"
	"strconv"
	"strings"
	"testing"

	"pointsman/api"
	"pointsman/table"
)

// junction has points within ways and beside them: W lies in b, V in d, U in b too, T in f, over which no way leads.
func junction() api.Layout {
	return api.Layout{
		Sections: []string{"a", "b", "c", "d", "e", "f"},
		Points:   []api.Point{{Name: "W", Section: 1}, {Name: "V", Section: 3}, {Name: "U", Section: 1}, {Name: "T", Section: 5}},
		Signals:  []string{"S1", "S2", "S3", "S4"},
		Routes: []api.Route{
			{Name: "one", From: 0, To: 1, Path: []int{0, 1, 2}, Points: []api.Need{{Point: 0}, {Point: 2, Reverse: true}}, Flank: []api.Need{{Point: 1}, {Point: 3, Reverse: true}}},
			{Name: "two", From: 1, To: 0, Path: []int{3}, Points: []api.Need{{Point: 1}}, Flank: []api.Need{{Point: 3, Reverse: true}}},
			{Name: "é3", From: 0, To: 2, Path: []int{4}},
			{Name: "four", From: 2, To: 0, Path: []int{2, 3}, Points: []api.Need{{Point: 1, Reverse: true}}, Flank: []api.Need{{Point: 0, Reverse: true}, {Point: 2}}},
		},
	}
}

// needs are of these points, each normal.
func needs(points ...int) []api.Need {
	var row []api.Need
	for _, p := range points {
		row = append(row, api.Need{Point: p})
	}
	return row
}

// row is so many names of a kind, no two alike.
func row(n int) []string {
	var names []string
	for i := range n {
		names = append(names, "n"+strconv.Itoa(i))
	}
	return names
}

func pointRow(n int) []api.Point {
	var points []api.Point
	for _, name := range row(n) {
		points = append(points, api.Point{Name: name})
	}
	return points
}

func routeRow(n int) []api.Route {
	var routes []api.Route
	for _, name := range row(n) {
		routes = append(routes, api.Route{Name: name, To: 1, Path: []int{0}})
	}
	return routes
}

// A change makes another layout out of the junction.
type change struct {
	what string
	make func(l *api.Layout)
}

func expect(t *testing.T, want bool, changes []change) {
	t.Helper()
	for _, c := range changes {
		l := junction()
		c.make(&l)
		if table.Is(l) != want {
			t.Errorf("%s: Is = %v", c.what, !want)
		}
	}
}

// way puts another way in place of route two, which leads over d alone.
func way(path []int, points, flank []api.Need) func(l *api.Layout) {
	return func(l *api.Layout) {
		l.Routes[1].Path, l.Routes[1].Points, l.Routes[1].Flank = path, points, flank
	}
}

// P4.1: how many there are

func TestIsCounts(t *testing.T) {
	for n := range 2*api.MaxSections + 1 {
		for _, x := range []struct {
			what string
			l    api.Layout
			want bool
		}{
			{"sections", api.Layout{Sections: row(n), Signals: row(1)}, 1 <= n && n <= 10},
			{"signals", api.Layout{Sections: row(1), Signals: row(n)}, 1 <= n && n <= 6},
			{"points", api.Layout{Sections: row(1), Signals: row(1), Points: pointRow(n)}, n <= 5},
			{"routes", api.Layout{Sections: row(1), Signals: row(2), Routes: routeRow(n)}, n <= 6},
		} {
			if table.Is(x.l) != x.want {
				t.Errorf("%d %s: Is = %v", n, x.what, !x.want)
			}
		}
	}
	most := api.Layout{Sections: row(api.MaxSections), Points: pointRow(api.MaxPoints), Signals: row(api.MaxSignals), Routes: routeRow(api.MaxRoutes)}
	for i := range most.Points {
		most.Points[i].Section = api.MaxSections - 1 - i
	}
	for i := range most.Routes {
		most.Routes[i].To = api.MaxSignals - 1
		most.Routes[i].Path = []int{4, 0, 3, 1, 2}
		most.Routes[i].Flank = needs(0, 1, 2, 3, 4)
	}
	if !table.Is(most) {
		t.Error("as many of all as there may be: Is = false")
	}
	for n := range api.MaxSections + 1 {
		most.Routes[5].Path = make([]int, n)
		for i := range n {
			most.Routes[5].Path[i] = i
		}
		most.Routes[5].Points, most.Routes[5].Flank = nil, nil
		for i, p := range most.Points {
			if p.Section < n {
				most.Routes[5].Points = append(most.Routes[5].Points, api.Need{Point: i})
			}
		}
		if table.Is(most) != (1 <= n && n <= 5) {
			t.Errorf("a path of %d: Is = %v", n, table.Is(most))
		}
	}
}

// P4.1, W5: nil and empty rows

func TestIsNilAndEmpty(t *testing.T) {
	if table.Is(api.Layout{}) || table.Is(api.Layout{Sections: []string{}, Points: []api.Point{}, Signals: []string{}, Routes: []api.Route{}}) {
		t.Error("a layout of nothing may be")
	}
	if !table.Is(api.Layout{Sections: row(1), Points: []api.Point{}, Signals: row(1), Routes: []api.Route{}}) {
		t.Error("empty rows of points and routes may not be")
	}
	expect(t, true, []change{
		{"nil rows", way([]int{4}, nil, nil)},
		{"empty rows", way([]int{4}, []api.Need{}, []api.Need{})},
	})
	expect(t, false, []change{
		{"a nil path", way(nil, nil, nil)},
		{"an empty path", way([]int{}, []api.Need{}, []api.Need{})},
		{"a nil path with points", way(nil, needs(1), nil)},
		{"sections nil", func(l *api.Layout) { l.Sections = nil }},
		{"signals empty", func(l *api.Layout) { l.Signals = []string{} }},
		{"points nil, though routes have some", func(l *api.Layout) { l.Points = nil }},
	})
}

// P4.1: names

func renamings(name string) []change {
	return []change{
		{"section " + strconv.Quote(name), func(l *api.Layout) { l.Sections[0] = name }},
		{"last section " + strconv.Quote(name), func(l *api.Layout) { l.Sections[5] = name }},
		{"point " + strconv.Quote(name), func(l *api.Layout) { l.Points[0].Name = name }},
		{"last point " + strconv.Quote(name), func(l *api.Layout) { l.Points[3].Name = name }},
		{"signal " + strconv.Quote(name), func(l *api.Layout) { l.Signals[0] = name }},
		{"last signal " + strconv.Quote(name), func(l *api.Layout) { l.Signals[3] = name }},
		{"route " + strconv.Quote(name), func(l *api.Layout) { l.Routes[0].Name = name }},
		{"last route " + strconv.Quote(name), func(l *api.Layout) { l.Routes[3].Name = name }},
	}
}

func TestIsNames(t *testing.T) {
	for _, name := range []string{
		"x", "Z9", "éßŁ", "\u00c0\u024f", "abcdefgh", "éééééééé", "x1234567",
		"Set", "SET", "sets", "se", "seta", "Flank", "flanks", "flan", "set1",
		"section", "signal", "point", "route", "via", "in", "from", "to",
	} {
		expect(t, true, renamings(name))
	}
	for _, name := range []string{
		"", " ", "7", "1a", "a b", " a", "a ", "a-", "a+", "#", "a\n", "abcdefghi", "ééééééééé", strings.Repeat("x", 100000),
		"\xff", "a\xff", "\xc3", "a\ufffd", "a\u00d7", "\u00f7", "\u0250", "a\x00", "日",
		"set", "flank",
	} {
		expect(t, false, renamings(name))
	}
}

func TestIsNamesTwice(t *testing.T) {
	expect(t, false, []change{
		{"sections side by side", func(l *api.Layout) { l.Sections[1] = "a" }},
		{"sections far apart", func(l *api.Layout) { l.Sections[5] = "a" }},
		{"points side by side", func(l *api.Layout) { l.Points[1].Name = "W" }},
		{"points far apart", func(l *api.Layout) { l.Points[3].Name = "W" }},
		{"points of one section", func(l *api.Layout) { l.Points[2].Name = "W" }},
		{"signals side by side", func(l *api.Layout) { l.Signals[3] = "S3" }},
		{"signals far apart", func(l *api.Layout) { l.Signals[3] = "S1" }},
		{"routes side by side", func(l *api.Layout) { l.Routes[2].Name = "two" }},
		{"routes far apart", func(l *api.Layout) { l.Routes[3].Name = "one" }},
	})
	expect(t, true, []change{
		{"once of each kind", func(l *api.Layout) {
			l.Sections[2], l.Points[1].Name, l.Signals[0], l.Routes[3].Name = "x", "x", "x", "x"
		}},
		{"a section and a signal", func(l *api.Layout) { l.Signals[3] = "a" }},
		{"a point and a route", func(l *api.Layout) { l.Points[0].Name = "one" }},
		{"a section and a point", func(l *api.Layout) { l.Sections[5] = "W" }},
		{"small and great", func(l *api.Layout) { l.Sections[0] = "B" }},
		{"with and without an accent", func(l *api.Layout) { l.Sections[0], l.Sections[1] = "o", "ö" }},
	})
}

// P4.1: where points lie

func TestIsPoints(t *testing.T) {
	for _, i := range []int{-1, 6, 7, math.MaxInt, math.MinInt} {
		expect(t, false, []change{
			{"the first point", func(l *api.Layout) { l.Points[0].Section = i }},
			{"the last point", func(l *api.Layout) { l.Points[3].Section = i }},
			{"a point without routes", func(l *api.Layout) { l.Points[3].Section, l.Routes = i, nil }},
		})
	}
	expect(t, true, []change{
		{"the first section", func(l *api.Layout) { l.Points[3].Section, l.Routes = 0, nil }},
		{"the last section", func(l *api.Layout) { l.Points[0].Section, l.Routes = 5, nil }},
		{"all in one section", func(l *api.Layout) { l.Points, l.Routes = pointRow(5), nil }},
	})
}

// P4.1: from where and to where

func TestIsSignalsOfRoutes(t *testing.T) {
	for from := -2; from <= 6; from++ {
		for to := -2; to <= 6; to++ {
			want := 0 <= from && from < 4 && 0 <= to && to < 4 && from != to
			expect(t, want, []change{
				{"first route", func(l *api.Layout) { l.Routes[0].From, l.Routes[0].To = from, to }},
				{"last route", func(l *api.Layout) { l.Routes[3].From, l.Routes[3].To = from, to }},
			})
		}
	}
	for _, i := range []int{math.MaxInt, math.MinInt} {
		expect(t, false, []change{
			{"From far off", func(l *api.Layout) { l.Routes[0].From = i }},
			{"To far off", func(l *api.Layout) { l.Routes[0].To = i }},
		})
	}
	expect(t, true, []change{
		{"two routes from one to one", func(l *api.Layout) { l.Routes[2].To = 1 }},
	})
}

// P4.1: paths

func TestIsPaths(t *testing.T) {
	expect(t, true, []change{
		{"falling", way([]int{3, 0}, needs(1), nil)},
		{"the last section", way([]int{5}, needs(3), nil)},
		{"two points in one section", way([]int{1}, needs(0, 2), nil)},
		{"points rise where sections fall", way([]int{5, 3, 1}, needs(0, 1, 2, 3), nil)},
	})
	expect(t, false, []change{
		{"side by side twice", way([]int{3, 3}, needs(1), nil)},
		{"far apart twice", way([]int{4, 3, 2, 4}, needs(1), nil)},
		{"twice without points", way([]int{4, 4}, nil, nil)},
		{"six", way([]int{0, 1, 2, 3, 4, 5}, needs(0, 1, 2, 3), nil)},
		{"very long", way(make([]int, 1<<20), nil, nil)},
	})
	for _, i := range []int{-1, 6, math.MaxInt, math.MinInt} {
		expect(t, false, []change{
			{"alone, not there", way([]int{i}, nil, nil)},
			{"first, not there", way([]int{i, 4}, nil, nil)},
			{"last, not there", way([]int{4, 0, i}, nil, nil)},
		})
	}
}

// P4.1: points of routes, in their ways and beside them

func TestIsNeeds(t *testing.T) {
	over := []int{1, 3} // W, V and U lie in it, T beside
	expect(t, true, []change{
		{"all of them", way(over, needs(0, 1, 2), nil)},
		{"unlike positions", way(over, []api.Need{{Point: 0, Reverse: true}, {Point: 1}, {Point: 2, Reverse: true}}, nil)},
		{"with the one beside", way(over, needs(0, 1, 2), needs(3))},
		{"all beside", way([]int{4}, nil, needs(0, 1, 2, 3))},
		{"some beside", way([]int{4}, nil, needs(0, 3))},
		{"beside, lower than those within", way([]int{5}, needs(3), needs(0, 2))},
	})
	expect(t, false, []change{
		{"none of them", way(over, nil, nil)},
		{"the first is lacking", way(over, needs(1, 2), nil)},
		{"the middle one is lacking", way(over, needs(0, 2), nil)},
		{"the last is lacking", way(over, needs(0, 1), nil)},
		{"one too many", way(over, needs(0, 1, 2, 3), nil)},
		{"one too many without any", way([]int{4}, needs(0), nil)},
		{"one for another", way(over, needs(0, 1, 3), nil)},
		{"one twice", way(over, needs(0, 1, 1, 2), nil)},
		{"one twice in both positions", way([]int{3}, []api.Need{{Point: 1}, {Point: 1, Reverse: true}}, nil)},
		{"one twice in another's place", way(over, needs(0, 1, 1), nil)},
		{"falling", way(over, needs(2, 1, 0), nil)},
		{"two exchanged", way(over, needs(0, 2, 1), nil)},
		{"in the order of the path", way([]int{3, 1}, needs(1, 0, 2), nil)},
		{"one within as one beside too", way(over, needs(0, 1, 2), needs(1))},
		{"one within as one beside alone", way(over, needs(0, 2), needs(1))},
		{"one within beside, behind a right one", way([]int{1}, needs(0, 2), needs(1, 2))},
		{"the one beside twice", way(over, needs(0, 1, 2), needs(3, 3))},
		{"beside twice in both positions", way([]int{4}, nil, []api.Need{{Point: 1}, {Point: 1, Reverse: true}})},
		{"beside, falling", way([]int{4}, nil, needs(3, 0))},
		{"beside, rising and falling", way([]int{4}, nil, needs(0, 2, 1))},
		{"beside, very many", way([]int{4}, nil, make([]api.Need, 1<<20))},
		{"within, very many", way([]int{4}, make([]api.Need, 1<<20), nil)},
	})
	for _, i := range []int{-1, 4, 5, math.MaxInt, math.MinInt} {
		expect(t, false, []change{
			{"within, not there", way([]int{4}, needs(i), nil)},
			{"in place of one within", way([]int{3}, needs(i), nil)},
			{"behind one within", way([]int{3}, needs(1, i), nil)},
			{"ahead of one within", way([]int{3}, needs(i, 1), nil)},
			{"beside, not there", way([]int{4}, nil, needs(i))},
			{"behind one beside", way([]int{4}, nil, needs(0, i))},
			{"ahead of one beside", way([]int{4}, nil, needs(i, 0))},
		})
	}
}

// P4.1: every short way over three sections, with every short row of points, against the words of the promise

func TestIsEveryWay(t *testing.T) {
	paths := lists(-1, 3, 3)
	rows := lists(-1, 3, 3)
	var needed [][]api.Need
	for _, points := range rows {
		needed = append(needed, needs(points...))
	}
	may := 0
	for _, sections := range [][]int{{0, 1, 2}, {1, 1, 0}, {2, 2, 2}} {
		l := api.Layout{Sections: row(3), Signals: row(2), Routes: []api.Route{{Name: "x", To: 1}}}
		for i, name := range row(3) {
			l.Points = append(l.Points, api.Point{Name: name, Section: sections[i]})
		}
		for _, path := range paths {
			l.Routes[0].Path = path
			for i, points := range rows {
				l.Routes[0].Points = needed[i]
				for j, flank := range rows {
					l.Routes[0].Flank = needed[j]
					want := len(path) > 0 && apart(path, 0, 2) && rightNeeds(sections, path, points, flank)
					if table.Is(l) != want {
						t.Fatalf("points in %v, path %v, points %v, flank %v: Is = %v", sections, path, points, flank, !want)
					}
					if want {
						may++
					}
				}
			}
		}
	}
	if may != 30+34+43 { // counted by hand
		t.Errorf("%d ways may be", may)
	}
}

// lists is every list of at most so many numbers from low to high.
func lists(low, high, most int) [][]int {
	all := [][]int{nil}
	for begin := 0; most > 0; most-- {
		end := len(all)
		for _, l := range all[begin:end] {
			for n := low; n <= high; n++ {
				all = append(all, append(slices.Clone(l), n))
			}
		}
		begin = end
	}
	return all
}

// apart tells whether numbers are from low to high, none twice.
func apart(row []int, low, high int) bool {
	times := map[int]int{}
	for _, n := range row {
		times[n]++
		if n < low || n > high || times[n] > 1 {
			return false
		}
	}
	return true
}

func rightNeeds(sections, path, points, flank []int) bool {
	if !apart(points, 0, len(sections)-1) || !apart(flank, 0, len(sections)-1) || !slices.IsSorted(points) || !slices.IsSorted(flank) {
		return false
	}
	for p, section := range sections {
		within := slices.Contains(path, section)
		if within != slices.Contains(points, p) || within && slices.Contains(flank, p) {
			return false
		}
	}
	return true
}

// P4.1: each part is asked of, whatever else is right

func TestIsJunction(t *testing.T) {
	if !table.Is(junction()) {
		t.Fatal("the junction may not be")
	}
	expect(t, false, []change{
		{"the last route alone is wrong", func(l *api.Layout) { l.Routes[3].Flank[1].Point = 1 }},
		{"the first route alone is wrong", func(l *api.Layout) { l.Routes[0].Path[2] = 3 }},
		{"a section less", func(l *api.Layout) { l.Sections = l.Sections[:5] }},
		{"a point less", func(l *api.Layout) { l.Points = l.Points[:3] }},
		{"two signals less", func(l *api.Layout) { l.Signals = l.Signals[:2] }},
	})
	expect(t, true, []change{
		{"no routes", func(l *api.Layout) { l.Routes = nil }},
		{"neither routes nor points", func(l *api.Layout) { l.Routes, l.Points = nil, nil }},
		{"a signal less", func(l *api.Layout) { l.Signals = l.Signals[:3] }},
	})
}
