package plan_test

import (
	"math"
	"strings"
	"testing"
	"unsafe"

	"pointsman/api"
	"pointsman/plan"
)

// P3.2: Print

func TestPrint(t *testing.T) {
	const want = `section ab
section cd
section é7
signal S1
signal S2
signal S3
point W in cd
point V in é7
route one from S1 to S2 via ab cd set W+
route two from S2 to S3 via cd é7 ab set W- V+ flank V- W+ V+
route one1 from S3 to S3 via é7
route y from S1 to S3 via cd flank V+
`
	if s := plan.Print(station()); s != want {
		t.Errorf("Print(station) = %q", s)
	}
	sections := []string{"b", "a"}
	for _, x := range []struct {
		l    api.Layout
		want string
	}{
		{api.Layout{}, ""},
		{api.Layout{Sections: []string{}, Points: []api.Point{}, Signals: []string{}, Routes: []api.Route{}}, ""},
		{api.Layout{Sections: sections}, "section b\nsection a\n"},
		{api.Layout{Signals: sections}, "signal b\nsignal a\n"},
		{api.Layout{Sections: sections, Points: []api.Point{{Name: "q", Section: 1}, {Name: "p"}}}, "section b\nsection a\npoint q in a\npoint p in b\n"},
		// Neither so many nor twice the same name is asked about.
		{api.Layout{Sections: []string{"a", "a"}, Points: []api.Point{{Name: "p", Section: 1}, {Name: "p"}}}, "section a\nsection a\npoint p in a\npoint p in a\n"},
		{api.Layout{Signals: []string{"s"}, Routes: []api.Route{{Name: "x", Points: []api.Need{}, Flank: []api.Need{}}}}, "signal s\nroute x from s to s via\n"},
	} {
		if s := plan.Print(x.l); s != x.want {
			t.Errorf("Print(%s) = %q; want %q", shown(x.l), s, x.want)
		}
	}
	many := api.Layout{Sections: []string{"a"}, Signals: []string{"s"}}
	many.Routes = []api.Route{{Name: "x", Path: make([]int, 1000)}}
	if s := plan.Print(many); s != "section a\nsignal s\nroute x from s to s via"+strings.Repeat(" a", 1000)+"\n" {
		t.Errorf("a long way is printed otherwise: %.100q", s)
	}
}

// W1: of layouts that may not be nothing is said but that the call ends.

func TestPrintWhatMayNotBe(t *testing.T) {
	for _, i := range []int{-1, 1, math.MaxInt, math.MinInt} {
		plan.Print(api.Layout{Points: []api.Point{{Section: i}}})
		plan.Print(api.Layout{Routes: []api.Route{{From: i, To: i, Path: []int{i}, Points: []api.Need{{Point: i}}, Flank: []api.Need{{Point: i, Reverse: true}}}}})
		plan.Print(api.Layout{Sections: []string{"a"}, Signals: []string{"s"}, Points: []api.Point{{Name: "p", Section: i}}, Routes: []api.Route{{From: i, Path: []int{0, i}, Points: []api.Need{{Point: i}}}}})
	}
	plan.Print(api.Layout{Sections: []string{"\xff", "", "\n"}, Signals: []string{"a b"}, Routes: []api.Route{{}}})
}

// W6: what is handed in stays as it is

func TestHandedInStays(t *testing.T) {
	l := roomy(station())
	plan.Print(l)
	plan.Same(l, l)
	if shown(l) != shown(station()) {
		t.Errorf("the layout is changed: %s", shown(l))
	}
	if l.Sections[:4][3] != "spare" || l.Signals[:4][3] != "spare" || l.Routes[1].Path[:4][3] != -9 || l.Routes[1].Flank[:4][3].Point != -9 {
		t.Error("the spare room is changed")
	}
}

// roomy is a layout with something in the spare room behind its lists.
func roomy(l api.Layout) api.Layout {
	l.Sections = append(l.Sections, "spare")[:len(l.Sections)]
	l.Signals = append(l.Signals, "spare")[:len(l.Signals)]
	path, flank := &l.Routes[1].Path, &l.Routes[1].Flank
	*path = append(*path, -9)[:len(*path)]
	*flank = append(*flank, api.Need{Point: -9})[:len(*flank)]
	return l
}

func TestPrintSharesNoText(t *testing.T) {
	raw := []byte("abcdefgh")
	name := unsafe.String(&raw[0], len(raw))
	s := plan.Print(api.Layout{Sections: []string{name}})
	raw[0] = 'z'
	if s != "section abcdefgh\n" {
		t.Errorf("the text changes with the name: %q", s)
	}
}

// P3.2: Same

func TestSameChanges(t *testing.T) {
	if !plan.Same(station(), station()) || !plan.Same(api.Layout{}, api.Layout{}) {
		t.Error("what is one is not the same")
	}
	for i, change := range []func(l *api.Layout){
		func(l *api.Layout) { *l = api.Layout{} },
		func(l *api.Layout) { l.Sections[2] = "é8" },
		func(l *api.Layout) { l.Sections[0] = "" },
		func(l *api.Layout) { l.Sections = l.Sections[:2] },
		func(l *api.Layout) { l.Sections = append(l.Sections, "") },
		func(l *api.Layout) { l.Sections[0], l.Sections[1] = l.Sections[1], l.Sections[0] },
		func(l *api.Layout) { l.Sections = nil },
		func(l *api.Layout) { l.Signals[0] = "s1" },
		func(l *api.Layout) { l.Signals = l.Signals[1:] },
		func(l *api.Layout) { l.Signals = append(l.Signals, "S4") },
		func(l *api.Layout) { l.Signals = nil },
		func(l *api.Layout) { l.Points[1].Name = "v" },
		func(l *api.Layout) { l.Points[1].Section = 1 },
		func(l *api.Layout) { l.Points = l.Points[:1] },
		func(l *api.Layout) { l.Points = append(l.Points, api.Point{}) },
		func(l *api.Layout) { l.Points[0], l.Points[1] = l.Points[1], l.Points[0] },
		func(l *api.Layout) { l.Points = nil },
		func(l *api.Layout) { l.Routes[3].Name = "z" },
		func(l *api.Layout) { l.Routes[3].From = 1 },
		func(l *api.Layout) { l.Routes[3].To = 1 },
		func(l *api.Layout) { l.Routes[1].Path[2] = 1 },
		func(l *api.Layout) { l.Routes[1].Path = l.Routes[1].Path[:2] },
		func(l *api.Layout) { l.Routes[1].Path = append(l.Routes[1].Path, 0) },
		func(l *api.Layout) { l.Routes[1].Path = nil },
		func(l *api.Layout) { l.Routes[1].Points[1].Point = 0 },
		func(l *api.Layout) { l.Routes[1].Points[1].Reverse = true },
		func(l *api.Layout) { l.Routes[1].Points = l.Routes[1].Points[:1] },
		func(l *api.Layout) { l.Routes[2].Points = []api.Need{{}} },
		func(l *api.Layout) { l.Routes[1].Flank[2].Point = 0 },
		func(l *api.Layout) { l.Routes[1].Flank[2].Reverse = true },
		func(l *api.Layout) { l.Routes[1].Flank = l.Routes[1].Flank[:2] },
		func(l *api.Layout) { l.Routes[2].Flank = []api.Need{{}} },
		func(l *api.Layout) { l.Routes[3].Points, l.Routes[3].Flank = l.Routes[3].Flank, nil },
		func(l *api.Layout) { l.Routes = l.Routes[:3] },
		func(l *api.Layout) { l.Routes = append(l.Routes, api.Route{}) },
		func(l *api.Layout) { l.Routes[0], l.Routes[1] = l.Routes[1], l.Routes[0] },
		func(l *api.Layout) { l.Routes = nil },
	} {
		l := station()
		change(&l)
		if plan.Same(l, station()) || plan.Same(station(), l) {
			t.Errorf("change %d is not seen", i)
		}
		if !plan.Same(l, l) {
			t.Errorf("after change %d it is not as itself", i)
		}
	}
}

func TestSameNilAndEmpty(t *testing.T) {
	empty := api.Layout{Sections: []string{}, Points: []api.Point{}, Signals: []string{}, Routes: []api.Route{}}
	if !plan.Same(api.Layout{}, empty) || !plan.Same(empty, api.Layout{}) {
		t.Error("nil and empty rows are not one")
	}
	bare := api.Layout{Routes: []api.Route{{Name: "x"}}}
	rows := api.Layout{Sections: []string{}, Routes: []api.Route{{Name: "x", Path: []int{}, Points: []api.Need{}, Flank: []api.Need{}}}}
	if !plan.Same(bare, rows) || !plan.Same(rows, bare) {
		t.Error("nil and empty rows of routes are not one")
	}
	if plan.Same(api.Layout{}, api.Layout{Sections: []string{""}}) {
		t.Error("a row of none is as one of an empty text")
	}
	// Places that are not there and names that are none are held against each other all the same.
	odd := api.Layout{Sections: []string{"\xff", "7"}, Routes: []api.Route{{From: -1, To: math.MaxInt, Path: []int{math.MinInt}}}}
	other := api.Layout{Sections: []string{"\xfe", "7"}, Routes: odd.Routes}
	if !plan.Same(odd, odd) || plan.Same(odd, other) {
		t.Error("odd layouts are not held against each other")
	}
}

// P3.3

// dice is a row of numbers that is the same each time.
type dice uint64

func (d *dice) below(n int) int {
	*d = *d*6364136223846793005 + 1442695040888963407
	return int(uint64(*d) >> 33 % uint64(n))
}

var sampleNames = []string{"a", "Z9", "éà", "in", "via", "section", "Set", "sets", "from", "abcdefgh", "ɏ", "x0", "flanks", "to", "point"}

// pick is so many names, none of them twice.
func (d *dice) pick(n int) []string {
	names := append([]string(nil), sampleNames...)
	for i := range n {
		j := i + d.below(len(names)-i)
		names[i], names[j] = names[j], names[i]
	}
	return names[:n]
}

func (d *dice) needs(points int) []api.Need {
	var needs []api.Need
	if points > 0 {
		for range d.below(api.MaxPoints + 1) {
			needs = append(needs, api.Need{Point: d.below(points), Reverse: d.below(2) == 1})
		}
	}
	return needs
}

func (d *dice) layout() api.Layout {
	l := api.Layout{Sections: d.pick(d.below(api.MaxSections + 1)), Signals: d.pick(d.below(api.MaxSignals + 1))}
	if len(l.Sections) == 0 {
		return l
	}
	for _, name := range d.pick(d.below(api.MaxPoints + 1)) {
		l.Points = append(l.Points, api.Point{Name: name, Section: d.below(len(l.Sections))})
	}
	if len(l.Signals) == 0 {
		return l
	}
	for _, name := range d.pick(d.below(api.MaxRoutes + 1)) {
		r := api.Route{Name: name, From: d.below(len(l.Signals)), To: d.below(len(l.Signals))}
		for range 1 + d.below(api.MaxPath) {
			r.Path = append(r.Path, d.below(len(l.Sections)))
		}
		r.Points, r.Flank = d.needs(len(l.Points)), d.needs(len(l.Points))
		l.Routes = append(l.Routes, r)
	}
	return l
}

func TestParseOfPrint(t *testing.T) {
	d := dice(1)
	for range 20000 {
		l := d.layout()
		s := plan.Print(l)
		lines := len(l.Sections) + len(l.Signals) + len(l.Points) + len(l.Routes)
		back, n, e := plan.Parse(s)
		if e != api.OK || n != lines || shown(back) != shown(l) || !plan.Same(back, l) {
			t.Fatalf("Parse of Print of %s is %s, %d, %v", shown(l), shown(back), n, e)
		}
		if again := plan.Print(back); again != s {
			t.Fatalf("Print of Parse of %q is %q", s, again)
		}
	}
}

func TestParseOfPrintReordered(t *testing.T) {
	l, _, e := plan.Parse("signal s\nsection b\npoint p in b # one\n\nsection a\nroute x from s to s via a b\nsignal t\n")
	want := "section b\nsection a\nsignal s\nsignal t\npoint p in b\nroute x from s to s via a b\n"
	if s := plan.Print(l); e != api.OK || s != want {
		t.Errorf("Print of Parse = %q, %v", s, e)
	}
	checkLayout(t, want, l, 6)
}

func TestParseOfPrintTwice(t *testing.T) {
	for line, change := range map[int]func(l *api.Layout){
		2:  func(l *api.Layout) { l.Sections[1] = l.Sections[0] },
		6:  func(l *api.Layout) { l.Signals[2] = l.Signals[0] },
		8:  func(l *api.Layout) { l.Points[1].Name = l.Points[0].Name },
		12: func(l *api.Layout) { l.Routes[3].Name = l.Routes[0].Name },
	} {
		l := station()
		change(&l)
		checkFault(t, plan.Print(l), line, api.ErrHas)
	}
}

// W1, W3: texts of odd pieces; where they are right, Print tells them again

func TestParseOddTexts(t *testing.T) {
	pieces := []string{"section", "signal", "point", "in", "route", "from", "to", "via", "set", "flank", "a", "b", "a+", "b-", "7", "#", "\n", "\n", "\n", " ", "\t", "\xff", "\xc3", "é", "\r", "\x00", "+", "-", "\uFFFD", "section a\n", "signal a\n", "point a in a\n", "route a from a to a via a set a+ flank a-\n"}
	d := dice(7)
	right := 0
	for range 60000 {
		var b strings.Builder
		for range d.below(14) {
			b.WriteString(pieces[d.below(len(pieces))])
			if d.below(3) > 0 {
				b.WriteString(" ")
			}
		}
		s := b.String()
		l, n, e := plan.Parse(s)
		lines := strings.Count(s, "\n")
		if s != "" && !strings.HasSuffix(s, "\n") {
			lines++
		}
		if e != api.OK {
			if n < 1 || n > lines || shown(l) != shown(api.Layout{}) {
				t.Fatalf("Parse(%q) = %s, %d, %v", s, shown(l), n, e)
			}
			continue
		}
		back, _, again := plan.Parse(plan.Print(l))
		if n != lines || again != api.OK || shown(back) != shown(l) {
			t.Fatalf("Parse(%q) = %s, %d; Parse of its Print is %s, %v", s, shown(l), n, shown(back), again)
		}
		if len(l.Sections) > 0 {
			right++
		}
	}
	if right < 100 {
		t.Errorf("only %d of the texts are right", right)
	}
}
