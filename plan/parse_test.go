package plan_test

import (
	"fmt"
	"strings"
	"testing"
	"unsafe"

	"pointsman/api"
	"pointsman/plan"
)

// shown tells a layout without asking the package; nil and empty rows are shown alike.
func shown(l api.Layout) string { return fmt.Sprintf("%+v", l) }

func checkLayout(t *testing.T, s string, want api.Layout, lines int) {
	t.Helper()
	l, n, e := plan.Parse(s)
	if e != api.OK || n != lines || shown(l) != shown(want) {
		t.Errorf("Parse(%.300q) = %s, %d, %v; want %s, %d, OK", s, shown(l), n, e, shown(want), lines)
	}
}

func checkFault(t *testing.T, s string, line int, want api.Errno) {
	t.Helper()
	l, n, e := plan.Parse(s)
	if e != want || n != line {
		t.Errorf("Parse(%.300q) = line %d, error %d; want line %d, error %d", s, n, e, line, want)
	}
	if want != api.OK && shown(l) != shown(api.Layout{}) {
		t.Errorf("Parse(%.300q) answers %s beside an error", s, shown(l))
	}
}

const stationText = `section ab
section cd
signal S1
section é7
signal S2
point W in cd
signal S3
point V in é7
route one from S1 to S2 via ab cd set W+
route two from S2 to S3 via cd é7 ab set W- V+ flank V- W+ V+
route one1 from S3 to S3 via é7
route y from S1 to S3 via cd flank V+
`

func station() api.Layout {
	return api.Layout{
		Sections: []string{"ab", "cd", "é7"},
		Points:   []api.Point{{Name: "W", Section: 1}, {Name: "V", Section: 2}},
		Signals:  []string{"S1", "S2", "S3"},
		Routes: []api.Route{
			{Name: "one", From: 0, To: 1, Path: []int{0, 1}, Points: []api.Need{{Point: 0}}},
			{
				Name: "two", From: 1, To: 2, Path: []int{1, 2, 0},
				Points: []api.Need{{Point: 0, Reverse: true}, {Point: 1}},
				Flank:  []api.Need{{Point: 1, Reverse: true}, {Point: 0}, {Point: 1}},
			},
			{Name: "one1", From: 2, To: 2, Path: []int{2}},
			{Name: "y", From: 0, To: 2, Path: []int{1}, Flank: []api.Need{{Point: 1}}},
		},
	}
}

// head is eight lines that are right; behind them stand the lines that are tried.
const head = `section a
section b
signal s
signal t
point p in a
point q in b
route x from s to t via a

`

const headLines = 8

// P3.1: the layout, how many lines there are

func TestParseOrdinary(t *testing.T) {
	checkLayout(t, stationText, station(), 12)
	checkLayout(t, strings.TrimSuffix(stationText, "\n"), station(), 12)
	checkLayout(t, "section a", api.Layout{Sections: []string{"a"}}, 1)
	checkLayout(t, "signal a\n", api.Layout{Signals: []string{"a"}}, 1)
	one := api.Layout{Sections: []string{"a"}, Signals: []string{"a"}, Points: []api.Point{{Name: "a"}}}
	one.Routes = []api.Route{{Name: "a", Path: []int{0}, Points: []api.Need{{Reverse: true}}, Flank: []api.Need{{}}}}
	// Kinds have their names apart, and what stands elsewhere as it is may be a name, too.
	checkLayout(t, "section a\nsignal a\npoint a in a\nroute a from a to a via a set a- flank a+", one, 4)
	checkLayout(t, "section section\nsection in\nsignal via\npoint point in in\nroute route from via to via via in section set point-",
		api.Layout{
			Sections: []string{"section", "in"}, Signals: []string{"via"}, Points: []api.Point{{Name: "point", Section: 1}},
			Routes: []api.Route{{Name: "route", Path: []int{1, 0}, Points: []api.Need{{Reverse: true}}}},
		}, 5)
}

func TestParseLines(t *testing.T) {
	a := api.Layout{Sections: []string{"a"}}
	none := api.Layout{}
	for _, x := range []struct {
		s     string
		want  api.Layout
		lines int
	}{
		{"", none, 0}, {"\n", none, 1}, {" ", none, 1}, {"\t", none, 1}, {" \n\t", none, 2}, {"\n\n", none, 2},
		{"#", none, 1}, {"#\n", none, 1}, {"#\n#", none, 2}, {"# \xff \xc3\n", none, 1}, {"#\x00#\r\n\n", none, 2},
		{"section a", a, 1}, {"section a\n", a, 1}, {"section a\n\n", a, 2}, {"section a\n ", a, 2}, {"\n\nsection a", a, 3},
		{"  section\ta\t\t", a, 1}, {"\tsection \t a\n", a, 1},
		{"section a#", a, 1}, {"section a#b c", a, 1}, {"section a # point", a, 1}, {"section a#\xff\xc3\n#section b", a, 2},
		{"section a#\xe2\x80\n", a, 1}, {"#section b\nsection a", a, 2}, {"section a#\U0001F682\uFFFD#\n", a, 1},
	} {
		checkLayout(t, x.s, x.want, x.lines)
	}
	checkFault(t, "#\rsection 7\nsection 7", 2, api.ErrName)
	// A remark may stand behind any word, and cuts the word in which it stands.
	checkLayout(t, head+"route y from s to t via a set p+# q+", withRoute("y", []int{0}, []api.Need{{}}, nil), headLines+1)
	checkFault(t, head+"route y from s to t via a set p#+", headLines+1, api.ErrForm)
	checkFault(t, head+"route y from s to t via a set #p+", headLines+1, api.ErrForm)
	checkFault(t, "sec#tion a", 1, api.ErrForm)
	checkFault(t, "section #a", 1, api.ErrForm)
}

// withRoute is what head tells, and a route more from s to t.
func withRoute(name string, path []int, points, flank []api.Need) api.Layout {
	return api.Layout{
		Sections: []string{"a", "b"}, Signals: []string{"s", "t"},
		Points: []api.Point{{Name: "p"}, {Name: "q", Section: 1}},
		Routes: []api.Route{
			{Name: "x", To: 1, Path: []int{0}},
			{Name: name, To: 1, Path: path, Points: points, Flank: flank},
		},
	}
}

func TestParseMaxLines(t *testing.T) {
	full := strings.Repeat("\n", api.MaxLines-1)
	checkLayout(t, full+"section a", api.Layout{Sections: []string{"a"}}, api.MaxLines)
	checkLayout(t, full+"section a\n", api.Layout{Sections: []string{"a"}}, api.MaxLines)
	checkFault(t, full+"section 7\n\n", api.MaxLines, api.ErrName)
	for _, behind := range []string{"\n", " ", "#", "section b", "section a", "section 7", "\xff", "nothing", "\n\n\n", "section b\n\xff"} {
		checkFault(t, full+"section a\n"+behind, api.MaxLines+1, api.ErrFull)
		checkFault(t, strings.Repeat("# x\n", api.MaxLines)+behind, api.MaxLines+1, api.ErrFull)
		checkFault(t, "section 7\n"+full+behind, 1, api.ErrName)
	}
}

// P3.1: what is a word, what is a NAME

func TestParseNames(t *testing.T) {
	for _, name := range []string{"a", "z", "A", "Z", "a0", "Z9", "abcdefgh", "éééééééé", "ÀɏÖØöø", "Set", "SET", "sets", "flank1", "Flank", "se", "remark", "from", "set0"} {
		checkLayout(t, "section "+name, api.Layout{Sections: []string{name}}, 1)
		checkLayout(t, "signal "+name, api.Layout{Signals: []string{name}}, 1)
	}
	for _, name := range []string{"7", "7a", "abcdefghi", "ééééééééé", "set", "flank", "a-", "+", "a_", "×", "a÷", "ɐ", "a\r", "a\u00a0", "\u00a0", "a\u2028b", "\x00", "a\x00", "\uFFFD", "a\uFFFD", "a\vb", "\U0001F682"} {
		for _, line := range []string{
			"section N", "signal N", "point N in a", "point u in N", "route N from s to t via a", "route y from N to t via a",
			"route y from s to N via a", "route y from s to t via N",
		} {
			checkFault(t, head+strings.ReplaceAll(line, "N", name), headLines+1, api.ErrName)
		}
		checkFault(t, head+"route y from s to t via a set "+name+"+", headLines+1, api.ErrName)
		checkFault(t, head+"route y from s to t via a flank p+ "+name+"-", headLines+1, api.ErrName)
	}
}

func TestParseWrongRunes(t *testing.T) {
	for _, wrong := range []string{"\xff", "\xc3", "\xe2\x80", "\xed\xa0\x80", "\xc0\x80", "\xf5\x80\x80\x80", "\x80"} {
		for _, line := range []string{"W", "section W", "section aW", "Wsection u", "section u W", "section u W#", "W section u", "section 7 W", "section a W", "nothing W", "section u W # x", "route y from s to t via a set p+ W", "point u in nowhere W"} {
			checkFault(t, head+strings.ReplaceAll(line, "W", wrong), headLines+1, api.ErrForm)
		}
		// Of a line that is right a remark hides them.
		checkFault(t, head+"section u #"+wrong, headLines+1, api.OK)
		checkFault(t, head+"section u #\n"+wrong, headLines+2, api.ErrForm)
	}
}

// P3.1: the errors, and which of two

func TestParseFaults(t *testing.T) {
	for _, x := range []struct {
		line string
		want api.Errno
	}{
		// the first word
		{"a", api.ErrForm}, {"Section u", api.ErrForm}, {"sections u", api.ErrForm}, {"set", api.ErrForm}, {"flank", api.ErrForm}, {"7 7", api.ErrForm}, {"in a", api.ErrForm}, {"\r", api.ErrForm}, {"\uFFFD", api.ErrForm}, {"\u00a0", api.ErrForm}, {"section\u00a0u", api.ErrForm},
		// sections and signals
		{"section", api.ErrForm}, {"section u v", api.ErrForm}, {"section u set", api.ErrForm}, {"section a a", api.ErrForm}, {"section 7 8", api.ErrName}, {"section set set", api.ErrName}, {"section a", api.ErrHas}, {"section u", api.OK}, {"section s", api.OK}, {"section A", api.OK}, {"section aa", api.OK},
		{"signal", api.ErrForm}, {"signal u v", api.ErrForm}, {"signal 7", api.ErrName}, {"signal t", api.ErrHas}, {"signal a", api.OK}, {"signal x", api.OK},
		// points
		{"point", api.ErrForm}, {"point u", api.ErrForm}, {"point u in", api.ErrForm}, {"point u in a b", api.ErrForm}, {"point u on a", api.ErrForm}, {"point u a", api.ErrForm}, {"point u IN a", api.ErrForm}, {"point in a", api.ErrForm},
		{"point 7", api.ErrName}, {"point 7 on a", api.ErrName}, {"point u on 7", api.ErrForm}, {"point u in 7 8", api.ErrName}, {"point p in 7", api.ErrName}, {"point p in a b", api.ErrForm},
		{"point p in a", api.ErrHas}, {"point p in u", api.ErrHas}, {"point q in nothing", api.ErrHas}, {"point u in u", api.ErrNone}, {"point u in s", api.ErrNone}, {"point u in p", api.ErrNone}, {"point a in a", api.OK}, {"point u in in", api.ErrNone},
		// routes up to via
		{"route", api.ErrForm}, {"route y", api.ErrForm}, {"route y from", api.ErrForm}, {"route y from s", api.ErrForm}, {"route y from s to", api.ErrForm}, {"route y from s to t", api.ErrForm}, {"route y from s to t via", api.ErrForm}, {"route y from s to t a", api.ErrForm}, {"route y to t from s via a", api.ErrForm}, {"route from s to t via a", api.ErrForm}, {"route y from to t via a", api.ErrForm}, {"route y from s to via a", api.ErrForm},
		{"route 7", api.ErrName}, {"route set from", api.ErrName}, {"route y from flank to t via a", api.ErrName}, {"route y from s to 7", api.ErrName}, {"route y form 7", api.ErrForm},
		// via
		{"route y from s to t via 7", api.ErrName}, {"route y from s to t via a 7", api.ErrName}, {"route y from s to t via a p+", api.ErrName}, {"route y from s to t via a +", api.ErrName}, {"route y from s to t via set", api.ErrName}, {"route y from s to t via set p+", api.ErrName}, {"route y from s to t via flank", api.ErrName}, {"route y from s to t via flank p+", api.ErrName}, {"route y from s to t via set set", api.ErrName},
		{"route y from s to t via a", api.OK}, {"route y from s to t via a b a", api.OK}, {"route y from s to t via b a in", api.ErrNone}, {"route y from s to t via via", api.ErrNone},
		// set
		{"route y from s to t via a set", api.ErrForm}, {"route y from s to t via a set set", api.ErrForm}, {"route y from s to t via a set flank", api.ErrForm}, {"route y from s to t via a set flank p+", api.ErrForm}, {"route y from s to t via a set p", api.ErrForm}, {"route y from s to t via a set 7", api.ErrForm}, {"route y from s to t via a set p +", api.ErrForm}, {"route y from s to t via a set +p", api.ErrForm}, {"route y from s to t via a set p+ q", api.ErrForm}, {"route y from s to t via a set p+ set", api.ErrForm}, {"route y from s to t via a set p+ set q+", api.ErrForm}, {"route y from s to t via a set p+ b", api.ErrForm}, {"route y from s to t via a set p* 7+", api.ErrForm}, {"route y from s to t via a set p\u2212", api.ErrForm}, {"route y from s to t via a set p+\r", api.ErrForm}, {"route y from s to t via a set p+q", api.ErrForm},
		{"route y from s to t via a set 7+", api.ErrName}, {"route y from s to t via a set +", api.ErrName}, {"route y from s to t via a set -", api.ErrName}, {"route y from s to t via a set p++", api.ErrName}, {"route y from s to t via a set p+-", api.ErrName}, {"route y from s to t via a set set+", api.ErrName}, {"route y from s to t via a set flank-", api.ErrName}, {"route y from s to t via a set abcdefghi+", api.ErrName}, {"route y from s to t via a set 7+ q", api.ErrName}, {"route y from s to t via a set p+ 7-", api.ErrName}, {"route y from s to t via a set p+q+", api.ErrName},
		{"route y from s to t via a set p+", api.OK}, {"route y from s to t via a set p- q+ p+", api.OK}, {"route y from s to t via a set abcdefgh+", api.ErrNone}, {"route y from s to t via a set a+", api.ErrNone}, {"route y from s to t via a set p+ u+", api.ErrNone},
		// flank
		{"route y from s to t via a flank", api.ErrForm}, {"route y from s to t via a flank flank", api.ErrForm}, {"route y from s to t via a flank set", api.ErrForm}, {"route y from s to t via a flank set p+", api.ErrForm}, {"route y from s to t via a flank p", api.ErrForm}, {"route y from s to t via a flank p+ q", api.ErrForm}, {"route y from s to t via a flank p+ flank", api.ErrForm}, {"route y from s to t via a flank p+ flank q+", api.ErrForm}, {"route y from s to t via a flank p+ set q+", api.ErrForm}, {"route y from s to t via a set p+ flank", api.ErrForm}, {"route y from s to t via a set p+ flank q- set p+", api.ErrForm}, {"route y from s to t via a set p+ flank q- flank p+", api.ErrForm},
		{"route y from s to t via a flank 7+", api.ErrName}, {"route y from s to t via a flank set-", api.ErrName}, {"route y from s to t via a set p+ flank p+ +", api.ErrName},
		{"route y from s to t via a flank p+ q-", api.OK}, {"route y from s to t via a set p+ flank p-", api.OK}, {"route y from s to t via a flank u+", api.ErrNone}, {"route y from s to t via a set p+ flank p+ u-", api.ErrNone},
		// whole lines: is there already, ahead of is not there
		{"route x from s to t via a", api.ErrHas}, {"route x from u to u via u set u+ flank u+", api.ErrHas}, {"route x from s to t via a set p", api.ErrForm}, {"route x from s to t via a 7", api.ErrName},
		{"route y from u to t via a", api.ErrNone}, {"route y from s to u via a", api.ErrNone}, {"route y from a to t via a", api.ErrNone}, {"route y from s to t via u", api.ErrNone}, {"route y from s to t via a s", api.ErrNone}, {"route y from u to t via a set p", api.ErrForm}, {"route y from u to t via a set 7+", api.ErrName}, {"route s from s to s via b", api.OK},
	} {
		line := headLines + 1
		if x.want == api.OK {
			line++
		}
		checkFault(t, head+x.line+"\nsection z", line, x.want)
		checkFault(t, head+"\t"+strings.ReplaceAll(x.line, " ", "\t ")+" # 7\nsection z\n", line, x.want)
	}
}

func TestParseFirstWrongLine(t *testing.T) {
	lines := []string{"section a", "section 7", "section a", "nothing", "\xff"}
	faults := []api.Errno{api.OK, api.ErrName, api.ErrHas, api.ErrForm, api.ErrForm}
	for first := 1; first < len(lines); first++ {
		s := lines[0] + "\n" + strings.Join(lines[first:], "\n")
		checkFault(t, s, 2, faults[first])
		checkFault(t, "\n#\n"+s+"\n", 4, faults[first])
	}
	checkFault(t, "section a\nsection a", 2, api.ErrHas)
	// What a line names must be told ahead of it, not behind.
	checkFault(t, "point p in a\nsection a", 1, api.ErrNone)
	checkFault(t, "section a\nsignal s\nroute x from s to t via a\nsignal t", 3, api.ErrNone)
	checkFault(t, "section a\nsignal s\nroute x from s to s via a set p+\npoint p in a", 3, api.ErrNone)
	checkFault(t, "section a\nsignal s\nroute x from s to s via a b\nsection b", 3, api.ErrNone)
}

// P3.1: ErrFull

// named is so many lines, each with a name of its own for the N in it.
func named(line string, from, to int) string {
	var b strings.Builder
	for i := from; i < to; i++ {
		b.WriteString(strings.ReplaceAll(line, "N", "n"+string(rune('a'+i))) + "\n")
	}
	return b.String()
}

func TestParseFull(t *testing.T) {
	for _, x := range []struct {
		kind, rest string
		most       int
		// missing is a rest that names what is not there.
		missing string
	}{
		{"section ", "", api.MaxSections, ""},
		{"signal ", "", api.MaxSignals, ""},
		{"point ", " in na", api.MaxPoints, " in u"},
		{"route ", " from na to na via na", api.MaxRoutes, " from na to na via na u"},
	} {
		before := "section na\nsignal na\n"
		first := 0
		if x.rest == "" {
			first = 1
		}
		full := before + named(x.kind+"N"+x.rest, first, x.most)
		lines := strings.Count(full, "\n")
		checkFault(t, full, lines, api.OK)
		checkFault(t, full+x.kind+"u"+x.rest, lines+1, api.ErrFull)
		checkFault(t, full+x.kind+"u"+x.rest+"\nsection 7", lines+1, api.ErrFull)
		checkFault(t, full+"\n"+x.kind+"u"+x.rest, lines+2, api.ErrFull)
		checkFault(t, full+x.kind+"na"+x.rest, lines+1, api.ErrHas)
		checkFault(t, full+x.kind+"7"+x.rest, lines+1, api.ErrName)
		checkFault(t, full+x.kind+"u"+x.rest+" 7+", lines+1, map[bool]api.Errno{true: api.ErrName, false: api.ErrForm}[x.kind == "route "])
		if x.missing != "" {
			checkFault(t, full+x.kind+"u"+x.missing, lines+1, api.ErrNone)
		}
	}
}

func TestParseAllFull(t *testing.T) {
	s := named("section N", 0, api.MaxSections) + named("signal N", 0, api.MaxSignals) +
		named("point N in nj", 0, api.MaxPoints) +
		named("route N from nf to na via nj ni nh ng nf set na+ nb- nc+ nd- ne+ flank ne- nd+ nc- nb+ na-", 0, api.MaxRoutes)
	l, n, e := plan.Parse(s)
	if e != api.OK || n != 27 || plan.Print(l) != s {
		t.Errorf("all that may be: line %d, error %d, %s", n, e, shown(l))
	}
	last := l.Routes[api.MaxRoutes-1]
	want := api.Route{
		Name: "nf", From: 5, To: 0, Path: []int{9, 8, 7, 6, 5},
		Points: []api.Need{{Point: 0}, {Point: 1, Reverse: true}, {Point: 2}, {Point: 3, Reverse: true}, {Point: 4}},
		Flank:  []api.Need{{Point: 4, Reverse: true}, {Point: 3}, {Point: 2, Reverse: true}, {Point: 1}, {Point: 0, Reverse: true}},
	}
	if fmt.Sprint(last) != fmt.Sprint(want) {
		t.Errorf("the last route is %v; want %v", last, want)
	}
}

func TestParseLongRoutes(t *testing.T) {
	route := func(via, set, flank int) string {
		s := head + "route y from s to t via" + strings.Repeat(" a", via)
		if set > 0 {
			s += " set" + strings.Repeat(" p+", set)
		}
		if flank > 0 {
			s += " flank" + strings.Repeat(" q-", flank)
		}
		return s
	}
	for via := 1; via <= api.MaxPath+2; via++ {
		for set := 0; set <= api.MaxPoints+2; set++ {
			for flank := 0; flank <= api.MaxPoints+2; flank++ {
				want := api.OK
				if via > api.MaxPath || set > api.MaxPoints || flank > api.MaxPoints {
					want = api.ErrFull
				}
				checkFault(t, route(via, set, flank), headLines+1, want)
			}
		}
	}
	// What is told ahead of ErrFull is asked of the whole line first.
	checkFault(t, route(6, 0, 0)+" 7", headLines+1, api.ErrName)
	checkFault(t, route(6, 0, 0)+" u", headLines+1, api.ErrNone)
	checkFault(t, route(6, 0, 0)+" set", headLines+1, api.ErrForm)
	checkFault(t, route(6, 6, 0)+" u+", headLines+1, api.ErrNone)
	checkFault(t, route(6, 6, 6)+" u-", headLines+1, api.ErrNone)
	checkFault(t, route(6, 6, 6)+" u", headLines+1, api.ErrForm)
	checkFault(t, route(6, 6, 6)+" +", headLines+1, api.ErrName)
	checkFault(t, strings.Replace(route(6, 6, 6), "route y", "route x", 1), headLines+1, api.ErrHas)
}

// W1: whatever the text

func TestParseLongTexts(t *testing.T) {
	const long = 200000
	checkFault(t, strings.Repeat("\n", long), api.MaxLines+1, api.ErrFull)
	checkFault(t, strings.Repeat("section a\n", long), 2, api.ErrHas)
	checkFault(t, "section "+strings.Repeat("a", long), 1, api.ErrName)
	checkFault(t, "section "+strings.Repeat("a ", long), 1, api.ErrForm)
	checkFault(t, strings.Repeat(" ", long)+"#"+strings.Repeat("\xff", long), 1, api.OK)
	checkFault(t, strings.Repeat("\xff", long), 1, api.ErrForm)
	checkFault(t, head+"route y from s to t via"+strings.Repeat(" a", long), headLines+1, api.ErrFull)
	checkFault(t, head+"route y from s to t via"+strings.Repeat(" a", long)+" 7", headLines+1, api.ErrName)
	checkFault(t, head+"route y from s to t via a set"+strings.Repeat(" p+", long)+" flank", headLines+1, api.ErrForm)
}

// W6, W7: what is answered is new memory

func TestParseSharesNoText(t *testing.T) {
	raw := []byte(stationText)
	l, _, e := plan.Parse(unsafe.String(&raw[0], len(raw)))
	if e != api.OK {
		t.Fatal(e)
	}
	for i := range raw {
		raw[i] = '7'
	}
	if shown(l) != shown(station()) {
		t.Errorf("the layout changes with the text: %s", shown(l))
	}
}

// spoil writes over a list and over the spare room behind its end.
func spoil[T any](list []T, with T) {
	list = list[:cap(list)]
	for i := range list {
		list[i] = with
	}
}

func TestParseSharesNoList(t *testing.T) {
	fresh := func() api.Layout {
		l, _, _ := plan.Parse(stationText)
		return l
	}
	other := fresh()
	for i, x := range []struct {
		spoil func(l *api.Layout)
		mend  func(l *api.Layout)
	}{
		{func(l *api.Layout) { spoil(l.Sections, "w") }, func(l *api.Layout) { l.Sections = station().Sections }},
		{func(l *api.Layout) { spoil(l.Signals, "w") }, func(l *api.Layout) { l.Signals = station().Signals }},
		{func(l *api.Layout) { spoil(l.Points, api.Point{Name: "w"}) }, func(l *api.Layout) { l.Points = station().Points }},
		{func(l *api.Layout) { spoil(l.Routes, api.Route{Name: "w"}) }, func(l *api.Layout) { l.Routes = station().Routes }},
		{func(l *api.Layout) { spoil(l.Routes[1].Path, 9) }, func(l *api.Layout) { l.Routes[1].Path = station().Routes[1].Path }},
		{func(l *api.Layout) { spoil(l.Routes[1].Points, api.Need{Point: 9}) }, func(l *api.Layout) { l.Routes[1].Points = station().Routes[1].Points }},
		{func(l *api.Layout) { spoil(l.Routes[1].Flank, api.Need{Point: 9}) }, func(l *api.Layout) { l.Routes[1].Flank = station().Routes[1].Flank }},
	} {
		l := fresh()
		x.spoil(&l)
		x.mend(&l)
		if shown(l) != shown(station()) {
			t.Errorf("%d: two lists of one answer share memory: %s", i, shown(l))
		}
		if shown(other) != shown(station()) || shown(fresh()) != shown(station()) {
			t.Errorf("%d: two answers share memory", i)
		}
	}
}
