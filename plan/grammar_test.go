package plan_test

import (
	"strings"
	"testing"

	"pointsman/api"
	"pointsman/plan"
)

// token is a word with what it is, by hand: nothing here asks the package or glyph.
type token struct {
	text string
	name bool
	// want is the name ahead of the sign, if there is a sign.
	signed   bool
	want     string
	wantName bool
}

var tokens = []token{
	{text: "a", name: true},
	{text: "u", name: true},
	{text: "7"},
	{text: "set"},
	{text: "flank"},
	{text: "p+", signed: true, want: "p", wantName: true},
	{text: "u-", signed: true, want: "u", wantName: true},
	{text: "7+", signed: true, want: "7"},
	{text: "set-", signed: true, want: "set"},
	{text: "+", signed: true},
	{text: "in", name: true},
	{text: "section", name: true},
	{text: "signal", name: true},
	{text: "point", name: true},
	{text: "route", name: true},
	{text: "from", name: true},
	{text: "to", name: true},
	{text: "via", name: true},
	{text: "s", name: true},
	{text: "p", name: true},
	{text: "x", name: true},
}

// slot is what may stand at a place: words as they are, and then a NAME or a want.
type slot struct {
	words map[string]string
	name  string
	want  string
	last  bool
}

// slots is the chapter's lines as a machine: each entry tells the slot behind.
func slots() map[string]slot {
	return map[string]slot{
		"start":    {words: map[string]string{"section": "only", "signal": "only", "point": "point", "route": "route"}, last: true},
		"only":     {name: "end"},
		"end":      {last: true},
		"point":    {name: "in"},
		"in":       {words: map[string]string{"in": "only"}},
		"route":    {name: "from"},
		"from":     {words: map[string]string{"from": "start of"}},
		"start of": {name: "to"},
		"to":       {words: map[string]string{"to": "end of"}},
		"end of":   {name: "via"},
		"via":      {words: map[string]string{"via": "first"}},
		"first":    {name: "more"},
		"more":     {words: map[string]string{"set": "set", "flank": "flank"}, name: "more", last: true},
		"set":      {want: "set on"},
		"set on":   {words: map[string]string{"flank": "flank"}, want: "set on", last: true},
		"flank":    {want: "flank on"},
		"flank on": {want: "flank on", last: true},
	}
}

// formFault is the error of the words from left to right.
func formFault(machine map[string]slot, words []token) api.Errno {
	at := "start"
	for _, w := range words {
		s := machine[at]
		next, fixed := s.words[w.text]
		switch {
		case fixed:
			at = next
		case s.name != "" && !w.name:
			return api.ErrName
		case s.name != "":
			at = s.name
		case s.want == "" || !w.signed:
			return api.ErrForm
		case !w.wantName:
			return api.ErrName
		default:
			at = s.want
		}
	}
	if !machine[at].last {
		return api.ErrForm
	}
	return api.OK
}

// The names that head tells, by kind.
var told = map[string]string{"section": " a b ", "signal": " s t ", "point": " p q ", "route": " x "}

func isTold(kind, name string) bool { return strings.Contains(told[kind], " "+name+" ") }

// nameFault is the error of a line whose form is right.
func nameFault(words []token) api.Errno {
	if len(words) == 0 {
		return api.OK
	}
	kind := words[0].text
	if isTold(kind, words[1].text) {
		return api.ErrHas
	}
	count := map[string]int{}
	behind := ""
	missing := false
	for i, w := range words {
		switch {
		case kind == "point" && i == 3:
			missing = missing || !isTold("section", w.text)
		case kind == "route" && (i == 3 || i == 5):
			missing = missing || !isTold("signal", w.text)
		case kind != "route" || i < 7:
		case w.text == "set" || w.text == "flank":
			behind = w.text
		case behind == "":
			count["via"]++
			missing = missing || !isTold("section", w.text)
		default:
			count[behind]++
			missing = missing || !isTold("point", w.want)
		}
	}
	switch {
	case missing:
		return api.ErrNone
	case count["via"] > api.MaxPath || count["set"] > api.MaxPoints || count["flank"] > api.MaxPoints:
		return api.ErrFull
	}
	return api.OK
}

type trial struct {
	t       *testing.T
	machine map[string]slot
	seen    map[api.Errno]int
}

func (x *trial) try(words []token) {
	texts := make([]string, len(words))
	for i, w := range words {
		texts[i] = w.text
	}
	want := formFault(x.machine, words)
	if want == api.OK {
		want = nameFault(words)
	}
	x.seen[want]++
	s := head + strings.Join(texts, " ") + "\n"
	if _, n, e := plan.Parse(s); e != want || n != headLines+1 {
		x.t.Errorf("%q: line %d, error %d; want line %d, error %d", strings.Join(texts, " "), n, e, headLines+1, want)
	}
}

// all tries the words, and with as many more as there may be.
func (x *trial) all(words []token, more int, of []token) {
	x.try(words)
	if more == 0 {
		return
	}
	for _, w := range of {
		x.all(append(words[:len(words):len(words)], w), more-1, of)
	}
}

func find(text string) token {
	for _, w := range tokens {
		if w.text == text {
			return w
		}
	}
	panic(text)
}

func row(s string) []token {
	var words []token
	for _, text := range strings.Fields(s) {
		words = append(words, find(text))
	}
	return words
}

func newTrial(t *testing.T) *trial {
	return &trial{t: t, machine: slots(), seen: map[api.Errno]int{}}
}

// P3.1: every line of few words

func TestShortLines(t *testing.T) {
	x := newTrial(t)
	x.all(nil, 4, tokens)
	for _, e := range []api.Errno{api.OK, api.ErrForm, api.ErrName, api.ErrHas, api.ErrNone} {
		if x.seen[e] == 0 {
			t.Errorf("no line has error %d", e)
		}
	}
}

// P3.1: every way to go on behind the first words of a route

func TestRouteTails(t *testing.T) {
	x := newTrial(t)
	x.all(row("route u from s to s via"), 5, tokens[:10])
	for _, begin := range []string{"via a a a", "via a set p+ p+ p+", "via a set p+ flank p+ p+ p+", "via a flank p+ p+ p+"} {
		x.all(row("route u from s to s "+begin), 3, tokens[:10])
	}
	for _, e := range []api.Errno{api.OK, api.ErrForm, api.ErrName, api.ErrNone, api.ErrFull} {
		if x.seen[e] == 0 {
			t.Errorf("no line has error %d", e)
		}
	}
}

// P3.1: lines that are right but for one or two words: another one, one less, one more

func TestSpoiltLines(t *testing.T) {
	x := newTrial(t)
	for _, line := range []string{"section u", "signal u", "point u in a", "route u from s to s via a a set p+ p+ flank p+ p+", "route x from s to u via a set p+", "route u from s to s via a flank p+"} {
		once := spoilt(row(line))
		for _, words := range once {
			x.try(words)
		}
	}
	for _, words := range spoilt(row("route u from s to s via a set p+ flank p+")) {
		for _, twice := range spoilt(words) {
			x.try(twice)
		}
	}
}

func spoilt(words []token) [][]token {
	answer := [][]token{words}
	put := func(parts ...[]token) {
		var line []token
		for _, p := range parts {
			line = append(line, p...)
		}
		answer = append(answer, line)
	}
	for i := range words {
		put(words[:i], words[i+1:])
		for _, w := range tokens {
			put(words[:i], []token{w}, words[i+1:])
			put(words[:i], []token{w}, words[i:])
		}
	}
	for _, w := range tokens {
		put(words, []token{w})
	}
	return answer
}
