package plan

import (
	"pointsman/api"
	"pointsman/glyph"
)

// cutLine is the first line of a text, and what stands behind the line feed that ends it.
func cutLine(s string) (line, behind string) {
	for i, r := range s {
		if r == lineFeed {
			return s[:i], s[i+1:]
		}
	}
	return s, ""
}

// withoutRemark is cut ahead of the words, for in a remark no rune is wrong.
func withoutRemark(line string) string {
	for i, r := range line {
		if r == remark {
			return line[:i]
		}
	}
	return line
}

// isName tells whether a text is a NAME: `set` and `flank` end a row, so nothing can be named by them.
func isName(s string) bool { return glyph.IsName(s) && !endsRow(s) }

func endsRow(s string) bool { return s == setWord || s == flankWord }

// want is how a point must lie, by its name.
type want struct {
	name    string
	reverse bool
}

// routeLine is what a line tells of a route, by names.
type routeLine struct {
	name, from, to string
	via            []string
	set, flank     []want
}

// reader takes the words of a line from left to right.
type reader struct {
	words []api.Word
	// fault is the leftmost one: whatever is read behind it does not change it.
	fault api.Errno
}

func (r *reader) fail(e api.Errno) {
	if r.fault == api.OK {
		r.fault = e
	}
}

func (r *reader) next() string {
	if len(r.words) == 0 {
		r.fail(api.ErrForm)
		return ""
	}
	text := r.words[0].Text
	r.words = r.words[1:]
	return text
}

// word takes a word that stands as it is.
func (r *reader) word(text string) {
	if r.next() != text {
		r.fail(api.ErrForm)
	}
}

func (r *reader) name() string {
	text := r.next()
	if !isName(text) {
		r.fail(api.ErrName)
	}
	return text
}

// want asks for the sign first, for a word without one is no want at all.
func (r *reader) want() want {
	name, sign := cutLast(r.next())
	if sign != plusSign && sign != minusSign {
		r.fail(api.ErrForm)
	}
	if !isName(name) {
		r.fail(api.ErrName)
	}
	return want{name: name, reverse: sign == minusSign}
}

// cutLast is a text without its last rune, and that rune.
func cutLast(s string) (front string, last rune) {
	at := 0
	for i, r := range s {
		at, last = i, r
	}
	return s[:at], last
}

func (r *reader) end() {
	if len(r.words) > 0 {
		r.fail(api.ErrForm)
	}
}

// ahead tells whether a word stands next.
func (r *reader) ahead(text string) bool {
	return len(r.words) > 0 && r.words[0].Text == text
}

// rowGoesOn tells whether the next word belongs to the row that is being read.
func (r *reader) rowGoesOn() bool {
	return len(r.words) > 0 && !endsRow(r.words[0].Text)
}

// row is one and as many more as there are; `set` or `flank` as the first is left to the one to find fault with.
func row[T any](r *reader, one func() T) []T {
	things := []T{one()}
	for r.rowGoesOn() {
		things = append(things, one())
	}
	return things
}

// wants is the row behind a word, if that word stands next.
func (r *reader) wants(behind string) []want {
	if !r.ahead(behind) {
		return nil
	}
	r.word(behind)
	return row(r, r.want)
}

// route reads all behind the line's first word.
func (r *reader) route() routeLine {
	var line routeLine
	line.name = r.name()
	r.word(fromWord)
	line.from = r.name()
	r.word(toWord)
	line.to = r.name()
	r.word(viaWord)
	line.via = row(r, r.name)
	line.set = r.wants(setWord)
	line.flank = r.wants(flankWord)
	r.end()
	return line
}
