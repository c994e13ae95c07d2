package glyph_test

import (
	"math"
	"slices"
	"strings"
	"testing"
	"unsafe"

	"pointsman/api"
	"pointsman/glyph"
)

// P1.1

func TestLetterEdges(t *testing.T) {
	for _, x := range []struct {
		r    rune
		want bool
	}{
		{'a' - 1, false}, {'a', true}, {'m', true}, {'z', true}, {'z' + 1, false},
		{'A' - 1, false}, {'A', true}, {'M', true}, {'Z', true}, {'Z' + 1, false},
		{0xBF, false}, {0xC0, true}, {0x24F, true}, {0x250, false},
		{0xD6, true}, {0xD7, false}, {0xD8, true},
		{0xF6, true}, {0xF7, false}, {0xF8, true},
		{'0', false}, {'9', false}, {'_', false}, {'-', false}, {0x20, false}, {0x9, false}, {0, false},
		{0xAA, false}, {0xB5, false}, {0x3B1, false}, {0xFFFD, false}, {0x10FFFF, false}, {0x110000, false},
		{-1, false}, {-'a', false}, {math.MinInt32, false}, {math.MaxInt32, false},
	} {
		if got := glyph.Letter(x.r); got != x.want {
			t.Errorf("Letter(%#x) = %v, want %v", x.r, got, x.want)
		}
	}
}

func TestLetterOfAllRunes(t *testing.T) {
	letters := 0
	for r := rune(-0x1000); r <= 0x110FFF; r++ {
		if glyph.Letter(r) {
			letters++
		}
	}
	if want := 26 + 26 + (0x24F - 0xC0 + 1) - 2; letters != want {
		t.Errorf("%d letters, want %d", letters, want)
	}
}

func TestWidth(t *testing.T) {
	for _, x := range []struct {
		s    string
		want int
	}{
		{"", 0}, {"a", 1}, {"abc", 3}, {" \t ", 3}, {"a\x00b", 3},
		{"\u00e9", 1}, {"\u00e9\u024f", 2}, {"\u20ac", 1}, {"\U0001f600", 1}, {"a\u00e9\u20ac\U0001f600", 4},
		{"\ufffd", 1}, {"\xff", 1}, {"\xff\xfe", 2}, {"\x80abc", 4}, {"a\xe9b", 3}, {"abc\xc3", 4},
		{"\xe2\x82", 2}, {"\xe2\x82a", 3}, {"\xf0\x9f\x98", 3}, {"\xc0\x80", 2}, {"\xed\xa0\x80", 3}, {"\xf4\x90\x80\x80", 4},
		{"\xef\xbf", 2}, {strings.Repeat("\u00e9", 100000), 100000},
	} {
		if got := glyph.Width(x.s); got != x.want {
			t.Errorf("Width(%q) = %d, want %d", x.s, got, x.want)
		}
	}
}

func TestIsName(t *testing.T) {
	for _, x := range []struct {
		s    string
		want bool
	}{
		{"", false},
		{"a", true}, {"Z", true}, {"S1", true}, {"a0", true}, {"a9", true}, {"a1b2", true}, {"z09", true},
		{"\u00c0", true}, {"\u024f", true}, {"\u00e9t\u00e9", true}, {"a\u024f7", true},
		{"0", false}, {"9", false}, {"7a", false}, {"0a", false},
		{"abcdefgh", true}, {"abcdefghi", false}, {"a1234567", true}, {"a12345678", false},
		{strings.Repeat("\u00e9", api.MaxName), true}, {strings.Repeat("\u00e9", api.MaxName+1), false},
		{strings.Repeat("a", api.MaxName), true}, {strings.Repeat("a", api.MaxName+1), false},
		{strings.Repeat("a", api.MaxName) + " ", false}, {strings.Repeat("a", api.MaxName) + "\xff", false},
		{strings.Repeat("a", 100000), false},
		{"\u00d7", false}, {"\u00f7", false}, {"a\u00d7", false}, {"a\u00f7", false}, {"\u0250", false}, {"a\u0250", false}, {"\u00bf", false},
		{" a", false}, {"a ", false}, {"a b", false}, {"\ta", false}, {"a\t", false},
		{"a-b", false}, {"a_b", false}, {"a/", false}, {"a:", false}, {"a\u0660", false}, {"a\u00b2", false}, {"a\x00", false},
		{"\xff", false}, {"\xffa", false}, {"a\xffb", false}, {"a\xff", false}, {"\xc3", false}, {"a\xc3", false},
		{"\xe9", false}, {"a\xe2\x82", false}, {"\xc1\xa1", false}, {"\ufffd", false}, {"a\ufffd", false}, {"\U0001f600", false},
	} {
		if got := glyph.IsName(x.s); got != x.want {
			t.Errorf("IsName(%q) = %v, want %v", x.s, got, x.want)
		}
	}
}

// P1.2

func TestWordsOfRightTexts(t *testing.T) {
	for _, x := range []struct {
		s    string
		want []api.Word
	}{
		{"", nil}, {" ", nil}, {"\t", nil}, {" \t \t", nil},
		{"a", []api.Word{{Text: "a", At: 0}}},
		{"\u00e9 7", []api.Word{{Text: "\u00e9", At: 0}, {Text: "7", At: 2}}},
		{" ab", []api.Word{{Text: "ab", At: 1}}},
		{"\tab", []api.Word{{Text: "ab", At: 1}}},
		{"ab ", []api.Word{{Text: "ab", At: 0}}},
		{"ab\t", []api.Word{{Text: "ab", At: 0}}},
		{" \tab\t c \t", []api.Word{{Text: "ab", At: 2}, {Text: "c", At: 6}}},
		{"a b", []api.Word{{Text: "a", At: 0}, {Text: "b", At: 2}}},
		{"a\tb", []api.Word{{Text: "a", At: 0}, {Text: "b", At: 2}}},
		{"a  \t b a", []api.Word{{Text: "a", At: 0}, {Text: "b", At: 5}, {Text: "a", At: 7}}},
		{"\u00e9\u20ac\U0001f600 x\u00e9 y", []api.Word{{Text: "\u00e9\u20ac\U0001f600", At: 0}, {Text: "x\u00e9", At: 4}, {Text: "y", At: 7}}},
		{"a\nb", []api.Word{{Text: "a\nb", At: 0}}},
		{"a\rb\vc\fd\x00e", []api.Word{{Text: "a\rb\vc\fd\x00e", At: 0}}},
		{"\n \n", []api.Word{{Text: "\n", At: 0}, {Text: "\n", At: 2}}},
		{"a\u00a0b\u2003c\u3000d", []api.Word{{Text: "a\u00a0b\u2003c\u3000d", At: 0}}},
		{"\ufffd x\ufffd", []api.Word{{Text: "\ufffd", At: 0}, {Text: "x\ufffd", At: 2}}},
	} {
		got, wrong := glyph.Words(x.s)
		if !slices.Equal(got, x.want) || wrong != -1 {
			t.Errorf("Words(%q) = %#v, %d, want %#v, -1", x.s, got, wrong, x.want)
		}
	}
}

func TestWordsOfWrongTexts(t *testing.T) {
	for _, x := range []struct {
		s    string
		want int
	}{
		{"\xff", 0}, {"\x80", 0}, {"\xffab c", 0}, {"\xff \xff", 0},
		{" \xff", 1}, {"\t\xff", 1}, {"a\xffb", 1}, {"\u00e9 a\xffb", 3}, {"ab c\xff", 4}, {"ab c \xff", 5},
		{"ab c \xe2\x82 d\xff", 5}, {"\U0001f600\u20ac\u00e9\xc3", 3}, {"a \xf0\x9f\x98", 2},
		{"\ufffd\xef\xbf", 1}, {"\ufffd \xef", 2}, {"\xef\xbf\ufffd", 0}, {"\xc0\x80", 0}, {"a\xed\xa0\x80", 1}, {"a\xf4\x90\x80\x80", 1},
	} {
		got, wrong := glyph.Words(x.s)
		if len(got) != 0 || wrong != x.want {
			t.Errorf("Words(%q) = %#v, %d, want none, %d", x.s, got, wrong, x.want)
		}
	}
}

func TestCmpInOrder(t *testing.T) {
	ordered := []string{
		"", "\x00", "\t", " ", "0", "A", "a", "a\x00", "a ", "aa", "aaa", "ab", "a\u00e9", "a\ufffd", "b",
		"\u007f", "\u0080", "\u00e9", "\u00e9a", "\u024f", "\u07ff", "\u0800", "\ud7ff", "\ue000", "\uff00",
		"\ufffc", "\ufffd", "\ufffda", "\ufffd\ufffd", "\ufffe", "\uffff", "\U00010000", "\U0001f600", "\U0010ffff",
	}
	for i, a := range ordered {
		for k, b := range ordered {
			want := 0
			if i < k {
				want = -1
			}
			if i > k {
				want = 1
			}
			if got := glyph.Cmp(a, b); got != want {
				t.Errorf("Cmp(%q, %q) = %d, want %d", a, b, got, want)
			}
		}
	}
}

func TestCmpOfWrongTexts(t *testing.T) {
	for _, x := range []struct {
		a, b string
		want int
	}{
		{"\xff", "\ufffd", 0}, {"\xff", "\xfe", 0}, {"\x80", "\xff", 0}, {"a\xffb", "a\ufffdb", 0},
		{"\xe2\x82", "\ufffd\ufffd", 0}, {"\xe2\x82", "\ufffd", 1}, {"\xed\xa0\x80", "\xff\xff\xff", 0},
		{"\xff", "", 1}, {"", "\xff", -1}, {"a\xff", "a", 1}, {"a", "a\xff", -1},
		{"\xff", "\ufffc", 1}, {"\xff", "\ufffe", -1}, {"\x80", "z", 1}, {"\xff", "\U0001f600", -1}, {"\U0001f600", "\xff", 1},
		{"\xffa", "\xfeb", -1}, {"\xffb", "\ufffda", 1},
	} {
		if got := glyph.Cmp(x.a, x.b); got != x.want {
			t.Errorf("Cmp(%q, %q) = %d, want %d", x.a, x.b, got, x.want)
		}
	}
}

// All short texts of awkward bytes, held against a decoder that is written from the form of UTF-8 alone.

type slot struct {
	r     rune
	size  int
	wrong bool
}

// rightForms are the well-formed sequences: how long, the bounds of the first byte, the bounds of the second one.
var rightForms = []struct {
	size                             int
	first0, first1, second0, second1 byte
}{
	{1, 0x00, 0x7F, 0, 0},
	{2, 0xC2, 0xDF, 0x80, 0xBF},
	{3, 0xE0, 0xE0, 0xA0, 0xBF}, {3, 0xE1, 0xEC, 0x80, 0xBF}, {3, 0xED, 0xED, 0x80, 0x9F}, {3, 0xEE, 0xEF, 0x80, 0xBF},
	{4, 0xF0, 0xF0, 0x90, 0xBF}, {4, 0xF1, 0xF3, 0x80, 0xBF}, {4, 0xF4, 0xF4, 0x80, 0x8F},
}

func decodeFirst(s string) slot {
	for _, f := range rightForms {
		if s[0] < f.first0 || s[0] > f.first1 || len(s) < f.size {
			continue
		}
		r, right := rune(s[0]), true
		if f.size > 1 {
			r &= 0x7F >> f.size
			right = f.second0 <= s[1] && s[1] <= f.second1
		}
		for _, b := range []byte(s[1:f.size]) {
			right = right && 0x80 <= b && b <= 0xBF
			r = r<<6 | rune(b&0x3F)
		}
		if right {
			return slot{r, f.size, false}
		}
	}
	return slot{0xFFFD, 1, true}
}

func decode(s string) []slot {
	var l []slot
	for s != "" {
		l = append(l, decodeFirst(s))
		s = s[l[len(l)-1].size:]
	}
	return l
}

func wordsByHand(s string) ([]api.Word, int) {
	var words []api.Word
	open := false
	for i, x := range decode(s) {
		if x.wrong {
			return nil, i
		}
		text := s[:x.size]
		s = s[x.size:]
		switch {
		case x.r == 0x20 || x.r == 0x9:
			open = false
		case open:
			words[len(words)-1].Text += text
		default:
			words = append(words, api.Word{Text: text, At: i})
			open = true
		}
	}
	return words, -1
}

func isNameByHand(s string) bool {
	l := decode(s)
	if len(l) < 1 || len(l) > api.MaxName {
		return false
	}
	for i, x := range l {
		if x.wrong || !glyph.Letter(x.r) && (i == 0 || x.r < '0' || x.r > '9') {
			return false
		}
	}
	return true
}

func cmpByHand(a, b string) int {
	return slices.CompareFunc(decode(a), decode(b), func(x, y slot) int { return int(x.r) - int(y.r) })
}

func shortTexts(most int) []string {
	const awkward = " \taZ7\n\x80\x90\x9f\xa0\xbd\xbf\xc0\xc3\x97\xe0\xed\xef\xf0\xf4\xff"
	all := []string{""}
	for from := 0; most > 0; most-- {
		to := len(all)
		for _, s := range all[from:to] {
			for i := range len(awkward) {
				all = append(all, s+awkward[i:i+1])
			}
		}
		from = to
	}
	return all
}

func TestAllShortTexts(t *testing.T) {
	for _, s := range shortTexts(4) {
		words, wrong := glyph.Words(s)
		wantWords, wantWrong := wordsByHand(s)
		if !slices.Equal(words, wantWords) || wrong != wantWrong {
			t.Fatalf("Words(%q) = %#v, %d, want %#v, %d", s, words, wrong, wantWords, wantWrong)
		}
		if got, want := glyph.Width(s), len(decode(s)); got != want {
			t.Fatalf("Width(%q) = %d, want %d", s, got, want)
		}
		if got, want := glyph.IsName(s), isNameByHand(s); got != want {
			t.Fatalf("IsName(%q) = %v, want %v", s, got, want)
		}
	}
}

func TestCmpOfAllShortTexts(t *testing.T) {
	texts := append(shortTexts(2), "\ufffd", "\ufffda", "a\ufffd", "\ufffd\ufffd", "\U0001f600", "\ufffe")
	for _, a := range texts {
		for _, b := range texts {
			if got, want := glyph.Cmp(a, b), cmpByHand(a, b); got != max(-1, min(1, want)) {
				t.Fatalf("Cmp(%q, %q) = %d, want the sign of %d", a, b, got, want)
			}
		}
	}
}

// P1.3, and what holds everywhere

func TestAnswersHangOnTheTextAlone(t *testing.T) {
	texts := []string{"", "\u00e9 7", "ab\tc", "a\xff", "\ufffd", "abcdefghi", "\xe2\x82 x"}
	type answer struct {
		width, wrong int
		name         bool
		words        []api.Word
		order        []int
	}
	ask := func(s string) answer {
		a := answer{width: glyph.Width(s), name: glyph.IsName(s)}
		a.words, a.wrong = glyph.Words(s)
		for _, other := range texts {
			a.order = append(a.order, glyph.Cmp(s, other))
		}
		return a
	}
	var first []answer
	for _, s := range texts {
		first = append(first, ask(s))
	}
	for i := len(texts) - 1; i >= 0; i-- {
		fresh := string(append(make([]byte, 0, 64), texts[i]...))
		got, want := ask(fresh), first[i]
		if got.width != want.width || got.wrong != want.wrong || got.name != want.name || !slices.Equal(got.words, want.words) || !slices.Equal(got.order, want.order) {
			t.Errorf("%q: %v, and at first %v", texts[i], got, want)
		}
	}
}

func TestWordsAreNewMemory(t *testing.T) {
	s := string([]byte("ab \u00e9 c"))
	from := uintptr(unsafe.Pointer(unsafe.StringData(s)))
	words, _ := glyph.Words(s)
	again, _ := glyph.Words(s)
	for _, w := range slices.Concat(words, again) {
		at := uintptr(unsafe.Pointer(unsafe.StringData(w.Text)))
		if from <= at && at < from+uintptr(len(s)) {
			t.Errorf("%q lies in the text that was handed in", w.Text)
		}
	}
	clear(words[:cap(words)])
	if want := []api.Word{{Text: "ab", At: 0}, {Text: "\u00e9", At: 3}, {Text: "c", At: 5}}; !slices.Equal(again, want) {
		t.Errorf("a later answer became %#v", again)
	}
}

func TestLongTexts(t *testing.T) {
	const many = 1 << 20
	words, wrong := glyph.Words(strings.Repeat("\u00e9 ", many))
	if len(words) != many || wrong != -1 || words[many-1] != (api.Word{Text: "\u00e9", At: 2*many - 2}) {
		t.Errorf("%d words, %d", len(words), wrong)
	}
	long := strings.Repeat("\u00e9", many)
	if words, wrong = glyph.Words(long + "\xc3"); len(words) != 0 || wrong != many {
		t.Errorf("%d words, %d, want none, %d", len(words), wrong, many)
	}
	if glyph.Cmp(long, long+"a") != -1 || glyph.Cmp(long+"b", long+"a") != 1 || glyph.Cmp(long, strings.Clone(long)) != 0 {
		t.Error("the order of long texts")
	}
}
