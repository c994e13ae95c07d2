package plan

import (
	"strings"

	"pointsman/api"
)

// Print is a layout as a text.
func Print(l api.Layout) string {
	var b strings.Builder
	for _, name := range l.Sections {
		printLine(&b, sectionWord, name)
	}
	for _, name := range l.Signals {
		printLine(&b, signalWord, name)
	}
	for _, p := range l.Points {
		printLine(&b, pointWord, p.Name, inWord, nameAt(l.Sections, p.Section))
	}
	for _, r := range l.Routes {
		printLine(&b, routeWords(l, r)...)
	}
	return b.String()
}

func printLine(b *strings.Builder, words ...string) {
	b.WriteString(strings.Join(words, " "))
	b.WriteRune(lineFeed)
}

func routeWords(l api.Layout, r api.Route) []string {
	words := []string{
		routeWord, r.Name,
		fromWord, nameAt(l.Signals, r.From),
		toWord, nameAt(l.Signals, r.To),
		viaWord,
	}
	for _, section := range r.Path {
		words = append(words, nameAt(l.Sections, section))
	}
	words = append(words, wantWords(l, setWord, r.Points)...)
	return append(words, wantWords(l, flankWord, r.Flank)...)
}

// wantWords is a word and the wants behind it; without wants the word does not stand either.
func wantWords(l api.Layout, ahead string, needs []api.Need) []string {
	if len(needs) == 0 {
		return nil
	}
	words := []string{ahead}
	for _, n := range needs {
		words = append(words, pointName(l, n.Point)+string(sign(n)))
	}
	return words
}

func sign(n api.Need) rune {
	if n.Reverse {
		return minusSign
	}
	return plusSign
}

// nameAt is empty for a place that is not there, so that such a layout, too, can be printed.
func nameAt(names []string, i int) string {
	if i < 0 || i >= len(names) {
		return ""
	}
	return names[i]
}

func pointName(l api.Layout, i int) string {
	if i < 0 || i >= len(l.Points) {
		return ""
	}
	return l.Points[i].Name
}
