package plan

import (
	"slices"

	"pointsman/api"
	"pointsman/glyph"
)

// none is the place of what is not there.
const none = -1

// addLine puts what a line tells behind what is told so far; a line that is wrong adds nothing.
func addLine(l *api.Layout, line string) api.Errno {
	words, wrong := glyph.Words(withoutRemark(line))
	if wrong >= 0 {
		return api.ErrForm
	}
	if len(words) == 0 {
		return api.OK
	}
	r := &reader{words: words}
	switch r.next() {
	case sectionWord:
		return addName(&l.Sections, api.MaxSections, r)
	case signalWord:
		return addName(&l.Signals, api.MaxSignals, r)
	case pointWord:
		return addPoint(l, r)
	case routeWord:
		return addRoute(l, r)
	}
	return api.ErrForm
}

func addName(names *[]string, most int, r *reader) api.Errno {
	name := r.name()
	r.end()
	switch {
	case r.fault != api.OK:
		return r.fault
	case slices.Contains(*names, name):
		return api.ErrHas
	case len(*names) >= most:
		return api.ErrFull
	}
	*names = append(*names, name)
	return api.OK
}

func addPoint(l *api.Layout, r *reader) api.Errno {
	name := r.name()
	r.word(inWord)
	section := slices.Index(l.Sections, r.name())
	r.end()
	switch {
	case r.fault != api.OK:
		return r.fault
	case pointAt(l, name) != none:
		return api.ErrHas
	case section == none:
		return api.ErrNone
	case len(l.Points) >= api.MaxPoints:
		return api.ErrFull
	}
	l.Points = append(l.Points, api.Point{Name: name, Section: section})
	return api.OK
}

func addRoute(l *api.Layout, r *reader) api.Errno {
	line := r.route()
	if r.fault != api.OK {
		return r.fault
	}
	route := byPlaces(l, line)
	switch {
	case hasRoute(l, line.name):
		return api.ErrHas
	case lacks(route):
		return api.ErrNone
	case len(l.Routes) >= api.MaxRoutes || tooLong(route):
		return api.ErrFull
	}
	l.Routes = append(l.Routes, route)
	return api.OK
}

// byPlaces is a route by places instead of names.
func byPlaces(l *api.Layout, line routeLine) api.Route {
	route := api.Route{
		Name:   line.name,
		From:   slices.Index(l.Signals, line.from),
		To:     slices.Index(l.Signals, line.to),
		Points: needs(l, line.set),
		Flank:  needs(l, line.flank),
	}
	for _, section := range line.via {
		route.Path = append(route.Path, slices.Index(l.Sections, section))
	}
	return route
}

func needs(l *api.Layout, wants []want) []api.Need {
	var answer []api.Need
	for _, w := range wants {
		answer = append(answer, api.Need{Point: pointAt(l, w.name), Reverse: w.reverse})
	}
	return answer
}

func pointAt(l *api.Layout, name string) int {
	return slices.IndexFunc(l.Points, func(p api.Point) bool { return p.Name == name })
}

func hasRoute(l *api.Layout, name string) bool {
	return slices.ContainsFunc(l.Routes, func(r api.Route) bool { return r.Name == name })
}

// lacks tells whether the route names something that is not there.
func lacks(r api.Route) bool {
	noPoint := func(n api.Need) bool { return n.Point == none }
	return r.From == none || r.To == none ||
		slices.Contains(r.Path, none) ||
		slices.ContainsFunc(r.Points, noPoint) ||
		slices.ContainsFunc(r.Flank, noPoint)
}

func tooLong(r api.Route) bool {
	return len(r.Path) > api.MaxPath || len(r.Points) > api.MaxPoints || len(r.Flank) > api.MaxPoints
}
