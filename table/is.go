package table

import (
	"slices"

	"pointsman/api"
	"pointsman/glyph"
)

// The words that tell a route's points in a text, and so can be no names there.
const (
	setWord   = "set"
	flankWord = "flank"
)

func isSized(l api.Layout) bool {
	return isCount(len(l.Sections), 1, api.MaxSections) &&
		isCount(len(l.Signals), 1, api.MaxSignals) &&
		isCount(len(l.Points), 0, api.MaxPoints) &&
		isCount(len(l.Routes), 0, api.MaxRoutes)
}

func isCount(n, least, most int) bool { return least <= n && n <= most }

func isNamed(l api.Layout) bool {
	return areNames(l.Sections) &&
		areNames(l.Signals) &&
		areNames(namesOf(l.Points, func(p api.Point) string { return p.Name })) &&
		areNames(namesOf(l.Routes, func(r api.Route) string { return r.Name }))
}

func namesOf[T any](things []T, name func(T) string) []string {
	names := make([]string, len(things))
	for i, x := range things {
		names[i] = name(x)
	}
	return names
}

func areNames(names []string) bool {
	for i, name := range names {
		if !mayName(name) || slices.Contains(names[:i], name) {
			return false
		}
	}
	return true
}

func mayName(s string) bool {
	return glyph.IsName(s) && s != setWord && s != flankWord
}

func pointsLie(l api.Layout) bool {
	for _, p := range l.Points {
		if !isPlace(p.Section, len(l.Sections)) {
			return false
		}
	}
	return true
}

func routesLie(l api.Layout) bool {
	for _, r := range l.Routes {
		if !isWay(l, r) {
			return false
		}
	}
	return true
}

func isWay(l api.Layout, r api.Route) bool {
	return isPlace(r.From, len(l.Signals)) && isPlace(r.To, len(l.Signals)) && r.From != r.To &&
		isPath(r.Path, len(l.Sections)) &&
		hasAll(r.Points, pointsIn(l, r.Path)) &&
		isBeside(r.Flank, l, r.Path)
}

func isPath(path []int, sections int) bool {
	if !isCount(len(path), 1, api.MaxPath) {
		return false
	}
	for i, section := range path {
		if !isPlace(section, sections) || slices.Contains(path[:i], section) {
			return false
		}
	}
	return true
}

// pointsIn is the points that lie in sections of a path, rising.
func pointsIn(l api.Layout, path []int) []int {
	var points []int
	for i, p := range l.Points {
		if slices.Contains(path, p.Section) {
			points = append(points, i)
		}
	}
	return points
}

// hasAll tells whether needs are of just these points, in their order; how they must lie is the layout's own choice.
func hasAll(needs []api.Need, points []int) bool {
	return slices.EqualFunc(needs, points, func(n api.Need, point int) bool { return n.Point == point })
}

// isBeside tells whether needs are of points off a path, each once, rising.
func isBeside(needs []api.Need, l api.Layout, path []int) bool {
	last := -1
	for _, n := range needs {
		if n.Point <= last || n.Point >= len(l.Points) || slices.Contains(path, l.Points[n.Point].Section) {
			return false
		}
		last = n.Point
	}
	return true
}
