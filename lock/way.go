package lock

import (
	"slices"

	"pointsman/api"
	"pointsman/table"
)

// A way is what is kept of a route of the layout.
type way struct {
	from  int
	path  []int
	needs []api.Need
	foes  []int // the other routes that Conflict with it
}

func wayOf(l api.Layout, r int) way {
	w := way{
		from:  l.Routes[r].From,
		path:  slices.Clone(l.Routes[r].Path),
		needs: table.Needs(l, r),
	}
	for s := range l.Routes {
		if s != r && table.Conflict(l, r, s) {
			w.foes = append(w.foes, s)
		}
	}
	return w
}

func (w way) isClear(in api.In) bool {
	for _, section := range w.path {
		if in.Occupied[section] {
			return false
		}
	}
	return true
}

// liesRight tells whether all points lie as the way needs them.
func (w way) liesRight(in api.In) bool {
	for _, n := range w.needs {
		if !isRight(in, n) {
			return false
		}
	}
	return true
}

func isRight(in api.In, n api.Need) bool {
	return in.Lies[n.Point] == position(n)
}

func position(n api.Need) int {
	if n.Reverse {
		return api.Reverse
	}
	return api.Normal
}
