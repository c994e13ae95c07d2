package lock

import (
	"slices"

	"pointsman/api"
)

func (k *Lock) call(in api.In, r int) api.Errno {
	if k.states[r].Mode != api.Idle {
		return api.ErrState
	}
	if anyBusy(k.states, k.ways[r].foes) || !k.ways[r].isClear(in) || k.isBarred(in, r) {
		return api.ErrBusy
	}
	k.states[r] = api.RouteState{Mode: api.Setting}
	return api.OK
}

func (k *Lock) cancel(r int) api.Errno {
	switch k.states[r].Mode {
	case api.Setting:
		k.states[r] = api.RouteState{}
	case api.Locked:
		// A driver may have seen the signal proceed: the way is held for a time.
		k.states[r] = api.RouteState{Mode: api.Releasing}
	default:
		return api.ErrState
	}
	return api.OK
}

// isBarred tells whether a point lies wrong for a route and may not be moved for it.
func (k *Lock) isBarred(in api.In, r int) bool {
	return slices.ContainsFunc(k.ways[r].needs, func(n api.Need) bool {
		return !isRight(in, n) && !k.mayMove(in, n.Point, r)
	})
}

// mayMove tells whether a point may be moved for a route: no train stands on it, and no other route holds its section.
func (k *Lock) mayMove(in api.In, point, r int) bool {
	section := k.points[point]
	holder := k.Holder(section)
	return !in.Occupied[section] && (holder == nobody || holder == r)
}

// held is the sections that a route holds.
func (k *Lock) held(r int) []int {
	if k.states[r].Mode == api.Idle {
		return nil
	}
	// Of all but Used none is Gone.
	return k.ways[r].path[k.states[r].Gone:]
}

// tell writes into out what a route tells the field.
func (k *Lock) tell(in api.In, r int, out api.Out) {
	w := k.ways[r]
	switch k.states[r].Mode {
	case api.Setting:
		for _, n := range w.needs {
			if !isRight(in, n) && k.mayMove(in, n.Point, r) {
				out.Drive[n.Point] = position(n)
			}
		}
	case api.Locked:
		if w.isClear(in) && w.liesRight(in) {
			out.Proceed[w.from] = true
		}
	}
}
