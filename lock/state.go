package lock

import (
	"slices"

	"pointsman/api"
)

// step is how a route stands a cycle later.
func step(s api.RouteState, w way, in api.In) api.RouteState {
	switch s.Mode {
	case api.Setting:
		if w.liesRight(in) {
			return api.RouteState{Mode: api.Locked}
		}
		return wait(s, api.MaxDrive)
	case api.Locked:
		if in.Occupied[w.path[0]] {
			return entered()
		}
	case api.Releasing:
		if in.Occupied[w.path[0]] {
			return entered()
		}
		return wait(s, api.HoldTime-1)
	case api.Used:
		return follow(s, w.path, in)
	}
	return s
}

// entered is a route with a train in its first section.
func entered() api.RouteState {
	return api.RouteState{Mode: api.Used, Seen: true}
}

// wait is the route with one more cycle on its timer, Idle above the most.
func wait(s api.RouteState, most int) api.RouteState {
	s.Timer++
	if s.Timer > most {
		return api.RouteState{}
	}
	return s
}

// follow is a Used route, one look at its train later.
func follow(s api.RouteState, path []int, in api.In) api.RouteState {
	if in.Occupied[path[s.Gone]] {
		s.Seen = true
		return s
	}
	if !s.Seen {
		return s
	}
	s.Gone++
	s.Seen = false
	if s.Gone == len(path) {
		return api.RouteState{}
	}
	return s
}

// mayStand tells whether all routes may stand so at one time.
func (k *Lock) mayStand(l []api.RouteState) bool {
	if len(l) != len(k.ways) {
		return false
	}
	for r, w := range k.ways {
		if !mayBe(l[r], len(w.path)) || l[r].Mode != api.Idle && anyBusy(l, w.foes) {
			return false
		}
	}
	return true
}

// mayBe tells whether a route over so many sections may stand so.
func mayBe(s api.RouteState, sections int) bool {
	switch s.Mode {
	case api.Idle, api.Locked:
		return s == api.RouteState{Mode: s.Mode}
	case api.Setting:
		return isWaiting(s, api.MaxDrive)
	case api.Releasing:
		return isWaiting(s, api.HoldTime-1)
	case api.Used:
		return s.Timer == 0 && 0 <= s.Gone && s.Gone < sections
	}
	return false
}

func isWaiting(s api.RouteState, most int) bool {
	return s == api.RouteState{Mode: s.Mode, Timer: s.Timer} && 0 <= s.Timer && s.Timer <= most
}

// anyBusy tells whether one of these routes is not Idle.
func anyBusy(l []api.RouteState, routes []int) bool {
	return slices.ContainsFunc(routes, func(r int) bool { return l[r].Mode != api.Idle })
}
