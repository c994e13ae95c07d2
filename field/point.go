package field

import "pointsman/api"

// A point is where one lies and, on the way, in how many Steps in succession it was driven to which position.
type point struct {
	lies  int
	to    int // Nowhere but on the way
	steps int
}

// resting is a point that lies so, with nothing of what it was driven.
func resting(lies int) point { return point{lies: lies} }

// driven is the point one Step later.
func (p point) driven(to int) point {
	if to == api.Nowhere || to == p.lies {
		return resting(p.lies)
	}
	steps := 1
	if to == p.to {
		steps += p.steps
	}
	if steps == api.MoveTime {
		return resting(to)
	}
	return point{lies: api.Nowhere, to: to, steps: steps}
}
