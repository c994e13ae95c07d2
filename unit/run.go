package unit

import (
	"math"

	"pointsman/api"
)

// Granted has the relay's grant.
func (u *Unit) Granted(epoch, last int) {
	if u == nil {
		return
	}
	switch u.mode {
	case api.Standby:
		u.begin(epoch, last)
	case api.Active, api.Forced:
		// Of another epoch than its own it does not know how the field was left.
		if epoch != u.lease.Epoch() {
			u.force(last)
		}
	default:
		return
	}
	u.lease.Grant(epoch, u.tick)
}

// Cycle goes one cycle on.
func (u *Unit) Cycle(in api.In, connected bool, c []api.Cmd) api.Out {
	if u == nil {
		return api.Out{}
	}
	if !u.lease.Live(u.tick) {
		return u.lock.Safe()
	}
	switch u.mode {
	case api.Active:
		u.countOne()
		return u.lead(in, connected, c)
	case api.Forced:
		u.countOne()
		u.toGo--
		if u.toGo == 0 {
			u.mode = api.Active
		}
	}
	return u.lock.Safe()
}

// begin has a Standby take over where its copy ends, or forces it.
func (u *Unit) begin(epoch, last int) {
	h := u.copy
	u.copy = nil
	if !h.isLastOf(epoch, last) {
		u.force(last)
		return
	}
	u.lock.Set(h.routes)
	u.mode, u.count = api.Active, h.count
}

// force has it begin without a copy: what routes stood is not known, so it tells nothing until all of it is over.
func (u *Unit) force(last int) {
	u.reset()
	u.mode, u.count, u.toGo = api.Forced, last, api.ForceTime
}

// lead is a cycle of the Lock; nobody is told of it while it is not connected.
func (u *Unit) lead(in api.In, connected bool, c []api.Cmd) api.Out {
	if !connected {
		u.lock.Cycle(in)
		return u.lock.Safe()
	}
	for _, x := range c {
		u.lock.Command(in, x)
	}
	return u.lock.Cycle(in)
}

func (u *Unit) countOne() {
	if u.count < math.MaxInt {
		u.count++
	}
}
