package unit

import (
	"pointsman/api"
	"pointsman/flat"
	"pointsman/wire"
)

// heard is how the other unit stood, as its telegram told.
type heard struct {
	epoch, count int
	routes       []api.RouteState
}

// Hear hears a telegram.
func (u *Unit) Hear(b []byte) {
	if u == nil || u.mode != api.Standby {
		return
	}
	h, ok := read(b)
	if ok && h.isNewerThan(u.copy) && u.mayStand(h.routes) {
		u.copy = &h
	}
}

// Send is what it tells the other one.
func (u *Unit) Send() []byte {
	if u == nil || u.mode != api.Active {
		return nil
	}
	// All routes that a layout may have find room in a crate, so there is no error.
	b, _ := wire.Pack(flat.Lay(u.lease.Epoch(), u.count, u.lock.Routes()))
	return b
}

// read is what a telegram tells; false of bytes that are none.
func read(b []byte) (heard, bool) {
	c, e := wire.Unpack(b)
	if e != api.OK {
		return heard{}, false
	}
	epoch, count, routes, ok := flat.Read(c)
	return heard{epoch, count, routes}, ok
}

// isNewerThan tells whether it is ahead of another one, by its epoch, then by its count; where there is none it is.
func (h heard) isNewerThan(other *heard) bool {
	if other == nil {
		return true
	}
	if h.epoch != other.epoch {
		return h.epoch > other.epoch
	}
	return h.count > other.count
}

// isLastOf tells whether it is a copy of how all stood when the epoch ahead of this one ended.
func (h *heard) isLastOf(epoch, last int) bool {
	// Held below the epoch first, as one more than it might wrap else.
	return h != nil && h.epoch < epoch && h.epoch+1 == epoch && h.count >= last
}

// mayStand tells whether routes may stand so, of a Standby: its Lock is tried, and reset, as it was.
func (u *Unit) mayStand(routes []api.RouteState) bool {
	may := u.lock.Set(routes)
	u.reset()
	return may
}
