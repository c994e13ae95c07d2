package flat

import (
	"slices"

	"pointsman/api"
	"pointsman/crate"
)

// word is the text ahead of all that is laid.
const word = "state"

// ahead is how many numbers stand ahead of those of the routes: the epoch, the count, and how many routes there are.
const ahead = 3

// most is how many routes a crate has room for.
const most = (api.MaxCrate - 1 - ahead) / size

// Lay is all of a unit as a crate.
func Lay(epoch, count int, l []api.RouteState) *crate.Crate {
	if len(l) > most {
		return nil
	}
	c := crate.New()
	c.AddText(word)
	for _, n := range slices.Concat([]int{epoch, count, len(l)}, Of(l)) {
		c.AddInt(n)
	}
	return c
}

// Read is what was laid.
func Read(c *crate.Crate) (epoch, count int, l []api.RouteState, ok bool) {
	n, laid := numbers(c)
	if !laid || len(n) < ahead {
		return 0, 0, nil, false
	}
	l, ok = Take(n[ahead:])
	// Held against the routes that there are, and not turned into how many numbers there must be: that might wrap.
	if !ok || n[2] != len(l) {
		return 0, 0, nil, false
	}
	return n[0], n[1], l, true
}

// numbers is all that stands behind the word; false where the word is another one, or one of the things is no number.
func numbers(c *crate.Crate) ([]int, bool) {
	if s, ok := c.Text(0); !ok || s != word {
		return nil, false
	}
	var all []int
	for i := 1; i < c.Len(); i++ {
		n, ok := c.Int(i)
		if !ok {
			return nil, false
		}
		all = append(all, n)
	}
	return all, true
}
