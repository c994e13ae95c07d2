package wire

import "pointsman/crate"

// reader is what of a telegram is not read yet.
type reader struct {
	rest []byte
}

// read is the crate that a telegram is the Pack of, if it is one; else it is any.
func read(b []byte) *crate.Crate {
	r := reader{b}
	r.take(sumSize + lengthSize)
	c := crate.New()
	for range r.number(1) {
		r.thing(c)
	}
	return c
}

// thing puts what is told next into a crate; of a kind that is none, nothing.
func (r *reader) thing(c *crate.Crate) {
	switch r.number(1) {
	case kindInt:
		c.AddInt(int(r.number(intSize)))
	case kindText:
		c.AddText(string(r.take(int(r.number(1)))))
	case kindBool:
		c.AddBool(r.number(1) == 1)
	}
}

// number is that of the next bytes, the highest first.
func (r *reader) number(size int) uint64 {
	n := uint64(0)
	for _, b := range r.take(size) {
		n = n<<8 + uint64(b)
	}
	return n
}

// take is the next bytes, or all that are left, if there are fewer.
func (r *reader) take(size int) []byte {
	size = min(size, len(r.rest))
	b := r.rest[:size]
	r.rest = r.rest[size:]
	return b
}
