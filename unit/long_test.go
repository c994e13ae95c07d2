package unit_test

import (
	"math"
	"slices"
	"testing"

	"pointsman/api"
	"pointsman/unit"
)

// wrongRoutes is routes that junction's may not be, of another number or in a way that none may stand.
func wrongRoutes() [][]api.RouteState {
	one := func(s api.RouteState) []api.RouteState { return []api.RouteState{s, {}, {}} }
	return [][]api.RouteState{
		nil, routes(0, 0, 0)[:2], append(routes(0, 0, 0), api.RouteState{}), make([]api.RouteState, 24),
		routes(5, 0, 0), routes(-1, 0, 0), routes(math.MinInt, 0, 0), routes(0, 0, math.MaxInt),
		routes(1, 2, 0), routes(0, 4, 3), routes(2, 2, 2),
		one(api.RouteState{Timer: 1}), one(api.RouteState{Gone: 1}), one(api.RouteState{Seen: true}),
		one(api.RouteState{Mode: 1, Timer: 9}), one(api.RouteState{Mode: 1, Timer: -1}), one(api.RouteState{Mode: 1, Seen: true}),
		one(api.RouteState{Mode: 2, Timer: 1}), one(api.RouteState{Mode: 2, Gone: 1}), one(api.RouteState{Mode: 2, Seen: true}),
		one(api.RouteState{Mode: 3, Gone: 2}), one(api.RouteState{Mode: 3, Gone: -1}), one(api.RouteState{Mode: 3, Timer: 1}),
		one(api.RouteState{Mode: 4, Timer: 6}), one(api.RouteState{Mode: 4, Timer: -1}), one(api.RouteState{Mode: 4, Gone: 1}),
	}
}

// noTelegrams is bytes that tell nothing of such an epoch and count: none are a telegram, or none is of what Lay lays.
func noTelegrams(epoch, count int) [][]byte {
	good := heard{epoch, count, routes(0, 0, 1)}.telegram()
	l := [][]byte{
		nil, {}, []byte("junk"), make([]byte, 7), make([]byte, len(good)), good[:len(good)-1], good[1:], good[6:],
		append(good[:len(good):len(good)], 0), slices.Concat(good, good), make([]byte, 100000),
		sealed(nil), sealed([]byte{0}), sealed([]byte{1, 3, 1}), sealed([]byte{1, 2, 5, 's', 't', 'a', 't', 'e'}),
		stateOf(), stateOf(epoch), stateOf(epoch, count), stateOf(epoch, count, 3), stateOf(epoch, count, 3, 0, 0, 0),
		stateOf(append([]int{epoch, count, 2}, flatOf(routes(0, 0, 1))...)...),
		stateOf(append([]int{epoch, count, 4}, flatOf(routes(0, 0, 1))...)...),
		stateOf(append([]int{epoch, count, 3}, append(flatOf(routes(0, 0, 1)), 0)...)...),
		stateOf(epoch, count, 3, 0, 0, 0, 2, 0, 0, 0, 0, 0, 0, 0, 0),
		stateOf(epoch, count, 3, 0, 0, 0, -1, 0, 0, 0, 0, 0, 0, 0, 0),
	}
	return append(l, resealed(good)...)
}

// resealed is telegrams with a whole sum and another word, kind of thing, or number of things in the body.
func resealed(good []byte) [][]byte {
	var l [][]byte
	for _, x := range []struct {
		at int
		to byte
	}{{0, 15}, {1, 1}, {2, 4}, {3, 'S'}, {7, 'a'}, {8, 2}, {17, 3}, {26, 0}} {
		body := slices.Clone(good[6:])
		body[x.at] = x.to
		l = append(l, sealed(body))
	}
	shorter := slices.Concat(good[6:14], []byte{3, 1}, good[23:])
	return append(l, sealed(shorter))
}

// spoilt is a telegram, each time with another byte of it turned.
func spoilt(good []byte) [][]byte {
	var l [][]byte
	for i := range good {
		for _, with := range []byte{1, 0x80, 0xff} {
			b := slices.Clone(good)
			b[i] ^= with
			l = append(l, b)
		}
	}
	return l
}

// nothings does all that changes nothing: what is none such, and what is not now.
func nothings(t *testing.T, u *unit.Unit, b *book, what any) {
	t.Helper()
	nothingHeard(t, u, b)
	u.Tick(true)
	if b.mode != api.Down && u.Start() != api.ErrState {
		t.Fatalf("%v: Start is not refused", what)
	}
	if b.mode != api.Active && u.Yield() {
		t.Fatalf("%v: Yield is true", what)
	}
	if b.mode == api.Down {
		u.Tick(false)
	}
	if b.mode <= api.Boot {
		u.Granted(b.epoch, 3)
		u.Granted(b.epoch+1, 9)
	}
	if b.mode <= api.Standby {
		for _, connected := range []bool{false, true} {
			if o := u.Cycle(field(nor), connected, []api.Cmd{call(0), call(2)}); !isSafe(o, 1, 2) {
				t.Fatalf("%v: told %v", what, o)
			}
		}
	}
	b.agree(t, u, what)
}

// nothingHeard has it hear what is none, what is too old, and, where it is no Standby, anything.
func nothingHeard(t *testing.T, u *unit.Unit, b *book) {
	t.Helper()
	h, has := b.copy()
	if !has {
		h = heard{epoch: b.epoch, count: b.count}
	}
	for _, x := range noTelegrams(h.epoch, h.count+1) {
		u.Hear(x)
	}
	for _, l := range wrongRoutes() {
		u.Hear(heard{h.epoch, h.count + 1, l}.telegram())
	}
	for _, x := range spoilt(heard{h.epoch, h.count + 1, routes(2, 0, 2)}.telegram())[:60] {
		u.Hear(x)
	}
	if b.mode == api.Standby && !has {
		return
	}
	for _, x := range [][2]int{{0, 0}, {0, -1}, {-1, 0}, {-1, 7}, {-2, 1 << 40}} {
		u.Hear(heard{h.epoch + x[0], h.count + x[1], routes(0, 3, 0)}.telegram())
	}
	if b.mode != api.Standby {
		u.Hear(heard{h.epoch, h.count + 1, routes(0, 3, 0)}.telegram())
		u.Hear(heard{h.epoch + 1, h.count, routes(0, 3, 0)}.telegram())
	}
}

// W3: what is refused, and what is not now, changes nothing, wherever it stands in two turns behind each of the starts

func TestNothingsInEveryCourse(t *testing.T) {
	for _, start := range starts() {
		every(len(acts()), 2, func(row []int) {
			u, b := made(t), bookOf(junction())
			start.happen(t, u, b)
			for _, n := range row {
				nothings(t, u, b, start)
				acts()[n].do(t, u, b)
			}
			nothings(t, u, b, row)
		})
	}
}

// dice are numbers that are the same in every run.
type dice uint64

func (d *dice) under(n int) int {
	*d = *d*6364136223846793005 + 1442695040888963407
	return int(uint64(*d) >> 33 % uint64(n))
}

// near is a number, most often just this one.
func (d *dice) near(n int) int {
	if d.under(5) > 0 {
		return n
	}
	return n + d.under(5) - 2
}

// route is one over so many sections, in any way that it may stand.
func (d *dice) route(sections int) api.RouteState {
	switch d.under(6) {
	case 0:
		return api.RouteState{Mode: 1, Timer: d.under(9)}
	case 1:
		return api.RouteState{Mode: 2}
	case 2:
		return api.RouteState{Mode: 3, Gone: d.under(sections), Seen: d.under(2) == 0}
	case 3:
		return api.RouteState{Mode: 4, Timer: d.under(6)}
	}
	return api.RouteState{}
}

func (d *dice) in() api.In {
	if d.under(30) == 0 {
		return api.In{Occupied: make([]bool, 3)}
	}
	in := field(d.under(3))
	for section := range in.Occupied {
		in.Occupied[section] = d.under(4) == 0
	}
	return in
}

func (d *dice) commands() []api.Cmd {
	var l []api.Cmd
	for range d.under(4) {
		l = append(l, api.Cmd{Kind: d.under(4), Route: d.under(5) - 1})
	}
	return l
}

// granted is a grant: most often the one that renews, or the one that takes over.
func (d *dice) granted(b *book) act {
	h, has := b.copy()
	switch {
	case b.mode > api.Standby && d.under(25) > 0:
		return doGranted(b.epoch, d.under(9))
	case has:
		return doGranted(d.near(h.epoch+1), d.near(h.count))
	}
	return doGranted(d.near(b.epoch+1), d.under(90))
}

// act is a thing that happens.
func (d *dice) act(b *book) act {
	switch n := d.under(100); {
	case n < 1:
		return doCrash()
	case n < 5:
		return doStart()
	case n < 26:
		return doTick(1)
	case n < 30:
		return doSlow()
	case n < 31:
		return doYield()
	case n < 45:
		h, has := b.copy()
		if !has {
			h = heard{epoch: b.epoch, count: b.count}
		}
		return doHear(d.near(h.epoch), d.near(h.count+1), []api.RouteState{d.route(2), d.route(2), d.route(1)})
	case n < 60:
		return d.granted(b)
	}
	return doCycle(1, d.in(), d.under(4) > 0, d.commands()...)
}

// P12.1 to P12.6: long runs

func TestManyCourses(t *testing.T) {
	d := dice(12)
	over := [5]int{} // how often it came to each of the modes
	took := 0
	for i := range 300 {
		u, b := made(t), bookOf(junction())
		for k := range 500 {
			if d.under(50) == 0 {
				nothings(t, u, b, []int{i, k})
			}
			was := b.mode
			a := d.act(b)
			a.do(t, u, b)
			b.agree(t, u, []any{i, k, a.what})
			if b.mode != was {
				over[b.mode]++
			}
			if b.mode == api.Active && was == api.Standby {
				took++
			}
		}
	}
	for mode, times := range over {
		if times < 300 {
			t.Errorf("it came to mode %d %d times", mode, times)
		}
	}
	if took < 300 || over[api.Active]-took < 100 {
		t.Errorf("it took over %d times, and came to be Active %d times", took, over[api.Active])
	}
}
