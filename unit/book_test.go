package unit_test

import (
	"cmp"
	"encoding/binary"
	"hash/crc32"
	"math"
	"slices"
	"testing"

	"pointsman/api"
	"pointsman/lock"
	"pointsman/unit"
)

// junction is two ways that part behind a, a point in one of them, and three routes: y excludes the two others.
func junction() api.Layout {
	return api.Layout{
		Sections: []string{"a", "b", "c"},
		Points:   []api.Point{{Name: "W", Section: 1}},
		Signals:  []string{"S", "T"},
		Routes: []api.Route{
			{Name: "x", From: 0, To: 1, Path: []int{0, 1}, Points: []api.Need{{Point: 0}}},
			{Name: "y", From: 0, To: 1, Path: []int{0, 2}, Flank: []api.Need{{Point: 0, Reverse: true}}},
			{Name: "z", From: 1, To: 0, Path: []int{2}},
		},
	}
}

// row is numbers as bytes, the highest byte first, each with the sign of a number ahead of it.
func row(numbers ...int) []byte {
	var b []byte
	for _, n := range numbers {
		b = binary.BigEndian.AppendUint64(append(b, 1), uint64(n))
	}
	return b
}

// sealed is a body as a telegram.
func sealed(body []byte) []byte {
	b := binary.BigEndian.AppendUint32(nil, crc32.Checksum(body, crc32.MakeTable(crc32.Castagnoli)))
	return append(binary.BigEndian.AppendUint16(b, uint16(len(body))), body...)
}

// flatOf is routes as numbers.
func flatOf(l []api.RouteState) []int {
	var n []int
	for _, s := range l {
		n = append(n, s.Mode, s.Timer, s.Gone, map[bool]int{true: 1}[s.Seen])
	}
	return n
}

// stateOf is the telegram of these numbers behind the word.
func stateOf(numbers ...int) []byte {
	return sealed(append([]byte{byte(1 + len(numbers)), 2, 5, 's', 't', 'a', 't', 'e'}, row(numbers...)...))
}

// heard is what a telegram tells.
type heard struct {
	epoch, count int
	routes       []api.RouteState
}

func (h heard) telegram() []byte {
	return stateOf(append([]int{h.epoch, h.count, len(h.routes)}, flatOf(h.routes)...)...)
}

// book is chapter 12 by its words: what a Unit is held against. Its Lock is made anew for each thing that is asked of it.
type book struct {
	l      api.Layout
	mode   int
	booted int // ticks since it was started
	since  int // ticks since it was granted the field
	epoch  int // of its last grant
	forced int // Cycles since it was forced
	count  int
	heard  []heard // all that may be a copy, since it stands by
	routes []api.RouteState
}

// reset has it be in a mode with nothing but its count.
func (b *book) reset(mode int) {
	b.mode, b.heard, b.routes = mode, nil, make([]api.RouteState, len(b.l.Routes))
}

func bookOf(l api.Layout) *book {
	b := &book{l: l}
	b.reset(2)
	return b
}

// lock is one in which routes stand so; false, if they may not.
func (b *book) lock(routes []api.RouteState) (*lock.Lock, bool) {
	k, _ := lock.New(b.l)
	return k, k.Set(routes)
}

func (b *book) crash() {
	b.reset(0)
	b.count = 0
}

func (b *book) start() api.Errno {
	if b.mode != 0 {
		return api.ErrState
	}
	b.mode, b.booted = 1, 0
	return api.OK
}

// tick is one of a clock that is not slow; of one that is nothing is new.
func (b *book) tick() {
	b.booted++
	b.since++
	if b.mode == 1 && b.booted == 3 {
		b.mode = 2
	}
	if b.mode > 2 && b.since == 5 {
		b.reset(2)
	}
}

func (b *book) hear(h heard) {
	if _, may := b.lock(h.routes); b.mode == 2 && may {
		b.heard = append(b.heard, h)
	}
}

// copy is the first one of the newest that it heard.
func (b *book) copy() (heard, bool) {
	if len(b.heard) == 0 {
		return heard{}, false
	}
	return slices.MaxFunc(b.heard, func(x, y heard) int {
		return cmp.Or(cmp.Compare(x.epoch, y.epoch), cmp.Compare(x.count, y.count))
	}), true
}

func (b *book) granted(epoch, last int) {
	h, has := b.copy()
	switch {
	case b.mode < 2:
		return
	case b.mode == 2 && has && epoch != math.MinInt && h.epoch == epoch-1 && h.count >= last:
		b.reset(3)
		b.count, b.routes = h.count, h.routes
	case b.mode == 2 || epoch != b.epoch:
		b.reset(4)
		b.count, b.forced = last, 0
	}
	b.since, b.epoch = 0, epoch
}

func (b *book) cycle(in api.In, connected bool, l []api.Cmd) api.Out {
	k, _ := b.lock(b.routes)
	out := k.Safe()
	if b.mode < 3 {
		return out
	}
	if b.count != 1<<63-1 {
		b.count++
	}
	if b.mode == 4 {
		b.forced++
		if b.forced == 10 {
			b.mode = 3
		}
		return out
	}
	if !connected {
		l = nil
	}
	for _, c := range l {
		k.Command(in, c)
	}
	told := k.Cycle(in)
	b.routes = k.Routes()
	if connected {
		out = told
	}
	return out
}

func (b *book) yield() bool {
	if b.mode != 3 {
		return false
	}
	b.reset(2)
	return true
}

func (b *book) send() []byte {
	if b.mode != 3 {
		return nil
	}
	return heard{b.epoch, b.count, b.routes}.telegram()
}

// agree holds what a unit answers at any time against the book.
func (b *book) agree(t *testing.T, u *unit.Unit, what any) {
	t.Helper()
	if u.Mode() != b.mode || u.Count() != b.count {
		t.Fatalf("%v: Mode, Count = %d, %d; want %d, %d", what, u.Mode(), u.Count(), b.mode, b.count)
	}
	if l := u.Routes(); !slices.Equal(l, b.routes) {
		t.Fatalf("%v: Routes = %v; want %v", what, l, b.routes)
	}
	if s, want := u.Send(), b.send(); string(s) != string(want) {
		t.Fatalf("%v: Send = %x; want %x", what, s, want)
	}
}

func isOut(a, b api.Out) bool {
	return slices.Equal(a.Drive, b.Drive) && slices.Equal(a.Proceed, b.Proceed)
}

// isSafe holds that an answer tells a field of so many points and signals nothing.
func isSafe(o api.Out, points, signals int) bool {
	return isOut(o, api.Out{Drive: make([]int, points), Proceed: make([]bool, signals)})
}

// act is a thing that is done with a unit.
type act struct {
	what string
	do   func(t *testing.T, u *unit.Unit, b *book)
}

type course []act

func (c course) String() string {
	s := ""
	for _, a := range c {
		s += a.what + "; "
	}
	return s
}

func (c course) happen(t *testing.T, u *unit.Unit, b *book) {
	t.Helper()
	for i, a := range c {
		a.do(t, u, b)
		b.agree(t, u, c[:i+1])
	}
}

// every is each row of so many numbers under n, one after another.
func every(n, long int, do func(row []int)) {
	row := make([]int, long)
	for {
		do(row)
		i := 0
		for i < long && row[i] == n-1 {
			row[i] = 0
			i++
		}
		if i == long {
			return
		}
		row[i]++
	}
}
