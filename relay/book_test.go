package relay_test

import (
	"math"
	"testing"

	"pointsman/api"
	"pointsman/relay"
)

// book is chapter 10 by its words, as all that ever was: what a Relay is held against.
type book struct {
	cycles []int    // all that were begun
	owners []tenure // one for each epoch
	counts []int    // all that owners told
}

// tenure is one unit's time with the field.
type tenure struct {
	unit  int
	asks  []int // the cycles in which it asked
	joins []int // those in which it was connected
	ended []int // the cycle in which the relay let go, if it did
}

func (b *book) now() int {
	if len(b.cycles) == 0 {
		return 0
	}
	return b.cycles[len(b.cycles)-1]
}

// latest is the last one that had the field, and has it perhaps; nil if nobody ever had.
func (b *book) latest() *tenure {
	if len(b.owners) == 0 {
		return nil
	}
	return &b.owners[len(b.owners)-1]
}

func (b *book) owner() int {
	if x := b.latest(); x != nil && x.ended == nil {
		return x.unit
	}
	return -1
}

func (b *book) connected() int {
	x := b.latest()
	if b.owner() < 0 || len(x.joins) == 0 || x.joins[len(x.joins)-1] != b.now() {
		return -1
	}
	return x.unit
}

func (b *book) begin(now int) {
	if now <= b.now() || now > 1<<40 {
		return
	}
	b.cycles = append(b.cycles, now)
	if b.owner() < 0 {
		return
	}
	if x := b.latest(); x.asks[len(x.asks)-1]+8 <= now {
		x.ended = append(x.ended, now)
	}
}

func (b *book) ask(unit, count int) (epoch, last int, e api.Errno) {
	if unit != 0 && unit != 1 {
		return 0, 0, api.ErrArg
	}
	if count < 0 {
		return 0, 0, api.ErrArg
	}
	if n := len(b.counts); n > 0 {
		last = b.counts[n-1]
	}
	x := b.latest()
	switch {
	case b.owner() == unit:
		x.asks, x.joins = append(x.asks, b.now()), append(x.joins, b.now())
		b.counts = append(b.counts, count)
	case x == nil || x.ended != nil && b.now() >= x.ended[0]+2:
		b.owners = append(b.owners, tenure{unit: unit, asks: []int{b.now()}})
	default:
		return 0, 0, api.ErrBusy
	}
	return len(b.owners), last, api.OK
}

func (b *book) yield(unit int) api.Errno {
	if unit < 0 || b.owner() != unit {
		return api.ErrState
	}
	x := b.latest()
	x.ended = append(x.ended, b.now())
	return api.OK
}

// agree holds what a relay answers at any time against the book.
func (b *book) agree(t *testing.T, r *relay.Relay, what any) {
	t.Helper()
	got, want := stateOf(r), state{b.connected(), b.owner(), len(b.owners)}
	if got != want {
		t.Fatalf("%v: connected, owner, epoch = %v; want %v", what, got, want)
	}
}

// act is a thing that is done with a relay: a cycle so many behind the present one is begun, or a unit asks, or one yields.
type act struct {
	what string
	n    int
}

func (a act) happen(t *testing.T, r *relay.Relay, b *book, count int, course any) {
	t.Helper()
	switch a.what {
	case "begin":
		r.Begin(b.now() + a.n)
		b.begin(b.now() + a.n)
	case "ask":
		got, want := askOf(r, a.n, count), answer{}
		want.epoch, want.last, want.e = b.ask(a.n, count)
		if got != want {
			t.Fatalf("%v: Ask(%d, %d) = %v; want %v", course, a.n, count, got, want)
		}
	case "yield":
		if got, want := r.Yield(a.n), b.yield(a.n); got != want {
			t.Fatalf("%v: Yield(%d) = %v; want %v", course, a.n, got, want)
		}
	}
	b.agree(t, r, course)
}

// acts is all that may happen, with the steps of cycles behind which something may be other than one cycle ahead.
func acts() []act {
	return []act{{"begin", 1}, {"begin", 2}, {"begin", 7}, {"begin", 8}, {"ask", 0}, {"ask", 1}, {"yield", 0}, {"yield", 1}}
}

// every is each row of so many numbers under n, one after another.
func every(n, long int, do func(row []int)) {
	row := make([]int, long)
	for {
		do(row)
		i := 0
		for i < long && row[i] == n-1 {
			row[i] = 0
			i++
		}
		if i == long {
			return
		}
		row[i]++
	}
}

func courseOf(row []int) []act {
	var course []act
	for _, n := range row {
		course = append(course, acts()[n])
	}
	return course
}

// P10.1, P10.2, P10.3: all that can happen in six turns, each count another one

func TestEveryCourse(t *testing.T) {
	every(len(acts()), 6, func(row []int) {
		r, b := relay.New(), &book{}
		course := courseOf(row)
		for i, a := range course {
			a.happen(t, r, b, 10*i+3, course[:i+1])
		}
	})
}

// nothings does all that changes nothing: what is none such, and what is not now.
func nothings(t *testing.T, r *relay.Relay, b *book, what any) {
	t.Helper()
	for _, now := range []int{b.now(), b.now() - 1, 0, -1, math.MinInt, 1<<40 + 1, math.MaxInt} {
		r.Begin(now)
		b.agree(t, r, what)
	}
	for _, x := range [][2]int{{2, 5}, {-1, 5}, {math.MinInt, 0}, {math.MaxInt, 0}, {0, -1}, {1, -1}, {0, math.MinInt}, {1, math.MinInt}, {-1, -1}, {2, -2}} {
		if got := askOf(r, x[0], x[1]); got != (answer{e: api.ErrArg}) {
			t.Fatalf("%v: Ask%v = %v; want ErrArg", what, x, got)
		}
		b.agree(t, r, what)
	}
	for _, unit := range []int{0, 1, -1, 2, math.MinInt, math.MaxInt} {
		if unit == b.owner() {
			continue
		}
		if e := r.Yield(unit); e != api.ErrState {
			t.Fatalf("%v: Yield(%d) = %v; want ErrState", what, unit, e)
		}
		b.agree(t, r, what)
	}
}

// W3: what errs changes nothing, wherever it stands in four turns

func TestNothingsInEveryCourse(t *testing.T) {
	every(len(acts()), 4, func(row []int) {
		r, b := relay.New(), &book{}
		course := courseOf(row)
		for i, a := range course {
			nothings(t, r, b, course[:i])
			a.happen(t, r, b, 10*i+3, course[:i+1])
		}
		nothings(t, r, b, course)
	})
}

// dice are numbers that are the same in every run.
type dice uint64

func (d *dice) under(n int) int {
	*d = *d*6364136223846793005 + 1442695040888963407
	return int(uint64(*d) >> 33 % uint64(n))
}

// act is a thing that happens: most often a cycle, or that the owner asks.
func (d *dice) act(owner int) act {
	switch n := d.under(40); {
	case n < 16:
		return act{"begin", 1}
	case n < 18:
		return act{"begin", d.under(12)}
	case n < 30 && owner >= 0:
		return act{"ask", owner}
	case n < 37:
		return act{"ask", d.under(2)}
	case n < 38:
		return act{"yield", d.under(2)}
	}
	return act{"begin", 1 + d.under(3)}
}

// P10.1 to P10.4: long runs; in each cycle one unit at most is ever connected, and from one to the other there is a gap

func TestManyCourses(t *testing.T) {
	d := dice(10)
	joined, epochs := [2]int{}, 0
	for i := range 400 {
		r, b := relay.New(), &book{}
		who, when := -1, 0
		for k := range 600 {
			if d.under(10) == 0 {
				nothings(t, r, b, []int{i, k})
			}
			d.act(b.owner()).happen(t, r, b, d.under(1<<31), []int{i, k})
			c := r.Connected()
			if c < 0 {
				continue
			}
			if r.Owner() != c || who >= 0 && who != c && b.now() < when+2 {
				t.Fatalf("%d was connected in %d, %d is in %d, owner %d", who, when, c, b.now(), r.Owner())
			}
			who, when = c, b.now()
			joined[c]++
		}
		epochs += r.Epoch()
	}
	if joined[0] < 10000 || joined[1] < 10000 || epochs < 4000 {
		t.Errorf("connected %v, epochs %d", joined, epochs)
	}
}
