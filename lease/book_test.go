package lease_test

import (
	"math"
	"testing"

	"pointsman/lease"
)

// book is chapter 11 by its words, as all that ever was done: what a Lease is held against.
type book []act

// act is a Grant of an epoch at a tick, or a Drop.
type act struct {
	drop        bool
	epoch, tick int
}

// live asks all that was done, from the latest thing on.
func (b book) live(tick int) bool {
	if len(b) == 0 {
		return false
	}
	last := b[len(b)-1]
	if last.drop {
		return false
	}
	for behind := range 5 {
		if tick == last.tick+behind {
			return true
		}
	}
	return tick < last.tick
}

func (b book) epoch() int {
	epoch := 0
	for _, a := range b {
		if !a.drop {
			epoch = a.epoch
		}
	}
	return epoch
}

// around is each tick at which an answer may be another one than it was, and some far away: three turns back are enough,
// as what is older was asked of then.
func (b book) around() []int {
	ticks := []int{math.MinInt, -1 << 40, -1, 0, 1, 1 << 40, 1<<40 + 4, 1<<40 + 5, math.MaxInt}
	for _, a := range b[max(0, len(b)-3):] {
		for n := -7; n <= 12; n++ {
			ticks = append(ticks, a.tick+n)
		}
	}
	return ticks
}

func (a act) happen(x *lease.Lease) {
	if a.drop {
		x.Drop()
	} else {
		x.Grant(a.epoch, a.tick)
	}
}

// agree holds what a lease answers at any tick against the book; asked twice, as an answer changes nothing.
func (b book) agree(t *testing.T, x *lease.Lease) {
	t.Helper()
	for range 2 {
		for _, tick := range b.around() {
			if got, want := x.Live(tick), b.live(tick); got != want {
				t.Fatalf("%v: Live(%d) = %v; want %v", b, tick, got, want)
			}
		}
		if got, want := x.Epoch(), b.epoch(); got != want {
			t.Fatalf("%v: Epoch() = %d; want %d", b, got, want)
		}
	}
}

// acts is all that may happen in a short course: epochs and ticks that rise, fall and stay, and a Drop.
func acts() []act {
	all := []act{{drop: true}}
	for _, epoch := range []int{-1, 0, 1, 2} {
		for _, tick := range []int{0, 1, 4, 5, 20, 1 << 40} {
			all = append(all, act{epoch: epoch, tick: tick})
		}
	}
	return all
}

// every is each row of so many numbers under n, one after another.
func every(n, long int, do func(row []int)) {
	row := make([]int, long)
	for {
		do(row)
		i := 0
		for i < long && row[i] == n-1 {
			row[i] = 0
			i++
		}
		if i == long {
			return
		}
		row[i]++
	}
}

// P11.1: all that can happen in three turns

func TestEveryCourse(t *testing.T) {
	every(len(acts()), 3, func(row []int) {
		x, b := lease.New(), book{}
		b.agree(t, x)
		for _, n := range row {
			a := acts()[n]
			a.happen(x)
			b = append(b, a)
			b.agree(t, x)
		}
	})
}

// dice are numbers that are the same in every run.
type dice uint64

func (d *dice) under(n int) int {
	*d = *d*6364136223846793005 + 1442695040888963407
	return int(uint64(*d) >> 20 % uint64(n))
}

// act is a thing that happens: most often a Grant a bit ahead of the last tick, now and then anywhere.
func (d *dice) act(epoch, tick int) act {
	switch n := d.under(20); {
	case n < 3:
		return act{drop: true}
	case n < 12:
		return act{epoch: epoch, tick: tick + d.under(9)}
	case n < 15:
		return act{epoch: epoch + 1, tick: tick}
	case n < 17:
		return act{epoch: epoch, tick: max(0, tick-d.under(9))}
	case n < 18:
		return act{epoch: d.under(7) - 3, tick: d.under(30)}
	case n < 19:
		return act{epoch: math.MaxInt - d.under(2), tick: 1<<40 - d.under(9)}
	}
	return act{epoch: math.MinInt + d.under(2), tick: d.under(1<<40 + 1)}
}

// P11.1: long runs

func TestManyCourses(t *testing.T) {
	d := dice(11)
	for range 300 {
		x, b := lease.New(), book{}
		epoch, tick := 1, 0
		for range 200 {
			a := d.act(epoch, tick)
			if !a.drop {
				a.tick = min(a.tick, 1<<40)
				epoch, tick = a.epoch, a.tick
			}
			a.happen(x)
			b = append(b, a)
			b.agree(t, x)
		}
	}
}
