package relay_test

import (
	"math"
	"testing"

	"pointsman/api"
	"pointsman/relay"
)

// state is what a relay answers at any time.
type state struct{ connected, owner, epoch int }

func stateOf(r *relay.Relay) state { return state{r.Connected(), r.Owner(), r.Epoch()} }

// answer is one of Ask.
type answer struct {
	epoch, last int
	e           api.Errno
}

func askOf(r *relay.Relay, unit, count int) answer {
	epoch, last, e := r.Ask(unit, count)
	return answer{epoch, last, e}
}

var busy, wrong = answer{e: api.ErrBusy}, answer{e: api.ErrArg}

func granted(epoch, last int) answer { return answer{epoch, last, api.OK} }

func ask(t *testing.T, r *relay.Relay, what string, unit, count int, want answer) {
	t.Helper()
	if got := askOf(r, unit, count); got != want {
		t.Errorf("%s: Ask(%d, %d) = %v; want %v", what, unit, count, got, want)
	}
}

func yield(t *testing.T, r *relay.Relay, what string, unit int, want api.Errno) {
	t.Helper()
	if got := r.Yield(unit); got != want {
		t.Errorf("%s: Yield(%d) = %v; want %v", what, unit, got, want)
	}
}

func is(t *testing.T, r *relay.Relay, what string, connected, owner, epoch int) {
	t.Helper()
	if got, want := stateOf(r), (state{connected, owner, epoch}); got != want {
		t.Errorf("%s: connected, owner, epoch = %v; want %v", what, got, want)
	}
}

// owned is one that a unit owns, and has asked of in this cycle.
func owned(t *testing.T, unit, now int) *relay.Relay {
	t.Helper()
	r := relay.New()
	r.Begin(now)
	ask(t, r, "owned", unit, 0, granted(1, 0))
	is(t, r, "owned", -1, unit, 1)
	return r
}

// The chapter's example

func TestExample(t *testing.T) {
	r := relay.New()
	r.Begin(1)
	ask(t, r, "the first", 0, 0, granted(1, 0))
	ask(t, r, "the other", 1, 0, busy)
}

func TestNew(t *testing.T) {
	is(t, relay.New(), "new", -1, -1, 0)
}

// P10.1: Begin

func TestBeginConnectsNobody(t *testing.T) {
	r := owned(t, 1, 1)
	last := 0
	for now := 2; now < 40; now++ {
		r.Begin(now)
		is(t, r, "ahead of Ask", -1, 1, 1)
		ask(t, r, "each cycle", 1, now, granted(1, last))
		is(t, r, "behind Ask", 1, 1, 1)
		last = now
	}
}

func TestBeginOfNoCycle(t *testing.T) {
	for _, now := range []int{5, 4, 1, 0, -1, math.MinInt, api.MaxTime + 1, math.MaxInt} {
		r := owned(t, 0, 4)
		r.Begin(5)
		ask(t, r, "the owner", 0, 6, granted(1, 0))
		r.Begin(now)
		is(t, r, "no cycle", 0, 0, 1)
		r.Begin(12)
		is(t, r, "seven behind", -1, 0, 1)
		r.Begin(13)
		is(t, r, "eight behind", -1, -1, 1)
	}
}

// At first the last cycle is 0.
func TestBeginAtFirst(t *testing.T) {
	for _, now := range []int{0, -1, -9, math.MinInt, api.MaxTime + 1, math.MaxInt} {
		r := relay.New()
		ask(t, r, "cycle 0", 0, 0, granted(1, 0))
		ask(t, r, "cycle 0 again", 0, 0, granted(1, 0))
		r.Begin(now)
		is(t, r, "no cycle", 0, 0, 1)
		r.Begin(7)
		is(t, r, "seven behind", -1, 0, 1)
		r.Begin(8)
		is(t, r, "eight behind", -1, -1, 1)
	}
}

// The owner loses the field LeaseTime cycles behind its last Ask, however these are begun.
func TestLease(t *testing.T) {
	for _, first := range []int{0, 1, 2, 77, 1 << 33} {
		for behind := 1; behind <= 30; behind++ {
			r := owned(t, 0, first)
			r.Begin(first + behind)
			if behind < 8 {
				is(t, r, "a jump", -1, 0, 1)
				ask(t, r, "in time", 0, 3, granted(1, 0))
				r.Begin(first + behind + 7)
				is(t, r, "renewed", -1, 0, 1)
				r.Begin(first + behind + 8)
				is(t, r, "not renewed", -1, -1, 1)
			} else {
				is(t, r, "a jump", -1, -1, 1)
				ask(t, r, "too late", 0, 3, busy)
			}
		}
	}
}

func TestLeaseByEachCycle(t *testing.T) {
	r := owned(t, 1, 1)
	for now := 2; now <= 5; now++ {
		r.Begin(now)
		ask(t, r, "it asks", 1, 0, granted(1, 0))
	}
	for now := 6; now <= 12; now++ {
		r.Begin(now)
		is(t, r, "it asks no more", -1, 1, 1)
		ask(t, r, "the other one", 0, 9, busy)
	}
	r.Begin(13)
	is(t, r, "let go", -1, -1, 1)
}

// What the other unit asks in vain renews nothing.
func TestBusyRenewsNothing(t *testing.T) {
	r := owned(t, 0, 1)
	r.Begin(8)
	ask(t, r, "the other one", 1, 7, busy)
	is(t, r, "the last cycle", -1, 0, 1)
	r.Begin(9)
	is(t, r, "let go", -1, -1, 1)
	r.Begin(11)
	ask(t, r, "the other one", 1, 8, granted(2, 0))
}

// P10.2: Ask

func TestAskAheadOfAllCycles(t *testing.T) {
	for unit := range 2 {
		r := relay.New()
		ask(t, r, "at first", unit, 5, granted(1, 0))
		is(t, r, "at first", -1, unit, 1)
		ask(t, r, "the other one", 1-unit, 5, busy)
		is(t, r, "the other one", -1, unit, 1)
	}
}

// A second Ask in the cycle of the first is one of the owner.
func TestAskTwice(t *testing.T) {
	r := owned(t, 1, 3)
	ask(t, r, "second", 1, 5, granted(1, 0))
	is(t, r, "second", 1, 1, 1)
	ask(t, r, "third", 1, 4, granted(1, 5))
	is(t, r, "third", 1, 1, 1)
	ask(t, r, "the other one", 0, 7, busy)
	is(t, r, "the other one", 1, 1, 1)
	r.Begin(4)
	ask(t, r, "the next cycle", 1, 9, granted(1, 4))
	ask(t, r, "the next cycle, second", 1, 9, granted(1, 9))
	is(t, r, "the next cycle", 1, 1, 1)
}

// Counts are kept as they are, and need not rise.
func TestCounts(t *testing.T) {
	r := relay.New()
	ask(t, r, "first", 0, 7, granted(1, 0))
	last := 0
	for i, count := range []int{0, math.MaxInt, math.MaxInt - 1, 5, 0, 0, 1, 1 << 40, 2, math.MaxInt, 0} {
		r.Begin(i + 1)
		ask(t, r, "next", 0, count, granted(1, last))
		last = count
	}
}

func TestAskOfNone(t *testing.T) {
	for _, r := range []*relay.Relay{relay.New(), owned(t, 0, 1), owned(t, 1, 1)} {
		was := stateOf(r)
		for _, unit := range []int{-1, 2, 3, math.MinInt, math.MaxInt, 1 << 32, 1<<32 + 1} {
			ask(t, r, "no unit", unit, 0, wrong)
			ask(t, r, "no unit and no count", unit, -1, wrong)
		}
		for unit := range 2 {
			ask(t, r, "no count", unit, -1, wrong)
			ask(t, r, "no count", unit, math.MinInt, wrong)
		}
		if stateOf(r) != was {
			t.Errorf("became %v; was %v", stateOf(r), was)
		}
	}
}

// What errs neither connects, nor renews, nor tells a count.
func TestAskOfNoneChangesNothing(t *testing.T) {
	r := owned(t, 0, 1)
	r.Begin(2)
	ask(t, r, "the owner", 0, 40, granted(1, 0))
	r.Begin(9)
	for _, x := range [][2]int{{0, -1}, {1, -1}, {1, 70}, {2, 70}, {-1, 70}} {
		want := wrong
		if x == [2]int{1, 70} {
			want = busy
		}
		ask(t, r, "in vain", x[0], x[1], want)
		is(t, r, "in vain", -1, 0, 1)
	}
	r.Begin(10)
	is(t, r, "let go", -1, -1, 1)
	ask(t, r, "in the gap", 1, 70, busy)
	r.Begin(12)
	ask(t, r, "no count", 1, -1, wrong)
	is(t, r, "no count", -1, -1, 1)
	ask(t, r, "the other one", 1, 70, granted(2, 40))
	is(t, r, "the other one", -1, 1, 2)
}

// The field is free GapTime cycles behind the one in which the relay let go, for either unit.
func TestGap(t *testing.T) {
	for unit := range 2 {
		r := owned(t, 0, 1)
		r.Begin(2)
		ask(t, r, "the owner", 0, 33, granted(1, 0))
		for now := 10; now <= 11; now++ {
			r.Begin(now)
			is(t, r, "the gap", -1, -1, 1)
			ask(t, r, "the gap", 0, 1, busy)
			ask(t, r, "the gap", 1, 2, busy)
			is(t, r, "the gap", -1, -1, 1)
		}
		r.Begin(12)
		ask(t, r, "free", unit, 99, granted(2, 33))
		is(t, r, "free", -1, unit, 2)
		ask(t, r, "the other one", 1-unit, 5, busy)
		r.Begin(13)
		ask(t, r, "the new owner", unit, 98, granted(2, 33))
		is(t, r, "the new owner", unit, unit, 2)
		ask(t, r, "the new owner again", unit, 97, granted(2, 98))
	}
}

// It is the cycle in which the relay lets go that counts, not the one in which it might have.
func TestGapBehindAJump(t *testing.T) {
	r := owned(t, 1, 1)
	r.Begin(50)
	is(t, r, "let go", -1, -1, 1)
	for _, now := range []int{50, 51} {
		r.Begin(now)
		ask(t, r, "the gap", 1, 0, busy)
	}
	r.Begin(52)
	ask(t, r, "free", 1, 0, granted(2, 0))
}

// Once it is free it stays so.
func TestFreeForLong(t *testing.T) {
	r := owned(t, 1, 1)
	for _, now := range []int{9, 12, 20, 21, 1000} {
		r.Begin(now)
		is(t, r, "nobody asks", -1, -1, 1)
	}
	ask(t, r, "at last", 0, 3, granted(2, 0))
	r.Begin(1007)
	is(t, r, "its own lease", -1, 0, 2)
	r.Begin(1008)
	is(t, r, "its own lease", -1, -1, 2)
}

// P10.3: Yield

func TestYield(t *testing.T) {
	r := owned(t, 0, 1)
	r.Begin(2)
	ask(t, r, "the owner", 0, 6, granted(1, 0))
	is(t, r, "the owner", 0, 0, 1)
	yield(t, r, "the other one", 1, api.ErrState)
	is(t, r, "the other one", 0, 0, 1)
	yield(t, r, "the owner", 0, api.OK)
	is(t, r, "given up", -1, -1, 1)
	yield(t, r, "twice", 0, api.ErrState)
	ask(t, r, "in the same cycle", 0, 1, busy)
	ask(t, r, "in the same cycle", 1, 1, busy)
	r.Begin(3)
	yield(t, r, "in the gap", 0, api.ErrState)
	ask(t, r, "in the gap", 1, 1, busy)
	r.Begin(4)
	ask(t, r, "free", 1, 1, granted(2, 6))
	yield(t, r, "the old owner", 0, api.ErrState)
	is(t, r, "free", -1, 1, 2)
}

// An owner that is not connected, and that never was, can yield, too.
func TestYieldUnconnected(t *testing.T) {
	r := owned(t, 1, 1)
	yield(t, r, "in its first cycle", 1, api.OK)
	is(t, r, "in its first cycle", -1, -1, 1)
	r.Begin(3)
	ask(t, r, "it comes back", 1, 0, granted(2, 0))
	r.Begin(10)
	yield(t, r, "in the last cycle of its lease", 1, api.OK)
	is(t, r, "in the last cycle of its lease", -1, -1, 2)
	r.Begin(11)
	ask(t, r, "the gap", 0, 0, busy)
	r.Begin(12)
	ask(t, r, "free", 0, 0, granted(3, 0))
	r.Begin(20)
	yield(t, r, "too late", 0, api.ErrState)
}

// A Yield in vain begins no gap anew.
func TestYieldOfNone(t *testing.T) {
	for _, unit := range []int{-1, 0, 1, 2, math.MinInt, math.MaxInt} {
		r := relay.New()
		yield(t, r, "at first", unit, api.ErrState)
		is(t, r, "at first", -1, -1, 0)
		ask(t, r, "at first", 0, 0, granted(1, 0))
		if unit != 0 {
			yield(t, r, "of another one", unit, api.ErrState)
		}
		is(t, r, "of another one", -1, 0, 1)
		r.Begin(8)
		r.Begin(9)
		yield(t, r, "in the gap", unit, api.ErrState)
		r.Begin(10)
		yield(t, r, "free", unit, api.ErrState)
		ask(t, r, "free", 1, 0, granted(2, 0))
	}
}

// The last count stays over all changes of the owner.
func TestCountOverOwners(t *testing.T) {
	r := relay.New()
	last := 0
	for i := range 20 {
		now, unit := 100*i, i%3%2
		r.Begin(now + 1)
		ask(t, r, "a new owner", unit, 10000+i, granted(i+1, last))
		r.Begin(now + 2)
		if i%4 != 3 {
			ask(t, r, "the owner", unit, i, granted(i+1, last))
			last = i
		}
		if i%2 == 0 {
			yield(t, r, "the owner", unit, api.OK)
		}
		r.Begin(now + 50)
		is(t, r, "nobody", -1, -1, i+1)
	}
}

// The greatest cycle is one as any other; a field that was let go just ahead of it is never free.
func TestMaxTime(t *testing.T) {
	r := owned(t, 0, api.MaxTime-8)
	r.Begin(api.MaxTime - 1)
	is(t, r, "seven behind", -1, 0, 1)
	r.Begin(api.MaxTime + 1)
	r.Begin(math.MaxInt)
	is(t, r, "above", -1, 0, 1)
	r.Begin(api.MaxTime)
	is(t, r, "eight behind", -1, -1, 1)
	r.Begin(api.MaxTime + 2)
	ask(t, r, "above", 1, 0, busy)
	late := owned(t, 1, api.MaxTime)
	ask(t, late, "the last cycle", 1, 4, granted(1, 0))
	is(t, late, "the last cycle", 1, 1, 1)
	late.Begin(api.MaxTime)
	late.Begin(api.MaxTime - 1)
	is(t, late, "no later cycle", 1, 1, 1)
	yield(t, late, "the last cycle", 1, api.OK)
	ask(t, late, "the last cycle", 1, 4, busy)
	is(t, late, "the last cycle", -1, -1, 1)
}

// P10.4: a nil Relay

func TestNil(t *testing.T) {
	var r *relay.Relay
	for _, now := range []int{-1, 0, 1, api.MaxTime, api.MaxTime + 1} {
		r.Begin(now)
		for _, unit := range []int{-1, 0, 1, 2} {
			ask(t, r, "nil", unit, 0, wrong)
			ask(t, r, "nil", unit, -1, wrong)
			yield(t, r, "nil", unit, api.ErrState)
			is(t, r, "nil", -1, -1, 0)
		}
	}
}
