package relay_test

import (
	"sync"
	"testing"

	"pointsman/relay"
)

// run is some cycles in which one unit has the field, yields, and the other one has it.
func run(t *testing.T, r *relay.Relay, look func()) {
	t.Helper()
	for now := 1; now <= 40; now++ {
		r.Begin(now)
		look()
		if now < 10 || now > 20 {
			r.Ask(now%7%2, now)
			look()
		}
		r.Ask(now/20, now)
		look()
		if now == 12 || now == 38 {
			r.Yield(r.Owner())
			look()
		}
	}
}

// W2: two relays have nothing in common.
func TestRelaysAreApart(t *testing.T) {
	r, other := relay.New(), relay.New()
	run(t, r, func() { is(t, other, "the other one", -1, -1, 0) })
	other.Begin(1)
	ask(t, other, "the other one", 1, 5, granted(1, 0))
}

// W8: a relay that is copied goes on in the copy.
func TestCopy(t *testing.T) {
	r := owned(t, 0, 1)
	r.Begin(2)
	ask(t, r, "the owner", 0, 5, granted(1, 0))
	copied := *r
	is(t, &copied, "a copy", 0, 0, 1)
	ask(t, &copied, "a copy", 0, 6, granted(1, 5))
	copied.Begin(9)
	is(t, &copied, "a copy", -1, 0, 1)
	copied.Begin(10)
	is(t, &copied, "a copy", -1, -1, 1)
}

// W2: relays in many goroutines answer as one does alone.
func TestManyAtOneTime(t *testing.T) {
	var want []state
	alone := relay.New()
	run(t, alone, func() { want = append(want, stateOf(alone)) })
	got := make([][]state, 16)
	var all sync.WaitGroup
	for i := range got {
		all.Go(func() {
			r := relay.New()
			run(t, r, func() { got[i] = append(got[i], stateOf(r)) })
		})
	}
	all.Wait()
	for i, states := range got {
		for k := range want {
			if states[k] != want[k] {
				t.Errorf("goroutine %d: %v in %d; want %v", i, states[k], k, want[k])
			}
		}
	}
	if last := want[len(want)-1]; last != stateOf(alone) || last.epoch < 2 {
		t.Errorf("the run ends with %v", last)
	}
}
