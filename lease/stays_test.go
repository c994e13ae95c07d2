package lease_test

import (
	"slices"
	"sync"
	"testing"

	"pointsman/lease"
)

// answers is what a lease answers while it is granted, dropped, and granted anew.
func answers(x *lease.Lease, between func()) []int {
	var all []int
	look := func() {
		between()
		for tick := -2; tick < 40; tick++ {
			if x.Live(tick) {
				all = append(all, tick)
			}
		}
		all = append(all, x.Epoch())
	}
	look()
	for n := range 9 {
		x.Grant(n/2, 3*n)
		look()
		if n%3 == 2 {
			x.Drop()
			look()
		}
	}
	return all
}

// W2: two leases have nothing in common.
func TestLeasesAreApart(t *testing.T) {
	none, kept, dropped := lease.New(), granted(70, 3), granted(71, 3)
	dropped.Drop()
	answers(lease.New(), func() {
		isDead(t, "another one", none)
		hasEpoch(t, "another one", none, 0)
		isLive(t, "another one", kept, 8)
		hasEpoch(t, "another one", kept, 70)
		isDead(t, "another one", dropped)
		hasEpoch(t, "another one", dropped, 71)
	})
}

// W2: each New is a lease of its own, though they are alike.
func TestNewIsAnother(t *testing.T) {
	x, y := lease.New(), lease.New()
	if x == nil || y == nil || x == y {
		t.Fatal("New() is nil, or the same one twice")
	}
	x.Grant(2, 6)
	isDead(t, "the second one", y)
	y.Grant(3, 1)
	x.Drop()
	isLive(t, "the second one", y, 6)
	hasEpoch(t, "the first one", x, 2)
}

// W8: a lease that is copied goes on in the copy.
func TestCopy(t *testing.T) {
	x := granted(2, 6)
	copied := *x
	isLive(t, "a copy", &copied, 11)
	hasEpoch(t, "a copy", &copied, 2)
	copied.Grant(2, 8)
	isLive(t, "a copy, renewed", &copied, 13)
	copied.Drop()
	isDead(t, "a copy, dropped", &copied)
	again := copied
	isDead(t, "a copy of what was dropped", &again)
	hasEpoch(t, "a copy of what was dropped", &again, 2)
}

// W2: leases in many goroutines answer as one does alone.
func TestManyAtOneTime(t *testing.T) {
	nothing := func() {}
	want := answers(lease.New(), nothing)
	got := make([][]int, 16)
	var all sync.WaitGroup
	for i := range got {
		all.Go(func() { got[i] = answers(lease.New(), nothing) })
	}
	all.Wait()
	for i, row := range got {
		if !slices.Equal(row, want) {
			t.Errorf("goroutine %d: %v; want %v", i, row, want)
		}
	}
	if len(want) < 100 {
		t.Errorf("one alone answers %v", want)
	}
}
