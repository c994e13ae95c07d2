package lease_test

import (
	"math"
	"testing"

	"pointsman/api"
	"pointsman/lease"
)

// granted is a lease that was granted.
func granted(epoch, tick int) *lease.Lease {
	x := lease.New()
	x.Grant(epoch, tick)
	return x
}

// isLive holds that a lease is live at all ticks below its end, and at none from there on.
func isLive(t *testing.T, what string, x *lease.Lease, end int) {
	t.Helper()
	for _, tick := range []int{math.MinInt, -1 << 40, -1, 0, end - 100, end - 6, end - 5, end - 4, end - 2, end - 1} {
		if tick < end && !x.Live(tick) {
			t.Errorf("%s: Live(%d) = false; it ends at %d", what, tick, end)
		}
	}
	for _, tick := range []int{end, end + 1, end + 3, end + 100, end + 1<<40, math.MaxInt - 1, math.MaxInt} {
		if x.Live(tick) {
			t.Errorf("%s: Live(%d) = true; it ends at %d", what, tick, end)
		}
	}
}

// isDead holds that nothing is live.
func isDead(t *testing.T, what string, x *lease.Lease) {
	t.Helper()
	for _, tick := range []int{math.MinInt, -1 << 40, -5, -1, 0, 1, 4, 5, 8, 9, 1 << 40, math.MaxInt} {
		if x.Live(tick) {
			t.Errorf("%s: Live(%d) = true", what, tick)
		}
	}
}

func hasEpoch(t *testing.T, what string, x *lease.Lease, want int) {
	t.Helper()
	if got := x.Epoch(); got != want {
		t.Errorf("%s: Epoch() = %d; want %d", what, got, want)
	}
}

// P11.1: the chapter's example, and the times that it is made of

func TestExample(t *testing.T) {
	x := granted(1, 4)
	if x.Live(9) {
		t.Error("Grant(1, 4), Live(9) = true")
	}
	if !x.Live(8) {
		t.Error("Grant(1, 4), Live(8) = false")
	}
	if api.LeaseTime-api.Margin != 5 || api.MaxTime != 1<<40 {
		t.Error("the times are others than these tests say")
	}
}

// P11.1: Live and Epoch of one that nobody granted

func TestNotGranted(t *testing.T) {
	x := lease.New()
	isDead(t, "not granted", x)
	hasEpoch(t, "not granted", x, 0)
}

// P11.1: where a grant ends, and that of the tick at which it was granted

func TestGrant(t *testing.T) {
	for _, c := range []struct{ epoch, tick, end int }{
		{1, 0, 5}, {1, 1, 6}, {1, 4, 9}, {2, 4, 9}, {0, 7, 12}, {-3, 7, 12}, {9, 1000, 1005},
		{math.MaxInt, 3, 8}, {math.MinInt, 3, 8}, {1, 1<<40 - 1, 1<<40 + 4}, {1, 1 << 40, 1<<40 + 5},
	} {
		x := granted(c.epoch, c.tick)
		isLive(t, "granted", x, c.end)
		hasEpoch(t, "granted", x, c.epoch)
	}
}

// P11.1: granted again, by the same epoch and by others: the last one counts, whichever ends first

func TestGrantAgain(t *testing.T) {
	x := lease.New()
	for _, c := range []struct {
		what             string
		epoch, tick, end int
	}{
		{"first", 1, 4, 9},
		{"renewed in the same tick", 1, 4, 9},
		{"renewed", 1, 6, 11},
		{"renewed in its last tick", 1, 10, 15},
		{"renewed at its end", 1, 15, 20},
		{"granted anew behind its end", 1, 50, 55},
		{"another epoch", 2, 51, 56},
		{"another epoch in the same tick", 3, 51, 56},
		{"a tick that falls", 3, 20, 25},
		{"an epoch that falls", 1, 20, 25},
		{"both fall", 0, 0, 5},
		{"at the last tick of all", 7, 1 << 40, 1<<40 + 5},
		{"at the first again", 7, 0, 5},
	} {
		x.Grant(c.epoch, c.tick)
		isLive(t, c.what, x, c.end)
		hasEpoch(t, c.what, x, c.epoch)
	}
}

// P11.1: a lease does not hang on what it was asked: what is over at a tick is not at one below

func TestLiveTellsOnly(t *testing.T) {
	x := granted(3, 10)
	for _, c := range []struct {
		tick int
		want bool
	}{{15, false}, {14, true}, {math.MaxInt, false}, {10, true}, {-1, true}, {16, false}, {14, true}, {15, false}, {0, true}} {
		if got := x.Live(c.tick); got != c.want {
			t.Errorf("Grant(3, 10), Live(%d) = %v; want %v", c.tick, got, c.want)
		}
	}
}

// P11.1: Epoch behind the end

func TestEpochStays(t *testing.T) {
	x := granted(6, 10)
	for _, tick := range []int{14, 15, 16, 1 << 40, math.MaxInt} {
		x.Live(tick)
		hasEpoch(t, "behind its end", x, 6)
	}
}

// P11.1: Drop

func TestDrop(t *testing.T) {
	x := granted(4, 10)
	x.Drop()
	isDead(t, "dropped", x)
	hasEpoch(t, "dropped", x, 4)
	x.Drop()
	isDead(t, "dropped twice", x)
	hasEpoch(t, "dropped twice", x, 4)
}

func TestDropOfNone(t *testing.T) {
	x := lease.New()
	for range 2 {
		x.Drop()
		isDead(t, "not granted, dropped", x)
		hasEpoch(t, "not granted, dropped", x, 0)
	}
	x.Grant(5, 2)
	isLive(t, "granted behind a Drop of none", x, 7)
	hasEpoch(t, "granted behind a Drop of none", x, 5)
}

func TestDropBehindTheEnd(t *testing.T) {
	x := granted(4, 10)
	x.Live(20)
	x.Drop()
	isDead(t, "dropped behind its end", x)
	hasEpoch(t, "dropped behind its end", x, 4)
}

func TestGrantBehindDrop(t *testing.T) {
	for _, c := range []struct{ epoch, tick, end int }{{4, 10, 15}, {4, 11, 16}, {5, 10, 15}, {5, 30, 35}, {3, 2, 7}, {0, 0, 5}} {
		x := granted(4, 10)
		x.Drop()
		x.Grant(c.epoch, c.tick)
		isLive(t, "granted behind a Drop", x, c.end)
		hasEpoch(t, "granted behind a Drop", x, c.epoch)
		x.Drop()
		isDead(t, "and dropped again", x)
		hasEpoch(t, "and dropped again", x, c.epoch)
	}
}

// P11.2: of a nil lease

func TestNil(t *testing.T) {
	var x *lease.Lease
	look := func(what string) {
		isDead(t, what, x)
		hasEpoch(t, what, x, 0)
	}
	look("nil")
	for _, tick := range []int{0, 1, 1 << 40, math.MaxInt, math.MinInt} {
		x.Grant(1, tick)
		look("nil, granted")
		x.Drop()
		look("nil, dropped")
	}
}

// W1: ticks that nothing is said of do not panic, and the next grant is as any other

func TestGrantAtOtherTicks(t *testing.T) {
	for _, tick := range []int{-1, -5, math.MinInt, 1<<40 + 1, math.MaxInt - 5, math.MaxInt} {
		x := granted(2, tick)
		x.Live(tick)
		x.Epoch()
		x.Grant(3, 7)
		isLive(t, "granted behind another one", x, 12)
		hasEpoch(t, "granted behind another one", x, 3)
	}
}
