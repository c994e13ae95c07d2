package wire_test

import (
	"bytes"
	"slices"
	"sync"
	"testing"

	"pointsman/api"
	"pointsman/crate"
	"pointsman/wire"
)

// P8.3, W6, W7: what is handed in is neither changed nor kept; what is answered is new memory, and stays what it is.

// spoil overwrites bytes with the spare room behind them.
func spoil(b []byte) {
	b = b[:cap(b)]
	for i := range b {
		b[i] = 0xee
	}
}

func packed(t *testing.T, c *crate.Crate) []byte {
	t.Helper()
	b, e := wire.Pack(c)
	if e != api.OK {
		t.Fatalf("Pack: %v", e)
	}
	return b
}

func unpacked(t *testing.T, b []byte) *crate.Crate {
	t.Helper()
	c, e := wire.Unpack(b)
	if e != api.OK {
		t.Fatalf("Unpack: %v", e)
	}
	return c
}

func holds(t *testing.T, c *crate.Crate, things row) {
	t.Helper()
	if !slices.Equal(rowOf(c), things) {
		t.Errorf("the crate became %.99q; was %.99q", rowOf(c), things)
	}
}

// Pack changes no crate, be it packed or refused.
func TestCrateStays(t *testing.T) {
	for _, things := range append(samples(), row{1, xs(201), true}, many(api.MaxCrate, xs(200))) {
		c := crateOf(t, things)
		for range 2 {
			b, _ := wire.Pack(c)
			spoil(b)
			holds(t, c, things)
		}
	}
}

// A telegram stays when its crate gets more things, and the next one has them.
func TestCrateIsNotKept(t *testing.T) {
	c := crate.New()
	things := row{}
	var all, want [][]byte
	for _, thing := range oddThings() {
		things = append(things, thing)
		add(c, thing)
		all = append(all, packed(t, c))
		want = append(want, bookPack(things))
	}
	for i := range all {
		if !bytes.Equal(all[i], want[i]) {
			t.Errorf("telegram %d became %.99x; was %.99x", i, all[i], want[i])
		}
	}
}

// Telegrams share nothing with one another, nor with any that comes later.
func TestTelegramsAreNew(t *testing.T) {
	for _, things := range samples() {
		c := crateOf(t, things)
		want := bookPack(things)
		a, b := packed(t, c), packed(t, c)
		spoil(a)
		if !bytes.Equal(b, want) {
			t.Errorf("a telegram became %.99x by another one; was %.99x", b, want)
		}
		if again := packed(t, c); !bytes.Equal(again, want) {
			t.Errorf("a later telegram is %.99x; want %.99x", again, want)
		}
		b, other := packed(t, c), packed(t, c)
		b, other = append(b, 1, 1, 1), append(other, 2, 2, 2)
		if !bytes.Equal(b, append(want, 1, 1, 1)) {
			t.Error("two telegrams share spare room")
		}
	}
}

// Unpack changes no bytes, nor those in the spare room, be they a telegram or none.
func TestBytesStay(t *testing.T) {
	for _, things := range samples() {
		b := bookPack(things)
		for k := range len(b) + 1 {
			whole := slices.Concat(b, []byte("spare"))
			was := slices.Clone(whole)
			for range 2 {
				wire.Unpack(whole[:k])
				if !bytes.Equal(whole, was) {
					t.Fatalf("the bytes became %.99x; were %.99x", whole, was)
				}
			}
		}
	}
}

// What stands in the spare room is no part of a telegram.
func TestSpareRoomIsNotRead(t *testing.T) {
	for _, things := range samples() {
		b := bookPack(things)
		for k := range b {
			noTelegram(t, b[:k])
		}
		holds(t, unpacked(t, append(b, b...)[:len(b)]), things)
	}
}

func TestBytesAreNotKept(t *testing.T) {
	for _, things := range samples() {
		b := slices.Concat(bookPack(things), []byte("spare"))[:len(bookPack(things))]
		c := unpacked(t, b)
		spoil(b)
		holds(t, c, things)
		if again := packed(t, c); !bytes.Equal(again, bookPack(things)) {
			t.Errorf("Pack of %.99q: %.99x", things, again)
		}
	}
}

// Crates of the same bytes are apart: each gets things of its own behind.
func TestCratesAreNew(t *testing.T) {
	for _, things := range samples() {
		b := bookPack(things)
		c, d := unpacked(t, b), unpacked(t, b)
		c.AddInt(1)
		holds(t, d, things)
		d.AddText("d")
		c.AddBool(true)
		holds(t, c, append(slices.Clone(things), 1, true))
		holds(t, d, append(slices.Clone(things), "d"))
		holds(t, unpacked(t, b), things)
	}
}

// W2: what is answered depends on nothing that was asked earlier.
func TestOneBehindAnother(t *testing.T) {
	d := dice(6)
	for range 3000 {
		checkPack(t, d.row(8, 8))
		noTelegram(t, framed(d.row(8, 8).spoilt()...))
		checkUnpack(t, bookPack(d.row(8, 8)))
	}
}

// spoilt is a body with one byte too many.
func (r row) spoilt() []byte { return append(bodyOf(r), 0) }

// W2: telegrams that are packed and unpacked at one time are apart.
func TestManyAtOneTime(t *testing.T) {
	b := bookPack(samples()[9])
	got := make([]row, 16)
	var all sync.WaitGroup
	for i := range got {
		all.Go(func() {
			c, _ := wire.Unpack(b)
			for k := range 50 {
				c.AddInt(i*100 + k)
				packed, _ := wire.Pack(c)
				c, _ = wire.Unpack(packed)
			}
			got[i] = rowOf(c)
		})
	}
	all.Wait()
	for i, things := range got {
		want := slices.Clone(samples()[9])
		for k := range 50 {
			want = append(want, i*100+k)
		}
		if !slices.Equal(things, want) {
			t.Errorf("goroutine %d: %.99q", i, things)
		}
	}
}
