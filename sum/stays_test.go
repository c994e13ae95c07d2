package sum_test

import (
	"bytes"
	"slices"
	"sync"
	"testing"

	"pointsman/sum"
)

// W6: what is handed in is neither changed nor kept, not even the spare room behind a list's end.

func TestRowsStay(t *testing.T) {
	d := dice(11)
	for n := range 60 {
		whole := d.row(n + 20)
		was := slices.Clone(whole)
		l := [][]byte{whole[:n/2], nil, whole[n/2 : n], {}, []byte("spare")}
		for range 2 {
			same(t, book(was[:n]), l[:4]...)
		}
		if !bytes.Equal(whole, was) {
			t.Fatalf("the bytes became %v; were %v", whole, was)
		}
		lengths := []int{n / 2, 0, n - n/2, 0, 5}
		for i, row := range l {
			if len(row) != lengths[i] {
				t.Errorf("row %d has %d bytes; had %d", i, len(row), lengths[i])
			}
		}
		if l[1] != nil || l[3] == nil || string(l[4]) != "spare" || n > 1 && (&l[0][0] != &whole[0] || &l[2][0] != &whole[n/2]) {
			t.Errorf("rows became %v", l)
		}
	}
}

// W2, W6: what was summed is not kept; a sum depends on nothing that was asked earlier.
func TestRowsAreNotKept(t *testing.T) {
	d := dice(12)
	row := d.row(50)
	for range 200 {
		same(t, book(row), row)
		row[d.under(len(row))] ^= byte(1 + d.under(255))
		same(t, 0)
		same(t, book(row[:10]), row[:10])
	}
}

// W2: sums that are taken at one time are apart.
func TestManyAtOneTime(t *testing.T) {
	d := dice(13)
	row := d.row(2000)
	want := book(row)
	got := make([]uint32, 16)
	var all sync.WaitGroup
	for i := range got {
		all.Go(func() {
			for k := range 50 {
				sum.Of(row[:k])
			}
			got[i] = sum.Of(row[:i*100], row[i*100:])
		})
	}
	all.Wait()
	for i, n := range got {
		if n != want {
			t.Errorf("goroutine %d: %08x; want %08x", i, n, want)
		}
	}
}
