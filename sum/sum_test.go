package sum_test

import (
	"bytes"
	"hash/crc32"
	"slices"
	"testing"

	"pointsman/sum"
)

func same(t *testing.T, want uint32, l ...[]byte) {
	t.Helper()
	if n := sum.Of(l...); n != want {
		t.Errorf("Of(%.99q) = %08x; want %08x", l, n, want)
	}
}

// P7.1

func TestExample(t *testing.T) {
	same(t, 0xe3069283, []byte("123456789"))
}

// The sums that RFC 3720 tells in its appendix B.4, and some more that are known.
func TestKnown(t *testing.T) {
	rising := make([]byte, 32)
	for i := range rising {
		rising[i] = byte(i)
	}
	falling := slices.Clone(rising)
	slices.Reverse(falling)
	same(t, 0x8a9136aa, make([]byte, 32))
	same(t, 0x62a8ab43, bytes.Repeat([]byte{0xff}, 32))
	same(t, 0x46dd794e, rising)
	same(t, 0x113fdb5c, falling)
	same(t, 0xc1d04330, []byte("a"))
	same(t, 0x22620404, []byte("The quick brown fox jumps over the lazy dog"))
}

func TestNoBytes(t *testing.T) {
	same(t, 0)
	same(t, 0, [][]byte(nil)...)
	same(t, 0, [][]byte{}...)
	same(t, 0, nil)
	same(t, 0, []byte{})
	same(t, 0, make([]byte, 0, 9))
	same(t, 0, nil, []byte{}, nil, []byte("spare")[:0])
	same(t, 0, make([][]byte, 1000)...)
}

func TestEachByteAlone(t *testing.T) {
	for b := range 256 {
		row := []byte{byte(b)}
		same(t, book(row), row)
	}
}

// Each byte behind each other one: all that the digits' lowest byte can meet.
func TestEachTwoBytes(t *testing.T) {
	for b := range 256 {
		for c := range 256 {
			row := []byte{byte(b), byte(c)}
			same(t, book(row), row)
		}
	}
}

func TestRowsOfSomeBytes(t *testing.T) {
	d := dice(7)
	for n := range 300 {
		for range 4 {
			row := d.row(n)
			same(t, book(row), row)
		}
		for _, b := range []byte{0, 1, 0x7f, 0x80, 0xff} {
			row := bytes.Repeat([]byte{b}, n)
			same(t, book(row), row)
		}
	}
}

func TestManyRows(t *testing.T) {
	d := dice(8)
	for range 2000 {
		l := make([][]byte, d.under(8))
		for i := range l {
			l[i] = d.row(d.under(20))
		}
		same(t, book(l...), l...)
	}
}

// All bytes of a long row count, from its first to its last.
func TestLongRow(t *testing.T) {
	row := some(9, 1<<22)
	castagnoli := crc32.MakeTable(crc32.Castagnoli)
	same(t, crc32.Checksum(row, castagnoli), row)
	for _, at := range []int{0, 1 << 16, 1 << 21, len(row) - 1} {
		row[at] ^= 0x40
		same(t, crc32.Checksum(row, castagnoli), row)
	}
}

// P7.2

// odd are rows that are parted, each of some bytes.
func odd() [][]byte {
	return [][]byte{
		nil, {0}, {0xff}, {0, 0}, []byte("123456789"), make([]byte, 40), bytes.Repeat([]byte{0xff}, 40),
		some(1, 3), some(2, 17), some(3, 70),
	}
}

func TestPartedInTwo(t *testing.T) {
	for _, row := range odd() {
		want := book(row)
		same(t, want, row)
		for i := range len(row) + 1 {
			same(t, want, row[:i], row[i:])
			same(t, want, row[:i], nil, row[i:])
			same(t, want, row[:i], []byte{}, row[i:])
		}
	}
}

func TestPartedInThree(t *testing.T) {
	for _, row := range odd() {
		want := book(row)
		for k := range len(row) + 1 {
			for i := range k + 1 {
				same(t, want, row[:i], row[i:k], row[k:])
			}
		}
	}
}

func TestEmptyRowsBetween(t *testing.T) {
	for _, row := range odd() {
		want := book(row)
		for _, none := range [][]byte{nil, {}, make([]byte, 0, 9), []byte("spare")[:0]} {
			same(t, want, none, row)
			same(t, want, row, none)
			l := [][]byte{none}
			for i := range row {
				l = append(l, row[i:i+1], none, none)
			}
			same(t, want, l...)
		}
	}
}

func TestPartedAnyhow(t *testing.T) {
	d := dice(10)
	for range 2000 {
		row := d.row(d.under(200))
		want := book(row)
		var l [][]byte
		for rest := row; len(rest) > 0; {
			n := d.under(min(len(rest), 30) + 1)
			l = append(l, rest[:n])
			rest = rest[n:]
		}
		same(t, want, l...)
	}
}

// The order of rows is that of their bytes: a row before another one is not that row behind it.
func TestOrderOfRows(t *testing.T) {
	a, b := []byte("1234"), []byte("56789")
	same(t, book([]byte("123456789")), a, b)
	same(t, book([]byte("567891234")), b, a)
	if sum.Of(a, b) == sum.Of(b, a) {
		t.Errorf("Of = %08x in either order", sum.Of(a, b))
	}
	same(t, book([]byte("12341234")), a, a)
}

// Two rows that differ in one byte: all bytes at one place, at each place, have sums of their own.
func TestOneByteIsAnother(t *testing.T) {
	for _, row := range append(odd(), some(4, 200)) {
		for at := range row {
			other := slices.Clone(row)
			seen := map[uint32]byte{}
			for b := range 256 {
				other[at] = byte(b)
				n := sum.Of(other)
				if c, ok := seen[n]; ok {
					t.Fatalf("%q, byte %d: %02x and %02x have the sum %08x", row, at, c, b, n)
				}
				seen[n] = byte(b)
			}
		}
	}
}
