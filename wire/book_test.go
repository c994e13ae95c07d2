package wire_test

import (
	"bytes"
	"hash/crc32"
	"math/big"
	"slices"
	"strings"
	"testing"

	"pointsman/api"
	"pointsman/crate"
	"pointsman/wire"
)

// row is a crate by hand: each of its things is an int, a string or a bool.
type row []any

// crateOf is a row as a crate.
func crateOf(t *testing.T, things row) *crate.Crate {
	t.Helper()
	c := crate.New()
	for i, thing := range things {
		if !add(c, thing) {
			t.Fatalf("thing %d is not added: %.99v", i, things)
		}
	}
	return c
}

func add(c *crate.Crate, thing any) bool {
	switch x := thing.(type) {
	case int:
		return c.AddInt(x)
	case string:
		return c.AddText(x)
	}
	return c.AddBool(thing.(bool))
}

// rowOf is a crate as a row.
func rowOf(c *crate.Crate) row {
	things := row{}
	for i := range c.Len() {
		if n, ok := c.Int(i); ok {
			things = append(things, n)
		}
		if s, ok := c.Text(i); ok {
			things = append(things, s)
		}
		if b, ok := c.Bool(i); ok {
			things = append(things, b)
		}
	}
	return things
}

// inBytes is a number in so many bytes, the highest first, as numbers are written down.
func inBytes(n *big.Int, size int) []byte {
	n = new(big.Int).Set(n)
	if n.Sign() < 0 {
		n.Add(n, new(big.Int).Lsh(big.NewInt(1), 64))
	}
	var b []byte
	digit := new(big.Int)
	for range size {
		n.QuoRem(n, big.NewInt(256), digit)
		b = append(b, byte(digit.Int64()))
	}
	slices.Reverse(b)
	return b
}

// framed is a body as a telegram, whatever is in it.
func framed(body ...byte) []byte {
	sum := crc32.Checksum(body, crc32.MakeTable(crc32.Castagnoli))
	return slices.Concat(inBytes(big.NewInt(int64(sum)), 4), inBytes(big.NewInt(int64(len(body))), 2), body)
}

// bodyOf is a row as a body, whether or not it is too long.
func bodyOf(things row) []byte {
	body := []byte{byte(len(things))}
	for _, thing := range things {
		switch x := thing.(type) {
		case int:
			body = slices.Concat(body, []byte{1}, inBytes(big.NewInt(int64(x)), 8))
		case string:
			body = slices.Concat(body, []byte{2, byte(len(x))}, []byte(x))
		case bool:
			body = slices.Concat(body, []byte{3, map[bool]byte{true: 1}[x]})
		}
	}
	return body
}

// bookPack is what the chapter says that Pack is: a telegram, or none.
func bookPack(things row) []byte {
	for _, thing := range things {
		if s, ok := thing.(string); ok && len(s) > 200 {
			return nil
		}
	}
	body := bodyOf(things)
	if len(body) > 4000 {
		return nil
	}
	return framed(body...)
}

// bookUnpack is the row that a telegram is of; false of what is none. It asks each thing that a telegram must be, as it comes.
func bookUnpack(b []byte) (row, bool) {
	if len(b) < 6 || len(b) > 4006 || !bytes.Equal(b, framed(b[6:]...)) {
		return nil, false
	}
	body := b[6:]
	if len(body) == 0 || body[0] > 100 {
		return nil, false
	}
	things, most := row{}, int(body[0])
	for body = body[1:]; len(things) < most; {
		if len(body) < 2 {
			return nil, false
		}
		kind, n := body[0], int(body[1])
		switch {
		case kind == 1 && len(body) >= 9:
			x := new(big.Int).SetBytes(body[1:9])
			if x.BitLen() == 64 {
				x.Sub(x, new(big.Int).Lsh(big.NewInt(1), 64))
			}
			things, body = append(things, int(x.Int64())), body[9:]
		case kind == 2 && n <= 200 && len(body) >= 2+n:
			things, body = append(things, string(body[2:2+n])), body[2+n:]
		case kind == 3 && n < 2:
			things, body = append(things, n == 1), body[2:]
		default:
			return nil, false
		}
	}
	return things, len(body) == 0
}

// checkPack holds Pack of a row against the book, and what it answers against Unpack.
func checkPack(t *testing.T, things row) {
	t.Helper()
	want := bookPack(things)
	c := crateOf(t, things)
	b, e := wire.Pack(c)
	if want == nil {
		if b != nil || e != api.ErrArg {
			t.Errorf("Pack of %.99q: %x, %v; want ErrArg", things, b, e)
		}
		return
	}
	if e != api.OK || !bytes.Equal(b, want) {
		t.Fatalf("Pack of %.99q: %x, %v; want %x", things, b, e, want)
	}
	d, e := wire.Unpack(b)
	if e != api.OK || !crate.Same(c, d) || !slices.Equal(rowOf(d), things) {
		t.Fatalf("Unpack of Pack of %.99q: %.99q, %v", things, rowOf(d), e)
	}
}

// checkUnpack holds Unpack against the book, and what it answers against Pack.
func checkUnpack(t *testing.T, b []byte) {
	t.Helper()
	things, ok := bookUnpack(b)
	if !ok {
		noTelegram(t, b)
		return
	}
	c, e := wire.Unpack(b)
	if e != api.OK || !slices.Equal(rowOf(c), things) {
		t.Fatalf("Unpack of %.99x: %.99q, %v; want %.99q", b, rowOf(c), e, things)
	}
	if again, e := wire.Pack(c); e != api.OK || !bytes.Equal(again, b) {
		t.Fatalf("Pack of Unpack of %.99x: %.99x, %v", b, again, e)
	}
}

func noTelegram(t *testing.T, b []byte) {
	t.Helper()
	if c, e := wire.Unpack(b); c != nil || e != api.ErrForm {
		t.Errorf("Unpack of %.99x (%d bytes): %.99q, %v; want ErrForm", b, len(b), rowOf(c), e)
	}
}

// dice are numbers that are the same in every run.
type dice uint64

func (d *dice) under(n int) int {
	*d = *d*6364136223846793005 + 1442695040888963407
	return int(uint64(*d) >> 33 % uint64(n))
}

// number is one of any size, below nought or not.
func (d *dice) number() int {
	n := d.under(1<<31)<<33 ^ d.under(1<<31)<<16 ^ d.under(1<<16)
	return n >> d.under(64)
}

func (d *dice) text(length int) string {
	b := make([]byte, length)
	for i := range b {
		b[i] = byte(d.under(256))
	}
	return string(b)
}

func (d *dice) thing(longest int) any {
	switch d.under(3) {
	case 0:
		return d.number()
	case 1:
		return d.text(d.under(longest + 1))
	}
	return d.under(2) == 1
}

func (d *dice) row(most, longest int) row {
	things := make(row, d.under(most+1))
	for i := range things {
		things[i] = d.thing(longest)
	}
	return things
}

// xs is a text of so many bytes.
func xs(length int) string { return strings.Repeat("x", length) }

// samples are rows whose telegrams are spoilt.
func samples() []row {
	d := dice(1)
	return []row{
		{}, {true}, {false}, {0}, {-1}, {258}, {""}, {"a"}, {"\x00\x03\x01"}, {true, -2, "hi", 258, false, ""},
		{"\x01\x02\x03", 3, "\x01", 1, true, 2}, {xs(200)}, {xs(200), true, xs(199)}, d.row(9, 30), d.row(40, 3),
	}
}
