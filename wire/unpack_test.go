package wire_test

import (
	"bytes"
	"math/rand"
	"slices"
	"strings"
	"testing"

	"pointsman/api"
	"pointsman/crate"
	"pointsman/wire"
)

// P8.2 and P8.3

func TestUnpackExample(t *testing.T) {
	b := []byte{0x03, 0xa9, 0x1a, 0x9e, 0, 3, 1, 3, 1}
	c, e := wire.Unpack(b)
	if e != api.OK || !slices.Equal(rowOf(c), row{true}) {
		t.Errorf("Unpack(%x) = %v, %v", b, rowOf(c), e)
	}
	for _, spoilt := range []string{
		"\x03\xa9\x1a\x9e\x00\x03\x01\x03\x00", "\x9e\x1a\xa9\x03\x00\x03\x01\x03\x01", "\x03\xa9\x1a\x9e\x03\x00\x01\x03\x01",
		"\x03\xa9\x1a\x9e\x01\x03\x01", "\x00\x03\x03\xa9\x1a\x9e\x01\x03\x01", "\x00\x00\x00\x00\x00\x03\x01\x03\x01",
	} {
		noTelegram(t, []byte(spoilt))
	}
}

func TestFewBytes(t *testing.T) {
	noTelegram(t, nil)
	noTelegram(t, []byte{})
	noTelegram(t, []byte("spare")[:0])
	for n := range 20 {
		noTelegram(t, make([]byte, n))
		noTelegram(t, bytes.Repeat([]byte{0xff}, n))
	}
	noTelegram(t, framed())
}

// What is unpacked is a Crate as others are: it holds as much, and more can be put behind.
func TestUnpackedIsACrate(t *testing.T) {
	for _, things := range append(samples(), many(api.MaxCrate, 1), many(api.MaxCrate-1, "x")) {
		c, e := wire.Unpack(bookPack(things))
		if e != api.OK || c.Len() != len(things) {
			t.Fatalf("Unpack: %d things, %v; want %d", c.Len(), e, len(things))
		}
		more := slices.Clone(things)
		for len(more) < api.MaxCrate {
			if !c.AddInt(len(more)) {
				t.Fatalf("thing %d is not added", len(more))
			}
			more = append(more, len(more))
		}
		if c.AddBool(true) || !crate.Same(c, crateOf(t, more)) {
			t.Errorf("%.99q with more behind: %.99q", things, rowOf(c))
		}
	}
}

func TestCutShort(t *testing.T) {
	for _, things := range samples() {
		b := bookPack(things)
		for k := range b {
			noTelegram(t, b[:k])
			noTelegram(t, b[k+1:])
		}
		for k := range b[6:] {
			checkUnpack(t, framed(b[6:6+k]...))
			noTelegram(t, framed(b[6:6+k]...))
		}
	}
}

// More bytes behind a telegram, and within its body.
func TestMoreBytes(t *testing.T) {
	for _, things := range samples() {
		b := bookPack(things)
		for _, more := range [][]byte{{0}, {1}, {0xff}, {3, 1}, {2, 0}, b, make([]byte, 300)} {
			noTelegram(t, slices.Concat(b, more))
			noTelegram(t, slices.Concat(more, b))
			noTelegram(t, framed(slices.Concat(b[6:], more)...))
		}
	}
}

func TestEachByteTurned(t *testing.T) {
	for _, things := range samples() {
		b := bookPack(things)
		for at := range b {
			for turn := 1; turn < 256; turn++ {
				b[at] ^= byte(turn)
				noTelegram(t, b)
				b[at] ^= byte(turn)
			}
		}
		checkUnpack(t, b)
	}
}

// Each byte of a body turned, under the sum that it then has.
func TestEachByteOfBodies(t *testing.T) {
	for _, things := range samples() {
		body := bodyOf(things)
		for at := range body {
			for turn := 1; turn < 256; turn++ {
				body[at] ^= byte(turn)
				checkUnpack(t, framed(body...))
				body[at] ^= byte(turn)
			}
		}
	}
}

func TestEachLength(t *testing.T) {
	for _, things := range []row{{}, {true}, {"hi", -2}, {xs(200), xs(200)}} {
		b := bookPack(things)
		right := len(b) - 6
		for length := range 1 << 16 {
			b[4], b[5] = byte(length>>8), byte(length)
			if length != right {
				noTelegram(t, b)
			}
		}
	}
}

func TestEachShortBody(t *testing.T) {
	checkUnpack(t, framed())
	for a := range 256 {
		checkUnpack(t, framed(byte(a)))
		for b := range 256 {
			checkUnpack(t, framed(byte(a), byte(b)))
			checkUnpack(t, framed(1, byte(a), byte(b)))
			checkUnpack(t, framed(byte(a), 3, byte(b)))
			checkUnpack(t, framed(2, 3, 1, byte(a), byte(b)))
			checkUnpack(t, framed(1, 2, byte(a), byte(b)))
		}
	}
}

// All bodies of up to six bytes that matter.
func TestEachBodyOfOddBytes(t *testing.T) {
	odd := []byte{0, 1, 2, 3, 4, 0xff}
	all := [][]byte{nil}
	for range 6 {
		var longer [][]byte
		for _, body := range all {
			for _, b := range odd {
				longer = append(longer, append(slices.Clone(body), b))
			}
		}
		for _, body := range longer {
			checkUnpack(t, framed(body...))
		}
		all = longer
	}
}

// Kinds, with as many bytes behind as any thing could have.
func TestEachKind(t *testing.T) {
	for kind := range 256 {
		for n := range 12 {
			for _, fill := range []byte{0, 1, 2, 3, 9, 0xff} {
				checkUnpack(t, framed(append([]byte{1, byte(kind)}, bytes.Repeat([]byte{fill}, n)...)...))
			}
		}
	}
	for _, kind := range []byte{0, 4, 5, 0x81, 0xff} {
		noTelegram(t, framed(1, kind))
		noTelegram(t, framed(1, kind, 0))
		noTelegram(t, framed(1, kind, 1))
		noTelegram(t, framed(2, 3, 1, kind, 1))
		noTelegram(t, framed(2, kind, 1, 3, 1))
		noTelegram(t, framed(1, kind, 0, 0, 0, 0, 0, 0, 0, 0))
	}
}

func TestEachBool(t *testing.T) {
	for b := range 256 {
		checkUnpack(t, framed(1, 3, byte(b)))
		if b > 1 {
			noTelegram(t, framed(1, 3, byte(b)))
			noTelegram(t, framed(3, 3, 1, 3, byte(b), 2, 0))
		}
	}
}

// Texts of each length, told as that and as others.
func TestEachLengthOfAText(t *testing.T) {
	for length := range 256 {
		for n := range 260 {
			body := append([]byte{1, 2, byte(length)}, xs(n)...)
			checkUnpack(t, framed(body...))
			if n != length || n > api.MaxText {
				noTelegram(t, framed(body...))
			}
		}
	}
}

// Each number of things, told as that and as others.
func TestEachNumberOfThings(t *testing.T) {
	for _, thing := range []string{"\x03\x01", "\x02\x00", "\x02\x01x", "\x01\x00\x00\x00\x00\x00\x00\x00\x09"} {
		for told := range 256 {
			for n := range 258 {
				body := append([]byte{byte(told)}, strings.Repeat(thing, n)...)
				if n > told+2 || n < told-2 {
					continue
				}
				checkUnpack(t, framed(body...))
				if n != told || n > api.MaxCrate {
					noTelegram(t, framed(body...))
				}
			}
		}
		// As many as one byte tells, and 256 more.
		noTelegram(t, framed(append([]byte{1}, strings.Repeat(thing, 257)...)...))
		noTelegram(t, framed(append([]byte{0}, strings.Repeat(thing, 256)...)...))
	}
}

// Bodies that are right but for their length.
func TestUnpackLongestBody(t *testing.T) {
	for length := api.MaxBody - 300; length <= api.MaxBody+300; length++ {
		for _, things := range bodies(length) {
			b := framed(bodyOf(things)...)
			checkUnpack(t, b)
			if c, e := wire.Unpack(b); (e == api.OK) != (length <= api.MaxBody) || (c == nil) != (length > api.MaxBody) {
				t.Errorf("a body of %d bytes: %v", length, e)
			}
		}
	}
	noTelegram(t, framed(bodyOf(many(api.MaxCrate, xs(api.MaxText)))...))
}

// The length of a body that its two bytes can't hold.
func TestLengthThatWraps(t *testing.T) {
	long := bodyOf(many(255, xs(255)))
	if len(long) != 1<<16 {
		t.Fatalf("%d bytes", len(long))
	}
	noTelegram(t, framed(long...))
	for _, things := range samples() {
		body := bodyOf(things)
		noTelegram(t, framed(append(body, make([]byte, 1<<16)...)...))
	}
}

func TestManyBytes(t *testing.T) {
	d := rand.New(rand.NewSource(3))
	for n := 4; n <= 1<<22; n *= 4 {
		b := make([]byte, n)
		noTelegram(t, framed(b...))
		d.Read(b)
		noTelegram(t, b)
		noTelegram(t, framed(bytes.Repeat([]byte{3}, n)...))
	}
}

// Bodies that are spoilt anyhow, under the sum that they then have.
func TestSpoiltAnyhow(t *testing.T) {
	d := dice(4)
	for range 60000 {
		body := bodyOf(d.row(6, 6))
		for range 1 + d.under(3) {
			at := d.under(len(body))
			switch d.under(4) {
			case 0:
				body[at] = byte(d.under(5))
			case 1:
				body = slices.Insert(body, at, byte(d.under(5)))
			case 2:
				body = append(slices.Delete(body, at, at+1), 3, 0)
			case 3:
				body = append(body[:at:at], bodyOf(d.row(2, 3))...)
			}
			if len(body) == 0 {
				body = []byte{0}
			}
		}
		checkUnpack(t, framed(body...))
	}
}

func TestAnyBytes(t *testing.T) {
	d := dice(5)
	for range 60000 {
		body := []byte(d.text(d.under(12)))
		checkUnpack(t, framed(body...))
		noTelegram(t, body)
	}
}

// unseen is what can be turned at any place of a body without its sum becoming another one: the polynomial of the sum.
var unseen = []byte{0xf1, 0x76, 0xec, 0x05, 0x01}

func turnUnseen(body []byte, at int) {
	for i, b := range unseen {
		body[at+i] ^= b
	}
}

// Unlike bodies with one sum: each is told by itself, and what is no telegram is none though its sum is right.
func TestUnlikeBodiesOfOneSum(t *testing.T) {
	for _, things := range append(samples(), row{1, "some text", 2}, row{xs(200), 5, xs(100)}) {
		b := bookPack(things)
		for at := 6; at+len(unseen) <= len(b); at++ {
			other := slices.Clone(b)
			turnUnseen(other, at)
			if !bytes.Equal(other[:4], framed(other[6:]...)[:4]) {
				t.Fatal("the sums are unlike")
			}
			checkUnpack(t, other)
		}
	}
	b := bookPack(row{"some text"})
	turnUnseen(b, 10)
	c, e := wire.Unpack(b)
	if s, ok := c.Text(0); e != api.OK || !ok || s != string(b[9:]) || s == "some text" {
		t.Errorf("Unpack of a text that was turned: %q, %v, %v", s, ok, e)
	}
}
