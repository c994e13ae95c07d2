package wire_test

import (
	"bytes"
	"encoding/hex"
	"math"
	"strings"
	"testing"

	"pointsman/api"
	"pointsman/crate"
	"pointsman/sum"
	"pointsman/wire"
)

// P8.1

// packs holds Pack of a row against a telegram that is written down.
func packs(t *testing.T, things row, want string) {
	t.Helper()
	b, e := wire.Pack(crateOf(t, things))
	if e != api.OK || hex.EncodeToString(b) != strings.ReplaceAll(want, " ", "") {
		t.Errorf("Pack of %q: %x, %v; want %s", things, b, e, want)
	}
}

// packsBody holds the body that Pack of a row has against one that is written down, and what stands ahead of it against Sum.
func packsBody(t *testing.T, things row, body string) {
	t.Helper()
	b, e := hex.DecodeString(strings.ReplaceAll(body, " ", ""))
	if e != nil {
		t.Fatal(e)
	}
	n := sum.Of(b)
	head := []byte{byte(n >> 24), byte(n >> 16), byte(n >> 8), byte(n), byte(len(b) >> 8), byte(len(b))}
	packs(t, things, hex.EncodeToString(append(head, b...)))
}

func TestExample(t *testing.T) {
	packsBody(t, row{true}, "01 03 01")
	packs(t, row{true}, "03a91a9e 0003 01 03 01")
}

func TestWrittenDown(t *testing.T) {
	packs(t, row{}, "527d5351 0001 00")
	packsBody(t, row{}, "00")
	packsBody(t, row{false}, "01 03 00")
	packsBody(t, row{0}, "01 01 0000000000000000")
	packsBody(t, row{1}, "01 01 0000000000000001")
	packsBody(t, row{0x0102030405060708}, "01 01 0102030405060708")
	packsBody(t, row{-1}, "01 01 ffffffffffffffff")
	packsBody(t, row{-2}, "01 01 fffffffffffffffe")
	packsBody(t, row{-0x0102030405060708}, "01 01 fefdfcfbfaf9f8f8")
	packsBody(t, row{math.MaxInt64}, "01 01 7fffffffffffffff")
	packsBody(t, row{math.MinInt64}, "01 01 8000000000000000")
	packsBody(t, row{""}, "01 02 00")
	packsBody(t, row{"hi"}, "01 02 02 6869")
	packsBody(t, row{"é\xff\x00"}, "01 02 04 c3a9ff00")
	packsBody(t, row{"b", true, 258, "", false}, "05 02 01 62 03 01 01 0000000000000102 02 00 03 00")
}

func TestPackOfNil(t *testing.T) {
	if b, e := wire.Pack(nil); b != nil || e != api.ErrArg {
		t.Errorf("Pack(nil) = %x, %v; want ErrArg", b, e)
	}
}

// A Crate that was not made by New is as one of none, and is no nil Crate.
func TestPackOfNone(t *testing.T) {
	for _, c := range []*crate.Crate{crate.New(), {}} {
		if b, e := wire.Pack(c); e != api.OK || !bytes.Equal(b, framed(0)) {
			t.Errorf("Pack of none: %x, %v; want %x", b, e, framed(0))
		}
	}
	checkPack(t, row{})
}

// oddThings are unlike one another; many look alike, and many look like pieces of a telegram.
func oddThings() row {
	return row{
		0, 1, -1, 2, 3, 255, 256, -256, math.MaxInt, math.MinInt,
		"", "0", "\x00", "\x01", "\x02", "\x03", "\x03\x01", "\xff", "é", xs(200), true, false,
	}
}

func TestEachShortRow(t *testing.T) {
	odd := oddThings()
	for _, a := range odd {
		checkPack(t, row{a})
		for _, b := range odd {
			checkPack(t, row{a, b})
			for _, c := range odd {
				checkPack(t, row{a, b, c})
			}
		}
	}
}

func TestEachDigitOfNumbers(t *testing.T) {
	for k := range 64 {
		n := 1 << k
		for _, x := range []int{n, -n, n - 1, n + 1, ^n, n ^ math.MinInt} {
			checkPack(t, row{x})
		}
	}
	for n := -70000; n <= 70000; n += 7 {
		checkPack(t, row{n, n << 24})
	}
}

func TestEachByteOfTexts(t *testing.T) {
	for b := range 256 {
		s := string([]byte{byte(b)})
		checkPack(t, row{s})
		checkPack(t, row{"a" + s + s + "z", s})
	}
}

// Texts of each length, and of those that are too long also such as would fit in one byte, or do so but for 256 more.
func TestEachLengthOfTexts(t *testing.T) {
	lengths := []int{510, 511, 512, 513, 712, 713, 4000, 4001, 65535, 65536, 65537, 65736, 1 << 20}
	for length := range 460 {
		lengths = append(lengths, length)
	}
	for _, length := range lengths {
		s := xs(length)
		for _, things := range []row{{s}, {s, 1}, {true, s}, {"", s, ""}, {"", 7, false, "b", s}} {
			checkPack(t, things)
			if b, e := wire.Pack(crateOf(t, things)); (e == api.ErrArg) != (length > api.MaxText) || (b == nil) != (length > api.MaxText) {
				t.Errorf("a text of %d bytes: %d bytes, %v", length, len(b), e)
			}
		}
	}
}

// One text that is too long among a hundred, at each place.
func TestTooLongAnywhere(t *testing.T) {
	for at := range api.MaxCrate {
		things := many(api.MaxCrate, "")
		things[at] = xs(api.MaxText)
		checkPack(t, things)
		things[at] = xs(api.MaxText + 1)
		checkPack(t, things)
	}
}

// many is a row of one thing, so many times.
func many(n int, thing any) row {
	things := make(row, n)
	for i := range things {
		things[i] = thing
	}
	return things
}

func TestManyThings(t *testing.T) {
	for n := range api.MaxCrate + 1 {
		for _, thing := range []any{-n, "", "x", true, false} {
			checkPack(t, many(n, thing))
		}
	}
	if b, e := wire.Pack(crateOf(t, many(api.MaxCrate, 5))); e != api.OK || len(b) != 6+1+9*api.MaxCrate {
		t.Errorf("Pack of a full crate: %d bytes, %v", len(b), e)
	}
}

// bodies are rows with a body of so many bytes: of texts alone, and with other things behind them.
func bodies(length int) []row {
	var all []row
	for _, end := range []row{{}, {true}, {-3}, {"", false}, {7, true, "yes", 8}} {
		things := row{}
		for rest := length - len(bodyOf(end)); rest > 0; {
			n := min(rest-2, api.MaxText)
			if left := rest - 2 - n; left == 1 {
				n--
			}
			things = append(things, xs(n))
			rest -= n + 2
		}
		all = append(all, append(things, end...))
	}
	return all
}

func TestLongestBody(t *testing.T) {
	for length := api.MaxBody - 300; length <= api.MaxBody+300; length++ {
		for _, things := range bodies(length) {
			if n := len(bodyOf(things)); n != length {
				t.Fatalf("a body of %d bytes; want %d", n, length)
			}
			checkPack(t, things)
			b, e := wire.Pack(crateOf(t, things))
			if length <= api.MaxBody && (e != api.OK || len(b) != length+6) || length > api.MaxBody && (e != api.ErrArg || b != nil) {
				t.Errorf("a body of %d bytes: %d bytes, %v", length, len(b), e)
			}
		}
	}
	for n := range api.MaxCrate + 1 {
		checkPack(t, many(n, xs(api.MaxText)))
		checkPack(t, many(n, xs(38)))
	}
}

func TestManyRows(t *testing.T) {
	d := dice(2)
	for range 3000 {
		checkPack(t, d.row(12, 20))
		checkPack(t, d.row(api.MaxCrate, 5))
		checkPack(t, d.row(60, 210))
	}
}
