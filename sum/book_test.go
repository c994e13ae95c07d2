package sum_test

// digits are 32 binary digits, the lowest first: chapter 7 by its words, digit by digit.
type digits [32]int

// polynomial is 82f63b78, a hexadecimal digit a group.
const polynomial = "1000 0010 1111 0110 0011 1011 0111 1000"

// digitsOf reads binary digits, the highest first.
func digitsOf(s string) digits {
	var d digits
	at := 31
	for _, r := range s {
		if r != ' ' {
			d[at] = int(r - '0')
			at--
		}
	}
	return d
}

func digitsOfByte(b byte) digits {
	var d digits
	for i := range 8 {
		d[i] = int(b) % 2
		b /= 2
	}
	return d
}

func (d digits) xor(other digits) digits {
	for i := range d {
		if d[i] == other[i] {
			d[i] = 0
		} else {
			d[i] = 1
		}
	}
	return d
}

// half is by two, rounded down.
func (d digits) half() digits {
	copy(d[:], d[1:])
	d[31] = 0
	return d
}

func (d digits) turned() digits {
	for i := range d {
		d[i] = 1 - d[i]
	}
	return d
}

func (d digits) number() uint32 {
	n := uint32(0)
	for i := 31; i >= 0; i-- {
		n = n*2 + uint32(d[i])
	}
	return n
}

// book is what the chapter says that Of is.
func book(l ...[]byte) uint32 {
	poly := digitsOf(polynomial)
	var d digits
	for i := range d {
		d[i] = 1
	}
	for _, row := range l {
		for _, b := range row {
			d = d.xor(digitsOfByte(b))
			for range 8 {
				lowest := d[0]
				d = d.half()
				if lowest == 1 {
					d = d.xor(poly)
				}
			}
		}
	}
	return d.turned().number()
}

// dice are numbers that are the same in every run.
type dice uint64

func (d *dice) under(n int) int {
	*d = *d*6364136223846793005 + 1442695040888963407
	return int(uint64(*d) >> 33 % uint64(n))
}

func (d *dice) row(n int) []byte {
	row := make([]byte, n)
	for i := range row {
		row[i] = byte(d.under(256))
	}
	return row
}

// some is a row of so many bytes, another one for each seed.
func some(seed dice, n int) []byte { return seed.row(n) }
