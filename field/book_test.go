package field_test

import (
	"slices"
	"testing"

	"pointsman/api"
	"pointsman/field"
)

// book is chapter 6 by its words, with all that a point was driven as a row: what a Field is held against.
type book struct {
	trains []int // how often Train was called of each section
	lies   []int
	driven [][]int
}

func bookOf(sections, points int) *book {
	return &book{make([]int, sections), slices.Repeat([]int{1}, points), make([][]int, points)}
}

func (b *book) in() api.In {
	in := api.In{Lies: b.lies}
	for _, times := range b.trains {
		in.Occupied = append(in.Occupied, times%2 == 1)
	}
	return in
}

func (b *book) stick(point int) {
	b.lies[point], b.driven[point] = 0, nil
}

func (b *book) step(drive []int) {
	for p, to := range drive {
		if to == 0 || to == b.lies[p] {
			b.driven[p] = nil
			continue
		}
		b.lies[p] = 0
		row := append(b.driven[p], to)
		b.driven[p] = row
		if n := len(row); n >= 3 && row[n-3] == to && row[n-2] == to {
			b.lies[p], b.driven[p] = to, nil
		}
	}
}

func (b *book) agree(f *field.Field) bool {
	in, want := f.In(), b.in()
	return slices.Equal(in.Occupied, want.Occupied) && slices.Equal(in.Lies, want.Lies)
}

// act is one thing that happens to a Field: it is driven, or a point of it sticks, or a train comes or goes.
type act struct {
	drive []int
	stick int
	train int
}

func (a act) happen(t *testing.T, f *field.Field, b *book) {
	t.Helper()
	switch {
	case a.drive != nil:
		f.Step(a.drive)
		b.step(a.drive)
	case a.stick >= 0:
		stick(t, f, a.stick)
		b.stick(a.stick)
	default:
		train(t, f, a.train)
		b.trains[a.train]++
	}
}

// acts is all that may happen to so many sections and points.
func acts(sections, points int) []act {
	drives := [][]int{{}}
	for range points {
		var more [][]int
		for _, drive := range drives {
			for to := range 3 {
				more = append(more, append(slices.Clone(drive), to))
			}
		}
		drives = more
	}
	var all []act
	for _, drive := range drives {
		all = append(all, act{drive: drive})
	}
	for p := range points {
		all = append(all, act{stick: p})
	}
	for section := range sections {
		all = append(all, act{stick: -1, train: section})
	}
	return all
}

// every is each row of so many numbers under n, one after another.
func every(n, long int, do func(row []int)) {
	row := make([]int, long)
	for {
		do(row)
		i := 0
		for i < long && row[i] == n-1 {
			row[i] = 0
			i++
		}
		if i == long {
			return
		}
		row[i]++
	}
}

func everyCourse(t *testing.T, sections, points, long int) {
	t.Helper()
	all := acts(sections, points)
	every(len(all), long, func(row []int) {
		f, b := made(t, yard(sections, points)), bookOf(sections, points)
		for i, n := range row {
			all[n].happen(t, f, b)
			if !b.agree(f) {
				t.Fatalf("%v of %v: In = %v; want %v", row[:i+1], all, f.In(), b.in())
			}
		}
	})
}

// P6.1, P6.2: all that can happen to a small field in some turns

func TestEveryCourse(t *testing.T) {
	everyCourse(t, 1, 1, 7)
	everyCourse(t, 1, 2, 4)
	everyCourse(t, 3, 0, 6)
}

// dice are numbers that are the same in every run.
type dice uint64

func (d *dice) under(n int) int {
	*d = *d*6364136223846793005 + 1442695040888963407
	return int(uint64(*d) >> 33 % uint64(n))
}

// act is a thing that happens; points are most often driven on to where they were driven already.
func (d *dice) act(last []int, sections, points int) act {
	if n := d.under(12); n == 0 && points > 0 {
		return act{stick: d.under(points)}
	} else if n < 3 {
		return act{stick: -1, train: d.under(sections)}
	}
	drive := slices.Clone(last)
	for p := range drive {
		if d.under(5) == 0 {
			drive[p] = d.under(3)
		}
	}
	return act{drive: drive}
}

// P6.1, P6.2: long runs of many layouts, and each place is lain at often

func TestManyCourses(t *testing.T) {
	d := dice(6)
	lies, occupied := [3]int{}, [2]int{}
	for range 600 {
		sections, points := 1+d.under(api.MaxSections), d.under(api.MaxPoints+1)
		f, b := made(t, yard(sections, points)), bookOf(sections, points)
		last := make([]int, points)
		for range 200 {
			a := d.act(last, sections, points)
			if a.drive != nil {
				last = a.drive
			}
			a.happen(t, f, b)
			if !b.agree(f) {
				t.Fatalf("%v: In = %v; want %v", a, f.In(), b.in())
			}
			for _, at := range f.In().Lies {
				lies[at]++
			}
			for _, times := range b.trains {
				occupied[times%2]++
			}
		}
	}
	if slices.Min(lies[:]) < 10000 || slices.Min(occupied[:]) < 10000 {
		t.Errorf("points lay %v, sections were %v", lies, occupied)
	}
}
