package field_test

import (
	"fmt"
	"slices"
	"testing"

	"pointsman/api"
	"pointsman/field"
)

// P6.3, W6, W7: what is handed in is neither changed nor kept; what is answered is new memory, and stays what it is.

// roomy is a list with something in the spare room behind its end.
func roomy[T any](row []T, spare T) []T {
	return append(slices.Clone(row), spare)[:len(row)]
}

// spoil overwrites a list with its spare room.
func spoil[T any](row []T, with T) {
	row = row[:cap(row)]
	for i := range row {
		row[i] = with
	}
}

func roomyLoop() api.Layout {
	l := loop()
	spare := api.Need{Point: -9}
	l.Sections, l.Signals = roomy(l.Sections, "spare"), roomy(l.Signals, "spare")
	l.Points = roomy(l.Points, api.Point{Name: "spare"})
	for i := range l.Routes {
		r := &l.Routes[i]
		r.Path, r.Points, r.Flank = roomy(r.Path, -9), roomy(r.Points, spare), roomy(r.Flank, spare)
	}
	l.Routes = roomy(l.Routes, api.Route{Name: "spare"})
	return l
}

// shown is all of a roomy layout, with the spare room.
func shown(l api.Layout) string {
	b := []any{l.Sections[:len(l.Sections)+1], l.Points[:len(l.Points)+1], l.Signals[:len(l.Signals)+1], l.Routes[:len(l.Routes)+1]}
	for _, r := range l.Routes {
		b = append(b, r.Path[:len(r.Path)+1], r.Points[:len(r.Points)+1], r.Flank[:len(r.Flank)+1])
	}
	return fmt.Sprint(b...)
}

// course is a run in which points lie, move, and stick, and trains come and go.
func course(t *testing.T, f *field.Field, look func()) {
	t.Helper()
	for i, drive := range [][]int{{rev, 0, 0}, {rev, rev, nor}, {rev, rev, rev}, {nor, rev, rev}, {0, 0, rev}, {nor, nor, nor}, {nor, nor, rev}, {nor, nor, rev}} {
		train(t, f, i%3)
		look()
		if i == 4 {
			stick(t, f, 1)
			look()
		}
		f.Step(drive)
		look()
	}
}

// all is what a field tells in a course.
func all(t *testing.T, f *field.Field) []string {
	t.Helper()
	var told []string
	course(t, f, func() { told = append(told, fmt.Sprint(f.In())) })
	return told
}

func TestLayoutStays(t *testing.T) {
	want := all(t, made(t, loop()))
	l := roomyLoop()
	was := shown(l)
	f := made(t, l)
	if got := all(t, f); !slices.Equal(got, want) {
		t.Errorf("a layout with spare room: told %v; want %v", got, want)
	}
	if shown(l) != was {
		t.Errorf("was %s\nis %s", was, shown(l))
	}
	l.Signals = roomy(l.Signals[:0], "spare")
	was = shown(l)
	if _, e := field.New(l); e != api.ErrPlan || shown(l) != was {
		t.Errorf("refused: %v, was %s\nis %s", e, was, shown(l))
	}
}

func TestLayoutIsNotKept(t *testing.T) {
	want := all(t, made(t, loop()))
	for what, meddle := range map[string]func(l *api.Layout){
		"sections": func(l *api.Layout) { spoil(l.Sections, "spoilt") },
		"points":   func(l *api.Layout) { spoil(l.Points, api.Point{Name: "spoilt", Section: -1}) },
		"signals":  func(l *api.Layout) { spoil(l.Signals, "spoilt") },
		"routes":   func(l *api.Layout) { spoil(l.Routes, api.Route{Name: "spoilt"}) },
		"wants":    func(l *api.Layout) { spoil(l.Routes[0].Points, api.Need{Point: 2}) },
	} {
		l := roomyLoop()
		f := made(t, l)
		meddle(&l)
		if got := all(t, f); !slices.Equal(got, want) {
			t.Errorf("%s: told %v; want %v", what, got, want)
		}
	}
}

func TestDriveStays(t *testing.T) {
	f := made(t, loop())
	for i, lies := range [][]int{{0, nor, 0}, {0, nor, 0}, {rev, nor, rev}, {rev, nor, rev}} {
		drive := roomy([]int{rev, nor, rev}, 77)
		f.Step(drive)
		if !slices.Equal(drive[:4], []int{rev, nor, rev, 77}) {
			t.Errorf("drive became %v", drive[:4])
		}
		spoil(drive, 77)
		lie(t, f, fmt.Sprint("Step ", i+1), lies...)
	}
	wrong := roomy([]int{rev, 9}, 77)
	f.Step(wrong)
	if !slices.Equal(wrong[:3], []int{rev, 9, 77}) {
		t.Errorf("drive became %v", wrong[:3])
	}
}

func TestAnswersAreNew(t *testing.T) {
	want := all(t, made(t, loop()))
	f := made(t, loop())
	var told []string
	course(t, f, func() {
		one, other := f.In(), f.In()
		spoil(one.Occupied, true)
		spoil(one.Lies, 77)
		told = append(told, fmt.Sprint(other))
		if fmt.Sprint(f.In()) != fmt.Sprint(other) {
			t.Errorf("lent: %v; want %v", f.In(), other)
		}
	})
	if !slices.Equal(told, want) {
		t.Errorf("spoilt answers: told %v; want %v", told, want)
	}
}

func TestAnswersStay(t *testing.T) {
	f := made(t, loop())
	var answers []api.In
	var were []string
	course(t, f, func() {
		answers = append(answers, f.In())
		were = append(were, fmt.Sprint(f.In()))
	})
	for i, in := range answers {
		if fmt.Sprint(in) != were[i] {
			t.Errorf("answer %d became %v; want %s", i, in, were[i])
		}
	}
}

// W2: two of one layout have nothing in common.
func TestFieldsAreApart(t *testing.T) {
	l := loop()
	f, other := made(t, l), made(t, l)
	course(t, f, func() {
		lie(t, other, "the other one", nor, nor, nor)
	})
	if got, want := all(t, other), all(t, made(t, loop())); !slices.Equal(got, want) {
		t.Errorf("told %v; want %v", got, want)
	}
}

// W8: a field that is copied goes on in the copy.
func TestCopy(t *testing.T) {
	f := made(t, loop())
	train(t, f, 2)
	f.Step([]int{rev, 0, 0})
	f.Step([]int{rev, 0, rev})
	g := *f
	g.Step([]int{rev, 0, rev})
	tell(t, &g, "a copy", trains(4, 2), rev, nor, nowhere)
}
