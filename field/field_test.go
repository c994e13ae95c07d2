package field_test

import (
	"math"
	"slices"
	"strconv"
	"testing"

	"pointsman/api"
	"pointsman/field"
	"pointsman/lock"
)

const (
	nowhere = api.Nowhere
	nor     = api.Normal
	rev     = api.Reverse
)

// loop has four sections and three points, two of them in one section, and two ways from S to T.
func loop() api.Layout {
	return api.Layout{
		Sections: []string{"a", "b", "c", "d"},
		Points:   []api.Point{{Name: "W", Section: 1}, {Name: "V", Section: 3}, {Name: "U", Section: 1}},
		Signals:  []string{"S", "T"},
		Routes: []api.Route{
			{Name: "left", From: 0, To: 1, Path: []int{0, 1}, Points: []api.Need{{Point: 0}, {Point: 2, Reverse: true}}, Flank: []api.Need{{Point: 1}}},
			{Name: "right", From: 0, To: 1, Path: []int{0, 2, 3}, Points: []api.Need{{Point: 1, Reverse: true}}},
		},
	}
}

// yard is a layout of so many sections and points, without routes.
func yard(sections, points int) api.Layout {
	l := api.Layout{Signals: []string{"S"}}
	for i := range sections {
		l.Sections = append(l.Sections, "a"+strconv.Itoa(i))
	}
	for i := range points {
		l.Points = append(l.Points, api.Point{Name: "p" + strconv.Itoa(i), Section: i % sections})
	}
	return l
}

func made(t *testing.T, l api.Layout) *field.Field {
	t.Helper()
	f, e := field.New(l)
	if f == nil || e != api.OK {
		t.Fatalf("New = %v, %v", f, e)
	}
	return f
}

// trains is which of so many sections are occupied.
func trains(sections int, in ...int) []bool {
	row := make([]bool, sections)
	for _, section := range in {
		row[section] = true
	}
	return row
}

func tell(t *testing.T, f *field.Field, what string, occupied []bool, lies ...int) {
	t.Helper()
	if in := f.In(); !slices.Equal(in.Occupied, occupied) || !slices.Equal(in.Lies, lies) {
		t.Errorf("%s: In = %v; want %v, %v", what, in, occupied, lies)
	}
}

// lie asks where all points of a field without trains lie.
func lie(t *testing.T, f *field.Field, what string, lies ...int) {
	t.Helper()
	tell(t, f, what, make([]bool, len(f.In().Occupied)), lies...)
}

func stick(t *testing.T, f *field.Field, point int) {
	t.Helper()
	if e := f.Stick(point); e != api.OK {
		t.Errorf("Stick(%d) = %v", point, e)
	}
}

func train(t *testing.T, f *field.Field, section int) {
	t.Helper()
	if e := f.Train(section); e != api.OK {
		t.Errorf("Train(%d) = %v", section, e)
	}
}

// P6.1: New

func TestNew(t *testing.T) {
	lie(t, made(t, loop()), "a loop", nor, nor, nor)
	lie(t, made(t, yard(1, 0)), "one section alone")
	lie(t, made(t, yard(1, 1)), "one point", nor)
	lie(t, made(t, yard(1, 5)), "more points than sections", nor, nor, nor, nor, nor)
	lie(t, made(t, yard(10, 5)), "as much as may be", nor, nor, nor, nor, nor)
	if n := len(made(t, yard(10, 0)).In().Occupied); n != 10 {
		t.Errorf("10 sections: %d are told of", n)
	}
}

func TestNewOfNoLayout(t *testing.T) {
	for _, x := range []struct {
		what string
		make func(l *api.Layout)
	}{
		{"no sections", func(l *api.Layout) { l.Sections = nil }},
		{"no signals", func(l *api.Layout) { l.Signals = nil }},
		{"neither", func(l *api.Layout) { *l = api.Layout{} }},
		{"too many sections", func(l *api.Layout) { *l = yard(11, 0) }},
		{"too many points", func(l *api.Layout) { *l = yard(10, 6) }},
		{"very many sections", func(l *api.Layout) { l.Sections = make([]string, 1<<20) }},
		{"very many points", func(l *api.Layout) { l.Points = make([]api.Point, 1<<20) }},
		{"a section twice", func(l *api.Layout) { l.Sections[3] = "a" }},
		{"a name that is none", func(l *api.Layout) { l.Points[2].Name = "set" }},
		{"a name with a wrong byte", func(l *api.Layout) { l.Signals[1] = "T\xff" }},
		{"a point in a section that is not there", func(l *api.Layout) { l.Points[1].Section = 4 }},
		{"a point in a section below", func(l *api.Layout) { l.Points[1].Section = -1 }},
		{"a route from and to one signal", func(l *api.Layout) { l.Routes[0].To = 0 }},
		{"a route without a section", func(l *api.Layout) { l.Routes[1].Path = nil }},
		{"a route over what is not there", func(l *api.Layout) { l.Routes[1].Path[0] = math.MaxInt }},
		{"a route without its point", func(l *api.Layout) { l.Routes[0].Points = l.Routes[0].Points[:1] }},
		{"a flank that is not there", func(l *api.Layout) { l.Routes[0].Flank[0].Point = 3 }},
	} {
		l := loop()
		x.make(&l)
		if f, e := field.New(l); f != nil || e != api.ErrPlan {
			t.Errorf("%s: New = %v, %v", x.what, f, e)
		}
	}
}

// notThere is what no row of n has.
func notThere(n int) []int {
	return []int{-1, -2, -n, n, n + 1, 1 << 20, -1 << 20, math.MaxInt, math.MinInt, math.MaxInt32 + 1, math.MinInt32 - 1}
}

// P6.1: Train

func TestTrain(t *testing.T) {
	f := made(t, loop())
	for _, x := range []struct {
		section int
		in      []int
	}{
		{2, []int{2}}, {0, []int{0, 2}}, {3, []int{0, 2, 3}}, {2, []int{0, 3}}, {2, []int{0, 2, 3}},
		{1, []int{0, 1, 2, 3}}, {0, []int{1, 2, 3}}, {3, []int{1, 2}}, {2, []int{1}}, {1, nil}, {1, []int{1}},
	} {
		train(t, f, x.section)
		tell(t, f, "Train("+strconv.Itoa(x.section)+")", trains(4, x.in...), nor, nor, nor)
	}
}

func TestTrainEachSection(t *testing.T) {
	for section := range 10 {
		f := made(t, yard(10, 5))
		for times := range 4 {
			tell(t, f, "by turns", trains(10), nor, nor, nor, nor, nor)
			train(t, f, section)
			tell(t, f, "by turns", trains(10, section), nor, nor, nor, nor, nor)
			train(t, f, section)
			if t.Failed() {
				t.Fatalf("section %d, turn %d", section, times)
			}
		}
	}
}

// Points more than sections, and sections more than points: neither row is taken for the other one.
func TestTrainNotThere(t *testing.T) {
	for _, x := range []struct{ sections, points int }{{1, 5}, {2, 5}, {4, 4}, {10, 5}, {10, 0}, {1, 0}} {
		f := made(t, yard(x.sections, x.points))
		train(t, f, x.sections-1)
		before := f.In()
		for _, section := range notThere(x.sections) {
			if e := f.Train(section); e != api.ErrNone {
				t.Errorf("%d sections, %d points: Train(%d) = %v", x.sections, x.points, section, e)
			}
			tell(t, f, "refused", before.Occupied, before.Lies...)
		}
	}
}

// P6.1: Stick

func TestStick(t *testing.T) {
	f := made(t, loop())
	train(t, f, 3)
	stick(t, f, 1)
	tell(t, f, "one that lies Normal", trains(4, 3), nor, nowhere, nor)
	stick(t, f, 1)
	tell(t, f, "one that is stuck already", trains(4, 3), nor, nowhere, nor)
	for range 3 {
		f.Step([]int{0, rev, rev})
	}
	tell(t, f, "driven", trains(4, 3), nor, rev, rev)
	stick(t, f, 2)
	tell(t, f, "one that lies Reverse", trains(4, 3), nor, rev, nowhere)
	stick(t, f, 0)
	tell(t, f, "two at a time", trains(4, 3), nowhere, rev, nowhere)
	for range 5 {
		f.Step([]int{0, 0, 0})
		tell(t, f, "driven Nowhere", trains(4, 3), nowhere, rev, nowhere)
	}
}

func TestStickEachPoint(t *testing.T) {
	for point := range 5 {
		f := made(t, yard(3, 5))
		stick(t, f, point)
		want := []int{nor, nor, nor, nor, nor}
		want[point] = nowhere
		lie(t, f, "stuck", want...)
	}
}

// What a point was driven is lost when it sticks, after each number of Steps, and again while it is stuck.
func TestStickLosesWhatWasDriven(t *testing.T) {
	for steps := range 3 {
		for times := 1; times <= 2; times++ {
			for _, to := range []int{nor, rev} {
				f := made(t, yard(1, 1))
				stick(t, f, 0)
				for range steps {
					f.Step([]int{to})
				}
				for range times {
					stick(t, f, 0)
				}
				lie(t, f, "stuck on the way", nowhere)
				f.Step([]int{to})
				f.Step([]int{to})
				lie(t, f, "stuck on the way, and two Steps", nowhere)
				f.Step([]int{to})
				lie(t, f, "stuck on the way, and three Steps", to)
			}
		}
	}
}

func TestStickNotThere(t *testing.T) {
	for _, x := range []struct{ sections, points int }{{1, 5}, {2, 3}, {4, 4}, {10, 5}, {10, 1}, {10, 0}, {1, 0}} {
		f := made(t, yard(x.sections, x.points))
		f.Step(slices.Repeat([]int{rev}, x.points))
		f.Step(slices.Repeat([]int{rev}, x.points))
		before := f.In()
		for _, point := range notThere(x.points) {
			if e := f.Stick(point); e != api.ErrNone {
				t.Errorf("%d sections, %d points: Stick(%d) = %v", x.sections, x.points, point, e)
			}
			tell(t, f, "refused", before.Occupied, before.Lies...)
		}
		f.Step(slices.Repeat([]int{rev}, x.points))
		lie(t, f, "nothing of what was driven is lost", slices.Repeat([]int{rev}, x.points)...)
	}
}

// P6.2: one point. Each step is a position that it is driven to, or stuck.

const stuck = -1

func TestStep(t *testing.T) {
	for _, x := range []struct {
		what string
		does []int
		lies []int
	}{
		{"the example", []int{rev, rev, rev}, []int{0, 0, rev}},
		{"on and on", []int{rev, rev, rev, rev, rev, rev, rev}, []int{0, 0, rev, rev, rev, rev, rev}},
		{"to where it lies", []int{nor, nor, nor, nor}, []int{nor, nor, nor, nor}},
		{"not at all", []int{0, 0, 0, 0}, []int{nor, nor, nor, nor}},
		{"there and back", []int{rev, rev, rev, nor, nor, nor, rev, rev, rev}, []int{0, 0, rev, 0, 0, nor, 0, 0, rev}},
		{"there, rest, and back", []int{rev, rev, rev, 0, rev, 0, nor, nor, nor}, []int{0, 0, rev, rev, rev, rev, 0, 0, nor}},
		{"one Step alone", []int{rev, 0, 0, 0, 0}, []int{0, 0, 0, 0, 0}},
		{"two Steps alone", []int{rev, rev, 0, 0, 0}, []int{0, 0, 0, 0, 0}},
		{"a rest after one", []int{rev, 0, rev, rev, rev}, []int{0, 0, 0, 0, rev}},
		{"a rest after two", []int{rev, rev, 0, rev, rev, rev}, []int{0, 0, 0, 0, 0, rev}},
		{"a rest after each", []int{rev, 0, rev, 0, rev, 0, rev, 0}, []int{0, 0, 0, 0, 0, 0, 0, 0}},
		{"back after one", []int{rev, nor, nor, nor}, []int{0, 0, 0, nor}},
		{"back after two", []int{rev, rev, nor, nor, nor}, []int{0, 0, 0, 0, nor}},
		{"to and fro", []int{rev, nor, rev, nor, rev, nor, rev, rev, rev}, []int{0, 0, 0, 0, 0, 0, 0, 0, rev}},
		{"back for one", []int{rev, rev, nor, rev, rev, rev}, []int{0, 0, 0, 0, 0, rev}},
		{"two and two", []int{rev, rev, nor, nor, rev, rev, nor, nor, nor}, []int{0, 0, 0, 0, 0, 0, 0, 0, nor}},
		{"back after two and a rest", []int{rev, rev, 0, nor, nor, nor}, []int{0, 0, 0, 0, 0, nor}},
		{"Nowhere, to Normal", []int{stuck, nor, nor, nor}, []int{0, 0, 0, nor}},
		{"Nowhere, to Reverse", []int{stuck, rev, rev, rev}, []int{0, 0, 0, rev}},
		{"Nowhere, to one and to the other", []int{stuck, nor, nor, rev, rev, rev}, []int{0, 0, 0, 0, 0, rev}},
		{"Nowhere, not at all", []int{stuck, 0, 0, 0, 0}, []int{0, 0, 0, 0, 0}},
		{"stuck at the last Step", []int{rev, rev, stuck, rev, rev, rev}, []int{0, 0, 0, 0, 0, rev}},
		{"stuck behind the last Step", []int{rev, rev, rev, stuck, rev, rev, rev}, []int{0, 0, rev, 0, 0, 0, rev}},
		{"stuck, and back", []int{rev, rev, rev, stuck, nor, nor, nor}, []int{0, 0, rev, 0, 0, 0, nor}},
		{"stuck at rest, driven to where it lay", []int{nor, nor, stuck, nor, nor, nor}, []int{nor, nor, 0, 0, 0, nor}},
	} {
		f := made(t, yard(1, 1))
		for i, to := range x.does {
			if to == stuck {
				stick(t, f, 0)
			} else {
				f.Step([]int{to})
			}
			lie(t, f, x.what+", "+strconv.Itoa(i+1), x.lies[i])
		}
	}
}

// MoveTime less one Steps, and MoveTime, from all that a point may lie.
func TestStepsOfMoveTime(t *testing.T) {
	for _, from := range []int{nowhere, nor, rev} {
		for _, to := range []int{nor, rev} {
			if to == from {
				continue
			}
			f := made(t, yard(1, 1))
			stick(t, f, 0)
			for range api.MoveTime {
				f.Step([]int{from})
			}
			lie(t, f, "ahead", from)
			for range api.MoveTime - 1 {
				f.Step([]int{to})
				lie(t, f, "on the way", nowhere)
			}
			f.Step([]int{to})
			lie(t, f, "behind", to)
		}
	}
}

// P6.2: several points, each for itself

func TestStepSeveral(t *testing.T) {
	f := made(t, loop())
	for i, x := range []struct{ drive, lies []int }{
		{[]int{rev, nor, 0}, []int{0, nor, nor}},
		{[]int{rev, rev, 0}, []int{0, 0, nor}},
		{[]int{rev, rev, rev}, []int{rev, 0, 0}},
		{[]int{rev, 0, rev}, []int{rev, 0, 0}},
		{[]int{nor, rev, rev}, []int{0, 0, rev}},
		{[]int{nor, rev, nor}, []int{0, 0, 0}},
		{[]int{nor, rev, nor}, []int{nor, rev, 0}},
		{[]int{0, nor, nor}, []int{nor, 0, nor}},
		{[]int{nor, nor, 0}, []int{nor, 0, nor}},
		{[]int{rev, nor, nor}, []int{0, nor, nor}},
		{[]int{0, 0, 0}, []int{0, nor, nor}},
	} {
		f.Step(x.drive)
		lie(t, f, "Step "+strconv.Itoa(i+1), x.lies...)
	}
}

func TestStepAllAtOnce(t *testing.T) {
	f := made(t, yard(10, 5))
	for _, to := range []int{rev, nor, rev} {
		drive := slices.Repeat([]int{to}, 5)
		f.Step(drive)
		lie(t, f, "all, 1", 0, 0, 0, 0, 0)
		f.Step(drive)
		lie(t, f, "all, 2", 0, 0, 0, 0, 0)
		f.Step(drive)
		lie(t, f, "all, 3", drive...)
	}
}

func TestStepOfNoPoints(t *testing.T) {
	f := made(t, yard(2, 0))
	train(t, f, 1)
	for range 4 {
		f.Step(nil)
		f.Step([]int{})
		tell(t, f, "no points", trains(2, 1))
	}
}

// A field is no interlocking: trains and points do not ask for one another.
func TestTrainsAndPointsAreApart(t *testing.T) {
	f := made(t, loop())
	train(t, f, 1)
	f.Step([]int{rev, 0, 0})
	train(t, f, 3)
	f.Step([]int{rev, 0, 0})
	train(t, f, 1)
	train(t, f, 1)
	tell(t, f, "on the way under a train", trains(4, 1, 3), nowhere, nor, nor)
	f.Step([]int{rev, 0, 0})
	tell(t, f, "moved under a train", trains(4, 1, 3), rev, nor, nor)
	stick(t, f, 2)
	tell(t, f, "stuck under a train", trains(4, 1, 3), rev, nor, nowhere)
}

// W1: of what is none of as many positions as points nothing is said but that the call ends; here nothing happens.
func TestStepOfWhatMayNotBe(t *testing.T) {
	f := made(t, loop())
	f.Step([]int{rev, 0, 0})
	f.Step([]int{rev, rev, 0})
	wrong := [][]int{nil, {}, {nor}, {nor, nor}, {0, 0, 0, 0}, {rev, rev, rev, rev}, make([]int, 1<<20)}
	for _, odd := range []int{-1, 3, 1 << 20, math.MaxInt, math.MinInt} {
		wrong = append(wrong, []int{odd, 0, 0}, []int{0, odd, 0}, []int{rev, rev, odd}, []int{odd, odd, odd}, []int{odd})
	}
	for range 4 {
		for _, drive := range wrong {
			f.Step(drive)
			lie(t, f, "refused", nowhere, nowhere, nor)
		}
	}
	f.Step([]int{rev, rev, 0})
	lie(t, f, "the third Step of one, the second of another", rev, nowhere, nor)
	g := made(t, yard(1, 0))
	for _, drive := range wrong[2:] {
		g.Step(drive)
		lie(t, g, "no points")
	}
}

// P6.3, W8: of a nil Field

func TestNilField(t *testing.T) {
	var f *field.Field
	for _, i := range append(notThere(1), 0, 1) {
		if f.Train(i) != api.ErrNone || f.Stick(i) != api.ErrNone {
			t.Errorf("Train(%d) = %v, Stick(%d) = %v", i, f.Train(i), i, f.Stick(i))
		}
		f.Step([]int{i})
	}
	f.Step(nil)
	f.Step(make([]int, 1<<20))
	if in := f.In(); len(in.Occupied) != 0 || len(in.Lies) != 0 {
		t.Errorf("In = %v", in)
	}
}

// W1: of a Field that New has not made, nothing is said but that calls end.
func TestFieldOfNothing(t *testing.T) {
	f := &field.Field{}
	for _, i := range append(notThere(1), 0, 1) {
		if f.Train(i) != api.ErrNone || f.Stick(i) != api.ErrNone {
			t.Errorf("Train(%d) = %v, Stick(%d) = %v", i, f.Train(i), i, f.Stick(i))
		}
		f.Step([]int{i})
	}
	f.Step(nil)
	lie(t, f, "nothing")
}

// P0.5, as far as one lock and one field go: a route that is called where all is free proceeds within its points' time.
func TestLockDrivesField(t *testing.T) {
	l := loop()
	f := made(t, l)
	k, e := lock.New(l)
	if e != api.OK || k.Command(f.In(), api.Cmd{Kind: api.CmdCall, Route: 0}) != api.OK {
		t.Fatal("the route is not called")
	}
	for range api.MoveTime {
		if !lock.MayIn(l, f.In()) {
			t.Fatalf("may not be: %v", f.In())
		}
		o := k.Cycle(f.In())
		if !slices.Equal(o.Drive, []int{0, 0, rev}) || slices.Contains(o.Proceed, true) {
			t.Fatalf("told %v", o)
		}
		f.Step(o.Drive)
	}
	lie(t, f, "driven by a lock", nor, nor, rev)
	if o := k.Cycle(f.In()); !slices.Equal(o.Proceed, []bool{true, false}) {
		t.Errorf("told %v", o)
	}
}
