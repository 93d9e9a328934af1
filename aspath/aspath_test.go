package aspath

import (
	"math"
	"math/rand"
	"slices"
	"testing"

	"whirligig/api"
)

// rising is as many numbers, from one on.
func rising(from, many int) []int {
	var p []int
	for i := range many {
		p = append(p, from+i)
	}
	return p
}

// wrongAS is numbers that are none of an AS: each call that asks must refuse them.
func wrongAS() []int {
	return []int{0, -1, -65535, 65536, 65537, 99999, 1 << 32, 1<<32 + 1, 1<<48 + 1, math.MinInt, math.MaxInt}
}

// paths is lists that are paths.
func paths() [][]int {
	return [][]int{
		nil, {}, {1}, {2}, {65534}, {65535}, {1, 1}, {1, 2}, {2, 1}, {1, 2, 1}, {65535, 1, 65535}, {9, 9, 9, 10, 10},
		rising(1, 15), rising(1, 16), rising(65520, 16), slices.Repeat([]int{1}, 15), slices.Repeat([]int{65535}, 16),
		slices.Repeat([]int{1, 2}, 8),
	}
}

// noPaths is lists that are no paths.
func noPaths() [][]int {
	l := [][]int{rising(1, 17), rising(1, 100), slices.Repeat([]int{1}, 17), slices.Repeat([]int{65535}, 2000)}
	for _, as := range wrongAS() {
		l = append(l, []int{as}, []int{as, 1}, []int{1, as}, []int{1, as, 1}, append(rising(1, 15), as), append(rising(1, 16), as))
	}
	return l
}

func TestMay(t *testing.T) {
	for _, p := range paths() {
		if !May(p) {
			t.Errorf("May(%v): false", p)
		}
	}
	for _, p := range noPaths() {
		if May(p) {
			t.Errorf("May(%v): true", p)
		}
	}
}

func TestPrepend(t *testing.T) {
	for _, c := range []struct {
		p         []int
		as, times int
		want      []int
		e         api.Errno
	}{
		{[]int{1, 2}, 65000, 2, []int{65000, 65000, 1, 2}, api.OK},
		{[]int{1, 2}, 1, 1, []int{1, 1, 2}, api.OK},
		{[]int{1, 2}, 2, 1, []int{2, 1, 2}, api.OK},
		{[]int{1, 2}, 3, 0, []int{1, 2}, api.OK},
		{nil, 3, 0, nil, api.OK},
		{nil, 3, 1, []int{3}, api.OK},
		{nil, 1, 16, slices.Repeat([]int{1}, 16), api.OK},
		{nil, 65535, 15, slices.Repeat([]int{65535}, 15), api.OK},
		{nil, 65535, 17, nil, api.ErrLong},
		{[]int{7}, 65535, 15, append(slices.Repeat([]int{65535}, 15), 7), api.OK},
		{[]int{7}, 65535, 16, nil, api.ErrLong},
		{rising(2, 15), 1, 1, rising(1, 16), api.OK},
		{rising(2, 15), 1, 2, nil, api.ErrLong},
		{rising(1, 16), 1, 0, rising(1, 16), api.OK},
		{rising(1, 16), 1, 1, nil, api.ErrLong},
		{nil, 1, math.MaxInt, nil, api.ErrLong},
		{rising(1, 16), 1, math.MaxInt, nil, api.ErrLong},
		{rising(1, 9), 1, math.MaxInt - 8, nil, api.ErrLong},
		{nil, 1, 1 << 32, nil, api.ErrLong},
		{nil, 1, -1, nil, api.ErrArg},
		{[]int{1}, 1, -1, nil, api.ErrArg},
		{rising(1, 16), 1, -1, nil, api.ErrArg},
		{[]int{1}, 1, math.MinInt, nil, api.ErrArg},
		{rising(1, 17), 1, 0, nil, api.ErrArg},
	} {
		if got, e := Prepend(c.p, c.as, c.times); e != c.e || !slices.Equal(got, c.want) {
			t.Errorf("Prepend(%v, %d, %d): %v %d, not %v %d", c.p, c.as, c.times, got, e, c.want, c.e)
		}
	}
}

func TestPrependRefuses(t *testing.T) {
	counts := []int{-1, 0, 1, 16, 17, math.MaxInt, math.MinInt}
	for _, times := range counts {
		for _, p := range noPaths() {
			for _, as := range []int{0, 1, 65535, 65536} {
				if got, e := Prepend(p, as, times); e != api.ErrArg || len(got) != 0 {
					t.Errorf("Prepend(%v, %d, %d): %v %d", p, as, times, got, e)
				}
			}
		}
		for _, p := range paths() {
			for _, as := range wrongAS() {
				if got, e := Prepend(p, as, times); e != api.ErrArg || len(got) != 0 {
					t.Errorf("Prepend(%v, %d, %d): %v %d", p, as, times, got, e)
				}
			}
		}
	}
}

func TestPrependedStandsAtTheBeginning(t *testing.T) {
	for _, p := range paths() {
		for _, as := range []int{1, 2, 65000, 65535} {
			for times := range 18 {
				got, e := Prepend(p, as, times)
				if len(p)+times > 16 {
					if e != api.ErrLong || len(got) != 0 {
						t.Errorf("Prepend(%v, %d, %d): %v %d", p, as, times, got, e)
					}
					continue
				}
				if e != api.OK || len(got) != times+len(p) || !May(got) || !slices.Equal(got[times:], p) || !Tail(got, p) {
					t.Fatalf("Prepend(%v, %d, %d): %v %d", p, as, times, got, e)
				}
				for _, n := range got[:times] {
					if n != as {
						t.Errorf("Prepend(%v, %d, %d): %v", p, as, times, got)
					}
				}
			}
		}
	}
}

func TestHasFirstOrigin(t *testing.T) {
	for _, c := range []struct {
		p             []int
		first, origin int
	}{
		{nil, 0, 0}, {[]int{}, 0, 0}, {[]int{7}, 7, 7}, {[]int{1, 2}, 1, 2}, {[]int{3, 2, 1}, 3, 1}, {[]int{1, 2, 1}, 1, 1},
		{rising(1, 16), 1, 16}, {rising(1, 17), 1, 17}, {[]int{0, 5}, 0, 5}, {[]int{-4, 65536}, -4, 65536},
		{[]int{math.MinInt, 0}, math.MinInt, 0},
	} {
		if First(c.p) != c.first || Origin(c.p) != c.origin {
			t.Errorf("First, Origin of %v: %d, %d", c.p, First(c.p), Origin(c.p))
		}
	}
	for _, p := range append(paths(), noPaths()...) {
		for _, as := range append(wrongAS(), 1, 2, 8, 16, 17, 18, 65535) {
			want := false
			for _, n := range p {
				want = want || n == as
			}
			if Has(p, as) != want {
				t.Errorf("Has(%v, %d): %v", p, as, !want)
			}
		}
	}
}

func TestCompare(t *testing.T) {
	all := [][]int{
		nil, {math.MinInt}, {-1}, {0}, {1}, {2}, {9}, {10}, {65535}, {65536}, {math.MaxInt},
		{0, 9}, {1, 1}, {1, 2}, {1, 10}, {2, 1}, {9, 1}, {10, 0}, {1, 1, 1}, {1, 1, 2}, {1, 2, 1}, {2, 1, 1},
		rising(1, 15), slices.Repeat([]int{1}, 16), rising(1, 16), rising(2, 16), slices.Repeat([]int{-1}, 17), rising(1, 17), rising(1, 2000),
	}
	for i, a := range all {
		for j, b := range all {
			want := 0
			if i < j {
				want = -1
			} else if i > j {
				want = 1
			}
			if got := Compare(a, append([]int{}, b...)); got != want {
				t.Errorf("Compare(%v, %v): %d, not %d", a, b, got, want)
			}
		}
	}
}

// draw is some numbers of few, so that there are runs, rings and ends in common.
func draw(r *rand.Rand, most int) []int {
	var p []int
	for range r.Intn(most + 1) {
		p = append(p, 1+r.Intn(3))
	}
	return p
}

func TestNothingIsChangedOrShared(t *testing.T) {
	roomy := append(make([]int, 0, 40), 5, 5, 3, 4, 4)
	runs := append(make([][2]int, 0, 40), [2]int{5, 2}, [2]int{3, 1}, [2]int{4, 2})
	unchanged := func(name string) {
		t.Helper()
		if !slices.Equal(roomy, []int{5, 5, 3, 4, 4}) || !slices.Equal(runs, [][2]int{{5, 2}, {3, 1}, {4, 2}}) {
			t.Errorf("%s: an argument is changed: %v %v", name, roomy, runs)
		}
		if !slices.Equal(roomy[5:40], make([]int, 35)) || !slices.Equal(runs[3:40], make([][2]int, 37)) {
			t.Errorf("%s: the room behind an argument is written to", name)
		}
	}
	for name, f := range map[string]func() []int{
		"Prepend none": func() []int { p, _ := Prepend(roomy, 5, 0); return p },
		"Prepend":      func() []int { p, _ := Prepend(roomy, 5, 3); return p },
		"Prepend full": func() []int { p, _ := Prepend(roomy, 7, 11); return p },
		"Short":        func() []int { return Short(roomy) },
		"Short of one": func() []int { return Short(roomy[:1]) },
		"Of":           func() []int { p, _ := Of(runs); return p },
		"Parse":        func() []int { p, _ := Parse("5 5 3 4 4"); return p },
	} {
		first := f()
		if len(first) == 0 {
			t.Fatalf("%s: nothing", name)
		}
		kept, again := slices.Clone(first), f()
		for i := range again {
			again[i] = -1
		}
		_ = append(again, -1)
		if !slices.Equal(first, kept) {
			t.Errorf("%s: two answers share memory", name)
		}
		unchanged(name)
	}
	again := Runs(roomy)
	for i := range again {
		again[i] = [2]int{-1, -1}
	}
	if !slices.Equal(Runs(roomy), runs) {
		t.Error("Runs: two answers share memory")
	}
	Tail(roomy, roomy[1:])
	Tail(roomy[1:], roomy)
	Loops(roomy)
	Loops([]int{5, 3, 5})
	Compare(roomy, roomy[1:])
	Text(roomy)
	unchanged("what only asks")
	ring := []int{5, 3, 5, 1}
	if Loops(ring); !slices.Equal(ring, []int{5, 3, 5, 1}) {
		t.Error("Loops: an argument is changed")
	}
}
