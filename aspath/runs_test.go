package aspath

import (
	"math"
	"math/rand"
	"slices"
	"testing"

	"whirligig/api"
)

func TestRunsAndShort(t *testing.T) {
	for _, c := range []struct {
		p, short []int
		runs     [][2]int
	}{
		{nil, nil, nil},
		{[]int{}, nil, nil},
		{[]int{1}, []int{1}, [][2]int{{1, 1}}},
		{[]int{1, 1}, []int{1}, [][2]int{{1, 2}}},
		{[]int{1, 2}, []int{1, 2}, [][2]int{{1, 1}, {2, 1}}},
		{[]int{65000, 65000, 1, 2}, []int{65000, 1, 2}, [][2]int{{65000, 2}, {1, 1}, {2, 1}}},
		{[]int{1, 2, 2, 2}, []int{1, 2}, [][2]int{{1, 1}, {2, 3}}},
		{[]int{1, 1, 2, 1, 1, 1}, []int{1, 2, 1}, [][2]int{{1, 2}, {2, 1}, {1, 3}}},
		{slices.Repeat([]int{9}, 16), []int{9}, [][2]int{{9, 16}}},
		{slices.Repeat([]int{9}, 17), []int{9}, [][2]int{{9, 17}}},
		{[]int{0, 0, -1}, []int{0, -1}, [][2]int{{0, 2}, {-1, 1}}},
		{[]int{0}, []int{0}, [][2]int{{0, 1}}},
	} {
		if got := Runs(c.p); !slices.Equal(got, c.runs) {
			t.Errorf("Runs(%v): %v, not %v", c.p, got, c.runs)
		}
		if got := Short(c.p); !slices.Equal(got, c.short) {
			t.Errorf("Short(%v): %v, not %v", c.p, got, c.short)
		}
	}
	if many := rising(1, 3000); !slices.Equal(Short(many), many) || len(Runs(many)) != 3000 {
		t.Error("numbers that are more than a path may have")
	}
}

func TestOf(t *testing.T) {
	var ones [][2]int
	for _, as := range rising(1, 17) {
		ones = append(ones, [2]int{as, 1})
	}
	for _, c := range []struct {
		runs [][2]int
		want []int
		e    api.Errno
	}{
		{nil, nil, api.OK},
		{[][2]int{}, nil, api.OK},
		{[][2]int{{1, 1}}, []int{1}, api.OK},
		{[][2]int{{65535, 3}}, []int{65535, 65535, 65535}, api.OK},
		{[][2]int{{65000, 2}, {1, 1}, {2, 1}}, []int{65000, 65000, 1, 2}, api.OK},
		{[][2]int{{1, 2}, {2, 1}, {1, 2}}, []int{1, 1, 2, 1, 1}, api.OK},
		{[][2]int{{7, 15}}, slices.Repeat([]int{7}, 15), api.OK},
		{[][2]int{{7, 16}}, slices.Repeat([]int{7}, 16), api.OK},
		{[][2]int{{7, 17}}, nil, api.ErrLong},
		{[][2]int{{7, 15}, {8, 1}}, append(slices.Repeat([]int{7}, 15), 8), api.OK},
		{[][2]int{{7, 15}, {8, 2}}, nil, api.ErrLong},
		{[][2]int{{7, 16}, {8, 1}}, nil, api.ErrLong},
		{ones[:16], rising(1, 16), api.OK},
		{ones, nil, api.ErrLong},
		{[][2]int{{7, math.MaxInt}}, nil, api.ErrLong},
		{[][2]int{{7, math.MaxInt}, {8, math.MaxInt}, {9, 2}}, nil, api.ErrLong},
		{[][2]int{{7, 1}, {8, math.MaxInt}}, nil, api.ErrLong},
		{[][2]int{{1, 1}, {1, 1}}, nil, api.ErrArg},
		{[][2]int{{1, 1}, {1, 2}}, nil, api.ErrArg},
		{[][2]int{{2, 1}, {1, 3}, {1, 1}}, nil, api.ErrArg},
		{[][2]int{{1, 16}, {1, 1}}, nil, api.ErrArg},
		{[][2]int{{1, 17}, {2, 1}, {2, 1}}, nil, api.ErrArg},
		{[][2]int{{1, 0}}, nil, api.ErrArg},
		{[][2]int{{1, -1}}, nil, api.ErrArg},
		{[][2]int{{1, math.MinInt}}, nil, api.ErrArg},
		{[][2]int{{1, 1}, {2, 0}, {3, 1}}, nil, api.ErrArg},
		{[][2]int{{1, 17}, {2, 0}}, nil, api.ErrArg},
		{[][2]int{{1, 16}, {2, 2}, {3, -1}}, nil, api.ErrArg},
		{[][2]int{{0, 0}}, nil, api.ErrArg},
	} {
		if got, e := Of(c.runs); e != c.e || !slices.Equal(got, c.want) {
			t.Errorf("Of(%v): %v %d, not %v %d", c.runs, got, e, c.want, c.e)
		}
	}
	for _, as := range wrongAS() {
		for _, runs := range [][][2]int{{{as, 1}}, {{as, 17}}, {{1, 1}, {as, 1}}, {{as, 1}, {1, 1}}, {{1, 17}, {as, 1}}, append(ones, [2]int{as, 1})} {
			if got, e := Of(runs); e != api.ErrArg || len(got) != 0 {
				t.Errorf("Of(%v): %v %d", runs, got, e)
			}
		}
	}
}

func TestMadeOfItsRuns(t *testing.T) {
	r := rand.New(rand.NewSource(4))
	all := paths()
	for range 5000 {
		all = append(all, draw(r, 16))
	}
	for _, p := range all {
		if got, e := Of(Runs(p)); e != api.OK || !slices.Equal(got, p) {
			t.Fatalf("Of(%v): %v %d, not %v", Runs(p), got, e, p)
		}
	}
}

// TestOfAllRuns asks of all small lists of runs whether just those that are a path's runs make it.
func TestOfAllRuns(t *testing.T) {
	var grow func(runs [][2]int, more int)
	grow = func(runs [][2]int, more int) {
		var p []int
		right := true
		for i, run := range runs {
			right = right && run[0] > 0 && run[1] > 0 && (i == 0 || runs[i-1][0] != run[0])
			p = append(p, slices.Repeat(run[:1], max(0, run[1]))...)
		}
		got, e := Of(runs)
		switch {
		case !right && (e != api.ErrArg || len(got) != 0),
			right && len(p) > 16 && (e != api.ErrLong || len(got) != 0),
			right && len(p) <= 16 && (e != api.OK || !slices.Equal(got, p) || !slices.Equal(Runs(got), runs)):
			t.Fatalf("Of(%v): %v %d", runs, got, e)
		}
		if more == 0 {
			return
		}
		for as := range 3 {
			for _, many := range []int{0, 1, 2, 7, 8} {
				grow(append(slices.Clone(runs), [2]int{as, many}), more-1)
			}
		}
	}
	grow(nil, 3)
}

func TestTail(t *testing.T) {
	for _, c := range []struct {
		p, q []int
		want bool
	}{
		{nil, nil, true},
		{nil, []int{}, true},
		{[]int{1, 2}, nil, true},
		{nil, []int{1}, false},
		{[]int{1, 2}, []int{2}, true},
		{[]int{1, 2}, []int{1, 2}, true},
		{[]int{1, 2}, []int{1}, false},
		{[]int{2}, []int{1, 2}, false},
		{[]int{1, 1, 1}, []int{1, 1}, true},
		{[]int{1, 1}, []int{1, 1, 1}, false},
		{[]int{3, 1, 1, 2}, []int{1, 2}, true},
		{[]int{3, 1, 2}, []int{1, 1, 2}, false},
		{[]int{3, 1, 2, 2}, []int{1, 2}, false},
		{[]int{3, 1, 2}, []int{1, 2, 2}, false},
		{[]int{3, 2, 2}, []int{1, 2}, false},
		{[]int{1, 2, 1, 2}, []int{2, 1, 2}, true},
		{rising(1, 16), rising(2, 15), true},
		{rising(1, 16), rising(1, 15), false},
		{rising(1, 40), rising(20, 21), true},
		{[]int{7, 0, -1}, []int{0, -1}, true},
		{[]int{0}, []int{0}, true},
	} {
		if got := Tail(c.p, c.q); got != c.want {
			t.Errorf("Tail(%v, %v): %v", c.p, c.q, got)
		}
	}
	r := rand.New(rand.NewSource(5))
	held := 0
	for range 50000 {
		p, q := draw(r, 6), draw(r, 4)
		want := len(q) <= len(p)
		for i := range q {
			want = want && q[len(q)-1-i] == p[len(p)-1-i]
		}
		if Tail(p, q) != want {
			t.Fatalf("Tail(%v, %v): %v", p, q, !want)
		}
		if want && len(q) > 1 {
			held++
		}
	}
	if held < 1000 {
		t.Error("too few that end so:", held)
	}
}

func TestLoops(t *testing.T) {
	for _, c := range []struct {
		p    []int
		want bool
	}{
		{nil, false}, {[]int{}, false}, {[]int{1}, false}, {[]int{1, 1, 1}, false}, {[]int{1, 2}, false}, {[]int{2, 1}, false},
		{[]int{1, 2, 1}, true}, {[]int{1, 1, 2, 2}, false}, {[]int{1, 1, 2, 2, 1}, true}, {[]int{3, 1, 2, 1}, true},
		{[]int{1, 2, 1, 3}, true}, {[]int{1, 2, 3, 3, 2}, true}, {[]int{3, 1, 2}, false}, {rising(1, 16), false},
		{append(rising(1, 15), 1), true}, {append(rising(1, 15), 15), false}, {append(rising(1, 16), 16), false},
		{rising(1, 30000), false}, {append(rising(1, 30000), 1), true}, {[]int{0, 1, 0}, true}, {[]int{0, 0, 1}, false},
		{slices.Repeat([]int{4}, 16), false}, {slices.Repeat([]int{4, 5}, 8), true},
	} {
		if got := Loops(c.p); got != c.want {
			t.Errorf("Loops(%v): %v", c.p, got)
		}
	}
	r := rand.New(rand.NewSource(6))
	for range 20000 {
		p := draw(r, 6)
		want := false
		for i := range p {
			for j := i + 2; j < len(p); j++ {
				apart := slices.ContainsFunc(p[i:j], func(n int) bool { return n != p[i] })
				want = want || p[i] == p[j] && apart
			}
		}
		if Loops(p) != want {
			t.Fatalf("Loops(%v): %v", p, !want)
		}
	}
}
