package igp

import (
	"math"
	"slices"
	"testing"

	"whirligig/api"
	"whirligig/cfg"
	"whirligig/topo"
)

// laid is the inner network of a configuration.
func laid(t *testing.T, s string) *Inner {
	t.Helper()
	c, at, e := cfg.Parse(s)
	if e != api.OK {
		t.Fatal(s, at, e)
	}
	n, f := topo.Make(c)
	if n == nil {
		t.Fatal(s, f)
	}
	return Make(n)
}

// inner is the inner network of as many routers of one AS, with links.
func inner(t *testing.T, size int, links map[[2]int]int) *Inner {
	t.Helper()
	w := world{slices.Repeat([]int{1}, size), links}
	x := Make(w.net(t))
	held(t, w, x)
	return x
}

// far fails the test, if another router is told as the farthest.
func far(t *testing.T, x *Inner, i, k, cost int) {
	t.Helper()
	if a, b := x.Far(i); a != k || b != cost {
		t.Errorf("Far(%d): %d, %d, not %d, %d", i, a, b, k, cost)
	}
}

// goes fails the test, if the best way is another one.
func goes(t *testing.T, x *Inner, cost int, way ...int) {
	t.Helper()
	i, k := way[0], way[len(way)-1]
	if l := x.Way(i, k); !slices.Equal(l, way) {
		t.Errorf("Way(%d, %d): %v, not %v", i, k, l, way)
	}
	if got, is := x.Cost(i, k); got != cost || !is {
		t.Errorf("Cost(%d, %d): %d, %v, not %d", i, k, got, is, cost)
	}
	next := 0
	if len(way) > 1 {
		next = way[1]
	}
	if got := x.Next(i, k); got != next {
		t.Errorf("Next(%d, %d): %d, not %d", i, k, got, next)
	}
}

// stuck fails the test, if there is a way.
func stuck(t *testing.T, x *Inner, i, k int) {
	t.Helper()
	if cost, is := x.Cost(i, k); cost != 0 || is {
		t.Errorf("Cost(%d, %d): %d, %v", i, k, cost, is)
	}
	if l := x.Way(i, k); len(l) != 0 {
		t.Errorf("Way(%d, %d): %v", i, k, l)
	}
	if next := x.Next(i, k); next != 0 {
		t.Errorf("Next(%d, %d): %d", i, k, next)
	}
}

// groups fails the test, if the groups are others.
func groups(t *testing.T, x *Inner, want ...[]int) {
	t.Helper()
	if l := x.Groups(); !slices.EqualFunc(l, want, slices.Equal) {
		t.Errorf("Groups: %v, not %v", l, want)
	}
}

// TestExample: 15.1, as the section 'Examples' has it.
func TestExample(t *testing.T) {
	x := laid(t, `
		router a { as 1; id 1; link b cost 1; }
		router b { as 1; id 2; link a cost 1; link c cost 1; }
		router c { as 1; id 3; link b cost 1; }`)
	goes(t, x, 2, 1, 2, 3)
	goes(t, x, 2, 3, 2, 1)
	goes(t, x, 1, 1, 2)
	goes(t, x, 0, 2)
	groups(t, x, []int{1, 2, 3})
	far(t, x, 1, 3, 2)
	far(t, x, 2, 1, 1)
}

// several has two ASes with links, whose routers don't stand together, and sessions without links; of the third AS there is one router.
const several = `
router zed { as 1; id 8; neighbor top; link mid cost 7; link far cost 1; }
router b { as 2; id 7; neighbor top; link top cost 65536; }
router mid { as 1; id 6; link zed cost 7; link a cost 3; }
router alone { as 3; id 5; neighbor top; }
router far { as 1; id 4; link zed cost 1; link a cost 9; }
router top { as 2; id 3; neighbor b; neighbor zed; neighbor alone; neighbor lost; link b cost 65536; }
router a { as 1; id 2; link far cost 9; link mid cost 3; }
router lost { as 2; id 1; neighbor top; }
`

func TestSeveralASes(t *testing.T) {
	x := laid(t, several)
	if x.Len() != 8 {
		t.Error(x.Len())
	}
	goes(t, x, 10, 1, 3, 7) // the other one, by far, costs as much: the least list counts
	goes(t, x, 10, 7, 3, 1)
	goes(t, x, 8, 5, 1, 3)
	goes(t, x, 8, 3, 1, 5)
	goes(t, x, 65536, 2, 6)
	goes(t, x, 0, 4)
	stuck(t, x, 1, 2)
	stuck(t, x, 1, 6) // a session is no link
	stuck(t, x, 6, 8)
	stuck(t, x, 4, 6)
	groups(t, x, []int{1, 3, 5, 7}, []int{2, 6}, []int{4}, []int{8})
	far(t, x, 1, 7, 10)
	far(t, x, 3, 5, 8)
	far(t, x, 2, 6, 65536)
	far(t, x, 4, 4, 0)
	far(t, x, 8, 8, 0)
	far(t, x, 0, 0, 0)
	far(t, x, 9, 0, 0)
}

func TestNoRouters(t *testing.T) {
	x := inner(t, 0, nil)
	if x == nil || x.Len() != 0 || len(x.Groups()) != 0 {
		t.Errorf("without routers: %v", x)
	}
	for _, i := range around(0) {
		stuck(t, x, i, i)
		far(t, x, i, 0, 0)
	}
	if less := x.Without(1, 2); less == nil || less == x || less.Len() != 0 {
		t.Error("Without: it isn't the same in memory of its own")
	}
}

func TestOneRouter(t *testing.T) {
	x := inner(t, 1, nil)
	goes(t, x, 0, 1)
	groups(t, x, []int{1})
	far(t, x, 1, 1, 0)
	for _, i := range []int{math.MinInt, -1, 0, 2, 3, math.MaxInt} {
		stuck(t, x, i, 1)
		stuck(t, x, 1, i)
		stuck(t, x, i, i)
		far(t, x, i, 0, 0)
	}
}

// TestEightRouters: a row of the dearest links is longer than any link may be.
func TestEightRouters(t *testing.T) {
	links := map[[2]int]int{}
	for i := 1; i < 8; i++ {
		links[[2]int{i, i + 1}] = api.MaxCost
	}
	x := inner(t, 8, links)
	goes(t, x, 7*api.MaxCost, 1, 2, 3, 4, 5, 6, 7, 8)
	far(t, x, 1, 8, 7*api.MaxCost)
	far(t, x, 4, 8, 4*api.MaxCost)
	groups(t, x, []int{1, 2, 3, 4, 5, 6, 7, 8})
	less := x.Without(4, 5)
	groups(t, less, []int{1, 2, 3, 4}, []int{5, 6, 7, 8})
	far(t, less, 5, 8, 3*api.MaxCost)
	none := inner(t, 8, nil)
	groups(t, none, []int{1}, []int{2}, []int{3}, []int{4}, []int{5}, []int{6}, []int{7}, []int{8})
}

func TestCosts(t *testing.T) {
	x := inner(t, 4, map[[2]int]int{{1, 2}: 0, {2, 3}: 0, {1, 3}: 0, {3, 4}: api.MaxCost})
	goes(t, x, 0, 1, 3) // a way of fewer routers is better
	goes(t, x, api.MaxCost, 1, 3, 4)
	far(t, x, 1, 4, api.MaxCost)
	far(t, x.Without(3, 4), 3, 1, 0) // all cost nothing: the least one, be it not the router itself
	far(t, x.Without(3, 4), 1, 1, 0)
	x = inner(t, 3, map[[2]int]int{{1, 3}: 5, {1, 2}: 2, {2, 3}: 2})
	goes(t, x, 4, 1, 2, 3) // a way of less cost is better than one of fewer routers
	x = inner(t, 3, map[[2]int]int{{1, 3}: 4, {1, 2}: 2, {2, 3}: 2})
	goes(t, x, 4, 1, 3)
}

// TestManyBest: of ways that cost the same and have as many routers the least list counts, from both sides.
func TestManyBest(t *testing.T) {
	x := inner(t, 6, map[[2]int]int{{1, 4}: 1, {4, 3}: 1, {1, 5}: 1, {5, 2}: 1, {3, 6}: 1, {2, 6}: 1, {3, 4}: 1, {2, 5}: 1})
	goes(t, x, 3, 1, 4, 3, 6)
	goes(t, x, 3, 6, 2, 5, 1)
	far(t, x, 1, 6, 3)
	far(t, x, 4, 2, 3) // 2 is one farther than 5
	x = inner(t, 4, map[[2]int]int{{1, 2}: 1, {2, 4}: 1, {1, 3}: 1, {3, 4}: 1})
	goes(t, x, 2, 1, 2, 4)
	goes(t, x, 2, 4, 2, 1)
	goes(t, x, 2, 2, 1, 3)
	far(t, x, 2, 3, 2)
	far(t, inner(t, 3, map[[2]int]int{{1, 2}: 1, {1, 3}: 1}), 1, 2, 1) // two are as far: the least one
	far(t, inner(t, 3, map[[2]int]int{{1, 3}: 1, {2, 3}: 1}), 3, 1, 1)
}

func TestWithout(t *testing.T) {
	x := laid(t, several)
	for _, l := range [][2]int{{3, 7}, {7, 3}} {
		less := x.Without(l[0], l[1])
		goes(t, less, 17, 3, 1, 5, 7)
		groups(t, less, []int{1, 3, 5, 7}, []int{2, 6}, []int{4}, []int{8})
		less = less.Without(1, 5)
		groups(t, less, []int{1, 3}, []int{2, 6}, []int{4}, []int{5, 7}, []int{8})
		stuck(t, less, 1, 5)
		less = less.Without(5, 1) // it is gone
		groups(t, less, []int{1, 3}, []int{2, 6}, []int{4}, []int{5, 7}, []int{8})
	}
	for _, l := range [][2]int{{1, 7}, {1, 2}, {1, 1}, {4, 4}, {0, 0}, {0, 1}, {1, 0}, {8, 9}, {9, 1}, {-1, 1}, {math.MinInt, math.MaxInt}} {
		less := x.Without(l[0], l[1])
		if less == nil || less == x {
			t.Fatalf("Without(%v): it isn't the same in memory of its own", l)
		}
		goes(t, less, 10, 1, 3, 7)
		groups(t, less, []int{1, 3, 5, 7}, []int{2, 6}, []int{4}, []int{8})
	}
	goes(t, x, 3, 3, 7)
	goes(t, x, 1, 1, 5)
}

func TestNil(t *testing.T) {
	x := Make(nil)
	if x != nil {
		t.Fatal("an inner network of nothing")
	}
	if x.Len() != 0 || len(x.Groups()) != 0 {
		t.Errorf("Len %d, Groups %v", x.Len(), x.Groups())
	}
	for _, i := range around(2) {
		far(t, x, i, 0, 0)
		for _, k := range around(2) {
			stuck(t, x, i, k)
			if x.Without(i, k) != nil {
				t.Errorf("Without(%d, %d) isn't nil", i, k)
			}
		}
	}
}

// TestMemory: what is told may be changed, to its whole room, and nothing that is told later is.
func TestMemory(t *testing.T) {
	spoil := func(l []int) {
		l = l[:cap(l)]
		for i := range l {
			l[i] = -7
		}
	}
	x := laid(t, several)
	same := x.Without(1, 7)
	less := x.Without(1, 5)
	for _, one := range []*Inner{x, same, less} {
		for i := range 8 {
			for k := range 8 {
				spoil(one.Way(i+1, k+1))
			}
		}
		for _, group := range one.Groups() {
			spoil(group)
		}
		l := one.Groups()
		spoil(l[0][:1:1])
		spoil(append(l[1], 9))
		for i := range l[:cap(l)] {
			l[:cap(l)][i] = nil
		}
	}
	l := x.Groups()
	spoil(l[0])
	if !slices.Equal(l[1], []int{2, 6}) {
		t.Errorf("two groups of one answer share memory: %v", l)
	}
	goes(t, x, 10, 1, 3, 7)
	goes(t, same, 10, 1, 3, 7)
	goes(t, less, 19, 1, 3, 7, 5)
	for _, one := range []*Inner{x, same, less} {
		groups(t, one, []int{1, 3, 5, 7}, []int{2, 6}, []int{4}, []int{8})
	}
}
