package graph

import (
	"maps"
	"slices"
	"testing"

	"whirligig/api"
)

// judge is a graph by the chapter's words alone: whether a number is a node, and an edge's cost (below 0: none), in a square that is looked through.
type judge struct {
	is    []bool
	costs [][]int
}

func newJudge(n int) *judge {
	j := &judge{is: make([]bool, n)}
	for range n {
		j.costs = append(j.costs, slices.Repeat([]int{-1}, n))
	}
	return j
}

func (j *judge) edge(a, b, cost int) {
	j.is[a], j.is[b], j.costs[a][b] = true, true, cost
}

func (j *judge) cut(a, b int) bool {
	was := j.costs[a][b] >= 0
	j.costs[a][b] = -1
	return was
}

func (j *judge) gone(a int) bool {
	was := j.is[a]
	j.is[a] = false
	for b := range j.is {
		j.costs[a][b], j.costs[b][a] = -1, -1
	}
	return was
}

func (j *judge) nodes() []int {
	var l []int
	for a, is := range j.is {
		if is {
			l = append(l, a)
		}
	}
	return l
}

// walks does something to each walk from a on with no node twice: its nodes, and its cost. Of any walk these are no worse a choice, since what goes round costs nothing less.
func (j *judge) walks(a int, do func(l []int, cost int)) {
	var grow func(l []int, cost int)
	grow = func(l []int, cost int) {
		do(l, cost)
		for b, more := range j.costs[l[len(l)-1]] {
			if more >= 0 && !slices.Contains(l, b) {
				grow(append(slices.Clip(l), b), cost+more)
			}
		}
	}
	if j.is[a] {
		grow([]int{a}, 0)
	}
}

// best is of each node that a reaches the best walk to it, and the costs of these.
func (j *judge) best(a int) (map[int][]int, map[int]int) {
	best, costs := map[int][]int{}, map[int]int{}
	j.walks(a, func(l []int, cost int) {
		b := l[len(l)-1]
		old, is := best[b]
		if !is || cost < costs[b] || cost == costs[b] && shorter(l, old) {
			best[b], costs[b] = l, cost
		}
	})
	return best, costs
}

// shorter tells whether a list has fewer nodes than another one, or as many and is less.
func shorter(l, than []int) bool {
	return len(l) < len(than) || len(l) == len(than) && slices.Compare(l, than) < 0
}

// parts is each node's part, by asking who reaches whom and comes back.
func (j *judge) parts() [][]int {
	reach := make([]map[int]int, len(j.is))
	for a := range j.is {
		_, reach[a] = j.best(a)
	}
	var parts [][]int
	for _, a := range j.nodes() {
		var part []int
		for b := range reach[a] {
			if _, back := reach[b][a]; back {
				part = append(part, b)
			}
		}
		slices.Sort(part)
		if part[0] == a {
			parts = append(parts, part)
		}
	}
	return parts
}

// order is the least of all lists of the nodes in which no edge goes back.
func (j *judge) order() ([]int, bool) {
	nodes := j.nodes()
	var grow func(l []int) ([]int, bool)
	grow = func(l []int) ([]int, bool) {
		if len(l) == len(nodes) {
			return l, true
		}
		for _, a := range nodes {
			if slices.Contains(l, a) || slices.ContainsFunc(append(slices.Clip(l), a), func(b int) bool { return j.costs[a][b] >= 0 }) {
				continue
			}
			if whole, ok := grow(append(slices.Clip(l), a)); ok {
				return whole, true
			}
		}
		return nil, false
	}
	return grow(nil)
}

// ring is the best of all rings.
func (j *judge) ring() []int {
	var best []int
	for a := range j.is {
		j.walks(a, func(l []int, _ int) {
			if slices.Min(l) == a && j.costs[l[len(l)-1]][a] >= 0 && (best == nil || shorter(l, best)) {
				best = l
			}
		})
	}
	return best
}

// plainly fails the test, if a graph hasn't the nodes and edges that the judge has.
func plainly(t *testing.T, g *Graph[int], j *judge) {
	t.Helper()
	if l := g.Nodes(); !slices.Equal(l, j.nodes()) {
		t.Fatalf("Nodes: %v of %v", l, *j)
	}
	for a := range j.is {
		var out []int
		for b, want := range j.costs[a] {
			if want >= 0 {
				out = append(out, b)
			}
			if cost, ok := g.Cost(a, b); cost != max(want, 0) || ok != (want >= 0) {
				t.Fatalf("Cost(%d, %d): %d, %v of %v", a, b, cost, ok, *j)
			}
		}
		if l := g.Out(a); !slices.Equal(l, out) {
			t.Fatalf("Out(%d): %v of %v", a, l, *j)
		}
	}
}

// farther fails the test, if a graph's walks aren't the judge's.
func farther(t *testing.T, g *Graph[int], j *judge) {
	t.Helper()
	for a := range j.is {
		best, costs := j.best(a)
		if got := g.Costs(a); !maps.Equal(got, costs) {
			t.Fatalf("Costs(%d): %v, not %v of %v", a, got, costs, *j)
		}
		if got := g.Reach(a); !slices.Equal(got, slices.Sorted(maps.Keys(costs))) {
			t.Fatalf("Reach(%d): %v of %v", a, got, *j)
		}
		for b := range j.is {
			l, cost, ok := g.Walk(a, b)
			if want, is := best[b]; !slices.Equal(l, want) || cost != costs[b] || ok != is {
				t.Fatalf("Walk(%d, %d): %v, %d, %v, not %v of %v", a, b, l, cost, ok, want, *j)
			}
		}
	}
}

// shaped fails the test, if a graph's parts, its order and its ring aren't the judge's.
func shaped(t *testing.T, g *Graph[int], j *judge) {
	t.Helper()
	if got, want := g.Parts(), j.parts(); !slices.EqualFunc(got, want, slices.Equal[[]int]) {
		t.Fatalf("Parts: %v, not %v of %v", got, want, *j)
	}
	order, ok := g.Order()
	if want, is := j.order(); !slices.Equal(order, want) || ok != is {
		t.Fatalf("Order: %v, %v, not %v of %v", order, ok, want, *j)
	}
	ring := g.Ring()
	if want := j.ring(); !slices.Equal(ring, want) {
		t.Fatalf("Ring: %v, not %v of %v", ring, want, *j)
	}
	if ok == (len(ring) > 0) {
		t.Fatalf("an order, %v, and the ring %v of %v", ok, ring, *j)
	}
}

// follows fails the test, if what follows doesn't hold of a graph: parts are who reach each other, and costs keep to the triangle.
func follows(t *testing.T, g *Graph[int]) {
	t.Helper()
	part := map[int]int{}
	for i, l := range g.Parts() {
		for _, a := range l {
			part[a] = i
		}
	}
	for _, a := range g.Nodes() {
		from := g.Costs(a)
		for _, b := range g.Nodes() {
			back := g.Costs(b)
			_, there := from[b]
			if _, again := back[a]; (part[a] == part[b]) != (there && again) {
				t.Fatalf("%d and %d: parts %v, costs %v and %v", a, b, g.Parts(), from, back)
			}
			for c, more := range back {
				if whole, is := from[c]; there && (!is || whole > from[b]+more) {
					t.Fatalf("from %d over %d to %d: %d", a, b, c, whole)
				}
			}
		}
	}
}

// each does something to each graph of n nodes with as many kinds of edges as said: none, and costs from 0 on. Those of a node to itself are left out, if so said.
func each(n, kinds int, selves bool, do func(g *Graph[int], j *judge)) {
	var pairs [][2]int
	for a := range n {
		for b := range n {
			if a != b || selves {
				pairs = append(pairs, [2]int{a, b})
			}
		}
	}
	for kind := make([]int, len(pairs)); ; {
		g, j := New[int](), newJudge(n)
		for a := range n {
			g.Node(a)
			j.is[a] = true
		}
		for i, p := range pairs {
			if kind[i] > 0 {
				g.Edge(p[0], p[1], kind[i]-1)
				j.edge(p[0], p[1], kind[i]-1)
			}
		}
		do(g, j)
		i := slices.IndexFunc(kind, func(k int) bool { return k < kinds-1 })
		if i < 0 {
			return
		}
		clear(kind[:i])
		kind[i]++
	}
}

// TestAllCostsOfThree: every graph of three nodes with edges of the costs 0 and 1.
func TestAllCostsOfThree(t *testing.T) {
	each(3, 3, true, func(g *Graph[int], j *judge) {
		plainly(t, g, j)
		farther(t, g, j)
		shaped(t, g, j)
		follows(t, g)
	})
}

// TestAllShapesOfFour: every graph of four nodes; where costs are told, without edges of a node to itself.
func TestAllShapesOfFour(t *testing.T) {
	each(4, 2, true, func(g *Graph[int], j *judge) {
		shaped(t, g, j)
	})
	each(4, 2, false, func(g *Graph[int], j *judge) {
		farther(t, g, j)
	})
}

// TestAllTurned: every graph of three nodes turned round has each edge the other way, and turned twice is as it was.
func TestAllTurned(t *testing.T) {
	each(3, 3, true, func(g *Graph[int], j *judge) {
		back := newJudge(3)
		for a := range 3 {
			back.is[a] = true
			for b := range 3 {
				back.costs[a][b] = j.costs[b][a]
			}
		}
		turned := g.Turned()
		plainly(t, turned, back)
		shaped(t, turned, back)
		plainly(t, turned.Turned(), j)
		plainly(t, g, j)
	})
}

// act does one and the same thing to a graph and to the judge.
func act(t *testing.T, g *Graph[int], j *judge, what, a, b, cost int) {
	t.Helper()
	was, want := false, false
	switch {
	case what < 1:
		was, want = g.Node(a), !j.is[a]
		j.is[a] = true
	case what < 3:
		was, want = g.Gone(a), j.gone(a)
	case what < 6:
		was, want = g.Cut(a, b), j.cut(a, b)
	case what < 7:
		was, want = g.Edge(a, b, -1-cost) == api.ErrRange, true
	case what < 8:
		was, want = g.Edge(a, b, 65537+cost) == api.ErrRange, true
	default:
		was, want = g.Edge(a, b, cost) == api.OK, true
		j.edge(a, b, cost)
	}
	if was != want {
		t.Fatalf("%d of %d, %d, %d: %v, and then %v", what, a, b, cost, was, *j)
	}
}

// TestLongRun: a long run of changes of a graph of up to six nodes, each time held against the judge.
func TestLongRun(t *testing.T) {
	const n = 6
	g, j := New[int](), newJudge(n)
	state := uint32(1)
	next := func(below int) int {
		state = state*1664525 + 1013904223
		return int(state>>8) % below
	}
	for range 8000 {
		a, b, cost := next(n), next(n), next(4)
		act(t, g, j, next(18), a, b, cost)
		plainly(t, g, j)
		farther(t, g, j)
		shaped(t, g, j)
	}
}
