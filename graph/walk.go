package graph

import (
	"maps"
	"slices"

	"whirligig/heap"
)

// rank is how good a walk is, as far as it hangs on numbers.
type rank struct{ cost, nodes int }

// ahead tells whether a walk of one rank is better than one of another.
func ahead(a, b rank) bool {
	return a.cost < b.cost || a.cost == b.cost && a.nodes < b.nodes
}

// ranks is of each node that a reaches the rank of the best walk to it.
func (g *Graph[N]) ranks(a N) map[N]rank {
	best := map[N]rank{}
	if !g.has(a) {
		return best
	}
	next := heap.New[N](ahead)
	next.Set(a, rank{nodes: 1})
	for b, r, is := next.Pop(); is; b, r, is = next.Pop() {
		best[b] = r
		for c, cost := range g.out[b] {
			further := rank{r.cost + cost, r.nodes + 1}
			_, done := best[c]
			former, waits := next.Rank(c)
			if !done && (!waits || ahead(further, former)) {
				next.Set(c, further)
			}
		}
	}
	return best
}

// Costs is the least costs of walks from a node.
func (g *Graph[N]) Costs(a N) map[N]int {
	if !g.has(a) {
		return nil
	}
	best, costs := g.ranks(a), map[N]int{}
	// A float's two zeros are one node, which ranks may name by either: it is told as the graph has it.
	for b := range g.out {
		if r, is := best[b]; is {
			costs[b] = r.cost
		}
	}
	return costs
}

// Reach is where walks go from a node.
func (g *Graph[N]) Reach(a N) []N {
	return slices.Sorted(maps.Keys(g.Costs(a)))
}

// follow goes from a on, at each node to the least one to which an edge goes and that fits behind it, till there is none.
func (g *Graph[N]) follow(a N, fits func(at, next N) bool) []N {
	l := []N{a}
	for {
		out := g.Out(a)
		i := slices.IndexFunc(out, func(b N) bool { return fits(a, b) })
		if i < 0 {
			return l
		}
		a = out[i]
		l = append(l, a)
	}
}

// Walk is the best walk from one node to another one.
func (g *Graph[N]) Walk(a, b N) ([]N, int, bool) {
	if g == nil {
		return nil, 0, false
	}
	rest := g.mirror().ranks(b)
	whole, is := rest[a]
	if !is {
		return nil, 0, false
	}
	// All best walks have the same number of nodes, so that the least list has the least node at each place.
	l := g.follow(a, func(at, next N) bool {
		r, is := rest[next]
		cost, _ := g.Cost(at, next)
		return is && rest[at] == rank{r.cost + cost, r.nodes + 1}
	})
	return l, whole.cost, true
}
