package graph

import (
	"maps"
	"slices"
)

// take takes a away, and tells which nodes have lost an edge by that.
func (g *Graph[N]) take(a N) []N {
	l := slices.Collect(maps.Keys(g.out[a]))
	l = slices.AppendSeq(l, maps.Keys(g.in[a]))
	g.Gone(a)
	return l
}

// shed takes away what is on no ring for want of an edge to it or from it, among some nodes and whatever loses one by that.
func (g *Graph[N]) shed(row []N) {
	for len(row) > 0 {
		a := row[len(row)-1]
		row = row[:len(row)-1]
		if len(g.out[a]) == 0 || len(g.in[a]) == 0 {
			row = append(row, g.take(a)...)
		}
	}
}

// steps is of each node that comes to a in at most most steps how few it takes.
func (g *Graph[N]) steps(a N, most int) map[N]int {
	steps := map[N]int{a: 0}
	row := []N{a}
	for i := 0; i < len(row) && steps[row[i]] < most; i++ {
		for b := range g.in[row[i]] {
			if _, is := steps[b]; !is {
				steps[b] = steps[row[i]] + 1
				row = append(row, b)
			}
		}
	}
	return steps
}

// ringBy is the best ring that a is on, told from a on; none, if it has more than most nodes.
func (g *Graph[N]) ringBy(a N, most int) []N {
	steps := g.steps(a, most-1)
	var second N
	found := false
	for _, b := range g.Out(a) {
		n, is := steps[b]
		if is && (!found || n < steps[second]) {
			second, found = b, true
		}
	}
	if !found {
		return nil
	}
	back := g.follow(second, func(at, next N) bool {
		n, is := steps[next]
		return is && n == steps[at]-1
	})
	return slices.Insert(back[:len(back)-1], 0, a)
}

// Ring is the least ring.
func (g *Graph[N]) Ring() []N {
	if g == nil {
		return nil
	}
	var best []N
	nodes, left := g.Nodes(), g.copied()
	left.shed(slices.Clone(nodes))
	most := len(nodes)
	for _, a := range nodes {
		if most == 0 {
			break
		}
		if !left.has(a) {
			continue
		}
		// Lesser nodes are gone: a is the least of its rings, and one that is better than the best so far has fewer nodes.
		if l := left.ringBy(a, most); l != nil {
			best, most = l, len(l)-1
		}
		left.shed(left.take(a))
	}
	return best
}
