package graph

import (
	"cmp"
	"slices"

	"whirligig/heap"
)

// visit is a node that is to be come to, or, once all behind it was come to, to be left.
type visit[N cmp.Ordered] struct {
	node  N
	leave bool
}

// leaving is all nodes in the order in which somebody leaves them who goes as deep as edges lead. What waits stands in a list, since a function that calls itself would run out of room on long walks.
func (g *Graph[N]) leaving() []N {
	var l []N
	seen := map[N]struct{}{}
	for _, a := range g.Nodes() {
		for row := []visit[N]{{node: a}}; len(row) > 0; {
			v := row[len(row)-1]
			row = row[:len(row)-1]
			if v.leave {
				l = append(l, v.node)
				continue
			}
			if _, was := seen[v.node]; was {
				continue
			}
			seen[v.node] = struct{}{}
			row = append(row, visit[N]{v.node, true})
			for b := range g.out[v.node] {
				row = append(row, visit[N]{node: b})
			}
		}
	}
	return l
}

// mark gives a, and all that lead to it over nodes without a number, a number.
func (g *Graph[N]) mark(a N, number int, numbers map[N]int) {
	numbers[a] = number
	for row := []N{a}; len(row) > 0; {
		b := row[len(row)-1]
		row = row[:len(row)-1]
		for c := range g.in[b] {
			if _, is := numbers[c]; !is {
				numbers[c] = number
				row = append(row, c)
			}
		}
	}
}

// numbers is of each node the number of its part. The one that is left last begins it: whoever leads to it and has no number yet is one that it comes to.
func (g *Graph[N]) numbers() map[N]int {
	numbers := map[N]int{}
	for i, a := range slices.Backward(g.leaving()) {
		if _, is := numbers[a]; !is {
			g.mark(a, i, numbers)
		}
	}
	return numbers
}

// Parts is the sets of nodes each of which comes to each other one.
func (g *Graph[N]) Parts() [][]N {
	if g == nil {
		return nil
	}
	var parts [][]N
	numbers := g.numbers()
	places := map[int]int{}
	for _, a := range g.Nodes() {
		i, is := places[numbers[a]]
		if !is {
			i = len(parts)
			places[numbers[a]] = i
			parts = append(parts, nil)
		}
		parts[i] = append(parts[i], a)
	}
	return parts
}

// Order is the nodes such that no edge goes back.
func (g *Graph[N]) Order() ([]N, bool) {
	if g == nil {
		return nil, false
	}
	var l []N
	open := map[N]int{}
	next := heap.New[N](cmp.Less[N])
	for a, row := range g.in {
		open[a] = len(row)
		if len(row) == 0 {
			next.Set(a, a)
		}
	}
	for a, _, is := next.Pop(); is; a, _, is = next.Pop() {
		l = append(l, a)
		for b := range g.out[a] {
			open[b]--
			if open[b] == 0 {
				next.Set(b, b)
			}
		}
	}
	if len(l) < len(g.out) {
		return nil, false
	}
	return l, true
}
