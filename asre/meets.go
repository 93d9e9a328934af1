package asre

import (
	"slices"

	"whirligig/api"
	"whirligig/aspath"
)

// places is a set of places of a path: bit i is the place ahead of its number i, and one more is behind the last one.
type places uint32

// at is the set of one place.
func at(i int) places { return 1 << i }

// Meets tells whether a path meets an expression.
func (x *Expr) Meets(p []int) bool {
	if x == nil || !aspath.May(p) {
		return false
	}
	all := at(len(p)+1) - 1
	from, to := all, all
	if x.first {
		from = at(0)
	}
	if x.last {
		to = at(len(p))
	}
	return x.whole.ends(p, from)&to != 0
}

// Whole tells whether all of a path meets an expression's choice.
func (x *Expr) Whole(p []int) bool {
	return x != nil && aspath.May(p) && x.whole.ends(p, at(0))&at(len(p)) != 0
}

// ends is the places where numbers that meet a node can end, if they begin at one of some places.
func (n node) ends(p []int, from places) places {
	switch n.kind {
	case choice:
		var ends places
		for _, u := range n.under {
			ends |= u.ends(p, from)
		}
		return ends
	case row:
		for _, u := range n.under {
			from = u.ends(p, from)
		}
		return from
	case star:
		return from | n.under[0].often(p, from)
	case plus:
		return n.under[0].often(p, from)
	case maybe:
		return from | n.under[0].ends(p, from)
	}
	return n.step(p, from)
}

// often is the places where numbers that meet a node once or more can end. It goes on from new places alone, so it ends.
func (n node) often(p []int, from places) places {
	var ends places
	for from != 0 {
		from = n.ends(p, from) &^ ends
		ends |= from
	}
	return ends
}

// step is the places behind one number that meets a node.
func (n node) step(p []int, from places) places {
	var ends places
	for i, as := range p {
		if from&at(i) != 0 && n.has(as) {
			ends |= at(i + 1)
		}
	}
	return ends
}

// has tells whether one number meets a node.
func (n node) has(as int) bool {
	within := func(q part) bool { return q.from <= as && as <= q.to }
	return n.kind == dot || slices.ContainsFunc(n.parts, within)
}

// Least is a shortest path that meets an expression's choice as a whole.
func (x *Expr) Least(most int) ([]int, bool) {
	if x == nil {
		return nil, false
	}
	p := x.whole.least()
	if len(p) > min(max(most, 0), api.MaxPath) {
		return nil, false
	}
	return p, true
}

// least is the least of the shortest numbers that meet a node, however many these are.
func (n node) least() []int {
	switch n.kind {
	case dot:
		return []int{1}
	case choice:
		return leastOf(n.under)
	case row: // as short as can be, numbers are parted among the items in one way alone
		var p []int
		for _, u := range n.under {
			p = append(p, u.least()...)
		}
		return p
	case star, maybe:
		return nil
	case plus:
		return n.under[0].least()
	}
	lower := func(a, b part) int { return a.from - b.from }
	return []int{slices.MinFunc(n.parts, lower).from}
}

// leastOf is the least numbers that meet one of some rows.
func leastOf(rows []node) []int {
	var best []int
	for i, u := range rows {
		if p := u.least(); i == 0 || aspath.Compare(p, best) < 0 {
			best = p
		}
	}
	return best
}
