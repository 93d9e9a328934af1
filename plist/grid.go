package plist

import (
	"slices"

	"whirligig/addr"
	"whirligig/api"
)

// most is how many columns a grid may have: one at 0, and two for each rule of two lists.
const most = 1 + 2*2*api.MaxRules

// grid is addresses, rising, each of which stands for all from it up to the next one: with as many bits, these meet the same rules.
type grid struct {
	columns [most]uint32
	n       int
}

// lay is the grid of the rules of one list or of two.
func lay(lists ...[]api.Range) grid {
	g := grid{n: 1}
	for _, l := range lists {
		for _, r := range l {
			g.columns[g.n] = r.P.Addr
			g.columns[g.n+1] = addr.Last(r.P) + 1 // behind the last address it is 0 again, which is there anyway
			g.n += 2
		}
	}
	slices.Sort(g.columns[:g.n])
	return g
}

// first is the least prefix, by bits, then by address, of which is holds; false, if there is none.
func (g grid) first(is func(api.Prefix) bool) (api.Prefix, bool) {
	least, found := api.Prefix{}, false
search:
	for bits := range width + 1 {
		for _, column := range g.columns[:g.n] {
			p := api.Prefix{Addr: column, Bits: bits}
			if addr.May(p) && is(p) {
				least, found = p, true
				break search
			}
		}
	}
	return least, found
}

// Idle tells whether a rule is idle.
func Idle(l []api.Range, i int) (bool, api.Errno) {
	if e := May(l); e != api.OK {
		return false, e
	}
	if i < 0 || i >= len(l) {
		return false, api.ErrRange
	}
	return idle(l, i), api.OK
}

// idle tells whether rule i of a list is idle.
func idle(l []api.Range, i int) bool {
	_, found := lay(l).first(func(p api.Prefix) bool { return meets(l, p) == i })
	return !found
}

// Differ is a prefix that one list lets pass, and another one doesn't.
func Differ(a, b []api.Range) (api.Prefix, bool, api.Errno) {
	if e := May(a); e != api.OK {
		return api.Prefix{}, false, e
	}
	if e := May(b); e != api.OK {
		return api.Prefix{}, false, e
	}
	p, found := lay(a, b).first(func(p api.Prefix) bool {
		return passes(a, meets(a, p)) != passes(b, meets(b, p))
	})
	return p, found, api.OK
}
