package session

import (
	"slices"

	"whirligig/api"
	"whirligig/aspath"
	"whirligig/attr"
	"whirligig/comm"
	"whirligig/topo"
)

// Out is what a router tells of a route.
func Out(n *topo.Net, i, k int, p api.Prefix, r Route) (api.Attr, Why) {
	if w := withheld(n, i, k, p, r); w != Fine {
		return api.Attr{}, w
	}
	to, _ := n.Peer(i, k)
	told, passes := mapped(n, to.Export, p, prepared(n, i, to.Outer, r))
	if !passes {
		return api.Attr{}, Denied
	}
	if !to.Outer {
		return told, Fine
	}
	path, e := aspath.Prepend(told.Path, n.Router(i).AS, 1)
	if e != api.OK {
		return api.Attr{}, TooLong
	}
	told.Path = path
	return told, Fine
}

// withheld is why a route isn't told, whatever the export map says.
func withheld(n *topo.Net, i, k int, p api.Prefix, r Route) Why {
	to, is := n.Peer(i, k)
	from, had := n.Peer(i, r.From)
	inner := is && had && !to.Outer && !from.Outer
	switch {
	case !is:
		return NoSession
	case !mayRoute(p, r.Attr) || r.From != 0 && !had:
		return Denied
	case r.From == k:
		return Back
	case hushed(r.Attr.Comms, to.Outer):
		return NoTell
	case inner && !to.Client && !from.Client:
		return Split
	case inner && !fits(n.Router(i).ID, r.Attr.Clusters):
		return TooLong
	}
	return Fine
}

// hushed tells whether communities ask for telling nothing to an outer, or to an inner neighbor.
func hushed(l []api.Comm, outer bool) bool {
	return comm.Has(l, comm.NoAdvertise()) ||
		outer && (comm.Has(l, comm.NoExport()) || comm.Has(l, comm.Local()))
}

// fits tells whether an ID can stand ahead of clusters.
func fits(id int, clusters []int) bool {
	return len(clusters) < api.MaxNodes && !slices.Contains(clusters, id)
}

// prepared is what a router hands to its export map of a route that it doesn't withhold.
func prepared(n *topo.Net, i int, outer bool, r Route) api.Attr {
	if outer {
		return outward(r)
	}
	if from, had := n.Peer(i, r.From); !had || from.Outer {
		return r.Attr
	}
	return reflected(r.Attr, n.Router(r.From).ID, n.Router(i).ID)
}

// outward is a route's attributes without what counts in its AS alone. A Med goes as far as the next AS, and not beyond it.
func outward(r Route) api.Attr {
	a := r.Attr
	a.Pref = attr.Plain().Pref
	if r.From != 0 {
		a.Med = 0
	}
	a.From, a.Clusters = 0, nil
	return a
}

// reflected is attributes that came from one inner router and go on to another one, by the IDs of the one from whom they came and of the one who tells them.
func reflected(a api.Attr, from, teller int) api.Attr {
	if a.From == 0 {
		a.From = from
	}
	a.Clusters = ahead(teller, a.Clusters)
	return a
}

// ahead is a number and a list behind it, in memory of its own.
func ahead(n int, l []int) []int {
	whole := make([]int, len(l)+1)
	whole[0] = n
	copy(whole[1:], l)
	return whole
}
