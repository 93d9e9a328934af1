package topo

import (
	"cmp"
	"slices"

	"whirligig/api"
)

// first is the first fault that is told of things, one after the other.
func first[T any](l []T, look func(T) Fault) Fault {
	for _, x := range l {
		if f := look(x); f != (Fault{}) {
			return f
		}
	}
	return Fault{}
}

// fault is the first fault of all: those of maps count ahead of those of routers.
func (n *Net) fault(maps []api.Map) Fault {
	return cmp.Or(first(maps, n.mapFault), first(n.routers, n.routerFault))
}

// mapFault is a map's first fault.
func (n *Net) mapFault(m api.Map) Fault {
	return first(m.Clauses, func(c api.Clause) Fault {
		name := c.Match.List
		if _, is := n.lists[name]; name == "" || is {
			return Fault{}
		}
		return Fault{Name: name, E: api.ErrName}
	})
}

// routerFault is a router's first fault.
func (n *Net) routerFault(r api.Router) Fault {
	return cmp.Or(
		n.idFault(r),
		first(r.Neighbors, func(b api.Neighbor) Fault { return n.neighborFault(r, b) }),
		first(r.Links, func(l api.Link) Fault { return n.linkFault(r, l) }),
	)
}

// idFault is the fault of a router whose id is one's ahead.
func (n *Net) idFault(r api.Router) Fault {
	ahead := n.routers[:n.numbers[r.Name]-1]
	like := func(a api.Router) bool { return a.ID == r.ID }
	if slices.ContainsFunc(ahead, like) {
		return Fault{r.Name, r.Name, api.ErrTwice}
	}
	return Fault{}
}

// neighborFault is the first fault of one neighbor of a router.
func (n *Net) neighborFault(r api.Router, b api.Neighbor) Fault {
	there, is := n.router(b.Name)
	back := func(other api.Neighbor) bool { return other.Name == r.Name }
	switch {
	case !is:
		return Fault{r.Name, b.Name, api.ErrName}
	case b.Name == r.Name:
		return Fault{r.Name, b.Name, api.ErrSelf}
	case n.lacks(b.Import):
		return Fault{r.Name, b.Import, api.ErrName}
	case n.lacks(b.Export):
		return Fault{r.Name, b.Export, api.ErrName}
	case b.Client && there.AS != r.AS:
		return Fault{r.Name, b.Name, api.ErrState}
	case !slices.ContainsFunc(there.Neighbors, back):
		return Fault{r.Name, b.Name, api.ErrPair}
	}
	return Fault{}
}

// linkFault is the first fault of one link of a router.
func (n *Net) linkFault(r api.Router, l api.Link) Fault {
	there, is := n.router(l.Name)
	back := api.Link{Name: r.Name, Cost: l.Cost}
	switch {
	case !is:
		return Fault{r.Name, l.Name, api.ErrName}
	case l.Name == r.Name:
		return Fault{r.Name, l.Name, api.ErrSelf}
	case there.AS != r.AS:
		return Fault{r.Name, l.Name, api.ErrState}
	case !slices.Contains(there.Links, back):
		return Fault{r.Name, l.Name, api.ErrPair}
	}
	return Fault{}
}

// router is the router of a name, in the network's own memory.
func (n *Net) router(name string) (api.Router, bool) {
	i, is := n.numbers[name]
	if !is {
		return api.Router{}, false
	}
	return n.routers[i-1], true
}

// lacks tells whether a map that is asked for isn't there; an empty name asks for none.
func (n *Net) lacks(name string) bool {
	_, is := n.maps[name]
	return name != "" && !is
}
