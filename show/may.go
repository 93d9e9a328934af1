package show

import (
	"slices"

	"whirligig/addr"
	"whirligig/api"
	"whirligig/asre"
	"whirligig/cfg"
	"whirligig/comm"
	"whirligig/plist"
)

// maxClause is the greatest number of a clause.
const maxClause = 65535

// May tells whether a configuration may be. How long its text is doesn't matter here.
func May(c api.Config) bool {
	return named(c.Lists, api.MaxLists, listName, listMay) &&
		named(c.Maps, api.MaxLists, mapName, mapMay) &&
		named(c.Routers, api.MaxNodes, routerName, routerMay)
}

// few tells whether things are no more than the most, and each may be.
func few[T any](l []T, most int, may func(T) bool) bool {
	mayNot := func(x T) bool { return !may(x) }
	return len(l) <= most && !slices.ContainsFunc(l, mayNot)
}

// unlike tells whether no two of a few things have one key.
func unlike[T any, K comparable](l []T, key func(T) K) bool {
	for i, x := range l {
		like := func(y T) bool { return key(x) == key(y) }
		if slices.ContainsFunc(l[:i], like) {
			return false
		}
	}
	return true
}

// named tells whether things with names are no more than the most, each may be, and their names are unlike.
func named[T any](l []T, most int, name func(T) string, may func(T) bool) bool {
	both := func(x T) bool { return cfg.Name(name(x)) && may(x) }
	return few(l, most, both) && unlike(l, name)
}

// The names by which parts are told apart.
func listName(l api.List) string         { return l.Name }
func mapName(m api.Map) string           { return m.Name }
func routerName(r api.Router) string     { return r.Name }
func neighborName(n api.Neighbor) string { return n.Name }
func linkName(l api.Link) string         { return l.Name }

// itself is a prefix as its own key.
func itself(p api.Prefix) api.Prefix { return p }

// within tells whether a number is from one to another one.
func within(n, from, to int) bool { return from <= n && n <= to }

// asMay tells whether a number is one of an AS.
func asMay(n int) bool { return within(n, 1, api.MaxAS) }

// mayLack tells whether a text is a name, or none at all.
func mayLack(name string) bool { return name == "" || cfg.Name(name) }

// listMay tells whether a prefix list has rules that may be.
func listMay(l api.List) bool { return plist.May(l.Rules) == api.OK }

// mapMay tells whether a route map has clauses that may be.
func mapMay(m api.Map) bool {
	return few(m.Clauses, api.MaxRules, clauseMay) && rise(m.Clauses)
}

// rise tells whether each clause's number is above that of the one ahead.
func rise(l []api.Clause) bool {
	for i, c := range l {
		if i > 0 && c.N <= l[i-1].N {
			return false
		}
	}
	return true
}

// clauseMay tells whether a clause may be, whatever is ahead of it.
func clauseMay(c api.Clause) bool {
	return within(c.N, 1, maxClause) && matchMay(c.Match) && setMay(c.Set)
}

// matchMay tells whether a clause can ask for something.
func matchMay(m api.Match) bool {
	_, e := asre.Parse(m.Path) // an empty text is an expression, too
	return mayLack(m.List) && e == api.OK && (m.Comm == api.Comm{} || comm.May(m.Comm))
}

// setMay tells whether a clause can change something so. Communities may be there twice, in any order.
func setMay(s api.Set) bool {
	return within(s.Pref, untold, api.MaxPref) &&
		within(s.Med, untold, api.MaxMed) &&
		within(s.Origin, untold, api.Origins-1) &&
		few(s.Add, api.MaxComms, comm.May) &&
		few(s.Del, api.MaxComms, comm.May) &&
		few(s.Prepend, api.MaxPath, asMay)
}

// routerMay tells whether a router may be, but for its name.
func routerMay(r api.Router) bool {
	return asMay(r.AS) && asMay(r.ID) &&
		few(r.Networks, api.MaxRules, addr.May) && unlike(r.Networks, itself) &&
		named(r.Neighbors, api.MaxRules, neighborName, neighborMay) &&
		named(r.Links, api.MaxRules, linkName, linkMay)
}

// neighborMay tells whether a neighbor may be, but for its name.
func neighborMay(n api.Neighbor) bool { return mayLack(n.Import) && mayLack(n.Export) }

// linkMay tells whether a link may be, but for its name.
func linkMay(l api.Link) bool { return within(l.Cost, 0, api.MaxCost) }
