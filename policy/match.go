package policy

import (
	"slices"

	"whirligig/addr"
	"whirligig/api"
	"whirligig/asre"
	"whirligig/attr"
	"whirligig/comm"
	"whirligig/plist"
)

// mayRoute tells whether a prefix and attributes may be.
func mayRoute(p api.Prefix, a api.Attr) bool { return addr.May(p) && attr.May(a) }

// Met tells whether a clause is met.
func Met(c api.Clause, lists []api.List, p api.Prefix, a api.Attr) bool {
	return mayRoute(p, a) && metBy(lists, p, a)(c)
}

// metBy is the question whether a clause is met by a prefix and attributes that may be.
func metBy(lists []api.List, p api.Prefix, a api.Attr) func(c api.Clause) bool {
	lets := func(name string) bool {
		passes, _ := plist.Lets(rules(lists, name), p)
		return passes
	}
	goes := func(expression string) bool {
		x, e := asre.Parse(expression)
		return e == api.OK && x.Meets(a.Path)
	}
	has := func(c api.Comm) bool { return comm.Has(a.Comms, c) }
	return func(c api.Clause) bool { return holds(c.Match, lets, goes, has) }
}

// rules is the rules of the first list of a name. A list that isn't there has none, so that it lets nothing pass.
func rules(lists []api.List, name string) []api.Range {
	i := slices.IndexFunc(lists, func(l api.List) bool { return l.Name == name })
	if i < 0 {
		return nil
	}
	return lists[i].Rules
}

// holds tells whether all that is asked for is so: of each kind a function tells that, and of what isn't asked for none is asked.
func holds(m api.Match, lets, goes func(string) bool, has func(api.Comm) bool) bool {
	return (m.List == "" || lets(m.List)) &&
		(m.Path == "" || goes(m.Path)) &&
		(m.Comm.AS == 0 || has(m.Comm))
}

// asksNothing tells whether a clause is met even where nothing is so that one can ask for.
func asksNothing(c api.Clause) bool {
	return holds(c.Match, never[string], never[string], never[api.Comm])
}

// never tells of nothing that it is so.
func never[T any](T) bool { return false }
