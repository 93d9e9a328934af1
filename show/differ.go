package show

import (
	"slices"

	"whirligig/api"
)

// Same tells whether two configurations are the same.
func Same(a, b api.Config) bool {
	return slices.EqualFunc(a.Lists, b.Lists, sameList) &&
		slices.EqualFunc(a.Maps, b.Maps, sameMap) &&
		slices.EqualFunc(a.Routers, b.Routers, sameRouter)
}

// sameList tells whether two prefix lists are the same.
func sameList(a, b api.List) bool {
	return a.Name == b.Name && slices.Equal(a.Rules, b.Rules)
}

// sameMap tells whether two route maps are the same.
func sameMap(a, b api.Map) bool {
	return a.Name == b.Name && slices.EqualFunc(a.Clauses, b.Clauses, sameClause)
}

// sameClause tells whether two clauses are the same.
func sameClause(a, b api.Clause) bool {
	return a.N == b.N && a.Permit == b.Permit && a.Match == b.Match && sameSet(a.Set, b.Set)
}

// sameSet tells whether two clauses change the same, in the same words.
func sameSet(a, b api.Set) bool {
	return a.Pref == b.Pref && a.Med == b.Med && a.Origin == b.Origin && a.Clear == b.Clear &&
		slices.Equal(a.Add, b.Add) &&
		slices.Equal(a.Del, b.Del) &&
		slices.Equal(a.Prepend, b.Prepend)
}

// sameRouter tells whether two routers are the same.
func sameRouter(a, b api.Router) bool {
	return a.Name == b.Name && a.AS == b.AS && a.ID == b.ID &&
		slices.Equal(a.Networks, b.Networks) &&
		slices.Equal(a.Neighbors, b.Neighbors) &&
		slices.Equal(a.Links, b.Links)
}

// Differ tells in what two configurations differ.
func Differ(a, b api.Config) []string {
	return slices.Concat(
		differ("prefix-list ", a.Lists, b.Lists, listName, sameList),
		differ("route-map ", a.Maps, b.Maps, mapName, sameMap),
		differ("router ", a.Routers, b.Routers, routerName, sameRouter),
	)
}

// differ is the names, with a word ahead, of things that are in one list alone, or aren't the same in both.
func differ[T any](word string, a, b []T, name func(T) string, same func(x, y T) bool) []string {
	inA, inB := firsts(a, name), firsts(b, name)
	var told []string
	for _, n := range names(slices.Concat(a, b), name) {
		x, isA := inA[n]
		y, isB := inB[n]
		if !isA || !isB || !same(x, y) {
			told = append(told, word+n)
		}
	}
	return told
}

// firsts is the first thing of each name.
func firsts[T any](l []T, name func(T) string) map[string]T {
	first := make(map[string]T, len(l))
	for _, x := range l {
		if _, is := first[name(x)]; !is {
			first[name(x)] = x
		}
	}
	return first
}

// names is the names of things, rising, each once.
func names[T any](l []T, name func(T) string) []string {
	all := make([]string, 0, len(l))
	for _, x := range l {
		all = append(all, name(x))
	}
	slices.Sort(all)
	return slices.Compact(all)
}
