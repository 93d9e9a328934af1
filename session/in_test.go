package session

import (
	"testing"

	"whirligig/api"
)

// taking is what r1 of web makes of what a neighbor told, by a map of that name.
type taking struct {
	name    string
	imports string
	i       int
	a       api.Attr
	want    api.Attr
	why     Why
}

// taken holds that r1 makes just that of it.
func taken(t *testing.T, l []taking) {
	t.Helper()
	for _, x := range l {
		r, w := in(t, through(t, x.imports, "refuse"), 1, x.i, ten, x.a)
		who := 0
		if x.why == Fine {
			who = x.i
		}
		if w != x.why || !alike(r.Attr, x.want) || r.From != who {
			t.Errorf("%s: %v, %s, not %v, %s", x.name, r, Name(w), x.want, Name(x.why))
		}
	}
}

// fine is such as r1 takes as it is.
func fine(name string, i int, a api.Attr) taking { return taking{name, "", i, a, a, Fine} }

// loop is such as r1 knows by itself, or by its AS.
func loop(name string, i int, a api.Attr) taking { return taking{name, "", i, a, api.Attr{}, Loop} }

func TestTaken(t *testing.T) {
	var l []taking
	for i := 2; i <= 7; i++ {
		for _, a := range []api.Attr{
			full(), {}, {Pref: 100}, from(0), from(102), from(65535), path(), path(2), path(rising(2, 16)...),
			comms(noExport, noAdvertise, local), clusters(), clusters(1), clusters(rising(1, 8)...), clusters(100, 102),
			with(func(a *api.Attr) { a.Pref, a.Med = 0, 1<<20 }),
		} {
			l = append(l, fine("nothing of r1 in it", i, a))
		}
	}
	taken(t, l)
}

func TestLoop(t *testing.T) {
	var l []taking
	for i := 2; i <= 5; i++ {
		l = append(l,
			loop("From is its ID", i, from(101)),
			loop("its ID is in clusters", i, clusters(101)),
			loop("its ID is the first one", i, clusters(101, 5, 6)),
			loop("its ID is the last one", i, clusters(1, 2, 3, 4, 5, 6, 7, 101)),
			loop("both", i, with(func(a *api.Attr) { a.From, a.Clusters = 101, []int{101} })),
			fine("its AS, from within", i, path(1)),
			fine("its AS, and others", i, path(5, 1, 6)),
			fine("its ID as a number of an AS", i, path(101)),
			fine("its AS as an ID", i, with(func(a *api.Attr) { a.From, a.Clusters = 1, []int{1} })),
		)
	}
	for _, i := range []int{6, 7} {
		l = append(l,
			loop("its AS alone", i, path(1)),
			loop("its AS first", i, path(1, 5)),
			loop("its AS last", i, path(5, 6, 1)),
			loop("its AS within", i, path(5, 1, 6)),
			loop("its AS behind 15 others", i, path(append(rising(2, 15), 1)...)),
			fine("From is its ID, from outside", i, from(101)),
			fine("its ID is in clusters, from outside", i, clusters(8, 101)),
			fine("the teller's AS", i, path(i-4, i-4)),
			fine("its ID as a number of an AS", i, path(101)),
			fine("its AS as an ID", i, with(func(a *api.Attr) { a.From, a.Clusters = 1, []int{1} })),
		)
	}
	for _, x := range l { // a loop counts ahead of what the map says
		if x.why == Loop {
			x.imports = "refuse"
			l = append(l, x)
		}
	}
	taken(t, l)
}

func TestImportMap(t *testing.T) {
	changed := func(a *api.Attr) {
		a.Pref, a.Med, a.Origin, a.Comms = 300, 5, 2, []api.Comm{{AS: 1, N: 1}, {AS: 1, N: 2}}
	}
	var l []taking
	for i := 2; i <= 7; i++ {
		l = append(l,
			taking{"a change", "change", i, full(), with(changed), Fine},
			taking{"refused", "refuse", i, full(), api.Attr{}, Denied},
			taking{"a map of no clauses", "bare", i, full(), api.Attr{}, Denied},
			taking{"hushed", "hush", i, full(), comms(api.Comm{AS: 1, N: 1}, noExport, noAdvertise, local), Fine},
			taking{"a list that lets it pass", "tens", i, full(), full(), Fine},
			taking{"a list that doesn't", "nines", i, full(), api.Attr{}, Denied},
			taking{"a list of no rules", "barren", i, full(), api.Attr{}, Denied},
			taking{"a second list", "both", i, full(), with(func(a *api.Attr) { a.Med = 6 }), Fine},
			taking{"the path as it is", "five", i, full(), full(), Fine},
			taking{"another path", "five", i, path(6, 5), api.Attr{}, Denied},
			taking{"a path of 14", "longer", i, path(rising(20, 14)...), path(append([]int{7, 7}, rising(20, 14)...)...), Fine},
			taking{"a path of 15", "longer", i, path(rising(20, 15)...), api.Attr{}, Denied},
			taking{"a community", "tagged", i, full(), full(), Fine},
			taking{"no such community", "tagged", i, comms(), api.Attr{}, Denied},
		)
	}
	taken(t, l)
}
