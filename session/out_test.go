package session

import (
	"slices"
	"testing"

	"whirligig/api"
)

// telling is what r1 of web tells a neighbor of a route, by a map of that name.
type telling struct {
	name   string
	export string
	k      int
	r      Route
	want   api.Attr
	why    Why
}

// told holds that r1 tells just that.
func told(t *testing.T, l []telling) {
	t.Helper()
	for _, x := range l {
		a, w := out(t, through(t, "refuse", x.export), 1, x.k, ten, x.r)
		if w != x.why || !alike(a, x.want) {
			t.Errorf("%s: %v, %s, not %v, %s", x.name, a, Name(w), x.want, Name(x.why))
		}
	}
}

func TestToldOutside(t *testing.T) {
	l := []telling{
		{"its own one", "", 6, Route{full(), 0}, outside(func(a *api.Attr) { a.Med = 7 }), Fine},
		{"its own one, plain", "", 6, Route{api.Attr{Pref: 100}, 0}, api.Attr{Pref: 100, Path: []int{1}}, Fine},
		{"of no pref", "", 6, Route{api.Attr{}, 0}, api.Attr{Pref: 100, Path: []int{1}}, Fine},
		{"with its own AS in the path", "", 6, Route{path(1, 2), 2}, outside(func(a *api.Attr) { a.Path = []int{1, 1, 2} }), Fine},
		{"8 clusters", "", 6, Route{clusters(rising(1, 8)...), 2}, outside(same), Fine},
		{"8 clusters of a client", "", 6, Route{clusters(rising(1, 8)...), 4}, outside(same), Fine},
		{"its ID in clusters", "", 6, Route{clusters(101), 2}, outside(same), Fine},
		{"From is its ID", "", 6, Route{from(101), 2}, outside(same), Fine},
		{"a path of 15", "", 6, Route{path(rising(20, 15)...), 2}, outside(func(a *api.Attr) { a.Path = append([]int{1}, rising(20, 15)...) }), Fine},
		{"a path of 16", "", 6, Route{path(rising(20, 16)...), 2}, api.Attr{}, TooLong},
		{"its own one, of 16", "", 7, Route{path(rising(20, 16)...), 0}, api.Attr{}, TooLong},
		{"a path of 16 and 8 clusters", "", 7, Route{with(func(a *api.Attr) { a.Path, a.Clusters = rising(20, 16), rising(1, 8) }), 2}, api.Attr{}, TooLong},
		{"back", "", 6, Route{full(), 6}, api.Attr{}, Back},
	}
	for _, had := range []int{2, 3, 4, 5, 7} {
		l = append(l, telling{"one that it has from another one", "", 6, Route{full(), had}, outside(same), Fine})
	}
	told(t, l)
}

func TestToldInside(t *testing.T) {
	var l []telling
	add := func(name string, k int, r Route, want api.Attr) {
		l = append(l, telling{name, "", k, r, want, Fine})
	}
	for k := 2; k <= 5; k++ {
		for _, had := range []int{0, 6, 7} {
			for _, a := range []api.Attr{full(), {}, from(0), from(101), clusters(), clusters(101), clusters(rising(1, 8)...), path(), path(1), path(rising(1, 16)...)} {
				add("no inner one had it", k, Route{a, had}, a)
			}
		}
	}
	for _, pass := range [][2]int{{2, 4}, {3, 5}, {4, 2}, {5, 3}, {4, 5}, {5, 4}} {
		had, k := pass[0], pass[1]
		add("an inner one brought it", k, Route{full(), had}, clusters(101, 8))
		add("no From", k, Route{from(0), had}, with(func(a *api.Attr) { a.From, a.Clusters = 100+had, []int{101, 8} }))
		add("no clusters", k, Route{clusters(), had}, clusters(101))
		add("7 clusters", k, Route{clusters(rising(1, 7)...), had}, clusters(append([]int{101}, rising(1, 7)...)...))
		add("the other one's ID in clusters", k, Route{clusters(100+had, 100+k), had}, clusters(101, 100+had, 100+k))
		add("a path of 16", k, Route{path(rising(1, 16)...), had}, with(func(a *api.Attr) { a.Path, a.Clusters = rising(1, 16), []int{101, 8} }))
		add("From is its ID", k, Route{from(101), had}, with(func(a *api.Attr) { a.From, a.Clusters = 101, []int{101, 8} }))
		for _, c := range [][]int{rising(1, 8), rising(94, 8), {101}, {8, 101}, {101, 8}} {
			l = append(l, telling{"no room for its ID", "", k, Route{clusters(c...), had}, api.Attr{}, TooLong})
		}
	}
	told(t, l)
}

func TestSplit(t *testing.T) {
	n := network(t, web)
	for _, k := range []int{2, 3, 4, 5} {
		for _, had := range []int{2, 3, 4, 5} {
			for _, a := range []api.Attr{full(), {}, clusters(101), clusters(rising(1, 8)...), comms(noAdvertise)} {
				want := Fine
				switch {
				case had == k:
					want = Back
				case slices.Equal(a.Comms, []api.Comm{noAdvertise}):
					want = NoTell
				case k+had == 5: // r2 and r3: that r3 tells r1 as its client is nothing to r1
					want = Split
				case len(a.Clusters) == 8 || slices.Equal(a.Clusters, []int{101}):
					want = TooLong
				}
				if _, w := out(t, n, 1, k, ten, Route{a, had}); w != want {
					t.Errorf("from %d to %d, %v: %s, not %s", had, k, a, Name(w), Name(want))
				}
			}
		}
	}
	if a, w := out(t, n, 3, 1, ten, Route{full(), 0}); w != Fine || !alike(a, full()) {
		t.Errorf("its own one, to a client: %v, %s", a, Name(w))
	}
}

func TestNoTell(t *testing.T) {
	n := network(t, web)
	other := []api.Comm{{AS: 1, N: 1}, {AS: 65535, N: 65280}, {AS: 65535, N: 65284}, {AS: 65534, N: 65281}, {AS: 65534, N: 65282}, {AS: 65534, N: 65283}}
	sets := [][]api.Comm{nil, {noExport}, {noAdvertise}, {local}, {noExport, noAdvertise}, {noExport, local}, {noAdvertise, local}, {noExport, noAdvertise, local}}
	for _, c := range other {
		sets = append(sets, []api.Comm{c})
		if c.AS < 65535 {
			sets = append(sets, []api.Comm{c, noExport}, []api.Comm{c, noAdvertise}, []api.Comm{c, local})
		}
	}
	for _, l := range sets {
		for k := 2; k <= 7; k++ {
			for _, had := range routes {
				want := Fine
				hushed := slices.Contains(l, noAdvertise) || outer(k) && (slices.Contains(l, noExport) || slices.Contains(l, local))
				switch {
				case had == k:
					want = Back
				case hushed:
					want = NoTell
				case had*k == 6 && had != 6 && k != 6: // r2 and r3
					want = Split
				}
				a, w := out(t, n, 1, k, ten, Route{comms(l...), had})
				if w != want || w == Fine && !slices.Equal(a.Comms, l) {
					t.Errorf("from %d to %d, %v: %v, %s, not %s", had, k, l, a, Name(w), Name(want))
				}
			}
		}
	}
}

func TestExportMap(t *testing.T) {
	changed := func(a *api.Attr) {
		a.Pref, a.Med, a.Origin, a.Comms = 300, 5, 2, []api.Comm{{AS: 1, N: 1}, {AS: 1, N: 2}}
	}
	reflected := func(a *api.Attr) { changed(a); a.Clusters = []int{101, 8} }
	hushed := []api.Comm{{AS: 1, N: 1}, noExport, noAdvertise, local}
	many := with(func(a *api.Attr) {
		for i := range 8 {
			a.Comms = append(a.Comms[:i], api.Comm{AS: 2, N: i})
		}
	})
	told(t, []telling{
		{"a change, outside", "change", 6, Route{full(), 2}, outside(changed), Fine},
		{"a change of its own one", "change", 6, Route{full(), 0}, outside(changed), Fine},
		{"a change, inside", "change", 2, Route{full(), 6}, with(changed), Fine},
		{"a change, reflected", "change", 4, Route{full(), 2}, with(reflected), Fine},
		{"refused, outside", "refuse", 6, Route{full(), 2}, api.Attr{}, Denied},
		{"refused, inside", "refuse", 2, Route{full(), 0}, api.Attr{}, Denied},
		{"a map of no clauses", "bare", 6, Route{full(), 2}, api.Attr{}, Denied},
		{"a map of no clauses, inside", "bare", 2, Route{full(), 0}, api.Attr{}, Denied},
		{"8 communities and one more", "change", 6, Route{many, 2}, api.Attr{}, Denied},
		{"8 communities and one more, inside", "change", 2, Route{many, 0}, api.Attr{}, Denied},
		{"hushed by its own map", "hush", 6, Route{full(), 2}, outside(func(a *api.Attr) { a.Comms = hushed }), Fine},
		{"hushed, whatever its map clears", "loud", 6, Route{comms(noExport), 2}, api.Attr{}, NoTell},
		{"hushed, whatever its map clears, inside", "loud", 2, Route{comms(noAdvertise), 0}, api.Attr{}, NoTell},
		{"a list that lets it pass", "tens", 6, Route{full(), 2}, outside(same), Fine},
		{"a list that doesn't", "nines", 6, Route{full(), 2}, api.Attr{}, Denied},
		{"a list of no rules", "barren", 6, Route{full(), 2}, api.Attr{}, Denied},
		{"a second list", "both", 6, Route{full(), 2}, outside(func(a *api.Attr) { a.Med = 6 }), Fine},
		{"the AS isn't ahead yet", "start", 6, Route{full(), 2}, api.Attr{}, Denied},
		{"the path as it is", "five", 6, Route{full(), 2}, outside(same), Fine},
		{"an empty path", "own", 6, Route{path(), 0}, api.Attr{Pref: 100, Med: 7, Origin: 1, Path: []int{1}, Comms: full().Comms}, Fine},
		{"a community", "tagged", 6, Route{full(), 2}, outside(same), Fine},
		{"no such community", "tagged", 6, Route{comms(), 2}, api.Attr{}, Denied},
	})
}

func TestLongerByExportMap(t *testing.T) {
	longer := func(n int) []int { return append([]int{7, 7}, rising(20, n)...) }
	var l []telling
	for n := range 17 {
		r := Route{path(rising(20, n)...), 2}
		x := telling{"outside", "longer", 6, r, outside(func(a *api.Attr) { a.Path = append([]int{1}, longer(n)...) }), Fine}
		y := telling{"inside", "longer", 4, r, with(func(a *api.Attr) { a.Path, a.Clusters = longer(n), []int{101, 8} }), Fine}
		if n == 14 { // the map's numbers fit, but not its AS ahead of them
			x.want, x.why = api.Attr{}, TooLong
		}
		if n > 14 {
			x.want, x.why = api.Attr{}, Denied
			y.want, y.why = api.Attr{}, Denied
		}
		l = append(l, x, y)
	}
	told(t, l)
}

func TestOneMapForEachSession(t *testing.T) {
	n := network(t, `
route-map low { permit 1 { set pref 1; } }
route-map high { permit 1 { set pref 999; } }
route-map other { permit 1 { set med 3; } }
route-map last { permit 1 { set med 4; } }
router a { as 1; id 1; network 10.0.0.0/8; neighbor b import high export low; neighbor c import low export high; }
router b { as 2; id 2; neighbor a import other export last; }
router c { as 1; id 3; neighbor a; }
`)
	own, _ := Own(n, 1, ten)
	b, w := Pass(n, 1, 2, ten, own)
	if want := (api.Attr{Pref: 1, Med: 3, Path: []int{1}}); w != Fine || !alike(b.Attr, want) || b.From != 1 {
		t.Errorf("at b: %v, %s", b, Name(w))
	}
	c, w := Pass(n, 1, 3, ten, own)
	if want := (api.Attr{Pref: 999}); w != Fine || !alike(c.Attr, want) || c.From != 1 {
		t.Errorf("at c: %v, %s", c, Name(w))
	}
	back, w := Pass(n, 2, 1, ten, Route{api.Attr{Path: []int{5}}, 0})
	if want := (api.Attr{Pref: 999, Med: 4, Path: []int{2, 5}}); w != Fine || !alike(back.Attr, want) || back.From != 2 {
		t.Errorf("at a: %v, %s", back, Name(w))
	}
}
