package session

import (
	"math"
	"reflect"
	"slices"
	"testing"

	"whirligig/api"
	"whirligig/cfg"
	"whirligig/topo"
)

// web has a router r1 with neighbors of each kind: r2 and r3 are inner ones, r4 and r5 its clients, r6 and r7 outer ones; with r8, of its AS, it has no session.
const web = `
prefix-list ten { permit 10.0.0.0/8 ge 8 le 32; }
prefix-list nine { permit 9.0.0.0/8; }
prefix-list bare { }
route-map change { permit 1 { set pref 300; set med 5; set origin none; set community add 1:2; } }
route-map refuse { deny 1 { } permit 2 { } }
route-map bare { }
route-map longer { permit 1 { set prepend 7 7; } }
route-map hush { permit 1 { set community add no-advertise no-export local; } }
route-map loud { permit 1 { set community clear; } }
route-map tens { permit 5 { match prefix ten; } }
route-map nines { permit 5 { match prefix nine; } }
route-map barren { permit 5 { match prefix bare; } }
route-map both { permit 5 { match prefix nine; } permit 6 { match prefix ten; set med 6; } }
route-map start { permit 1 { match path "^1"; } }
route-map five { permit 1 { match path "^5"; } }
route-map own { permit 1 { match path "^$"; } }
route-map tagged { permit 1 { match community 1:1; } }
router r1 {
	as 1; id 101; network 10.0.0.0/8; network 9.0.0.0/8;
	neighbor r2; neighbor r3; neighbor r4 client; neighbor r5 client; neighbor r6; neighbor r7;
}
router r2 { as 1; id 102; network 10.0.0.0/8; neighbor r1; neighbor r8; }
router r3 { as 1; id 103; neighbor r1 client; }
router r4 { as 1; id 104; network 10.0.0.0/9; neighbor r1; }
router r5 { as 1; id 105; neighbor r1; }
router r6 { as 2; id 106; neighbor r1; neighbor r7; }
router r7 { as 3; id 107; neighbor r1; neighbor r6; }
router r8 { as 1; id 108; neighbor r2; }
`

// ten is a network of r1.
var ten = api.Prefix{Addr: 10 << 24, Bits: 8}

// network is the network of a text.
func network(t *testing.T, s string) *topo.Net {
	t.Helper()
	c, at, e := cfg.Parse(s)
	if e != api.OK {
		t.Fatalf("Parse: %v at %v", e, at)
	}
	return made(t, c)
}

// made is the network of a configuration.
func made(t *testing.T, c api.Config) *topo.Net {
	t.Helper()
	n, f := topo.Make(c)
	if n == nil {
		t.Fatalf("Make: %v", f)
	}
	return n
}

// through is web with a map of r1 for each session: one by which it imports, and one by which it exports.
func through(t *testing.T, in, out string) *topo.Net {
	t.Helper()
	c, _, _ := cfg.Parse(web)
	for i := range c.Routers[0].Neighbors {
		c.Routers[0].Neighbors[i].Import, c.Routers[0].Neighbors[i].Export = in, out
	}
	return made(t, c)
}

// full is attributes that have something in each part.
func full() api.Attr {
	return api.Attr{
		Pref: 200, Med: 7, Origin: 1, Path: []int{5, 6}, Comms: []api.Comm{{AS: 1, N: 1}}, From: 9, Clusters: []int{8},
	}
}

// with is full attributes that something was done to.
func with(do func(a *api.Attr)) api.Attr {
	a := full()
	do(&a)
	return a
}

// rising is as many numbers, from one on.
func rising(from, many int) []int {
	var l []int
	for i := range many {
		l = append(l, from+i)
	}
	return l
}

// comms is full attributes with some communities.
func comms(l ...api.Comm) api.Attr { return with(func(a *api.Attr) { a.Comms = l }) }

// clusters is full attributes with some clusters.
func clusters(l ...int) api.Attr { return with(func(a *api.Attr) { a.Clusters = l }) }

// path is full attributes with some path.
func path(l ...int) api.Attr { return with(func(a *api.Attr) { a.Path = l }) }

// from is full attributes with some From.
func from(id int) api.Attr { return with(func(a *api.Attr) { a.From = id }) }

// outside is what full attributes are that have come out of the AS 1, if they were had from one.
func outside(do func(a *api.Attr)) api.Attr {
	a := api.Attr{Pref: 100, Origin: 1, Path: []int{1, 5, 6}, Comms: []api.Comm{{AS: 1, N: 1}}}
	do(&a)
	return a
}

// same changes nothing.
func same(*api.Attr) {}

var (
	noExport    = api.Comm{AS: 65535, N: 65281}
	noAdvertise = api.Comm{AS: 65535, N: 65282}
	local       = api.Comm{AS: 65535, N: 65283}
)

// alike tells whether two attributes are the same, nil and empty lists being one.
func alike(a, b api.Attr) bool { return reflect.DeepEqual(bare(a), bare(b)) }

// bare is attributes whose empty lists are nil.
func bare(a api.Attr) api.Attr {
	if len(a.Path) == 0 {
		a.Path = nil
	}
	if len(a.Comms) == 0 {
		a.Comms = nil
	}
	if len(a.Clusters) == 0 {
		a.Clusters = nil
	}
	return a
}

// twin is attributes in memory of their own, whose lists have room behind them that is written over.
func twin(a api.Attr) api.Attr {
	a.Path = append(append(make([]int, 0, len(a.Path)+3), a.Path...), -5, -5, -5)[:len(a.Path)]
	a.Comms = append(append(make([]api.Comm, 0, len(a.Comms)+2), a.Comms...), api.Comm{AS: -5}, api.Comm{AS: -5})[:len(a.Comms)]
	a.Clusters = append(append(make([]int, 0, len(a.Clusters)+3), a.Clusters...), -5, -5, -5)[:len(a.Clusters)]
	return a
}

// untouched tells whether a twin is still as it was made, with the room behind its lists.
func untouched(a, was api.Attr) bool {
	room := func(l []int) bool { return slices.Equal(l[len(l):cap(l)][:3], []int{-5, -5, -5}) }
	rest := a.Comms[len(a.Comms):cap(a.Comms)][:2]
	return alike(a, was) && room(a.Path) && room(a.Clusters) && rest[0].AS == -5 && rest[1].AS == -5
}

// spoil writes over all that lists have room for.
func spoil(a api.Attr) {
	for _, l := range [][]int{a.Path[:cap(a.Path)], a.Clusters[:cap(a.Clusters)]} {
		for i := range l {
			l[i] = -77
		}
	}
	l := a.Comms[:cap(a.Comms)]
	for i := range l {
		l[i] = api.Comm{AS: -77, N: -77}
	}
}

// out asks for what is told, twice, and holds that what was handed in stays, that zero is told beside a why, and that no memory is shared.
func out(t *testing.T, n *topo.Net, i, k int, p api.Prefix, r Route) (api.Attr, Why) {
	t.Helper()
	handed := Route{twin(r.Attr), r.From}
	first, w := Out(n, i, k, p, handed)
	kept := twin(first)
	spoil(first)
	if !untouched(handed.Attr, r.Attr) || handed.From != r.From {
		t.Errorf("Out(%d, %d, %v) changes what is handed in", i, k, r)
	}
	again, v := Out(n, i, k, p, handed)
	if !alike(again, kept) || v != w {
		t.Errorf("Out(%d, %d, %v): %v, %v, and then %v, %v", i, k, r, kept, w, again, v)
	}
	if w != Fine && !alike(kept, api.Attr{}) {
		t.Errorf("Out(%d, %d, %v): %v beside %d", i, k, r, kept, w)
	}
	return kept, w
}

// in asks for what is made of what was told, likewise.
func in(t *testing.T, n *topo.Net, k, i int, p api.Prefix, a api.Attr) (Route, Why) {
	t.Helper()
	handed := twin(a)
	first, w := In(n, k, i, p, handed)
	kept := Route{twin(first.Attr), first.From}
	spoil(first.Attr)
	if !untouched(handed, a) {
		t.Errorf("In(%d, %d, %v) changes what is handed in", k, i, a)
	}
	again, v := In(n, k, i, p, handed)
	if !alike(again.Attr, kept.Attr) || again.From != kept.From || v != w {
		t.Errorf("In(%d, %d, %v): %v, %v, and then %v, %v", k, i, a, kept, w, again, v)
	}
	if w != Fine && (!alike(kept.Attr, api.Attr{}) || kept.From != 0) {
		t.Errorf("In(%d, %d, %v): %v beside %d", k, i, a, kept, w)
	}
	return kept, w
}

// outer tells whether a router of web is an outer neighbor of r1.
func outer(k int) bool { return k == 6 || k == 7 }

// wrongPrefixes is prefixes that may not be.
func wrongPrefixes() []api.Prefix {
	return []api.Prefix{{Addr: 10<<24 | 1, Bits: 8}, {Addr: 1}, {Bits: -1}, {Bits: 33}, {Addr: 10 << 24, Bits: math.MaxInt}, {Bits: math.MinInt}}
}

// wrongAttrs is attributes that may not be, each by one part alone.
func wrongAttrs() []api.Attr {
	return []api.Attr{
		with(func(a *api.Attr) { a.Pref = -1 }),
		with(func(a *api.Attr) { a.Pref = 1<<20 + 1 }),
		with(func(a *api.Attr) { a.Med = -1 }),
		with(func(a *api.Attr) { a.Med = 1<<20 + 1 }),
		with(func(a *api.Attr) { a.Origin = -1 }),
		with(func(a *api.Attr) { a.Origin = 3 }),
		from(-1), from(65536),
		path(0), path(5, 65536), path(rising(20, 17)...),
		comms(api.Comm{AS: 2}, api.Comm{AS: 1}), comms(api.Comm{AS: 1}, api.Comm{AS: 1}), comms(api.Comm{}),
		clusters(0), clusters(65536), clusters(8, 8), clusters(rising(1, 9)...),
	}
}

func TestOwn(t *testing.T) {
	n := network(t, web)
	nine, half := api.Prefix{Addr: 9 << 24, Bits: 8}, api.Prefix{Addr: 10 << 24, Bits: 9}
	has := map[int][]api.Prefix{1: {ten, nine}, 2: {ten}, 4: {half}}
	asked := append(wrongPrefixes(), ten, nine, half, api.Prefix{}, api.Prefix{Addr: 10 << 24, Bits: 7}, api.Prefix{Addr: 11 << 24, Bits: 8})
	for _, i := range []int{math.MinInt, -1, 0, 1, 2, 3, 4, 5, 6, 7, 8, 9, 10, math.MaxInt} {
		for _, p := range asked {
			r, is := Own(n, i, p)
			want := Route{}
			if slices.Contains(has[i], p) {
				want.Attr.Pref = 100
			}
			if is != slices.Contains(has[i], p) || !alike(r.Attr, want.Attr) || r.From != 0 {
				t.Errorf("Own(%d, %v): %v, %v", i, p, r, is)
			}
			if r, is := Own(nil, i, p); is || !alike(r.Attr, api.Attr{}) || r.From != 0 {
				t.Errorf("Own of no network: %v, %v", r, is)
			}
		}
	}
}

func TestName(t *testing.T) {
	words := []string{"fine", "no session", "back", "no tell", "split", "too long", "denied", "loop"}
	for i, s := range words {
		if Name(Why(i)) != s {
			t.Errorf("Name(%d): %q, not %q", i, Name(Why(i)), s)
		}
	}
	for _, w := range []Why{-1, -8, 8, 9, 255, 256, 1 << 32, math.MinInt, math.MaxInt} {
		if Name(w) != "" {
			t.Errorf("Name(%d): %q", w, Name(w))
		}
	}
	numbers := []Why{Fine, NoSession, Back, NoTell, Split, TooLong, Denied, Loop}
	for i, w := range numbers {
		if w != Why(i) {
			t.Errorf("%s has the number %d, not %d", words[i], w, i)
		}
	}
}

// routes is each neighbor of r1 from whom it may have a route, and 0.
var routes = []int{0, 2, 3, 4, 5, 6, 7}

func TestNoSession(t *testing.T) {
	n := network(t, web)
	empty := made(t, api.Config{})
	type ask struct {
		n    *topo.Net
		i, k int
	}
	l := []ask{{n, 1, 8}, {n, 8, 1}, {n, 2, 3}, {n, 4, 6}, {n, 6, 2}, {nil, 1, 2}, {nil, 0, 0}, {empty, 1, 2}, {empty, 0, 0}, {&topo.Net{}, 1, 2}}
	for i := range 9 {
		l = append(l, ask{n, i, i})
		for _, k := range []int{math.MinInt, -1, 0, 9, 10, 1 << 32, 1<<32 | 2, math.MaxInt} {
			l = append(l, ask{n, i, k}, ask{n, k, i}, ask{nil, k, i})
		}
	}
	attrs := append(wrongAttrs(), full(), api.Attr{}, path(1, 2, 3), comms(noAdvertise), clusters(101, 102), from(101))
	for _, x := range l {
		for _, a := range attrs {
			for _, p := range []api.Prefix{ten, {}, {Bits: 33}} {
				for _, had := range []int{0, 1, 2, 8, x.k, x.i, -1} {
					if _, w := out(t, x.n, x.i, x.k, p, Route{a, had}); w != NoSession {
						t.Errorf("Out(%d, %d, %v): %d", x.i, x.k, a, w)
					}
					if r, w := Pass(x.n, x.i, x.k, p, Route{a, had}); w != NoSession || !alike(r.Attr, api.Attr{}) || r.From != 0 {
						t.Errorf("Pass(%d, %d, %v): %v, %d", x.i, x.k, a, r, w)
					}
				}
				if _, w := in(t, x.n, x.k, x.i, p, a); w != NoSession {
					t.Errorf("In(%d, %d, %v): %d", x.k, x.i, a, w)
				}
			}
		}
	}
}

func TestWrongRoutes(t *testing.T) {
	n := network(t, web)
	for k := 2; k <= 7; k++ {
		for _, had := range append(routes, -1, 1, 8, 9) {
			for _, a := range wrongAttrs() {
				if _, w := out(t, n, 1, k, ten, Route{a, had}); w != Denied {
					t.Errorf("Out(1, %d, %v, %d): %d", k, a, had, w)
				}
			}
			for _, p := range wrongPrefixes() {
				if _, w := out(t, n, 1, k, p, Route{full(), had}); w != Denied {
					t.Errorf("Out(1, %d, %v, from %d): %d", k, p, had, w)
				}
			}
		}
		// Who has no session with r1 brought it nothing, whatever else stands against it.
		for _, had := range []int{math.MinInt, -1, 1, 8, 9, 1 << 32, math.MaxInt} {
			for _, a := range []api.Attr{full(), {}, comms(noAdvertise), clusters(rising(1, 8)...), path(rising(1, 16)...)} {
				if _, w := out(t, n, 1, k, ten, Route{a, had}); w != Denied {
					t.Errorf("Out(1, %d, %v, from %d): %d", k, a, had, w)
				}
			}
		}
		for _, a := range append(wrongAttrs(), with(func(a *api.Attr) { a.Path, a.From, a.Clusters = []int{1}, 101, []int{101, 0} })) {
			if _, w := in(t, n, 1, k, ten, a); w != Denied {
				t.Errorf("In(1, %d, %v): %d", k, a, w)
			}
		}
		for _, p := range wrongPrefixes() {
			for _, a := range []api.Attr{full(), {}, path(1), from(101), clusters(101)} {
				if _, w := in(t, n, 1, k, p, a); w != Denied {
					t.Errorf("In(1, %d, %v): %d", k, p, w)
				}
			}
		}
	}
}
