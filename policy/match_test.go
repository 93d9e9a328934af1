package policy

import (
	"math"
	"slices"
	"strings"
	"testing"

	"whirligig/api"
)

// ten is 10.0.0.0/8.
func ten() api.Prefix { return api.Prefix{Addr: 10 << 24, Bits: 8} }

// plain is plain attributes.
func plain() api.Attr { return api.Attr{Pref: 100} }

// full is attributes that have something in each part.
func full() api.Attr {
	return api.Attr{
		Pref: 7, Med: 8, Origin: 1, Path: []int{3, 2, 3}, From: 9, Clusters: []int{6, 5},
		Comms: []api.Comm{{AS: 1, N: 1}, {AS: 2, N: 1}, {AS: 65535, N: 65281}},
	}
}

// nothing is the change of nothing.
func nothing() api.Set { return api.Set{Pref: -1, Med: -1, Origin: -1} }

// but is the change of nothing that something was done to.
func but(do func(s *api.Set)) api.Set {
	s := nothing()
	do(&s)
	return s
}

// wrongPrefixes is prefixes that may not be.
func wrongPrefixes() []api.Prefix {
	return []api.Prefix{{Bits: -1}, {Bits: 33}, {Addr: 1}, {Addr: 10<<24 | 1, Bits: 8}, {Addr: 1, Bits: 31}, {Addr: 10 << 24, Bits: 64}, {Bits: math.MinInt}, {Bits: math.MaxInt}}
}

// wrongAttrs is attributes that may not be, each by one part alone.
func wrongAttrs() []api.Attr {
	var l []api.Attr
	with := func(do func(a *api.Attr)) {
		a := full()
		do(&a)
		l = append(l, a)
	}
	for _, n := range []int{-1, 1<<20 + 1, math.MinInt, math.MaxInt} {
		with(func(a *api.Attr) { a.Pref = n })
		with(func(a *api.Attr) { a.Med = n })
		with(func(a *api.Attr) { a.Origin = n })
		with(func(a *api.Attr) { a.Path = []int{n} })
		with(func(a *api.Attr) { a.From = n })
		with(func(a *api.Attr) { a.Clusters = []int{n} })
	}
	with(func(a *api.Attr) { a.Origin = 3 })
	with(func(a *api.Attr) { a.Path = slices.Repeat([]int{1}, 17) })
	with(func(a *api.Attr) { a.Path = []int{1, 0} })
	with(func(a *api.Attr) { a.Comms = []api.Comm{{AS: 2}, {AS: 1}} })
	with(func(a *api.Attr) { a.Comms = []api.Comm{{AS: 1}, {AS: 1}} })
	with(func(a *api.Attr) { a.Comms = []api.Comm{{}} })
	with(func(a *api.Attr) { a.From = 65536 })
	with(func(a *api.Attr) { a.Clusters = []int{1, 2, 1} })
	return l
}

// TestMetOfAll asks for each list, path and community, and for all at once.
func TestMetOfAll(t *testing.T) {
	j := newJudge()
	routes := []api.Attr{
		plain(), full(), {Path: []int{1}}, {Path: []int{2, 1, 7}}, {Path: slices.Repeat([]int{4}, 16)},
		{Path: []int{1, 2}, Comms: []api.Comm{{AS: 1}, {AS: 1, N: 1}, {AS: 65535, N: 65535}}}, {Comms: []api.Comm{{AS: 1, N: 2}}},
	}
	prefixes := []api.Prefix{{}, ten(), {Addr: 10<<24 | 1<<16, Bits: 16}, {Addr: 10<<24 | 2<<16, Bits: 17}, {Addr: 11 << 24, Bits: 8}}
	seen := map[bool]int{}
	for _, list := range j.names {
		for _, path := range j.texts {
			for _, comm := range j.comms {
				m := api.Match{List: list, Path: path, Comm: comm}
				for _, p := range prefixes {
					for _, a := range routes {
						want := j.met(m, p, a)
						seen[want]++
						if Met(api.Clause{N: 1, Match: m, Set: nothing()}, lists(), p, a) != want {
							t.Fatalf("Met(%+v, %v, %v): not %v", m, p, a, want)
						}
					}
				}
			}
		}
	}
	if seen[true] < 1000 || seen[false] < 1000 {
		t.Error("too few of one kind:", seen)
	}
}

// TestMetOfPlaces: a list lets pass by its bits, and a path is met at its ends, just where the document says so.
func TestMetOfPlaces(t *testing.T) {
	some := []api.List{
		{Name: "a", Rules: []api.Range{{P: ten(), Ge: 16, Le: 24, Permit: true}}},
		{Name: "deny", Rules: []api.Range{{P: ten(), Ge: 8, Le: 32}, {Le: 32, Permit: true}}},
	}
	for _, c := range []struct {
		m    api.Match
		p    api.Prefix
		path []int
		want bool
	}{
		{api.Match{List: "a"}, api.Prefix{Addr: 10 << 24, Bits: 15}, nil, false},
		{api.Match{List: "a"}, api.Prefix{Addr: 10 << 24, Bits: 16}, nil, true},
		{api.Match{List: "a"}, api.Prefix{Addr: 10 << 24, Bits: 24}, nil, true},
		{api.Match{List: "a"}, api.Prefix{Addr: 10 << 24, Bits: 25}, nil, false},
		{api.Match{List: "a"}, api.Prefix{Addr: 11 << 24, Bits: 16}, nil, false},
		{api.Match{List: "deny"}, ten(), nil, false},
		{api.Match{List: "deny"}, api.Prefix{Addr: 11 << 24, Bits: 8}, nil, true},
		{api.Match{List: "A"}, api.Prefix{Addr: 10 << 24, Bits: 16}, nil, false},
		{api.Match{Path: "^65000 .*$"}, ten(), []int{65000, 1, 2}, true},
		{api.Match{Path: "^65000 .*$"}, ten(), []int{1, 65000}, false},
		{api.Match{Path: "(1|2)+ 3"}, ten(), []int{7, 1, 2, 3, 9}, true},
		{api.Match{Path: "(1|2)+ 3"}, ten(), []int{7, 1, 2, 9, 3}, false},
		{api.Match{List: "a", Path: "^1$"}, api.Prefix{Addr: 10 << 24, Bits: 16}, []int{1}, true},
		{api.Match{List: "a", Path: "^1$"}, api.Prefix{Addr: 10 << 24, Bits: 16}, []int{2}, false},
		{api.Match{List: "a", Path: "^1$"}, ten(), []int{1}, false},
	} {
		if got := Met(api.Clause{Match: c.m}, some, c.p, api.Attr{Path: c.path}); got != c.want {
			t.Errorf("Met(%+v, %v, %v): %v", c.m, c.p, c.path, got)
		}
	}
}

func TestMetByFirstList(t *testing.T) {
	yes, no := []api.Range{all(true)}, []api.Range{all(false)}
	c := api.Clause{Match: api.Match{List: "a"}}
	for _, x := range []struct {
		lists []api.List
		want  bool
	}{
		{nil, false},
		{[]api.List{}, false},
		{[]api.List{{Name: "b", Rules: yes}}, false},
		{[]api.List{{Name: "", Rules: yes}}, false},
		{[]api.List{{Name: "a", Rules: yes}}, true},
		{[]api.List{{Name: "a", Rules: no}}, false},
		{[]api.List{{Name: "a"}}, false},
		{[]api.List{{Name: "a", Rules: yes}, {Name: "a", Rules: no}}, true},
		{[]api.List{{Name: "a", Rules: no}, {Name: "a", Rules: yes}}, false},
		{[]api.List{{Name: "a"}, {Name: "a", Rules: yes}}, false},
		{[]api.List{{Name: "a", Rules: slices.Repeat(yes, 16)}, {Name: "a", Rules: no}}, true},
		{[]api.List{{Name: "a", Rules: slices.Repeat(yes, 17)}, {Name: "a", Rules: yes}}, false},
		{[]api.List{{Name: "a", Rules: []api.Range{all(true), {Le: 33, Permit: true}}}, {Name: "a", Rules: yes}}, false},
		{[]api.List{{Name: "b", Rules: no}, {Name: "a", Rules: yes}, {Name: "b", Rules: no}}, true},
		{append(slices.Repeat([]api.List{{Name: "b", Rules: no}}, 100), api.List{Name: "a", Rules: yes}), true}, // however many there are
	} {
		if got := Met(c, x.lists, ten(), plain()); got != x.want {
			t.Errorf("Met(%v): %v", x.lists, got)
		}
		m := []api.Clause{{N: 1, Permit: true, Match: c.Match, Set: nothing()}}
		if got := Run(m, x.lists, ten(), plain()); got.Pass != x.want || got.E != api.OK {
			t.Errorf("Run(%v): %v", x.lists, got)
		}
	}
}

// TestMetOfNothing: what is empty, and a community with the AS 0, asks for nothing, also where there is a list without a name.
func TestMetOfNothing(t *testing.T) {
	for _, l := range [][]api.List{nil, lists(), {{Name: ""}}, {{Name: "", Rules: []api.Range{all(false)}}}} {
		for _, n := range []int{0, 1, -1, 65535, 65536, math.MinInt, math.MaxInt} {
			c := api.Clause{Match: api.Match{Comm: api.Comm{N: n}}}
			for _, a := range fullest() {
				if !Met(c, l, ten(), a) {
					t.Errorf("Met(%v, %v, %v): false", c, l, a)
				}
			}
		}
	}
}

// TestMetByMatchAlone: a clause's number, what it changes, and whether it permits, make no difference.
func TestMetByMatchAlone(t *testing.T) {
	for _, n := range []int{math.MinInt, -1, 0, 1, 65535, 65536, math.MaxInt} {
		for _, s := range append(wrongSets(), nothing(), api.Set{}) {
			for _, permit := range []bool{true, false} {
				if !Met(api.Clause{N: n, Permit: permit, Set: s}, nil, ten(), full()) {
					t.Fatalf("Met of the number %d and %v: false", n, s)
				}
				if Met(api.Clause{N: n, Permit: permit, Match: api.Match{Path: "^9"}, Set: s}, nil, ten(), full()) {
					t.Fatalf("Met of the number %d and %v: true", n, s)
				}
			}
		}
	}
}

func TestMetWrong(t *testing.T) {
	refused := func(p api.Prefix, a api.Attr) {
		t.Helper()
		for _, m := range []api.Match{{}, {List: "ten"}, {List: "TEN"}, {Path: ".*"}, {Comm: api.Comm{AS: 1, N: 1}}, {Comm: api.Comm{N: 1}}} {
			if Met(api.Clause{N: 1, Permit: true, Match: m, Set: nothing()}, lists(), p, a) {
				t.Errorf("Met(%v, %v, %v): true", m, p, a)
			}
		}
	}
	for _, p := range wrongPrefixes() {
		refused(p, plain())
		refused(p, full())
		refused(p, wrongAttrs()[0])
	}
	for _, a := range wrongAttrs() {
		refused(ten(), a)
		refused(api.Prefix{}, a)
	}
}

// TestMetOfLongTexts: no text is too long to be refused.
func TestMetOfLongTexts(t *testing.T) {
	long := strings.Repeat("a", 1<<20)
	for _, m := range []api.Match{{List: long}, {Path: long}, {Path: strings.Repeat("(", 1<<20)}, {Path: strings.Repeat(".", 65)}, {Path: "^" + strings.Repeat(".*", 32)}} {
		if Met(api.Clause{Match: m}, lists(), ten(), full()) {
			t.Errorf("Met of %d and %d bytes: true", len(m.List), len(m.Path))
		}
	}
	for _, m := range []api.Match{{Path: strings.Repeat(".*", 32)}, {Path: strings.Repeat(" ", 61) + "3 2"}} {
		if !Met(api.Clause{Match: m}, lists(), ten(), full()) {
			t.Errorf("Met of %q: false", m.Path)
		}
	}
	named := []api.List{{Name: long[1:], Rules: []api.Range{all(false)}}, {Name: long, Rules: []api.Range{all(true)}}}
	if !Met(api.Clause{Match: api.Match{List: long}}, named, ten(), full()) {
		t.Error("Met of a list with a long name: false")
	}
}
