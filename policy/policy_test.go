package policy

import (
	"math"
	"reflect"
	"slices"
	"testing"

	"whirligig/api"
)

// lets is a clause that permits, asks for nothing and changes something.
func lets(n int, do func(s *api.Set)) api.Clause {
	return api.Clause{N: n, Permit: true, Set: but(do)}
}

// same changes nothing of a change.
func same(*api.Set) {}

// numbered is a map of clauses that ask for nothing, by their numbers.
func numbered(numbers ...int) []api.Clause {
	var m []api.Clause
	for _, n := range numbers {
		m = append(m, lets(n, same))
	}
	return m
}

// rising is as many numbers, from one on.
func rising(from, many int) []int {
	var l []int
	for i := range many {
		l = append(l, from+i)
	}
	return l
}

// row is as many communities of one AS, from a second number on.
func row(from, many int) []api.Comm {
	var l []api.Comm
	for i := range many {
		l = append(l, api.Comm{AS: 65000, N: from + i})
	}
	return l
}

// wrongSets is changes that may not be.
func wrongSets() []api.Set {
	var l []api.Set
	add := func(do func(s *api.Set)) { l = append(l, but(do)) }
	for _, n := range []int{-2, 1<<20 + 1, math.MinInt, math.MaxInt} {
		add(func(s *api.Set) { s.Pref = n })
		add(func(s *api.Set) { s.Med = n })
		add(func(s *api.Set) { s.Origin = n })
		add(func(s *api.Set) { s.Prepend = []int{n} })
	}
	add(func(s *api.Set) { s.Origin = 3 })
	for _, c := range [][]api.Comm{{{}}, {{AS: 65536}}, {{AS: 1, N: -1}}, row(1, 9)} {
		add(func(s *api.Set) { s.Add = c })
		add(func(s *api.Set) { s.Del = c })
	}
	for _, p := range [][]int{{0}, {1, 65536}, rising(1, 17)} {
		add(func(s *api.Set) { s.Prepend = p })
	}
	return l
}

// rightMaps is maps that may be.
func rightMaps() [][]api.Clause {
	l := [][]api.Clause{
		nil, {}, numbered(1), numbered(65535), numbered(1, 65535), numbered(1, 2, 3), numbered(65534, 65535), numbered(7, 1000, 1001),
		numbered(rising(1, 16)...), numbered(rising(65520, 16)...), numbered(rising(1, 15)...),
		{{N: 1}}, {{N: 1}, {N: 2, Permit: true}}, // a change to 0 of all numbers may be
		{lets(1, func(s *api.Set) {
			s.Pref, s.Med, s.Origin, s.Clear, s.Add, s.Del, s.Prepend = 1<<20, 1<<20, 2, true, row(1, 8), row(5, 8), rising(1, 16)
		})},
		{lets(1, func(s *api.Set) { s.Add = []api.Comm{{AS: 2}, {AS: 1}, {AS: 2}} })},
	}
	for _, m := range []api.Match{ // what is asked for may be anything
		{List: "gone"}, {List: "no name"}, {Path: "("}, {Path: "\x00"}, {Comm: api.Comm{AS: -1}}, {Comm: api.Comm{AS: 65536, N: 65536}}, {Comm: api.Comm{N: -1}},
	} {
		l = append(l, []api.Clause{{N: 1, Match: m, Set: nothing()}}, []api.Clause{{N: 1, Permit: true, Match: m, Set: nothing()}})
	}
	return l
}

// wrongMaps is clauses that are no map.
func wrongMaps() [][]api.Clause {
	l := [][]api.Clause{
		numbered(0), numbered(-1), numbered(65536), numbered(math.MinInt), numbered(math.MaxInt), numbered(1<<32 + 1), numbered(0, 1), numbered(1, 65536), numbered(65535, 65536),
		numbered(1, 1), numbered(2, 1), numbered(1, 2, 2), numbered(1, 3, 2), numbered(3, 1, 2), numbered(5, 6, 1), numbered(1, 0), numbered(65535, 65535), numbered(-1, 1),
		numbered(rising(1, 17)...), numbered(rising(1, 100)...), numbered(slices.Repeat([]int{1}, 16)...),
		{{N: 1, Match: api.Match{List: "gone"}}, {N: 1}}, {{Permit: true}}, {{}},
	}
	for _, s := range wrongSets() {
		for _, permit := range []bool{true, false} {
			c := api.Clause{N: 9, Permit: permit, Set: s}
			unmet := api.Clause{N: 9, Permit: permit, Match: api.Match{List: "gone"}, Set: s}
			l = append(l, []api.Clause{c}, append(numbered(1, 2), c), append([]api.Clause{c}, numbered(10, 11)...), append(numbered(1), unmet))
		}
	}
	return l
}

func TestMay(t *testing.T) {
	for _, m := range rightMaps() {
		if !May(m) {
			t.Errorf("May(%v): false", m)
		}
		if r := Run(m, lists(), ten(), full()); r.E == api.ErrArg {
			t.Errorf("Run(%v): %v", m, r)
		}
	}
	for _, m := range wrongMaps() {
		if May(m) {
			t.Errorf("May(%v): true", m)
		}
	}
}

// changing is clauses of each kind of change with what they make of full attributes.
func changing() []struct {
	name string
	c    api.Clause
	want func(a *api.Attr)
} {
	return []struct {
		name string
		c    api.Clause
		want func(a *api.Attr)
	}{
		{"nothing", lets(7, same), func(*api.Attr) {}},
		{"pref", lets(7, func(s *api.Set) { s.Pref = 200 }), func(a *api.Attr) { a.Pref = 200 }},
		{"pref 0", lets(7, func(s *api.Set) { s.Pref = 0 }), func(a *api.Attr) { a.Pref = 0 }},
		{"med", lets(7, func(s *api.Set) { s.Med = 1 << 20 }), func(a *api.Attr) { a.Med = 1 << 20 }},
		{"origin", lets(7, func(s *api.Set) { s.Origin = 2 }), func(a *api.Attr) { a.Origin = 2 }},
		{"add", lets(7, func(s *api.Set) { s.Add = []api.Comm{{AS: 3}, {AS: 1, N: 1}} }), func(a *api.Attr) {
			a.Comms = []api.Comm{{AS: 1, N: 1}, {AS: 2, N: 1}, {AS: 3}, {AS: 65535, N: 65281}}
		}},
		{"del", lets(7, func(s *api.Set) { s.Del = []api.Comm{{AS: 2, N: 1}, {AS: 9}} }), func(a *api.Attr) { a.Comms = []api.Comm{{AS: 1, N: 1}, {AS: 65535, N: 65281}} }},
		{"clear", lets(7, func(s *api.Set) { s.Clear = true }), func(a *api.Attr) { a.Comms = nil }},
		{"clear, add, del", lets(7, func(s *api.Set) { s.Clear, s.Add, s.Del = true, []api.Comm{{AS: 2, N: 1}}, []api.Comm{{AS: 2, N: 1}} }),
			func(a *api.Attr) { a.Comms = []api.Comm{{AS: 2, N: 1}} }},
		{"prepend", lets(7, func(s *api.Set) { s.Prepend = []int{8, 9, 8} }), func(a *api.Attr) { a.Path = []int{8, 9, 8, 3, 2, 3} }},
		{"prepend up to 16", lets(7, func(s *api.Set) { s.Prepend = rising(1, 13) }), func(a *api.Attr) { a.Path = append(rising(1, 13), 3, 2, 3) }},
		{"all of it", lets(7, func(s *api.Set) {
			s.Pref, s.Med, s.Origin, s.Clear, s.Add, s.Prepend = 1, 2, 0, true, row(1, 8), []int{1}
		}), func(a *api.Attr) {
			a.Pref, a.Med, a.Origin, a.Comms, a.Path = 1, 2, 0, row(1, 8), []int{1, 3, 2, 3}
		}},
	}
}

// TestRunChanges does each change, by itself, behind a clause that isn't met and ahead of one that denies; and by one that denies, which does none.
func TestRunChanges(t *testing.T) {
	for _, x := range changing() {
		want := Result{Pass: true, Attr: full(), Clause: 7}
		x.want(&want.Attr)
		unmet := api.Clause{N: 5, Match: api.Match{Path: "^9"}, Set: nothing()}
		for _, m := range [][]api.Clause{{x.c}, {unmet, x.c}, {x.c, {N: 8}}, {unmet, x.c, {N: 8}}} {
			if got := Run(m, nil, ten(), full()); !like(got, want) {
				t.Errorf("%s: %v, not %v", x.name, got, want)
			}
		}
		deny := x.c
		deny.Permit = false
		if got := Run([]api.Clause{deny, lets(8, same)}, nil, ten(), full()); !like(got, Result{Clause: 7}) {
			t.Errorf("%s, denied: %v", x.name, got)
		}
	}
}

// TestRunDecides: of several clauses that ask for lists, paths and communities the first one that is met decides.
func TestRunDecides(t *testing.T) {
	m := []api.Clause{
		{N: 10, Match: api.Match{List: "ten", Path: "^1"}, Set: nothing()},
		{N: 20, Permit: true, Match: api.Match{List: "ten", Comm: api.Comm{AS: 1, N: 1}}, Set: but(func(s *api.Set) { s.Pref = 20 })},
		{N: 30, Permit: true, Match: api.Match{Path: "^1", Comm: api.Comm{AS: 1, N: 1}}, Set: but(func(s *api.Set) { s.Pref = 30 })},
		{N: 40, Permit: true, Match: api.Match{List: "ten", Path: "2$", Comm: api.Comm{AS: 2, N: 1}}, Set: but(func(s *api.Set) { s.Pref = 40 })},
		{N: 50, Match: api.Match{Comm: api.Comm{AS: 1, N: 1}}, Set: nothing()},
		{N: 60, Permit: true, Match: api.Match{Path: "2$"}, Set: but(func(s *api.Set) { s.Pref = 60 })},
		{N: 70, Permit: true, Match: api.Match{List: "ten"}, Set: but(func(s *api.Set) { s.Pref = 70 })},
	}
	one, two := api.Comm{AS: 1, N: 1}, api.Comm{AS: 2, N: 1}
	other := api.Prefix{Addr: 11 << 24, Bits: 8}
	for _, x := range []struct {
		p      api.Prefix
		path   []int
		comms  []api.Comm
		clause int
		pass   bool
	}{
		{ten(), []int{1}, nil, 10, false},
		{ten(), []int{1}, []api.Comm{one, two}, 10, false},
		{ten(), []int{3}, []api.Comm{one}, 20, true},
		{other, []int{1}, []api.Comm{one}, 30, true},
		{other, []int{3}, []api.Comm{one}, 50, false},
		{ten(), []int{3, 2}, []api.Comm{two}, 40, true},
		{ten(), []int{3, 2}, []api.Comm{one, two}, 20, true},
		{other, []int{3, 2}, []api.Comm{two}, 60, true},
		{other, []int{3, 2}, nil, 60, true},
		{ten(), []int{3}, []api.Comm{two}, 70, true},
		{ten(), nil, nil, 70, true},
		{other, nil, nil, 0, false},
		{other, []int{1}, []api.Comm{two}, 0, false},
	} {
		a := api.Attr{Pref: 100, Med: 5, Path: x.path, Comms: x.comms}
		want := Result{Pass: x.pass, Clause: x.clause}
		if x.pass {
			want.Attr = twin(a)
			want.Attr.Pref = x.clause
		}
		if got := Run(m, lists(), x.p, a); !like(got, want) {
			t.Errorf("Run of %v %v %v: %v, not %v", x.p, x.path, x.comms, got, want)
		}
	}
}

func TestRunOfNoClause(t *testing.T) {
	for _, m := range [][]api.Clause{nil, {}} {
		for _, a := range append(fullest(), full()) {
			if got := Run(m, lists(), ten(), a); !like(got, Result{}) {
				t.Errorf("Run of no clause, %v: %v", a, got)
			}
		}
	}
}

// TestRunOfSixteen: each of 16 clauses may decide, and none is looked at behind it.
func TestRunOfSixteen(t *testing.T) {
	var m []api.Clause
	for i := range 16 {
		c := api.Clause{N: 4095 * (i + 1), Permit: i%3 > 0, Set: but(func(s *api.Set) { s.Pref = i })}
		c.Match.Comm = api.Comm{AS: 1 + i, N: 1}
		m = append(m, c)
	}
	for i := range 16 {
		a := api.Attr{Pref: 100}
		for k := i; k < 16 && k < i+8; k++ {
			a.Comms = append(a.Comms, api.Comm{AS: 1 + k, N: 1})
		}
		want := Result{Clause: 4095 * (i + 1)}
		if i%3 > 0 {
			want.Pass, want.Attr = true, twin(a)
			want.Attr.Pref = i
		}
		if got := Run(m, nil, ten(), a); !like(got, want) {
			t.Errorf("by the clause %d: %v, not %v", i, got, want)
		}
	}
	if got := Run(m, nil, ten(), plain()); !like(got, Result{}) {
		t.Errorf("by none: %v", got)
	}
}

// TestRunCantBeDone: what can't be done makes nothing, and no clause behind it is asked.
func TestRunCantBeDone(t *testing.T) {
	most := api.Attr{Pref: 100, Path: rising(1, 16), Comms: row(1, 8)}
	for _, c := range []api.Clause{
		lets(7, func(s *api.Set) { s.Prepend = []int{1} }),
		lets(7, func(s *api.Set) { s.Prepend = rising(1, 16) }),
		lets(7, func(s *api.Set) { s.Add = row(9, 1) }),
		lets(7, func(s *api.Set) { s.Add, s.Del = row(9, 2), row(1, 1) }),
		lets(7, func(s *api.Set) { s.Pref, s.Prepend, s.Add = 200, []int{1}, row(9, 1) }),
	} {
		want := Result{Clause: 7, E: api.ErrLong}
		for _, m := range [][]api.Clause{{c}, {c, lets(8, same)}, {{N: 6, Match: api.Match{Path: "^$"}, Set: nothing()}, c, {N: 9}}} {
			if got := Run(m, nil, ten(), most); !like(got, want) {
				t.Errorf("Run(%v): %v", m, got)
			}
			if got := Chain([][]api.Clause{m}, nil, ten(), most); !like(got, want) {
				t.Errorf("Chain(%v): %v", m, got)
			}
		}
		// One that denies, or isn't met, or comes later, does none.
		deny, unmet, later := c, c, c
		deny.Permit, unmet.Match.List, later.N = false, "gone", 9
		if got := Run([]api.Clause{deny}, nil, ten(), most); !like(got, Result{Clause: 7}) {
			t.Errorf("Run(%v): %v", deny, got)
		}
		if got := Run([]api.Clause{unmet, lets(8, same), later}, nil, ten(), most); !like(got, Result{Pass: true, Attr: most, Clause: 8}) {
			t.Errorf("Run behind %v: %v", unmet, got)
		}
	}
	room := lets(7, func(s *api.Set) { s.Add, s.Del = row(9, 1), row(1, 1) })
	if got := Run([]api.Clause{room}, nil, ten(), most); !got.Pass || got.E != api.OK || !slices.Equal(got.Attr.Comms, row(2, 8)) {
		t.Errorf("Run where one goes and one comes: %v", got)
	}
}

func TestRunWrong(t *testing.T) {
	refused := func(m []api.Clause, p api.Prefix, a api.Attr) {
		t.Helper()
		if got := Run(m, lists(), p, a); !like(got, Result{E: api.ErrArg}) {
			t.Errorf("Run(%v, %v, %v): %v", m, p, a, got)
		}
	}
	for _, m := range wrongMaps() {
		refused(m, ten(), plain())
		refused(m, ten(), full())
		refused(m, wrongPrefixes()[0], wrongAttrs()[0])
	}
	for _, m := range [][]api.Clause{nil, numbered(1), {{N: 1, Set: nothing()}}, {{N: 1, Match: api.Match{List: "gone"}, Set: nothing()}}} {
		for _, p := range wrongPrefixes() {
			refused(m, p, plain())
			refused(m, p, full())
		}
		for _, a := range wrongAttrs() {
			refused(m, ten(), a)
		}
	}
}

func TestChain(t *testing.T) {
	pref := []api.Clause{lets(1, func(s *api.Set) { s.Pref, s.Prepend = 200, []int{7} })}
	tag := []api.Clause{{N: 2, Permit: true, Match: api.Match{Path: "^7"}, Set: but(func(s *api.Set) { s.Add = []api.Comm{{AS: 7, N: 7}} })}}
	tagged := []api.Clause{{N: 3, Match: api.Match{Comm: api.Comm{AS: 7, N: 7}}, Set: nothing()}, lets(4, func(s *api.Set) { s.Med = 4 })}
	long := []api.Clause{lets(5, func(s *api.Set) { s.Prepend = rising(1, 15) })}
	wrong := numbered(2, 1)
	passed := func(clause int, do func(a *api.Attr)) Result {
		r := Result{Pass: true, Attr: plain(), Clause: clause}
		do(&r.Attr)
		return r
	}
	comms := []api.Comm{{AS: 7, N: 7}}
	for _, x := range []struct {
		name string
		maps [][]api.Clause
		want Result
	}{
		{"none", nil, passed(0, func(*api.Attr) {})},
		{"none, not nil", [][]api.Clause{}, passed(0, func(*api.Attr) {})},
		{"one", [][]api.Clause{pref}, passed(1, func(a *api.Attr) { a.Pref, a.Path = 200, []int{7} })},
		{"the second one is met by what the first one made", [][]api.Clause{pref, tag}, passed(2, func(a *api.Attr) { a.Pref, a.Path, a.Comms = 200, []int{7}, comms })},
		{"the other way round the first one isn't", [][]api.Clause{tag, pref}, Result{}},
		{"the third one denies what the second one made", [][]api.Clause{pref, tag, tagged}, Result{Clause: 3}},
		{"without it it passes", [][]api.Clause{pref, tagged}, passed(4, func(a *api.Attr) { a.Pref, a.Med, a.Path = 200, 4, []int{7} })},
		{"the same one twice", [][]api.Clause{pref, pref}, passed(1, func(a *api.Attr) { a.Pref, a.Path = 200, []int{7, 7} })},
		{"one without clauses, last", [][]api.Clause{pref, {}}, Result{}},
		{"one without clauses, first", [][]api.Clause{nil, pref}, Result{}},
		{"one without clauses, alone", [][]api.Clause{nil}, Result{}},
		{"16 numbers", [][]api.Clause{pref, long}, passed(5, func(a *api.Attr) { a.Pref, a.Path = 200, append(rising(1, 15), 7) })},
		{"more", [][]api.Clause{pref, pref, long}, Result{Clause: 5, E: api.ErrLong}},
		{"more, and one that would let pass", [][]api.Clause{pref, pref, long, tagged}, Result{Clause: 5, E: api.ErrLong}},
		{"none that is a map", [][]api.Clause{wrong}, Result{E: api.ErrArg}},
		{"one that is no map, last", [][]api.Clause{pref, wrong}, Result{E: api.ErrArg}},
		{"one that is no map, first", [][]api.Clause{wrong, pref}, Result{E: api.ErrArg}},
		{"one that is no map, behind one that lets nothing pass", [][]api.Clause{tag, wrong}, Result{}},
		{"one that is no map, behind one that denies", [][]api.Clause{pref, tag, tagged, wrong}, Result{Clause: 3}},
		{"one that is no map, behind what can't be done", [][]api.Clause{pref, pref, long, wrong}, Result{Clause: 5, E: api.ErrLong}},
		{"one behind what lets nothing pass", [][]api.Clause{pref, {}, numbered(9)}, Result{}},
		{"many", slices.Repeat([][]api.Clause{numbered(9)}, 1000), passed(9, func(*api.Attr) {})},
	} {
		if got := Chain(x.maps, lists(), ten(), plain()); !like(got, x.want) {
			t.Errorf("%s: %v, not %v", x.name, got, x.want)
		}
	}
}

func TestChainOfNone(t *testing.T) {
	for _, a := range append(fullest(), full()) {
		if got := Chain(nil, lists(), ten(), a); !like(got, Result{Pass: true, Attr: a}) {
			t.Errorf("Chain of no maps, %v: %v", a, got)
		}
	}
}

func TestChainWrong(t *testing.T) {
	refused := func(p api.Prefix, a api.Attr) {
		t.Helper()
		for _, maps := range [][][]api.Clause{nil, {}, {nil}, {numbered(1)}, {numbered(1), numbered(1)}, {numbered(0)}, {{{N: 1, Set: nothing()}}}} {
			if got := Chain(maps, lists(), p, a); !like(got, Result{E: api.ErrArg}) {
				t.Errorf("Chain(%v, %v, %v): %v", maps, p, a, got)
			}
		}
	}
	for _, p := range wrongPrefixes() {
		refused(p, plain())
		refused(p, full())
	}
	for _, a := range wrongAttrs() {
		refused(ten(), a)
	}
	for _, m := range wrongMaps() {
		for _, maps := range [][][]api.Clause{{m}, {numbered(1), m}, {m, numbered(1)}} {
			if got := Chain(maps, lists(), ten(), plain()); !like(got, Result{E: api.ErrArg}) {
				t.Errorf("Chain(%v): %v", maps, got)
			}
		}
	}
}

func TestOpen(t *testing.T) {
	clause := func(permit bool, m api.Match, do func(s *api.Set)) api.Clause {
		return api.Clause{Permit: permit, Match: m, Set: but(do)}
	}
	asks := api.Match{List: "ten", Path: "^1", Comm: api.Comm{AS: 1, N: 1}}
	open := clause(true, api.Match{}, same)
	prepends := func(s *api.Set) { s.Prepend = []int{1} }
	adds := func(s *api.Set) { s.Add = row(1, 1) }
	changes := func(s *api.Set) { s.Pref, s.Med, s.Origin, s.Clear, s.Del = 1, 2, 2, true, row(1, 8) }
	for _, x := range []struct {
		name string
		m    []api.Clause
		want bool
	}{
		{"none", nil, false},
		{"one", []api.Clause{open}, true},
		{"one that changes", []api.Clause{clause(true, api.Match{}, changes)}, true},
		{"one whose lists are empty", []api.Clause{clause(true, api.Match{}, func(s *api.Set) { s.Add, s.Del, s.Prepend = []api.Comm{}, []api.Comm{}, []int{} })}, true},
		{"a community with the AS 0", []api.Clause{clause(true, api.Match{Comm: api.Comm{N: 9}}, same)}, true},
		{"one that denies", []api.Clause{clause(false, api.Match{}, same)}, false},
		{"one that prepends", []api.Clause{clause(true, api.Match{}, prepends)}, false},
		{"one that adds", []api.Clause{clause(true, api.Match{}, adds)}, false},
		{"one that clears and adds", []api.Clause{clause(true, api.Match{}, func(s *api.Set) { s.Clear, s.Add = true, row(1, 1) })}, false},
		{"one that asks for a list", []api.Clause{clause(true, api.Match{List: "TEN"}, same)}, false},
		{"one that asks for a path that all meet", []api.Clause{clause(true, api.Match{Path: ".*"}, same)}, false},
		{"one that asks for a community", []api.Clause{clause(true, api.Match{Comm: api.Comm{AS: 1}}, same)}, false},
		{"one that asks for a community that may not be", []api.Clause{clause(true, api.Match{Comm: api.Comm{AS: -1}}, same)}, false},
		{"behind one that permits", []api.Clause{clause(true, asks, same), open}, true},
		{"behind one that permits and changes", []api.Clause{clause(true, asks, changes), open}, true},
		{"behind one that denies", []api.Clause{clause(false, asks, same), open}, false},
		{"behind one that denies, and is never met", []api.Clause{clause(false, api.Match{Path: "("}, same), open}, false},
		{"behind one that prepends", []api.Clause{clause(true, asks, prepends), open}, false},
		{"behind one that adds", []api.Clause{clause(true, asks, adds), open}, false},
		{"behind one that all meet and that denies", []api.Clause{clause(false, api.Match{}, same), open}, false},
		{"behind one that all meet and that prepends", []api.Clause{clause(true, api.Match{}, prepends), open}, false},
		{"ahead of one that denies", []api.Clause{open, clause(false, asks, same)}, true},
		{"ahead of one that denies all", []api.Clause{open, clause(false, api.Match{}, same)}, true},
		{"ahead of ones that prepend and add", []api.Clause{open, clause(true, asks, prepends), clause(true, api.Match{}, adds)}, true},
		{"amid", []api.Clause{clause(true, asks, changes), clause(true, asks, same), open, clause(false, api.Match{}, same)}, true},
		{"behind two, the second of which denies", []api.Clause{clause(true, asks, same), clause(false, asks, same), open}, false},
		{"two, one denying between", []api.Clause{open, clause(false, asks, same), open}, true},
		{"behind 15", append(slices.Repeat([]api.Clause{clause(true, asks, same)}, 15), open), true},
		{"behind 15 that ask, without one", slices.Repeat([]api.Clause{clause(true, asks, same)}, 16), false},
		{"behind 16", append(slices.Repeat([]api.Clause{clause(true, asks, same)}, 16), open), false},
		{"ahead of 15", append([]api.Clause{open}, slices.Repeat([]api.Clause{clause(false, asks, same)}, 15)...), true},
		{"ahead of 16", append([]api.Clause{open}, slices.Repeat([]api.Clause{clause(false, asks, same)}, 16)...), false},
	} {
		for i := range x.m {
			x.m[i].N = 10 * (i + 1)
		}
		if got := Open(x.m); got != x.want {
			t.Errorf("%s: %v", x.name, got)
		}
		if x.want {
			passAll(t, x.m)
		}
	}
}

// TestOpenWrong: what is no map isn't open, whatever its clauses are.
func TestOpenWrong(t *testing.T) {
	for _, m := range wrongMaps() {
		if Open(m) {
			t.Errorf("Open(%v): true", m)
		}
	}
	for _, s := range wrongSets() {
		if m := append(numbered(1), api.Clause{N: 2, Set: s}); Open(m) {
			t.Errorf("Open(%v): true", m)
		}
	}
}

// spoil writes over all that attributes' lists have room for.
func spoil(a api.Attr) {
	clear(a.Path[:cap(a.Path)])
	clear(a.Comms[:cap(a.Comms)])
	clear(a.Clusters[:cap(a.Clusters)])
}

// TestMemory: what is told is new memory: writing it over changes nothing that was handed in, nor a later answer, nor does writing over what was handed in.
func TestMemory(t *testing.T) {
	for _, x := range changing() {
		m, l, a := []api.Clause{x.c}, lists(), full()
		mine := twinMap(m)
		for _, ask := range []func() Result{
			func() Result { return Run(m, l, ten(), a) },
			func() Result { return Chain([][]api.Clause{m}, l, ten(), a) },
			func() Result { return Chain([][]api.Clause{m, numbered(1)}, l, ten(), a) },
			func() Result { return Chain([][]api.Clause{numbered(1), m}, l, ten(), a) },
			func() Result { return Chain(nil, l, ten(), a) },
		} {
			first, second := ask(), ask()
			was := twinResult(first)
			spoil(first.Attr)
			if !reflect.DeepEqual(twinMap(m), mine) || !reflect.DeepEqual(l, lists()) || !reflect.DeepEqual(a, full()) {
				t.Fatalf("%s: the answer shares memory with what was handed in", x.name)
			}
			if !like(second, was) || !like(ask(), was) {
				t.Fatalf("%s: two answers share memory", x.name)
			}
			spoil(a)
			a = full()
			if !like(second, was) {
				t.Fatalf("%s: the answer keeps what was handed in", x.name)
			}
		}
	}
}

// TestMemoryOfClauses: what a clause prepends and adds isn't kept by what comes of it.
func TestMemoryOfClauses(t *testing.T) {
	c := lets(1, func(s *api.Set) { s.Prepend, s.Add, s.Del = []int{8, 9}, row(1, 3), row(2, 1) })
	m := []api.Clause{c}
	for _, a := range []api.Attr{plain(), full()} {
		r := Run(m, nil, ten(), a)
		was := twinResult(r)
		mine := twinMap(m)
		spoil(r.Attr)
		if !reflect.DeepEqual(twinMap(m), mine) {
			t.Fatalf("the answer shares memory with a clause: %v", m)
		}
		r = Run(m, nil, ten(), a)
		clear(c.Set.Prepend)
		clear(c.Set.Add)
		if !like(r, was) {
			t.Fatalf("the answer keeps what a clause has: %v", r)
		}
		copy(c.Set.Prepend, mine[0].Set.Prepend)
		copy(c.Set.Add, mine[0].Set.Add)
	}
}

// TestRoomStays: what stands behind lists that are handed in is left alone.
func TestRoomStays(t *testing.T) {
	path, comms, clusters, prepend, added := rising(1, 8), row(1, 8), rising(21, 8), rising(11, 8), row(11, 8)
	a := api.Attr{Path: path[:2], Comms: comms[:2], Clusters: clusters[:2]}
	clauses := []api.Clause{lets(1, func(s *api.Set) { s.Prepend, s.Add, s.Del = prepend[:2], added[:2], comms[2:4] }), {N: 2}, {N: 3}}
	maps := [][]api.Clause{clauses[:1], clauses[:2], {}}
	want := twinMap(clauses)
	for range 2 {
		if r := Run(clauses[:1], nil, ten(), a); !r.Pass {
			t.Fatal("Run:", r)
		}
		if r := Chain(maps[:2], nil, ten(), a); !r.Pass {
			t.Fatal("Chain:", r)
		}
		if !May(clauses[:1]) || Open(clauses[:1]) || !Met(clauses[0], nil, ten(), a) {
			t.Fatal("May, Open or Met")
		}
	}
	if !slices.Equal(path, rising(1, 8)) || !slices.Equal(comms, row(1, 8)) || !slices.Equal(clusters, rising(21, 8)) ||
		!slices.Equal(prepend, rising(11, 8)) || !slices.Equal(added, row(11, 8)) || !reflect.DeepEqual(twinMap(clauses), want) ||
		len(maps[2]) != 0 {
		t.Error("what stands behind the lists has changed")
	}
}
