package session

import (
	"math/rand"
	"slices"
	"strconv"
	"testing"

	"whirligig/api"
	"whirligig/topo"
)

// doing is a map as the judge knows it: its clauses, and what they do, without asking the layers below.
type doing struct {
	clauses []api.Clause
	do      func(p api.Prefix, a api.Attr) (api.Attr, bool)
}

// lets is a clause that permits, and may change something.
func lets(n int, m api.Match, do func(s *api.Set)) api.Clause {
	s := api.Set{Pref: -1, Med: -1, Origin: -1}
	do(&s)
	return api.Clause{N: n, Permit: true, Match: m, Set: s}
}

// doings is maps by their names; the empty name is that of none.
func doings() map[string]doing {
	nothing := func(*api.Set) {}
	tens := func(p api.Prefix) bool { return p.Addr>>24 == 10 && p.Bits >= 8 }
	return map[string]doing{
		"":     {nil, func(_ api.Prefix, a api.Attr) (api.Attr, bool) { return a, true }},
		"bare": {nil, func(_ api.Prefix, a api.Attr) (api.Attr, bool) { return a, false }},
		"open": {[]api.Clause{lets(1, api.Match{}, nothing)}, func(_ api.Prefix, a api.Attr) (api.Attr, bool) { return a, true }},
		"shut": {[]api.Clause{{N: 1}}, func(_ api.Prefix, a api.Attr) (api.Attr, bool) { return a, false }},
		"pref": {
			[]api.Clause{lets(1, api.Match{}, func(s *api.Set) { s.Pref, s.Med = 300, 9 })},
			func(_ api.Prefix, a api.Attr) (api.Attr, bool) { a.Pref, a.Med = 300, 9; return a, true },
		},
		"tens": {
			[]api.Clause{lets(1, api.Match{List: "tens"}, nothing)},
			func(p api.Prefix, a api.Attr) (api.Attr, bool) { return a, tens(p) },
		},
		"else": {
			[]api.Clause{{N: 1, Match: api.Match{List: "tens"}}, lets(2, api.Match{List: "all"}, func(s *api.Set) { s.Origin = 2 })},
			func(p api.Prefix, a api.Attr) (api.Attr, bool) { a.Origin = 2; return a, !tens(p) },
		},
		"long": {
			[]api.Clause{lets(1, api.Match{}, func(s *api.Set) { s.Prepend = []int{9, 8} })},
			func(_ api.Prefix, a api.Attr) (api.Attr, bool) {
				a.Path = append([]int{9, 8}, a.Path...)
				return a, len(a.Path) <= 16
			},
		},
		"one": {
			[]api.Clause{lets(1, api.Match{Path: "^1"}, nothing), lets(2, api.Match{Comm: api.Comm{AS: 5, N: 5}}, func(s *api.Set) { s.Clear = true })},
			func(_ api.Prefix, a api.Attr) (api.Attr, bool) {
				if len(a.Path) > 0 && a.Path[0] == 1 {
					return a, true
				}
				is := slices.Contains(a.Comms, api.Comm{AS: 5, N: 5})
				a.Comms = nil
				return a, is
			},
		},
	}
}

// side is a session, as one of both has it.
type side struct {
	client  bool
	in, out string
}

// world is routers with sessions; the first router has the number 1.
type world struct {
	as, ids []int
	nets    [][]api.Prefix
	sides   map[[2]int]side
	maps    map[string]doing
}

// config is the configuration of a world.
func (w world) config() api.Config {
	var c api.Config
	for _, name := range []string{"bare", "open", "shut", "pref", "tens", "else", "long", "one"} {
		c.Maps = append(c.Maps, api.Map{Name: name, Clauses: w.maps[name].clauses})
	}
	c.Lists = []api.List{
		{Name: "tens", Rules: []api.Range{{P: ten, Ge: 8, Le: 32, Permit: true}}},
		{Name: "all", Rules: []api.Range{{Le: 32, Permit: true}}},
	}
	for i := range w.as {
		r := api.Router{Name: "r" + strconv.Itoa(i+1), AS: w.as[i], ID: w.ids[i], Networks: w.nets[i]}
		for k := range w.as {
			if s, is := w.sides[[2]int{i + 1, k + 1}]; is {
				r.Neighbors = append(r.Neighbors, api.Neighbor{Name: "r" + strconv.Itoa(k+1), Import: s.in, Export: s.out, Client: s.client})
			}
		}
		c.Routers = append(c.Routers, r)
	}
	return c
}

// prefixes is prefixes that may be, and some that may not be behind the first three.
func prefixes() []api.Prefix {
	return []api.Prefix{ten, {Addr: 10<<24 | 1<<16, Bits: 16}, {Addr: 11 << 24, Bits: 8}, {Addr: 1, Bits: 8}, {Bits: 33}}
}

// drawn is a world of up to some routers.
func drawn(r *rand.Rand, most int, clients bool) world {
	many := 2 + r.Intn(most-1)
	w := world{ids: r.Perm(8)[:many], sides: map[[2]int]side{}, maps: doings()}
	ases := 1 + r.Intn(3)
	for i := range many {
		w.as, w.ids[i] = append(w.as, 1+r.Intn(ases)), w.ids[i]+1
		var nets []api.Prefix
		for _, p := range prefixes()[:3] {
			if r.Intn(3) == 0 {
				nets = append(nets, p)
			}
		}
		w.nets = append(w.nets, nets)
	}
	dense := 1 + r.Intn(4)
	for i := 1; i <= many; i++ {
		for k := 1; k < i; k++ {
			if r.Intn(5) <= dense {
				inner := w.as[i-1] == w.as[k-1]
				w.sides[[2]int{i, k}] = drawnSide(r, clients && inner)
				w.sides[[2]int{k, i}] = drawnSide(r, clients && inner)
			}
		}
	}
	return w
}

// drawnSide is a side of a session.
func drawnSide(r *rand.Rand, clients bool) side {
	name := func() string {
		if r.Intn(2) == 0 {
			return ""
		}
		return []string{"bare", "open", "open", "shut", "pref", "tens", "else", "long", "long", "one"}[r.Intn(10)]
	}
	return side{clients && r.Intn(3) == 0, name(), name()}
}

// drawnAttr is attributes, and whether they may be.
func drawnAttr(r *rand.Rand) (api.Attr, bool) {
	a := api.Attr{Pref: r.Intn(3) * 100, Med: r.Intn(2) * 7, Origin: r.Intn(3), From: r.Intn(9) * r.Intn(2)}
	for range []int{0, 1, 2, 3, 13, 14, 15, 16}[r.Intn(8)] {
		a.Path = append(a.Path, 1+r.Intn(4)*r.Intn(4))
	}
	for _, c := range []api.Comm{{AS: 1}, {AS: 5, N: 5}, noExport, noAdvertise, local} {
		if r.Intn(9) == 0 {
			a.Comms = append(a.Comms, c)
		}
	}
	for _, n := range r.Perm(9)[:[]int{0, 1, 2, 7, 8, 8}[r.Intn(6)]] {
		a.Clusters = append(a.Clusters, n+1)
	}
	if r.Intn(4) > 0 {
		return a, true
	}
	switch r.Intn(4) {
	case 0:
		a.Pref = -1
	case 1:
		a.Origin = 3
	case 2:
		a.From = 65536
	default:
		a.Path = append(a.Path, 0)
	}
	return a, false
}

// inner tells whether two have a session within one AS.
func (w world) inner(i, k int) bool {
	_, is := w.sides[[2]int{i, k}]
	return is && w.as[i-1] == w.as[k-1]
}

// outer tells whether two have a session of two ASes.
func (w world) outer(i, k int) bool {
	_, is := w.sides[[2]int{i, k}]
	return is && !w.inner(i, k)
}

// of is the number at a router's place, 0 where there is no router.
func of(l []int, i int) int {
	if i < 1 || i > len(l) {
		return 0
	}
	return l[i-1]
}

// outWhys is what may stand against telling, in the document's order.
var outWhys = []Why{NoSession, Denied, Back, NoTell, Split, TooLong, Denied, TooLong}

// out is what a router tells if nothing stands against it, and of each why whether it is so, each looked for as if there were no other one.
func (w world) out(i, k int, p api.Prefix, r Route, may bool) (api.Attr, []bool) {
	s, session := w.sides[[2]int{i, k}]
	_, had := w.sides[[2]int{i, r.From}]
	has := func(c api.Comm) bool { return slices.Contains(r.Attr.Comms, c) }
	id, a := of(w.ids, i), r.Attr
	both := w.inner(i, k) && w.inner(i, r.From)
	if both {
		a.Clusters = append([]int{id}, a.Clusters...)
		if a.From == 0 {
			a.From = of(w.ids, r.From)
		}
	}
	if w.outer(i, k) {
		a.Pref, a.From, a.Clusters = 100, 0, nil
		if r.From != 0 {
			a.Med = 0
		}
	}
	mapped, passes := w.maps[s.out].do(p, a)
	if !passes {
		mapped = a
	}
	if w.outer(i, k) {
		mapped.Path = append([]int{of(w.as, i)}, mapped.Path...)
	}
	return mapped, []bool{
		!session,
		!may || r.From != 0 && !had,
		r.From == k,
		has(noAdvertise) || w.outer(i, k) && (has(noExport) || has(local)),
		both && !s.client && !w.sides[[2]int{i, r.From}].client,
		both && (len(r.Attr.Clusters) >= 8 || slices.Contains(r.Attr.Clusters, id)),
		!passes,
		w.outer(i, k) && len(mapped.Path) > 16,
	}
}

// inWhys is what may stand against taking, in the document's order.
var inWhys = []Why{NoSession, Denied, Loop, Denied}

// in is what a router makes of what it was told, likewise.
func (w world) in(k, i int, p api.Prefix, a api.Attr, may bool) (api.Attr, []bool) {
	s, session := w.sides[[2]int{k, i}]
	mapped, passes := w.maps[s.in].do(p, a)
	id := of(w.ids, k)
	return mapped, []bool{
		!session,
		!may,
		w.outer(k, i) && slices.Contains(a.Path, of(w.as, k)) || w.inner(k, i) && (a.From == id || slices.Contains(a.Clusters, id)),
		!passes,
	}
}

// firstOf is the first why of those that are so.
func firstOf(whys []Why, so []bool) Why {
	if i := slices.Index(so, true); i >= 0 {
		return whys[i]
	}
	return Fine
}

// tally counts which two whys were so at once.
type tally map[[2]int]int

func (y tally) add(so []bool) {
	for i := range so {
		for k := range i {
			if so[i] && so[k] {
				y[[2]int{k, i}]++
			}
		}
	}
}

// hold fails if two whys were never so at once, but for those that can't be.
func (y tally) hold(t *testing.T, whys []Why, never ...[2]int) {
	t.Helper()
	for i := range whys {
		for k := range i {
			if two := [2]int{k, i}; y[two] == 0 && !slices.Contains(never, two) {
				t.Errorf("never at once: %d %s and %d %s", k, Name(whys[k]), i, Name(whys[i]))
			}
		}
	}
}

func TestJudge(t *testing.T) {
	r := rand.New(rand.NewSource(17))
	outs, ins, whys := tally{}, tally{}, map[Why]int{}
	for range 1500 {
		w := drawn(r, 5, true)
		n := made(t, w.config())
		for range 120 {
			a, may := drawnAttr(r)
			x := r.Intn(5)
			p := prefixes()[x]
			may = may && x < 3
			i, k, from := r.Intn(7)-1, r.Intn(7)-1, r.Intn(8)-1
			want, so := w.out(i, k, p, Route{a, from}, may)
			outs.add(so)
			whys[firstOf(outWhys, so)]++
			judged(t, n, i, k, p, Route{a, from}, want, firstOf(outWhys, so))
			want, so = w.in(k, i, p, a, may)
			ins.add(so)
			whys[firstOf(inWhys, so)]++
			got, y := in(t, n, k, i, p, a)
			if v := firstOf(inWhys, so); y != v || v == Fine && (!alike(got.Attr, want) || got.From != i) {
				t.Fatalf("In(%d, %d, %v, %v): %v, %s, not %v, %s: %v", k, i, p, a, got, Name(y), want, Name(v), w)
			}
		}
	}
	outs.hold(t, outWhys, [2]int{0, 4}, [2]int{0, 5}, [2]int{0, 6}, [2]int{0, 7}, [2]int{4, 7}, [2]int{5, 7})
	ins.hold(t, inWhys, [2]int{0, 2}, [2]int{0, 3})
	for v := Fine; v <= Loop; v++ {
		if whys[v] < 100 {
			t.Errorf("%s: %d times", Name(v), whys[v])
		}
	}
}

// judged holds Out against the judge, and Pass against Out and then In.
func judged(t *testing.T, n *topo.Net, i, k int, p api.Prefix, r Route, want api.Attr, why Why) {
	t.Helper()
	a, w := out(t, n, i, k, p, r)
	if w != why || w == Fine && !alike(a, want) {
		t.Fatalf("Out(%d, %d, %v, %v): %v, %s, not %v, %s", i, k, p, r, a, Name(w), want, Name(why))
	}
	handed := Route{twin(r.Attr), r.From}
	whole, v := Pass(n, i, k, p, handed)
	last, after := Route{}, w
	if w == Fine {
		last, after = In(n, k, i, p, a)
	}
	if v != after || whole.From != last.From || !alike(whole.Attr, last.Attr) {
		t.Fatalf("Pass(%d, %d, %v, %v): %v, %s, not %v, %s", i, k, p, r, whole, Name(v), last, Name(after))
	}
	kept := twin(whole.Attr)
	spoil(whole.Attr)
	if again, _ := Pass(n, i, k, p, handed); !alike(again.Attr, kept) || !untouched(handed.Attr, r.Attr) {
		t.Fatalf("Pass(%d, %d, %v, %v): %v, and then %v", i, k, p, r, kept, again)
	}
}
