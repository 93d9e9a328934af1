package topo

import (
	"cmp"
	"math"
	"math/rand"
	"reflect"
	"slices"
	"testing"

	"whirligig/api"
	"whirligig/show"
)

// bared is a value in memory of its own, without lists that are empty but not nil.
func bared[T any](x T) T {
	bare(reflect.ValueOf(&x).Elem())
	return x
}

// bare makes empty lists nil and others new, in what a value has.
func bare(v reflect.Value) {
	switch v.Kind() {
	case reflect.Slice:
		if v.Len() == 0 {
			v.SetZero()
			return
		}
		list := reflect.MakeSlice(v.Type(), v.Len(), v.Len())
		reflect.Copy(list, v)
		v.Set(list)
		for i := range v.Len() {
			bare(v.Index(i))
		}
	case reflect.Struct:
		for i := range v.NumField() {
			bare(v.Field(i))
		}
	}
}

// alike tells whether two values are the same, nil and empty lists being one.
func alike[T any](a, b T) bool { return reflect.DeepEqual(bared(a), bared(b)) }

// flaw is a fault that the judge found, and where it stands in the document's order.
type flaw struct {
	place []int
	fault Fault
}

// flaws is all faults of a configuration, each looked for as if there were no other one.
func flaws(c api.Config) []flaw {
	var all []flaw
	found := func(wrong bool, router, name string, e api.Errno, place ...int) {
		if wrong {
			all = append(all, flaw{place, Fault{router, name, e}})
		}
	}
	for i, m := range c.Maps {
		for k, x := range m.Clauses {
			is := slices.ContainsFunc(c.Lists, func(l api.List) bool { return l.Name == x.Match.List })
			found(x.Match.List != "" && !is, "", x.Match.List, api.ErrName, 0, i, k)
		}
	}
	noMap := func(s string) bool {
		return s != "" && !slices.ContainsFunc(c.Maps, func(m api.Map) bool { return m.Name == s })
	}
	for i, r := range c.Routers {
		for _, other := range c.Routers[:i] {
			found(r.ID == other.ID, r.Name, r.Name, api.ErrTwice, 1, i, 0)
		}
		for k, b := range r.Neighbors {
			there, is := routerOf(c, b.Name)
			names := neighborNames(there)
			found(!is, r.Name, b.Name, api.ErrName, 1, i, 1, k, 0)
			found(b.Name == r.Name, r.Name, b.Name, api.ErrSelf, 1, i, 1, k, 1)
			found(noMap(b.Import), r.Name, b.Import, api.ErrName, 1, i, 1, k, 2)
			found(noMap(b.Export), r.Name, b.Export, api.ErrName, 1, i, 1, k, 3)
			found(b.Client && there.AS != r.AS, r.Name, b.Name, api.ErrState, 1, i, 1, k, 4)
			found(!slices.Contains(names, r.Name), r.Name, b.Name, api.ErrPair, 1, i, 1, k, 5)
		}
		for k, l := range r.Links {
			there, is := routerOf(c, l.Name)
			cost, back := linkOf(there, r.Name)
			found(!is, r.Name, l.Name, api.ErrName, 1, i, 2, k, 0)
			found(l.Name == r.Name, r.Name, l.Name, api.ErrSelf, 1, i, 2, k, 1)
			found(there.AS != r.AS, r.Name, l.Name, api.ErrState, 1, i, 2, k, 2)
			found(!back || cost != l.Cost, r.Name, l.Name, api.ErrPair, 1, i, 2, k, 3)
		}
	}
	return all
}

// routerOf is the router of a name.
func routerOf(c api.Config, name string) (api.Router, bool) {
	for _, r := range c.Routers {
		if r.Name == name {
			return r, true
		}
	}
	return api.Router{}, false
}

// linkOf is the cost of a router's link by its name.
func linkOf(r api.Router, name string) (int, bool) {
	for _, l := range r.Links {
		if l.Name == name {
			return l.Cost, true
		}
	}
	return 0, false
}

// neighborNames is the names of a router's neighbors.
func neighborNames(r api.Router) []string {
	var l []string
	for _, b := range r.Neighbors {
		l = append(l, b.Name)
	}
	return l
}

// judged is the fault that Make must tell.
func judged(c api.Config) Fault {
	if !show.May(c) {
		return Fault{E: api.ErrArg}
	}
	all := flaws(c)
	if len(all) == 0 {
		return Fault{}
	}
	return slices.MinFunc(all, func(a, b flaw) int { return slices.Compare(a.place, b.place) }).fault
}

// side is what one asks of two routers.
type side struct {
	Peer     Peer
	IsPeer   bool
	Cost     int
	IsLinked bool
}

// answers is all that a network tells: the numbers from two less than the first one to two more than the last one, and all names and prefixes that are thought of.
type answers struct {
	Len      int
	Numbers  []int
	Routers  []api.Router
	Peers    [][]Peer
	Sides    [][]side
	Lists    [][]api.Range
	Maps     [][]api.Clause
	Prefixes []api.Prefix
	Origins  [][]int
}

// around is the numbers that are asked for, of a network with so many routers.
func around(n int) []int {
	l := []int{math.MinInt, -n, -2, -1, 0}
	for i := range n + 2 {
		l = append(l, i+1)
	}
	return append(l, 1<<32, 1<<32+1, math.MaxInt)
}

// namesOf is all names that stand in a configuration, and some more.
func namesOf(c api.Config) []string {
	l := []string{"", "lost", "A", "r", "abcdefghijklm"}
	for _, x := range c.Lists {
		l = append(l, x.Name)
	}
	for _, x := range c.Maps {
		l = append(l, x.Name)
	}
	for _, x := range c.Routers {
		l = append(l, x.Name)
	}
	return l
}

// prefixesOf is all networks of a configuration in the order in which they are told, and some more prefixes.
func prefixesOf(c api.Config) []api.Prefix {
	l := []api.Prefix{{}, {Addr: 1}, {Bits: -1}, {Bits: 33}, {Addr: 10 << 24, Bits: 7}, {Addr: 10<<24 | 1, Bits: 8}, {Addr: 203 << 24, Bits: 8}}
	for _, r := range c.Routers {
		l = append(l, r.Networks...)
	}
	return l
}

// asked is what a network answers to all that can be asked, with the names and prefixes of a configuration.
func asked(n *Net, c api.Config) answers {
	a := answers{Len: n.Len(), Prefixes: n.Prefixes()}
	for _, i := range around(len(c.Routers)) {
		a.Routers = append(a.Routers, n.Router(i))
		a.Peers = append(a.Peers, n.Peers(i))
		var row []side
		for _, k := range around(len(c.Routers)) {
			var s side
			s.Peer, s.IsPeer = n.Peer(i, k)
			s.Cost, s.IsLinked = n.Link(i, k)
			row = append(row, s)
		}
		a.Sides = append(a.Sides, row)
	}
	for _, s := range namesOf(c) {
		a.Numbers = append(a.Numbers, n.Number(s))
		a.Lists = append(a.Lists, n.List(s))
		a.Maps = append(a.Maps, n.Map(s))
	}
	for _, p := range prefixesOf(c) {
		a.Origins = append(a.Origins, n.Origins(p))
	}
	return a
}

// wanted is what a sound configuration's network must answer to all that can be asked.
func wanted(c api.Config) answers {
	a := answers{Len: len(c.Routers), Prefixes: wantedPrefixes(c)}
	for _, i := range around(len(c.Routers)) {
		var r api.Router
		if i >= 1 && i <= len(c.Routers) {
			r = c.Routers[i-1]
		}
		a.Routers = append(a.Routers, r)
		var row []side
		var peers []Peer
		for _, k := range around(len(c.Routers)) {
			var s side
			if k >= 1 && k <= len(c.Routers) {
				s = wantedSide(r, c.Routers[k-1], k)
			}
			row = append(row, s)
			if s.IsPeer {
				peers = append(peers, s.Peer)
			}
		}
		a.Sides, a.Peers = append(a.Sides, row), append(a.Peers, peers)
	}
	for _, s := range namesOf(c) {
		number, _ := find(len(c.Routers), func(i int) bool { return c.Routers[i].Name == s })
		list, isList := find(len(c.Lists), func(i int) bool { return c.Lists[i].Name == s })
		clauses, isMap := find(len(c.Maps), func(i int) bool { return c.Maps[i].Name == s })
		a.Numbers, a.Lists, a.Maps = append(a.Numbers, number), append(a.Lists, nil), append(a.Maps, nil)
		if isList {
			a.Lists[len(a.Lists)-1] = c.Lists[list-1].Rules
		}
		if isMap {
			a.Maps[len(a.Maps)-1] = c.Maps[clauses-1].Clauses
		}
	}
	for _, p := range prefixesOf(c) {
		var l []int
		for i, r := range c.Routers {
			for _, q := range r.Networks {
				if q == p {
					l = append(l, i+1)
				}
			}
		}
		a.Origins = append(a.Origins, l)
	}
	return a
}

// find is the place, from 1 on, of the first one that is asked for.
func find(n int, is func(i int) bool) (int, bool) {
	for i := range n {
		if is(i) {
			return i + 1, true
		}
	}
	return 0, false
}

// wantedSide is what a router has with the other one, whose number is k.
func wantedSide(r, other api.Router, k int) side {
	var s side
	for _, b := range r.Neighbors {
		if b.Name == other.Name {
			s.Peer, s.IsPeer = Peer{To: k, Outer: r.AS != other.AS, Client: b.Client, Import: b.Import, Export: b.Export}, true
		}
	}
	s.Cost, s.IsLinked = linkOf(r, other.Name)
	return s
}

// wantedPrefixes is all networks, each once, by address and then by fewer bits.
func wantedPrefixes(c api.Config) []api.Prefix {
	var l []api.Prefix
	for _, r := range c.Routers {
		for _, p := range r.Networks {
			i, is := slices.BinarySearchFunc(l, p, func(a, b api.Prefix) int { return cmp.Or(cmp.Compare(a.Addr, b.Addr), cmp.Compare(a.Bits, b.Bits)) })
			if !is {
				l = slices.Insert(l, i, p)
			}
		}
	}
	return l
}

// held asks of a configuration all that 14.1 to 14.3 say of it, and tells Make's fault.
func held(t *testing.T, c api.Config) Fault {
	t.Helper()
	was := bared(c)
	want := judged(c)
	n, f := Make(c)
	if f != want || (n == nil) != (want != Fault{}) {
		t.Errorf("Make(%+v): %v, %+v, not %+v", c, n != nil, f, want)
		return want
	}
	if !alike(c, was) {
		t.Errorf("%+v was changed to %+v", was, c)
	}
	if n == nil {
		return f
	}
	got := asked(n, c)
	if want := wanted(c); !alike(got, want) {
		t.Errorf("of %+v\nis told %+v\nnot %+v", c, got, want)
	}
	fromBothSides(t, n)
	return f
}

// fromBothSides asks whether sessions and links are there from both sides, of one kind, and none with itself.
func fromBothSides(t *testing.T, n *Net) {
	t.Helper()
	for i := range n.Len() + 1 {
		for k := range n.Len() + 1 {
			p, isP := n.Peer(i, k)
			q, isQ := n.Peer(k, i)
			if isP != isQ || p.Outer != q.Outer || i == k && isP || isP && (p.To != k || q.To != i) {
				t.Errorf("a session of %d and %d: %+v %v, but %+v %v", i, k, p, isP, q, isQ)
			}
			a, isA := n.Link(i, k)
			b, isB := n.Link(k, i)
			if a != b || isA != isB || i == k && isA || isA && n.Router(i).AS != n.Router(k).AS {
				t.Errorf("a link of %d and %d: %d %v, but %d %v", i, k, a, isA, b, isB)
			}
		}
	}
}

// byName is a network's sessions and links with names for numbers, by the two names.
func byName(n *Net) map[[2]string]side {
	all := map[[2]string]side{}
	for i := 1; i <= n.Len(); i++ {
		for k := 1; k <= n.Len(); k++ {
			var s side
			s.Peer, s.IsPeer = n.Peer(i, k)
			s.Cost, s.IsLinked = n.Link(i, k)
			s.Peer.To = 0
			if s != (side{}) {
				all[[2]string{n.Router(i).Name, n.Router(k).Name}] = s
			}
		}
	}
	return all
}

// reordered is a configuration with its routers in another order: the one that was at order[i] comes to i.
func reordered(c api.Config, order []int) api.Config {
	other := c
	other.Routers = nil
	for _, i := range order {
		other.Routers = append(other.Routers, c.Routers[i])
	}
	return other
}

// anyOrder asks whether a configuration is as sound, with the same sessions and links, with its routers in another order.
func anyOrder(t *testing.T, c api.Config, order []int) {
	t.Helper()
	n, f := Make(c)
	m, g := Make(reordered(c, order))
	if (f == Fault{}) != (g == Fault{}) {
		t.Errorf("%+v: %+v, but in the order %v %+v", c, f, order, g)
		return
	}
	if !reflect.DeepEqual(byName(n), byName(m)) {
		t.Errorf("%+v: %v, but in the order %v %v", c, byName(n), order, byName(m))
	}
}

// others is values to which a value can be changed.
func others(v reflect.Value) []any {
	switch v.Kind() {
	case reflect.Int:
		return []any{-1, 0, 1, 2, 3, 4, 7, 8, 9, 11, 12, 13, 14, 15, 16, 17, 18, 20, 65535, 65536, math.MaxInt}
	case reflect.Uint32:
		return []any{uint32(0), uint32(1), uint32(10 << 24), uint32(11 << 24), uint32(math.MaxUint32)}
	case reflect.Bool:
		return []any{false, true}
	case reflect.String:
		return []any{"", "lost", "A", "in", "out", "bare", "wide", "zed", "mid", "b", "a1", "a10", "top", "far", "alone", "(", "^1$"}
	}
	l := []any{reflect.Zero(v.Type()).Interface(), reflect.MakeSlice(v.Type(), 0, 3).Interface()}
	for i := range v.Len() {
		less := reflect.AppendSlice(reflect.MakeSlice(v.Type(), 0, v.Len()), v.Slice(0, i))
		l = append(l, reflect.AppendSlice(less, v.Slice(i+1, v.Len())).Interface())
		more := reflect.AppendSlice(reflect.MakeSlice(v.Type(), 0, v.Len()+1), v)
		l = append(l, reflect.Append(more, v.Index(i)).Interface())
	}
	back := reflect.AppendSlice(reflect.MakeSlice(v.Type(), 0, v.Len()), v)
	swap := reflect.Swapper(back.Interface())
	for i := range back.Len() / 2 {
		swap(i, back.Len()-1-i)
	}
	return append(l, back.Interface())
}

// each hands on whatever can be changed in a value.
func each(v reflect.Value, to func(reflect.Value)) {
	if v.Kind() == reflect.Struct {
		for i := range v.NumField() {
			each(v.Field(i), to)
		}
		return
	}
	to(v)
	if v.Kind() == reflect.Slice {
		for i := range v.Len() {
			each(v.Index(i), to)
		}
	}
}

// places is how many places a configuration has at which it can be changed.
func places(c api.Config) int {
	n := 0
	each(reflect.ValueOf(&c).Elem(), func(reflect.Value) { n++ })
	return n
}

// changes is a configuration that is changed at a place, in memory of its own, to each value that is thought of for it.
func changes(c api.Config, place int) []api.Config {
	var l []api.Config
	for i, many := 0, 1; i < many; i++ {
		other, n := bared(c), 0
		var here reflect.Value
		each(reflect.ValueOf(&other).Elem(), func(v reflect.Value) {
			if n == place {
				here = v
			}
			n++
		})
		values := others(here)
		many = len(values)
		here.Set(reflect.ValueOf(values[i]))
		l = append(l, other)
	}
	return l
}

// reached asks whether each errno that Make can tell was told often enough.
func reached(t *testing.T, got map[api.Errno]int, least int) {
	t.Helper()
	for _, e := range []api.Errno{api.OK, api.ErrArg, api.ErrName, api.ErrTwice, api.ErrSelf, api.ErrState, api.ErrPair} {
		if got[e] < least {
			t.Errorf("too few of %d: %v", e, got)
		}
	}
}

func TestOneThingOtherwise(t *testing.T) {
	got := map[api.Errno]int{}
	r := rand.New(rand.NewSource(14))
	c := wholeConfig(t)
	for place := range places(c) {
		for _, other := range changes(c, place) {
			f := held(t, other)
			got[f.E]++
			if f.E != api.ErrArg {
				anyOrder(t, other, r.Perm(len(other.Routers)))
			}
		}
	}
	reached(t, got, 10)
}

func TestSomeThingsOtherwise(t *testing.T) {
	got := map[api.Errno]int{}
	r := rand.New(rand.NewSource(15))
	for range 4000 {
		c := wholeConfig(t)
		for range 2 + r.Intn(4) {
			l := changes(c, r.Intn(places(c)))
			other := l[r.Intn(len(l))]
			if show.May(other) {
				c = other
			}
		}
		f := held(t, c)
		got[f.E]++
		anyOrder(t, c, r.Perm(len(c.Routers)))
	}
	got[api.ErrArg] = 10 // such ones were left out
	reached(t, got, 10)
}

// TestSmallWorld goes over all configurations of two routers that tell few things of few kinds.
func TestSmallWorld(t *testing.T) {
	neighbors := [][]api.Neighbor{
		nil, {{Name: "a"}}, {{Name: "b"}}, {{Name: "lost"}}, {{Name: "a", Client: true}}, {{Name: "b", Client: true}},
		{{Name: "a", Import: "m", Export: "m"}}, {{Name: "b", Import: "lost"}}, {{Name: "a", Export: "lost"}}, {{Name: "a", Import: "out", Export: "in", Client: true}},
		{{Name: "a"}, {Name: "b"}}, {{Name: "b", Client: true}, {Name: "lost"}}, {{Name: "lost", Import: "in", Client: true}},
	}
	links := [][]api.Link{
		nil, {{Name: "a"}}, {{Name: "b"}}, {{Name: "b", Cost: 1}}, {{Name: "a", Cost: 1}}, {{Name: "lost"}}, {{Name: "b"}, {Name: "a"}}, {{Name: "a", Cost: 1}, {Name: "b"}},
	}
	got := map[api.Errno]int{}
	for kind := range 4 {
		for _, ofA := range neighbors {
			for _, ofB := range neighbors {
				for _, fromA := range links {
					for _, fromB := range links {
						c := api.Config{Maps: []api.Map{{Name: "m"}}, Routers: []api.Router{
							{Name: "a", AS: 1, ID: 1, Neighbors: ofA, Links: fromA},
							{Name: "b", AS: 1 + kind&1, ID: 2 - kind>>1, Neighbors: ofB, Links: fromB},
						}}
						n, f := Make(c)
						if want := judged(c); f != want || (n == nil) != (f != Fault{}) {
							t.Fatalf("Make(%+v): %+v, not %+v", c, f, want)
						}
						if n != nil {
							held(t, c)
						}
						got[f.E]++
						anyOrder(t, c, []int{1, 0})
					}
				}
			}
		}
	}
	got[api.ErrArg] = 20 // each one may be
	reached(t, got, 20)
}
