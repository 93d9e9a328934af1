package show

import (
	"math"
	"math/rand"
	"reflect"
	"slices"
	"strings"
	"testing"

	"whirligig/api"
)

// repeated is so many things.
func repeated[T any](n int, thing func(i int) T) []T {
	var l []T
	for i := range n {
		l = append(l, thing(i))
	}
	return l
}

// comms is so many communities, which fall.
func comms(n int) []api.Comm {
	return repeated(n, func(i int) api.Comm { return api.Comm{AS: 65535 - i, N: 65535} })
}

// networks is so many prefixes that are unlike.
func networks(n int) []api.Prefix {
	return repeated(n, func(i int) api.Prefix { return api.Prefix{Addr: uint32(i) << 24, Bits: 8} })
}

// limit is a part of which there may be so many.
type limit struct {
	most int
	make func(n int) api.Config
}

// limits is each such part.
func limits() []limit {
	return []limit{
		{16, func(n int) api.Config {
			return api.Config{Lists: repeated(n, func(i int) api.List { return api.List{Name: name(i, 3)} })}
		}},
		{16, func(n int) api.Config {
			return api.Config{Maps: repeated(n, func(i int) api.Map { return api.Map{Name: name(i, 3)} })}
		}},
		{8, func(n int) api.Config {
			return api.Config{Routers: repeated(n, func(i int) api.Router { return api.Router{Name: name(i, 3), AS: 1, ID: 1} })}
		}},
		{16, func(n int) api.Config { return rules(make([]api.Range, n)...) }},
		{16, func(n int) api.Config {
			return clauses(repeated(n, func(i int) api.Clause { return api.Clause{N: 65535 - n + i + 1, Set: nothing()} })...)
		}},
		{8, func(n int) api.Config { return changing(func(s *api.Set) { s.Add = comms(n) }) }},
		{8, func(n int) api.Config { return changing(func(s *api.Set) { s.Del = comms(n) }) }},
		{8, func(n int) api.Config {
			return changing(func(s *api.Set) { s.Add, s.Del = slices.Repeat([]api.Comm{{AS: 1}}, n), comms(8) })
		}},
		{16, func(n int) api.Config {
			return changing(func(s *api.Set) { s.Prepend = slices.Repeat([]int{65535}, n) })
		}},
		{16, func(n int) api.Config { return router(func(r *api.Router) { r.Networks = networks(n) }) }},
		{16, func(n int) api.Config {
			return router(func(r *api.Router) {
				r.Neighbors = repeated(n, func(i int) api.Neighbor { return api.Neighbor{Name: name(i, 12)} })
			})
		}},
		{16, func(n int) api.Config {
			return router(func(r *api.Router) {
				r.Links = repeated(n, func(i int) api.Link { return api.Link{Name: name(i, 12)} })
			})
		}},
	}
}

func TestHowMany(t *testing.T) {
	for _, l := range limits() {
		for n := range l.most + 1 {
			if e := held(t, l.make(n)); e != api.OK {
				t.Errorf("%d of %d: %d", n, l.most, e)
			}
		}
		for _, n := range []int{l.most + 1, l.most + 2, 2 * l.most, 1000} {
			refused(t, l.make(n))
		}
	}
}

func TestAllThatThereMayBe(t *testing.T) {
	longest := strings.Repeat(".", 64)
	all := api.Config{
		Lists: repeated(16, func(i int) api.List { return api.List{Name: name(i, 12), Rules: make([]api.Range, 16)} }),
		Maps: repeated(16, func(i int) api.Map {
			return api.Map{Name: name(i, 12), Clauses: repeated(16, func(k int) api.Clause {
				return api.Clause{N: 65520 + k, Match: api.Match{List: name(i, 12), Path: longest, Comm: comms(1)[0]}, Set: api.Set{
					Pref: 1 << 20, Med: 1 << 20, Origin: 2, Add: comms(8), Del: comms(8), Clear: true, Prepend: slices.Repeat([]int{65535}, 16),
				}}
			})}
		}),
		Routers: repeated(8, func(i int) api.Router {
			return api.Router{
				Name: name(i, 12), AS: 65535, ID: 65535, Networks: networks(16),
				Neighbors: repeated(16, func(i int) api.Neighbor {
					return api.Neighbor{Name: name(i, 12), Import: "a", Export: "b", Client: true}
				}),
				Links: repeated(16, func(i int) api.Link { return api.Link{Name: name(i, 12), Cost: 65536} }),
			}
		}),
	}
	if s, e := Print(all); !May(all) || s != "" || e != api.ErrLong {
		t.Errorf("%d bytes, %d", len(s), e)
	}
	held(t, all)
	// One map alone can be too long for a text.
	one := api.Config{Maps: all.Maps[:1]}
	if s, e := Print(one); !May(one) || s != "" || e != api.ErrLong {
		t.Errorf("%d bytes, %d", len(s), e)
	}
	// What may not be is told ahead of what is too long.
	all.Routers[7].Links[15].Cost++
	refused(t, all)
}

func TestNames(t *testing.T) {
	in := []func(s string) api.Config{
		func(s string) api.Config { return api.Config{Lists: []api.List{{Name: s}}} },
		func(s string) api.Config { return api.Config{Maps: []api.Map{{Name: s}}} },
		func(s string) api.Config { return api.Config{Routers: []api.Router{{Name: s, AS: 1, ID: 1}}} },
		func(s string) api.Config {
			return router(func(r *api.Router) { r.Neighbors = []api.Neighbor{{Name: s}} })
		},
		func(s string) api.Config { return router(func(r *api.Router) { r.Links = []api.Link{{Name: s}} }) },
		func(s string) api.Config { return asking(api.Match{List: s}) },
		func(s string) api.Config {
			return router(func(r *api.Router) { r.Neighbors = []api.Neighbor{{Name: "n", Import: s}} })
		},
		func(s string) api.Config {
			return router(func(r *api.Router) { r.Neighbors = []api.Neighbor{{Name: "n", Export: s}} })
		},
	}
	const maybes = 3 // the last ones may be left out
	for i, make := range in {
		for _, s := range []string{"a", "z9", "a-b_c", "a--", "abcdefghijkl", "router", "permit", "import", "client", "prefix-list"} {
			if e := held(t, make(s)); e != api.OK {
				t.Errorf("%q: %d", s, e)
			}
		}
		for _, s := range []string{"abcdefghijklm", "A", "aB", "1", "1a", "-", "-a", "_a", "a.b", "a:b", "a/b", "a b", " a", "a ", "a\n", "a;", "a{", "a}", "{", ";", `"a"`, `a"`, "#", "a#b", "\x00", "a\xff", "é", strings.Repeat("a", 5000), "a { } prefix-list b", "n import m"} {
			refused(t, make(s))
		}
		if May(make("")) != (i >= len(in)-maybes) {
			t.Errorf("no name, in %d", i)
		}
		held(t, make(""))
	}
}

func TestNumbers(t *testing.T) {
	for _, c := range []struct {
		from, to int
		make     func(n int) api.Config
	}{
		{1, 65535, func(n int) api.Config { return clauses(api.Clause{N: n, Set: nothing()}) }},
		{-1, 1 << 20, func(n int) api.Config { return changing(func(s *api.Set) { s.Pref = n }) }},
		{-1, 1 << 20, func(n int) api.Config { return changing(func(s *api.Set) { s.Med = n }) }},
		{-1, 2, func(n int) api.Config { return changing(func(s *api.Set) { s.Origin = n }) }},
		{1, 65535, func(n int) api.Config { return changing(func(s *api.Set) { s.Prepend = []int{1, n} }) }},
		{1, 65535, func(n int) api.Config { return router(func(r *api.Router) { r.AS = n }) }},
		{1, 65535, func(n int) api.Config { return router(func(r *api.Router) { r.ID = n }) }},
		{0, 65536, func(n int) api.Config {
			return router(func(r *api.Router) { r.Links = []api.Link{{Name: "n", Cost: n}} })
		}},
		{1, 65535, func(n int) api.Config { return asking(api.Match{Comm: api.Comm{AS: n, N: 1}}) }},
		{0, 65535, func(n int) api.Config { return asking(api.Match{Comm: api.Comm{AS: 1, N: n}}) }},
		{1, 65535, func(n int) api.Config { return changing(func(s *api.Set) { s.Add = []api.Comm{{AS: n}} }) }},
		{1, 65535, func(n int) api.Config { return changing(func(s *api.Set) { s.Del = []api.Comm{{AS: n}} }) }},
		{0, 32, func(n int) api.Config { return router(func(r *api.Router) { r.Networks = []api.Prefix{{Bits: n}} }) }},
	} {
		for _, n := range []int{c.from, c.from + 1, (c.from + c.to) / 2, c.to - 1, c.to} {
			if e := held(t, c.make(n)); e != api.OK {
				t.Errorf("%d: %d", n, e)
			}
		}
		for _, n := range []int{c.from - 1, c.from - 2, c.to + 1, c.to + 2, math.MinInt, math.MaxInt, math.MinInt32, math.MaxInt32, 1 << 32, 1<<32 + 1} {
			refused(t, c.make(n))
		}
	}
}

func TestTwice(t *testing.T) {
	r := api.Router{Name: "a", AS: 1, ID: 1}
	for _, c := range []api.Config{
		{Lists: []api.List{{Name: "a"}, {Name: "a"}}},
		{Lists: []api.List{{Name: "a"}, {Name: "b"}, {Name: "a", Rules: make([]api.Range, 1)}}},
		{Maps: []api.Map{{Name: "a"}, {Name: "a"}}},
		{Maps: []api.Map{{Name: "b"}, {Name: "a"}, {Name: "c"}, {Name: "a"}}},
		{Routers: []api.Router{r, r}},
		{Routers: []api.Router{r, {Name: "b", AS: 2, ID: 2}, {Name: "a", AS: 3, ID: 3}}},
		router(func(r *api.Router) { r.Networks = []api.Prefix{{}, {}} }),
		router(func(r *api.Router) { r.Networks = append(networks(9), networks(1)...) }),
		router(func(r *api.Router) { r.Neighbors = []api.Neighbor{{Name: "n"}, {Name: "n", Client: true}} }),
		router(func(r *api.Router) { r.Neighbors = []api.Neighbor{{Name: "n"}, {Name: "m"}, {Name: "m"}} }),
		router(func(r *api.Router) { r.Links = []api.Link{{Name: "n"}, {Name: "n", Cost: 1}} }),
		router(func(r *api.Router) { r.Links = []api.Link{{Name: "n"}, {Name: "m"}, {Name: "n"}} }),
		clauses(api.Clause{N: 1, Set: nothing()}, api.Clause{N: 1, Set: nothing()}),
		clauses(api.Clause{N: 2, Set: nothing()}, api.Clause{N: 1, Set: nothing()}),
		clauses(api.Clause{N: 1, Set: nothing()}, api.Clause{N: 3, Set: nothing()}, api.Clause{N: 2, Set: nothing()}),
	} {
		refused(t, c)
	}
	// Each kind, and each router, has names of its own; ASes and ids may be there again.
	c := api.Config{
		Lists: []api.List{{Name: "a"}, {Name: "b"}}, Maps: []api.Map{{Name: "a"}, {Name: "b"}},
		Routers: repeated(2, func(i int) api.Router {
			return api.Router{Name: name(i, 2), AS: 1, ID: 1, Networks: networks(2), Neighbors: []api.Neighbor{{Name: "a"}}, Links: []api.Link{{Name: "a"}}}
		}),
	}
	if e := held(t, c); e != api.OK {
		t.Error(e)
	}
	// One address with other bits is another prefix.
	if e := held(t, router(func(r *api.Router) { r.Networks = []api.Prefix{{}, {Bits: 1}, {Bits: 2}} })); e != api.OK {
		t.Error(e)
	}
}

// A clause that nobody filled sets pref, med and origin to what a 0 is.
func TestZeroClause(t *testing.T) {
	refused(t, clauses(api.Clause{}))
	printed(t, clauses(api.Clause{N: 1}), "route-map m {\n deny 1 {\n  set pref 0;\n  set med 0;\n  set origin igp;\n }\n}\n")
	refused(t, api.Config{Routers: make([]api.Router, 1)})
	refused(t, api.Config{Lists: make([]api.List, 1)})
	refused(t, api.Config{Maps: make([]api.Map, 1)})
}

// others is values to which a value can be changed.
func others(v reflect.Value) []any {
	switch v.Kind() {
	case reflect.Int:
		return []any{math.MinInt, -2, -1, 0, 1, 2, 3, 7, 8, 9, 10, 19, 20, 21, 31, 32, 33, 65534, 65535, 65536, 65537, 1 << 20, 1<<20 + 1, math.MaxInt}
	case reflect.Uint32:
		return []any{uint32(0), uint32(1), uint32(1 << 23), uint32(10 << 24), uint32(11 << 24), uint32(1 << 31), uint32(math.MaxUint32)}
	case reflect.Bool:
		return []any{false, true}
	case reflect.String:
		return []any{"", "a", "in", "r2", "none", "abcdefghijkl", "abcdefghijklm", "A", "a b", "a;", "1", "1 2", "^1$", "(", `"`, " ", strings.Repeat(".", 64), strings.Repeat(".", 65)}
	}
	nothing, empty := reflect.Zero(v.Type()), reflect.MakeSlice(v.Type(), 0, 3)
	l := []any{nothing.Interface(), empty.Interface()}
	last := reflect.Zero(v.Type().Elem())
	if v.Len() > 0 {
		last = v.Index(v.Len() - 1)
		l = append(l, v.Slice(0, v.Len()-1).Interface(), v.Slice(1, v.Len()).Interface())
	}
	for _, n := range []int{v.Len() + 1, 8, 9, 16, 17} {
		more := reflect.AppendSlice(empty, v)
		for more.Len() < n {
			more = reflect.Append(more, last)
		}
		l = append(l, more.Interface())
	}
	back := reflect.AppendSlice(reflect.MakeSlice(v.Type(), 0, v.Len()), v)
	swap := reflect.Swapper(back.Interface())
	for i := range back.Len() / 2 {
		swap(i, back.Len()-1-i)
	}
	return append(l, back.Interface())
}

// each hands on whatever can be changed in a value.
func each(v reflect.Value, to func(reflect.Value)) {
	if v.Kind() == reflect.Struct {
		for i := range v.NumField() {
			each(v.Field(i), to)
		}
		return
	}
	to(v)
	if v.Kind() == reflect.Slice {
		for i := range v.Len() {
			each(v.Index(i), to)
		}
	}
}

// places is how many places a configuration has at which it can be changed.
func places(c api.Config) int {
	n := 0
	each(reflect.ValueOf(&c).Elem(), func(reflect.Value) { n++ })
	return n
}

// changed hands on a configuration that is changed at a place, in memory of its own, to each value that is thought of for it.
func changed(c api.Config, place int, to func(api.Config)) {
	for i, many := 0, 1; i < many; i++ {
		other, n := bared(c), 0
		var here reflect.Value
		each(reflect.ValueOf(&other).Elem(), func(v reflect.Value) {
			if n == place {
				here = v
			}
			n++
		})
		values := others(here)
		many = len(values)
		here.Set(reflect.ValueOf(values[i]))
		to(other)
	}
}

func TestOneThingOtherwise(t *testing.T) {
	got := map[api.Errno]int{}
	c := wholeConfig()
	for place := range places(c) {
		changed(c, place, func(other api.Config) {
			got[held(t, other)]++
			compared(t, c, other)
		})
	}
	if got[api.OK] < 300 || got[api.ErrArg] < 300 {
		t.Errorf("too few of one kind: %v", got)
	}
}

// drawn is a configuration with some things changed.
func drawn(r *rand.Rand, c api.Config, many int) api.Config {
	for range many {
		var l []api.Config
		changed(c, r.Intn(places(c)), func(other api.Config) { l = append(l, other) })
		c = l[r.Intn(len(l))]
	}
	return c
}

func TestSomeThingsOtherwise(t *testing.T) {
	r := rand.New(rand.NewSource(13))
	got := map[api.Errno]int{}
	last := wholeConfig()
	for range 3000 {
		c := drawn(r, wholeConfig(), 1+r.Intn(5))
		got[held(t, c)]++
		compared(t, c, last)
		compared(t, c, wholeConfig())
		last = c
	}
	if got[api.OK] < 100 || got[api.ErrArg] < 100 {
		t.Errorf("too few of one kind: %v", got)
	}
}
