package policy

import (
	"cmp"
	"math"
	"math/rand"
	"reflect"
	"slices"
	"strings"
	"testing"

	"whirligig/api"
)

// all is the rule that each prefix meets.
func all(permit bool) api.Range { return api.Range{Le: 32, Permit: permit} }

// under is the rule that each prefix meets which another one contains.
func under(permit bool, address uint32, bits int) api.Range {
	return api.Range{P: api.Prefix{Addr: address, Bits: bits}, Ge: bits, Le: 32, Permit: permit}
}

// lists is some lists, and some that are none.
func lists() []api.List {
	return []api.List{
		{Name: "", Rules: []api.Range{all(false)}},
		{Name: "ten", Rules: []api.Range{under(true, 10<<24, 8)}},
		{Name: "bare"},
		{Name: "but", Rules: []api.Range{under(false, 10<<24|1<<16, 16), all(true)}},
		{Name: "ten", Rules: []api.Range{all(true)}},
		{Name: "wide", Rules: []api.Range{{Le: 16, Permit: true}}},
		{Name: "long", Rules: slices.Repeat([]api.Range{all(true)}, 17)},
		{Name: "wrong", Rules: []api.Range{all(true), {Ge: 9, Le: 8, Permit: true}}},
		{Name: "bare", Rules: []api.Range{all(true)}},
		{Name: "wrong", Rules: []api.Range{all(true)}},
		{Name: "TEN", Rules: []api.Range{all(true)}},
	}
}

// listIs is by what may be asked for as a list whether it lets a prefix pass.
func listIs() map[string]func(p api.Prefix) bool {
	always := func(api.Prefix) bool { return true }
	not := func(api.Prefix) bool { return false }
	return map[string]func(p api.Prefix) bool{
		"":      always,
		"ten":   func(p api.Prefix) bool { return p.Bits >= 8 && p.Addr>>24 == 10 },
		"but":   func(p api.Prefix) bool { return p.Bits < 16 || p.Addr>>16 != 10<<8|1 },
		"wide":  func(p api.Prefix) bool { return p.Bits <= 16 },
		"TEN":   always,
		"bare":  not,
		"long":  not,
		"wrong": not,
		"gone":  not,
		"te":    not,
		"ten ":  not,
	}
}

// pathIs is by what may be asked for as an expression whether a path meets it.
func pathIs() map[string]func(path []int) bool {
	always := func([]int) bool { return true }
	not := func([]int) bool { return false }
	return map[string]func(path []int) bool{
		"":                       always,
		" ":                      always, // an expression of no items
		".*":                     always,
		strings.Repeat(" ", 64):  always,
		"^$":                     func(path []int) bool { return len(path) == 0 },
		".":                      func(path []int) bool { return len(path) > 0 },
		"^1":                     func(path []int) bool { return len(path) > 0 && path[0] == 1 },
		"2$":                     func(path []int) bool { return len(path) > 0 && path[len(path)-1] == 2 },
		"[3-5]":                  func(path []int) bool { return slices.ContainsFunc(path, func(n int) bool { return 3 <= n && n <= 5 }) },
		"1|7":                    func(path []int) bool { return slices.Contains(path, 1) || slices.Contains(path, 7) },
		"^...............?.?$":   func(path []int) bool { return len(path) >= 14 },
		strings.Repeat(" ", 65):  not,
		"(":                      not,
		"^1$ ^":                  not,
		"0":                      not,
		".* 65536":               not,
		"[5-3]":                  not,
		"\x00":                   not,
		".*" + string(rune(960)): not,
	}
}

// commIs is by what may be asked for as a community whether communities have it.
func commIs() map[api.Comm]func(l []api.Comm) bool {
	always := func([]api.Comm) bool { return true }
	not := func([]api.Comm) bool { return false }
	is := map[api.Comm]func(l []api.Comm) bool{
		{}:                    always,
		{N: 7}:                always,
		{N: -1}:               always,
		{N: math.MaxInt}:      always,
		{AS: -1}:              not,
		{AS: -1, N: 1}:        not,
		{AS: 65536, N: 1}:     not,
		{AS: 1, N: -1}:        not,
		{AS: 1, N: 65536}:     not,
		{AS: math.MinInt}:     not,
		{AS: 1<<32 | 1, N: 1}: not,
	}
	for _, c := range []api.Comm{{AS: 1}, {AS: 1, N: 1}, {AS: 2, N: 1}, {AS: 65535, N: 65281}, {AS: 65535, N: 65535}} {
		is[c] = func(l []api.Comm) bool { return slices.Index(l, c) >= 0 }
	}
	return is
}

// keys is a table's keys, in an order that is the same each time.
func keys[K comparable, V any](table map[K]V, order func(a, b K) int) []K {
	var l []K
	for k := range table {
		l = append(l, k)
	}
	slices.SortFunc(l, order)
	return l
}

// judge knows what is so without asking the layers below, and what may be asked for.
type judge struct {
	list  map[string]func(p api.Prefix) bool
	path  map[string]func(path []int) bool
	comm  map[api.Comm]func(l []api.Comm) bool
	names []string
	texts []string
	comms []api.Comm
}

// newJudge is a judge with its tables.
func newJudge() judge {
	j := judge{list: listIs(), path: pathIs(), comm: commIs()}
	j.names, j.texts, j.comms = keys(j.list, cmp.Compare[string]), keys(j.path, cmp.Compare[string]), keys(j.comm, order)
	return j
}

// order tells how two communities stand to one another.
func order(a, b api.Comm) int { return cmp.Or(cmp.Compare(a.AS, b.AS), cmp.Compare(a.N, b.N)) }

// met tells whether all that is asked for is so, of what may be.
func (j judge) met(m api.Match, p api.Prefix, a api.Attr) bool {
	return j.list[m.List](p) && j.path[m.Path](a.Path) && j.comm[m.Comm](a.Comms)
}

// run is what a map makes of a route, both of which may be: all clauses that are met are gathered, and the one with the least number counts.
func (j judge) run(m []api.Clause, p api.Prefix, a api.Attr) Result {
	met := map[int]api.Clause{}
	least := math.MaxInt
	for _, c := range m {
		if j.met(c.Match, p, a) {
			met[c.N] = c
			least = min(least, c.N)
		}
	}
	c, is := met[least]
	switch {
	case !is:
		return Result{}
	case !c.Permit:
		return Result{Clause: least}
	}
	done, e := changed(a, c.Set)
	return Result{e == api.OK, done, least, e}
}

// chain is what maps make of a route, all of which may be, by one that calls itself.
func (j judge) chain(maps [][]api.Clause, p api.Prefix, a api.Attr) Result {
	if len(maps) == 0 {
		return Result{Pass: true, Attr: a}
	}
	r := j.run(maps[0], p, a)
	if !r.Pass || len(maps) == 1 {
		return r
	}
	return j.chain(maps[1:], p, r.Attr)
}

// changed is what a change makes of attributes, both of which may be.
func changed(a api.Attr, s api.Set) (api.Attr, api.Errno) {
	number := func(told, was int) int { return map[bool]int{true: was, false: told}[told == -1] }
	b := api.Attr{From: a.From, Clusters: a.Clusters}
	b.Pref, b.Med, b.Origin = number(s.Pref, a.Pref), number(s.Med, a.Med), number(s.Origin, a.Origin)
	there := map[api.Comm]bool{}
	for _, c := range a.Comms {
		there[c] = !s.Clear && !slices.Contains(s.Del, c)
	}
	for _, c := range s.Add {
		there[c] = true
	}
	for as := range 4 {
		for n := range 12 {
			if c := (api.Comm{AS: as, N: n}); there[c] {
				b.Comms = append(b.Comms, c)
			}
		}
	}
	for _, c := range []api.Comm{{AS: 65535, N: 65281}, {AS: 65535, N: 65535}} {
		if there[c] {
			b.Comms = append(b.Comms, c)
		}
	}
	b.Path = append(append(b.Path, s.Prepend...), a.Path...)
	if len(b.Comms) > 8 || len(b.Path) > 16 {
		return api.Attr{}, api.ErrLong
	}
	return b, api.OK
}

// open tells of a map whether it has a clause as the document asks for, each being looked at by itself.
func (j judge) open(m []api.Clause) bool {
	easy := func(c api.Clause) bool { return c.Permit && len(c.Set.Prepend)+len(c.Set.Add) == 0 }
	for i, c := range m {
		asks := c.Match.List != "" || c.Match.Path != "" || c.Match.Comm.AS != 0
		hard := 0
		for _, ahead := range m[:i] {
			if !easy(ahead) {
				hard++
			}
		}
		if !asks && easy(c) && hard == 0 {
			return true
		}
	}
	return false
}

// like tells whether two results are the same; nil and empty lists are one.
func like(a, b Result) bool { return reflect.DeepEqual(twinResult(a), twinResult(b)) }

// twinResult is a result in memory of its own, none of whose lists is nil.
func twinResult(r Result) Result {
	r.Attr = twin(r.Attr)
	return r
}

// twin is attributes in memory of their own, none of whose lists is nil.
func twin(a api.Attr) api.Attr {
	a.Path = append([]int{}, a.Path...)
	a.Comms = append([]api.Comm{}, a.Comms...)
	a.Clusters = append([]int{}, a.Clusters...)
	return a
}

// twinMap is a map in memory of its own, none of whose lists is nil.
func twinMap(m []api.Clause) []api.Clause {
	m = append([]api.Clause{}, m...)
	for i := range m {
		s := &m[i].Set
		s.Add = append([]api.Comm{}, s.Add...)
		s.Del = append([]api.Comm{}, s.Del...)
		s.Prepend = append([]int{}, s.Prepend...)
	}
	return m
}

// twinMaps is maps in memory of their own.
func twinMaps(maps [][]api.Clause) [][]api.Clause {
	l := [][]api.Clause{}
	for _, m := range maps {
		l = append(l, twinMap(m))
	}
	return l
}

// drawn is one of some.
func drawn[T any](r *rand.Rand, l []T) T { return l[r.Intn(len(l))] }

// several is up to so many things that are drawn one by one.
func several[T any](r *rand.Rand, most int, one func() T) []T {
	var l []T
	for range r.Intn(most + 1) {
		l = append(l, one())
	}
	return l
}

// someComm is one of the communities that routes and changes of this world have.
func someComm(r *rand.Rand) api.Comm {
	return drawn(r, []api.Comm{
		{AS: 1}, {AS: 1, N: 1}, {AS: 1, N: 2}, {AS: 1, N: 3}, {AS: 1, N: 11}, {AS: 2, N: 1}, {AS: 2, N: 2}, {AS: 3}, {AS: 3, N: 4},
		{AS: 65535, N: 65281}, {AS: 65535, N: 65535},
	})
}

// drawnPrefix is a prefix that may be.
func drawnPrefix(r *rand.Rand) api.Prefix {
	return drawn(r, []api.Prefix{
		{}, {Addr: 10 << 24, Bits: 8}, {Addr: 10<<24 | 1<<16, Bits: 16}, {Addr: 10<<24 | 1<<16 | 2<<8, Bits: 24}, {Addr: 10<<24 | 2<<16, Bits: 16},
		{Addr: 8 << 24, Bits: 7}, {Addr: 10<<24 | 1<<16, Bits: 32}, {Addr: 1<<32 - 1, Bits: 32}, {Bits: 32}, {Addr: 192<<24 | 168<<16, Bits: 17},
	})
}

// drawnAttr is attributes that may be.
func drawnAttr(r *rand.Rand) api.Attr {
	a := api.Attr{Pref: r.Intn(3), Med: r.Intn(3), Origin: r.Intn(3), From: r.Intn(3)}
	a.Path = several(r, 1+r.Intn(16), func() int { return 1 + r.Intn(9) })
	for range r.Intn(12) {
		if c := someComm(r); len(a.Comms) < 8 && !slices.Contains(a.Comms, c) {
			a.Comms = append(a.Comms, c)
		}
	}
	slices.SortFunc(a.Comms, order)
	for i := range r.Intn(9) {
		a.Clusters = append(a.Clusters, 9-i)
	}
	return a
}

// drawnMatch is a match that asks for few things, for nearly all routes would meet none that asks for many.
func (j judge) drawnMatch(r *rand.Rand) api.Match {
	var m api.Match
	if r.Intn(2) == 0 {
		m.List = drawn(r, j.names)
	}
	if r.Intn(2) == 0 {
		m.Path = drawn(r, j.texts)
	}
	if r.Intn(2) == 0 {
		m.Comm = drawn(r, j.comms)
	}
	return m
}

// drawnSet is a change that may be, of few things.
func drawnSet(r *rand.Rand) api.Set {
	s := api.Set{Pref: r.Intn(4) - 1, Med: r.Intn(4) - 1, Origin: r.Intn(4) - 1, Clear: r.Intn(4) == 0}
	if r.Intn(3) == 0 {
		s.Add = several(r, 8, func() api.Comm { return someComm(r) })
	}
	if r.Intn(3) == 0 {
		s.Del = several(r, 8, func() api.Comm { return someComm(r) })
	}
	if r.Intn(3) == 0 {
		s.Prepend = several(r, 1+r.Intn(16), func() int { return 1 + r.Intn(9) })
	}
	return s
}

// drawnMap is a map that may be.
func (j judge) drawnMap(r *rand.Rand) []api.Clause {
	var m []api.Clause
	last := 1
	for range r.Intn(drawn(r, []int{2, 5, 17})) {
		last += 1 + r.Intn(5)
		m = append(m, api.Clause{N: last, Permit: r.Intn(3) > 0, Match: j.drawnMatch(r), Set: drawnSet(r)})
	}
	return m
}

func TestRunOfDrawn(t *testing.T) {
	r, j := rand.New(rand.NewSource(16)), newJudge()
	seen := map[string]int{}
	for range 60000 {
		m, p, a := j.drawnMap(r), drawnPrefix(r), drawnAttr(r)
		wasM, wasA := twinMap(m), twin(a)
		want := j.run(m, p, a)
		got := Run(m, lists(), p, a)
		if !like(got, want) {
			t.Fatalf("Run(%v, %v, %v): %v, not %v", m, p, a, got, want)
		}
		for _, c := range m {
			if is := Met(c, lists(), p, a); is != j.met(c.Match, p, a) {
				t.Fatalf("Met(%v, %v, %v): %v", c, p, a, is)
			}
		}
		if !reflect.DeepEqual(twinMap(m), wasM) || !reflect.DeepEqual(twin(a), wasA) {
			t.Fatalf("Run(%v, %v, %v) changed what it was handed", wasM, p, wasA)
		}
		count(seen, got)
	}
	few(t, seen, 1000)
}

// count counts a result by its kind.
func count(seen map[string]int, r Result) {
	switch {
	case r.E != api.OK:
		seen["can't be done"]++
	case r.Pass:
		seen["passes"]++
	case r.Clause != 0:
		seen["denied"]++
	default:
		seen["not met"]++
	}
}

// few fails the test, if there were too few of some kind.
func few(t *testing.T, seen map[string]int, least int) {
	t.Helper()
	for _, kind := range []string{"can't be done", "passes", "denied", "not met"} {
		if seen[kind] < least {
			t.Errorf("too few of one kind: %v", seen)
		}
	}
}

func TestChainOfDrawn(t *testing.T) {
	r, j := rand.New(rand.NewSource(161)), newJudge()
	seen, passed := map[string]int{}, map[int]int{}
	for range 40000 {
		maps := several(r, 4, func() []api.Clause {
			m := j.drawnMap(r)
			if r.Intn(2) == 0 { // so that enough routes come to the later maps
				m = m[:min(len(m), 15)]
				m = append(m, api.Clause{N: 65535, Permit: true, Set: api.Set{Pref: -1, Med: 7, Origin: -1}})
			}
			return m
		})
		p, a := drawnPrefix(r), drawnAttr(r)
		wasMaps, wasA := twinMaps(maps), twin(a)
		want := j.chain(maps, p, a)
		got := Chain(maps, lists(), p, a)
		if !like(got, want) {
			t.Fatalf("Chain(%v, %v, %v): %v, not %v", maps, p, a, got, want)
		}
		if !reflect.DeepEqual(twinMaps(maps), wasMaps) || !reflect.DeepEqual(twin(a), wasA) {
			t.Fatalf("Chain(%v, %v, %v) changed what it was handed", wasMaps, p, wasA)
		}
		if got.Pass {
			passed[len(maps)]++
		}
		count(seen, got)
	}
	few(t, seen, 500)
	for n := range 5 {
		if passed[n] < 100 {
			t.Errorf("too few passed %d maps: %v", n, passed)
		}
	}
}

// TestChainByRuns holds chains against one map after the other.
func TestChainByRuns(t *testing.T) {
	r, j := rand.New(rand.NewSource(162)), newJudge()
	for range 10000 {
		maps := several(r, 5, func() []api.Clause { return j.drawnMap(r) })
		p, a := drawnPrefix(r), drawnAttr(r)
		want := Result{Pass: true, Attr: a}
		for i := 0; i < len(maps) && want.Pass; i++ {
			want = Run(maps[i], lists(), p, want.Attr)
		}
		if got := Chain(maps, lists(), p, a); !like(got, want) {
			t.Fatalf("Chain(%v, %v, %v): %v, not %v", maps, p, a, got, want)
		}
	}
}

// TestBehind: clauses behind the one that decides make no difference.
func TestBehind(t *testing.T) {
	r, j := rand.New(rand.NewSource(163)), newJudge()
	asked := 0
	for range 10000 {
		m, p, a := j.drawnMap(r), drawnPrefix(r), drawnAttr(r)
		want := Run(m, lists(), p, a)
		if want.Clause == 0 {
			continue
		}
		asked++
		at := slices.IndexFunc(m, func(c api.Clause) bool { return c.N == want.Clause })
		other := slices.Clone(m[:at+1])
		for len(other) < 16 {
			if got := Run(other, lists(), p, a); !like(got, want) {
				t.Fatalf("Run(%v, %v, %v): %v, not %v, as of %v", other, p, a, got, want, m)
			}
			other = append(other, api.Clause{N: other[len(other)-1].N + 1, Permit: r.Intn(2) == 0, Match: j.drawnMatch(r), Set: drawnSet(r)})
		}
	}
	if asked < 1000 {
		t.Error("too few were decided:", asked)
	}
}

// TestAhead: what is put ahead, or anywhere, with a match that isn't met changes nothing.
func TestAhead(t *testing.T) {
	r, j := rand.New(rand.NewSource(164)), newJudge()
	asked := 0
	for range 20000 {
		m, p, a := j.drawnMap(r), drawnPrefix(r), drawnAttr(r)
		for i := range m {
			m[i].N = 2*i + 2
		}
		at := r.Intn(len(m)+1) * r.Intn(2)
		c := api.Clause{N: 2*at + 1, Permit: r.Intn(2) == 0, Match: j.drawnMatch(r), Set: drawnSet(r)}
		if len(m) == 16 || Met(c, lists(), p, a) {
			continue
		}
		asked++
		more := slices.Insert(slices.Clone(m), at, c)
		if got, want := Run(more, lists(), p, a), Run(m, lists(), p, a); !like(got, want) {
			t.Fatalf("Run(%v, %v, %v): %v, not %v", more, p, a, got, want)
		}
	}
	if asked < 1000 {
		t.Error("too few weren't met:", asked)
	}
}

// openClauses is clauses of each kind that counts for Open, and some that are like them.
func openClauses() []api.Clause {
	var l []api.Clause
	for _, m := range []api.Match{{}, {Comm: api.Comm{N: 7}}, {List: "ten"}, {List: "gone"}, {Path: ".*"}, {Path: " "}, {Comm: api.Comm{AS: 1, N: 1}}, {Comm: api.Comm{AS: -1}}, {List: "TEN", Path: ".*"}} {
		for _, s := range []api.Set{
			{Pref: -1, Med: -1, Origin: -1},
			{Pref: 200, Med: 1, Origin: 2, Clear: true, Del: []api.Comm{{AS: 1, N: 1}}, Add: []api.Comm{}, Prepend: []int{}},
			{Add: []api.Comm{{AS: 1, N: 1}}},
			{Prepend: []int{1}},
		} {
			l = append(l, api.Clause{Permit: true, Match: m, Set: s}, api.Clause{Match: m, Set: s})
		}
	}
	return l
}

// TestOpenOfSmall: all maps of up to two such clauses, and some of three.
func TestOpenOfSmall(t *testing.T) {
	j := newJudge()
	l := openClauses()
	opened := 0
	ask := func(m ...api.Clause) {
		for i := range m {
			m[i].N = i + 1
		}
		is := Open(m)
		if is != j.open(m) {
			t.Fatalf("Open(%v): %v", m, is)
		}
		if is {
			opened++
			passAll(t, m)
		}
	}
	ask()
	for i, a := range l {
		ask(a)
		for k, b := range l {
			ask(a, b)
			for n, c := range l {
				if (i*31+k*17+n)%7 == 0 {
					ask(a, b, c)
				}
			}
		}
	}
	if opened < 100 {
		t.Error("too few were open:", opened)
	}
}

// fullest is routes that have as much as may be, or nothing.
func fullest() []api.Attr {
	full := api.Attr{Pref: 1 << 20, Med: 1 << 20, Origin: 2, Path: slices.Repeat([]int{65535}, 16), From: 65535, Clusters: []int{8, 7, 6, 5, 4, 3, 2, 1}}
	for n := range 8 {
		full.Comms = append(full.Comms, api.Comm{AS: 65535, N: 65528 + n})
	}
	return []api.Attr{{}, {Pref: 100, Path: []int{1}}, full}
}

// passAll fails the test, if a route doesn't pass.
func passAll(t *testing.T, m []api.Clause) {
	t.Helper()
	for _, a := range fullest() {
		for _, p := range []api.Prefix{{}, {Addr: 10 << 24, Bits: 8}, {Addr: 1<<32 - 1, Bits: 32}} {
			if r := Run(m, lists(), p, a); !r.Pass || r.E != api.OK {
				t.Fatalf("%v is open: Run(%v, %v): %v", m, p, a, r)
			}
		}
	}
}

func TestOpenOfDrawn(t *testing.T) {
	r, j := rand.New(rand.NewSource(165)), newJudge()
	opened := 0
	for range 60000 {
		m := j.drawnMap(r)
		for i := range m {
			m[i].Permit = m[i].Permit || r.Intn(2) == 0
			if r.Intn(2) == 0 {
				m[i].Set.Add, m[i].Set.Prepend = nil, nil
			}
		}
		is := Open(m)
		if is != j.open(m) {
			t.Fatalf("Open(%v): %v", m, is)
		}
		if is {
			opened++
			passAll(t, m)
			p, a := drawnPrefix(r), drawnAttr(r)
			if got := Run(m, lists(), p, a); !got.Pass {
				t.Fatalf("%v is open: Run(%v, %v): %v", m, p, a, got)
			}
		}
	}
	if opened < 1000 {
		t.Error("too few were open:", opened)
	}
}
