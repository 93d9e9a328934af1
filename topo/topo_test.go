package topo

import (
	"math/rand"
	"reflect"
	"slices"
	"testing"

	"whirligig/addr"
	"whirligig/api"
	"whirligig/cfg"
)

// whole has eight routers, whose names don't rise, with all that can be told of them: one AS of four with a reflector and links, one of two, one router that has outer sessions alone, and one that has nothing.
const whole = `
prefix-list wide { permit 10.0.0.0/8 ge 9 le 24; deny 10.0.0.0/7; }
prefix-list bare { }
route-map in {
	permit 10 {
		match prefix wide; match path "^2 .*$"; match community 1:2;
		set pref 200; set med 5; set origin egp; set community clear; set community del 2:2 no-export; set community add 1:2 1:1; set prepend 1 1 7;
	}
	deny 20 { match prefix bare; }
	permit 30 { }
}
route-map out { permit 1 { set community add 1:1; } }
route-map bare { }
router zed {
	as 1; id 18; network 10.0.0.0/9; network 10.0.0.0/8; network 9.0.0.0/8;
	neighbor far import in; neighbor top; neighbor a1 client; neighbor mid import in export out client;
	link mid cost 7; link a10 cost 0;
}
router mid {
	as 1; id 17; network 10.0.0.0/8;
	neighbor zed export bare; neighbor a1;
	link zed cost 7; link a1 cost 65536;
}
router b {
	as 2; id 16; network 255.255.255.255/32; network 10.0.0.0/8;
	neighbor top client; neighbor far import out export in;
	link top cost 3;
}
router a1 {
	as 1; id 15;
	neighbor mid; neighbor zed import bare;
	link mid cost 65536; link a10 cost 0;
}
router a10 {
	as 1; id 14; network 0.0.0.0/0;
	link zed cost 0; link a1 cost 0;
}
router top {
	as 2; id 13; network 10.0.0.0/16;
	neighbor b client; neighbor zed export in; neighbor far;
	link b cost 3;
}
router far {
	as 3; id 12;
	neighbor top; neighbor b; neighbor zed import bare export bare;
}
router alone { as 1; id 11; network 10.0.0.0/9; }
`

// config is a text's configuration.
func config(t *testing.T, s string) api.Config {
	t.Helper()
	c, at, e := cfg.Parse(s)
	if e != api.OK {
		t.Fatal(s, at, e)
	}
	return c
}

// wholeConfig is the configuration of whole.
func wholeConfig(t *testing.T) api.Config { return config(t, whole) }

// prefixes is prefixes of texts.
func prefixes(t *testing.T, texts ...string) []api.Prefix {
	t.Helper()
	var l []api.Prefix
	for _, s := range texts {
		p, e := addr.Parse(s)
		if e != api.OK {
			t.Fatal(s, e)
		}
		l = append(l, p)
	}
	return l
}

// made is a sound configuration's network.
func made(t *testing.T, c api.Config) *Net {
	t.Helper()
	n, f := Make(c)
	if n == nil || f != (Fault{}) {
		t.Fatalf("Make(%+v): %v, %+v", c, n, f)
	}
	held(t, c)
	return n
}

func TestExamples(t *testing.T) {
	n := made(t, config(t, "router a { as 1; id 1; neighbor b; } router b { as 2; id 2; neighbor a; }"))
	if p, is := n.Peer(1, 2); p != (Peer{To: 2, Outer: true}) || !is {
		t.Error(p, is)
	}
	if l := n.Peers(2); !slices.Equal(l, []Peer{{To: 1, Outer: true}}) {
		t.Error(l)
	}
	if l := n.Peers(1); !slices.Equal(l, []Peer{{To: 2, Outer: true}}) {
		t.Error(l)
	}
	n, f := Make(config(t, "router a { as 1; id 1; neighbor b; } router b { as 2; id 2; }"))
	if n != nil || f != (Fault{"a", "b", api.ErrPair}) {
		t.Error(n, f)
	}
}

func TestNumbers(t *testing.T) {
	n := made(t, wholeConfig(t))
	if n.Len() != 8 {
		t.Error(n.Len())
	}
	for i, s := range []string{"zed", "mid", "b", "a1", "a10", "top", "far", "alone"} {
		if n.Number(s) != i+1 || n.Router(i+1).Name != s || n.Router(i+1).ID != 18-i {
			t.Errorf("%s: %d, %+v", s, n.Number(s), n.Router(i+1))
		}
	}
	for _, s := range []string{"", "a", "a100", "A1", "wide", "in", "bare", "zed ", " zed", "ze"} {
		if n.Number(s) != 0 {
			t.Errorf("%q: %d", s, n.Number(s))
		}
	}
}

func TestRouter(t *testing.T) {
	n := made(t, wholeConfig(t))
	want := api.Router{
		Name: "zed", AS: 1, ID: 18, Networks: prefixes(t, "10.0.0.0/9", "10.0.0.0/8", "9.0.0.0/8"), // as it was told, not by Before
		Neighbors: []api.Neighbor{{Name: "far", Import: "in"}, {Name: "top"}, {Name: "a1", Client: true}, {Name: "mid", Import: "in", Export: "out", Client: true}},
		Links:     []api.Link{{Name: "mid", Cost: 7}, {Name: "a10"}},
	}
	if r := n.Router(1); !alike(r, want) {
		t.Errorf("%+v", r)
	}
	if r := n.Router(8); !alike(r, api.Router{Name: "alone", AS: 1, ID: 11, Networks: prefixes(t, "10.0.0.0/9")}) {
		t.Errorf("%+v", r)
	}
	for _, i := range []int{-8, -1, 0, 9, 10, 1 << 40} {
		if r := n.Router(i); !alike(r, api.Router{}) {
			t.Errorf("%d: %+v", i, r)
		}
	}
}

// sessions is all sessions of whole, from each side.
func sessions() [][]Peer {
	return [][]Peer{
		1: {{2, false, true, "in", "out"}, {4, false, true, "", ""}, {6, true, false, "", ""}, {7, true, false, "in", ""}},
		2: {{1, false, false, "", "bare"}, {4, false, false, "", ""}},
		3: {{6, false, true, "", ""}, {7, true, false, "out", "in"}},
		4: {{1, false, false, "bare", ""}, {2, false, false, "", ""}},
		6: {{1, true, false, "", "in"}, {3, false, true, "", ""}, {7, true, false, "", ""}},
		7: {{1, true, false, "bare", "bare"}, {3, true, false, "", ""}, {6, true, false, "", ""}},
		9: nil,
	}
}

func TestPeers(t *testing.T) {
	n := made(t, wholeConfig(t))
	for i, want := range sessions() {
		if l := n.Peers(i); !slices.Equal(l, want) {
			t.Errorf("Peers(%d): %+v, not %+v", i, l, want)
		}
		for k := range 11 {
			var of Peer
			at := slices.IndexFunc(want, func(p Peer) bool { return p.To == k })
			if at >= 0 {
				of = want[at]
			}
			if p, is := n.Peer(i, k); p != of || is != (at >= 0) {
				t.Errorf("Peer(%d, %d): %+v, %v, not %+v", i, k, p, is, of)
			}
		}
	}
	for _, i := range []int{-1, -7, 9, 10, 1<<32 + 1} {
		if l := n.Peers(i); len(l) != 0 {
			t.Errorf("Peers(%d): %+v", i, l)
		}
	}
}

func TestLinks(t *testing.T) {
	n := made(t, wholeConfig(t))
	costs := map[[2]int]int{{1, 2}: 7, {1, 5}: 0, {2, 4}: 65536, {4, 5}: 0, {3, 6}: 3}
	many := 0
	for i := -1; i <= 10; i++ {
		for k := -1; k <= 10; k++ {
			want, is := costs[[2]int{min(i, k), max(i, k)}]
			if is {
				many++
			}
			if cost, got := n.Link(i, k); cost != want || got != is {
				t.Errorf("Link(%d, %d): %d, %v, not %d, %v", i, k, cost, got, want, is)
			}
		}
	}
	if many != 2*len(costs) {
		t.Error(many)
	}
}

func TestListsAndMaps(t *testing.T) {
	c := wholeConfig(t)
	n := made(t, c)
	ten, seven := prefixes(t, "10.0.0.0/8")[0], prefixes(t, "10.0.0.0/7")[0]
	if l := n.List("wide"); !slices.Equal(l, []api.Range{{P: ten, Ge: 9, Le: 24, Permit: true}, {P: seven, Ge: 7, Le: 7}}) {
		t.Errorf("%+v", l)
	}
	nothing := api.Set{Pref: -1, Med: -1, Origin: -1}
	want := []api.Clause{
		{N: 10, Permit: true, Match: api.Match{List: "wide", Path: "^2 .*$", Comm: api.Comm{AS: 1, N: 2}}, Set: api.Set{
			Pref: 200, Med: 5, Origin: api.OriginEGP, Clear: true, Prepend: []int{1, 1, 7},
			Del: []api.Comm{{AS: 2, N: 2}, {AS: 65535, N: 65281}}, Add: []api.Comm{{AS: 1, N: 2}, {AS: 1, N: 1}},
		}},
		{N: 20, Match: api.Match{List: "bare"}, Set: nothing},
		{N: 30, Permit: true, Set: nothing},
	}
	if l := n.Map("in"); !alike(l, want) {
		t.Errorf("%+v", l)
	}
	// One name in two kinds is two things, and one with nothing in it answers nothing.
	for _, s := range []string{"bare", "in", "out", "zed", "", "lost", "Wide", "wide "} {
		if l := n.List(s); len(l) != 0 {
			t.Errorf("List(%q): %+v", s, l)
		}
	}
	for _, s := range []string{"bare", "wide", "zed", "", "lost", "In", "i"} {
		if l := n.Map(s); len(l) != 0 {
			t.Errorf("Map(%q): %+v", s, l)
		}
	}
	// Their order among each other tells nothing.
	slices.Reverse(c.Lists)
	slices.Reverse(c.Maps)
	if got := made(t, c); !alike(asked(got, wholeConfig(t)), asked(n, wholeConfig(t))) {
		t.Error("lists and maps in another order")
	}
}

func TestNetworks(t *testing.T) {
	n := made(t, wholeConfig(t))
	all := prefixes(t, "0.0.0.0/0", "9.0.0.0/8", "10.0.0.0/8", "10.0.0.0/9", "10.0.0.0/16", "255.255.255.255/32")
	if l := n.Prefixes(); !slices.Equal(l, all) {
		t.Errorf("%+v", l)
	}
	for i, want := range [][]int{{5}, {1}, {1, 2, 3}, {1, 8}, {6}, {3}} {
		if l := n.Origins(all[i]); !slices.Equal(l, want) {
			t.Errorf("%+v: %v, not %v", all[i], l, want)
		}
	}
	// Near ones, and such as may not be.
	for _, p := range append(prefixes(t, "10.0.0.0/10", "10.0.0.0/7", "10.128.0.0/9", "11.0.0.0/8", "0.0.0.0/1"), api.Prefix{Bits: -1}, api.Prefix{Addr: 1}, api.Prefix{Addr: 10<<24 + 1, Bits: 8}, api.Prefix{Addr: 10 << 24, Bits: 33}) {
		if l := n.Origins(p); len(l) != 0 {
			t.Errorf("%+v: %v", p, l)
		}
	}
}

// letter is the name number i of few.
func letter(i int) string { return string(rune('a' + i)) }

// full is eight routers, each with all others as neighbors and by links, and with 16 networks; names, neighbors and networks fall.
func full() api.Config {
	var c api.Config
	for i := 7; i >= 0; i-- {
		r := api.Router{Name: letter(i), AS: 65535, ID: 65535 - i}
		for k := 7; k >= 0; k-- {
			if k != i {
				r.Neighbors = append(r.Neighbors, api.Neighbor{Name: letter(k), Client: k > i})
				r.Links = append(r.Links, api.Link{Name: letter(k), Cost: i*k + i + k})
			}
		}
		slices.Reverse(r.Links[:i])
		for k := range 16 {
			r.Networks = append(r.Networks, api.Prefix{Addr: uint32(i*3+16-k) << 24, Bits: 8})
		}
		c.Routers = append(c.Routers, r)
	}
	return c
}

func TestNothing(t *testing.T) {
	for _, c := range []api.Config{{}, {Lists: []api.List{}, Maps: []api.Map{}, Routers: []api.Router{}}} {
		n := made(t, c)
		if !alike(asked(n, wholeConfig(t)), asked(nil, wholeConfig(t))) {
			t.Errorf("%+v", asked(n, wholeConfig(t)))
		}
	}
	// Lists and maps without routers are a network, too.
	n := made(t, config(t, "prefix-list l { deny 0.0.0.0/0; } route-map m { deny 1 { match prefix l; } }"))
	if n.Len() != 0 || len(n.List("l")) != 1 || len(n.Map("m")) != 1 {
		t.Error(n.Len(), n.List("l"), n.Map("m"))
	}
}

func TestOneRouter(t *testing.T) {
	n := made(t, config(t, "router r { as 65535; id 1; network 10.0.0.0/8; }"))
	if n.Len() != 1 || n.Number("r") != 1 || n.Router(1).AS != 65535 || len(n.Peers(1)) != 0 || !slices.Equal(n.Origins(n.Prefixes()[0]), []int{1}) {
		t.Errorf("%+v", asked(n, api.Config{}))
	}
}

func TestNil(t *testing.T) {
	var n *Net
	c := wholeConfig(t)
	got := asked(n, c)
	if got.Len != 0 || len(got.Prefixes) != 0 {
		t.Errorf("%+v", got)
	}
	each(reflect.ValueOf(&got).Elem(), func(v reflect.Value) {
		if v.Kind() != reflect.Slice && !v.IsZero() {
			t.Errorf("a nil network tells %v", v)
		}
	})
	for _, s := range namesOf(c) {
		if len(n.List(s)) != 0 || len(n.Map(s)) != 0 || n.Number(s) != 0 {
			t.Errorf("a nil network knows %q", s)
		}
	}
	for _, i := range around(8) {
		if len(n.Peers(i)) != 0 || !alike(n.Router(i), api.Router{}) {
			t.Errorf("a nil network knows %d", i)
		}
	}
	for _, p := range prefixesOf(c) {
		if len(n.Origins(p)) != 0 {
			t.Errorf("a nil network knows %v", p)
		}
	}
}

// spoil overwrites whatever a value has, up to where its lists' room ends.
func spoil(v reflect.Value) {
	switch v.Kind() {
	case reflect.Slice:
		v = v.Slice(0, v.Cap())
		for i := range v.Len() {
			spoil(v.Index(i))
		}
	case reflect.Struct:
		for i := range v.NumField() {
			spoil(v.Field(i))
		}
	case reflect.String:
		v.SetString("spoilt")
	case reflect.Int:
		v.SetInt(77)
	case reflect.Uint32:
		v.SetUint(77)
	default:
		v.SetBool(!v.Bool())
	}
}

func TestMemory(t *testing.T) {
	c := wholeConfig(t)
	n := made(t, c)
	want := bared(asked(n, wholeConfig(t)))
	spoil(reflect.ValueOf(&c).Elem())
	if got := asked(n, wholeConfig(t)); !alike(got, want) {
		t.Errorf("%+v\nhangs on what was handed in, and was %+v", got, want)
	}
	// What is told may be overwritten, one part ahead of the other ones.
	got := asked(n, wholeConfig(t))
	again := asked(n, wholeConfig(t))
	spoil(reflect.ValueOf(&got).Elem())
	if !alike(again, want) {
		t.Errorf("%+v\nshares what was told, and was %+v", again, want)
	}
	if later := asked(n, wholeConfig(t)); !alike(later, want) {
		t.Errorf("%+v\nkeeps what was told, and was %+v", later, want)
	}
}

// What is put behind a list of an answer, in its room, isn't seen in another one.
func TestRoom(t *testing.T) {
	n := made(t, wholeConfig(t))
	in := n.Map("in")
	was := bared(in)
	for i := range in {
		s := &in[i].Set
		_, _, _ = append(s.Add, api.Comm{AS: 7}), append(s.Del, api.Comm{AS: 8}), append(s.Prepend, 9)
	}
	r := n.Router(1)
	rWas := bared(r)
	_, _, _ = append(r.Networks, api.Prefix{}), append(r.Neighbors, api.Neighbor{}), append(r.Links, api.Link{})
	if !alike(in, was) || !alike(r, rWas) || !alike(n.Map("in"), was) || !alike(n.Router(1), rWas) {
		t.Error("two lists share their room")
	}
}

// permutations hands on each order of n things.
func permutations(n int, to func([]int)) {
	var grow func(order []int)
	grow = func(order []int) {
		if len(order) == n {
			to(slices.Clone(order))
			return
		}
		for i := range n {
			if !slices.Contains(order, i) {
				grow(append(order, i))
			}
		}
	}
	grow(nil)
}

func TestAnyOrder(t *testing.T) {
	r := rand.New(rand.NewSource(16))
	for range 300 {
		for _, c := range []api.Config{wholeConfig(t), full()} {
			order := r.Perm(8)
			anyOrder(t, c, order)
			if f := held(t, reordered(c, order)); f != (Fault{}) {
				t.Errorf("in the order %v: %+v", order, f)
			}
		}
	}
	// Each order of a few.
	for _, s := range []string{
		"router b { as 1; id 1; neighbor a client; neighbor d; link c cost 1; } router a { as 1; id 2; neighbor b; link c cost 2; } router c { as 1; id 3; link b cost 1; link a cost 2; } router d { as 2; id 4; neighbor b; } router e { as 2; id 5; }",
		"router b { as 1; id 1; neighbor a client; } router a { as 1; id 2; neighbor b client; } router c { as 1; id 3; }",
	} {
		c := config(t, s)
		permutations(len(c.Routers), func(order []int) {
			anyOrder(t, c, order)
			held(t, reordered(c, order))
		})
	}
}

func TestFull(t *testing.T) {
	n := made(t, full())
	for i := 1; i <= 8; i++ {
		l := n.Peers(i)
		if len(l) != 7 || !slices.IsSortedFunc(l, func(a, b Peer) int { return a.To - b.To }) {
			t.Errorf("%d: %+v", i, l)
		}
	}
	l := n.Prefixes()
	if len(l) != 37 {
		t.Errorf("%d: %+v", len(l), l)
	}
	for i, p := range l {
		if p != (api.Prefix{Addr: uint32(i+1) << 24, Bits: 8}) {
			t.Errorf("%d: %+v", i, p)
		}
	}
	c := full()
	c.Routers = append(c.Routers, api.Router{Name: "i", AS: 1, ID: 1})
	refused(t, c, Fault{E: api.ErrArg})
}
