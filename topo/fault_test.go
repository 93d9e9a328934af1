package topo

import (
	"math"
	"slices"
	"testing"

	"whirligig/api"
)

// refused asks whether a configuration has no network, and just this fault.
func refused(t *testing.T, c api.Config, want Fault) {
	t.Helper()
	if n, f := Make(c); n != nil || f != want {
		t.Errorf("Make(%+v): %v, %+v, not %+v", c, n != nil, f, want)
	}
	held(t, c)
}

// wrong is one thing that makes the configuration of sound unsound, and the fault that it is.
type wrong struct {
	name   string
	change func(c *api.Config)
	fault  Fault
}

// sound is a sound configuration of two ASes.
const sound = `
prefix-list l { permit 10.0.0.0/8; }
route-map m { permit 1 { match prefix l; } deny 2 { } permit 3 { } }
route-map k { permit 1 { } }
router r1 { as 1; id 1; neighbor r2 import m export k client; neighbor r3; link r2 cost 5; }
router r2 { as 1; id 2; neighbor r1; neighbor r4 import k; link r1 cost 5; link r4 cost 0; }
router r3 { as 2; id 3; neighbor r1; }
router r4 { as 1; id 4; neighbor r2; link r2 cost 0; }
`

// neighbor, link put one more of a router's neighbors, or links, behind the others.
func neighbor(i int, b api.Neighbor) func(*api.Config) {
	return func(c *api.Config) { c.Routers[i].Neighbors = append(c.Routers[i].Neighbors, b) }
}

func link(i int, l api.Link) func(*api.Config) {
	return func(c *api.Config) { c.Routers[i].Links = append(c.Routers[i].Links, l) }
}

// wrongs is each fault by itself, in the order in which they are looked for: each comes ahead of all those behind it, also where both are there.
func wrongs() []wrong {
	return []wrong{
		{"a clause's list", func(c *api.Config) { c.Maps[0].Clauses[1].Match.List = "x1" }, Fault{"", "x1", api.ErrName}},
		{"a later clause's list", func(c *api.Config) { c.Maps[0].Clauses[2].Match.List = "r1" }, Fault{"", "r1", api.ErrName}},
		{"a later map's list", func(c *api.Config) { c.Maps[1].Clauses[0].Match.List = "m" }, Fault{"", "m", api.ErrName}},
		{"an import", func(c *api.Config) { c.Routers[0].Neighbors[0].Import = "x3" }, Fault{"r1", "x3", api.ErrName}},
		{"an export", func(c *api.Config) { c.Routers[0].Neighbors[0].Export = "l" }, Fault{"r1", "l", api.ErrName}},
		{"a later neighbor's import", func(c *api.Config) { c.Routers[0].Neighbors[1].Import = "x4" }, Fault{"r1", "x4", api.ErrName}},
		{"a later neighbor's export", func(c *api.Config) { c.Routers[0].Neighbors[1].Export = "r2" }, Fault{"r1", "r2", api.ErrName}},
		{"a client outside", func(c *api.Config) { c.Routers[0].Neighbors[1].Client = true }, Fault{"r1", "r3", api.ErrState}},
		{"a neighbor that isn't there", neighbor(0, api.Neighbor{Name: "x5"}), Fault{"r1", "x5", api.ErrName}},
		{"itself", neighbor(0, api.Neighbor{Name: "r1"}), Fault{"r1", "r1", api.ErrSelf}},
		{"no neighbor there", neighbor(0, api.Neighbor{Name: "r4"}), Fault{"r1", "r4", api.ErrPair}},
		{"a link to nobody", link(0, api.Link{Name: "x6"}), Fault{"r1", "x6", api.ErrName}},
		{"a link to itself", link(0, api.Link{Name: "r1"}), Fault{"r1", "r1", api.ErrSelf}},
		{"a link to outside", link(0, api.Link{Name: "r3"}), Fault{"r1", "r3", api.ErrState}},
		{"no link there", link(0, api.Link{Name: "r4"}), Fault{"r1", "r4", api.ErrPair}},
		{"one's id", func(c *api.Config) { c.Routers[1].ID = 1 }, Fault{"r2", "r2", api.ErrTwice}},
		{"no neighbor back", neighbor(1, api.Neighbor{Name: "r3"}), Fault{"r2", "r3", api.ErrPair}},
		{"no link back", func(c *api.Config) { c.Routers[3].Links = nil }, Fault{"r2", "r4", api.ErrPair}},
		{"an id of one that isn't next", func(c *api.Config) { c.Routers[2].ID = 1 }, Fault{"r3", "r3", api.ErrTwice}},
		{"nobody", neighbor(2, api.Neighbor{Name: "m"}), Fault{"r3", "m", api.ErrName}},
		{"a last router's id", func(c *api.Config) { c.Routers[3].ID = 2 }, Fault{"r4", "r4", api.ErrTwice}},
		{"a last router's link", link(3, api.Link{Name: "l"}), Fault{"r4", "l", api.ErrName}},
	}
}

func TestEachFault(t *testing.T) {
	made(t, config(t, sound))
	for _, w := range wrongs() {
		c := config(t, sound)
		w.change(&c)
		if n, f := Make(c); n != nil || f != w.fault {
			t.Errorf("%s: %v, %+v, not %+v", w.name, n != nil, f, w.fault)
		}
		for _, x := range flaws(c) {
			if first := flaws(c)[0].place; !slices.Equal(x.place[:len(x.place)-1], first[:len(first)-1]) {
				t.Errorf("%s: not by itself: %+v", w.name, flaws(c))
			}
		}
		held(t, c)
	}
}

// changed is the configuration of sound with some things wrong.
func changed(t *testing.T, l ...wrong) api.Config {
	c := config(t, sound)
	for _, w := range l {
		w.change(&c)
	}
	return c
}

func TestFirstFault(t *testing.T) {
	l := wrongs()
	for i, w := range l {
		for _, v := range l[i+1:] {
			c := changed(t, w, v)
			if _, f := Make(c); f != w.fault {
				t.Errorf("%s, and %s: %+v, not %+v", w.name, v.name, f, w.fault)
			}
			held(t, c)
		}
		// And of all that come behind.
		refused(t, changed(t, l[i:]...), w.fault)
	}
}

// What stands first in its row counts first, whatever it is.
func TestOrderInARow(t *testing.T) {
	rows := []wrong{
		{"nobody", neighbor(0, api.Neighbor{Name: "x"}), Fault{"a", "x", api.ErrName}},
		{"itself", neighbor(0, api.Neighbor{Name: "a"}), Fault{"a", "a", api.ErrSelf}},
		{"import", neighbor(0, api.Neighbor{Name: "b", Import: "y"}), Fault{"a", "y", api.ErrName}},
		{"export", neighbor(0, api.Neighbor{Name: "c", Export: "z"}), Fault{"a", "z", api.ErrName}},
		{"client", neighbor(0, api.Neighbor{Name: "d", Client: true}), Fault{"a", "d", api.ErrState}},
		{"pair", neighbor(0, api.Neighbor{Name: "e"}), Fault{"a", "e", api.ErrPair}},
	}
	links := []wrong{
		{"nobody", link(0, api.Link{Name: "x"}), Fault{"a", "x", api.ErrName}},
		{"itself", link(0, api.Link{Name: "a"}), Fault{"a", "a", api.ErrSelf}},
		{"outside", link(0, api.Link{Name: "d"}), Fault{"a", "d", api.ErrState}},
		{"pair", link(0, api.Link{Name: "b"}), Fault{"a", "b", api.ErrPair}},
		{"cost", link(0, api.Link{Name: "c", Cost: 2}), Fault{"a", "c", api.ErrPair}},
	}
	base := "router a { as 1; id 1; } router b { as 1; id 2; neighbor a; } router c { as 1; id 3; neighbor a; link a cost 3; } router d { as 2; id 4; neighbor a; } router e { as 2; id 5; }"
	for _, l := range [][]wrong{rows, links} {
		permutations(len(l), func(order []int) {
			c := config(t, base)
			for _, i := range order {
				l[i].change(&c)
			}
			if n, f := Make(c); n != nil || f != l[order[0]].fault {
				t.Errorf("%+v: %+v, not %+v", c, f, l[order[0]].fault)
			}
		})
	}
	// A neighbor's fault counts ahead of each link's, an id's ahead of both, and an earlier router's last one ahead of a later one's first.
	for _, w := range rows {
		for _, v := range links {
			c := config(t, base)
			v.change(&c)
			w.change(&c)
			refused(t, c, w.fault)
			c.Routers[0].ID = 5
			refused(t, c, w.fault) // it is the later one whose id is one's ahead
			first := api.Router{Name: "f", AS: 1, ID: 5}
			other := c
			other.Routers = append([]api.Router{first}, c.Routers...)
			refused(t, other, Fault{"a", "a", api.ErrTwice})
			first.Links = []api.Link{{Name: "e"}}
			other.Routers = append([]api.Router{first}, c.Routers...)
			refused(t, other, Fault{"f", "e", api.ErrState})
		}
	}
}

// One neighbor, or one link, with several faults.
func TestOrderInOneThing(t *testing.T) {
	base := "router a { as 1; id 1; } router b { as 2; id 2; neighbor a; } router c { as 2; id 3; } router d { as 1; id 4; link a cost 1; }"
	for _, x := range []struct {
		b    api.Neighbor
		want Fault
	}{
		{api.Neighbor{Name: "x", Import: "i", Export: "e", Client: true}, Fault{"a", "x", api.ErrName}},
		{api.Neighbor{Name: "a", Import: "i", Export: "e", Client: true}, Fault{"a", "a", api.ErrSelf}},
		{api.Neighbor{Name: "a"}, Fault{"a", "a", api.ErrSelf}},
		{api.Neighbor{Name: "c", Import: "i", Export: "e", Client: true}, Fault{"a", "i", api.ErrName}},
		{api.Neighbor{Name: "c", Import: "e", Export: "e", Client: true}, Fault{"a", "e", api.ErrName}},
		{api.Neighbor{Name: "c", Export: "e", Client: true}, Fault{"a", "e", api.ErrName}},
		{api.Neighbor{Name: "b", Import: "a", Client: true}, Fault{"a", "a", api.ErrName}},
		{api.Neighbor{Name: "c", Client: true}, Fault{"a", "c", api.ErrState}},
		{api.Neighbor{Name: "b", Client: true}, Fault{"a", "b", api.ErrState}},
		{api.Neighbor{Name: "c"}, Fault{"a", "c", api.ErrPair}},
		{api.Neighbor{Name: "d", Client: true}, Fault{"a", "d", api.ErrPair}},
	} {
		c := config(t, base)
		neighbor(0, x.b)(&c)
		refused(t, c, x.want)
	}
	for _, x := range []struct {
		l    api.Link
		want Fault
	}{
		{api.Link{Name: "x"}, Fault{"a", "x", api.ErrName}},
		{api.Link{Name: "a"}, Fault{"a", "a", api.ErrSelf}},
		{api.Link{Name: "b"}, Fault{"a", "b", api.ErrState}},
		{api.Link{Name: "c", Cost: 1}, Fault{"a", "c", api.ErrState}},
		{api.Link{Name: "d"}, Fault{"a", "d", api.ErrPair}},
		{api.Link{Name: "d", Cost: 2}, Fault{"a", "d", api.ErrPair}},
		{api.Link{Name: "d", Cost: 1}, Fault{"b", "a", api.ErrPair}}, // of the neighbor b alone
	} {
		c := config(t, base)
		link(0, x.l)(&c)
		refused(t, c, x.want)
	}
}

func TestWhoTellsFirst(t *testing.T) {
	// Of two sides that differ the earlier router's is told, whichever lacks what.
	refused(t, config(t, "router b { as 1; id 1; link a cost 1; } router a { as 1; id 2; link b cost 2; }"), Fault{"b", "a", api.ErrPair})
	refused(t, config(t, "router b { as 1; id 1; } router a { as 1; id 2; neighbor b; }"), Fault{"a", "b", api.ErrPair})
	refused(t, config(t, "router b { as 1; id 1; link a cost 0; } router a { as 1; id 2; neighbor b; }"), Fault{"b", "a", api.ErrPair})
	refused(t, config(t, "router b { as 1; id 1; link a cost 1; } router c { as 1; id 3; link a cost 2; } router a { as 1; id 2; link b cost 2; link c cost 1; }"), Fault{"b", "a", api.ErrPair})
	// One that tells a third one isn't one that tells back.
	refused(t, config(t, "router a { as 1; id 1; neighbor b; } router b { as 1; id 2; neighbor c; } router c { as 1; id 3; neighbor a; }"), Fault{"a", "b", api.ErrPair})
	// An id counts in each AS, and just of those ahead.
	refused(t, config(t, "router a { as 1; id 7; } router b { as 2; id 7; }"), Fault{"b", "b", api.ErrTwice})
	refused(t, config(t, "router a { as 1; id 7; } router b { as 2; id 8; } router c { as 3; id 7; } router d { as 4; id 8; }"), Fault{"c", "c", api.ErrTwice})
	refused(t, config(t, "router a { as 1; id 7; neighbor x; } router b { as 2; id 7; }"), Fault{"a", "x", api.ErrName})
	// Both may tell the other one as a client, and one may.
	made(t, config(t, "router a { as 1; id 7; neighbor b client; } router b { as 1; id 8; neighbor a client; }"))
	made(t, config(t, "router a { as 1; id 7; neighbor b; } router b { as 1; id 8; neighbor a client; }"))
	refused(t, config(t, "router a { as 1; id 7; neighbor b; } router b { as 2; id 8; neighbor a client; }"), Fault{"b", "a", api.ErrState})
}

func TestNamesOfMaps(t *testing.T) {
	const ends = " } router b { as 1; id 2; neighbor a; }"
	// A list, or a router, isn't a map of that name, and a map isn't a list.
	refused(t, config(t, "prefix-list l { } router a { as 1; id 1; neighbor b import l;"+ends), Fault{"a", "l", api.ErrName})
	refused(t, config(t, "router a { as 1; id 1; neighbor b export b;"+ends), Fault{"a", "b", api.ErrName})
	refused(t, config(t, "route-map m { permit 1 { match prefix m; } }"), Fault{"", "m", api.ErrName})
	refused(t, config(t, "route-map m { permit 1 { match prefix a; } } router a { as 1; id 1; neighbor x; }"), Fault{"", "a", api.ErrName})
	// A map that nobody uses is looked at, too, and one with nothing in it is one, as is such a list; each may be told behind who uses it.
	refused(t, config(t, "route-map k { } route-map m { permit 1 { } deny 2 { match prefix l; } } prefix-list k { }"), Fault{"", "l", api.ErrName})
	made(t, config(t, "router a { as 1; id 1; neighbor b import m export m;"+ends+" route-map m { }"))
	made(t, config(t, "route-map m { permit 1 { match prefix l; } } prefix-list l { }"))
	made(t, config(t, "route-map m { permit 1 { match path \"1\"; match community 1:1; } }"))
}

func TestWhatMayNotBe(t *testing.T) {
	for _, change := range []func(c *api.Config){
		func(c *api.Config) { c.Routers[0].AS = 0 },
		func(c *api.Config) { c.Routers[3].AS = 65536 },
		func(c *api.Config) { c.Routers[1].ID = 0 },
		func(c *api.Config) { c.Routers[1].ID = math.MinInt },
		func(c *api.Config) { c.Routers[1].Name = "r1" },
		func(c *api.Config) { c.Routers[1].Name = "" },
		func(c *api.Config) { c.Routers[1].Name = "R" },
		func(c *api.Config) { c.Routers[0].Neighbors[1].Name = "r2" },
		func(c *api.Config) { c.Routers[0].Neighbors[1].Name = "" },
		func(c *api.Config) { c.Routers[0].Neighbors[1].Import = "abcdefghijklm" },
		func(c *api.Config) { c.Routers[1].Links[1].Name = "r1" },
		func(c *api.Config) { c.Routers[1].Links[1].Cost = -1 },
		func(c *api.Config) { c.Routers[1].Links[0].Cost, c.Routers[0].Links[0].Cost = 65537, 65537 },
		func(c *api.Config) { c.Routers[0].Networks = []api.Prefix{{Addr: 1, Bits: 8}} },
		func(c *api.Config) { c.Routers[0].Networks = make([]api.Prefix, 2) },
		func(c *api.Config) { c.Lists = append(c.Lists, c.Lists[0]) },
		func(c *api.Config) { c.Lists[0].Rules[0].Le = 7 },
		func(c *api.Config) { c.Lists = make([]api.List, 17) },
		func(c *api.Config) { c.Maps[1].Name = "m" },
		func(c *api.Config) { c.Maps[0].Clauses[0].N = 2 },
		func(c *api.Config) { c.Maps[0].Clauses[0].Match.Path = "(" },
		func(c *api.Config) { c.Maps[0].Clauses[0].Match.List = "a b" },
		func(c *api.Config) { c.Maps[0].Clauses[0].Set.Pref = -2 },
		func(c *api.Config) { c.Maps[0].Clauses[0].Set.Prepend = make([]int, 1) },
		func(c *api.Config) { c.Routers = slices.Repeat(c.Routers, 3) },
		func(c *api.Config) { c.Routers = make([]api.Router, 1) },
	} {
		c := config(t, sound)
		change(&c)
		refused(t, c, Fault{E: api.ErrArg})
		// It counts ahead of each fault.
		for _, w := range wrongs()[:15] {
			if len(c.Routers) == 4 && len(c.Maps) == 2 {
				other := bared(c)
				w.change(&other)
				if n, f := Make(other); judged(other).E == api.ErrArg && (n != nil || f != Fault{E: api.ErrArg}) {
					t.Errorf("%+v: %+v", other, f)
				}
			}
		}
	}
}
