package graph

import (
	"maps"
	"strings"
	"testing"
)

func TestReachAndCosts(t *testing.T) {
	for _, c := range []struct {
		graph, a string
		want     map[string]int
	}{
		{"a, b", "a", map[string]int{"a": 0}},
		{"a b 4", "a", map[string]int{"a": 0, "b": 4}},
		{"a b 4", "b", map[string]int{"b": 0}},
		{"a a 4", "a", map[string]int{"a": 0}},
		{"a b 0, b a 0", "b", map[string]int{"a": 0, "b": 0}},
		{"a b 1, b c 1, a c 3", "a", map[string]int{"a": 0, "b": 1, "c": 2}},
		{"a b 1, b c 1, a c 2", "a", map[string]int{"a": 0, "b": 1, "c": 2}},
		{"a b 1, b c 1, a c 1", "a", map[string]int{"a": 0, "b": 1, "c": 1}},
		{"a d 9, a b 1, b c 1, c d 1, d e 1, f a 0", "a", map[string]int{"a": 0, "b": 1, "c": 2, "d": 3, "e": 4}},
		{"a b 65536, b c 65536, c d 65536, a d 65536", "a", map[string]int{"a": 0, "b": 65536, "c": 131072, "d": 65536}},
		{"c b 2, b a 2, a c 2, d c 0", "c", map[string]int{"a": 4, "b": 2, "c": 0}},
	} {
		g := laid(t, c.graph)
		if got := g.Costs(c.a); !maps.Equal(got, c.want) {
			t.Errorf("%s: Costs(%s): %v, not %v", c.graph, c.a, got, c.want)
		}
		var reach []string
		for _, a := range g.Nodes() {
			if _, is := c.want[a]; is {
				reach = append(reach, a)
			}
		}
		same(t, c.graph+": Reach", g.Reach(c.a), reach)
	}
}

func TestWalk(t *testing.T) {
	for _, c := range []struct {
		graph, ends, want string
		cost              int
	}{
		{"a b 1, b c 1, a c 3", "a c", "a b c", 2},
		{"a b 1, b c 1, a c 1", "a c", "a c", 1},
		// The same cost: the fewest nodes, be their list the greater one.
		{"a b 1, b c 1, a c 2", "a c", "a c", 2},
		{"a b 0, b c 0, a c 0", "a c", "a c", 0},
		{"a b 0, b c 0, c e 2, a d 1, d e 1", "a e", "a d e", 2},
		// The same cost and as many nodes: the least list, whatever its costs are one by one.
		{"a c 1, c d 1, a b 1, b d 1", "a d", "a b d", 2},
		{"a b 2, b d 0, a c 0, c d 2", "a d", "a b d", 2},
		{"a b 0, b d 2, a c 2, c d 0", "a d", "a b d", 2},
		{"d c 1, c a 1, d b 1, b a 1", "d a", "d b a", 2},
		{"a c 1, c d 1, d z 1, a b 1, b y 1, y z 1", "a z", "a b y z", 3},
		{"a b 1, b e 1, b d 1, e f 1, d f 1", "a f", "a b d f", 3},
		// The least next node leads astray.
		{"a b 0, b z 9, a c 1, c z 1", "a z", "a c z", 2},
		{"a b 0, b a 0, a c 0", "a c", "a c", 0},
		{"a b 0, b c 0, c b 0, c d 0", "a d", "a b c d", 0},
		// From a node to itself, with rings and without.
		{"a", "a a", "a", 0},
		{"a a 0", "a a", "a", 0},
		{"a a 5", "a a", "a", 0},
		{"a b 0, b a 0", "a a", "a", 0},
		{"a b 65536, b c 65536", "a c", "a b c", 131072},
		{"b a 0, c b 0", "c a", "c b a", 0},
	} {
		ends := strings.Fields(c.ends)
		l, cost, ok := laid(t, c.graph).Walk(ends[0], ends[1])
		if s := strings.Join(l, " "); s != c.want || cost != c.cost || !ok {
			t.Errorf("%s: Walk(%s): %s, %d, %v, not %s, %d", c.graph, c.ends, s, cost, ok, c.want, c.cost)
		}
	}
}

func TestNoWalk(t *testing.T) {
	for _, c := range [][2]string{
		{"a b 1", "b a"},
		{"a, b", "a b"},
		{"a b 1, c d 1", "a d"},
		{"a b 1, c b 1", "a c"},
		{"a b 1", "a z"},
		{"a b 1", "z b"},
		{"a b 1", "z z"},
		{"", "a a"},
		{"a a 0, b", "a b"},
	} {
		ends := strings.Fields(c[1])
		l, cost, ok := laid(t, c[0]).Walk(ends[0], ends[1])
		if len(l) != 0 || cost != 0 || ok {
			t.Errorf("%s: Walk(%s): %v, %d, %v", c[0], c[1], l, cost, ok)
		}
	}
}

// TestLongWalk: of a long chain with shortcuts that cost too much, or as much, all is told, and nothing runs out of room.
func TestLongWalk(t *testing.T) {
	const long = 100000
	g := New[int]()
	for a := range long {
		g.Edge(a, a+1, 65536)
	}
	g.Edge(0, 3, 65536)
	g.Edge(1, 4, 65536)
	g.Edge(0, 2, 65536)
	if c := g.Costs(0); len(c) != long+1 || c[long] != (long-2)*65536 {
		t.Errorf("Costs: %d, the last one %d", len(c), c[long])
	}
	l, cost, ok := g.Walk(0, long)
	if len(l) != long-1 || cost != (long-2)*65536 || !ok {
		t.Fatalf("Walk: %d nodes, %d, %v", len(l), cost, ok)
	}
	same(t, "how it begins", l[:4], []int{0, 1, 4, 5})
	if l := g.Reach(long / 2); len(l) != long/2+1 {
		t.Errorf("Reach: %d", len(l))
	}
}
