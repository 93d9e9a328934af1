package graph

import (
	"strings"
	"testing"
)

// texts is parts as a text.
func texts(parts [][]string) string {
	var l []string
	for _, part := range parts {
		l = append(l, strings.Join(part, " "))
	}
	return strings.Join(l, ", ")
}

func TestParts(t *testing.T) {
	for graph, want := range map[string]string{
		"":                                  "",
		"b, a":                              "a, b",
		"a b 1":                             "a, b",
		"b a 1":                             "a, b",
		"a a 0":                             "a",
		"a b 1, b a 1":                      "a b",
		"a c 0, c a 0, b":                   "a c, b",
		"a b 1, b c 1, c a 1":               "a b c",
		"c b 1, b a 1, a c 1, d":            "a b c, d",
		"a b 1, b a 1, b c 1, c d 1, d c 1": "a b, c d",
		"d a 1, a d 1, b c 1, c b 1, c a 1": "a d, b c",
		"d a 1, a d 1, b c 1, c b 1, c a 1, d b 1":        "a b c d",
		"a b 1, b c 1, c b 1, c d 1":                      "a, b c, d",
		"a b 0, b a 0, b c 0, c b 0":                      "a b c",
		"e d 0, d c 0, c e 0, c b 0, b a 0, a b 0, a a 0": "a b, c d e",
	} {
		if got := texts(laid(t, graph).Parts()); got != want {
			t.Errorf("%q: Parts %q, not %q", graph, got, want)
		}
		if got := texts(laid(t, graph).Turned().Parts()); got != want {
			t.Errorf("%q turned round: Parts %q, not %q", graph, got, want)
		}
	}
}

func TestOrder(t *testing.T) {
	for graph, want := range map[string]string{
		"":                                  "",
		"b, c, a":                           "a b c",
		"a b 1":                             "a b",
		"b a 1":                             "b a",
		"b a 1, c":                          "b a c",
		"c a 1, b":                          "b c a",
		"c b 0, b a 0":                      "c b a",
		"c a 1, d b 1":                      "c a d b",
		"d a 1, c b 1":                      "c b d a",
		"a d 1, a c 1, d b 1, c b 1":        "a c d b",
		"z a 9, b z 9, c, d":                "b c d z a",
		"e b 1, e a 1, d a 1":               "d e a b",
		"b a 65536, c a 0, d a 1, d c 1, e": "b d c a e",
	} {
		l, ok := laid(t, graph).Order()
		if got := strings.Join(l, " "); got != want || !ok {
			t.Errorf("%q: Order %q, %v, not %q", graph, got, ok, want)
		}
	}
	for _, graph := range []string{
		"a a 0", "a b 0, b b 0", "a b 1, b a 1", "a, b c 1, c d 1, d b 1", "a b 1, b c 1, c b 1, c d 1, e",
	} {
		if l, ok := laid(t, graph).Order(); len(l) != 0 || ok {
			t.Errorf("%q: Order %v, %v", graph, l, ok)
		}
	}
}

func TestRing(t *testing.T) {
	for graph, want := range map[string]string{
		"":                    "",
		"a, b":                "",
		"a b 1, b c 1, a c 1": "",
		"a b 1, c b 1, c a 1": "",
		"a a 0":               "a",
		"b a 1, b b 7, a b 1": "b",
		"c c 1, b b 1, a b 1": "b",
		"a b 1, b a 1":        "a b",
		"b a 1, a b 1, c":     "a b",
		"a b 1, b c 1, c a 1": "a b c",
		"c b 1, b a 1, a c 1": "a c b",
		// The fewest nodes, whatever the costs and the list.
		"a b 0, b c 0, c a 0, x y 9, y x 9": "x y",
		"a b 0, b c 0, c d 0, d b 0":        "b c d",
		"a b 0, b a 0, z z 9":               "z",
		// Several with the fewest: the least list.
		"a d 0, d a 0, a c 0, c a 0, b c 0, c b 0": "a c",
		"b c 0, c b 0, a d 0, d a 0":               "a d",
		"a c 0, c d 0, d a 0, a b 0, b d 0":        "a b d",
		"a c 0, c b 0, b a 0, c d 0, d a 0":        "a c b",
		"b a 0, a d 0, d b 0, d c 0, c a 0":        "a d b",
		"d d 0, c c 0":                             "c",
		// The least next node leads farther round.
		"a b 0, b c 0, c d 0, d a 0, a c 0":        "a c d",
		"a b 0, b e 0, e a 0, b c 0, c d 0, d a 0": "a b e",
	} {
		g := laid(t, graph)
		if got := strings.Join(g.Ring(), " "); got != want {
			t.Errorf("%q: Ring %q, not %q", graph, got, want)
		}
		if l := g.Turned().Ring(); len(l) != len(strings.Fields(want)) {
			t.Errorf("%q turned round: Ring %v", graph, l)
		}
	}
}

func TestTurned(t *testing.T) {
	g := laid(t, "a b 1, b c 65536, c c 0, b a 3, d")
	back := g.Turned()
	is(t, back, "a, a b 3, b, b a 1, c, c b 65536, c c 0, d")
	is(t, back.Turned(), "a, a b 1, b, b a 3, b c 65536, c, c c 0, d")
	if l, cost, ok := back.Walk("c", "a"); strings.Join(l, " ") != "c b a" || cost != 65537 || !ok {
		t.Errorf("Walk: %v, %d, %v", l, cost, ok)
	}
	back.Edge("a", "b", 9)
	back.Edge("a", "e", 9)
	back.Cut("c", "c")
	back.Gone("d")
	is(t, g, "a, a b 1, b, b a 3, b c 65536, c, c c 0, d")
	g.Gone("a")
	g.Edge("c", "b", 2)
	is(t, back, "a, a b 9, a e 9, b, b a 1, c, c b 65536, e")
	twice := g.Turned().Turned()
	twice.Gone("c")
	twice.Node("z")
	is(t, g, "b, b c 65536, c, c b 2, c c 0, d")
}

// TestLongRing: of one ring through very many nodes all is told, and nothing runs out of room or time.
func TestLongRing(t *testing.T) {
	const long = 100000
	g := New[int]()
	for a := range long {
		g.Edge(a, (a+1)%long, a%3)
	}
	l := g.Ring()
	if len(l) != long || l[0] != 0 || l[1] != 1 || l[long-1] != long-1 {
		t.Fatalf("Ring: %d nodes", len(l))
	}
	if l = g.Turned().Ring(); len(l) != long || l[0] != 0 || l[1] != long-1 || l[long-1] != 1 {
		t.Fatalf("turned round: Ring of %d nodes", len(l))
	}
	if parts := g.Parts(); len(parts) != 1 || len(parts[0]) != long {
		t.Errorf("Parts: %d", len(parts))
	}
	if l, ok := g.Order(); len(l) != 0 || ok {
		t.Errorf("Order: %d nodes, %v", len(l), ok)
	}
	g.Cut(long-1, 0)
	if l := g.Ring(); len(l) != 0 || len(g.Turned().Ring()) != 0 {
		t.Errorf("cut: Ring of %d nodes", len(l))
	}
	if parts := g.Parts(); len(parts) != long || parts[7][0] != 7 {
		t.Errorf("cut: Parts: %d", len(parts))
	}
	if l, ok := g.Order(); len(l) != long || l[long-1] != long-1 || !ok {
		t.Errorf("cut: Order: %d nodes, %v", len(l), ok)
	}
}

// TestManyEdges: of nodes with edges to all greater ones there is no ring, and one edge back makes the least one.
func TestManyEdges(t *testing.T) {
	const many = 300
	g := New[int]()
	for a := range many {
		for b := a + 1; b < many; b++ {
			g.Edge(a, b, b-a)
		}
	}
	if l, ok := g.Order(); len(l) != many || !ok || len(g.Parts()) != many || g.Ring() != nil {
		t.Errorf("Order of %d nodes, %v, and the ring %v", len(l), ok, g.Ring())
	}
	if l, cost, _ := g.Walk(0, many-1); len(l) != 2 || cost != many-1 {
		t.Errorf("Walk: %v, %d", l, cost)
	}
	g.Edge(many-1, 40, 0)
	same(t, "Ring", g.Ring(), []int{40, many - 1})
	if l := g.Parts(); len(l) != 41 || len(l[40]) != many-40 {
		t.Errorf("Parts: %d", len(l))
	}
	// Whoever is one ahead leads to whoever is behind, but for the last one: each ring has three nodes.
	g.Cut(many-1, 40)
	g.Cut(0, many-1)
	g.Edge(many-1, 0, 0)
	same(t, "Ring", g.Ring(), []int{0, 1, many - 1})
}
