package graph

import (
	"cmp"
	"maps"
	"math"
	"slices"
	"strconv"
	"strings"
	"testing"

	"whirligig/api"
)

// laid is a graph of texts: between commas stands a node by itself, or two with an edge's cost.
func laid(t *testing.T, s string) *Graph[string] {
	t.Helper()
	g := New[string]()
	for _, part := range strings.Split(s, ",") {
		switch l := strings.Fields(part); len(l) {
		case 0:
		case 1:
			g.Node(l[0])
		default:
			cost, err := strconv.Atoi(l[2])
			if e := g.Edge(l[0], l[1], cost); e != api.OK || err != nil {
				t.Fatalf("Edge(%s): %d", part, e)
			}
		}
	}
	return g
}

// drawn is all that the plain calls tell of a graph, as a text that laid takes.
func drawn(g *Graph[string]) string {
	var l []string
	for _, a := range g.Nodes() {
		l = append(l, a)
		for _, b := range g.Out(a) {
			cost, _ := g.Cost(a, b)
			l = append(l, a+" "+b+" "+strconv.Itoa(cost))
		}
	}
	return strings.Join(l, ", ")
}

// same fails the test, if two lists aren't the same.
func same[N cmp.Ordered](t *testing.T, what string, got, want []N) {
	t.Helper()
	if !slices.Equal(got, want) {
		t.Errorf("%s: %v, not %v", what, got, want)
	}
}

// is fails the test, if a graph isn't as drawn.
func is(t *testing.T, g *Graph[string], want string) {
	t.Helper()
	if s := drawn(g); s != want {
		t.Errorf("the graph is %q, not %q", s, want)
	}
}

func TestNew(t *testing.T) {
	g := New[string]()
	if g == nil || len(g.Nodes()) != 0 {
		t.Fatal("New isn't a graph without nodes")
	}
	nowhere(t, g, "")
	nowhere(t, g, "a")
	if l := g.Parts(); len(l) != 0 {
		t.Errorf("Parts: %v", l)
	}
	if l, ok := g.Order(); len(l) != 0 || !ok {
		t.Errorf("nothing is in order: %v, %v", l, ok)
	}
	if l := g.Ring(); len(l) != 0 {
		t.Errorf("Ring: %v", l)
	}
	if back := g.Turned(); back == nil || back == g || len(back.Nodes()) != 0 {
		t.Error("Turned isn't a graph without nodes of its own")
	}
	is(t, g, "")
}

// nowhere fails the test, if a graph tells anything of a node that isn't there.
func nowhere(t *testing.T, g *Graph[string], a string) {
	t.Helper()
	if g.Gone(a) {
		t.Errorf("%q: Gone", a)
	}
	if len(g.Out(a)) != 0 || len(g.Reach(a)) != 0 || len(g.Costs(a)) != 0 {
		t.Errorf("%q: Out %v, Reach %v, Costs %v", a, g.Out(a), g.Reach(a), g.Costs(a))
	}
	for _, pair := range [][2]string{{a, a}, {a, "b"}, {"b", a}} {
		if g.Cut(pair[0], pair[1]) {
			t.Errorf("%q: Cut", pair)
		}
		if cost, ok := g.Cost(pair[0], pair[1]); cost != 0 || ok {
			t.Errorf("%q: Cost %d, %v", pair, cost, ok)
		}
		if l, cost, ok := g.Walk(pair[0], pair[1]); len(l) != 0 || cost != 0 || ok {
			t.Errorf("%q: Walk %v, %d, %v", pair, l, cost, ok)
		}
	}
}

func TestNode(t *testing.T) {
	g := New[string]()
	for _, c := range []struct {
		a    string
		want bool
	}{{"b", true}, {"b", false}, {"a", true}, {"b", false}, {"a", false}, {"", true}, {"", false}} {
		if got := g.Node(c.a); got != c.want {
			t.Errorf("Node(%q): %v", c.a, got)
		}
	}
	same(t, "Nodes", g.Nodes(), []string{"", "a", "b"})
	g = laid(t, "a b 3")
	if g.Node("a") || g.Node("b") {
		t.Error("an edge's ends aren't nodes")
	}
	is(t, g, "a, a b 3, b")
}

func TestNodeAlone(t *testing.T) {
	g := laid(t, "a")
	same(t, "Reach", g.Reach("a"), []string{"a"})
	if c := g.Costs("a"); !maps.Equal(c, map[string]int{"a": 0}) {
		t.Errorf("Costs: %v", c)
	}
	if l, cost, ok := g.Walk("a", "a"); !slices.Equal(l, []string{"a"}) || cost != 0 || !ok {
		t.Errorf("Walk: %v, %d, %v", l, cost, ok)
	}
	if l := g.Parts(); len(l) != 1 || !slices.Equal(l[0], []string{"a"}) {
		t.Errorf("Parts: %v", l)
	}
	if l, ok := g.Order(); !slices.Equal(l, []string{"a"}) || !ok {
		t.Errorf("Order: %v, %v", l, ok)
	}
	if l := g.Ring(); len(l) != 0 {
		t.Errorf("Ring: %v", l)
	}
	if l := g.Out("a"); len(l) != 0 {
		t.Errorf("Out: %v", l)
	}
	if cost, ok := g.Cost("a", "a"); cost != 0 || ok {
		t.Errorf("Cost: %d, %v", cost, ok)
	}
	nowhere(t, g, "b")
	is(t, g.Turned(), "a")
	is(t, g, "a")
}

func TestEdge(t *testing.T) {
	g := laid(t, "b a 1, b c 65536, b b 0, c b 7")
	is(t, g, "a, b, b a 1, b b 0, b c 65536, c, c b 7")
	for _, pair := range [][2]string{{"a", "b"}, {"a", "c"}, {"c", "c"}, {"b", "d"}, {"d", "b"}} {
		if cost, ok := g.Cost(pair[0], pair[1]); cost != 0 || ok {
			t.Errorf("Cost(%v): %d, %v", pair, cost, ok)
		}
	}
	if cost, ok := g.Cost("b", "b"); cost != 0 || !ok {
		t.Errorf("the cost 0 is one: %d, %v", cost, ok)
	}
	for _, cost := range []int{5, 65536, 0, 9, 9} {
		if e := g.Edge("b", "a", cost); e != api.OK {
			t.Errorf("Edge of cost %d: %d", cost, e)
		}
		if got, ok := g.Cost("b", "a"); got != cost || !ok {
			t.Errorf("laid again with %d: %d, %v", cost, got, ok)
		}
		if l, got, ok := g.Walk("b", "a"); len(l) != 2 || got != cost || !ok {
			t.Errorf("Walk over a cost of %d: %v, %d, %v", cost, l, got, ok)
		}
	}
	is(t, g, "a, b, b a 9, b b 0, b c 65536, c, c b 7")
	is(t, g.Turned(), "a, a b 9, b, b b 0, b c 7, c, c b 65536")
}

func TestEdgeOutOfRange(t *testing.T) {
	for _, cost := range []int{-1, 65537, -65536, 1 << 32, math.MinInt, math.MaxInt} {
		g := laid(t, "a b 3, c")
		for _, pair := range [][2]string{{"a", "b"}, {"b", "a"}, {"a", "d"}, {"d", "a"}, {"e", "f"}, {"d", "d"}, {"c", "c"}} {
			if e := g.Edge(pair[0], pair[1], cost); e != api.ErrRange {
				t.Errorf("Edge(%v, %d): %d", pair, cost, e)
			}
		}
		is(t, g, "a, a b 3, b, c")
		is(t, g.Turned(), "a, b, b a 3, c")
	}
}

func TestCut(t *testing.T) {
	g := laid(t, "a b 1, b a 2, b b 0, b c 3")
	for _, c := range []struct {
		a, b string
		want bool
		left string
	}{
		{"a", "c", false, "a, a b 1, b, b a 2, b b 0, b c 3, c"},
		{"c", "b", false, "a, a b 1, b, b a 2, b b 0, b c 3, c"},
		{"a", "z", false, "a, a b 1, b, b a 2, b b 0, b c 3, c"},
		{"z", "a", false, "a, a b 1, b, b a 2, b b 0, b c 3, c"},
		{"a", "b", true, "a, b, b a 2, b b 0, b c 3, c"},
		{"a", "b", false, "a, b, b a 2, b b 0, b c 3, c"},
		{"b", "b", true, "a, b, b a 2, b c 3, c"},
		{"b", "c", true, "a, b, b a 2, c"},
		{"b", "a", true, "a, b, c"},
		{"b", "a", false, "a, b, c"},
	} {
		if got := g.Cut(c.a, c.b); got != c.want {
			t.Errorf("Cut(%s, %s): %v", c.a, c.b, got)
		}
		is(t, g, c.left)
		is(t, g.Turned().Turned(), c.left)
	}
	if l, ok := g.Order(); len(l) != 3 || !ok || len(g.Parts()) != 3 || len(g.Ring()) != 0 {
		t.Errorf("without edges: %v, %v", l, ok)
	}
}

func TestGone(t *testing.T) {
	const whole = "a b 1, b a 2, b b 0, b c 3, c a 4, c c 5, d b 6"
	for a, left := range map[string]string{
		"a": "b, b b 0, b c 3, c, c c 5, d, d b 6",
		"b": "a, c, c a 4, c c 5, d",
		"c": "a, a b 1, b, b a 2, b b 0, d, d b 6",
		"d": "a, a b 1, b, b a 2, b b 0, b c 3, c, c a 4, c c 5",
	} {
		g := laid(t, whole)
		if !g.Gone(a) || g.Gone(a) {
			t.Errorf("Gone(%s)", a)
		}
		is(t, g, left)
		is(t, g.Turned().Turned(), left)
		nowhere(t, g, a)
		if !g.Node(a) {
			t.Errorf("%s is still a node", a)
		}
		if l := g.Reach(a); !slices.Equal(l, []string{a}) || len(g.Out(a)) != 0 {
			t.Errorf("%s came back with edges: %v", a, l)
		}
		if l := g.Turned().Reach(a); !slices.Equal(l, []string{a}) {
			t.Errorf("%s came back with edges to it: %v", a, l)
		}
	}
	g := laid(t, whole)
	if g.Gone("e") || g.Gone("") {
		t.Error("what isn't there was a node")
	}
	for _, a := range []string{"c", "a", "d", "b"} {
		g.Gone(a)
	}
	is(t, g, "")
	if len(g.out) != 0 || len(g.in) != 0 {
		t.Errorf("still kept: %v, %v", g.out, g.in)
	}
}

func TestRising(t *testing.T) {
	g := New[int]()
	for _, b := range []int{7, -1, 10, 9, 0, math.MaxInt, math.MinInt} {
		g.Edge(9, b, 1)
	}
	want := []int{math.MinInt, -1, 0, 7, 9, 10, math.MaxInt}
	same(t, "Nodes", g.Nodes(), want)
	same(t, "Out", g.Out(9), want)
	same(t, "Reach", g.Reach(9), want)
	words := New[string]()
	for _, b := range []string{"b", "B", "ab", "é", "10", "9", "a", ""} {
		words.Edge("a", b, 0)
	}
	texts := []string{"", "10", "9", "B", "a", "ab", "b", "é"}
	same(t, "Nodes", words.Nodes(), texts)
	same(t, "Out", words.Out("a"), texts)
	same(t, "Reach", words.Reach("a"), texts)
}

// name is a type that is ordered as what it is made of.
type name string

func TestOtherTypes(t *testing.T) {
	g := New[name]()
	g.Edge("r2", "r1", 1)
	g.Edge("r10", "r2", 1)
	if l, cost, ok := g.Walk("r10", "r1"); !slices.Equal(l, []name{"r10", "r2", "r1"}) || cost != 2 || !ok {
		t.Errorf("Walk: %v, %d, %v", l, cost, ok)
	}
	bytes := New[byte]()
	bytes.Edge(255, 0, 0)
	bytes.Edge(0, 255, 0)
	same(t, "Ring", bytes.Ring(), []byte{0, 255})
	halves := New[float64]()
	halves.Edge(0.5, math.Inf(-1), 2)
	halves.Edge(0.25, 0.5, 2)
	if l, ok := halves.Order(); !slices.Equal(l, []float64{0.25, 0.5, math.Inf(-1)}) || !ok {
		t.Errorf("Order: %v, %v", l, ok)
	}
}

// TestTwoZeros: a float's two zeros are one node, and how it is told hangs on the calls alone.
func TestTwoZeros(t *testing.T) {
	minus := math.Copysign(0, -1)
	for range 50 {
		g := New[float64]()
		g.Node(minus)
		g.Edge(1, 0, 0)
		g.Edge(2, minus, 0)
		g.Edge(3, 1, 0)
		g.Edge(3, 2, 0)
		if g.Node(0) || len(g.Nodes()) != 4 {
			t.Fatalf("two zeros: %v", g.Nodes())
		}
		told := [][]float64{g.Reach(3), slices.Sorted(maps.Keys(g.Costs(3))), g.Turned().Nodes(), g.Parts()[0]}
		for i, l := range told {
			if !math.Signbit(l[0]) {
				t.Errorf("%d: another zero than that of the node", i)
			}
		}
		if !g.Gone(0) || g.Gone(minus) {
			t.Error("two zeros are gone")
		}
	}
}

// TestNotOrdered: what is no number stands in no order, so it is no node.
func TestNotOrdered(t *testing.T) {
	none := math.NaN()
	g := New[float64]()
	g.Edge(1, 2, 3)
	if g.Node(none) || g.Gone(none) || g.Cut(none, 1) || g.Cut(1, none) {
		t.Error("what is no number is a node")
	}
	for _, pair := range [][2]float64{{none, 1}, {1, none}, {none, none}} {
		if e := g.Edge(pair[0], pair[1], 0); e != api.ErrArg {
			t.Errorf("Edge(%v): %d", pair, e)
		}
		if e := g.Edge(pair[0], pair[1], -1); e != api.ErrRange {
			t.Errorf("Edge(%v) of a wrong cost: %d", pair, e)
		}
		if cost, ok := g.Cost(pair[0], pair[1]); cost != 0 || ok {
			t.Errorf("Cost(%v): %d", pair, cost)
		}
		if l, cost, ok := g.Walk(pair[0], pair[1]); len(l) != 0 || cost != 0 || ok {
			t.Errorf("Walk(%v): %v", pair, l)
		}
	}
	if len(g.Out(none)) != 0 || len(g.Reach(none)) != 0 || len(g.Costs(none)) != 0 {
		t.Error("something is reached from what is no number")
	}
	same(t, "Nodes", g.Nodes(), []float64{1, 2})
	same(t, "Reach", g.Reach(1), []float64{1, 2})
}

func TestNilGraph(t *testing.T) {
	var g *Graph[string]
	if g.Node("a") {
		t.Error("Node")
	}
	for _, cost := range []int{0, 65536, -1, 65537} {
		if e := g.Edge("a", "b", cost); e != api.ErrArg {
			t.Errorf("Edge of cost %d: %d", cost, e)
		}
	}
	nowhere(t, g, "")
	nowhere(t, g, "a")
	if l := g.Nodes(); len(l) != 0 {
		t.Errorf("Nodes: %v", l)
	}
	if l := g.Parts(); len(l) != 0 {
		t.Errorf("Parts: %v", l)
	}
	if l, ok := g.Order(); len(l) != 0 || ok {
		t.Errorf("Order: %v, %v", l, ok)
	}
	if l := g.Ring(); len(l) != 0 {
		t.Errorf("Ring: %v", l)
	}
	if g.Turned() != nil {
		t.Error("Turned")
	}
}

// spoil changes all that a list has, and all for which it has room.
func spoil(l []string) {
	l = l[:cap(l)]
	for i := range l {
		l[i] = "z"
	}
}

// TestNewMemory: who changes what was told changes neither the graph nor what is told again.
func TestNewMemory(t *testing.T) {
	g := laid(t, "a b 1, b c 1, c a 0, c d 2, e")
	whole := drawn(g)
	for range 2 {
		spoil(g.Nodes())
		spoil(g.Out("c"))
		spoil(g.Reach("a"))
		spoil(g.Ring())
		walk, _, _ := g.Walk("a", "d")
		spoil(walk)
		costs := g.Costs("a")
		costs["a"], costs["z"] = 9, 9
		delete(costs, "b")
		for _, part := range g.Parts() {
			spoil(part)
		}
		is(t, g, whole)
	}
	same(t, "Reach", g.Reach("a"), []string{"a", "b", "c", "d"})
	same(t, "Ring", g.Ring(), []string{"a", "b", "c"})
	if c := g.Costs("a"); !maps.Equal(c, map[string]int{"a": 0, "b": 1, "c": 2, "d": 4}) {
		t.Errorf("Costs: %v", c)
	}
	parts := g.Parts()
	spoil(parts[1])
	same(t, "a part", parts[0], []string{"a", "b", "c"})
	same(t, "a part", parts[2], []string{"e"})
	g.Cut("c", "a")
	l, _ := g.Order()
	spoil(l)
	l, _ = g.Order()
	same(t, "Order", l, []string{"a", "b", "c", "d", "e"})
}

// TestAskingChangesNothing: what was told stays as it is when the graph changes.
func TestAskingChangesNothing(t *testing.T) {
	g := laid(t, "a b 1, b a 1, b c 1")
	nodes, out, reach, costs, ring, parts := g.Nodes(), g.Out("b"), g.Reach("a"), g.Costs("a"), g.Ring(), g.Parts()
	walk, _, _ := g.Walk("a", "c")
	g.Gone("b")
	g.Edge("a", "z", 1)
	same(t, "Nodes", nodes, []string{"a", "b", "c"})
	same(t, "Out", out, []string{"a", "c"})
	same(t, "Reach", reach, []string{"a", "b", "c"})
	same(t, "Ring", ring, []string{"a", "b"})
	same(t, "Walk", walk, []string{"a", "b", "c"})
	same(t, "a part", parts[0], []string{"a", "b"})
	if !maps.Equal(costs, map[string]int{"a": 0, "b": 1, "c": 2}) {
		t.Errorf("Costs: %v", costs)
	}
}

func TestGraphsApart(t *testing.T) {
	g, h := laid(t, "a b 1, b c 2"), laid(t, "a b 5, d")
	h.Gone("a")
	h.Edge("c", "b", 7)
	is(t, g, "a, a b 1, b, b c 2, c")
	g.Cut("b", "c")
	g.Node("e")
	is(t, h, "b, c, c b 7, d")
	is(t, g, "a, a b 1, b, c, e")
}
