package show

import (
	"slices"
	"strings"
	"testing"

	"whirligig/api"
)

// differs asks whether Differ tells just this of two configurations, from both sides.
func differs(t *testing.T, a, b api.Config, want ...string) {
	t.Helper()
	for range 2 {
		if l := Differ(a, b); !slices.Equal(l, want) {
			t.Errorf("Differ(%+v, %+v): %q, not %q", a, b, l, want)
		}
		a, b = b, a
	}
	compared(t, a, b)
}

// lists, routers are parts with such names, and nothing in them.
func lists(names ...string) api.Config {
	var c api.Config
	for _, s := range names {
		c.Lists = append(c.Lists, api.List{Name: s})
	}
	return c
}

func routers(names ...string) api.Config {
	var c api.Config
	for _, s := range names {
		c.Routers = append(c.Routers, api.Router{Name: s})
	}
	return c
}

func TestSame(t *testing.T) {
	if !Same(wholeConfig(), wholeConfig()) || Same(wholeConfig(), api.Config{}) || !Same(api.Config{}, api.Config{}) {
		t.Error("one configuration and none")
	}
	differs(t, wholeConfig(), wholeConfig())
	// Nil and empty lists are one.
	full := api.Config{
		Lists: []api.List{{Rules: []api.Range{}}}, Maps: []api.Map{{Clauses: []api.Clause{}}, {Clauses: []api.Clause{{Set: api.Set{Add: []api.Comm{}, Del: []api.Comm{}, Prepend: []int{}}}}}},
		Routers: []api.Router{{Networks: []api.Prefix{}, Neighbors: []api.Neighbor{}, Links: []api.Link{}}},
	}
	if !Same(full, bared(full)) || !Same(bared(full), full) {
		t.Error("nil and empty lists are told apart")
	}
	differs(t, full, bared(full))
	if !Same(api.Config{Lists: []api.List{}, Maps: []api.Map{}, Routers: []api.Router{}}, api.Config{}) {
		t.Error("nil and empty lists of parts are told apart")
	}
}

func TestOrderOfNames(t *testing.T) {
	a, b := wholeConfig(), wholeConfig()
	slices.Reverse(b.Lists)
	slices.Reverse(b.Maps)
	slices.Reverse(b.Routers)
	if Same(a, b) {
		t.Error("the same in another order is the same")
	}
	differs(t, a, b)
	// What stands within a part has its order.
	slices.Reverse(b.Lists[1].Rules)
	slices.Reverse(b.Routers[1].Networks)
	differs(t, a, b, "prefix-list wide", "router r1")
}

func TestDiffer(t *testing.T) {
	whole := wholeConfig()
	differs(t, whole, api.Config{}, "prefix-list none", "prefix-list wide", "route-map in", "route-map out", "router r1", "router r2")
	differs(t, whole, api.Config{Lists: whole.Lists, Maps: whole.Maps[1:], Routers: whole.Routers[:1]}, "route-map in", "router r2")
	// Rising is byte by byte.
	differs(t, lists("b", "a10", "a9", "a", "a-"), lists("a_", "a1"), "prefix-list a", "prefix-list a-", "prefix-list a1", "prefix-list a10", "prefix-list a9", "prefix-list a_", "prefix-list b")
	differs(t, lists("z", "\xff", "", "Z", "é", " "), api.Config{}, "prefix-list ", "prefix-list  ", "prefix-list Z", "prefix-list z", "prefix-list é", "prefix-list \xff")
	differs(t, lists("a", "c"), lists("b", "c"), "prefix-list a", "prefix-list b")
	// One name in two kinds is two things.
	both := lists("a")
	both.Routers = routers("a").Routers
	differs(t, both, routers("a"), "prefix-list a")
	differs(t, lists("a"), routers("a"), "prefix-list a", "router a")
}

func TestOneNameTwice(t *testing.T) {
	differs(t, lists("a", "a"), lists("a"))
	differs(t, lists("a", "a"), api.Config{}, "prefix-list a")
	if Same(lists("a", "a"), lists("a")) {
		t.Error("one and two are the same")
	}
	// The first one counts, wherever the other ones stand.
	bare, full := api.List{Name: "a"}, api.List{Name: "a", Rules: make([]api.Range, 1)}
	of := func(l ...api.List) api.Config { return api.Config{Lists: l} }
	differs(t, of(bare, full), of(bare))
	differs(t, of(bare, full), of(full), "prefix-list a")
	differs(t, of(bare, full), of(full, bare), "prefix-list a")
	differs(t, of(full, bare, bare), of(full))
	differs(t, of(api.List{Name: "b"}, full, bare), of(full, api.List{Name: "b"}))
	one, two := api.Map{Name: "a"}, api.Map{Name: "a", Clauses: make([]api.Clause, 1)}
	differs(t, api.Config{Maps: []api.Map{one, two}}, api.Config{Maps: []api.Map{two, one}}, "route-map a")
	differs(t, api.Config{Maps: []api.Map{two, one}}, api.Config{Maps: []api.Map{two}})
	r, s := api.Router{Name: "a"}, api.Router{Name: "a", AS: 1}
	differs(t, api.Config{Routers: []api.Router{r, s}}, api.Config{Routers: []api.Router{s, r}}, "router a")
	differs(t, api.Config{Routers: []api.Router{s, r}}, api.Config{Routers: []api.Router{s}})
}

func TestManyParts(t *testing.T) {
	var names []string
	for i := range 20000 {
		names = append(names, name(i*7919%20000, 8))
	}
	a := lists(names...)
	slices.Reverse(names)
	b := lists(names[1:]...)
	if l := Differ(a, b); len(l) != 1 || l[0] != "prefix-list "+names[0] {
		t.Errorf("%d", len(l))
	}
	l := Differ(a, api.Config{})
	if len(l) != 20000 || !slices.IsSorted(l) || !strings.HasPrefix(l[0], "prefix-list n") {
		t.Errorf("%d", len(l))
	}
	if May(a) || Same(a, b) || !Same(a, a) {
		t.Error("many lists")
	}
}
