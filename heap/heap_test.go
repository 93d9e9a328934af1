package heap

import (
	"math"
	"slices"
	"strings"
	"testing"
)

// rising is the order of numbers.
func rising(a, b int) bool { return a < b }

// made is a heap of one-letter keys, each with the digit behind it as its rank, set one after the other.
func made(sets string) *Heap[string, int] {
	h := New[string](rising)
	for _, s := range strings.Fields(sets) {
		h.Set(s[:1], int(s[1]-'0'))
	}
	return h
}

// popped is what a heap's keys are, told by Pop till there is none, each with its rank.
func popped(t *testing.T, h *Heap[string, int]) string {
	t.Helper()
	var l []string
	for h.Len() > 0 {
		n := h.Len()
		k, r, is := h.Pop()
		if !is || h.Len() != n-1 {
			t.Fatalf("Pop of %d keys: %q, %d, %v, and %d are left", n, k, r, is, h.Len())
		}
		l = append(l, k+string(rune('0'+r)))
	}
	return strings.Join(l, " ")
}

// empty fails the test, if a heap has a key.
func empty(t *testing.T, h *Heap[string, int]) {
	t.Helper()
	if h.Len() != 0 || len(h.All()) != 0 {
		t.Errorf("no key: Len %d, All %v", h.Len(), h.All())
	}
	if k, r, is := h.First(); k != "" || r != 0 || is {
		t.Errorf("First of none: %q, %d, %v", k, r, is)
	}
	if k, r, is := h.Pop(); k != "" || r != 0 || is {
		t.Errorf("Pop of none: %q, %d, %v", k, r, is)
	}
	if r, is := h.Rank("a"); r != 0 || is {
		t.Errorf("Rank of one that isn't there: %d, %v", r, is)
	}
	if h.Drop("a") {
		t.Error("Drop of one that isn't there: true")
	}
}

func TestWithoutKeys(t *testing.T) {
	h := New[string](rising)
	empty(t, h)
	empty(t, h)
	h.Set("a", 1)
	h.Pop()
	empty(t, h)
	h.Set("a", 1)
	h.Drop("a")
	empty(t, h)
}

func TestOneKey(t *testing.T) {
	h := New[string](rising)
	if h.Set("a", 7) {
		t.Error("Set of a new key: it was there")
	}
	if r, is := h.Rank("a"); r != 7 || !is || h.Len() != 1 {
		t.Errorf("Rank: %d, %v; Len %d", r, is, h.Len())
	}
	if r, is := h.Rank("b"); r != 0 || is {
		t.Errorf("Rank of another one: %d, %v", r, is)
	}
	if k, r, is := h.First(); k != "a" || r != 7 || !is || h.Len() != 1 {
		t.Errorf("First: %q, %d, %v; Len %d", k, r, is, h.Len())
	}
	if h.Drop("b") || h.Len() != 1 {
		t.Error("Drop of another one took something")
	}
	if k, r, is := h.Pop(); k != "a" || r != 7 || !is {
		t.Errorf("Pop: %q, %d, %v", k, r, is)
	}
	empty(t, h)
}

func TestSetAgain(t *testing.T) {
	for _, c := range []struct {
		name, sets, again, want string
	}{
		{"a lesser rank", "a5 b6 c7", "c1", "c1 a5 b6"},
		{"a lesser rank, of the one between", "a5 b6 c7", "b1", "b1 a5 c7"},
		{"a greater rank", "a5 b6 c7", "a9", "b6 c7 a9"},
		{"a greater rank, still first", "a1 b6 c7", "a5", "a5 b6 c7"},
		{"the same rank", "a5 b6 c7", "b6", "a5 b6 c7"},
		{"the same rank as others", "a5 b5 c5", "a5", "b5 c5 a5"},
		{"the same rank as others, between", "a5 b5 c5", "b5", "a5 c5 b5"},
		{"the same rank as others, last", "a5 b5 c5", "c5", "a5 b5 c5"},
		{"the rank that another one has", "a1 b2 c3", "a2", "b2 a2 c3"},
		{"the rank that another one has, from above", "a1 b2 c3", "c1", "a1 c1 b2"},
		{"the document's example", "a2 b1", "a0", "a0 b1"},
	} {
		h := made(c.sets)
		n, k, r := h.Len(), c.again[:1], int(c.again[1]-'0')
		if !h.Set(k, r) || h.Len() != n {
			t.Errorf("%s: it wasn't there, or Len isn't %d any more", c.name, n)
		}
		if got, is := h.Rank(k); got != r || !is {
			t.Errorf("%s: Rank %d, %v", c.name, got, is)
		}
		if s := popped(t, h); s != c.want {
			t.Errorf("%s: %s, not %s", c.name, s, c.want)
		}
	}
}

func TestSetThereAndBack(t *testing.T) {
	// A key that leaves its rank and comes back to it was last set behind the others.
	h := made("a5 b5 c5 a1 a5")
	if s := popped(t, h); s != "b5 c5 a5" {
		t.Error(s)
	}
	h = made("a5 b5 c5 a9 b5 a5")
	if s := popped(t, h); s != "c5 b5 a5" {
		t.Error(s)
	}
}

func TestDrop(t *testing.T) {
	for _, c := range []struct{ sets, drop, want string }{
		{"a1 b2 c3 d4 e5", "a", "b2 c3 d4 e5"},
		{"a1 b2 c3 d4 e5", "e", "a1 b2 c3 d4"},
		{"a1 b2 c3 d4 e5", "b", "a1 c3 d4 e5"},
		{"a1 b2 c3 d4 e5", "c", "a1 b2 d4 e5"},
		{"a5 b4 c3 d2 e1", "a", "e1 d2 c3 b4"},
		{"a5 b4 c3 d2 e1", "e", "d2 c3 b4 a5"},
		{"a5 b4 c3 d2 e1", "c", "e1 d2 b4 a5"},
		{"a5 b5 c5 d5", "a", "b5 c5 d5"},
		{"a5 b5 c5 d5", "b", "a5 c5 d5"},
		{"a5 b5 c5 d5", "d", "a5 b5 c5"},
		// What comes from the end into the gap must rise there: the gap is in the other branch.
		{"a1 b6 c2 d7 e8 f3", "d", "a1 c2 f3 b6 e8"},
	} {
		h := made(c.sets)
		n := h.Len()
		if !h.Drop(c.drop) || h.Len() != n-1 {
			t.Errorf("Drop(%s) of %s: it wasn't there, or Len is %d", c.drop, c.sets, h.Len())
		}
		if r, is := h.Rank(c.drop); r != 0 || is || h.Drop(c.drop) || h.Len() != n-1 {
			t.Errorf("Drop(%s) of %s: still there, %d, %v", c.drop, c.sets, r, is)
		}
		if s := popped(t, h); s != c.want {
			t.Errorf("Drop(%s) of %s: %s, not %s", c.drop, c.sets, s, c.want)
		}
	}
}

func TestDropOfNone(t *testing.T) {
	h := made("a2 b1")
	if h.Drop("c") || h.Len() != 2 {
		t.Error("Drop of one that was never set")
	}
	if s := popped(t, h); s != "b1 a2" {
		t.Error(s)
	}
}

func TestSetBehindDropAndPop(t *testing.T) {
	h := made("a5 b5 c5")
	h.Drop("a")
	if h.Set("a", 5) {
		t.Error("Set behind Drop: it was there")
	}
	if l := h.All(); !slices.Equal(l, []string{"b", "c", "a"}) {
		t.Errorf("Set behind Drop: %v", l)
	}
	h.Pop()
	if h.Set("b", 5) {
		t.Error("Set behind Pop: it was there")
	}
	if l := h.All(); !slices.Equal(l, []string{"c", "a", "b"}) {
		t.Errorf("Set behind Pop: %v", l)
	}
	h.Pop()
	h.Set("c", 1)
	if s := popped(t, h); s != "c1 a5 b5" {
		t.Errorf("Set behind Pop, lesser: %s", s)
	}
}

func TestFirstIsWhatPopTells(t *testing.T) {
	h := made("a4 b2 c9 d2 e1 f4 g0 h9")
	var l []string
	for h.Len() > 0 {
		k, r, is := h.First()
		again, r2, is2 := h.First()
		if k != again || r != r2 || !is || !is2 {
			t.Fatalf("First twice: %q %d %v, %q %d %v", k, r, is, again, r2, is2)
		}
		if rank, has := h.Rank(k); rank != r || !has {
			t.Fatalf("First: %q with %d, and its rank is %d, %v", k, r, rank, has)
		}
		if got, r3, is3 := h.Pop(); got != k || r3 != r || !is3 {
			t.Fatalf("First is %q %d, Pop tells %q %d %v", k, r, got, r3, is3)
		}
		if _, has := h.Rank(k); has {
			t.Fatalf("%q is there behind Pop", k)
		}
		l = append(l, k)
	}
	if want := []string{"g", "e", "b", "d", "a", "f", "c", "h"}; !slices.Equal(l, want) {
		t.Errorf("%v, not %v", l, want)
	}
}

func TestAllChangesNothing(t *testing.T) {
	h := made("a4 b2 c9 d2 e1")
	l := h.All()
	if !slices.Equal(l, []string{"e", "b", "d", "a", "c"}) {
		t.Errorf("All: %v", l)
	}
	for i := range l {
		l[i] = "z"
	}
	if l = h.All(); !slices.Equal(l, []string{"e", "b", "d", "a", "c"}) || h.Len() != 5 {
		t.Errorf("All once more: %v, Len %d", l, h.Len())
	}
	for i, k := range []string{"a", "b", "c", "d", "e"} {
		if r, is := h.Rank(k); r != []int{4, 2, 9, 2, 1}[i] || !is {
			t.Errorf("Rank(%s) behind All: %d, %v", k, r, is)
		}
	}
	h.Set("b", 2)
	if s := popped(t, h); s != "e1 d2 b2 a4 c9" {
		t.Errorf("behind All: %s", s)
	}
	if !slices.Equal(l, []string{"e", "b", "d", "a", "c"}) {
		t.Errorf("what All told has changed: %v", l)
	}
}

func TestNilLess(t *testing.T) {
	h := New[string, int](nil)
	for i, k := range []string{"c", "a", "b", "d"} {
		h.Set(k, 9-i)
	}
	h.Set("a", 0)
	if r, is := h.Rank("a"); r != 0 || !is {
		t.Errorf("Rank: %d, %v", r, is)
	}
	if l := h.All(); !slices.Equal(l, []string{"c", "b", "d", "a"}) {
		t.Errorf("All: %v", l)
	}
	if s := popped(t, h); s != "c9 b7 d6 a0" {
		t.Errorf("Pop: %s", s)
	}
}

func TestOtherOrders(t *testing.T) {
	h := New[string](func(a, b int) bool { return a > b })
	byTen := New[string](func(a, b int) bool { return a/10 < b/10 })
	for i, k := range []string{"a", "b", "c", "d"} {
		h.Set(k, []int{3, 8, 1, 8}[i])
		byTen.Set(k, []int{19, 12, 5, 11}[i])
	}
	if s := popped(t, h); s != "b8 d8 a3 c1" {
		t.Errorf("falling: %s", s)
	}
	if l := byTen.All(); !slices.Equal(l, []string{"c", "a", "b", "d"}) {
		t.Errorf("by tens: %v", l)
	}
	if _, r, _ := byTen.First(); r != 5 {
		t.Errorf("by tens: the first has %d", r)
	}
}

// TestNotAnOrder: nothing is promised of what comes first, but each key is still told once.
func TestNotAnOrder(t *testing.T) {
	for i, less := range []func(a, b int) bool{
		func(_, _ int) bool { return true },
		func(a, b int) bool { return a != b },
		func(a, b int) bool { return a%3 != b%3 && (a+1)%3 == b%3 },
	} {
		h := New[int](less)
		for k := range 50 {
			h.Set(k, k*7%11)
			h.Set(k/2, k*5%13)
		}
		h.Drop(20)
		told := h.All()
		for _, k := range told {
			if got, _, is := h.Pop(); got != k || !is {
				t.Fatalf("%d: All tells %d, Pop %d", i, k, got)
			}
		}
		slices.Sort(told)
		if len(slices.Compact(told)) != 49 || h.Len() != 0 {
			t.Errorf("%d: %v, and %d are left", i, told, h.Len())
		}
	}
}

func TestOtherTypes(t *testing.T) {
	type place struct{ x, y int }
	type rank struct {
		cost int
		name string
	}
	h := New[place](func(a, b rank) bool {
		return a.cost < b.cost || a.cost == b.cost && a.name < b.name
	})
	h.Set(place{1, 2}, rank{3, "b"})
	h.Set(place{2, 1}, rank{3, "a"})
	h.Set(place{0, 0}, rank{2, "z"})
	if !h.Set(place{1, 2}, rank{3, "c"}) || h.Drop(place{1, 1}) {
		t.Error("keys aren't held against each other as wholes")
	}
	if l := h.All(); !slices.Equal(l, []place{{0, 0}, {2, 1}, {1, 2}}) {
		t.Errorf("All: %v", l)
	}
	if r, is := h.Rank(place{1, 2}); r != (rank{3, "c"}) || !is {
		t.Errorf("Rank: %v, %v", r, is)
	}
	lists := New[[2]byte](func(a, b []int) bool { return slices.Compare(a, b) < 0 })
	lists.Set([2]byte{1, 2}, []int{2})
	lists.Set([2]byte{2, 2}, []int{1, 9})
	lists.Set([2]byte{3, 2}, nil)
	if l := lists.All(); !slices.Equal(l, [][2]byte{{3, 2}, {2, 2}, {1, 2}}) {
		t.Errorf("All: %v", l)
	}
	lists.Pop()
	if k, r, is := lists.First(); k != [2]byte{2, 2} || !slices.Equal(r, []int{1, 9}) || !is {
		t.Errorf("First: %v, %v, %v", k, r, is)
	}
	words := New[*int](func(a, b string) bool { return a < b })
	a, b := new(int), new(int)
	words.Set(a, "y")
	words.Set(b, "x")
	words.Set(nil, "z")
	if l := words.All(); !slices.Equal(l, []*int{b, a, nil}) {
		t.Errorf("All: %v", l)
	}
}

func TestZerosAreKeysAndRanks(t *testing.T) {
	h := New[string](rising)
	h.Set("", 0)
	if r, is := h.Rank(""); r != 0 || !is {
		t.Errorf("Rank of the zero key: %d, %v", r, is)
	}
	if k, r, is := h.First(); k != "" || r != 0 || !is {
		t.Errorf("First: %q, %d, %v", k, r, is)
	}
	if !h.Set("", -1) || !h.Drop("") || h.Len() != 0 {
		t.Error("the zero key isn't a key")
	}
}

func TestKeysLikeNothing(t *testing.T) {
	none := math.NaN()
	h := New[float64](rising)
	h.Set(2, 2)
	for i := range 10 {
		if h.Set(none, i%3) {
			t.Fatal("it isn't like any key, and was there")
		}
	}
	if _, is := h.Rank(none); is || h.Drop(none) || h.Len() != 11 {
		t.Errorf("it was found, or Len is %d", h.Len())
	}
	if l := h.All(); len(l) != 11 || l[7] != 2 {
		t.Errorf("All: %v", l)
	}
	last := 0
	for range 11 {
		k, r, is := h.Pop()
		if !is || r < last || (k == 2) != (k == k) {
			t.Fatalf("Pop: %v, %d, %v", k, r, is)
		}
		last = r
	}
	if h.Len() != 0 || len(h.at) != 0 {
		t.Errorf("%d are left, and %d in the map", h.Len(), len(h.at))
	}
}

func TestKeysThatNothingIsHeldAgainst(t *testing.T) {
	type pair struct {
		n float64
		v any
	}
	for _, bad := range []any{[]int{1}, map[int]int{}, func() {}, [1]any{[]int{}}, pair{math.NaN(), []int{}}} {
		h := New[any](rising)
		for range 2 {
			if h.Set(bad, 0) || h.Drop(bad) || h.Len() != len(h.All()) {
				t.Errorf("%T: it was there", bad)
			}
			if r, is := h.Rank(bad); r != 0 || is {
				t.Errorf("%T: Rank %d, %v", bad, r, is)
			}
			h.Set("a", 2)
			h.Set(1, 1)
		}
		if l := h.All(); !slices.Equal(l, []any{1, "a"}) {
			t.Errorf("%T: All %v", bad, l)
		}
		l := Sort([]any{2, bad, 1, bad, 2}, func(any) int { return 0 }, rising)
		if !slices.Equal(l, []any{2, 1}) {
			t.Errorf("%T: Sort %v", bad, l)
		}
	}
}

func TestNothingIsKept(t *testing.T) {
	h := New[*int](func(a, b *int) bool { return *a < *b })
	for i := range 20 {
		h.Set(new(int), &i)
	}
	for range 10 {
		h.Pop()
		k, _, _ := h.First()
		h.Drop(k)
	}
	for i, r := range h.rows[:cap(h.rows)] {
		if r.key != nil || r.rank != nil {
			t.Errorf("row %d is still kept", i)
		}
	}
	if len(h.at) != 0 {
		t.Errorf("%d keys are still in the map", len(h.at))
	}
}

func TestHeapsApart(t *testing.T) {
	h, g := made("a5 b5 c1"), made("a1 b2")
	g.Drop("a")
	g.Set("c", 9)
	g.Set("d", 0)
	if l := h.All(); !slices.Equal(l, []string{"c", "a", "b"}) || h.Len() != 3 {
		t.Errorf("what another heap was told is seen: %v", l)
	}
	h.Pop()
	h.Set("b", 0)
	if s := popped(t, g); s != "d0 b2 c9" {
		t.Errorf("what another heap was told is seen: %s", s)
	}
	if s := popped(t, h); s != "b0 a5" {
		t.Errorf("what another heap was told is seen: %s", s)
	}
}

func TestNilHeap(t *testing.T) {
	var h *Heap[string, int]
	if h.Set("a", 1) {
		t.Error("Set: true")
	}
	empty(t, h)
	if l := h.All(); len(l) != 0 {
		t.Errorf("All: %v", l)
	}
	var other *Heap[[2]int, []string]
	if k, r, is := other.Pop(); k != [2]int{} || r != nil || is {
		t.Errorf("Pop: %v, %v, %v", k, r, is)
	}
}
