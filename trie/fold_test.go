package trie

import (
	"slices"
	"strconv"
	"strings"
	"testing"

	"whirligig/addr"
	"whirligig/api"
)

// tell writes a fold: the value, or a point, and behind it what came of the halves.
func tell(kids []string, v int, is bool) string {
	s := "."
	if is {
		s = strconv.Itoa(v)
	} else if v != 0 {
		s = "a value where there is none"
	}
	if len(kids) > 0 {
		s += "(" + strings.Join(kids, " ") + ")"
	}
	return s
}

func TestFold(t *testing.T) {
	for _, c := range []struct {
		l    []string
		want string
	}{
		{nil, "."},
		{[]string{"0.0.0.0/0"}, "1"},
		{[]string{"0.0.0.0/1"}, ".(1)"},
		{[]string{"128.0.0.0/1"}, ".(1)"},
		{[]string{"128.0.0.0/1", "0.0.0.0/1"}, ".(2 1)"},
		{[]string{"128.0.0.0/1", "0.0.0.0/1", "0.0.0.0/0"}, "3(2 1)"},
		{[]string{"192.0.0.0/2", "0.0.0.0/0"}, "2(.(1))"},
		{[]string{"64.0.0.0/2", "192.0.0.0/2", "128.0.0.0/2"}, ".(.(1) .(3 2))"},
		{[]string{"64.0.0.0/2", "0.0.0.0/1", "160.0.0.0/3"}, ".(2(1) .(.(3)))"},
	} {
		if s := Fold(made(t, c.l...), tell); s != c.want {
			t.Errorf("Fold of %v: %s, not %s", c.l, s, c.want)
		}
	}
}

func TestFoldOfAllBits(t *testing.T) {
	for _, l := range []string{"0.0.0.0/32", "10.1.2.3/32", "255.255.255.255/32"} {
		calls := 0
		depth := Fold(made(t, l), func(kids []int, v int, is bool) int {
			calls++
			if is != (len(kids) == 0) || is != (v == 1) {
				t.Errorf("%s: kids %v, %d, %v", l, kids, v, is)
			}
			deepest := 0
			for _, k := range kids {
				deepest = max(deepest, k)
			}
			return deepest + 1
		})
		if depth != 33 || calls != 33 {
			t.Errorf("%s: %d deep, %d calls", l, depth, calls)
		}
	}
	both := made(t, "10.1.2.3/32", "10.1.2.2/32")
	if s := Fold(both, tell); !strings.Contains(s, ".(2 1)") || strings.Count(s, ".") != 32 {
		t.Errorf("both halves of 31 bits: %s", s)
	}
}

func TestFoldForgetsWhatIsDropped(t *testing.T) {
	x := made(t, "0.0.0.0/0", "10.1.2.3/32", "128.0.0.0/1", "192.0.0.0/2")
	x.Drop(pre(t, "10.1.2.3/32"))
	if s := Fold(x, tell); s != "1(3(4))" {
		t.Errorf("a leaf is dropped: %s", s)
	}
	x.Drop(pre(t, "128.0.0.0/1"))
	if s := Fold(x, tell); s != "1(.(4))" {
		t.Errorf("one between others is dropped: %s", s)
	}
	x.Drop(api.Prefix{})
	if s := Fold(x, tell); s != ".(.(4))" {
		t.Errorf("the one with no bits is dropped: %s", s)
	}
	x.Drop(pre(t, "192.0.0.0/2"))
	if s := Fold(x, tell); s != "." {
		t.Errorf("all are dropped: %s", s)
	}
}

func TestFoldOfNil(t *testing.T) {
	calls := 0
	n := Fold(nil, func(kids []int, v string, is bool) int {
		calls++
		if len(kids) != 0 || v != "" || is {
			t.Errorf("up of %v, %q, %v", kids, v, is)
		}
		return 7
	})
	if n != 7 || calls != 1 {
		t.Errorf("a nil trie: %d, by %d calls", n, calls)
	}
}

func TestFoldIntoItself(t *testing.T) {
	type tree struct {
		kids []*tree
		v    string
	}
	x := New[string]()
	for _, s := range []string{"0.0.0.0/1", "0.0.0.0/2", "64.0.0.0/2", "128.0.0.0/2", "192.0.0.0/2"} {
		x.Put(pre(t, s), s)
	}
	// What is handed up may be kept: no later call writes over it.
	top := Fold(x, func(kids []*tree, v string, _ bool) *tree { return &tree{kids, v} })
	var l []string
	var over func(at *tree)
	over = func(at *tree) {
		l = append(l, at.v)
		for _, k := range at.kids {
			over(k)
		}
	}
	over(top)
	if want := []string{"", "0.0.0.0/1", "0.0.0.0/2", "64.0.0.0/2", "", "128.0.0.0/2", "192.0.0.0/2"}; !slices.Equal(l, want) {
		t.Errorf("%q, not %q", l, want)
	}
}

// judge is the fold of a plain map, by 6.3's words: it looks through all of it at each prefix.
func judge(m map[api.Prefix]int, at api.Prefix) string {
	in := func(p api.Prefix) bool {
		for q := range m {
			if addr.Contains(p, q) {
				return true
			}
		}
		return false
	}
	var kids []string
	if low, high, e := addr.Halves(at); e == api.OK {
		for _, half := range []api.Prefix{low, high} {
			if in(half) {
				kids = append(kids, judge(m, half))
			}
		}
	}
	v, is := m[at]
	return tell(kids, v, is)
}

// sorted is the prefixes of a map that pass, by addr.Before.
func sorted(m map[api.Prefix]int, passes func(api.Prefix) bool) []api.Prefix {
	var l []api.Prefix
	for p := range m {
		if passes(p) {
			l = append(l, p)
		}
	}
	slices.SortFunc(l, func(p, q api.Prefix) int {
		switch {
		case addr.Before(p, q):
			return -1
		case addr.Before(q, p):
			return 1
		}
		return 0
	})
	return l
}

// agree fails the test, if a trie isn't the map m, as far as a world of prefixes can tell.
func agree(t *testing.T, x *Trie[int], m map[api.Prefix]int, world []api.Prefix) {
	t.Helper()
	if x.Len() != len(m) {
		t.Fatalf("Len: %d of %v", x.Len(), m)
	}
	for _, p := range world {
		v, is := m[p]
		if gotV, got := x.Get(p); gotV != v || got != is {
			t.Fatalf("Get(%v): %d, %v of %v", p, gotV, got, m)
		}
		above := sorted(m, func(q api.Prefix) bool { return addr.Contains(q, p) })
		if l := x.Above(p); !slices.Equal(l, above) {
			t.Fatalf("Above(%v): %v of %v", p, l, m)
		}
		below := sorted(m, func(q api.Prefix) bool { return addr.Contains(p, q) })
		if l := x.Below(p); !slices.Equal(l, below) {
			t.Fatalf("Below(%v): %v of %v", p, l, m)
		}
		for _, a := range []uint32{p.Addr, addr.Last(p)} {
			agreeAt(t, x, m, a)
		}
	}
	var l []api.Prefix
	x.Each(func(p api.Prefix, v int) bool {
		if v != m[p] {
			t.Fatalf("Each tells %d of %v", v, p)
		}
		l = append(l, p)
		return true
	})
	if !slices.Equal(l, sorted(m, func(api.Prefix) bool { return true })) {
		t.Fatalf("Each: %v of %v", l, m)
	}
	if s := Fold(x, tell); s != judge(m, api.Prefix{}) {
		t.Fatalf("Fold: %s of %v", s, m)
	}
}

// agreeAt fails the test, if the longest for an address isn't the last of those above it.
func agreeAt(t *testing.T, x *Trie[int], m map[api.Prefix]int, a uint32) {
	t.Helper()
	var want api.Prefix
	v, is := 0, false
	if l := sorted(m, func(q api.Prefix) bool { return addr.Has(q, a) }); len(l) > 0 {
		want = l[len(l)-1]
		v, is = m[want], true
	}
	if p, gotV, got := x.Longest(a); p != want || gotV != v || got != is {
		t.Fatalf("Longest(%x): %v, %d, %v of %v", a, p, gotV, got, m)
	}
	above := x.Above(api.Prefix{Addr: a, Bits: 32})
	if is != (len(above) > 0) || is && above[len(above)-1] != want {
		t.Fatalf("above %x: %v, and the longest is %v", a, above, want)
	}
}

// TestAllSmallTables: every set of the prefixes with up to two bits, put in both orders, and each one dropped of it.
func TestAllSmallTables(t *testing.T) {
	world := pres(t, "0.0.0.0/0", "0.0.0.0/1", "128.0.0.0/1", "0.0.0.0/2", "64.0.0.0/2", "128.0.0.0/2", "192.0.0.0/2")
	for set := range 1 << len(world) {
		for _, back := range []bool{false, true} {
			for drop := range world {
				x, m := New[int](), map[api.Prefix]int{}
				for i := range world {
					k := i
					if back {
						k = len(world) - 1 - i
					}
					if set>>k&1 == 1 {
						x.Put(world[k], k+1)
						m[world[k]] = k + 1
					}
				}
				agree(t, x, m, world)
				_, is := m[world[drop]]
				if x.Drop(world[drop]) != is {
					t.Fatalf("Drop(%v) of %v: not %v", world[drop], m, is)
				}
				delete(m, world[drop])
				agree(t, x, m, world)
			}
		}
	}
}

// TestAsAMap: a long run of puts and drops, each answer held against a plain map.
func TestAsAMap(t *testing.T) {
	world := pres(t, edges()...)
	world = append(world, pres(t, "10.0.0.0/7", "10.0.0.0/8", "11.0.0.0/8", "10.0.0.0/9", "10.128.0.0/9",
		"10.1.0.0/16", "10.1.2.0/24", "10.1.2.2/31", "10.1.2.2/32", "10.1.2.3/32")...)
	x, m := New[int](), map[api.Prefix]int{}
	state := uint32(1)
	for step := range 2000 {
		state = state*1664525 + 1013904223
		p := world[int(state>>8)%len(world)]
		_, is := m[p]
		if state>>31 == 0 {
			if had, e := x.Put(p, step); had != is || e != api.OK {
				t.Fatalf("Put(%v): %v, %d", p, had, e)
			}
			m[p] = step
		} else {
			if x.Drop(p) != is {
				t.Fatalf("Drop(%v): not %v", p, is)
			}
			delete(m, p)
		}
		agree(t, x, m, world)
	}
}
