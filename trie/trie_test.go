package trie

import (
	"math"
	"slices"
	"testing"

	"whirligig/addr"
	"whirligig/api"
)

// pre is the prefix of a text that is one.
func pre(t *testing.T, s string) api.Prefix {
	t.Helper()
	p, e := addr.Parse(s)
	if e != api.OK {
		t.Fatalf("Parse(%q): %d", s, e)
	}
	return p
}

// pres is the prefixes of texts.
func pres(t *testing.T, l ...string) []api.Prefix {
	t.Helper()
	var out []api.Prefix
	for _, s := range l {
		out = append(out, pre(t, s))
	}
	return out
}

// made is a trie in which each text's prefix has its place in the list, from 1 on.
func made(t *testing.T, l ...string) *Trie[int] {
	t.Helper()
	x := New[int]()
	for i, p := range pres(t, l...) {
		if had, e := x.Put(p, i+1); had || e != api.OK {
			t.Fatalf("Put(%s): %v, %d", l[i], had, e)
		}
	}
	return x
}

// same fails the test, if a list isn't the prefixes of texts.
func same(t *testing.T, what string, got []api.Prefix, want ...string) {
	t.Helper()
	if !slices.Equal(got, pres(t, want...)) {
		t.Errorf("%s: %v, not %v", what, got, want)
	}
}

// wrong is prefixes that may not be.
func wrong() []api.Prefix {
	return []api.Prefix{
		{Addr: 0, Bits: -1},
		{Addr: 0, Bits: 33},
		{Addr: 0, Bits: math.MinInt},
		{Addr: 0, Bits: math.MaxInt},
		{Addr: 1, Bits: 0},
		{Addr: 1 << 31, Bits: 0},
		{Addr: 10<<24 | 1, Bits: 8},
		{Addr: math.MaxUint32, Bits: 31},
	}
}

// edges is prefixes with no bits, with all of them, and with all but one.
func edges() []string {
	return []string{
		"0.0.0.0/0", "0.0.0.0/1", "128.0.0.0/1", "0.0.0.0/31", "255.255.255.254/31",
		"0.0.0.0/32", "0.0.0.1/32", "255.255.255.254/32", "255.255.255.255/32",
	}
}

func TestNew(t *testing.T) {
	x := New[int]()
	if x == nil || x.Len() != 0 {
		t.Fatal("New isn't without prefixes")
	}
	for _, p := range pres(t, edges()...) {
		if v, is := x.Get(p); v != 0 || is {
			t.Errorf("Get(%v) of none: %d, %v", p, v, is)
		}
		if x.Drop(p) {
			t.Errorf("Drop(%v) of none", p)
		}
		if len(x.Above(p)) != 0 || len(x.Below(p)) != 0 {
			t.Errorf("above or below %v is something", p)
		}
	}
	for _, a := range []uint32{0, 1, math.MaxUint32} {
		if p, v, is := x.Longest(a); p != (api.Prefix{}) || v != 0 || is {
			t.Errorf("Longest(%d) of none: %v, %d, %v", a, p, v, is)
		}
	}
	x.Each(func(p api.Prefix, _ int) bool {
		t.Errorf("Each of none came to %v", p)
		return true
	})
	if x.Len() != 0 {
		t.Error("asking put something in")
	}
}

func TestPutAndGet(t *testing.T) {
	x := New[string]()
	p := pre(t, "10.0.0.0/8")
	if had, e := x.Put(p, "a"); had || e != api.OK {
		t.Errorf("the first Put: %v, %d", had, e)
	}
	if had, e := x.Put(p, "b"); !had || e != api.OK {
		t.Errorf("the second Put: %v, %d", had, e)
	}
	if v, is := x.Get(p); v != "b" || !is || x.Len() != 1 {
		t.Errorf("put twice: %q, %v, %d", v, is, x.Len())
	}
	for _, q := range pres(t, "10.0.0.0/7", "10.0.0.0/9", "10.128.0.0/9", "11.0.0.0/8", "0.0.0.0/0", "10.0.0.0/32") {
		if v, is := x.Get(q); v != "" || is {
			t.Errorf("Get(%v): %q, %v", q, v, is)
		}
	}
	if had, e := x.Put(p, ""); !had || e != api.OK {
		t.Errorf("a zero value: %v, %d", had, e)
	}
	if v, is := x.Get(p); v != "" || !is || x.Len() != 1 {
		t.Errorf("a prefix with a zero value has one: %q, %v, %d", v, is, x.Len())
	}
}

func TestPutAtEdges(t *testing.T) {
	l := edges()
	x := made(t, l...)
	if x.Len() != len(l) {
		t.Errorf("Len: %d", x.Len())
	}
	for i, p := range pres(t, l...) {
		if v, is := x.Get(p); v != i+1 || !is {
			t.Errorf("Get(%s): %d, %v", l[i], v, is)
		}
	}
	for i, p := range pres(t, l...) {
		if !x.Drop(p) || x.Drop(p) || x.Len() != len(l)-i-1 {
			t.Errorf("Drop(%s): %d are left", l[i], x.Len())
		}
		for k, q := range pres(t, l...) {
			if v, is := x.Get(q); is != (k > i) || is && v != k+1 {
				t.Errorf("%s dropped, %s: %d, %v", l[i], l[k], v, is)
			}
		}
	}
}

func TestDrop(t *testing.T) {
	x := made(t, "10.0.0.0/8", "10.0.0.0/9", "10.128.0.0/9", "10.1.0.0/16")
	for _, p := range pres(t, "10.0.0.0/7", "10.0.0.0/10", "10.0.0.0/16", "11.0.0.0/8", "0.0.0.0/0", "10.1.0.0/17") {
		if x.Drop(p) || x.Len() != 4 {
			t.Errorf("Drop(%v), which has none: %d are left", p, x.Len())
		}
	}
	// The one whose halves have values, then the one between others.
	if !x.Drop(pre(t, "10.0.0.0/8")) || x.Len() != 3 {
		t.Error("the one whose halves have values")
	}
	same(t, "both halves stay", x.Below(api.Prefix{}), "10.0.0.0/9", "10.1.0.0/16", "10.128.0.0/9")
	x.Put(pre(t, "10.0.0.0/8"), 7)
	if !x.Drop(pre(t, "10.0.0.0/9")) || x.Len() != 3 {
		t.Error("the one between others")
	}
	same(t, "those around it stay", x.Above(pre(t, "10.1.0.0/16")), "10.0.0.0/8", "10.1.0.0/16")
	if v, is := x.Get(pre(t, "10.0.0.0/9")); v != 0 || is {
		t.Errorf("it still has a value: %d, %v", v, is)
	}
	if had, e := x.Put(pre(t, "10.0.0.0/9"), 9); had || e != api.OK || x.Len() != 4 {
		t.Errorf("put again behind Drop: %v, %d, %d", had, e, x.Len())
	}
}

func TestLongest(t *testing.T) {
	x := made(t, "10.0.0.0/8", "10.1.0.0/16", "10.1.2.3/32", "128.0.0.0/1")
	for _, c := range []struct {
		a    uint32
		want string
		v    int
	}{
		{10<<24 | 1<<16 | 2<<8 | 3, "10.1.2.3/32", 3},
		{10<<24 | 1<<16 | 2<<8 | 4, "10.1.0.0/16", 2},
		{10<<24 | 1<<16, "10.1.0.0/16", 2},
		{10<<24 | 1<<16 | 0xffff, "10.1.0.0/16", 2},
		{10<<24 | 2<<16, "10.0.0.0/8", 1},
		{10 << 24, "10.0.0.0/8", 1},
		{10<<24 | 0xffffff, "10.0.0.0/8", 1},
		{1 << 31, "128.0.0.0/1", 4},
		{math.MaxUint32, "128.0.0.0/1", 4},
	} {
		if p, v, is := x.Longest(c.a); p != pre(t, c.want) || v != c.v || !is {
			t.Errorf("Longest(%x): %v, %d, %v", c.a, p, v, is)
		}
	}
	for _, a := range []uint32{0, 9<<24 | 0xffffff, 11 << 24, 1<<31 - 1} {
		if p, v, is := x.Longest(a); p != (api.Prefix{}) || v != 0 || is {
			t.Errorf("no prefix has %x: %v, %d, %v", a, p, v, is)
		}
	}
	x.Put(api.Prefix{}, 5)
	if p, v, is := x.Longest(0); p != (api.Prefix{}) || v != 5 || !is {
		t.Errorf("the one with no bits has all: %v, %d, %v", p, v, is)
	}
}

func TestAboveAndBelow(t *testing.T) {
	x := made(t, "10.128.0.0/9", "10.1.0.0/16", "0.0.0.0/0", "10.0.0.0/8", "10.0.0.0/9", "11.0.0.0/8", "10.0.0.0/32")
	same(t, "above one with a value", x.Above(pre(t, "10.1.0.0/16")), "0.0.0.0/0", "10.0.0.0/8", "10.0.0.0/9", "10.1.0.0/16")
	same(t, "above one with none, in the tree", x.Above(pre(t, "10.0.0.0/12")), "0.0.0.0/0", "10.0.0.0/8", "10.0.0.0/9")
	same(t, "above one with none, off the tree", x.Above(pre(t, "10.1.2.3/32")), "0.0.0.0/0", "10.0.0.0/8", "10.0.0.0/9", "10.1.0.0/16")
	same(t, "above the one with no bits", x.Above(api.Prefix{}), "0.0.0.0/0")
	same(t, "above one of all bits", x.Above(pre(t, "10.0.0.0/32")), "0.0.0.0/0", "10.0.0.0/8", "10.0.0.0/9", "10.0.0.0/32")
	same(t, "below one with a value", x.Below(pre(t, "10.0.0.0/8")), "10.0.0.0/8", "10.0.0.0/9", "10.0.0.0/32", "10.1.0.0/16", "10.128.0.0/9")
	same(t, "below one with none, in the tree", x.Below(pre(t, "10.0.0.0/7")), "10.0.0.0/8", "10.0.0.0/9", "10.0.0.0/32", "10.1.0.0/16", "10.128.0.0/9", "11.0.0.0/8")
	same(t, "below one with none, off the tree", x.Below(pre(t, "12.0.0.0/8")))
	same(t, "below one with nothing but itself", x.Below(pre(t, "11.0.0.0/8")), "11.0.0.0/8")
	same(t, "below one of all bits", x.Below(pre(t, "10.0.0.0/32")), "10.0.0.0/32")
	same(t, "below the one with no bits", x.Below(api.Prefix{}),
		"0.0.0.0/0", "10.0.0.0/8", "10.0.0.0/9", "10.0.0.0/32", "10.1.0.0/16", "10.128.0.0/9", "11.0.0.0/8")
	x.Drop(api.Prefix{})
	same(t, "above the one with no bits, which has none", x.Above(api.Prefix{}))
}

func TestAnswersAreNewMemory(t *testing.T) {
	x := made(t, "10.0.0.0/8", "10.1.0.0/16")
	for _, ask := range []func() []api.Prefix{
		func() []api.Prefix { return x.Above(pre(t, "10.1.0.0/16")) },
		func() []api.Prefix { return x.Below(pre(t, "10.0.0.0/8")) },
	} {
		l, m := ask(), ask()
		clear(l)
		same(t, "another answer", m, "10.0.0.0/8", "10.1.0.0/16")
		same(t, "a later answer", ask(), "10.0.0.0/8", "10.1.0.0/16")
	}
}

func TestEach(t *testing.T) {
	x := made(t, "10.128.0.0/9", "255.255.255.255/32", "10.0.0.0/9", "10.0.0.0/8", "0.0.0.0/0")
	order := []string{"0.0.0.0/0", "10.0.0.0/8", "10.0.0.0/9", "10.128.0.0/9", "255.255.255.255/32"}
	values := []int{5, 4, 3, 1, 2}
	for end := 1; end <= len(order)+1; end++ {
		var l []api.Prefix
		var vs []int
		x.Each(func(p api.Prefix, v int) bool {
			l, vs = append(l, p), append(vs, v)
			return len(l) < end
		})
		n := min(end, len(order))
		same(t, "Each", l, order[:n]...)
		if !slices.Equal(vs, values[:n]) {
			t.Errorf("Each that ends at %d: values %v", end, vs)
		}
	}
}

func TestValuesOfOtherTypes(t *testing.T) {
	p, q := pre(t, "10.0.0.0/8"), pre(t, "10.0.0.0/9")
	lists := New[[]int]()
	l := []int{1, 2}
	lists.Put(p, l)
	lists.Put(q, nil)
	if v, is := lists.Get(p); !is || len(v) != 2 || &v[0] != &l[0] {
		t.Error("a value is handed on as it is")
	}
	if v, is := lists.Get(q); !is || v != nil || lists.Len() != 2 {
		t.Error("a nil list is a value")
	}
	structs := New[api.Pos]()
	structs.Put(q, api.Pos{Line: 3, Col: 4})
	if at, v, is := structs.Longest(10 << 24); at != q || v != (api.Pos{Line: 3, Col: 4}) || !is {
		t.Errorf("a struct: %v, %v, %v", at, v, is)
	}
	pointers := New[*int]()
	n := 8
	pointers.Put(p, &n)
	if v, is := pointers.Get(p); !is || v != &n {
		t.Error("a pointer is handed on as it is")
	}
	if v, is := pointers.Get(q); is || v != nil {
		t.Error("no pointer of a prefix without value")
	}
	if !pointers.Drop(p) || pointers.Len() != 0 {
		t.Error("a pointer is dropped")
	}
}

func TestTriesAreApart(t *testing.T) {
	x, y := New[int](), New[int]()
	p, q := pre(t, "10.0.0.0/8"), pre(t, "10.0.0.0/9")
	x.Put(p, 1)
	if _, is := y.Get(p); is || y.Len() != 0 {
		t.Error("what one is given the other one has")
	}
	y.Put(p, 2)
	y.Put(q, 3)
	if v, _ := x.Get(p); v != 1 || x.Len() != 1 {
		t.Error("what the other one is given changes the first one")
	}
	x.Drop(p)
	if v, is := y.Get(p); v != 2 || !is || y.Len() != 2 {
		t.Error("what one drops the other one lacks")
	}
	same(t, "the other one", y.Below(api.Prefix{}), "10.0.0.0/8", "10.0.0.0/9")
}

func TestPrefixesThatMayNotBe(t *testing.T) {
	for _, x := range []*Trie[int]{New[int](), made(t, edges()...)} {
		was := x.Below(api.Prefix{})
		for _, p := range wrong() {
			if had, e := x.Put(p, 5); had || e != api.ErrArg {
				t.Errorf("Put(%v): %v, %d", p, had, e)
			}
			if v, is := x.Get(p); v != 0 || is {
				t.Errorf("Get(%v): %d, %v", p, v, is)
			}
			if x.Drop(p) {
				t.Errorf("Drop(%v)", p)
			}
			if l := x.Above(p); len(l) != 0 {
				t.Errorf("Above(%v): %v", p, l)
			}
			if l := x.Below(p); len(l) != 0 {
				t.Errorf("Below(%v): %v", p, l)
			}
		}
		if !slices.Equal(x.Below(api.Prefix{}), was) || x.Len() != len(was) {
			t.Error("what was refused changed something")
		}
	}
}

func TestNil(t *testing.T) {
	var x *Trie[string]
	for _, p := range append(wrong(), pres(t, edges()...)...) {
		if had, e := x.Put(p, "a"); had || e != api.ErrArg {
			t.Errorf("Put: %v, %d", had, e)
		}
		if v, is := x.Get(p); v != "" || is {
			t.Errorf("Get: %q, %v", v, is)
		}
		if x.Drop(p) {
			t.Error("Drop")
		}
		if len(x.Above(p)) != 0 || len(x.Below(p)) != 0 {
			t.Error("above or below is something")
		}
	}
	if p, v, is := x.Longest(0); p != (api.Prefix{}) || v != "" || is {
		t.Errorf("Longest: %v, %q, %v", p, v, is)
	}
	if x.Len() != 0 {
		t.Errorf("Len: %d", x.Len())
	}
	x.Each(func(api.Prefix, string) bool {
		t.Error("Each came to a prefix")
		return true
	})
}

func TestNilFunctions(t *testing.T) {
	for _, x := range []*Trie[int]{nil, New[int](), made(t, edges()...)} {
		x.Each(nil)
		if n := Fold[int, int](x, nil); n != 0 {
			t.Errorf("Fold by nothing: %d", n)
		}
	}
}
