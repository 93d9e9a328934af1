package plist

import (
	"math/rand"
	"slices"
	"testing"

	"whirligig/addr"
	"whirligig/api"
)

// world is prefixes, the least first, and rules that no others meet: so all can be asked one by one.
type world struct {
	prefixes []api.Prefix
	rules    []api.Range
}

// under is the world of the prefixes that p contains and that have at most so many bits.
func under(p api.Prefix, most int) world {
	var w world
	for bits := p.Bits; bits <= most; bits++ {
		for n := range uint32(1) << (bits - p.Bits) {
			w.prefixes = append(w.prefixes, api.Prefix{Addr: p.Addr | n<<(32-bits), Bits: bits})
		}
	}
	for _, q := range w.prefixes {
		for ge := q.Bits; ge <= most; ge++ {
			for le := ge; le <= most; le++ {
				w.rules = append(w.rules, api.Range{P: q, Ge: ge, Le: le}, api.Range{P: q, Ge: ge, Le: le, Permit: true})
			}
		}
	}
	return w
}

// worlds is some at the edges of the addresses, and one amid them.
func worlds(t *testing.T) []world {
	return []world{
		under(api.Prefix{}, 3),
		under(pre(t, "0.0.0.0/29"), 32),
		under(pre(t, "255.255.255.248/29"), 32),
		under(pre(t, "10.0.0.0/14"), 17),
	}
}

// list is some rules of a world.
func (w world) list(r *rand.Rand, n int) []api.Range {
	var l []api.Range
	for range n {
		l = append(l, w.rules[r.Intn(len(w.rules))])
	}
	return l
}

// isIdle asks all prefixes of a world.
func (w world) isIdle(l []api.Range, i int) bool {
	for _, p := range w.prefixes {
		if !Met(l[i], p) {
			continue
		}
		if !slices.ContainsFunc(l[:i], func(r api.Range) bool { return Met(r, p) }) {
			return false
		}
	}
	return true
}

// differs asks all prefixes of a world.
func (w world) differs(a, b []api.Range) (api.Prefix, bool) {
	for _, p := range w.prefixes {
		x, _ := Lets(a, p)
		if y, _ := Lets(b, p); x != y {
			return p, true
		}
	}
	return api.Prefix{}, false
}

func TestWorldsAreWhole(t *testing.T) {
	for _, w := range worlds(t) {
		if len(w.prefixes) != 15 {
			t.Fatalf("%d prefixes", len(w.prefixes))
		}
		for _, p := range w.prefixes {
			if !addr.May(p) {
				t.Errorf("%v may not be", p)
			}
		}
		if e := May(w.rules[:16]); e != api.OK {
			t.Errorf("its rules may not be: %d", e)
		}
	}
}

func TestIdle(t *testing.T) {
	l := []api.Range{
		rule(t, true, "10.0.0.0/9", 16, 24),
		rule(t, false, "10.128.0.0/9", 16, 24),
		rule(t, true, "10.0.0.0/8", 16, 24), // both halves stand ahead of it
		rule(t, true, "10.0.0.0/8", 16, 25), // one more bit
		rule(t, true, "10.0.0.0/8", 15, 25), // one less
		rule(t, true, "10.0.0.0/8", 15, 25), // once more
		rule(t, true, "10.0.0.0/8", 8, 8),
		rule(t, true, "10.0.0.0/9", 9, 9),
		rule(t, true, "10.0.0.0/8", 9, 9), // the other half is left
	}
	want := []bool{false, false, true, false, false, true, false, false, false}
	for i := range l {
		if got, e := Idle(l, i); got != want[i] || e != api.OK {
			t.Errorf("Idle(%d): %v %d", i, got, e)
		}
	}
}

func TestIdleInWorlds(t *testing.T) {
	r := rand.New(rand.NewSource(1))
	for _, w := range worlds(t) {
		idle := 0
		for range 400 {
			l := w.list(r, 1+r.Intn(16))
			for i := range l {
				want := w.isIdle(l, i)
				if got, e := Idle(l, i); got != want || e != api.OK {
					t.Fatalf("Idle(%v, %d): %v %d", l, i, got, e)
				}
				if want {
					idle++
				}
			}
		}
		if idle == 0 {
			t.Error("no rule was idle")
		}
	}
}

func TestIdleRefuses(t *testing.T) {
	l := many(16)
	for _, i := range []int{-1, 16, 17, -1 << 63, 1<<63 - 1} {
		if got, e := Idle(l, i); got || e != api.ErrRange {
			t.Errorf("Idle(16 rules, %d): %v %d", i, got, e)
		}
		if got, e := Idle(many(17), i); got || e != api.ErrLong {
			t.Errorf("Idle(17 rules, %d): %v %d", i, got, e)
		}
	}
	for _, i := range []int{0, 15} {
		if got, e := Idle(l, i); got || e != api.OK {
			t.Errorf("Idle(16 rules, %d): %v %d", i, got, e)
		}
	}
	for _, i := range []int{-1, 0, 1} {
		if got, e := Idle(nil, i); got || e != api.ErrRange {
			t.Errorf("Idle(no rules, %d): %v %d", i, got, e)
		}
	}
	for _, x := range wrong() {
		for _, i := range []int{-1, 0, 1, 2, 3} {
			// Rule 1 would be idle, were it a list.
			if got, e := Idle([]api.Range{l[0], l[0], x}, i); got || e != api.ErrArg {
				t.Errorf("Idle with %v, %d: %v %d", x, i, got, e)
			}
		}
		if got, e := Idle(append(many(16), x), 0); got || e != api.ErrLong {
			t.Errorf("Idle of 17 with %v: %v %d", x, got, e)
		}
	}
}

func TestBare(t *testing.T) {
	a := rule(t, true, "10.0.0.0/9", 16, 24)
	b := rule(t, false, "10.128.0.0/9", 16, 24)
	c := rule(t, true, "10.0.0.0/8", 16, 24)
	d := rule(t, true, "10.0.0.0/8", 16, 25)
	for _, x := range []struct{ l, want []api.Range }{
		{nil, nil},
		{[]api.Range{}, nil},
		{[]api.Range{a}, []api.Range{a}},
		{[]api.Range{a, a, a}, []api.Range{a}},
		{[]api.Range{a, b, c, d}, []api.Range{a, b, d}},
		{[]api.Range{a, c, b, d}, []api.Range{a, c, d}},
		{[]api.Range{c, a, b}, []api.Range{c}},
		{[]api.Range{d, c, b, a}, []api.Range{d}},
		{[]api.Range{b, d, b}, []api.Range{b, d}}, // no rule that lets nothing pass goes for that
		{many(16), many(16)},
	} {
		if got, e := Bare(x.l); !slices.Equal(got, x.want) || e != api.OK {
			t.Errorf("Bare(%v): %v %d", x.l, got, e)
		}
	}
}

// TestBareInWorlds asks for what follows, too: no rule of a bare list is idle, and it lets pass what the list lets.
func TestBareInWorlds(t *testing.T) {
	r := rand.New(rand.NewSource(2))
	for _, w := range worlds(t) {
		for range 400 {
			l := w.list(r, r.Intn(17))
			var want []api.Range
			for i := range l {
				if left := append(slices.Clone(want), l[i]); !w.isIdle(left, len(want)) {
					want = left
				}
			}
			got, e := Bare(l)
			if !slices.Equal(got, want) || e != api.OK {
				t.Fatalf("Bare(%v): %v %d, not %v", l, got, e, want)
			}
			for i := range got {
				if idle, _ := Idle(got, i); idle {
					t.Fatalf("Bare(%v): rule %d of %v is idle", l, i, got)
				}
			}
			if p, is := w.differs(l, got); is {
				t.Fatalf("Bare(%v): %v passes one alone", l, p)
			}
			if p, is, e := Differ(l, got); is || e != api.OK || p != (api.Prefix{}) {
				t.Fatalf("Differ(%v, bare): %v %v %d", l, p, is, e)
			}
		}
	}
}

func TestBareRefuses(t *testing.T) {
	for _, x := range wrong() {
		for _, l := range [][]api.Range{{x}, append(many(15), x), append([]api.Range{x}, many(15)...)} {
			if got, e := Bare(l); len(got) != 0 || e != api.ErrArg {
				t.Errorf("Bare(%v): %v %d", l, got, e)
			}
		}
		if got, e := Bare(append(many(16), x)); len(got) != 0 || e != api.ErrLong {
			t.Errorf("Bare of 17 with %v: %v %d", x, got, e)
		}
	}
	if got, e := Bare(many(17)); len(got) != 0 || e != api.ErrLong {
		t.Errorf("Bare of 17: %v %d", got, e)
	}
}

func TestDiffer(t *testing.T) {
	all := rule(t, true, "0.0.0.0/0", 0, 32)
	for _, x := range []struct {
		a, b []api.Range
		want string // empty: they don't differ
	}{
		{nil, nil, ""},
		{nil, []api.Range{}, ""},
		{nil, []api.Range{all}, "0.0.0.0/0"},
		{nil, []api.Range{rule(t, false, "0.0.0.0/0", 0, 32)}, ""},
		{nil, []api.Range{rule(t, true, "10.0.0.0/8", 16, 24)}, "10.0.0.0/16"},
		{nil, []api.Range{rule(t, true, "255.255.255.255/32", 32, 32)}, "255.255.255.255/32"},
		{[]api.Range{all}, []api.Range{rule(t, false, "10.1.0.0/16", 24, 24), all}, "10.1.0.0/24"},
		// They differ in one prefix alone.
		{[]api.Range{all}, []api.Range{rule(t, false, "10.1.2.3/32", 32, 32), all}, "10.1.2.3/32"},
		{[]api.Range{all}, []api.Range{rule(t, false, "10.1.0.0/16", 16, 16), all}, "10.1.0.0/16"},
		{[]api.Range{all}, []api.Range{rule(t, true, "0.0.0.0/0", 1, 32)}, "0.0.0.0/0"},
		// Behind a rule's end, and amid others.
		{[]api.Range{rule(t, true, "10.0.0.0/9", 24, 24), rule(t, true, "10.128.0.0/10", 24, 24)},
			[]api.Range{rule(t, true, "10.0.0.0/8", 24, 24)}, "10.192.0.0/24"},
		// Fewer bits come ahead of a lower address.
		{[]api.Range{rule(t, true, "1.0.0.0/8", 9, 9), rule(t, true, "200.0.0.0/8", 8, 8)}, nil, "200.0.0.0/8"},
		{[]api.Range{rule(t, true, "200.0.0.0/8", 8, 8), rule(t, true, "1.0.0.0/8", 8, 8)}, nil, "1.0.0.0/8"},
		// One lets pass by a rule what the other one lets by a different one.
		{[]api.Range{rule(t, true, "10.0.0.0/8", 8, 24)},
			[]api.Range{rule(t, true, "10.0.0.0/8", 8, 16), rule(t, true, "10.0.0.0/8", 17, 24)}, ""},
		{[]api.Range{all}, []api.Range{rule(t, true, "0.0.0.0/0", 0, 31), rule(t, true, "0.0.0.0/1", 32, 32),
			rule(t, true, "128.0.0.0/1", 32, 32)}, ""},
		{many(16), many(15), ""},
		{many(15), many(14), "14.0.0.0/8"},
	} {
		want := api.Prefix{}
		if x.want != "" {
			want = pre(t, x.want)
		}
		if got, is, e := Differ(x.a, x.b); got != want || is != (x.want != "") || e != api.OK {
			t.Errorf("Differ(%v, %v): %v %v %d", x.a, x.b, got, is, e)
		}
		if got, is, e := Differ(x.b, x.a); got != want || is != (x.want != "") || e != api.OK {
			t.Errorf("Differ(%v, %v): %v %v %d", x.b, x.a, got, is, e)
		}
	}
}

func TestDifferInWorlds(t *testing.T) {
	r := rand.New(rand.NewSource(3))
	for _, w := range worlds(t) {
		same, other := 0, 0
		for range 2000 {
			a := w.list(r, r.Intn(17))
			b := slices.Clone(a)
			switch {
			case len(a) == 0 || r.Intn(4) == 0:
				b = w.list(r, r.Intn(17))
			case r.Intn(2) == 0:
				b[r.Intn(len(b))] = w.rules[r.Intn(len(w.rules))]
			default:
				i, j := r.Intn(len(b)), r.Intn(len(b))
				b[i], b[j] = b[j], b[i]
			}
			want, differ := w.differs(a, b)
			if got, is, e := Differ(a, b); got != want || is != differ || e != api.OK {
				t.Fatalf("Differ(%v, %v): %v %v %d, not %v", a, b, got, is, e, want)
			}
			if differ {
				other++
			} else {
				same++
			}
		}
		if same == 0 || other == 0 {
			t.Errorf("%d lists were the same, %d others", same, other)
		}
	}
}

func TestDifferRefuses(t *testing.T) {
	refused := func(a, b []api.Range, want api.Errno) {
		t.Helper()
		if p, is, e := Differ(a, b); p != (api.Prefix{}) || is || e != want {
			t.Errorf("Differ(%d rules, %d rules): %v %v %d, not %d", len(a), len(b), p, is, e, want)
		}
	}
	for _, x := range wrong() {
		bad := []api.Range{x}
		refused(bad, nil, api.ErrArg)
		refused(nil, bad, api.ErrArg)
		refused(many(16), append(many(15), x), api.ErrArg)
		refused(bad, many(17), api.ErrArg)
		refused(many(17), bad, api.ErrLong)
	}
	refused(many(17), nil, api.ErrLong)
	refused(nil, many(17), api.ErrLong)
	refused(many(17), many(17), api.ErrLong)
}

// TestRulesBehind: what stands behind the rule that is met makes no difference.
func TestRulesBehind(t *testing.T) {
	r := rand.New(rand.NewSource(4))
	for _, w := range worlds(t) {
		for range 200 {
			l := w.list(r, 16)
			for _, p := range w.prefixes {
				ok, i := Lets(l, p)
				if i < 0 {
					continue
				}
				other := append(slices.Clone(l[:i+1]), w.list(r, r.Intn(16-i))...)
				if o, j := Lets(other, p); o != ok || j != i {
					t.Fatalf("Lets(%v, %v): %v %d, not %v %d", other, p, o, j, ok, i)
				}
			}
		}
	}
}
