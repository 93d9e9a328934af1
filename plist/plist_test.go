package plist

import (
	"math"
	"slices"
	"testing"

	"whirligig/addr"
	"whirligig/api"
)

// pre is the prefix of a text that is one.
func pre(t *testing.T, s string) api.Prefix {
	t.Helper()
	p, e := addr.Parse(s)
	if e != api.OK {
		t.Fatalf("Parse(%q): %d", s, e)
	}
	return p
}

// rule is a rule that may be.
func rule(t *testing.T, permit bool, s string, ge, le int) api.Range {
	t.Helper()
	return api.Range{P: pre(t, s), Ge: ge, Le: le, Permit: permit}
}

// wrong is rules that may not be: each call must refuse them.
func wrong() []api.Range {
	ten := api.Prefix{Addr: 10 << 24, Bits: 8}
	return []api.Range{
		{P: ten, Ge: 7, Le: 8, Permit: true},
		{P: ten, Ge: 0, Le: 0, Permit: true},
		{P: ten, Ge: 0, Le: 32},
		{P: ten, Ge: 9, Le: 8, Permit: true},
		{P: ten, Ge: 8, Le: 0},
		{P: ten, Ge: 8, Le: 33, Permit: true},
		{P: ten, Ge: 33, Le: 33, Permit: true},
		{P: ten, Ge: -1, Le: 8, Permit: true},
		{P: ten, Ge: 8, Le: -1, Permit: true},
		{P: ten, Ge: math.MinInt, Le: math.MaxInt, Permit: true},
		{P: ten, Ge: 8, Le: math.MaxInt, Permit: true},
		{P: api.Prefix{}, Ge: -1, Le: 8, Permit: true},
		{P: api.Prefix{Bits: 32}, Ge: 32, Le: 33, Permit: true},
		{P: api.Prefix{Addr: 10<<24 | 1, Bits: 8}, Ge: 8, Le: 32, Permit: true},
		{P: api.Prefix{Addr: 1, Bits: 0}, Ge: 0, Le: 32, Permit: true},
		{P: api.Prefix{Bits: -1}, Ge: -1, Le: 32, Permit: true},
		{P: api.Prefix{Bits: -1}, Ge: 0, Le: 32, Permit: true},
		{P: api.Prefix{Bits: 33}, Ge: 33, Le: 33, Permit: true},
		{P: api.Prefix{Bits: math.MaxInt}, Ge: 8, Le: 32, Permit: true},
	}
}

// wrongPrefixes is prefixes that may not be.
func wrongPrefixes() []api.Prefix {
	return []api.Prefix{
		{Bits: -1}, {Bits: 33}, {Bits: math.MinInt}, {Bits: math.MaxInt},
		{Addr: 1, Bits: 0}, {Addr: 10<<24 | 1, Bits: 16}, {Addr: 10<<24 | 1<<15, Bits: 16},
	}
}

// many is a list of n rules, none of which has anything in common with another one.
func many(n int) []api.Range {
	var l []api.Range
	for i := range n {
		p := api.Prefix{Addr: uint32(i) << 24, Bits: 8}
		l = append(l, api.Range{P: p, Ge: 8, Le: 32, Permit: i%2 == 0})
	}
	return l
}

func TestMay(t *testing.T) {
	for _, l := range [][]api.Range{
		nil,
		{},
		{rule(t, true, "10.0.0.0/8", 8, 8)},   // Ge at the prefix's Bits, Le at Ge
		{rule(t, true, "10.0.0.0/8", 8, 32)},  // Le at 32
		{rule(t, true, "10.0.0.0/8", 32, 32)}, // Ge at 32
		{rule(t, false, "0.0.0.0/0", 0, 0)},
		{rule(t, false, "0.0.0.0/0", 0, 32)},
		{rule(t, false, "255.255.255.255/32", 32, 32)},
		many(2),
		many(16),
	} {
		if e := May(l); e != api.OK {
			t.Errorf("May(%v): %d", l, e)
		}
	}
}

func TestMayRefuses(t *testing.T) {
	for _, r := range wrong() {
		if e := May([]api.Range{r}); e != api.ErrArg {
			t.Errorf("May(%v): %d", r, e)
		}
		for _, i := range []int{0, 7, 15} {
			l := many(16)
			l[i] = r
			if e := May(l); e != api.ErrArg {
				t.Errorf("May with %v at %d: %d", r, i, e)
			}
		}
		if e := May(append(many(16), r)); e != api.ErrLong {
			t.Errorf("May of 17 with %v: %d", r, e)
		}
	}
	for _, n := range []int{17, 18, 200} {
		if e := May(many(n)); e != api.ErrLong {
			t.Errorf("May of %d: %d", n, e)
		}
	}
}

func TestMet(t *testing.T) {
	r := rule(t, true, "10.0.0.0/8", 16, 24)
	for s, want := range map[string]bool{
		"10.1.0.0/16":     true,
		"10.0.0.0/16":     true,
		"10.255.0.0/16":   true,
		"10.255.255.0/24": true,
		"10.0.0.0/24":     true,
		"10.0.0.0/20":     true,
		"10.0.0.0/8":      false,
		"10.0.0.0/15":     false,
		"10.0.0.0/25":     false,
		"10.0.0.0/32":     false,
		"9.255.0.0/16":    false,
		"11.0.0.0/16":     false,
		"0.0.0.0/0":       false,
		"0.0.0.0/16":      false,
	} {
		for _, permit := range []bool{true, false} {
			r.Permit = permit
			if got := Met(r, pre(t, s)); got != want {
				t.Errorf("Met(%v, %s): %v", r, s, got)
			}
		}
	}
}

func TestMetOfOneLength(t *testing.T) {
	r := rule(t, false, "10.0.0.0/8", 8, 8)
	for s, want := range map[string]bool{
		"10.0.0.0/8": true, "10.0.0.0/9": false, "10.0.0.0/7": false, "11.0.0.0/8": false,
	} {
		if got := Met(r, pre(t, s)); got != want {
			t.Errorf("Met(%v, %s): %v", r, s, got)
		}
	}
	all := rule(t, true, "0.0.0.0/0", 0, 32)
	for bits := range 33 {
		if !Met(all, api.Prefix{Addr: 0, Bits: bits}) {
			t.Errorf("0.0.0.0/%d doesn't meet what all meet", bits)
		}
	}
	if !Met(all, api.Prefix{Addr: math.MaxUint32, Bits: 32}) {
		t.Error("the last address doesn't meet what all meet")
	}
}

func TestMetRefuses(t *testing.T) {
	for _, r := range wrong() {
		for _, s := range []string{"10.0.0.0/8", "10.0.0.0/9", "10.0.0.0/32", "0.0.0.0/0", "0.0.0.0/32"} {
			if Met(r, pre(t, s)) {
				t.Errorf("Met(%v, %s), which may not be", r, s)
			}
		}
		if Met(r, r.P) {
			t.Errorf("Met(%v) by its own prefix, which may not be", r)
		}
	}
	for _, p := range wrongPrefixes() {
		if Met(rule(t, true, "0.0.0.0/0", 0, 32), p) {
			t.Errorf("Met by %v, which may not be", p)
		}
	}
}

func TestLets(t *testing.T) {
	l := []api.Range{
		rule(t, false, "10.1.0.0/16", 16, 24),
		rule(t, true, "10.0.0.0/8", 16, 24),
		rule(t, false, "10.0.0.0/8", 8, 32),
		rule(t, true, "0.0.0.0/0", 0, 0),
	}
	for s, want := range map[string]struct {
		passes bool
		at     int
	}{
		"10.1.0.0/16":  {false, 0},
		"10.1.2.0/24":  {false, 0},
		"10.2.0.0/16":  {true, 1},
		"10.2.3.0/24":  {true, 1},
		"10.1.2.0/25":  {false, 2},
		"10.0.0.0/8":   {false, 2},
		"10.2.3.4/32":  {false, 2},
		"0.0.0.0/0":    {true, 3},
		"11.0.0.0/16":  {false, -1},
		"0.0.0.0/1":    {false, -1},
		"10.0.0.0/7":   {false, -1},
		"255.0.0.0/32": {false, -1},
	} {
		if ok, i := Lets(l, pre(t, s)); ok != want.passes || i != want.at {
			t.Errorf("Lets(%s): %v %d, not %v", s, ok, i, want)
		}
	}
}

func TestLetsEdges(t *testing.T) {
	ten := pre(t, "10.0.0.0/8")
	for _, l := range [][]api.Range{nil, {}} {
		if ok, i := Lets(l, ten); ok || i != -1 {
			t.Errorf("Lets without rules: %v %d", ok, i)
		}
	}
	l := many(16)
	for i := range l {
		if ok, at := Lets(l, l[i].P); ok != (i%2 == 0) || at != i {
			t.Errorf("Lets of rule %d's own prefix: %v %d", i, ok, at)
		}
	}
	if ok, i := Lets(many(17), api.Prefix{Bits: 8}); ok || i != -1 {
		t.Errorf("Lets of 17 rules: %v %d", ok, i)
	}
}

func TestLetsRefuses(t *testing.T) {
	all := rule(t, true, "0.0.0.0/0", 0, 32)
	for _, r := range wrong() {
		// The wrong rule stands behind one that all meet: still it is no list.
		for _, l := range [][]api.Range{{r}, {all, r}, {r, all}} {
			if ok, i := Lets(l, pre(t, "10.0.0.0/8")); ok || i != -1 {
				t.Errorf("Lets(%v): %v %d", l, ok, i)
			}
		}
	}
	for _, p := range wrongPrefixes() {
		if ok, i := Lets([]api.Range{all}, p); ok || i != -1 {
			t.Errorf("Lets(%v), which may not be: %v %d", p, ok, i)
		}
	}
}

func TestText(t *testing.T) {
	for want, r := range map[string]api.Range{
		"permit 10.0.0.0/8":             rule(t, true, "10.0.0.0/8", 8, 8),
		"deny 10.0.0.0/8":               rule(t, false, "10.0.0.0/8", 8, 8),
		"permit 10.0.0.0/8 ge 16":       rule(t, true, "10.0.0.0/8", 16, 16),
		"permit 10.0.0.0/8 le 24":       rule(t, true, "10.0.0.0/8", 8, 24),
		"permit 10.0.0.0/8 ge 16 le 24": rule(t, true, "10.0.0.0/8", 16, 24),
		"deny 10.0.0.0/8 ge 9 le 32":    rule(t, false, "10.0.0.0/8", 9, 32),
		"deny 10.0.0.0/8 ge 32":         rule(t, false, "10.0.0.0/8", 32, 32),
		"permit 0.0.0.0/0":              rule(t, true, "0.0.0.0/0", 0, 0),
		"permit 0.0.0.0/0 le 32":        rule(t, true, "0.0.0.0/0", 0, 32),
		"permit 0.0.0.0/0 ge 1 le 2":    rule(t, true, "0.0.0.0/0", 1, 2),
		"deny 255.255.255.255/32":       rule(t, false, "255.255.255.255/32", 32, 32),
		"permit 192.168.128.0/17 le 18": rule(t, true, "192.168.128.0/17", 17, 18),
	} {
		if got := Text(r); got != want {
			t.Errorf("Text(%v): %q, not %q", r, got, want)
		}
	}
	for _, r := range wrong() {
		if got := Text(r); got != "" {
			t.Errorf("Text(%v), which may not be: %q", r, got)
		}
	}
}

func TestNothingIsChanged(t *testing.T) {
	l := []api.Range{
		rule(t, true, "10.0.0.0/8", 8, 32),
		rule(t, false, "10.1.0.0/16", 16, 16),
		rule(t, true, "9.0.0.0/8", 8, 8),
		rule(t, true, "11.0.0.0/8", 8, 8),
	}
	kept := slices.Clone(l)
	May(l)
	Lets(l, l[0].P)
	Idle(l, 1)
	bare, _ := Bare(l)
	Differ(l, l[1:])
	for i := range bare {
		bare[i] = api.Range{}
	}
	if !slices.Equal(l, kept) {
		t.Errorf("the list is %v now, not %v", l, kept)
	}
}
