package addr

import (
	"math"
	"testing"

	"whirligig/api"
)

// pre is the prefix of a text that is one.
func pre(t *testing.T, s string) api.Prefix {
	t.Helper()
	p, e := Parse(s)
	if e != api.OK {
		t.Fatalf("Parse(%q): %d", s, e)
	}
	return p
}

// wrong is prefixes that may not be: each call must refuse them.
func wrong() []api.Prefix {
	return []api.Prefix{
		{Addr: 0, Bits: -1},
		{Addr: 0, Bits: 33},
		{Addr: 0, Bits: math.MinInt},
		{Addr: 0, Bits: math.MaxInt},
		{Addr: 0, Bits: 64},
		{Addr: 0, Bits: 1 << 32},
		{Addr: 1, Bits: 0},
		{Addr: 1 << 31, Bits: 0},
		{Addr: 1, Bits: 31},
		{Addr: 10<<24 | 1, Bits: 8},
		{Addr: 10<<24 | 1<<23, Bits: 8},
		{Addr: math.MaxUint32, Bits: 31},
	}
}

// some is prefixes that may be: all of a few bits, all about one address, and edges of the range.
func some() []api.Prefix {
	l := []api.Prefix{{Addr: math.MaxUint32, Bits: 32}, {Addr: 0, Bits: 32}, {Addr: 0xfffffffe, Bits: 31}}
	for bits := range 4 {
		for n := range uint32(1) << bits {
			l = append(l, api.Prefix{Addr: n << (31 - bits) << 1, Bits: bits})
		}
	}
	for bits := 29; bits <= 32; bits++ {
		for n := range uint32(1) << (bits - 29) {
			l = append(l, api.Prefix{Addr: 0x0a010200 + n<<(32-bits), Bits: bits})
		}
	}
	return l
}

func TestMay(t *testing.T) {
	for _, p := range some() {
		if !May(p) {
			t.Errorf("May(%v): false", p)
		}
	}
	for _, p := range wrong() {
		if May(p) {
			t.Errorf("May(%v): true", p)
		}
	}
	for bits := range 33 {
		lowest := uint32(1) << 31 >> max(bits-1, 0)
		if bits > 0 && !May(api.Prefix{Addr: lowest, Bits: bits}) {
			t.Errorf("the last counting bit of %d is refused", bits)
		}
		if bits < 32 && May(api.Prefix{Addr: uint32(1) << 31 >> bits, Bits: bits}) {
			t.Errorf("the first bit behind %d passes", bits)
		}
	}
}

func TestHas(t *testing.T) {
	p := pre(t, "10.128.0.0/9")
	for a, want := range map[uint32]bool{
		0x0a7fffff: false, 0x0a800000: true, 0x0a800001: true, 0x0affffff: true, 0x0b000000: false, 0: false,
	} {
		if Has(p, a) != want {
			t.Errorf("Has(10.128.0.0/9, %x): not %v", a, want)
		}
	}
	for _, a := range []uint32{0, 1, 1 << 31, math.MaxUint32} {
		if !Has(api.Prefix{}, a) {
			t.Errorf("0.0.0.0/0 hasn't %x", a)
		}
		if !Has(api.Prefix{Addr: a, Bits: 32}, a) || Has(api.Prefix{Addr: a, Bits: 32}, a^1) {
			t.Errorf("one address alone: %x", a)
		}
	}
}

func TestContainsByEnds(t *testing.T) {
	for _, p := range some() {
		for _, q := range some() {
			within := p.Addr <= q.Addr && Last(q) <= Last(p)
			if Contains(p, q) != within {
				t.Errorf("Contains(%v, %v): not %v", p, q, within)
			}
			apart := Last(p) < q.Addr || Last(q) < p.Addr
			if Meets(p, q) == apart {
				t.Errorf("Meets(%v, %v): not %v", p, q, !apart)
			}
			if Meets(p, q) != (Contains(p, q) || Contains(q, p)) {
				t.Errorf("%v and %v meet, and none contains the other one", p, q)
			}
		}
	}
}

func TestContainsEdges(t *testing.T) {
	wide, narrow := pre(t, "10.0.0.0/8"), pre(t, "10.0.0.0/9")
	if !Contains(wide, narrow) || Contains(narrow, wide) || !Contains(wide, wide) {
		t.Error("of one address: the one with fewer bits contains the other one, and itself")
	}
	if !Meets(wide, narrow) || !Meets(narrow, wide) || !Meets(wide, wide) {
		t.Error("those that contain one another meet")
	}
	if Meets(wide, pre(t, "11.0.0.0/8")) || Meets(narrow, pre(t, "10.128.0.0/9")) {
		t.Error("those side by side don't meet")
	}
}

func TestBefore(t *testing.T) {
	rising := []string{
		"0.0.0.0/0", "0.0.0.0/1", "0.0.0.0/32", "9.0.0.0/8", "10.0.0.0/8", "10.0.0.0/9",
		"10.128.0.0/9", "127.255.255.255/32", "128.0.0.0/1", "255.255.255.255/32",
	}
	for i, a := range rising {
		for j, b := range rising {
			if Before(pre(t, a), pre(t, b)) != (i < j) {
				t.Errorf("Before(%s, %s): not %v", a, b, i < j)
			}
		}
	}
}

func TestLast(t *testing.T) {
	for s, want := range map[string]uint32{
		"0.0.0.0/0": math.MaxUint32, "0.0.0.0/1": 1<<31 - 1, "10.0.0.0/8": 0x0affffff,
		"10.1.2.2/31": 0x0a010203, "10.1.2.3/32": 0x0a010203, "0.0.0.0/32": 0,
		"255.255.255.255/32": math.MaxUint32,
	} {
		if got := Last(pre(t, s)); got != want {
			t.Errorf("Last(%s): %x, not %x", s, got, want)
		}
	}
}

func TestHalves(t *testing.T) {
	for s, want := range map[string][2]string{
		"0.0.0.0/0":          {"0.0.0.0/1", "128.0.0.0/1"},
		"10.0.0.0/8":         {"10.0.0.0/9", "10.128.0.0/9"},
		"255.255.255.254/31": {"255.255.255.254/32", "255.255.255.255/32"},
	} {
		low, high, e := Halves(pre(t, s))
		if e != api.OK || Text(low) != want[0] || Text(high) != want[1] {
			t.Errorf("Halves(%s): %v %v %d", s, low, high, e)
		}
	}
	for _, a := range []uint32{0, 7, math.MaxUint32} {
		low, high, e := Halves(api.Prefix{Addr: a, Bits: 32})
		if e != api.ErrNone || low != (api.Prefix{}) || high != (api.Prefix{}) {
			t.Errorf("halves of %x with all bits: %v %v %d", a, low, high, e)
		}
	}
}

func TestAbove(t *testing.T) {
	for _, c := range [][3]string{
		{"10.0.0.0/8", "10.0.0.0/8", "10.0.0.0/8"},
		{"10.0.0.0/8", "10.1.0.0/16", "10.0.0.0/8"},
		{"10.0.0.0/9", "10.128.0.0/9", "10.0.0.0/8"},
		{"10.0.0.0/8", "11.0.0.0/8", "10.0.0.0/7"},
		{"0.0.0.0/32", "255.255.255.255/32", "0.0.0.0/0"},
		{"10.1.2.2/32", "10.1.2.3/32", "10.1.2.2/31"},
		{"10.1.2.3/32", "10.1.2.3/32", "10.1.2.3/32"},
		{"0.0.0.0/0", "10.1.2.3/32", "0.0.0.0/0"},
	} {
		p, q := pre(t, c[0]), pre(t, c[1])
		for _, pair := range [][2]api.Prefix{{p, q}, {q, p}} {
			if got, e := Above(pair[0], pair[1]); e != api.OK || Text(got) != c[2] {
				t.Errorf("Above(%v): %v %d, not %s", pair, got, e, c[2])
			}
		}
	}
}

func TestAboveHasMostBits(t *testing.T) {
	for _, p := range some() {
		for _, q := range some() {
			above, e := Above(p, q)
			if e != api.OK || !Contains(above, p) || !Contains(above, q) {
				t.Fatalf("Above(%v, %v): %v %d", p, q, above, e)
			}
			low, high, e := Halves(above)
			if e != api.OK {
				continue
			}
			for _, half := range []api.Prefix{low, high} {
				if Contains(half, p) && Contains(half, q) {
					t.Errorf("Above(%v, %v): %v, and %v contains both, too", p, q, above, half)
				}
			}
		}
	}
}

func TestWrongPrefixes(t *testing.T) {
	good, none := pre(t, "10.0.0.0/8"), api.Prefix{}
	for _, p := range wrong() {
		if Text(p) != "" || Last(p) != 0 {
			t.Errorf("%v: text %q, last %x", p, Text(p), Last(p))
		}
		if Has(p, p.Addr) || Has(p, 0) {
			t.Errorf("%v has an address", p)
		}
		for _, q := range []api.Prefix{good, none, p} {
			if Contains(p, q) || Contains(q, p) || Meets(p, q) || Meets(q, p) || Before(p, q) || Before(q, p) {
				t.Errorf("%v is held against %v", p, q)
			}
			if above, e := Above(p, q); above != none || e != api.ErrArg {
				t.Errorf("Above(%v, %v): %v %d", p, q, above, e)
			}
			if above, e := Above(q, p); above != none || e != api.ErrArg {
				t.Errorf("Above(%v, %v): %v %d", q, p, above, e)
			}
		}
		if low, high, e := Halves(p); low != none || high != none || e != api.ErrArg {
			t.Errorf("Halves(%v): %v %v %d", p, low, high, e)
		}
	}
}
