package addr

import (
	"slices"
	"testing"

	"whirligig/api"
)

// texts is the texts of prefixes.
func texts(l []api.Prefix) []string {
	var out []string
	for _, p := range l {
		out = append(out, Text(p))
	}
	return out
}

// pres is the prefixes of texts.
func pres(t *testing.T, l ...string) []api.Prefix {
	t.Helper()
	var out []api.Prefix
	for _, s := range l {
		out = append(out, pre(t, s))
	}
	return out
}

// base is where the 16 addresses stand over which lists are looked at one by one.
const base = 0x0a0102f0

// small is the prefixes within those 16 addresses.
func small() []api.Prefix {
	var l []api.Prefix
	for bits := 28; bits <= 32; bits++ {
		for n := range uint32(1) << (bits - 28) {
			l = append(l, api.Prefix{Addr: base + n<<(32-bits), Bits: bits})
		}
	}
	return l
}

// set is which of the 16 addresses a list has, told by the ends of its prefixes.
func set(l []api.Prefix) uint32 {
	has := uint32(0)
	for _, p := range l {
		for i := range uint32(16) {
			if a := base + i; p.Addr <= a && a <= Last(p) {
				has |= 1 << i
			}
		}
	}
	return has
}

// plainOf is the plain list of a set, made from the top: a prefix all of whose addresses are there, or what its halves have.
func plainOf(has uint32, p api.Prefix) []api.Prefix {
	own := set([]api.Prefix{p})
	if has&own == own {
		return []api.Prefix{p}
	}
	low, high, e := Halves(p)
	if has&own == 0 || e != api.OK {
		return nil
	}
	return append(plainOf(has, low), plainOf(has, high)...)
}

// top is the prefix that has just the 16 addresses.
func top() api.Prefix { return api.Prefix{Addr: base, Bits: 28} }

// isPlain tells whether a list is plain, by the document's words.
func isPlain(l []api.Prefix) bool {
	for i, p := range l {
		for j, q := range l {
			if i < j && !Before(p, q) || i != j && Contains(p, q) {
				return false
			}
			above, _ := Above(p, q)
			if low, high, e := Halves(above); e == api.OK && p == low && q == high {
				return false
			}
		}
	}
	return true
}

func TestPlainOfAllSets(t *testing.T) {
	for has := range uint32(1) << 16 {
		var l []api.Prefix
		for i := range uint32(16) {
			if at := (i * 7) % 16; has>>at&1 == 1 {
				l = append(l, api.Prefix{Addr: base + at, Bits: 32})
			}
		}
		got, e := Plain(l)
		if want := plainOf(has, top()); e != api.OK || !slices.Equal(got, want) {
			t.Fatalf("Plain(%v): %v %d, not %v", texts(l), texts(got), e, texts(want))
		}
	}
}

func TestPlainAndMinusOfMixedLists(t *testing.T) {
	all := small()
	seed := uint32(1)
	for range 5000 {
		var l []api.Prefix
		for range seed >> 8 % 9 {
			seed = seed*1664525 + 1013904223
			l = append(l, all[seed>>8%uint32(len(all))])
		}
		seed = seed*1664525 + 1013904223
		before := slices.Clone(l)
		got, e := Plain(l)
		if e != api.OK || !isPlain(got) || !slices.Equal(got, plainOf(set(l), top())) {
			t.Fatalf("Plain(%v): %v %d", texts(l), texts(got), e)
		}
		for _, q := range all {
			got, e := Minus(l, q)
			want := plainOf(set(l)&^set([]api.Prefix{q}), top())
			if e != api.OK || !isPlain(got) || !slices.Equal(got, want) {
				t.Fatalf("Minus(%v, %s): %v %d, not %v", texts(l), Text(q), texts(got), e, texts(want))
			}
		}
		if !slices.Equal(l, before) {
			t.Fatalf("%v was changed to %v", before, l)
		}
	}
}

func TestPlain(t *testing.T) {
	for _, c := range []struct{ in, want []string }{
		{nil, nil},
		{[]string{"10.0.0.0/9", "10.128.0.0/9"}, []string{"10.0.0.0/8"}},
		{[]string{"10.128.0.0/9", "10.0.0.0/9"}, []string{"10.0.0.0/8"}},
		{[]string{"10.0.0.0/8", "10.0.0.0/8"}, []string{"10.0.0.0/8"}},
		{[]string{"10.0.0.0/8", "11.0.0.0/8"}, []string{"10.0.0.0/7"}},
		{[]string{"9.0.0.0/8", "10.0.0.0/8"}, []string{"9.0.0.0/8", "10.0.0.0/8"}},
		{[]string{"10.1.0.0/16", "10.0.0.0/8"}, []string{"10.0.0.0/8"}},
		{[]string{"128.0.0.0/1", "0.0.0.0/1"}, []string{"0.0.0.0/0"}},
		{[]string{"0.0.0.0/0", "255.255.255.255/32"}, []string{"0.0.0.0/0"}},
		{[]string{"0.0.0.1/32", "0.0.0.2/31", "0.0.0.0/32"}, []string{"0.0.0.0/30"}},
		{[]string{"255.255.255.255/32", "0.0.0.0/32"}, []string{"0.0.0.0/32", "255.255.255.255/32"}},
		{[]string{"64.0.0.0/2", "128.0.0.0/2"}, []string{"64.0.0.0/2", "128.0.0.0/2"}},
	} {
		if got, e := Plain(pres(t, c.in...)); e != api.OK || !slices.Equal(texts(got), c.want) {
			t.Errorf("Plain(%v): %v %d, not %v", c.in, texts(got), e, c.want)
		}
	}
}

func TestMinus(t *testing.T) {
	for _, c := range []struct {
		in   []string
		q    string
		want []string
	}{
		{nil, "10.0.0.0/8", nil},
		{[]string{"10.0.0.0/8"}, "10.0.0.0/8", nil},
		{[]string{"10.1.0.0/16", "10.2.0.0/16"}, "10.0.0.0/8", nil},
		{[]string{"10.0.0.0/8"}, "11.0.0.0/8", []string{"10.0.0.0/8"}},
		{[]string{"11.0.0.0/8", "10.0.0.0/8"}, "12.0.0.0/8", []string{"10.0.0.0/7"}},
		{[]string{"10.0.0.0/8"}, "10.0.0.0/9", []string{"10.128.0.0/9"}},
		{[]string{"10.0.0.0/8"}, "10.64.0.0/10", []string{"10.0.0.0/10", "10.128.0.0/9"}},
		{[]string{"10.0.0.0/9", "10.128.0.0/9", "10.1.0.0/16"}, "10.128.0.0/10", []string{"10.0.0.0/9", "10.192.0.0/10"}},
		{[]string{"0.0.0.0/0"}, "0.0.0.0/0", nil},
		{[]string{"0.0.0.0/0"}, "128.0.0.0/1", []string{"0.0.0.0/1"}},
	} {
		if got, e := Minus(pres(t, c.in...), pre(t, c.q)); e != api.OK || !slices.Equal(texts(got), c.want) {
			t.Errorf("Minus(%v, %s): %v %d, not %v", c.in, c.q, texts(got), e, c.want)
		}
	}
}

func TestMinusOneOfAll(t *testing.T) {
	q := pre(t, "10.1.2.3/32")
	got, e := Minus([]api.Prefix{{}}, q)
	if e != api.OK || len(got) != 32 || !isPlain(got) {
		t.Fatalf("all but one address: %v %d", texts(got), e)
	}
	back, e := Plain(append(slices.Clone(got), q))
	if e != api.OK || !slices.Equal(back, []api.Prefix{{}}) {
		t.Fatalf("with that one again: %v %d", texts(back), e)
	}
}

// apart is so many prefixes with 20 bits of which no two are the halves of one.
func apart(n int) []api.Prefix {
	var l []api.Prefix
	for i := range uint32(n) {
		l = append(l, api.Prefix{Addr: i << 13, Bits: 20})
	}
	return l
}

func TestLong(t *testing.T) {
	most, far := apart(api.MaxList), api.Prefix{Addr: 1 << 31, Bits: 1}
	if got, e := Plain(most); e != api.OK || !slices.Equal(got, most) {
		t.Errorf("1024: %d %d", len(got), e)
	}
	if got, e := Minus(most, far); e != api.OK || !slices.Equal(got, most) {
		t.Errorf("1024, without none of them: %d %d", len(got), e)
	}
	more := append(slices.Clone(most), most[0])
	if got, e := Plain(more); e != api.ErrLong || len(got) != 0 {
		t.Errorf("1025: %d %d", len(got), e)
	}
	if got, e := Minus(more, api.Prefix{}); e != api.ErrLong || len(got) != 0 {
		t.Errorf("1025, without all of them: %d %d", len(got), e)
	}
}

func TestMinusLongAnswer(t *testing.T) {
	most := apart(api.MaxList)
	half := api.Prefix{Addr: most[5].Addr, Bits: 21}
	if got, e := Minus(most, half); e != api.OK || len(got) != api.MaxList {
		t.Errorf("an answer of 1024: %d %d", len(got), e)
	}
	quarter := api.Prefix{Addr: most[5].Addr, Bits: 22}
	if got, e := Minus(most, quarter); e != api.ErrLong || len(got) != 0 {
		t.Errorf("an answer of 1025: %d %d", len(got), e)
	}
	if got, e := Minus(most[:api.MaxList-1], quarter); e != api.OK || len(got) != api.MaxList {
		t.Errorf("one less: %d %d", len(got), e)
	}
	same := slices.Repeat([]api.Prefix{{}}, api.MaxList)
	if got, e := Minus(same, pre(t, "10.1.2.3/32")); e != api.OK || len(got) != 32 {
		t.Errorf("1024 times the same: %d %d", len(got), e)
	}
}

func TestWrongLists(t *testing.T) {
	good := pre(t, "10.0.0.0/8")
	for _, p := range wrong() {
		for _, l := range [][]api.Prefix{{p}, {good, p}, {p, good}, {good, good, p, good}} {
			if got, e := Plain(l); e != api.ErrArg || len(got) != 0 {
				t.Errorf("Plain(%v): %v %d", l, got, e)
			}
			if got, e := Minus(l, good); e != api.ErrArg || len(got) != 0 {
				t.Errorf("Minus(%v, %v): %v %d", l, good, got, e)
			}
		}
		for _, l := range [][]api.Prefix{nil, {}, {good}} {
			if got, e := Minus(l, p); e != api.ErrArg || len(got) != 0 {
				t.Errorf("Minus(%v, %v): %v %d", l, p, got, e)
			}
		}
		long := append(apart(api.MaxList), p)
		if got, e := Plain(long); e != api.ErrLong || len(got) != 0 {
			t.Errorf("too long, and %v: %v %d", p, got, e)
		}
		if got, e := Minus(long, p); e != api.ErrLong || len(got) != 0 {
			t.Errorf("too long, and %v: %v %d", p, got, e)
		}
	}
}

func TestAnswersAreNewMemory(t *testing.T) {
	l := pres(t, "10.0.0.0/8", "12.0.0.0/8")
	before := slices.Clone(l)
	for _, ask := range []func() ([]api.Prefix, api.Errno){
		func() ([]api.Prefix, api.Errno) { return Plain(l) },
		func() ([]api.Prefix, api.Errno) { return Minus(l, pre(t, "14.0.0.0/8")) },
	} {
		first, _ := ask()
		second, _ := ask()
		clear(first[:cap(first)])
		if !slices.Equal(l, before) || !slices.Equal(second, before) {
			t.Errorf("an answer shares memory: %v %v", l, second)
		}
	}
}
