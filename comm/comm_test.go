package comm

import (
	"math"
	"math/rand"
	"slices"
	"testing"

	"whirligig/api"
)

// pairs is the communities of some numbers, two for each.
func pairs(n ...int) []api.Comm {
	var l []api.Comm
	for i := 0; i+1 < len(n); i += 2 {
		l = append(l, api.Comm{AS: n[i], N: n[i+1]})
	}
	return l
}

// row is as many communities of one AS, from a second number on.
func row(from, many int) []api.Comm {
	var l []api.Comm
	for n := range many {
		l = append(l, api.Comm{AS: 65000, N: from + n})
	}
	return l
}

// right is communities that may be.
func right() []api.Comm {
	return pairs(1, 0, 1, 1, 1, 65535, 2, 0, 9, 10, 10, 9, 65000, 1, 65534, 65535, 65535, 0,
		65535, 65280, 65535, 65281, 65535, 65282, 65535, 65283, 65535, 65284, 65535, 65535)
}

// wrong is communities that may not be: each call that asks must refuse them.
func wrong() []api.Comm {
	return pairs(0, 0, 0, 1, 0, 65281, -1, 1, 65536, 0, 65536, 65281, 1, -1, 1, 65536, 65535, 65536, 0, 65536,
		math.MinInt, 1, math.MaxInt, 1, 1, math.MinInt, 1, math.MaxInt, 1<<32+1, 1, 1, 1<<32)
}

// noSets is lists that are no sets.
func noSets() [][]api.Comm {
	l := [][]api.Comm{
		row(1, 9), row(1, 100), pairs(1, 1, 1, 1), pairs(1, 2, 1, 1), pairs(2, 1, 1, 1), pairs(2, 1, 1, 2),
		pairs(1, 1, 2, 2, 2, 2), pairs(1, 1, 3, 3, 2, 2), pairs(1, 1, 2, 2, 1, 1), slices.Repeat(pairs(1, 1), 8),
	}
	for _, c := range wrong() {
		l = append(l, []api.Comm{c}, []api.Comm{{AS: 1, N: 0}, c}, []api.Comm{c, {AS: 65535, N: 65535}})
	}
	return l
}

// sets is lists that are sets.
func sets() [][]api.Comm {
	return [][]api.Comm{
		nil, {}, pairs(1, 0), pairs(1, 1, 1, 2), pairs(1, 2, 2, 1), pairs(1, 65535, 2, 0),
		row(1, 7), row(1, 8), row(65528, 8), pairs(65535, 65281, 65535, 65282, 65535, 65283),
	}
}

func TestMay(t *testing.T) {
	for _, c := range right() {
		if !May(c) {
			t.Errorf("May(%v): false", c)
		}
	}
	for _, c := range wrong() {
		if May(c) {
			t.Errorf("May(%v): true", c)
		}
	}
}

func TestSet(t *testing.T) {
	for _, l := range sets() {
		if !Set(l) {
			t.Errorf("Set(%v): false", l)
		}
	}
	if !Set(right()[:8]) || Set(right()[:9]) {
		t.Error("8 communities are a set, 9 are none")
	}
	for _, l := range noSets() {
		if Set(l) {
			t.Errorf("Set(%v): true", l)
		}
	}
}

func TestHas(t *testing.T) {
	for _, l := range sets() {
		for _, c := range append(right(), wrong()...) {
			if Has(l, c) != slices.Contains(l, c) {
				t.Errorf("Has(%v, %v): %v", l, c, Has(l, c))
			}
		}
		for _, c := range l {
			if !Has(l, c) {
				t.Errorf("Has(%v, %v): false", l, c)
			}
		}
	}
	for _, l := range noSets() {
		for _, c := range l {
			if Has(l, c) {
				t.Errorf("Has(%v, %v): true, of what is no set", l, c)
			}
		}
	}
}

func TestAdd(t *testing.T) {
	for _, c := range []struct {
		l, more, want []api.Comm
		e             api.Errno
	}{
		{pairs(65000, 1), pairs(65000, 2), pairs(65000, 1, 65000, 2), api.OK},
		{pairs(65000, 2), pairs(65000, 1), pairs(65000, 1, 65000, 2), api.OK},
		{nil, nil, nil, api.OK},
		{pairs(1, 1), nil, pairs(1, 1), api.OK},
		{nil, pairs(3, 1, 1, 3, 2, 2, 1, 3, 3, 1, 1, 2), pairs(1, 2, 1, 3, 2, 2, 3, 1), api.OK},
		{pairs(1, 1), pairs(1, 1, 1, 1), pairs(1, 1), api.OK},
		{pairs(2, 1), pairs(1, 9), pairs(1, 9, 2, 1), api.OK},
		{row(1, 7), row(8, 1), row(1, 8), api.OK},
		{row(1, 7), row(8, 2), nil, api.ErrLong},
		{row(1, 8), row(1, 8), row(1, 8), api.OK},
		{row(1, 8), row(9, 1), nil, api.ErrLong},
		{nil, row(1, 8), row(1, 8), api.OK},
		{nil, row(1, 9), nil, api.ErrLong},
		{row(2, 4), slices.Repeat(row(1, 8), 50), row(1, 8), api.OK},
		{row(1, 8), append(row(9, 9), api.Comm{}), nil, api.ErrArg},
		{row(1, 9), row(9, 9), nil, api.ErrArg},
	} {
		if got, e := Add(c.l, c.more); e != c.e || !slices.Equal(got, c.want) {
			t.Errorf("Add(%v, %v): %v %d, not %v %d", c.l, c.more, got, e, c.want, c.e)
		}
	}
}

func TestDel(t *testing.T) {
	for _, c := range []struct{ l, less, want []api.Comm }{
		{nil, nil, nil},
		{nil, pairs(1, 1), nil},
		{pairs(1, 1), nil, pairs(1, 1)},
		{pairs(1, 1), pairs(1, 1), nil},
		{pairs(1, 1, 1, 2, 2, 1), pairs(2, 1, 1, 1, 2, 1), pairs(1, 2)},
		{pairs(1, 1, 1, 2), pairs(2, 1, 1, 3), pairs(1, 1, 1, 2)},
		{row(1, 8), row(4, 100), row(1, 3)},
		{row(1, 8), wrong(), row(1, 8)},
		{row(1, 2), append(wrong(), row(1, 1)...), row(2, 1)},
	} {
		if got, e := Del(c.l, c.less); e != api.OK || !slices.Equal(got, c.want) {
			t.Errorf("Del(%v, %v): %v %d, not %v", c.l, c.less, got, e, c.want)
		}
	}
}

func TestBoth(t *testing.T) {
	for _, c := range []struct{ l, other, want []api.Comm }{
		{nil, nil, nil},
		{nil, row(1, 8), nil},
		{row(1, 8), row(1, 8), row(1, 8)},
		{row(1, 5), row(4, 8), row(4, 2)},
		{row(1, 4), row(5, 4), nil},
		{pairs(1, 2, 2, 1, 3, 3), pairs(1, 1, 2, 1, 3, 3, 4, 4), pairs(2, 1, 3, 3)},
	} {
		for _, p := range [][2][]api.Comm{{c.l, c.other}, {c.other, c.l}} {
			if got, e := Both(p[0], p[1]); e != api.OK || !slices.Equal(got, c.want) {
				t.Errorf("Both(%v, %v): %v %d, not %v", p[0], p[1], got, e, c.want)
			}
		}
	}
}

func TestNoSetsAreRefused(t *testing.T) {
	refused := func(name string, got []api.Comm, e api.Errno) {
		t.Helper()
		if e != api.ErrArg || len(got) != 0 {
			t.Errorf("%s: %v %d", name, got, e)
		}
	}
	for _, l := range noSets() {
		for _, other := range sets() {
			got, e := Add(l, other)
			refused("Add", got, e)
			got, e = Del(l, other)
			refused("Del", got, e)
			got, e = Both(l, other)
			refused("Both", got, e)
			got, e = Both(other, l)
			refused("Both, the other way round", got, e)
		}
		got, e := Both(l, l)
		refused("Both with itself", got, e)
		got, e = Del(l, l)
		refused("Del of itself", got, e)
	}
	for _, c := range wrong() {
		for _, l := range sets() {
			got, e := Add(l, []api.Comm{c})
			refused("Add of one that may not be", got, e)
			got, e = Add(l, append(row(1, 9), c))
			refused("Add of many and one that may not be", got, e)
			got, e = Add(l, append([]api.Comm{c}, row(1, 9)...))
			refused("Add of one that may not be and many", got, e)
		}
	}
}

// draw is some communities of few numbers, in any order, and some of them more than once.
func draw(r *rand.Rand, most int) []api.Comm {
	var l []api.Comm
	for range r.Intn(most + 1) {
		l = append(l, api.Comm{AS: 1 + r.Intn(3), N: r.Intn(4)})
	}
	return l
}

// drawSet is some communities that are a set.
func drawSet(r *rand.Rand) []api.Comm {
	for {
		if l, e := Add(nil, draw(r, 12)); e == api.OK {
			return l
		}
	}
}

// agrees tells whether a list is the set of just those of a small world for which there is a reason.
func agrees(l []api.Comm, in func(api.Comm) bool) bool {
	many := 0
	for as := 1; as <= 3; as++ {
		for n := range 4 {
			c := api.Comm{AS: as, N: n}
			if slices.Contains(l, c) != in(c) {
				return false
			}
			if in(c) {
				many++
			}
		}
	}
	return Set(l) && len(l) == many
}

func TestWhatFollows(t *testing.T) {
	r := rand.New(rand.NewSource(3))
	for range 20000 {
		l, other, some := drawSet(r), drawSet(r), draw(r, 6)
		inL := func(c api.Comm) bool { return slices.Contains(l, c) }
		inOther := func(c api.Comm) bool { return slices.Contains(other, c) }
		inSome := func(c api.Comm) bool { return slices.Contains(some, c) }
		added, e := Add(l, some)
		switch e {
		case api.OK:
			if !agrees(added, func(c api.Comm) bool { return inL(c) || inSome(c) }) {
				t.Fatalf("Add(%v, %v): %v", l, some, added)
			}
		case api.ErrLong:
			more := 0
			for as := 1; as <= 3; as++ {
				for n := range 4 {
					if c := (api.Comm{AS: as, N: n}); inL(c) || inSome(c) {
						more++
					}
				}
			}
			if more <= 8 || len(added) != 0 {
				t.Fatalf("Add(%v, %v): too long, of %d", l, some, more)
			}
		default:
			t.Fatalf("Add(%v, %v): %d", l, some, e)
		}
		deleted, e := Del(l, some)
		if e != api.OK || !agrees(deleted, func(c api.Comm) bool { return inL(c) && !inSome(c) }) {
			t.Fatalf("Del(%v, %v): %v %d", l, some, deleted, e)
		}
		both, e := Both(l, other)
		if e != api.OK || !agrees(both, func(c api.Comm) bool { return inL(c) && inOther(c) }) {
			t.Fatalf("Both(%v, %v): %v %d", l, other, both, e)
		}
	}
}

func TestCompare(t *testing.T) {
	rising := [][]api.Comm{
		nil, pairs(-1, 5), pairs(1, 0), pairs(1, 65535), pairs(2, 0), pairs(9, 0), pairs(10, 0), pairs(65535, 65535),
		pairs(0, 0, 9, 9), pairs(1, 0, 1, 1), pairs(1, 0, 1, 2), pairs(1, 0, 2, 0), pairs(1, 1, 1, 0),
		pairs(2, 2, 2, 2), pairs(2, 2, 2, 3), row(1, 3), row(1, 8), row(2, 8),
		append(row(2, 7), api.Comm{AS: 65001}), pairs(slices.Repeat([]int{0}, 18)...), row(1, 9), row(1, 2000),
	}
	for i, a := range rising {
		for j, b := range rising {
			want := 0
			if i < j {
				want = -1
			} else if i > j {
				want = 1
			}
			if got := Compare(a, b); got != want {
				t.Errorf("Compare(%v, %v): %d, not %d", a, b, got, want)
			}
			if got := Compare(slices.Clone(a), append([]api.Comm{}, b...)); got != want {
				t.Errorf("Compare of copies of %v and %v: %d, not %d", a, b, got, want)
			}
		}
	}
	far := []api.Comm{{AS: math.MinInt}, {AS: math.MaxInt}}
	if Compare(far[:1], far[1:]) != -1 || Compare(far[1:], far[:1]) != 1 {
		t.Error("numbers that are far apart")
	}
}

func TestNothingIsChangedOrShared(t *testing.T) {
	l, some := row(3, 5), pairs(65000, 9, 65000, 4, 1, 1, 65000, 4)
	keptL, keptSome := slices.Clone(l), slices.Clone(some)
	roomy := append(make([]api.Comm, 0, 20), l...)
	for name, f := range map[string]func() ([]api.Comm, api.Errno){
		"Add":          func() ([]api.Comm, api.Errno) { return Add(roomy, some) },
		"Add to none":  func() ([]api.Comm, api.Errno) { return Add(nil, some) },
		"Add of none":  func() ([]api.Comm, api.Errno) { return Add(roomy, nil) },
		"Del":          func() ([]api.Comm, api.Errno) { return Del(roomy, some) },
		"Del of none":  func() ([]api.Comm, api.Errno) { return Del(roomy, nil) },
		"Both":         func() ([]api.Comm, api.Errno) { return Both(roomy, l[1:3]) },
		"Both of same": func() ([]api.Comm, api.Errno) { return Both(roomy, roomy) },
	} {
		first, e := f()
		if e != api.OK || len(first) == 0 {
			t.Fatalf("%s: %v %d", name, first, e)
		}
		kept := slices.Clone(first)
		again, _ := f()
		for i := range again {
			again[i] = api.Comm{}
		}
		_ = append(again, api.Comm{})
		if !slices.Equal(first, kept) {
			t.Errorf("%s: two answers share memory", name)
		}
		if !slices.Equal(roomy, keptL) || !slices.Equal(l, keptL) || !slices.Equal(some, keptSome) {
			t.Errorf("%s: an argument is changed", name)
		}
		if slices.ContainsFunc(roomy[5:20], func(c api.Comm) bool { return c != api.Comm{} }) {
			t.Errorf("%s: the room behind an argument is written to", name)
		}
	}
}
