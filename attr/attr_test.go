package attr

import (
	"math"
	"math/rand"
	"reflect"
	"slices"
	"testing"

	"whirligig/api"
)

const most = 1 << 20 // MaxPref and MaxMed, as the document says them

// rising is as many numbers, from one on.
func rising(from, many int) []int {
	var l []int
	for i := range many {
		l = append(l, from+i)
	}
	return l
}

// row is as many communities of one AS, from a second number on.
func row(from, many int) []api.Comm {
	var l []api.Comm
	for i := range many {
		l = append(l, api.Comm{AS: 65000, N: from + i})
	}
	return l
}

// with is plain attributes that something was done to.
func with(do func(a *api.Attr)) api.Attr {
	a := api.Attr{Pref: 100}
	do(&a)
	return a
}

// full is attributes that have something in each part.
func full() api.Attr {
	return api.Attr{Pref: 7, Med: 8, Origin: 1, Path: []int{3, 2, 3}, Comms: row(4, 3), From: 9, Clusters: []int{6, 5}}
}

// right is attributes that may be, no two of them the same.
func right() []api.Attr {
	l := []api.Attr{{}, {Pref: 100}, full()}
	for _, n := range []int{1, most - 1, most} {
		l = append(l, with(func(a *api.Attr) { a.Pref = n }), with(func(a *api.Attr) { a.Med = n }))
	}
	for _, n := range []int{1, 2} {
		l = append(l, with(func(a *api.Attr) { a.Origin = n }))
	}
	for _, p := range [][]int{{1}, {65535}, {1, 1}, {2, 1}, {1, 2}, {1, 2, 1}, rising(1, 16), rising(65520, 16), slices.Repeat([]int{7}, 16)} {
		l = append(l, with(func(a *api.Attr) { a.Path = p }))
	}
	for _, c := range [][]api.Comm{{{AS: 1}}, {{AS: 65535, N: 65535}}, {{AS: 65535, N: 65281}}, {{AS: 1, N: 2}, {AS: 2, N: 1}}, row(1, 8), row(65528, 8)} {
		l = append(l, with(func(a *api.Attr) { a.Comms = c }))
	}
	for _, n := range []int{1, 65534, 65535} {
		l = append(l, with(func(a *api.Attr) { a.From = n }))
	}
	for _, c := range [][]int{{1}, {65535}, {2, 1}, {1, 2}, {1, 65535}, rising(1, 8), rising(65528, 8), {8, 1, 7, 2, 6, 3, 5, 4}} {
		l = append(l, with(func(a *api.Attr) { a.Clusters = c }))
	}
	return append(l, api.Attr{
		Pref: most, Med: most, Origin: 2, Path: rising(65520, 16), Comms: row(65528, 8), From: 65535, Clusters: rising(65528, 8),
	})
}

// beyond is numbers that are out of a range, whose least and greatest are told.
func beyond(least, greatest int) []int {
	return []int{least - 1, least - 2, greatest + 1, greatest + 2, 1 << 32, 1<<32 + 1, math.MinInt, math.MaxInt, math.MinInt32, math.MaxInt32}
}

// wrongComms is communities that may not be.
func wrongComms() []api.Comm {
	return []api.Comm{{}, {N: 1}, {AS: -1, N: 1}, {AS: 65536}, {AS: 65536, N: 1}, {AS: 1, N: -1}, {AS: 1, N: 65536}, {AS: math.MaxInt, N: math.MinInt}}
}

// noPaths is numbers that are no path.
func noPaths() [][]int {
	l := [][]int{rising(1, 17), rising(1, 100), slices.Repeat([]int{7}, 17)}
	for _, n := range beyond(1, 65535) {
		l = append(l, []int{n}, []int{n, 1}, []int{1, n}, []int{1, n, 2}, append(rising(1, 15), n))
	}
	return l
}

// noSets is communities that are no set.
func noSets() [][]api.Comm {
	l := [][]api.Comm{
		row(1, 9), row(1, 100), {{AS: 1, N: 1}, {AS: 1, N: 1}}, {{AS: 1, N: 2}, {AS: 1, N: 1}}, {{AS: 2, N: 1}, {AS: 1, N: 2}},
		append(row(1, 3), row(3, 1)...), slices.Repeat(row(1, 1), 8),
	}
	for _, c := range wrongComms() {
		l = append(l, []api.Comm{c}, []api.Comm{{AS: 1}, c}, []api.Comm{c, {AS: 65535, N: 65535}})
	}
	return l
}

// noClusters is numbers that are no clusters.
func noClusters() [][]int {
	l := [][]int{rising(1, 9), rising(1, 100), {1, 1}, {1, 2, 1}, {1, 2, 2}, {65535, 1, 65535}, append(rising(1, 7), 1), append(rising(1, 7), 7), append(rising(1, 8), 1)}
	for _, n := range beyond(1, 65535) {
		l = append(l, []int{n}, []int{n, 1}, []int{1, n}, []int{1, n, 2}, append(rising(1, 7), n))
	}
	return l
}

// wrong is attributes that may not be, each by one part alone.
func wrong() []api.Attr {
	var l []api.Attr
	for _, base := range []api.Attr{{}, {Pref: 100}, full()} {
		but := func(do func(a *api.Attr)) {
			a := base
			do(&a)
			l = append(l, a)
		}
		for _, n := range beyond(0, most) {
			but(func(a *api.Attr) { a.Pref = n })
			but(func(a *api.Attr) { a.Med = n })
		}
		for _, n := range beyond(0, 2) {
			but(func(a *api.Attr) { a.Origin = n })
		}
		for _, n := range beyond(0, 65535) {
			but(func(a *api.Attr) { a.From = n })
		}
		for _, p := range noPaths() {
			but(func(a *api.Attr) { a.Path = p })
		}
		for _, c := range noSets() {
			but(func(a *api.Attr) { a.Comms = c })
		}
		for _, c := range noClusters() {
			but(func(a *api.Attr) { a.Clusters = c })
		}
	}
	return l
}

// bare is attributes whose empty lists are nil, so that they may be held against each other as wholes.
func bare(a api.Attr) api.Attr {
	if len(a.Path) == 0 {
		a.Path = nil
	}
	if len(a.Comms) == 0 {
		a.Comms = nil
	}
	if len(a.Clusters) == 0 {
		a.Clusters = nil
	}
	return a
}

// like tells whether two are the same, by other means than those of the package.
func like(a, b api.Attr) bool { return reflect.DeepEqual(bare(a), bare(b)) }

// twin is attributes in memory of their own, by other means than those of the package.
func twin(a api.Attr) api.Attr {
	a.Path = append([]int{}, a.Path...)
	a.Comms = append([]api.Comm{}, a.Comms...)
	a.Clusters = append([]int{}, a.Clusters...)
	return a
}

// spoil writes over all that lists have room for.
func spoil(a api.Attr) {
	for _, l := range [][]int{a.Path[:cap(a.Path)], a.Clusters[:cap(a.Clusters)]} {
		for i := range l {
			l[i] = -77
		}
	}
	l := a.Comms[:cap(a.Comms)]
	for i := range l {
		l[i] = api.Comm{AS: -77, N: -77}
	}
}

func TestMay(t *testing.T) {
	for _, a := range right() {
		if !May(a) || !May(twin(a)) {
			t.Errorf("May(%v): false", a)
		}
	}
	for _, a := range wrong() {
		if May(a) {
			t.Errorf("May(%v): true", a)
		}
	}
	if May(api.Attr{Pref: -1, Med: -1, Origin: -1}) {
		t.Error("a change's numbers are none of attributes")
	}
}

func TestMayOfAllSmallClusters(t *testing.T) {
	var grow func(l []int, more int)
	grow = func(l []int, more int) {
		want := true
		for i, n := range l {
			want = want && n >= 1 && n <= 65535
			for _, other := range l[i+1:] {
				want = want && n != other
			}
		}
		if May(api.Attr{Clusters: l}) != want {
			t.Fatalf("clusters %v: not %v", l, want)
		}
		if more > 0 {
			for _, n := range []int{-1, 0, 1, 2, 65535, 65536} {
				grow(append(slices.Clone(l), n), more-1)
			}
		}
	}
	grow(nil, 4)
}

func TestPlain(t *testing.T) {
	a := Plain()
	if !like(a, api.Attr{Pref: 100}) || !May(a) {
		t.Errorf("Plain: %v", a)
	}
	a.Path, a.Pref = append(a.Path, 1), 1
	if !like(Plain(), api.Attr{Pref: 100}) {
		t.Errorf("Plain once more: %v", Plain())
	}
}

func TestSame(t *testing.T) {
	all := append(right(), wrong()[:400]...)
	for i, a := range all {
		for j, b := range all {
			if want := like(a, b); Same(a, b) != want {
				t.Fatalf("Same of %d and %d, %v and %v: not %v", i, j, a, b, want)
			}
		}
	}
	for i, a := range right() {
		for j, b := range right() {
			if Same(a, b) != (i == j) {
				t.Fatalf("Same of %d and %d, %v and %v", i, j, a, b)
			}
		}
	}
	for _, a := range append(right(), wrong()...) {
		if b := twin(a); !Same(a, b) || !Same(b, a) || !Same(a, a) {
			t.Fatalf("Same(%v) with itself: false", a)
		}
	}
	empty := api.Attr{Path: []int{}, Comms: []api.Comm{}, Clusters: []int{}}
	if !Same(empty, api.Attr{}) || !Same(api.Attr{}, empty) || Compare(empty, api.Attr{}) != 0 {
		t.Error("nil and empty lists are one")
	}
}

func TestCopy(t *testing.T) {
	for _, a := range append(right(), wrong()...) {
		was := twin(a)
		first, second := Copy(a), Copy(a)
		if !like(first, was) || !like(second, was) || !like(a, was) {
			t.Fatalf("Copy(%v): %v, then %v", was, first, second)
		}
		spoil(first)
		if !like(a, was) || !like(second, was) {
			t.Fatalf("Copy(%v) shares memory", was)
		}
		third := Copy(second)
		spoil(second)
		if !like(third, was) {
			t.Fatalf("Copy(%v) keeps what it was handed", was)
		}
	}
}

func TestCopyLeavesRoomAlone(t *testing.T) {
	path, comms, clusters := []int{1, 2, 3}, row(1, 3), []int{4, 5, 6}
	got := Copy(api.Attr{Path: path[:1], Comms: comms[:1], Clusters: clusters[:1]})
	got.Path, got.Comms, got.Clusters = append(got.Path, 9), append(got.Comms, api.Comm{}), append(got.Clusters, 9)
	if !slices.Equal(path, []int{1, 2, 3}) || !slices.Equal(comms, row(1, 3)) || !slices.Equal(clusters, []int{4, 5, 6}) {
		t.Error("what was put behind a copy stands in what was copied")
	}
}

// ladder is attributes that rise, each by the part whose turn it is, and fall in those behind it.
func ladder() []api.Attr {
	high := api.Attr{Pref: 9, Med: 9, Origin: 2, Path: []int{9, 9, 9}, Comms: row(9, 3), From: 9, Clusters: []int{9, 8, 7}}
	var l []api.Attr
	step := func(do func(a *api.Attr)) {
		a := twin(high)
		do(&a)
		l = append(l, a)
	}
	for _, pref := range []int{math.MinInt, -1, 0, 8} {
		step(func(a *api.Attr) { a.Pref = pref })
	}
	for _, med := range []int{math.MinInt, -1, 0, 8} {
		step(func(a *api.Attr) { a.Med = med })
	}
	for _, origin := range []int{-5, 0, 1} {
		step(func(a *api.Attr) { a.Origin = origin })
	}
	for _, p := range [][]int{nil, {-1}, {9}, {10}, {70000}, {1, 1}, {1, 2}, {2, 1}, {10, 10}, {8, 99, 99}, {9, 8, 99}, {9, 9, 8}} {
		step(func(a *api.Attr) { a.Path = p })
	}
	for _, c := range [][]api.Comm{
		nil, {{AS: -1, N: 9}}, {{AS: 1, N: 9}}, {{AS: 2, N: 0}}, {{AS: 70000, N: 1}}, {{AS: 1, N: 1}, {AS: 1, N: 1}}, {{AS: 1, N: 2}, {AS: 1, N: 1}},
		row(8, 3), {{AS: 65000, N: 9}, {AS: 65000, N: 10}, {AS: 65000, N: 10}},
	} {
		step(func(a *api.Attr) { a.Comms = c })
	}
	for _, from := range []int{math.MinInt, -1, 0, 8} {
		step(func(a *api.Attr) { a.From = from })
	}
	for _, c := range [][]int{nil, {-1}, {1}, {9}, {10}, {70000}, {1, 1}, {1, 2}, {2, 1}, {99, 1}, {8, 99, 99}, {9, 7, 99}, {9, 8, 6}} {
		step(func(a *api.Attr) { a.Clusters = c })
	}
	l = append(l, high)
	above := func(do func(a *api.Attr)) {
		a := twin(high)
		do(&a)
		l = append(l, a)
	}
	above(func(a *api.Attr) { a.Clusters = []int{9, 8, 8} })
	above(func(a *api.Attr) { a.Clusters = []int{1, 1, 1, 1} })
	above(func(a *api.Attr) { a.Clusters = rising(1, 40) })
	above(func(a *api.Attr) { a.From, a.Clusters = 10, nil })
	above(func(a *api.Attr) { a.Comms, a.From, a.Clusters = row(1, 4), 0, nil })
	above(func(a *api.Attr) { a.Comms, a.From, a.Clusters = row(1, 40), 0, nil })
	above(func(a *api.Attr) { a.Path, a.Comms, a.From, a.Clusters = rising(1, 4), nil, 0, nil })
	above(func(a *api.Attr) { a.Path, a.Comms, a.From, a.Clusters = rising(1, 40), nil, 0, nil })
	return append(l, api.Attr{Pref: 9, Med: 9, Origin: 3}, api.Attr{Pref: 9, Med: 10}, api.Attr{Pref: 9, Med: math.MaxInt}, api.Attr{Pref: 10}, api.Attr{Pref: math.MaxInt})
}

func TestCompare(t *testing.T) {
	l := ladder()
	for i, a := range l {
		for j, b := range l {
			want := 0
			if i < j {
				want = -1
			} else if i > j {
				want = 1
			}
			if got := Compare(a, b); got != want {
				t.Fatalf("Compare of step %d and step %d, %v and %v: %d", i, j, a, b, got)
			}
		}
	}
}

// standing is how two stand to one another, part by part as the promise says it.
func standing(a, b api.Attr) int {
	numbers := func(a api.Attr) []int {
		l := []int{a.Pref, a.Med, a.Origin, len(a.Path)}
		l = append(l, a.Path...)
		l = append(l, len(a.Comms))
		for _, c := range a.Comms {
			l = append(l, c.AS, c.N)
		}
		l = append(l, a.From, len(a.Clusters))
		return append(l, a.Clusters...)
	}
	x, y := numbers(a), numbers(b)
	for i := range min(len(x), len(y)) { // where lists differ in length, the length that stands ahead decides
		if x[i] < y[i] {
			return -1
		}
		if x[i] > y[i] {
			return 1
		}
	}
	return 0
}

// drawn is attributes of few numbers, which may be or not.
func drawn(r *rand.Rand) api.Attr {
	a := api.Attr{Pref: r.Intn(2), Med: r.Intn(2), Origin: r.Intn(2), From: r.Intn(2)}
	for range r.Intn(3) {
		a.Path = append(a.Path, 1+r.Intn(2))
	}
	for range r.Intn(3) {
		a.Comms = append(a.Comms, api.Comm{AS: 1 + r.Intn(2), N: r.Intn(2)})
	}
	for range r.Intn(3) {
		a.Clusters = append(a.Clusters, 1+r.Intn(2))
	}
	return a
}

func TestCompareOfMany(t *testing.T) {
	r := rand.New(rand.NewSource(9))
	for range 50000 {
		a := drawn(r)
		b := drawn(r)
		if r.Intn(2) == 0 { // so that what decides is often a part that stands far behind
			b.Pref, b.Med, b.Origin, b.Path = a.Pref, a.Med, a.Origin, slices.Clone(a.Path)
		}
		if r.Intn(2) == 0 {
			b.Comms, b.From = slices.Clone(a.Comms), a.From
		}
		want := standing(a, b)
		if Compare(a, b) != want || Compare(b, a) != -want || Same(a, b) != (want == 0) {
			t.Fatalf("Compare(%v, %v): %d, not %d", a, b, Compare(a, b), want)
		}
	}
	all := append(right(), wrong()[:300]...)
	for _, a := range all {
		for _, b := range all {
			if Compare(a, b) != standing(a, b) {
				t.Fatalf("Compare(%v, %v): %d", a, b, Compare(a, b))
			}
		}
	}
}

func TestPlus(t *testing.T) {
	const top = 1 << 40
	for _, c := range []struct {
		a, b, want int
		e          api.Errno
	}{
		{0, 0, 0, api.OK},
		{1, 2, 3, api.OK},
		{100, 0, 100, api.OK},
		{65536, 65536, 131072, api.OK},
		{1 << 32, 1 << 32, 1 << 33, api.OK},
		{top, 0, top, api.OK},
		{top - 1, 1, top, api.OK},
		{top / 2, top / 2, top, api.OK},
		{top/2 - 1, top / 2, top - 1, api.OK},
		{top, 1, 0, api.ErrRange},
		{top/2 + 1, top / 2, 0, api.ErrRange},
		{top + 1, 0, 0, api.ErrRange},
		{top, top, 0, api.ErrRange},
		{-1, 0, 0, api.ErrRange},
		{-1, 1, 0, api.ErrRange},
		{-1, -1, 0, api.ErrRange},
		{-1, 5, 0, api.ErrRange},
		{-1, top + 1, 0, api.ErrRange},
		{-1, math.MaxInt, 0, api.ErrRange},
		{math.MinInt, 0, 0, api.ErrRange},
		{math.MinInt, math.MinInt, 0, api.ErrRange},
		{math.MinInt, math.MaxInt, 0, api.ErrRange},
		{math.MaxInt, 0, 0, api.ErrRange},
		{math.MaxInt, 1, 0, api.ErrRange},
		{math.MaxInt, math.MaxInt, 0, api.ErrRange},
	} {
		for _, p := range [][2]int{{c.a, c.b}, {c.b, c.a}} {
			if got, e := Plus(p[0], p[1]); got != c.want || e != c.e {
				t.Errorf("Plus(%d, %d): %d %d, not %d %d", p[0], p[1], got, e, c.want, c.e)
			}
		}
	}
}
