package attr

import (
	"math/rand"
	"reflect"
	"slices"
	"testing"

	"whirligig/api"
)

// but is the change of nothing that something was done to.
func but(do func(s *api.Set)) api.Set {
	s := api.Set{Pref: -1, Med: -1, Origin: -1}
	do(&s)
	return s
}

// fullChange is a change of each part.
func fullChange() api.Set {
	return api.Set{Pref: 200, Med: 30, Origin: 2, Add: row(9, 2), Del: row(5, 1), Clear: true, Prepend: []int{8, 7}}
}

// rightChanges is changes that may be.
func rightChanges() []api.Set {
	l := []api.Set{{}, but(func(*api.Set) {}), fullChange()}
	for _, n := range []int{-1, 0, 1, 100, most - 1, most} {
		l = append(l, but(func(s *api.Set) { s.Pref = n }), but(func(s *api.Set) { s.Med = n }))
	}
	for _, n := range []int{-1, 0, 1, 2} {
		l = append(l, but(func(s *api.Set) { s.Origin = n }))
	}
	for _, c := range [][]api.Comm{
		nil, {}, {{AS: 1}}, {{AS: 65535, N: 65535}}, {{AS: 65535, N: 65281}}, row(1, 8), slices.Repeat(row(1, 1), 8),
		{{AS: 2, N: 1}, {AS: 1, N: 2}, {AS: 2, N: 1}}, {{AS: 65535}, {AS: 1, N: 65535}},
	} {
		l = append(l, but(func(s *api.Set) { s.Add = c }), but(func(s *api.Set) { s.Del = c }), but(func(s *api.Set) { s.Add, s.Del, s.Clear = c, c, true }))
	}
	for _, p := range [][]int{nil, {}, {1}, {65535}, {1, 1}, {2, 1, 2}, rising(1, 15), rising(1, 16), slices.Repeat([]int{65535}, 16)} {
		l = append(l, but(func(s *api.Set) { s.Prepend = p }))
	}
	return append(l, but(func(s *api.Set) { s.Clear = true }))
}

// wrongChanges is changes that may not be, each by one part alone.
func wrongChanges() []api.Set {
	var l []api.Set
	for _, base := range []api.Set{{}, but(func(*api.Set) {}), fullChange()} {
		but := func(do func(s *api.Set)) {
			s := base
			do(&s)
			l = append(l, s)
		}
		for _, n := range beyond(-1, most) {
			but(func(s *api.Set) { s.Pref = n })
			but(func(s *api.Set) { s.Med = n })
		}
		for _, n := range beyond(-1, 2) {
			but(func(s *api.Set) { s.Origin = n })
		}
		for _, c := range wrongComms() {
			for _, list := range [][]api.Comm{{c}, {c, {AS: 1}}, {{AS: 1}, c}, append(row(1, 7), c), append(row(1, 8), c)} {
				but(func(s *api.Set) { s.Add = list })
				but(func(s *api.Set) { s.Del = list })
			}
		}
		for _, list := range [][]api.Comm{row(1, 9), row(1, 100), slices.Repeat(row(1, 1), 9)} {
			but(func(s *api.Set) { s.Add = list })
			but(func(s *api.Set) { s.Del = list })
		}
		for _, p := range noPaths() {
			but(func(s *api.Set) { s.Prepend = p })
		}
	}
	return l
}

// twinChange is a change in memory of its own.
func twinChange(s api.Set) api.Set {
	s.Add = append([]api.Comm{}, s.Add...)
	s.Del = append([]api.Comm{}, s.Del...)
	s.Prepend = append([]int{}, s.Prepend...)
	return s
}

// likeChange tells whether two changes are the same.
func likeChange(a, b api.Set) bool { return reflect.DeepEqual(twinChange(a), twinChange(b)) }

// spoilChange writes over all that a change's lists have room for.
func spoilChange(s api.Set) {
	clear(s.Add[:cap(s.Add)])
	clear(s.Del[:cap(s.Del)])
	clear(s.Prepend[:cap(s.Prepend)])
}

func TestNothing(t *testing.T) {
	s := Nothing()
	if !likeChange(s, api.Set{Pref: -1, Med: -1, Origin: -1}) || !Change(s) {
		t.Errorf("Nothing: %v", s)
	}
	for _, a := range right() {
		if got, e := Do(a, s); e != api.OK || !like(got, a) {
			t.Errorf("Do(%v) of nothing: %v %d", a, got, e)
		}
	}
	s.Pref, s.Add = 3, append(s.Add, api.Comm{AS: 1})
	if !likeChange(Nothing(), api.Set{Pref: -1, Med: -1, Origin: -1}) {
		t.Errorf("Nothing once more: %v", Nothing())
	}
}

func TestChange(t *testing.T) {
	for _, s := range rightChanges() {
		if !Change(s) || !Change(twinChange(s)) {
			t.Errorf("Change(%v): false", s)
		}
	}
	for _, s := range wrongChanges() {
		if Change(s) {
			t.Errorf("Change(%v): true", s)
		}
	}
}

func TestDo(t *testing.T) {
	both := []api.Comm{{AS: 65000, N: 4}, {AS: 65000, N: 6}}
	for _, c := range []struct {
		name string
		s    api.Set
		want func(a *api.Attr)
	}{
		{"nothing", but(func(*api.Set) {}), func(*api.Attr) {}},
		{"all numbers 0", api.Set{}, func(a *api.Attr) { a.Pref, a.Med, a.Origin = 0, 0, 0 }},
		{"pref 0", but(func(s *api.Set) { s.Pref = 0 }), func(a *api.Attr) { a.Pref = 0 }},
		{"the greatest pref", but(func(s *api.Set) { s.Pref = most }), func(a *api.Attr) { a.Pref = most }},
		{"med 0", but(func(s *api.Set) { s.Med = 0 }), func(a *api.Attr) { a.Med = 0 }},
		{"the greatest med", but(func(s *api.Set) { s.Med = most }), func(a *api.Attr) { a.Med = most }},
		{"origin 0", but(func(s *api.Set) { s.Origin = 0 }), func(a *api.Attr) { a.Origin = 0 }},
		{"origin 2", but(func(s *api.Set) { s.Origin = 2 }), func(a *api.Attr) { a.Origin = 2 }},
		{"add", but(func(s *api.Set) { s.Add = row(9, 1) }), func(a *api.Attr) { a.Comms = append(row(4, 3), row(9, 1)...) }},
		{"add ahead, unsorted and twice", but(func(s *api.Set) { s.Add = append(append(row(3, 1), row(1, 1)...), row(3, 1)...) }),
			func(a *api.Attr) { a.Comms = append(row(1, 1), row(3, 4)...) }},
		{"add what is there", but(func(s *api.Set) { s.Add = row(4, 3) }), func(*api.Attr) {}},
		{"add up to 8", but(func(s *api.Set) { s.Add = row(7, 5) }), func(a *api.Attr) { a.Comms = row(4, 8) }},
		{"add 8 of which 3 are there", but(func(s *api.Set) { s.Add = row(1, 8) }), func(a *api.Attr) { a.Comms = row(1, 8) }},
		{"del", but(func(s *api.Set) { s.Del = row(5, 1) }), func(a *api.Attr) { a.Comms = both }},
		{"del what isn't there", but(func(s *api.Set) { s.Del = row(7, 8) }), func(*api.Attr) {}},
		{"del all, in any order", but(func(s *api.Set) { s.Del = append(row(5, 4), row(4, 1)...) }), func(a *api.Attr) { a.Comms = nil }},
		{"clear", but(func(s *api.Set) { s.Clear = true }), func(a *api.Attr) { a.Comms = nil }},
		{"clear and add", but(func(s *api.Set) { s.Clear, s.Add = true, row(5, 1) }), func(a *api.Attr) { a.Comms = row(5, 1) }},
		{"clear and add 8", but(func(s *api.Set) { s.Clear, s.Add = true, row(21, 8) }), func(a *api.Attr) { a.Comms = row(21, 8) }},
		{"clear and del", but(func(s *api.Set) { s.Clear, s.Del = true, row(5, 1) }), func(a *api.Attr) { a.Comms = nil }},
		{"clear, del and add", but(func(s *api.Set) { s.Clear, s.Del, s.Add = true, row(5, 2), row(6, 2) }), func(a *api.Attr) { a.Comms = row(6, 2) }},
		{"one in del and add that is there", but(func(s *api.Set) { s.Del, s.Add = row(5, 1), row(5, 1) }), func(*api.Attr) {}},
		{"one in del and add that isn't there", but(func(s *api.Set) { s.Del, s.Add = row(7, 1), row(7, 1) }), func(a *api.Attr) { a.Comms = row(4, 4) }},
		{"del makes room for add", but(func(s *api.Set) { s.Del, s.Add = row(4, 3), row(7, 8) }), func(a *api.Attr) { a.Comms = row(7, 8) }},
		{"prepend one", but(func(s *api.Set) { s.Prepend = []int{65535} }), func(a *api.Attr) { a.Path = []int{65535, 3, 2, 3} }},
		{"prepend several", but(func(s *api.Set) { s.Prepend = []int{8, 7, 7, 9} }), func(a *api.Attr) { a.Path = []int{8, 7, 7, 9, 3, 2, 3} }},
		{"prepend up to 16", but(func(s *api.Set) { s.Prepend = rising(11, 13) }), func(a *api.Attr) { a.Path = append(rising(11, 13), 3, 2, 3) }},
		{"each part", fullChange(), func(a *api.Attr) {
			a.Pref, a.Med, a.Origin, a.Path, a.Comms = 200, 30, 2, []int{8, 7, 3, 2, 3}, row(9, 2)
		}},
	} {
		want := full()
		c.want(&want)
		if got, e := Do(full(), c.s); e != api.OK || !like(got, want) {
			t.Errorf("%s: %v %d, not %v", c.name, got, e, want)
		}
		if got, e := Do(twin(full()), twinChange(c.s)); e != api.OK || !like(got, want) {
			t.Errorf("%s, with empty lists for nil ones: %v %d, not %v", c.name, got, e, want)
		}
	}
}

func TestDoOfPlain(t *testing.T) {
	s := but(func(s *api.Set) { s.Prepend, s.Add = rising(1, 16), row(1, 8) })
	want := api.Attr{Pref: 100, Path: rising(1, 16), Comms: row(1, 8)}
	got, e := Do(Plain(), s)
	if e != api.OK || !like(got, want) {
		t.Fatalf("Do of 16 numbers and 8 communities: %v %d", got, e)
	}
	s.Prepend = nil
	if again, e := Do(got, s); e != api.OK || !like(again, want) {
		t.Errorf("the same communities once more: %v %d", again, e)
	}
}

func TestDoTooLong(t *testing.T) {
	for _, c := range []struct {
		name string
		a    api.Attr
		s    api.Set
		e    api.Errno
	}{
		{"16 and 0 numbers", api.Attr{Path: rising(1, 16)}, but(func(*api.Set) {}), api.OK},
		{"16 and 1 numbers", api.Attr{Path: rising(1, 16)}, but(func(s *api.Set) { s.Prepend = []int{1} }), api.ErrLong},
		{"15 and 1 numbers", api.Attr{Path: rising(1, 15)}, but(func(s *api.Set) { s.Prepend = []int{1} }), api.OK},
		{"1 and 16 numbers", api.Attr{Path: []int{1}}, but(func(s *api.Set) { s.Prepend = rising(1, 16) }), api.ErrLong},
		{"16 and 16 numbers", api.Attr{Path: rising(1, 16)}, but(func(s *api.Set) { s.Prepend = rising(1, 16) }), api.ErrLong},
		{"8 communities and 1", api.Attr{Comms: row(1, 8)}, but(func(s *api.Set) { s.Add = row(9, 1) }), api.ErrLong},
		{"7 communities and 1", api.Attr{Comms: row(1, 7)}, but(func(s *api.Set) { s.Add = row(8, 1) }), api.OK},
		{"1 community and 8", api.Attr{Comms: row(1, 1)}, but(func(s *api.Set) { s.Add = row(2, 8) }), api.ErrLong},
		{"8 communities and those 8", api.Attr{Comms: row(1, 8)}, but(func(s *api.Set) { s.Add = row(1, 8) }), api.OK},
		{"8 communities, 1 goes, 1 comes", api.Attr{Comms: row(1, 8)}, but(func(s *api.Set) { s.Del, s.Add = row(3, 1), row(9, 1) }), api.OK},
		{"8 communities, 1 goes, 2 come", api.Attr{Comms: row(1, 8)}, but(func(s *api.Set) { s.Del, s.Add = row(3, 1), row(9, 2) }), api.ErrLong},
		{"8 communities, 1 goes that isn't there, 1 comes", api.Attr{Comms: row(1, 8)}, but(func(s *api.Set) { s.Del, s.Add = row(20, 1), row(9, 1) }), api.ErrLong},
		{"8 communities, one that comes goes", api.Attr{Comms: row(1, 8)}, but(func(s *api.Set) { s.Del, s.Add = row(9, 1), row(9, 1) }), api.ErrLong},
		{"8 communities, clear, 8 come", api.Attr{Comms: row(1, 8)}, but(func(s *api.Set) { s.Clear, s.Add = true, row(9, 8) }), api.OK},
		{"both too long", api.Attr{Path: rising(1, 16), Comms: row(1, 8)}, but(func(s *api.Set) { s.Prepend, s.Add = []int{1}, row(9, 1) }), api.ErrLong},
	} {
		if got, e := Do(c.a, c.s); e != c.e || e != api.OK && !reflect.DeepEqual(got, api.Attr{}) {
			t.Errorf("%s: %v %d, not %d", c.name, got, e, c.e)
		}
	}
}

func TestDoWrong(t *testing.T) {
	refused := func(a api.Attr, s api.Set) {
		t.Helper()
		if got, e := Do(a, s); e != api.ErrArg || !like(got, api.Attr{}) {
			t.Fatalf("Do(%v, %v): %v %d", a, s, got, e)
		}
	}
	long := but(func(s *api.Set) { s.Prepend, s.Add = rising(1, 16), row(20, 8) })
	for _, a := range wrong() {
		for _, s := range []api.Set{but(func(*api.Set) {}), fullChange(), long} {
			refused(a, s)
		}
		// a change that would mend what may not be doesn't
		refused(a, api.Set{Clear: true, Del: row(1, 8)})
	}
	most := api.Attr{Path: rising(1, 16), Comms: row(1, 8)}
	for _, s := range wrongChanges() {
		for _, a := range []api.Attr{{}, full(), most} {
			refused(a, s)
		}
	}
	refused(wrong()[0], wrongChanges()[0])
}

// world is all communities of which changes are drawn.
func world() []api.Comm {
	var l []api.Comm
	for as := 1; as <= 3; as++ {
		for n := range 4 {
			l = append(l, api.Comm{AS: as, N: n})
		}
	}
	return l
}

// drawnChange is a change of few numbers and of communities of the world.
func drawnChange(r *rand.Rand) api.Set {
	s := api.Set{Pref: r.Intn(4) - 1, Med: r.Intn(4) - 1, Origin: r.Intn(4) - 1, Clear: r.Intn(4) == 0}
	all := world()
	for range r.Intn(9) {
		s.Add = append(s.Add, all[r.Intn(len(all))])
	}
	for range r.Intn(9) {
		s.Del = append(s.Del, all[r.Intn(len(all))])
	}
	for range r.Intn(17) {
		s.Prepend = append(s.Prepend, 1+r.Intn(9))
	}
	return s
}

// drawnSet is attributes that may be, with communities of the world.
func drawnSet(r *rand.Rand) api.Attr {
	a := api.Attr{Pref: r.Intn(9), Med: r.Intn(9), Origin: r.Intn(3), From: r.Intn(9), Clusters: rising(1+r.Intn(9), r.Intn(9))}
	for _, c := range world() {
		if len(a.Comms) < 8 && r.Intn(2) == 0 {
			a.Comms = append(a.Comms, c)
		}
	}
	for range r.Intn(17) {
		a.Path = append(a.Path, 1+r.Intn(9))
	}
	return a
}

// judged is what a change makes of attributes, asked community by community and number by number.
func judged(a api.Attr, s api.Set) (api.Attr, api.Errno) {
	want := api.Attr{Pref: a.Pref, Med: a.Med, Origin: a.Origin, From: a.From, Clusters: a.Clusters}
	if s.Pref >= 0 {
		want.Pref = s.Pref
	}
	if s.Med >= 0 {
		want.Med = s.Med
	}
	if s.Origin >= 0 {
		want.Origin = s.Origin
	}
	for _, c := range world() {
		was := slices.Contains(a.Comms, c) && !s.Clear && !slices.Contains(s.Del, c)
		if was || slices.Contains(s.Add, c) {
			want.Comms = append(want.Comms, c)
		}
	}
	for i := range len(s.Prepend) + len(a.Path) {
		if i < len(s.Prepend) {
			want.Path = append(want.Path, s.Prepend[i])
		} else {
			want.Path = append(want.Path, a.Path[i-len(s.Prepend)])
		}
	}
	if len(want.Comms) > 8 || len(want.Path) > 16 {
		return api.Attr{}, api.ErrLong
	}
	return want, api.OK
}

func TestDoOfMany(t *testing.T) {
	r := rand.New(rand.NewSource(12))
	seen := [2]int{}
	for range 30000 {
		a, s := drawnSet(r), drawnChange(r)
		if r.Intn(2) == 0 && len(s.Prepend) > 16-len(a.Path) { // so that it isn't nearly always the path that is too long
			s.Prepend = s.Prepend[:16-len(a.Path)]
		}
		wasA, wasS := twin(a), twinChange(s)
		want, wantE := judged(a, s)
		got, e := Do(a, s)
		if e != wantE || !like(got, want) {
			t.Fatalf("Do(%v, %v): %v %d, not %v %d", a, s, got, e, want, wantE)
		}
		if !like(a, wasA) || !likeChange(s, wasS) {
			t.Fatalf("Do(%v, %v) changed what it was handed", wasA, wasS)
		}
		if e != api.OK {
			seen[1]++
			continue
		}
		seen[0]++
		if !May(got) {
			t.Fatalf("Do(%v, %v): %v, which may not be", a, s, got)
		}
	}
	if seen[0] < 3000 || seen[1] < 3000 {
		t.Error("too few of one kind:", seen)
	}
}

func TestDoneTwiceIsDoneOnce(t *testing.T) {
	r := rand.New(rand.NewSource(13))
	asked := 0
	ask := func(a api.Attr, s api.Set) {
		t.Helper()
		s.Prepend = nil
		once, e := Do(a, s)
		if e != api.OK {
			return
		}
		asked++
		if twice, e := Do(once, s); e != api.OK || !Same(once, twice) || !like(once, twice) {
			t.Fatalf("Do(%v, %v): %v, and done twice %v %d", a, s, once, twice, e)
		}
	}
	for range 20000 {
		ask(drawnSet(r), drawnChange(r))
	}
	for _, a := range right() {
		for _, s := range rightChanges() {
			ask(a, s)
		}
	}
	if asked < 10000 {
		t.Error("too few that could be done:", asked)
	}
}

func TestDoNewMemory(t *testing.T) {
	for _, a := range right() {
		for _, s := range rightChanges() {
			mineA, mineS := twin(a), twinChange(s)
			first, e := Do(mineA, mineS)
			second, _ := Do(mineA, mineS)
			if e != api.OK {
				continue
			}
			was := twin(first)
			spoil(first)
			if !like(mineA, a) || !likeChange(mineS, s) || !like(second, was) {
				t.Fatalf("Do(%v, %v): the answer shares memory", a, s)
			}
			spoil(mineA)
			spoilChange(mineS)
			if !like(second, was) {
				t.Fatalf("Do(%v, %v): the answer keeps what was handed in", a, s)
			}
		}
	}
}

func TestDoLeavesRoomAlone(t *testing.T) {
	path, prepend, comms, clusters := rising(1, 8), rising(11, 8), row(1, 8), rising(21, 8)
	a := api.Attr{Path: path[:2], Comms: comms[:2], Clusters: clusters[:2]}
	s := but(func(s *api.Set) { s.Prepend, s.Add, s.Del = prepend[:2], comms[4:5], comms[:1] })
	got, e := Do(a, s)
	want := api.Attr{Path: []int{11, 12, 1, 2}, Comms: []api.Comm{comms[1], comms[4]}, Clusters: []int{21, 22}}
	if e != api.OK || !like(got, want) {
		t.Fatalf("Do: %v %d, not %v", got, e, want)
	}
	if !slices.Equal(path, rising(1, 8)) || !slices.Equal(prepend, rising(11, 8)) || !slices.Equal(comms, row(1, 8)) || !slices.Equal(clusters, rising(21, 8)) {
		t.Error("what lies behind a list that was handed in was written over")
	}
}
