package wire

import (
	"bytes"
	"math"
	"reflect"
	"slices"
	"testing"

	"whirligig/api"
)

// pre is a prefix, of the four numbers of its address and its bits.
func pre(a, b, c, d uint32, bits int) api.Prefix {
	return api.Prefix{Addr: a<<24 | b<<16 | c<<8 | d, Bits: bits}
}

// pres is as many prefixes of so many bits, rising.
func pres(many, bits int) []api.Prefix {
	var l []api.Prefix
	for i := range many {
		l = append(l, api.Prefix{Addr: uint32(i+1) << (32 - bits), Bits: bits})
	}
	return l
}

// rising is as many numbers, from one on.
func rising(from, many int) []int {
	var l []int
	for i := range many {
		l = append(l, from+i)
	}
	return l
}

// row is as many communities of one AS, from a second number on.
func row(from, many int) []api.Comm {
	var l []api.Comm
	for i := range many {
		l = append(l, api.Comm{AS: 65000, N: from + i})
	}
	return l
}

// full is attributes that have something in each part.
func full() api.Attr {
	return api.Attr{Pref: 7, Med: 8, Origin: 1, Path: []int{3, 2, 3}, Comms: row(4, 3), From: 9, Clusters: []int{6, 5}}
}

// greatest is attributes of which nothing could be more.
func greatest() api.Attr {
	return api.Attr{
		Pref: 1 << 20, Med: 1 << 20, Origin: 2, Path: slices.Repeat([]int{65535}, 16),
		Comms: row(65528, 8), From: 65535, Clusters: rising(65528, 8),
	}
}

// rightAttrs is attributes that may be, no two of them the same.
func rightAttrs() []api.Attr {
	l := []api.Attr{{}, {Pref: 100}, full(), greatest()}
	for _, n := range []int{1, 255, 256, 65535, 65536, 1<<20 - 1, 1 << 20} {
		l = append(l, api.Attr{Pref: n}, api.Attr{Med: n})
	}
	for _, n := range []int{1, 2} {
		l = append(l, api.Attr{Origin: n})
	}
	for _, p := range [][]int{{1}, {255}, {256}, {65535}, {1, 1}, {2, 1}, {512, 258}, rising(1, 16), slices.Repeat([]int{7}, 16)} {
		l = append(l, api.Attr{Path: p})
	}
	for _, c := range [][]api.Comm{{{AS: 1}}, {{AS: 65535, N: 65535}}, {{AS: 258, N: 772}}, {{AS: 1, N: 2}, {AS: 2, N: 1}}, row(1, 8)} {
		l = append(l, api.Attr{Comms: c})
	}
	for _, n := range []int{1, 255, 256, 65535} {
		l = append(l, api.Attr{From: n})
	}
	for _, c := range [][]int{{1}, {65535}, {2, 1}, {1, 2}, rising(1, 8)} {
		l = append(l, api.Attr{Clusters: c})
	}
	return l
}

// wrongAttrs is attributes that may not be.
func wrongAttrs() []api.Attr {
	l := []api.Attr{
		{Path: rising(1, 17)}, {Path: []int{0}}, {Path: []int{1, 65536}}, {Path: []int{-1}},
		{Comms: row(1, 9)}, {Comms: []api.Comm{{}}}, {Comms: []api.Comm{{AS: 65536}}}, {Comms: []api.Comm{{AS: 1, N: 65536}}},
		{Comms: []api.Comm{{AS: 1, N: -1}}}, {Comms: []api.Comm{{AS: 2}, {AS: 1}}}, {Comms: []api.Comm{{AS: 1}, {AS: 1}}},
		{Clusters: rising(1, 9)}, {Clusters: []int{0}}, {Clusters: []int{65536}}, {Clusters: []int{1, 2, 1}}, {Clusters: []int{-1}},
	}
	for _, n := range []int{-1, 1<<20 + 1, 1 << 32, math.MinInt, math.MaxInt} {
		l = append(l, api.Attr{Pref: n}, api.Attr{Med: n}, api.Attr{Origin: n}, api.Attr{From: n})
	}
	return append(l, api.Attr{Origin: 3}, api.Attr{Origin: 256}, api.Attr{From: 65536})
}

// rightLists is lists of prefixes that an update may have.
func rightLists() [][]api.Prefix {
	return [][]api.Prefix{
		{{}},
		{pre(10, 0, 0, 0, 8)},
		{pre(10, 0, 0, 0, 9)},
		{pre(10, 128, 0, 0, 9)},
		{pre(255, 255, 255, 255, 32)},
		{pre(0, 0, 0, 0, 32)},
		{{}, pre(0, 0, 0, 0, 1), pre(0, 0, 0, 0, 32), pre(128, 0, 0, 0, 1)},
		{pre(10, 0, 0, 0, 7), pre(10, 0, 0, 0, 8), pre(10, 0, 0, 0, 9), pre(10, 128, 0, 0, 9)},
		{pre(10, 1, 0, 0, 16), pre(10, 1, 2, 0, 23), pre(10, 1, 2, 0, 24), pre(10, 1, 2, 0, 25), pre(10, 1, 2, 3, 32)},
		pres(31, 32),
		pres(32, 8),
		pres(32, 32),
	}
}

// wrongLists is lists of prefixes that no update may have.
func wrongLists() [][]api.Prefix {
	return [][]api.Prefix{
		pres(33, 8),
		pres(33, 32),
		pres(100, 9),
		{pre(10, 0, 0, 0, 8), pre(9, 0, 0, 0, 8)},
		{pre(10, 0, 0, 0, 9), pre(10, 0, 0, 0, 8)},
		{pre(10, 0, 0, 0, 8), pre(10, 0, 0, 0, 8)},
		{pre(1, 0, 0, 0, 8), pre(2, 0, 0, 0, 8), pre(2, 0, 0, 0, 8)},
		{pre(1, 0, 0, 0, 8), pre(3, 0, 0, 0, 8), pre(2, 0, 0, 0, 8)},
		{{}, {}},
		{pre(10, 0, 0, 1, 8)},
		{pre(10, 0, 0, 1, 31)},
		{pre(0, 0, 0, 1, 0)},
		{{Bits: 33}},
		{{Bits: -1}},
		{{Bits: 256}},
		{{Bits: math.MaxInt}},
		{{Bits: math.MinInt}},
		{pre(1, 0, 0, 0, 8), pre(10, 0, 0, 1, 8)},
		{pre(10, 0, 0, 1, 8), pre(11, 0, 0, 0, 8)},
	}
}

// rightUpdates is updates that may be: withdrawn ones alone, told ones alone, both.
func rightUpdates() []Update {
	var l []Update
	for _, w := range rightLists() {
		l = append(l, Update{Withdrawn: w})
		for _, p := range rightLists() {
			l = append(l, Update{Withdrawn: w, Told: p, Attr: full()})
		}
	}
	for _, p := range rightLists() {
		l = append(l, Update{Told: p, Attr: greatest()})
	}
	for _, a := range rightAttrs() {
		l = append(l, Update{Told: pres(1, 8), Attr: a}, Update{Withdrawn: pres(2, 9), Told: pres(1, 32), Attr: a})
	}
	return l
}

// wrongUpdates is updates that may not be.
func wrongUpdates() []Update {
	l := []Update{{}, {Attr: full()}, {Attr: api.Attr{Pref: 100}}, {Withdrawn: []api.Prefix{}, Told: []api.Prefix{}}}
	for _, w := range wrongLists() {
		l = append(l,
			Update{Withdrawn: w},
			Update{Withdrawn: w, Told: pres(1, 8), Attr: full()},
			Update{Told: w, Attr: full()},
			Update{Withdrawn: pres(1, 8), Told: w, Attr: full()})
	}
	for _, a := range rightAttrs()[1:] { // without told ones they are empty
		l = append(l, Update{Withdrawn: pres(1, 8), Attr: a})
	}
	for _, a := range wrongAttrs() {
		l = append(l, Update{Withdrawn: pres(1, 8), Attr: a}, Update{Told: pres(1, 8), Attr: a}, Update{Withdrawn: pres(1, 8), Told: pres(1, 8), Attr: a})
	}
	return l
}

// bare is an update whose empty lists are nil, so that it may be held against another one as a whole.
func bare(u Update) Update {
	if len(u.Withdrawn) == 0 {
		u.Withdrawn = nil
	}
	if len(u.Told) == 0 {
		u.Told = nil
	}
	if len(u.Attr.Path) == 0 {
		u.Attr.Path = nil
	}
	if len(u.Attr.Comms) == 0 {
		u.Attr.Comms = nil
	}
	if len(u.Attr.Clusters) == 0 {
		u.Attr.Clusters = nil
	}
	return u
}

// like tells whether two updates are the same.
func like(u, v Update) bool { return reflect.DeepEqual(bare(u), bare(v)) }

// twin is an update in memory of its own, with empty lists for nil ones.
func twin(u Update) Update {
	u.Withdrawn = append([]api.Prefix{}, u.Withdrawn...)
	u.Told = append([]api.Prefix{}, u.Told...)
	u.Attr.Path = append([]int{}, u.Attr.Path...)
	u.Attr.Comms = append([]api.Comm{}, u.Attr.Comms...)
	u.Attr.Clusters = append([]int{}, u.Attr.Clusters...)
	return u
}

// spoil writes over all that a list has room for.
func spoil[T any](l []T, with T) {
	l = l[:cap(l)]
	for i := range l {
		l[i] = with
	}
}

// spoilUpdate writes over all that an update's lists have room for.
func spoilUpdate(u Update) {
	spoil(u.Withdrawn, api.Prefix{Addr: 77, Bits: -77})
	spoil(u.Told, api.Prefix{Addr: 77, Bits: -77})
	spoil(u.Attr.Path, -77)
	spoil(u.Attr.Comms, api.Comm{AS: -77, N: -77})
	spoil(u.Attr.Clusters, -77)
}

func TestMay(t *testing.T) {
	for _, u := range rightUpdates() {
		if !May(u) || !May(twin(u)) {
			t.Errorf("May(%v): false", u)
		}
	}
	for _, u := range wrongUpdates() {
		if May(u) || May(twin(u)) {
			t.Errorf("May(%v): true", u)
		}
	}
}

func TestMayTellsAndWithdrawsOne(t *testing.T) {
	// the lists are judged each by itself
	l := pres(3, 8)
	if !May(Update{Withdrawn: l, Told: l, Attr: api.Attr{Pref: 100}}) {
		t.Error("one prefix in both lists: false")
	}
}

func TestAlive(t *testing.T) {
	want := []byte{255, 255, 255, 255, 255, 255, 255, 255, 255, 255, 255, 255, 255, 255, 255, 255, 0, 19, 4}
	first := Alive()
	if !bytes.Equal(first, want) {
		t.Fatalf("Alive: %v, not %v", first, want)
	}
	spoil(first, 7)
	if again := Alive(); !bytes.Equal(again, want) {
		t.Errorf("Alive shares memory with an earlier answer: %v", again)
	}
	if u, e := Decode(Alive()); e != api.ErrForm || !like(u, Update{}) {
		t.Errorf("a message of nothing is no update: %v %d", u, e)
	}
}

// head is a head that tells a size and a type.
func head(size, kind int) []byte {
	return append(bytes.Repeat([]byte{255}, 16), byte(size>>8), byte(size), byte(kind))
}

// note is a message of a size and a type, whose bytes behind the head are all one.
func note(size, kind int, with byte) []byte {
	return append(head(size, kind), bytes.Repeat([]byte{with}, size-19)...)
}

// splits fails the test, if bytes aren't split so.
func splits(t *testing.T, name string, b []byte, want [][]byte, wantE api.Errno) {
	t.Helper()
	was := slices.Clone(b)
	size := 0
	for _, m := range want {
		size += len(m)
	}
	l, n, e := Split(b)
	if !slices.EqualFunc(l, want, bytes.Equal) || n != size || e != wantE {
		t.Errorf("%s: %d messages %v, %d, %d; not %d messages, %d, %d", name, len(l), l, n, e, len(want), size, wantE)
	}
	if !bytes.Equal(b, was) {
		t.Errorf("%s: what was handed in was changed", name)
	}
}

func TestSplit(t *testing.T) {
	splits(t, "nil", nil, nil, api.OK)
	splits(t, "empty", []byte{}, nil, api.OK)
	var many []byte
	var all [][]byte
	for i, m := range [][]byte{
		Alive(), note(19, 1, 0), note(20, 2, 255), note(4095, 3, 255), note(4096, 4, 0), Alive(), note(4096, 1, 255), note(256, 2, 1), note(255, 3, 2), Alive(), Alive(),
	} {
		splits(t, "one alone", m, [][]byte{m}, api.OK)
		many, all = append(many, m...), append(all, m)
		splits(t, "the first ones", many, all, api.OK)
		if i == 0 {
			splits(t, "one of 18 bytes", m[:18], nil, api.OK)
		}
	}
}

func TestSplitOfTypes(t *testing.T) {
	for kind := range 256 {
		b := append(Alive(), note(23, kind, 9)...)
		want, e := [][]byte{Alive()}, api.ErrForm
		if kind >= 1 && kind <= 4 {
			want, e = append(want, b[19:]), api.OK
		}
		splits(t, "type", b, want, e)
	}
}

func TestSplitOfSizes(t *testing.T) {
	rest := bytes.Repeat([]byte{255}, 4200)
	for size := range 65536 {
		if size > 4200 && size%251 != 0 && size < 65500 {
			continue
		}
		b := slices.Concat(head(size, 2), rest)
		if size < 19 || size > 4096 {
			splits(t, "size", b, nil, api.ErrForm)
			continue
		}
		splits(t, "size", b[:size], [][]byte{b[:size]}, api.OK)
		splits(t, "a byte is lacking", b[:size-1], nil, api.OK)
	}
}

func TestSplitOfMarks(t *testing.T) {
	for i := range 16 {
		for _, c := range []byte{0, 1, 127, 254} {
			bad := Alive()
			bad[i] = c
			splits(t, "alone", bad, nil, api.ErrForm)
			splits(t, "behind two", slices.Concat(note(33, 3, 7), Alive(), bad), [][]byte{note(33, 3, 7), Alive()}, api.ErrForm)
			splits(t, "ahead of one", slices.Concat(bad, Alive()), nil, api.ErrForm)
			splits(t, "between", slices.Concat(Alive(), bad, Alive()), [][]byte{Alive()}, api.ErrForm)
		}
	}
}

func TestSplitOfALastOneCut(t *testing.T) {
	ahead := slices.Concat(Alive(), note(40, 1, 3))
	want := [][]byte{Alive(), note(40, 1, 3)}
	last := note(300, 2, 255)
	for n := range last {
		splits(t, "cut", slices.Concat(ahead, last[:n]), want, api.OK)
		splits(t, "cut, alone", last[:n], nil, api.OK)
	}
	// a head that isn't there as a whole isn't judged, one that is there is judged though bytes behind it are lacking
	splits(t, "18 wrong bytes", slices.Concat(ahead, make([]byte, 18)), want, api.OK)
	splits(t, "19 wrong bytes", slices.Concat(ahead, make([]byte, 19)), want, api.ErrForm)
	splits(t, "a wrong type, cut", slices.Concat(ahead, head(300, 5)), want, api.ErrForm)
	splits(t, "a wrong size, cut", slices.Concat(ahead, head(4097, 2)), want, api.ErrForm)
	splits(t, "a right head alone", slices.Concat(ahead, head(4096, 2)), want, api.OK)
}

func TestSplitOfUpdates(t *testing.T) {
	var many []byte
	var all [][]byte
	updates := rightUpdates()
	for _, u := range updates {
		b, _ := Encode(u)
		many, all = append(many, b...), append(all, b)
	}
	splits(t, "updates", many, all, api.OK)
	l, _, _ := Split(many)
	for i, b := range l {
		if u, e := Decode(b); e != api.OK || !like(u, updates[i]) {
			t.Fatalf("message %d: %v %d, not %v", i, u, e, updates[i])
		}
	}
}

func TestSplitNewMemory(t *testing.T) {
	b := slices.Concat(Alive(), note(50, 2, 1), note(51, 3, 2), head(99, 1))
	was := slices.Clone(b)
	first, _, _ := Split(b)
	second, _, _ := Split(b)
	want := [][]byte{was[:19], was[19:69], was[69:120]}
	for i := range first {
		spoil(first[i], 77)
		for k := range first {
			if k > i && !bytes.Equal(first[k], want[k]) {
				t.Fatalf("messages %d and %d of one answer share memory", i, k)
			}
		}
	}
	if !bytes.Equal(b, was) {
		t.Fatal("the answer shares memory with the argument")
	}
	spoil(b, 78)
	if !slices.EqualFunc(second, want, bytes.Equal) {
		t.Fatal("the answer shares memory with the argument, or with another one")
	}
	bad := slices.Concat(Alive(), make([]byte, 19))
	l, _, _ := Split(bad)
	spoil(l[0], 77)
	if !bytes.Equal(bad[:19], Alive()) {
		t.Error("what is told beside an error shares memory with the argument")
	}
}
