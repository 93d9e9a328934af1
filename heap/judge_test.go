package heap

import (
	"slices"
	"testing"
)

// over does something to each list of numbers below kinds, none longer than longest.
func over(longest, kinds int, do func(l []int)) {
	var grow func(l []int)
	grow = func(l []int) {
		do(l)
		if len(l) == longest {
			return
		}
		for k := range kinds {
			grow(append(l, k))
		}
	}
	grow(nil)
}

// judge is a heap by the chapter's words alone: keys with their ranks in the order in which they were last set, looked through from the beginning.
type judge struct {
	keys  []int
	ranks []int
}

func (j *judge) drop(k int) bool {
	i := slices.Index(j.keys, k)
	if i < 0 {
		return false
	}
	j.keys, j.ranks = slices.Delete(j.keys, i, i+1), slices.Delete(j.ranks, i, i+1)
	return true
}

func (j *judge) set(k, r int) bool {
	had := j.drop(k)
	j.keys, j.ranks = append(j.keys, k), append(j.ranks, r)
	return had
}

func (j *judge) rank(k int) (int, bool) {
	if i := slices.Index(j.keys, k); i >= 0 {
		return j.ranks[i], true
	}
	return 0, false
}

func (j *judge) first() (int, int, bool) {
	if len(j.keys) == 0 {
		return 0, 0, false
	}
	i := slices.Index(j.ranks, slices.Min(j.ranks))
	return j.keys[i], j.ranks[i], true
}

func (j *judge) all() []int {
	var l []int
	for rest := (&judge{slices.Clone(j.keys), slices.Clone(j.ranks)}); len(rest.keys) > 0; {
		k, _, _ := rest.first()
		rest.drop(k)
		l = append(l, k)
	}
	return l
}

// agree fails the test, if a heap isn't what the judge has, as far as keys below kinds can tell.
func agree(t *testing.T, h *Heap[int, int], j *judge, kinds int) {
	t.Helper()
	if h.Len() != len(j.keys) {
		t.Fatalf("Len: %d of %v", h.Len(), *j)
	}
	for k := range kinds {
		r, is := h.Rank(k)
		if want, has := j.rank(k); r != want || is != has {
			t.Fatalf("Rank(%d): %d, %v of %v", k, r, is, *j)
		}
	}
	k, r, is := h.First()
	if want, rank, has := j.first(); k != want || r != rank || is != has {
		t.Fatalf("First: %d, %d, %v of %v", k, r, is, *j)
	}
	if l := h.All(); !slices.Equal(l, j.all()) {
		t.Fatalf("All: %v of %v", l, *j)
	}
}

// act does one and the same thing to a heap and to the judge: what is below kinds times ranks sets a key, what is past that drops one, and one more pops.
func act(t *testing.T, h *Heap[int, int], j *judge, what, kinds, ranks int) {
	t.Helper()
	switch k := what % kinds; {
	case what < kinds*ranks:
		if had, want := h.Set(k, what/kinds), j.set(k, what/kinds); had != want {
			t.Fatalf("Set(%d, %d): %v of %v", k, what/kinds, had, *j)
		}
	case what < kinds*ranks+kinds:
		if had, want := h.Drop(k), j.drop(k); had != want {
			t.Fatalf("Drop(%d): %v of %v", k, had, *j)
		}
	default:
		want, rank, has := j.first()
		j.drop(want)
		if k, r, is := h.Pop(); k != want || r != rank || is != has {
			t.Fatalf("Pop: %d, %d, %v, and %v is left", k, r, is, *j)
		}
	}
}

// TestAllSmallRuns: every run of up to five sets, drops and pops of three keys with two ranks.
func TestAllSmallRuns(t *testing.T) {
	const kinds, ranks = 3, 2
	over(5, kinds*ranks+kinds+1, func(l []int) {
		h, j := New[int](rising), &judge{}
		for _, what := range l {
			act(t, h, j, what, kinds, ranks)
		}
		agree(t, h, j, kinds)
	})
}

// TestLongRun: a long run of sets, drops and pops that grows and shrinks, each answer held against the judge.
func TestLongRun(t *testing.T) {
	const kinds, ranks = 40, 6
	h, j := New[int](rising), &judge{}
	state := uint32(1)
	next := func(n int) int {
		state = state*1664525 + 1013904223
		return int(state>>8) % n
	}
	for step := range 20000 {
		what := next(kinds * ranks)
		// In every other stretch most things are drops and pops, so that the heap empties.
		if shrinking := step/200%2 == 1; next(4) == 0 != shrinking {
			what = kinds*ranks + next(kinds+4)
		}
		act(t, h, j, what, kinds, ranks)
		agree(t, h, j, kinds)
	}
}

// TestManyKeys: what is popped off a great heap comes by its rank, and by turns where ranks are alike.
func TestManyKeys(t *testing.T) {
	const many = 20000
	h := New[int](rising)
	for k := range many {
		h.Set(k, k*7919%101)
	}
	for k := 0; k < many; k += 3 {
		h.Set(k, k*31%103)
	}
	for k := 0; k < many; k += 5 {
		h.Drop(k)
	}
	set := func(k int) int { return many*(1-min(k%3, 1)) + k }
	key, rank, _ := h.Pop()
	left := h.Len()
	for h.Len() > 0 {
		k, r, _ := h.Pop()
		if r < rank || r == rank && set(k) < set(key) || k%5 == 0 {
			t.Fatalf("%d with %d comes behind %d with %d", k, r, key, rank)
		}
		key, rank = k, r
		left--
	}
	if left != 0 {
		t.Errorf("%d are missing", left)
	}
}
