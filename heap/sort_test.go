package heap

import (
	"slices"
	"strings"
	"testing"
)

// size is how many bytes a word has.
func size(s string) int { return len(s) }

func TestSort(t *testing.T) {
	for _, c := range []struct{ l, want string }{
		{"", ""},
		{"a", "a"},
		{"a a", "a"},
		{"a a a a", "a"},
		{"b a", "b a"},
		{"bb a", "a bb"},
		{"ccc bb a", "a bb ccc"},
		{"a bb ccc", "a bb ccc"},
		{"bb ccc a dd e fff", "a e bb dd ccc fff"},
		{"b a b a", "b a"},
		{"b c a b", "b c a"},
		{"bb c a bb c c", "c a bb"},
	} {
		l := strings.Fields(c.l)
		same := slices.Clone(l)
		got := Sort(l, size, rising)
		if want := strings.Fields(c.want); !slices.Equal(got, want) {
			t.Errorf("Sort(%v): %v, not %v", l, got, want)
		}
		for i := range got {
			got[i] = "z"
		}
		if !slices.Equal(l, same) {
			t.Errorf("what was handed to Sort has changed: %v, not %v", l, same)
		}
	}
}

func TestSortOfNil(t *testing.T) {
	if l := Sort(nil, size, rising); len(l) != 0 {
		t.Errorf("Sort of nil: %v", l)
	}
}

func TestSortWithoutLess(t *testing.T) {
	l := Sort([]string{"ccc", "a", "bb", "a", "ccc"}, size, nil)
	if !slices.Equal(l, []string{"ccc", "a", "bb"}) {
		t.Errorf("each rank is like each other one: %v", l)
	}
}

func TestSortWithoutRank(t *testing.T) {
	for _, less := range []func(a, b int) bool{rising, nil} {
		for _, l := range [][]string{nil, {"a"}, {"b", "a", "b"}} {
			if got := Sort(l, nil, less); len(got) != 0 {
				t.Errorf("Sort(%v) without ranks: %v", l, got)
			}
		}
	}
}

func TestSortKeepsToItsRoom(t *testing.T) {
	room := []int{3, 1, 2, 9, 9}
	got := Sort(room[:3], func(n int) int { return n }, rising)
	got = append(got, 7)
	got[0] = 8
	if !slices.Equal(room, []int{3, 1, 2, 9, 9}) || !slices.Equal(got, []int{8, 2, 3, 7}) {
		t.Errorf("%v, %v", room, got)
	}
}

func TestSortOtherTypes(t *testing.T) {
	type pair struct{ a, b int }
	l := Sort([]pair{{1, 2}, {0, 5}, {1, 1}, {0, 5}, {2, 0}}, func(p pair) string {
		return strings.Repeat("x", p.a)
	}, func(a, b string) bool { return a > b })
	if want := []pair{{2, 0}, {1, 2}, {1, 1}, {0, 5}}; !slices.Equal(l, want) {
		t.Errorf("%v, not %v", l, want)
	}
}

// TestAllSmallSorts: every list of up to six of four keys, of which two have one rank.
func TestAllSmallSorts(t *testing.T) {
	rank := func(k int) int { return []int{2, 1, 2, 0}[k] }
	over(6, 4, func(l []int) {
		same := slices.Clone(l)
		var want []int
		for r := range 3 {
			for _, k := range l {
				if rank(k) == r && !slices.Contains(want, k) {
					want = append(want, k)
				}
			}
		}
		if got := Sort(l, rank, rising); !slices.Equal(got, want) || !slices.Equal(l, same) {
			t.Fatalf("Sort(%v): %v, not %v", l, got, want)
		}
	})
}
