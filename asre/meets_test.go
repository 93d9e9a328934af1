package asre

import (
	"math"
	"math/rand"
	"regexp"
	"slices"
	"strings"
	"testing"

	"whirligig/api"
	"whirligig/aspath"
)

// path is the path of a text that is one.
func path(t *testing.T, s string) []int {
	t.Helper()
	p, e := aspath.Parse(s)
	if e != api.OK {
		t.Fatalf("aspath.Parse(%q): %d", s, e)
	}
	return p
}

func TestMeets(t *testing.T) {
	sixteen := "1 2 3 4 5 6 7 8 9 10 11 12 13 14 15 16"
	for _, c := range []struct {
		s       string
		met, no []string
	}{
		{"^65000 .*$", []string{"65000", "65000 1", "65000 1 2", "65000 65000"}, []string{"", "1", "1 65000", "1 65000 1"}},
		{"(1|2)+ 3", []string{"7 1 2 3 9", "1 3", "2 3", "2 2 3", "3 3 1 3"}, []string{"", "3", "1 2", "1 4 3", "3 1", "12 3"}},
		{"", []string{"", "1", "1 2", sixteen}, nil},
		{"^", []string{"", "1", "1 2", sixteen}, nil},
		{"$", []string{"", "1", "1 2", sixteen}, nil},
		{"^$", []string{""}, []string{"1", "65535", "1 2", sixteen}},
		{"^|$", []string{""}, []string{"1", "1 2", sixteen}},
		{"^()$", []string{""}, []string{"1", "1 2"}},
		{"1", []string{"1", "1 2", "2 1", "2 1 2"}, []string{"", "2", "11", "10", "2 3"}},
		{"^1", []string{"1", "1 2", "1 1"}, []string{"", "2", "2 1", "2 1 2"}},
		{"1$", []string{"1", "2 1", "1 1"}, []string{"", "2", "1 2", "2 1 2"}},
		{"^1$", []string{"1"}, []string{"", "2", "1 2", "2 1", "1 1"}},
		{"1|", []string{"", "1", "2"}, nil},
		{"^1|2$", []string{"1", "2"}, []string{"", "1 3", "3 2", "1 2", "3"}},
		{".", []string{"1", "65535", "1 2"}, []string{""}},
		{"^.$", []string{"1", "65535"}, []string{"", "1 2"}},
		{"^. .$", []string{"1 2", "2 2"}, []string{"", "1", "1 2 3"}},
		{"[2-4]", []string{"2", "3", "4", "1 3", "5 2"}, []string{"", "1", "5", "1 5", "23"}},
		{"^[2-4 9 20-20]$", []string{"2", "3", "4", "9", "20"}, []string{"", "1", "5", "8", "10", "19", "21", "2 3", "29"}},
		{"^[65535]$", []string{"65535"}, []string{"65534", "1"}},
		{"^[1-65535]$", []string{"1", "2", "65535"}, []string{"", "1 1"}},
		{"^1*$", []string{"", "1", "1 1", "1 1 1 1 1 1 1 1 1 1 1 1 1 1 1 1"}, []string{"2", "1 2", "2 1", "1 2 1"}},
		{"^1+$", []string{"1", "1 1", "1 1 1 1 1 1 1 1 1 1 1 1 1 1 1 1"}, []string{"", "2", "1 2", "2 1"}},
		{"^1?$", []string{"", "1"}, []string{"1 1", "2", "1 2"}},
		{"^(1 2)*$", []string{"", "1 2", "1 2 1 2", "1 2 1 2 1 2 1 2 1 2 1 2 1 2 1 2"}, []string{"1", "2", "1 2 1", "2 1", "1 1 2 2"}},
		{"^(1 2)+3$", []string{"1 2 3", "1 2 1 2 3"}, []string{"3", "1 2", "1 3", "1 2 2 3"}},
		{"^(1 2)?3$", []string{"3", "1 2 3"}, []string{"1 2", "1 3", "1 2 1 2 3", ""}},
		{"^(1?)+$", []string{"", "1", "1 1 1"}, []string{"2", "1 2"}},
		{"^(1*)*2$", []string{"2", "1 2", "1 1 1 2"}, []string{"", "1", "2 1"}},
		{"^()*1$", []string{"1"}, []string{"", "1 1"}},
		{"^()+$", []string{""}, []string{"1"}},
		{"^(1|1 2)(2 3|3)$", []string{"1 2 3", "1 3", "1 2 2 3"}, []string{"1 2", "2 3", "1 2 2", "1 2 2 2 3"}},
		{"^.* 5 .*$", []string{"5", "1 5", "5 1", "1 5 1", "5 5"}, []string{"", "1", "15", "50"}},
		{"1 .* 2", []string{"1 2", "1 9 2", "2 1 9 9 2 1"}, []string{"2 1", "1", "2", "2 9 1"}},
		{"2 2", []string{"2 2", "1 2 2 1", "2 2 2"}, []string{"2", "2 1 2", "22"}},
		{"^1 2 3 4 5 6 7 8 9 10 11 12 13 14 15 16$", []string{sixteen}, []string{"", "1", "1 2 3 4 5 6 7 8 9 10 11 12 13 14 15"}},
		{"16$", []string{sixteen, "16"}, []string{"16 1", "1"}},
		{"^. . . . . . . . . . . . . . . . .$", nil, []string{"", "1", sixteen}},
		{".................", nil, []string{"", "1", sixteen}},
	} {
		x := expr(t, c.s)
		for _, s := range c.met {
			if !x.Meets(path(t, s)) {
				t.Errorf("%q isn't met by %q", c.s, s)
			}
		}
		for _, s := range c.no {
			if x.Meets(path(t, s)) {
				t.Errorf("%q is met by %q", c.s, s)
			}
		}
	}
}

func TestWhole(t *testing.T) {
	for _, c := range []struct {
		s, p string
		want bool
	}{
		{"", "", true}, {"", "1", false}, {"^", "", true}, {"^", "1", false}, {"$", "1", false}, {"^$", "", true}, {"^$", "1", false},
		{"1", "1", true}, {"1", "1 2", false}, {"1", "2 1", false}, {"^1", "1", true}, {"^1", "1 2", false}, {"1$", "2 1", false}, {"1$", "1", true},
		{"1|", "", true}, {"1|", "1", true}, {"1|", "2", false}, {".*", "1 2 3 4 5 6 7 8 9 10 11 12 13 14 15 16", true}, {".", "", false},
		{"(1|2)+ 3", "1 2 3", true}, {"(1|2)+ 3", "7 1 2 3 9", false}, {"^65000 .*$", "65000 1 2", true}, {"1 2", "1 2", true}, {"1 2", "2 1", false},
	} {
		if got := expr(t, c.s).Whole(path(t, c.p)); got != c.want {
			t.Errorf("Whole of %q, %q: %v", c.s, c.p, got)
		}
	}
}

func TestNoPathMeets(t *testing.T) {
	for _, s := range []string{"", "^", "$", ".", ".*", ".+", "1", "1*", "1|", "[1-65535]*", "^.*$", "()"} {
		x := expr(t, s)
		for _, p := range noPaths() {
			if x.Meets(p) || x.Whole(p) {
				t.Errorf("%q is met by %d numbers that are no path: %v", s, len(p), p[:min(len(p), 17)])
			}
		}
	}
}

// TestMeetsAsRegexp holds drawn expressions against regular expressions over runes.
func TestMeetsAsRegexp(t *testing.T) {
	r := rand.New(rand.NewSource(3))
	all := lists(3, 4)
	met, asked := 0, 0
	for range 5000 {
		d := drawShort(r, 4, 62)
		from, to := []string{"", "^"}[r.Intn(2)], []string{"", "$"}[r.Intn(2)]
		x := expr(t, from+d.plain+to)
		whole := regexp.MustCompile(`(?s)\A(?:` + d.regexp + `)\z`)
		part := regexp.MustCompile(`(?s)` + strings.Replace(from, "^", `\A`, 1) + `(?:` + d.regexp + `)` + strings.Replace(to, "$", `\z`, 1))
		paths := slices.Clone(all)
		for range 20 {
			p := make([]int, 4+r.Intn(13))
			for i := range p {
				p[i] = 1 + r.Intn(1+r.Intn(4))
			}
			paths = append(paths, p)
		}
		for _, p := range paths {
			if got, want := x.Whole(p), whole.MatchString(runes(p)); got != want {
				t.Fatalf("Whole of %q, %v: %v", x.Text(), p, got)
			}
			want := part.MatchString(runes(p))
			if got := x.Meets(p); got != want {
				t.Fatalf("Meets of %q, %v: %v", x.Text(), p, got)
			}
			asked++
			if want {
				met++
			}
		}
	}
	if met < asked/10 || met > asked*9/10 {
		t.Errorf("%d of %d are met", met, asked)
	}
}

// TestPlainTextIsMetBySame asks for what follows: the text, its blanks aside, is the same expression.
func TestPlainTextIsMetBySame(t *testing.T) {
	r := rand.New(rand.NewSource(4))
	all := lists(4, 3)
	for range 3000 {
		d := drawShort(r, 3, 60)
		s := write(r, slices.Concat([]string{"^"}[:r.Intn(2)], d.words, []string{"$"}[:r.Intn(2)]), 1)
		if len(s) > 64 {
			continue
		}
		x := expr(t, s)
		y := expr(t, x.Text())
		if x.Text() != y.Text() || x.Size() != y.Size() {
			t.Fatalf("%q: %q %d, %q %d", s, x.Text(), x.Size(), y.Text(), y.Size())
		}
		for _, p := range all {
			if x.Meets(p) != y.Meets(p) || x.Whole(p) != y.Whole(p) {
				t.Fatalf("%q and %q aren't met alike by %v", s, x.Text(), p)
			}
		}
	}
}

// TestChoiceOfTwo asks for what follows, and that what meets one of both meets the choice.
func TestChoiceOfTwo(t *testing.T) {
	r := rand.New(rand.NewSource(5))
	all := lists(4, 3)
	for range 3000 {
		a, b := drawShort(r, 3, 26).plain, drawShort(r, 3, 26).plain
		from, to := []string{"", "^"}[r.Intn(2)], []string{"", "$"}[r.Intn(2)]
		x, y := expr(t, from+a+to), expr(t, from+b+to)
		for _, s := range []string{a + "|" + b, "(" + a + ")|(" + b + ")", "((" + a + ")|" + b + ")", b + "|" + a} {
			both := expr(t, from+s+to)
			for _, p := range all {
				if both.Meets(p) != (x.Meets(p) || y.Meets(p)) || both.Whole(p) != (x.Whole(p) || y.Whole(p)) {
					t.Fatalf("%q isn't met by what %q or %q is: %v", s, a, b, p)
				}
			}
		}
	}
}

func TestLeast(t *testing.T) {
	for _, c := range []struct {
		s    string
		most int
		want string
		ok   bool
	}{
		{"(1|2)+ 3", 9, "1 3", true}, {"(1|2)+ 3", 2, "1 3", true}, {"(1|2)+ 3", 1, "", false}, {"(2|1)+ 3", 2, "1 3", true},
		{"", 0, "", true}, {"", -1, "", true}, {"", math.MinInt, "", true}, {"", 16, "", true}, {"", math.MaxInt, "", true}, {"^$", 3, "", true},
		{"1*", 0, "", true}, {"1*", 5, "", true}, {"1?", 5, "", true}, {"1|", 5, "", true}, {"|1", -7, "", true}, {"()", 0, "", true}, {"(1?)+", 4, "", true},
		{"1", 0, "", false}, {"1", -1, "", false}, {"1", math.MinInt, "", false}, {"1", 1, "1", true}, {"1", 16, "1", true}, {"1", 17, "1", true}, {"1", math.MaxInt, "1", true},
		{"65535", 1, "65535", true}, {".", 1, "1", true}, {".+", 1, "1", true}, {". .", 2, "1 1", true}, {"7+", 3, "7", true}, {"(1 2)+", 1, "", false}, {"(1 2)+", 2, "1 2", true},
		{"[5 3-4 9]", 1, "3", true}, {"[9 5]", 1, "5", true}, {"[3-9 2-4]", 1, "2", true}, {"[65535]", 1, "65535", true}, {"[7-7 8]", 1, "7", true},
		{"1 1|2", 16, "2", true}, {"2|1 1", 16, "2", true}, {"3|2", 16, "2", true}, {"10|9", 16, "9", true}, {"1 3|1 2", 16, "1 2", true}, {"2 1|1 2", 16, "1 2", true}, {"1 1|2", 1, "2", true},
		{"^5", 1, "5", true}, {"5$", 1, "5", true}, {"^5", 0, "", false}, {"1* 2", 3, "2", true}, {"1? 2 1*", 3, "2", true}, {"(3|1 1)(2|1 1)", 9, "3 2", true},
		{"(1|2 2)(3|1)*(4+|.)", 9, "1 1", true}, {"1 2|3 4|1 1 1", 1, "", false}, {"1 2|3 4|1 1 1", 2, "1 2", true},
		{"................", 16, "1 1 1 1 1 1 1 1 1 1 1 1 1 1 1 1", true}, {"................", 15, "", false}, {"................", 99, "1 1 1 1 1 1 1 1 1 1 1 1 1 1 1 1", true},
		{".................", 16, "", false}, {".................", 17, "", false}, {".................", math.MaxInt, "", false},
		{".................|9 9", 99, "9 9", true}, {"9 9|.................", 1, "", false}, {".................|................+", 20, "1 1 1 1 1 1 1 1 1 1 1 1 1 1 1 1", true},
		{strings.Repeat(".", 64), 64, "", false}, {"(" + strings.Repeat(".", 30) + ")*7", 64, "7", true}, {"(" + strings.Repeat(".", 30) + ")+7", 64, "", false},
	} {
		p, ok := expr(t, c.s).Least(c.most)
		if ok != c.ok || !slices.Equal(p, path(t, c.want)) {
			t.Errorf("Least(%d) of %q: %v %v, not %q %v", c.most, c.s, p, ok, c.want, c.ok)
		}
	}
}

// TestLeastOfAll looks for the least one among all paths of a few numbers.
func TestLeastOfAll(t *testing.T) {
	r := rand.New(rand.NewSource(6))
	all := lists(5, 3)
	var found [6]int
	for range 4000 {
		x := expr(t, drawShort(r, 3, 64).plain)
		i := slices.IndexFunc(all, x.Whole)
		for most := -1; most <= 5; most++ {
			p, ok := x.Least(most)
			if i < 0 || len(all[i]) > max(most, 0) {
				if ok || len(p) != 0 {
					t.Fatalf("Least(%d) of %q: %v %v", most, x.Text(), p, ok)
				}
				continue
			}
			if !ok || !slices.Equal(p, all[i]) {
				t.Fatalf("Least(%d) of %q: %v %v, not %v", most, x.Text(), p, ok, all[i])
			}
		}
		if i >= 0 {
			found[len(all[i])]++
		}
	}
	for many, times := range found[:4] {
		if times < 20 {
			t.Errorf("%d are as long as %d", times, many)
		}
	}
}

// TestLeastMeets asks whether what Least tells is a path that meets the choice, where there are too many to ask all.
func TestLeastMeets(t *testing.T) {
	r := rand.New(rand.NewSource(7))
	for range 20000 {
		x := expr(t, drawShort(r, 65535, 64).plain)
		p, ok := x.Least(16)
		if ok && (!aspath.May(p) || !x.Whole(p) || !x.Meets(p)) || !ok && len(p) != 0 {
			t.Fatalf("Least of %q: %v %v", x.Text(), p, ok)
		}
		if q, is := x.Least(len(p) - 1); is && len(p) > 0 {
			t.Fatalf("Least of %q: %v is shorter than %v", x.Text(), q, p)
		}
	}
}

// TestNothingIsChanged asks whether paths stay as they are, and expressions too, whatever is done to what they answer.
func TestNothingIsChanged(t *testing.T) {
	for _, s := range []string{"(1|2)+ 3", "5", ".", "[4 2-3] .", "^1 2$", "((7))"} {
		x := expr(t, s)
		text, size := x.Text(), x.Size()
		p := []int{7, 1, 2, 3, 9, 5, 1, 2}
		kept := slices.Clone(p)
		met, whole := x.Meets(p[:5]), x.Whole(p[:5])
		least, ok := x.Least(16)
		if !ok {
			t.Fatalf("Least of %q: none", s)
		}
		want := slices.Clone(least)
		for i := range least[:cap(least)] {
			least[:cap(least)][i] = 40000
		}
		again, _ := x.Least(16)
		if !slices.Equal(again, want) || x.Text() != text || x.Size() != size || x.Meets(p[:5]) != met || x.Whole(p[:5]) != whole {
			t.Errorf("%q is another one: %q %v", s, x.Text(), again)
		}
		if !slices.Equal(p, kept) {
			t.Errorf("%q changed the path: %v", s, p)
		}
	}
}

// TestNestedEnds asks expressions whose parts could be gone over again and again.
func TestNestedEnds(t *testing.T) {
	ones := slices.Repeat([]int{1}, 16)
	for _, s := range []string{"(((((((.*)*)*)*)*)*)*)* 2", "(((((((.+)+)+)+)+)+)+)+ 2", "(((((((1?)*)+)*)+)*)+)* 2", "(((.*.*)*(.*.*)*)*((.*.*)*(.*.*)*)*)* 2", "(((((((|1)*)*)*)*)*)*)* 2"} {
		x := expr(t, s)
		two := append(slices.Clone(ones[:15]), 2)
		if x.Meets(ones) || x.Whole(ones) || !x.Meets(two) || !x.Whole(two) {
			t.Errorf("%q", s)
		}
	}
}
