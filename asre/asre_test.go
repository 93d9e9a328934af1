package asre

import (
	"math"
	"math/rand"
	"slices"
	"strconv"
	"strings"
	"testing"

	"whirligig/api"
)

// expr is the expression of a text that is one.
func expr(t *testing.T, s string) *Expr {
	t.Helper()
	x, e := Parse(s)
	if e != api.OK || x == nil {
		t.Fatalf("Parse(%q): %v %d", s, x, e)
	}
	return x
}

// noPaths is lists that are no paths.
func noPaths() [][]int {
	l := [][]int{slices.Repeat([]int{1}, 17), slices.Repeat([]int{1}, 31), slices.Repeat([]int{1}, 32), slices.Repeat([]int{1}, 1000)}
	for _, as := range []int{0, -1, 65536, 65537, 1<<32 + 1, math.MinInt, math.MaxInt} {
		l = append(l, []int{as}, []int{1, as}, []int{as, 1}, []int{1, as, 1}, append(slices.Repeat([]int{1}, 15), as))
	}
	return l
}

// lists is all lists of at most so many numbers up to the greatest, the least one first (layer 4's order).
func lists(many, greatest int) [][]int {
	all := [][]int{nil}
	last := all
	for range many {
		var next [][]int
		for _, p := range last {
			for as := 1; as <= greatest; as++ {
				next = append(next, append(slices.Clone(p), as))
			}
		}
		all = append(all, next...)
		last = next
	}
	return all
}

// drawn is a drawn expression, or a piece of one, and what is known of it.
type drawn struct {
	words  []string // its tokens
	plain  string
	regexp string // the same over runes, that of a number being the number
	size   int
}

// add puts another one behind, with something between in the plain text.
func (d drawn) add(between string, e drawn) drawn {
	return drawn{slices.Concat(d.words, e.words), d.plain + between + e.plain, d.regexp + e.regexp, d.size + e.size}
}

// token is a drawn thing of one token.
func token(s, regexp string) drawn { return drawn{words: []string{s}, plain: s, regexp: regexp} }

// code is a number in a regular expression.
func code(as int) string { return `\x{` + strconv.FormatInt(int64(as), 16) + `}` }

// runes is a path as a text that regular expressions over runes are asked of.
func runes(p []int) string {
	var b strings.Builder
	for _, as := range p {
		b.WriteRune(rune(as))
	}
	return b.String()
}

// drawSet draws a set.
func drawSet(r *rand.Rand, greatest int) drawn {
	d := token("[", "[")
	for i := range 1 + r.Intn(3) {
		from := 1 + r.Intn(greatest)
		part := token(strconv.Itoa(from), code(from))
		if r.Intn(2) == 0 {
			to := from + r.Intn(greatest+1-from)
			part = part.add("", token("-", "-")).add("", token(strconv.Itoa(to), code(to)))
		}
		d = d.add([]string{"", " "}[min(i, 1)], part)
	}
	d = d.add("", token("]", "]"))
	d.size = 1
	return d
}

// drawAtom draws an atom.
func drawAtom(r *rand.Rand, deep, greatest int) drawn {
	switch k := r.Intn(8); {
	case k == 0:
		d := token(".", ".")
		d.size = 1
		return d
	case k == 1:
		return drawSet(r, greatest)
	case k <= 4 && deep > 0:
		return token("(", "(?:").add("", drawChoice(r, deep-1, greatest)).add("", token(")", ")"))
	}
	as := 1 + r.Intn(greatest)
	d := token(strconv.Itoa(as), code(as))
	d.size = 1
	return d
}

// drawRow draws a row.
func drawRow(r *rand.Rand, deep, greatest int) drawn {
	var d drawn
	for i := range r.Intn(4) {
		item := drawAtom(r, deep, greatest)
		if k := r.Intn(6); k < 3 {
			mark := []string{"*", "+", "?"}[k]
			item = item.add("", token(mark, mark))
		}
		d = d.add([]string{"", " "}[min(i, 1)], item)
	}
	return d
}

// drawChoice draws a choice.
func drawChoice(r *rand.Rand, deep, greatest int) drawn {
	d := drawRow(r, deep, greatest)
	for range r.Intn(3) {
		d = d.add("", token("|", "|")).add("", drawRow(r, deep, greatest))
	}
	return d
}

// drawShort draws a choice whose plain text has at most so many bytes.
func drawShort(r *rand.Rand, greatest, most int) drawn {
	for {
		if d := drawChoice(r, 1+r.Intn(3), greatest); len(d.plain) <= most {
			return d
		}
	}
}

// isNumber tells whether a token is a number.
func isNumber(word string) bool { return word[0] >= '0' && word[0] <= '9' }

// write is tokens as a text, with some blanks between, at least one where it must stand.
func write(r *rand.Rand, words []string, most int) string {
	text := strings.Repeat(" ", r.Intn(most+1))
	for i, w := range words {
		if i > 0 && isNumber(words[i-1]) && isNumber(w) {
			text += " "
		}
		text += w + strings.Repeat(" ", r.Intn(most+1))
	}
	return text
}

func TestTextAndSize(t *testing.T) {
	for _, c := range []struct {
		s, plain string
		size     int
	}{
		{"", "", 0}, {" ", "", 0}, {"   ", "", 0}, {strings.Repeat(" ", 64), "", 0},
		{"^", "^", 0}, {"$", "$", 0}, {"^$", "^$", 0}, {" ^ $ ", "^$", 0}, {"^ $", "^$", 0},
		{"|", "|", 0}, {"||", "||", 0}, {" | | ", "||", 0}, {"^|$", "^|$", 0}, {"1|", "1|", 1}, {"|1", "|1", 1}, {"1||2", "1||2", 2},
		{"()", "()", 0}, {"( )", "()", 0}, {"()()", "() ()", 0}, {"(())", "(())", 0}, {"(|)", "(|)", 0}, {"()*", "()*", 0}, {"( | ) ?", "(|)?", 0},
		{"1", "1", 1}, {"65535", "65535", 1}, {" 1 ", "1", 1}, {"1 2", "1 2", 2}, {"12", "12", 1}, {"1  2", "1 2", 2}, {"10", "10", 1},
		{".", ".", 1}, {"..", ". .", 2}, {". .", ". .", 2}, {"1.2", "1 . 2", 3}, {".*", ".*", 1}, {". *", ".*", 1}, {".*.+.?", ".* .+ .?", 3},
		{"1*", "1*", 1}, {"1 +", "1+", 1}, {"1 ?2", "1? 2", 2}, {"1*2", "1* 2", 2}, {"(1*)*", "(1*)*", 1}, {"((1)+)?", "((1)+)?", 1},
		{"[1]", "[1]", 1}, {"[1 2]", "[1 2]", 1}, {"[12]", "[12]", 1}, {"[ 1   2 ]", "[1 2]", 1}, {"[1-1]", "[1-1]", 1}, {"[1-65535]", "[1-65535]", 1},
		{"[ 1 - 3 5 ]", "[1-3 5]", 1}, {"[1-3 5-7]", "[1-3 5-7]", 1}, {"[3 1 3 1]", "[3 1 3 1]", 1}, {"[5 1-9 5]", "[5 1-9 5]", 1}, {"[1][2]", "[1] [2]", 2},
		{"[1]*", "[1]*", 1}, {"[1 2] +", "[1 2]+", 1}, {"1[2]3", "1 [2] 3", 3}, {"(1)2(3)", "(1) 2 (3)", 3}, {"(1 2)|(3)", "(1 2)|(3)", 3},
		{"^65000 .*$", "^65000 .*$", 2}, {"(1|2)+ 3", "(1|2)+ 3", 3}, {"^ 65000.* $", "^65000 .*$", 2}, {"^1 2|3$", "^1 2|3$", 3},
		{"^((1|2)* [3-4 5]?)+.$", "^((1|2)* [3-4 5]?)+ .$", 4}, {"( 1 | 2 3 | )", "(1|2 3|)", 3},
		{strings.Repeat(".", 64), strings.Repeat(". ", 63) + ".", 64}, {strings.Repeat("|", 64), strings.Repeat("|", 64), 0},
	} {
		x := expr(t, c.s)
		if got := x.Text(); got != c.plain {
			t.Errorf("Text of %q: %q, not %q", c.s, got, c.plain)
		}
		if got := x.Size(); got != c.size {
			t.Errorf("Size of %q: %d, not %d", c.s, got, c.size)
		}
	}
}

func TestTextAndSizeOfDrawn(t *testing.T) {
	r := rand.New(rand.NewSource(1))
	asked := 0
	for range 30000 {
		d := drawShort(r, 12, 60)
		if r.Intn(3) == 0 {
			d = token("^", "").add("", d)
		}
		if r.Intn(3) == 0 {
			d = d.add("", token("$", ""))
		}
		s := write(r, d.words, r.Intn(3))
		if len(s) > 64 {
			continue
		}
		asked++
		x := expr(t, s)
		if got := x.Text(); got != d.plain {
			t.Fatalf("Text of %q: %q, not %q", s, got, d.plain)
		}
		if got := x.Size(); got != d.size {
			t.Fatalf("Size of %q: %d, not %d", s, got, d.size)
		}
		if got := expr(t, d.plain).Text(); got != d.plain {
			t.Fatalf("Text of the plain text %q: %q", d.plain, got)
		}
	}
	if asked < 10000 {
		t.Error("too few were short enough:", asked)
	}
}

func TestNil(t *testing.T) {
	var x *Expr
	if x.Text() != "" || x.Size() != 0 {
		t.Errorf("nil: %q %d", x.Text(), x.Size())
	}
	for _, p := range append(lists(2, 2), noPaths()...) {
		if x.Meets(p) || x.Whole(p) {
			t.Errorf("nil is met by %v", p)
		}
	}
	for _, most := range []int{math.MinInt, -1, 0, 1, 16, 17, math.MaxInt} {
		if p, ok := x.Least(most); len(p) != 0 || ok {
			t.Errorf("Least(%d) of nil: %v %v", most, p, ok)
		}
	}
}
