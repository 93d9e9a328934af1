package asre

import (
	"math/rand"
	"slices"
	"strings"
	"testing"

	"whirligig/api"
)

// refused asks whether a text is refused with an error, and nothing beside it.
func refused(t *testing.T, s string, want api.Errno) {
	t.Helper()
	if x, e := Parse(s); x != nil || e != want {
		t.Errorf("Parse(%q): %v %d, not %d", s, x, e, want)
	}
}

func TestParseWrong(t *testing.T) {
	for e, texts := range map[api.Errno][]string{
		api.ErrForm: {
			"*", "+", "?", "|*", "(*)", "^*", "1**", "1*+", "1+?", "1?*", "1* *", "1 ? ?", ".**", "(1)++", "[1]??", "(1*)*+", "|?",
			"^^", "1^", "|^", "(^1)", "$$", "$1", "1$2", "$|", "1$ $", "$^", "^$^", "(1$)", "(1)$(", "$*", "^1$.",
			"(", ")", "((", "(()", "())", ")(", "1)", "(1", "(1|", "(1))", "1|)", "(1|2", "^(", "^)$",
			"[", "]", "[]", "[ ]", "[[", "[]]", "[1", "1]", "[1]]", "[[1]]", "[1[2]]", "[1 ", "[1-", "[1-]", "[-1]", "[-]", "[1--2]", "[1-2-3]", "[1 -]", "[1 - ]", "[1-2", "[1-2 -3]",
			"[.]", "[1.]", "[(1)]", "[1|2]", "[1*]", "[1,2]", "[^1]", "[1$]", "[1-.]", "[1-2", "[1-2 ", "[1)", "([1)]", "[1-(2)]",
			"-", "1-2", "1 - 2", "-1", "1-", "a", "1a", "a1", "1 a", "x|1", ",", "1,2", "_", "1_2", "{1}", "1{2}", "\\", "1\\.", "/", ":", "#", "\"1\"", "'", "<1>", "&", "~", "!1",
			"01", "00", "000", "1 01", "01 1", "[01]", "[1-02]", "[02-1]", "(01)", "0065536", "065536", "01*", "1 00", "[1-00]",
			"\x00", "1\x00", "\x001", "1\x002", "(\x00)", "[\x00]", "[1\x00]", "[1-\x002]", "1\x00*", "^\x00", "$\x00", "\xff", "1\xff", "\t", "1\t2", "\n", "1\n", "1\r2", "\u00a0", "1\u00a02", "\u0661", "[1\t2]", "１",
		},
		api.ErrRange: {
			"0", "65536", "65537", "99999", "100000", "1 0", "0 1", "(0)", "0*", "^0$", "0|1", "1|0", ". 65536", "1 65536",
			"4294967297", "9223372036854775808", "18446744073709551617", strings.Repeat("9", 64), "1 " + strings.Repeat("9", 62),
			"[0]", "[65536]", "[1 0]", "[0 1]", "[0-1]", "[0-0]", "[1-0]", "[1-65536]", "[65536-65537]", "[65536-1]", "[2-1]", "[ 2 - 1 ]", "[65535-1]", "[10-9]", "[1-3 3-1]", "[2-1 5]", "(1|[2-1])", "[1][2-1]",
		},
	} {
		for _, s := range texts {
			refused(t, s, e)
		}
	}
}

// TestFirstFault has texts that are wrong in more than one way.
func TestFirstFault(t *testing.T) {
	deep := strings.Repeat("(", 8) // the eighth bracket begins the ninth choice
	for e, texts := range map[api.Errno][]string{
		api.ErrForm: {
			"a 0", "01 0", "* 0", "1** 0", ") 0", "] 0", "[] 0", "[-0]", "[1--0]", "[1-2-0]", "[.0]", "^^0", "1^0", "1$ $0", "$$0", "-0", "1-0",
			"[01-0]", "[1-01 0]", "[02-01]", "[2-01", "(1] 0", "[1)0", "x" + deep, "01" + deep, ")" + deep, "1**" + deep, "[(" + deep, "(((((((*(", "(((((((01(", "(((((((](", "(((((((a(", "\x000", "$" + deep, "$0", "$65536", "^$0",
		},
		api.ErrRange: {
			"0 a", "0 01", "0 **", "0**", "0)", "0]", "(0", "[0", "[0-", "[0--", "[0-01]", "[2-1", "[2-1 ", "[2-1-", "[2-1 01]", "[65536-a", "[65536-01]", "0$1", "0^", "(((0", "(0**)", "0" + deep, "[2-1]" + deep, "(((((((0(", "(((((((65536(", "(((((((2 [2-1](", "0\x00", "65536a",
		},
		api.ErrLong: {
			deep, deep + "0", deep + "01", deep + "*", deep + "a", deep + ")", deep + "[2-1]", deep + "[", deep + "$", deep + "^", "1" + deep + "0", deep + deep, "(" + deep,
		},
	} {
		for _, s := range texts {
			refused(t, s, e)
		}
	}
}

func TestLength(t *testing.T) {
	blanks := func(many int) string { return strings.Repeat(" ", many) }
	for _, s := range []string{
		strings.Repeat(".", 64), blanks(64), strings.Repeat("|", 64), strings.Repeat("()", 32), strings.Repeat("1*", 32), strings.Repeat("1 ", 32),
		"^" + blanks(63), blanks(63) + "$", "^" + blanks(62) + "$", "[1" + blanks(61) + "]", "(" + blanks(62) + ")", "1" + blanks(58) + "65535",
	} {
		expr(t, s)
		refused(t, s+" ", api.ErrLong)
		refused(t, s+".", api.ErrLong)
		refused(t, " "+s, api.ErrLong)
	}
	for _, c := range []struct {
		unit string
		e    api.Errno // of 64 bytes
	}{
		{"0", api.ErrForm}, {"a", api.ErrForm}, {"*", api.ErrForm}, {"(", api.ErrLong}, {"[2-1]", api.ErrRange}, {"01", api.ErrForm}, {"\x00", api.ErrForm}, {"\xff", api.ErrForm}, {"9", api.ErrRange}, {")", api.ErrForm},
	} {
		s := strings.Repeat(c.unit, 100000)
		refused(t, s[:64], c.e)
		refused(t, s[:65], api.ErrLong)
		refused(t, s, api.ErrLong)
	}
	refused(t, expr(t, strings.Repeat(".", 33)).Text(), api.ErrLong) // a plain text may be longer than the text
	expr(t, expr(t, strings.Repeat(".", 32)).Text())
}

// within is a choice of a text, and so many choices in one another in all: the outermost one, the expression's own, has no brackets.
func within(choices int, s string) string {
	return strings.Repeat("(", choices-1) + s + strings.Repeat(")", choices-1)
}

func TestDepth(t *testing.T) {
	for _, s := range []string{"", "1", "1|2", ".*", "[1 2-3]"} {
		for choices := 1; choices <= 8; choices++ {
			for _, text := range []string{within(choices, s), "^" + within(choices, s) + "$", "1|" + within(choices, s)} {
				if got := expr(t, text).Text(); got != text {
					t.Errorf("Text of %q: %q", text, got)
				}
			}
		}
		for choices := 9; choices <= 28; choices++ {
			text := within(choices, s)
			for _, wrong := range []string{text, "^" + text + "$", "1|" + text, text + "*", text + ")"} {
				refused(t, wrong, api.ErrLong)
			}
		}
	}
	for brackets := 1; brackets <= 7; brackets++ {
		refused(t, strings.Repeat("(", brackets), api.ErrForm)
	}
	for brackets := 8; brackets <= 64; brackets++ {
		refused(t, strings.Repeat("(", brackets), api.ErrLong)
		refused(t, strings.Repeat("( ", brackets), api.ErrLong)
	}
}

// TestDepthSideBySide has choices beside others: one that is shut counts no more.
func TestDepthSideBySide(t *testing.T) {
	for _, s := range []string{
		within(8, "1") + "|" + within(8, "2"), within(8, "1") + " " + within(8, "2"), within(7, "() () ()"), within(1, "() () () () () () () () ()"),
		"(((((((1)*)+)?)*)+)?)*", "(1 (2 (3 (4 (5 (6 (7 [8])))))))", "1|(2|(3|(4|(5|(6|(7|(8)))))))",
	} {
		if got := expr(t, s).Text(); got != s {
			t.Errorf("Text of %q: %q", s, got)
		}
	}
	for _, s := range []string{
		within(8, "1") + within(9, "2"), within(9, "1") + within(8, "2"), within(8, "1|(2)"), within(8, "1)((2)"),
		"((((((((1)*)+)?)*)+)?)*)+", "(1 (2 (3 (4 (5 (6 (7 (8))))))))", "1|(2|(3|(4|(5|(6|(7|(8|(9))))))))",
	} {
		refused(t, s, api.ErrLong)
	}
	refused(t, "((((((()(", api.ErrForm)
	refused(t, "((((((()()(", api.ErrForm)
}

func TestNumbersAtEdges(t *testing.T) {
	for _, c := range []struct {
		s string
		e api.Errno
	}{
		{"0", api.ErrRange}, {"1", api.OK}, {"2", api.OK}, {"65534", api.OK}, {"65535", api.OK}, {"65536", api.ErrRange}, {"01", api.ErrForm}, {"065535", api.ErrForm},
	} {
		for _, around := range [][2]string{{"", ""}, {"^", "$"}, {"(", ")"}, {"[", "]"}, {"[", "-65535]"}, {"[1-", "]"}, {"[1 ", " 1]"}, {"1 ", " 1"}, {"", "*"}, {".", "."}, {"|", "|"}} {
			s := around[0] + c.s + around[1]
			if x, e := Parse(s); e != c.e || (x == nil) != (e != api.OK) {
				t.Errorf("Parse(%q): %v %d, not %d", s, x, e, c.e)
			}
		}
	}
}

// TestBlanks puts a blank, or some, at each place.
func TestBlanks(t *testing.T) {
	for _, s := range []string{"^65000 .*$", "(1|2)+ 3", "[10-20 30]?|()", "^$", "^(([7]))*|12$", ""} {
		plain := expr(t, s).Text()
		for i := range len(s) + 1 {
			if i > 0 && i < len(s) && isNumber(s[i-1:]) && isNumber(s[i:]) {
				continue
			}
			for _, blanks := range []string{" ", "  ", "     "} {
				text := s[:i] + blanks + s[i:]
				if got := expr(t, text).Text(); got != plain {
					t.Errorf("Text of %q: %q, not %q", text, got, plain)
				}
			}
		}
	}
	if one, two := expr(t, "12").Size(), expr(t, "1 2").Size(); one != 1 || two != 2 {
		t.Error("with and without a blank:", two, one)
	}
	refused(t, "6 5 0 0 0", api.ErrRange)
}

// What may stand next in a text.
const (
	begin   = iota // also `^`
	items          // no `*`
	behind         // behind an atom
	members        // behind `[`
	member         // behind a number of a set
	dash           // behind `-`
	pair           // behind the second number
	over           // behind `$`
)

// judge is the first fault of a text, by what may stand next: another way than Parse's.
func judge(s string) api.Errno {
	if len(s) > 64 {
		return api.ErrLong
	}
	state, choices, from := begin, 1, 0
	for i := 0; i < len(s); i++ {
		inRow := state <= behind
		switch c := s[i]; {
		case c == ' ':
		case c == '^' && state == begin:
			state = items
		case c == '$' && inRow && choices == 1:
			state = over
		case c == '|' && inRow:
			state = items
		case c == '.' && inRow:
			state = behind
		case c == '(' && inRow && choices == 8:
			return api.ErrLong
		case c == '(' && inRow:
			state = items
			choices++
		case c == ')' && inRow && choices > 1:
			state = behind
			choices--
		case strings.ContainsRune("*+?", rune(c)) && state == behind:
			state = items
		case c == '[' && inRow:
			state = members
		case c == ']' && (state == member || state == pair):
			state = behind
		case c == '-' && state == member:
			state = dash
		case c >= '0' && c <= '9' && state != over:
			end := i
			as := 0
			for ; end < len(s) && isNumber(s[end:]); end++ {
				as = min(10*as+int(s[end]-'0'), 1<<20)
			}
			if c == '0' && end > i+1 {
				return api.ErrForm
			}
			if as < 1 || as > 65535 || state == dash && as < from {
				return api.ErrRange
			}
			switch {
			case inRow:
				state = behind
			case state == dash:
				state = pair
			default:
				state, from = member, as
			}
			i = end - 1
		default:
			return api.ErrForm
		}
	}
	if choices > 1 || state == members || state == member || state == dash || state == pair {
		return api.ErrForm
	}
	return api.OK
}

// judged asks whether Parse answers what judge does.
func judged(t *testing.T, s string) {
	t.Helper()
	want := judge(s)
	if x, e := Parse(s); e != want || (x != nil) != (want == api.OK) {
		t.Fatalf("Parse(%q): %v %d, not %d", s, x, e, want)
	}
}

func TestParseOfAllSmallTexts(t *testing.T) {
	var grow func(s, bytes string, more int)
	grow = func(s, bytes string, more int) {
		judged(t, s)
		for i := range len(bytes) {
			if more > 0 {
				grow(s+bytes[i:i+1], bytes, more-1)
			}
		}
	}
	grow("", "^$|*.[]()-120 ", 5)
	grow("", "[]-012 ", 7)
	grow("", "()|+1^$", 7)
	grow("((((((", "()0*1", 6)
	grow(strings.Repeat(" ", 62), "()1*$x", 4)
	grow("6553", "0123456789 ]", 3)
}

func TestParseOfAllBytes(t *testing.T) {
	for b := range 256 {
		s := string([]byte{byte(b)})
		for _, around := range [][2]string{{"", ""}, {"1", ""}, {"", "1"}, {"1", "1"}, {"(", ")"}, {"[", "]"}, {"[1", "]"}, {"[1", "2]"}, {"[1-", "2]"}, {"^", "$"}, {"1*", ""}, {"$", ""}, {"|", "|"}} {
			judged(t, around[0]+s+around[1])
		}
	}
}

// TestParseOfChanged has expressions' texts in which a few bytes are others, too many, or lack.
func TestParseOfChanged(t *testing.T) {
	r := rand.New(rand.NewSource(2))
	const bytes = "^$|*+?.[]()-0123456789 a\x00\xff"
	wrong := 0
	for range 100000 {
		s := []byte(write(r, drawChoice(r, 1+r.Intn(3), 70000).words, r.Intn(2)))
		for range r.Intn(4) {
			if i := r.Intn(len(s) + 1); i < len(s) {
				s = slices.Delete(s, i, i+r.Intn(2))
			}
			if i := r.Intn(len(s) + 1); r.Intn(2) == 0 {
				s = slices.Insert(s, i, bytes[r.Intn(len(bytes))])
			}
		}
		judged(t, string(s))
		if judge(string(s)) != api.OK {
			wrong++
		}
	}
	if wrong < 20000 || wrong > 80000 {
		t.Error("too few are right, or wrong:", wrong)
	}
}

func TestParseMakesNew(t *testing.T) {
	x, y := expr(t, "1 2"), expr(t, "1 2")
	if x == y {
		t.Error("one expression, twice")
	}
}
