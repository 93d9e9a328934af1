package lex

import (
	"math"
	"slices"
	"strings"
	"testing"
	"unsafe"

	"whirligig/api"
)

func TestJoin(t *testing.T) {
	word := func(s string) Token { return Token{Kind: Word, S: s} }
	text := func(s string) Token { return Token{Kind: Text, S: s} }
	mark := func(s string) Token { return Token{Kind: Mark, S: s} }
	for _, c := range []struct {
		l    []Token
		want string
	}{
		{nil, ""},
		{[]Token{}, ""},
		{[]Token{word("as")}, "as"},
		{[]Token{text("a b")}, `"a b"`},
		{[]Token{text("")}, `""`},
		{[]Token{mark(";")}, ";\n"},
		{[]Token{word("as"), word("5")}, "as 5"},
		{[]Token{word("as"), word("5"), mark(";")}, "as 5 ;\n"},
		{[]Token{mark("{"), word("as")}, "{\nas"},
		{[]Token{mark("{"), mark("}"), mark(";")}, "{\n}\n;\n"},
		{[]Token{mark("}"), text("a")}, "}\n\"a\""},
		{[]Token{text("a"), mark("}")}, "\"a\" }\n"},
		{[]Token{text("a"), text("b"), word("c"), text("d")}, `"a" "b" c "d"`},
		{[]Token{word("router"), word("r1"), mark("{"), word("as"), word("5"), mark(";"), mark("}")}, "router r1 {\nas 5 ;\n}\n"},
		{[]Token{word("a"), word("b"), word("c")}, "a b c"},
	} {
		was := slices.Clone(c.l)
		if got := Join(c.l); got != c.want {
			t.Errorf("Join(%v): %q, not %q", c.l, got, c.want)
		}
		if !slices.Equal(c.l, was) {
			t.Errorf("Join(%v) changed what it was handed", was)
		}
	}
}

func TestJoinOfAnyTokens(t *testing.T) {
	// Kinds and texts that no scanned token has: nothing is promised but that Join answers.
	for _, k := range []Kind{math.MinInt, -1, Word, Text, Mark, 3, math.MaxInt} {
		for _, s := range []string{"", `"`, "\n", "A\xff", many("a", 100000)} {
			at := pos(math.MinInt, math.MaxInt)
			Join([]Token{{k, s, at}, {k, s, at}})
		}
	}
}

func TestJoinLeavesPlacesOut(t *testing.T) {
	l, _, _ := Scan("as   5\n\n;\t\"a\"")
	if got := Join(l); got != "as 5 ;\n\"a\"" || got != Join(bare(l)) {
		t.Errorf("%q", got)
	}
}

func TestJoinNewMemory(t *testing.T) {
	s := strings.Clone("router")
	got := Join([]Token{{Kind: Word, S: s}})
	if got != s || unsafe.StringData(got) == unsafe.StringData(s) {
		t.Error("the answer shares memory with what was handed in")
	}
}

func TestJoinedIsTooLong(t *testing.T) {
	s := many(";", 4096)
	l, _, _ := Scan(s)
	follows(t, s, l)
	if joined := Join(l); joined != many(";\n", 4096) {
		t.Errorf("%d bytes", len(joined))
	}
	s += ";"
	l, _, _ = Scan(s)
	follows(t, s, l)
	if joined := Join(l); joined != many(";\n", 4097) {
		t.Errorf("%d bytes", len(joined))
	}
}

func TestPlace(t *testing.T) {
	for _, c := range []struct {
		s    string
		at   int
		want api.Pos
	}{
		{"", math.MinInt, pos(1, 1)}, {"", -1, pos(1, 1)}, {"", 0, pos(1, 1)}, {"", 1, pos(1, 1)}, {"", math.MaxInt, pos(1, 1)},
		{"abc", math.MinInt, pos(1, 1)}, {"abc", -1, pos(1, 1)}, {"abc", 0, pos(1, 1)}, {"abc", 1, pos(1, 2)}, {"abc", 2, pos(1, 3)},
		{"abc", 3, pos(1, 4)}, {"abc", 4, pos(1, 4)}, {"abc", math.MaxInt, pos(1, 4)},
		{"a\nbc\n", 0, pos(1, 1)}, {"a\nbc\n", 1, pos(1, 2)}, {"a\nbc\n", 2, pos(2, 1)}, {"a\nbc\n", 3, pos(2, 2)}, {"a\nbc\n", 4, pos(2, 3)},
		{"a\nbc\n", 5, pos(3, 1)}, {"a\nbc\n", 6, pos(3, 1)}, {"a\nbc\n", -7, pos(1, 1)},
		{"\n", -1, pos(1, 1)}, {"\n", 0, pos(1, 1)}, {"\n", 1, pos(2, 1)}, {"\n", 2, pos(2, 1)},
		{"\n\n\na", 2, pos(3, 1)}, {"\n\n\na", 3, pos(4, 1)}, {"\n\n\na", 4, pos(4, 2)},
		{"a\rb", 2, pos(1, 3)}, {"a\r\nb", 2, pos(1, 3)}, {"a\r\nb", 3, pos(2, 1)},
		{"é\xffA", 1, pos(1, 2)}, {"é\xffA", 3, pos(1, 4)},
		{many("a\n", 10000) + "b", 20000, pos(10001, 1)},
		{many("a", 20000), 19999, pos(1, 20000)},
	} {
		if got := Place(c.s, c.at); got != c.want {
			t.Errorf("Place(%.20q, %d): %v, not %v", c.s, c.at, got, c.want)
		}
	}
}

func TestEnd(t *testing.T) {
	for s, want := range map[string]api.Pos{
		"": pos(1, 1), "a": pos(1, 2), "abc": pos(1, 4), "\n": pos(2, 1), "a\n": pos(2, 1), "a\nbc": pos(2, 3), "\n\n": pos(3, 1), "\n\r": pos(2, 2), "é": pos(1, 3),
		many(" ", 8192): pos(1, 8193), many("\n", 8193): pos(8194, 1),
	} {
		if got := End(s); got != want {
			t.Errorf("End(%.20q): %v, not %v", s, got, want)
		}
	}
}

func TestPlacesOneByOne(t *testing.T) {
	for length := range 7 {
		all([]string{"a", "\n", "\r", "\""}, length, func(s string) {
			here := pos(1, 1)
			for i := range len(s) {
				if got := Place(s, i); got != here {
					t.Fatalf("Place(%q, %d): %v, not %v", s, i, got, here)
				}
				here.Col++
				if s[i] == '\n' {
					here = pos(here.Line+1, 1)
				}
			}
			for _, beyond := range []int{0, 1, 100} {
				if got := Place(s, len(s)+beyond); got != here {
					t.Fatalf("Place(%q, %d): %v, not %v", s, len(s)+beyond, got, here)
				}
			}
			if got := End(s); got != here {
				t.Fatalf("End(%q): %v, not %v", s, got, here)
			}
		})
	}
}

func TestPlacesOfTokens(t *testing.T) {
	const s = "router r1 { # one\n\tas 5;\r\n}\n\n\"a\"\"b\" ;"
	l, _, _ := Scan(s)
	from := 0
	for _, k := range l {
		for from < len(s) && Place(s, from) != k.At {
			from++
		}
		if !strings.HasPrefix(s[from:], written(k)) {
			t.Errorf("%v doesn't stand at byte %d", k, from)
		}
	}
	if len(l) != 10 {
		t.Error(l)
	}
}
