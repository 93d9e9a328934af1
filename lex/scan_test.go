package lex

import (
	"slices"
	"strings"
	"testing"
	"unsafe"

	"whirligig/api"
)

// pos is a place.
func pos(line, col int) api.Pos { return api.Pos{Line: line, Col: col} }

// many is a text so many times.
func many(s string, n int) string { return strings.Repeat(s, n) }

// scanned asks whether a text has just these tokens.
func scanned(t *testing.T, s string, want ...Token) {
	t.Helper()
	if l, at, e := Scan(s); !slices.Equal(l, want) || at != (api.Pos{}) || e != api.OK {
		t.Errorf("Scan(%q): %v %v %d, not %v", s, l, at, e, want)
	}
}

// refused asks whether a text is refused with a place and an error, and no tokens beside them.
func refused(t *testing.T, s string, want api.Pos, wantE api.Errno) {
	t.Helper()
	if l, at, e := Scan(s); len(l) != 0 || at != want || e != wantE {
		t.Errorf("Scan(%q): %v %v %d, not %v %d", s, l, at, e, want, wantE)
	}
}

func TestKinds(t *testing.T) {
	if Word != 0 || Text != 1 || Mark != 2 {
		t.Error(Word, Text, Mark)
	}
}

func TestScan(t *testing.T) {
	scanned(t, "")
	scanned(t, "as 5;", Token{Word, "as", pos(1, 1)}, Token{Word, "5", pos(1, 4)}, Token{Mark, ";", pos(1, 5)})
	scanned(t, "router r1 {\n as 65001; # its AS\n\n network 10.0.0.0/8;\n}\n",
		Token{Word, "router", pos(1, 1)}, Token{Word, "r1", pos(1, 8)}, Token{Mark, "{", pos(1, 11)},
		Token{Word, "as", pos(2, 2)}, Token{Word, "65001", pos(2, 5)}, Token{Mark, ";", pos(2, 10)},
		Token{Word, "network", pos(4, 2)}, Token{Word, "10.0.0.0/8", pos(4, 10)}, Token{Mark, ";", pos(4, 20)},
		Token{Mark, "}", pos(5, 1)})
	scanned(t, `match path "^1 [2-3]*$";`,
		Token{Word, "match", pos(1, 1)}, Token{Word, "path", pos(1, 7)}, Token{Text, "^1 [2-3]*$", pos(1, 12)}, Token{Mark, ";", pos(1, 24)})
	scanned(t, "65000:1\nno-export\na_b.c/d",
		Token{Word, "65000:1", pos(1, 1)}, Token{Word, "no-export", pos(2, 1)}, Token{Word, "a_b.c/d", pos(3, 1)})
}

func TestLengthOfAll(t *testing.T) {
	for _, s := range []string{
		many(" ", 8192), many("\n", 8192), "#" + many("A", 8191), many("#\n", 4096), many("\r\n", 4096),
	} {
		scanned(t, s)
		for _, more := range []string{" ", "\n", "A", "a", `"`} {
			refused(t, s+more, pos(1, 1), api.ErrLong)
		}
	}
	l, at, e := Scan(many(";", 8192))
	if len(l) != 8192 || l[0] != (Token{Mark, ";", pos(1, 1)}) || l[8191] != (Token{Mark, ";", pos(1, 8192)}) || at != (api.Pos{}) || e != api.OK {
		t.Errorf("8192 marks: %d tokens %v %d", len(l), at, e)
	}
	l, at, e = Scan(many("a\n", 4096))
	if len(l) != 4096 || l[4095] != (Token{Word, "a", pos(4096, 1)}) || at != (api.Pos{}) || e != api.OK {
		t.Errorf("4096 lines: %d tokens %v %d", len(l), at, e)
	}
	refused(t, many(" ", 8191)+"A", pos(1, 8192), api.ErrForm)
	refused(t, many("\n", 8191)+`"`, pos(8192, 1), api.ErrEnd)
	for _, s := range []string{many(";", 8193), many("A", 8193), many(`"`, 8193), "\n" + many("a", 8192), many("a", 100000)} {
		refused(t, s, pos(1, 1), api.ErrLong)
	}
}

func TestLengthOfWords(t *testing.T) {
	w := many("abcdefghij", 3) + "z9"
	scanned(t, w, Token{Word, w, pos(1, 1)})
	scanned(t, ";"+w+"{"+w, Token{Mark, ";", pos(1, 1)}, Token{Word, w, pos(1, 2)}, Token{Mark, "{", pos(1, 34)}, Token{Word, w, pos(1, 35)})
	scanned(t, w+"\n "+w, Token{Word, w, pos(1, 1)}, Token{Word, w, pos(2, 2)})
	refused(t, w+"a", pos(1, 1), api.ErrLong)
	refused(t, w+".", pos(1, 1), api.ErrLong)
	refused(t, w+w+w, pos(1, 1), api.ErrLong)
	refused(t, "a\n{ "+w+"-;", pos(2, 3), api.ErrLong)
	refused(t, many("a", 8192), pos(1, 1), api.ErrLong)
}

func TestLengthOfTexts(t *testing.T) {
	in := many("Ab {;#~ ", 8)
	scanned(t, `"`+in+`"`, Token{Text, in, pos(1, 1)})
	scanned(t, "a \""+in+"\"\n\""+in+`";`,
		Token{Word, "a", pos(1, 1)}, Token{Text, in, pos(1, 3)}, Token{Text, in, pos(2, 1)}, Token{Mark, ";", pos(2, 67)})
	scanned(t, `""`, Token{Text, "", pos(1, 1)})
	scanned(t, ` "" ;`, Token{Text, "", pos(1, 2)}, Token{Mark, ";", pos(1, 5)})
	refused(t, `"`+in+` "`, pos(1, 1), api.ErrLong)
	refused(t, `a "`+in+in+`"`, pos(1, 3), api.ErrLong)
	refused(t, "a;\n\n \""+in+`a";`, pos(3, 2), api.ErrLong)
	refused(t, `"`+many("a", 8190)+`"`, pos(1, 1), api.ErrLong)
}

func TestTexts(t *testing.T) {
	for c := range 256 {
		s := `a "` + string([]byte{'x', byte(c), 'y'}) + `" ;`
		switch {
		case c == '\n':
			refused(t, s, pos(1, 3), api.ErrEnd)
		case c == '"':
			refused(t, s, pos(1, 6), api.ErrForm) // the word y, right beside the text x
		case c < 32 || c > 126:
			refused(t, s, pos(1, 5), api.ErrForm)
		default:
			scanned(t, s, Token{Word, "a", pos(1, 1)}, Token{Text, "x" + string(rune(c)) + "y", pos(1, 3)}, Token{Mark, ";", pos(1, 9)})
		}
	}
	scanned(t, `" "`, Token{Text, " ", pos(1, 1)})
	scanned(t, `"~"`, Token{Text, "~", pos(1, 1)})
	scanned(t, `"\"`, Token{Text, `\`, pos(1, 1)})
	scanned(t, `"a # b"`, Token{Text, "a # b", pos(1, 1)})
	scanned(t, `"a""b"`, Token{Text, "a", pos(1, 1)}, Token{Text, "b", pos(1, 4)})
	scanned(t, `""""`, Token{Text, "", pos(1, 1)}, Token{Text, "", pos(1, 3)})
	refused(t, "\"\x00\"", pos(1, 2), api.ErrForm)
	refused(t, "\n\"abc\x7f\"", pos(2, 5), api.ErrForm)
	refused(t, `"é"`, pos(1, 2), api.ErrForm)
	refused(t, "\""+many("a", 63)+"\t\"", pos(1, 65), api.ErrForm)
}

func TestTextsThatAreNotEnded(t *testing.T) {
	for _, s := range []string{
		`"`, `"a`, `"a b;`, "\"\n", "\"\n\"", "\"a\n", "\"a\nb\"", "\"a\n\"b\"", `"a # b`, "\"a\r\n\"", "\"\xff", "\"A\x00\n",
		`"` + many("a", 64), `"` + many("a", 65), `"` + many("a", 65) + "\n", `"` + many("\x01", 100),
	} {
		refused(t, s, pos(1, 1), api.ErrEnd)
	}
	refused(t, `"""`, pos(1, 3), api.ErrEnd)
	refused(t, `a "b" "`, pos(1, 7), api.ErrEnd)
	refused(t, "a;\n{ \"b\n\"", pos(2, 3), api.ErrEnd)
	refused(t, `"a"#`+"\n"+`;"`, pos(2, 2), api.ErrEnd)
}

func TestBytes(t *testing.T) {
	const right = "abcdefghijklmnopqrstuvwxyz0123456789.:/-_"
	for c := range 256 {
		s := string([]byte{byte(c)})
		between := "r1" + s + "7"
		switch {
		case strings.Contains(right, s):
			scanned(t, s, Token{Word, s, pos(1, 1)})
			scanned(t, between, Token{Word, between, pos(1, 1)})
		case strings.Contains("{};", s):
			scanned(t, s, Token{Mark, s, pos(1, 1)})
			scanned(t, between, Token{Word, "r1", pos(1, 1)}, Token{Mark, s, pos(1, 3)}, Token{Word, "7", pos(1, 4)})
		case strings.Contains(" \t\r", s):
			scanned(t, s)
			scanned(t, between, Token{Word, "r1", pos(1, 1)}, Token{Word, "7", pos(1, 4)})
		case s == "\n":
			scanned(t, s)
			scanned(t, between, Token{Word, "r1", pos(1, 1)}, Token{Word, "7", pos(2, 1)})
		case s == "#":
			scanned(t, s)
			scanned(t, between, Token{Word, "r1", pos(1, 1)})
		case s == `"`:
			refused(t, s, pos(1, 1), api.ErrEnd)
			refused(t, between, pos(1, 3), api.ErrForm)
		default:
			refused(t, s, pos(1, 1), api.ErrForm)
			refused(t, between, pos(1, 3), api.ErrForm)
			refused(t, "a\n ; "+s, pos(2, 4), api.ErrForm)
			refused(t, ";"+s+";", pos(1, 2), api.ErrForm)
			refused(t, `"a"`+s, pos(1, 4), api.ErrForm)
		}
	}
	scanned(t, "0", Token{Word, "0", pos(1, 1)})
	scanned(t, "-", Token{Word, "-", pos(1, 1)})
	scanned(t, "._:/-", Token{Word, "._:/-", pos(1, 1)})
	refused(t, "as A", pos(1, 4), api.ErrForm)
	refused(t, "aS", pos(1, 2), api.ErrForm)
	refused(t, "é", pos(1, 1), api.ErrForm)
	refused(t, "a=1", pos(1, 2), api.ErrForm)
	refused(t, "(a)", pos(1, 1), api.ErrForm)
	refused(t, "\ufeffa", pos(1, 1), api.ErrForm)
	refused(t, "a\u00a0b", pos(1, 2), api.ErrForm)
}

func TestBlanks(t *testing.T) {
	for _, c := range []struct {
		blanks string
		behind api.Pos
	}{
		{" ", pos(1, 3)}, {"\t", pos(1, 3)}, {"\r", pos(1, 3)}, {"\n", pos(2, 1)},
		{"    ", pos(1, 6)}, {"\t\t", pos(1, 4)}, {"\r\r", pos(1, 4)}, {"\n\n\n", pos(4, 1)},
		{"\r\n", pos(2, 1)}, {"\n\r", pos(2, 2)}, {" \t\r\n \n\t ", pos(3, 3)},
	} {
		scanned(t, c.blanks)
		scanned(t, "a"+c.blanks+"b", Token{Word, "a", pos(1, 1)}, Token{Word, "b", c.behind})
		scanned(t, "a"+c.blanks+`"b"`, Token{Word, "a", pos(1, 1)}, Token{Text, "b", c.behind})
		scanned(t, "a"+c.blanks+"{"+c.blanks, Token{Word, "a", pos(1, 1)}, Token{Mark, "{", c.behind})
		scanned(t, ";"+c.blanks+"a", Token{Mark, ";", pos(1, 1)}, Token{Word, "a", c.behind})
		refused(t, "a"+c.blanks+"B", c.behind, api.ErrForm)
		refused(t, "a"+c.blanks+`"`, c.behind, api.ErrEnd)
		refused(t, "a"+c.blanks+many("b", 33), c.behind, api.ErrLong)
	}
	scanned(t, `"a" b`, Token{Text, "a", pos(1, 1)}, Token{Word, "b", pos(1, 5)})
	scanned(t, `"a" "b"`, Token{Text, "a", pos(1, 1)}, Token{Text, "b", pos(1, 5)})
}

func TestRemarks(t *testing.T) {
	for _, s := range []string{"#", "#\n", "# a", "# a\n", "##", " # a \n\n", "#\"\n", "# A, \x00\x7f\xff\r\té\n#", "#{};"} {
		scanned(t, s)
	}
	a, b := Token{Word, "a", pos(1, 1)}, Token{Word, "b", pos(2, 1)}
	scanned(t, "a#", a)
	scanned(t, "a#b", a)
	scanned(t, "a # b", a)
	scanned(t, "a#\n", a)
	scanned(t, "a#\nb", a, b)
	scanned(t, "a# no \" A\nb", a, b)
	scanned(t, "a # no; # no\nb # no", a, b)
	scanned(t, "a#\n\"b\"", a, Token{Text, "b", pos(2, 1)})
	scanned(t, "\"a\"#\nb", Token{Text, "a", pos(1, 1)}, b)
	scanned(t, "\"a\"# \"\n;#", Token{Text, "a", pos(1, 1)}, Token{Mark, ";", pos(2, 1)})
	scanned(t, "{#}\n}", Token{Mark, "{", pos(1, 1)}, Token{Mark, "}", pos(2, 1)})
	scanned(t, many("a", 32)+"#"+many("a", 32), Token{Word, many("a", 32), pos(1, 1)})
	scanned(t, "# a\r b") // a carriage return ends no line
	refused(t, "# A\nA", pos(2, 1), api.ErrForm)
	refused(t, "a # \"\n \"", pos(2, 2), api.ErrEnd)
}

func TestMarksRightBesideOthers(t *testing.T) {
	for _, m := range []string{"{", "}", ";"} {
		at := func(col int) Token { return Token{Mark, m, pos(1, col)} }
		scanned(t, m, at(1))
		scanned(t, m+"a", at(1), Token{Word, "a", pos(1, 2)})
		scanned(t, "a"+m, Token{Word, "a", pos(1, 1)}, at(2))
		scanned(t, "a"+m+"b", Token{Word, "a", pos(1, 1)}, at(2), Token{Word, "b", pos(1, 3)})
		scanned(t, m+`"a"`, at(1), Token{Text, "a", pos(1, 2)})
		scanned(t, `"a"`+m, Token{Text, "a", pos(1, 1)}, at(4))
		scanned(t, `"a"`+m+"b", Token{Text, "a", pos(1, 1)}, at(4), Token{Word, "b", pos(1, 5)})
		scanned(t, "a"+m+`"b"`, Token{Word, "a", pos(1, 1)}, at(2), Token{Text, "b", pos(1, 3)})
		scanned(t, `"`+m+`"`, Token{Text, m, pos(1, 1)})
		for _, n := range []string{"{", "}", ";"} {
			scanned(t, m+n+m, at(1), Token{Mark, n, pos(1, 2)}, at(3))
		}
	}
}

func TestWordsRightBesideTexts(t *testing.T) {
	refused(t, `a"b"`, pos(1, 2), api.ErrForm)
	refused(t, `"a"b`, pos(1, 4), api.ErrForm)
	refused(t, `""b`, pos(1, 3), api.ErrForm)
	refused(t, `a""`, pos(1, 2), api.ErrForm)
	refused(t, ` "a" "b"c`, pos(1, 9), api.ErrForm)
	refused(t, `"a""b"c`, pos(1, 7), api.ErrForm)
	refused(t, "a;\n  as\"b\"", pos(2, 5), api.ErrForm)
	refused(t, "a;\n{\"b\".", pos(2, 5), api.ErrForm)
	// Several faults at one place: ErrForm is named first.
	refused(t, `a"`, pos(1, 2), api.ErrForm)
	refused(t, `a"`+many("b", 65)+`"`, pos(1, 2), api.ErrForm)
	refused(t, `a"`+many("b", 65), pos(1, 2), api.ErrForm)
	refused(t, `"a"`+many("b", 33), pos(1, 4), api.ErrForm)
	refused(t, "a\"\x01\"", pos(1, 2), api.ErrForm)
}

func TestFirstFault(t *testing.T) {
	long, longText := many("a", 33), `"`+many("a", 65)+`"`
	for _, c := range []struct {
		s  string
		at api.Pos
		e  api.Errno
	}{
		{"A " + long, pos(1, 1), api.ErrForm},
		{long + "A", pos(1, 1), api.ErrLong},
		{long + `"`, pos(1, 1), api.ErrLong},
		{long + ` "`, pos(1, 1), api.ErrLong},
		{`" ` + long, pos(1, 1), api.ErrEnd},
		{"A\n\"", pos(1, 1), api.ErrForm},
		{"\"\nA", pos(1, 1), api.ErrEnd},
		{longText + "A", pos(1, 1), api.ErrLong},
		{"A" + longText, pos(1, 1), api.ErrForm},
		{longText + `"`, pos(1, 1), api.ErrLong},
		{longText + "a", pos(1, 1), api.ErrLong},
		{"a\n" + long + "\n" + longText, pos(2, 1), api.ErrLong},
		{"a\n" + longText + "\n" + long, pos(2, 1), api.ErrLong},
		{"a; # A\n b, \"", pos(2, 3), api.ErrForm},
		// What lies at the quote lies ahead of what lies behind it.
		{"\"\x01", pos(1, 1), api.ErrEnd},
		{"\"a\t\n\"", pos(1, 1), api.ErrEnd},
		{"\"\x01" + many("a", 64) + `"`, pos(1, 1), api.ErrLong},
		{"\"\x01" + many("a", 63) + `"`, pos(1, 2), api.ErrForm},
		{"\"\x01\" \"", pos(1, 2), api.ErrForm},
		{"\"a\x01\x02\"", pos(1, 3), api.ErrForm},
		{`"` + many("a", 65), pos(1, 1), api.ErrEnd},
	} {
		refused(t, c.s, c.at, c.e)
	}
}

func TestScanNewMemory(t *testing.T) {
	s := "as 5; \"a b\" {}"
	first, _, _ := Scan(s)
	second, _, _ := Scan(s)
	want := slices.Clone(second)
	for i := range first {
		first[i] = Token{Mark, "x", pos(9, 9)}
	}
	if !slices.Equal(second, want) {
		t.Error("two answers share memory")
	}
	from := uintptr(unsafe.Pointer(unsafe.StringData(s)))
	for _, k := range second {
		if at := uintptr(unsafe.Pointer(unsafe.StringData(k.S))); at >= from && at < from+uintptr(len(s)) {
			t.Errorf("%v shares memory with what was handed in", k)
		}
	}
}
