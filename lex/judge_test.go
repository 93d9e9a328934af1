package lex

import (
	"cmp"
	"math/rand"
	"regexp"
	"slices"
	"strings"
	"testing"

	"whirligig/api"
)

// parts is each part that a line may have, its line feed left off; what is no part is a byte alone.
var parts = regexp.MustCompile(`(?s)[ \t\r]+|#.*|[{};]|"[^"]*"|"[^"]*$|[a-z0-9.:/_-]+|.`)

// flaw is a fault that a judge found.
type flaw struct {
	at api.Pos
	e  api.Errno
}

// firstFlaw holds faults against each other: by their places, then by the order in which 11.1 names them.
func firstFlaw(a, b flaw) int {
	order := []api.Errno{api.ErrForm, api.ErrEnd, api.ErrLong}
	return cmp.Or(
		cmp.Compare(a.at.Line, b.at.Line), cmp.Compare(a.at.Col, b.at.Col),
		cmp.Compare(slices.Index(order, a.e), slices.Index(order, b.e)),
	)
}

// quotedFlaws is the faults of a part that begins with a quote, each with how many bytes behind the quote it lies.
func quotedFlaws(part string) map[int][]api.Errno {
	all := map[int][]api.Errno{}
	in, ended := strings.CutSuffix(part[1:], `"`)
	if !ended {
		all[0] = append(all[0], api.ErrEnd)
	}
	if len(in) > 64 {
		all[0] = append(all[0], api.ErrLong)
	}
	for i := range len(in) {
		if in[i] < ' ' || in[i] > '~' {
			all[1+i] = append(all[1+i], api.ErrForm)
		}
	}
	return all
}

// judged is what Scan should answer: all parts of all lines are looked at, and of all faults the first one is told.
func judged(s string) ([]Token, api.Pos, api.Errno) {
	if len(s) > 8192 {
		return nil, api.Pos{Line: 1, Col: 1}, api.ErrLong
	}
	var tokens []Token
	var flaws []flaw
	for i, line := range strings.Split(s, "\n") {
		beside := "" // what the last part was, if the next one may not be just anything
		for _, bound := range parts.FindAllStringIndex(line, -1) {
			part := line[bound[0]:bound[1]]
			at := api.Pos{Line: i + 1, Col: bound[0] + 1}
			is := ""
			switch c := part[:1]; {
			case strings.Contains(" \t\r#", c):
			case strings.Contains("{};", c):
				tokens = append(tokens, Token{Mark, part, at})
			case c == `"`:
				is = "text"
				for behind, l := range quotedFlaws(part) {
					for _, e := range l {
						flaws = append(flaws, flaw{api.Pos{Line: at.Line, Col: at.Col + behind}, e})
					}
				}
				tokens = append(tokens, Token{Text, strings.Trim(part, `"`), at})
			case strings.Contains("abcdefghijklmnopqrstuvwxyz0123456789.:/-_", c):
				is = "word"
				if len(part) > 32 {
					flaws = append(flaws, flaw{at, api.ErrLong})
				}
				tokens = append(tokens, Token{Word, part, at})
			default:
				flaws = append(flaws, flaw{at, api.ErrForm})
			}
			if is != "" && beside != "" && is != beside {
				flaws = append(flaws, flaw{at, api.ErrForm})
			}
			beside = is
		}
	}
	if len(flaws) > 0 {
		first := slices.MinFunc(flaws, firstFlaw)
		return nil, first.at, first.e
	}
	return tokens, api.Pos{}, api.OK
}

// hold asks whether Scan answers as the judge, and whether what follows holds of what it tells.
func hold(t *testing.T, s string) {
	t.Helper()
	l, at, e := Scan(s)
	want, wantAt, wantE := judged(s)
	if !slices.Equal(l, want) || at != wantAt || e != wantE {
		t.Fatalf("Scan(%q): %v %v %d, not %v %v %d", s, l, at, e, want, wantAt, wantE)
	}
	if e == api.OK {
		follows(t, s, l)
	}
}

// bare is tokens without their places.
func bare(l []Token) []Token {
	var all []Token
	for _, k := range l {
		all = append(all, Token{Kind: k.Kind, S: k.S})
	}
	return all
}

// follows asks for 11.3: tokens stand at their places, and what is joined of them is scanned as them.
func follows(t *testing.T, s string, l []Token) {
	t.Helper()
	lines := strings.SplitAfter(s, "\n")
	for _, k := range l {
		text := k.S
		if k.Kind == Text {
			text = `"` + text + `"`
		}
		if !strings.HasPrefix(lines[k.At.Line-1][k.At.Col-1:], text) {
			t.Fatalf("Scan(%q): %v doesn't stand at its place", s, k)
		}
	}
	joined := Join(l)
	again, at, e := Scan(joined)
	if len(joined) > 8192 {
		if again != nil || at != (api.Pos{Line: 1, Col: 1}) || e != api.ErrLong {
			t.Fatalf("Scan of %d joined bytes: %v %v %d", len(joined), again, at, e)
		}
		return
	}
	if !slices.Equal(bare(again), bare(l)) || at != (api.Pos{}) || e != api.OK {
		t.Fatalf("Scan(%q), joined of %v: %v %v %d", joined, l, again, at, e)
	}
	if twice := Join(again); twice != joined {
		t.Fatalf("Scan(%q): joined %q, and joined once more %q", s, joined, twice)
	}
}

// all hands on each row of so many pieces.
func all(pieces []string, many int, to func(string)) {
	if many == 0 {
		to("")
		return
	}
	all(pieces, many-1, func(s string) {
		for _, p := range pieces {
			to(s + p)
		}
	})
}

func TestAllSmallTexts(t *testing.T) {
	for many := range 7 {
		all([]string{"a", ";", `"`, "#", " ", "\n", "\t", "A"}, many, func(s string) { hold(t, s) })
	}
}

func TestAllTextsOfLongPieces(t *testing.T) {
	pieces := []string{
		"z", strings.Repeat("w", 31), strings.Repeat("0", 32), strings.Repeat("q r ", 16), strings.Repeat("-", 33),
		`"`, "}", "#", "\r", "\n", "\x7f", "~",
	}
	for many := range 5 {
		all(pieces, many, func(s string) { hold(t, s) })
	}
}

func TestManyTexts(t *testing.T) {
	r := rand.New(rand.NewSource(11))
	pieces := []string{
		"router", "r1", "10.0.0.0/8", "65000:1", "no-export", "a_b", "{", "}", ";", "}}", `"^1 2$"`, `""`, `"# ; {"`, "# it's so\n", "#\n", "#", "\n", "\n\n", "\r\n", "\t", " ", "  ",
	}
	wrong := []string{`"`, "A", "\x00", "\x1f", "\x7f", "\x80", "\xff", "é", ",", strings.Repeat("x", 33), `"` + strings.Repeat("x", 65) + `"`, "\"\t\"", "\"a\n\""}
	for range 20000 {
		var b strings.Builder
		for range r.Intn(20) {
			b.WriteString(pieces[r.Intn(len(pieces))])
			if r.Intn(2) == 0 {
				b.WriteByte(' ')
			}
			if r.Intn(40) == 0 {
				b.WriteString(wrong[r.Intn(len(wrong))])
			}
		}
		hold(t, b.String())
	}
}

func TestTextsOfAnyBytes(t *testing.T) {
	r := rand.New(rand.NewSource(12))
	for range 20000 {
		b := make([]byte, r.Intn(40))
		for i := range b {
			b[i] = byte(r.Intn(256))
		}
		hold(t, string(b))
	}
}
