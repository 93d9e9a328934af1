package aspath

import (
	"math/rand"
	"slices"
	"strconv"
	"strings"
	"testing"

	"whirligig/api"
)

func TestText(t *testing.T) {
	for want, p := range map[string][]int{
		"": nil, "1": {1}, "65535": {65535}, "1 2": {1, 2}, "2 1": {2, 1}, "65000 65000 1 2": {65000, 65000, 1, 2},
		"10 100 1000 10000": {10, 100, 1000, 10000}, "1 2 3 4 5 6 7 8 9 10 11 12 13 14 15 16": rising(1, 16),
	} {
		if got := Text(p); got != want {
			t.Errorf("Text(%v): %q, not %q", p, got, want)
		}
		if got, e := Parse(want); e != api.OK || !slices.Equal(got, p) {
			t.Errorf("Parse(%q): %v %d", want, got, e)
		}
	}
	for _, p := range noPaths() {
		if got := Text(p); got != "" {
			t.Errorf("Text(%v): %q", p, got)
		}
	}
}

func TestParsedOfItsText(t *testing.T) {
	all := paths()
	for as := 1; as <= 65535; as++ {
		all = append(all, []int{as})
	}
	r := rand.New(rand.NewSource(7))
	for range 5000 {
		p := make([]int, r.Intn(17))
		for i := range p {
			p[i] = 1 + r.Intn(65535)
		}
		all = append(all, p)
	}
	for _, p := range all {
		if got, e := Parse(Text(p)); e != api.OK || !slices.Equal(got, p) {
			t.Fatalf("Parse(%q): %v %d", Text(p), got, e)
		}
	}
}

// many is as many words of one kind.
func many(word string, times int) string {
	return strings.Join(slices.Repeat([]string{word}, times), " ")
}

func TestParseWrong(t *testing.T) {
	long := strings.Repeat("9", 400)
	for e, texts := range map[api.Errno][]string{
		api.ErrForm: {
			" ", "  ", " 1", "1 ", "1  2", "1   2", " 1 2", "1 2 ", "01", "00", "1 01", "01 1", "1 00 2", "0 00", "000",
			"1\t2", "1\n", "\n", "1\n2", "1,2", "1, 2", "+1", "-1", "1 -2", "1 +2", "a", "1a", "a1", "1a1", "1 a 2", "1.0", "1_0", "0x1", "1e1",
			"{1}", "(1 2)", "1\x00", "\x00", "\xff", "1 \xff", "1\u00a02", "\u0661", "1\r2", "1/", "/1", "1:2", ":",
			"65536 01", "01 65536", "0 01", "65536  1", "65536 ", " 65536", " 0", "0 ", "0 a", long + " 01", "01 " + long, "0" + long, long + "a",
			many("1", 16) + " ", " " + many("1", 16), many("1", 17) + " ", many("1", 17) + " a", many("1", 20) + " 01",
			many("65536", 17) + " 01", "01 " + many("65536", 17), many("0", 17) + "  1", many("01", 17), strings.Repeat(" ", 17),
		},
		api.ErrRange: {
			"0", "65536", "65537", "99999", "100000", "1000001", "1 0", "0 1", "1 65536", "65536 1", "1 0 2", "0 0", "4294967297",
			"9223372036854775807", "9223372036854775808", "18446744073709551617", long, "1 " + long, long + " 1",
			many("1", 15) + " 0", many("1", 16) + " 0", "65536 " + many("1", 16), many("1", 17) + " 65536", many("1", 40) + " " + long, many("0", 17),
		},
		api.ErrLong: {many("1", 17), many("65535", 17), many("1", 18), many("1", 5000)},
	} {
		for _, s := range texts {
			if got, have := Parse(s); have != e || len(got) != 0 {
				t.Errorf("Parse(%q): %v %d, not %d", s, got, have, e)
			}
		}
	}
	for _, times := range []int{1, 15, 16} {
		if got, e := Parse(many("65535", times)); e != api.OK || len(got) != times {
			t.Errorf("Parse of %d numbers: %v %d", times, got, e)
		}
	}
}

func TestParseOfAllBytes(t *testing.T) {
	for b := range 256 {
		s := string([]byte{byte(b)})
		digit, blank := b >= '0' && b <= '9', b == ' '
		for text, right := range map[string]bool{"1" + s: digit, s + "1": digit && b != '0', "1" + s + "1": digit || blank, s: digit && b != '0', "1 " + s: digit && b != '0'} {
			want := api.OK
			if !right {
				want = api.ErrForm
			}
			if text == "0" || text == "1 0" {
				want = api.ErrRange
			}
			if _, e := Parse(text); e != want {
				t.Errorf("Parse(%q): %d, not %d", text, e, want)
			}
		}
	}
}

// TestParseOfAllSmallTexts holds Parse against the promise's words, over all texts of a few bytes.
func TestParseOfAllSmallTexts(t *testing.T) {
	var grow func(s string, more int)
	grow = func(s string, more int) {
		got, e := Parse(s)
		var want []int
		form, inRange := true, true
		for w := range strings.SplitSeq(s, " ") {
			n, err := strconv.Atoi(w)
			form = form && err == nil && strconv.Itoa(n) == w
			inRange = inRange && n >= 1 && n <= 65535
			want = append(want, n)
		}
		switch {
		case s == "" && (e != api.OK || len(got) != 0),
			s != "" && !form && (e != api.ErrForm || len(got) != 0),
			form && !inRange && (e != api.ErrRange || len(got) != 0),
			form && inRange && (e != api.OK || !slices.Equal(got, want)):
			t.Fatalf("Parse(%q): %v %d", s, got, e)
		}
		if more > 0 {
			for _, b := range []string{"0", "1", "7", " ", "a"} {
				grow(s+b, more-1)
			}
		}
	}
	grow("", 6)
}
