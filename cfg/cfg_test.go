package cfg

import (
	"math"
	"strconv"
	"strings"
	"testing"

	"whirligig/api"
)

// many is a text so many times.
func many(s string, n int) string { return strings.Repeat(s, n) }

func TestName(t *testing.T) {
	for _, s := range []string{
		"a", "z", "r1", "abcdefghijkl", "a12345678901", "a-----------", "a___________", "a-b_c9", "as", "router", "no-export", "x0",
	} {
		if !Name(s) {
			t.Errorf("Name(%q): no", s)
		}
	}
	for _, s := range []string{
		"", "abcdefghijklm", "a123456789012", many("a", 32), many("a", 100000), "1", "1a", "0", "-", "-a", "_", "_a", "a.b", "a:b", "a/b", "a b", " a", "a ", "a\n", "A", "aB", "é", "aé", "a\x00", "{", "a;", `"a"`, "a\xff",
	} {
		if Name(s) {
			t.Errorf("Name(%q): yes", s)
		}
	}
}

func TestNameBytes(t *testing.T) {
	const letters = "abcdefghijklmnopqrstuvwxyz"
	for c := range 256 {
		s := string([]byte{byte(c)})
		first := strings.Contains(letters, s)
		within := strings.Contains(letters+"0123456789-_", s)
		for _, x := range []struct {
			s    string
			want bool
		}{{s, first}, {s + "r", first}, {"r" + s, within}, {"r" + s + "r", within}, {"abcdefghijk" + s, within}, {"abcdefghijkl" + s, false}} {
			if Name(x.s) != x.want {
				t.Errorf("Name(%q): %v", x.s, !x.want)
			}
		}
	}
}

// numbered asks what Number answers.
func numbered(t *testing.T, s string, from, to, want int, wantE api.Errno) {
	t.Helper()
	if n, e := Number(s, from, to); n != want || e != wantE {
		t.Errorf("Number(%q, %d, %d): %d %d, not %d %d", s, from, to, n, e, want, wantE)
	}
}

func TestNumber(t *testing.T) {
	for n := range 1200 {
		s := strconv.Itoa(n)
		numbered(t, s, n, n, n, api.OK)
		numbered(t, s, 0, n, n, api.OK)
		numbered(t, s, n, math.MaxInt, n, api.OK)
		numbered(t, s, n+1, math.MaxInt, 0, api.ErrRange)
		numbered(t, s, math.MinInt, n-1, 0, api.ErrRange)
		numbered(t, "0"+s, 0, math.MaxInt, 0, api.ErrForm)
		numbered(t, "-"+s, math.MinInt, math.MaxInt, 0, api.ErrForm)
		numbered(t, "+"+s, math.MinInt, math.MaxInt, 0, api.ErrForm)
	}
	numbered(t, "1", 1, 65535, 1, api.OK)
	numbered(t, "65535", 1, 65535, 65535, api.OK)
	numbered(t, "0", 1, 65535, 0, api.ErrRange)
	numbered(t, "65536", 1, 65535, 0, api.ErrRange)
	numbered(t, "0", -5, -1, 0, api.ErrRange)
	numbered(t, "3", -5, 5, 3, api.OK)
}

func TestNumberAtTheEndsOfInt(t *testing.T) {
	greatest := strconv.Itoa(math.MaxInt)
	numbered(t, greatest, math.MinInt, math.MaxInt, math.MaxInt, api.OK)
	numbered(t, greatest, math.MaxInt, math.MaxInt, math.MaxInt, api.OK)
	numbered(t, greatest, math.MinInt, math.MaxInt-1, 0, api.ErrRange)
	numbered(t, "0", math.MinInt, math.MaxInt, 0, api.OK)
	numbered(t, "0", math.MaxInt, math.MaxInt, 0, api.ErrRange)
	numbered(t, "0", math.MinInt, math.MinInt, 0, api.ErrRange)
	for _, s := range []string{
		"9223372036854775808", "18446744073709551616", "18446744073709551617", "99999999999999999999", "100000000000000000000",
		many("9", 32), "1" + many("0", 31), many("1", 33), many("9", 1000),
	} {
		numbered(t, s, math.MinInt, math.MaxInt, 0, api.ErrRange)
		numbered(t, s, 0, 0, 0, api.ErrRange)
		numbered(t, s, math.MaxInt, math.MinInt, 0, api.ErrRange)
		numbered(t, "0"+s, math.MinInt, math.MaxInt, 0, api.ErrForm)
		numbered(t, s+"a", math.MinInt, math.MaxInt, 0, api.ErrForm)
	}
}

func TestNumberFromAboveTo(t *testing.T) {
	for _, s := range []string{"0", "1", "5", "6", "7", "9223372036854775807"} {
		numbered(t, s, 6, 5, 0, api.ErrRange)
		numbered(t, s, 1, 0, 0, api.ErrRange)
		numbered(t, s, math.MaxInt, math.MinInt, 0, api.ErrRange)
		numbered(t, s+"x", 6, 5, 0, api.ErrForm)
	}
}

func TestNumberOfWhatIsNone(t *testing.T) {
	for _, s := range []string{
		"", "00", "01", "007", "-", "+", "-0", "-1", "+1", " 1", "1 ", "1\n", "1.0", "1_0", "1e3", "0x1", "0b1", "0o7", "a", "1a", "a1", "٣", "１", "1\x00", "\xff", "65000:1", many("0", 40), "0" + many("9", 40),
	} {
		numbered(t, s, math.MinInt, math.MaxInt, 0, api.ErrForm)
		numbered(t, s, 1, 0, 0, api.ErrForm)
	}
	for c := range 256 {
		if s := string([]byte{byte(c)}); c < '0' || c > '9' {
			numbered(t, s, math.MinInt, math.MaxInt, 0, api.ErrForm)
			numbered(t, "1"+s, math.MinInt, math.MaxInt, 0, api.ErrForm)
			numbered(t, s+"1", math.MinInt, math.MaxInt, 0, api.ErrForm)
		}
	}
}
