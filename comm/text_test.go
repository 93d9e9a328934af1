package comm

import (
	"strconv"
	"strings"
	"testing"

	"whirligig/api"
)

func TestWellKnown(t *testing.T) {
	for _, c := range []struct {
		name string
		got  api.Comm
		want api.Comm
	}{
		{"no-export", NoExport(), api.Comm{AS: 65535, N: 65281}},
		{"no-advertise", NoAdvertise(), api.Comm{AS: 65535, N: 65282}},
		{"local", Local(), api.Comm{AS: 65535, N: 65283}},
	} {
		if c.got != c.want || Text(c.want) != c.name {
			t.Errorf("%s: %v, text %q", c.name, c.got, Text(c.want))
		}
		for _, s := range []string{c.name, "65535:" + strconv.Itoa(c.want.N)} {
			if got, e := Parse(s); got != c.want || e != api.OK {
				t.Errorf("Parse(%q): %v %d", s, got, e)
			}
		}
	}
}

func TestText(t *testing.T) {
	for s, c := range map[string]api.Comm{
		"1:0": {AS: 1}, "1:1": {AS: 1, N: 1}, "65000:100": {AS: 65000, N: 100}, "65535:0": {AS: 65535},
		"65535:65535": {AS: 65535, N: 65535}, "65535:65280": {AS: 65535, N: 65280},
		"65535:65284": {AS: 65535, N: 65284}, "65534:65281": {AS: 65534, N: 65281}, "10:20": {AS: 10, N: 20},
	} {
		if got := Text(c); got != s {
			t.Errorf("Text(%v): %q, not %q", c, got, s)
		}
		if got, e := Parse(s); got != c || e != api.OK {
			t.Errorf("Parse(%q): %v %d", s, got, e)
		}
	}
	for _, c := range wrong() {
		if got := Text(c); got != "" {
			t.Errorf("Text(%v): %q", c, got)
		}
	}
}

func TestParsedOfItsText(t *testing.T) {
	numbers := []int{0, 1, 9, 10, 99, 100, 9999, 10000, 65279, 65280, 65281, 65282, 65283, 65284, 65534, 65535}
	for _, as := range numbers[1:] {
		for _, n := range numbers {
			c := api.Comm{AS: as, N: n}
			if got, e := Parse(Text(c)); got != c || e != api.OK {
				t.Errorf("Parse(%q): %v %d", Text(c), got, e)
			}
			digits := strconv.Itoa(as) + ":" + strconv.Itoa(n)
			if got, e := Parse(digits); got != c || e != api.OK {
				t.Errorf("Parse(%q): %v %d", digits, got, e)
			}
		}
	}
}

func TestParseWrong(t *testing.T) {
	long := strings.Repeat("9", 400)
	for e, texts := range map[api.Errno][]string{
		api.ErrForm: {
			"", ":", "1", "1:", ":1", "1:1:1", "1:1:", ":1:1", "1::1", "01:1", "1:01", "00:1", "1:00", "0:00",
			"01:65536", "65536:01", "00:65536", long + ":01", "0" + long + ":1", long, " 1:1", "1:1 ", "1 :1", "1: 1",
			"+1:1", "1:+1", "-1:1", "1:-1", "a:1", "1:a", "1a:1", "1:1a", "0x1:1", "1_0:1", "1.0:1", "1:1\n", "1:1\x00",
			"1/1", "1;1", "1:0:", "1\xff:1", "1:\xff", "١:١", "1：1", "1:/", "/:1", "1::",
			"No-export", "NO-EXPORT", "no-export ", " no-export", "no_export", "noexport", "no-exports", "no-expor",
			"no-advertised", "no-advertise:1", "local:1", "1:local", "locals", "Local", "no", "none", "internet",
		},
		api.ErrRange: {
			"0:0", "0:1", "0:65281", "65536:0", "65536:1", "1:65536", "65535:65536", "65536:65536", "0:65536",
			"99999:1", "1:99999", "100000:1", "1:100000", "1000001:1", "4294967297:1", "1:4294967296",
			"18446744073709551617:1", "1:18446744073709551616", long + ":1", "1:" + long, long + ":" + long,
		},
	} {
		for _, s := range texts {
			if got, have := Parse(s); have != e || got != (api.Comm{}) {
				t.Errorf("Parse(%q): %v %d, not %d", s, got, have, e)
			}
		}
	}
}

func TestParseOfAllBytes(t *testing.T) {
	for b := range 256 {
		s := string([]byte{byte(b)})
		for i, text := range []string{s + ":1", "1:" + s, "1" + s + ":1", "1:1" + s} {
			want := api.ErrForm
			if b >= '0' && b <= '9' {
				want = api.OK
				if b == '0' && i == 0 {
					want = api.ErrRange
				}
			}
			if _, e := Parse(text); e != want {
				t.Errorf("Parse(%q): %d, not %d", text, e, want)
			}
		}
	}
}

func TestTexts(t *testing.T) {
	for want, l := range map[string][]api.Comm{
		"":                             nil,
		"1:0":                          pairs(1, 0),
		"65000:1 65000:2":              pairs(65000, 1, 65000, 2),
		"9:10 10:9 no-export":          pairs(9, 10, 10, 9, 65535, 65281),
		"no-export no-advertise local": pairs(65535, 65281, 65535, 65282, 65535, 65283),
		"65000:1 65000:2 65000:3 65000:4 65000:5 65000:6 65000:7 65000:8": row(1, 8),
	} {
		if got := Texts(l); got != want {
			t.Errorf("Texts(%v): %q, not %q", l, got, want)
		}
	}
	if Texts([]api.Comm{}) != "" {
		t.Error("a set without communities has a text")
	}
	for _, l := range noSets() {
		if got := Texts(l); got != "" {
			t.Errorf("Texts(%v): %q", l, got)
		}
	}
}
