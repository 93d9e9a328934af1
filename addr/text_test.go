package addr

import (
	"math"
	"strings"
	"testing"

	"whirligig/api"
)

func TestText(t *testing.T) {
	for want, p := range map[string]api.Prefix{
		"0.0.0.0/0":          {},
		"0.0.0.0/32":         {Addr: 0, Bits: 32},
		"10.0.0.0/8":         {Addr: 10 << 24, Bits: 8},
		"1.20.0.255/32":      {Addr: 1<<24 | 20<<16 | 255, Bits: 32},
		"192.168.100.0/24":   {Addr: 192<<24 | 168<<16 | 100<<8, Bits: 24},
		"255.255.255.255/32": {Addr: math.MaxUint32, Bits: 32},
	} {
		if got := Text(p); got != want {
			t.Errorf("Text(%v): %q, not %q", p, got, want)
		}
		if got, e := Parse(want); got != p || e != api.OK {
			t.Errorf("Parse(%q): %v %d", want, got, e)
		}
	}
}

func TestParsedOfItsText(t *testing.T) {
	for _, p := range some() {
		if got, e := Parse(Text(p)); got != p || e != api.OK {
			t.Errorf("Parse(Text(%v)): %v %d", p, got, e)
		}
	}
	for bits := range 33 {
		for i := range uint32(64) {
			p := api.Prefix{Addr: cut(i*0x9e3779b9+i, bits), Bits: bits}
			if got, e := Parse(Text(p)); got != p || e != api.OK {
				t.Errorf("Parse(Text(%v)): %v %d", p, got, e)
			}
		}
	}
}

// refused asks that each text is refused with an error, and that nothing stands beside it.
func refused(t *testing.T, want api.Errno, texts ...string) {
	t.Helper()
	for _, s := range texts {
		if p, e := Parse(s); e != want || p != (api.Prefix{}) {
			t.Errorf("Parse(%.40q): %v %d, not %d", s, p, e, want)
		}
	}
}

func TestParseForm(t *testing.T) {
	refused(t, api.ErrForm,
		"", "/", ".", ".../", "10", "10.0.0.0", "10.0.0.0/", "10.0.0/8", "10.0.0.0.0/8", "/8",
		"10.0.0.0/8/8", "10.0.0.0.8", "10/0.0.0/8", "10..0.0/8", ".0.0.0/8", "10.0.0./8",
		"010.0.0.0/8", "00.0.0.0/8", "10.00.0.0/8", "10.0.0.00/8", "10.0.0.0/08", "10.0.0.0/00",
		" 10.0.0.0/8", "10.0.0.0/8 ", "10.0.0.0 /8", "10. 0.0.0/8", "+10.0.0.0/8", "10.-1.0.0/8",
		"10.0.0.0/-8", "10.0.0.0/+8", "10.0.0.0/8.", "a.0.0.0/8", "10.0.0.0/x", "0x10.0.0.0/8",
		"1_0.0.0.0/8", "10.0.0.0/8\x00", "10.0.0.0\\8", "10,0,0,0/8", "٣.0.0.0/8", "10.0.0.0/\xff",
	)
}

func TestParseRange(t *testing.T) {
	nines := strings.Repeat("9", 4096)
	refused(t, api.ErrRange,
		"256.0.0.0/8", "10.256.0.0/16", "10.0.256.0/24", "10.0.0.256/32", "999.0.0.0/8",
		"1000.0.0.0/8", "10.0.0.1000/32", "10.0.0.0/33", "10.0.0.0/100", "10.0.0.0/1000",
		"4294967296.0.0.0/8", "18446744073709551616.0.0.0/8", "18446744073709551626.0.0.0/8",
		"10.0.0.0/18446744073709551624", nines+".0.0.0/8", "10.0.0.0/"+nines,
	)
}

func TestParseBits(t *testing.T) {
	refused(t, api.ErrArg,
		"10.0.0.1/8", "10.128.0.0/8", "0.0.0.1/0", "128.0.0.0/0", "255.255.255.255/31", "255.255.255.255/0",
	)
}

func TestParseErrorsInOrder(t *testing.T) {
	refused(t, api.ErrForm, "256.0.0.0/08", "10.0.0.0/33x", "1000.0.0.01/8", "256.0.0.0", "300.0.0.0/")
	refused(t, api.ErrRange, "10.0.0.256/8", "256.0.0.1/8", "10.0.0.1/33", "0.0.0.1/1000")
	refused(t, api.ErrArg, "10.0.0.1/8")
}

func TestParseEdges(t *testing.T) {
	for s, want := range map[string]api.Prefix{
		"255.0.0.0/8":      {Addr: 255 << 24, Bits: 8},
		"0.0.0.255/32":     {Addr: 255, Bits: 32},
		"0.0.0.0/0":        {},
		"100.0.0.0/6":      {Addr: 100 << 24, Bits: 6},
		"199.249.99.30/31": {Addr: 199<<24 | 249<<16 | 99<<8 | 30, Bits: 31},
	} {
		if got, e := Parse(s); got != want || e != api.OK {
			t.Errorf("Parse(%q): %v %d", s, got, e)
		}
	}
}
