package wire

import (
	"bytes"
	"encoding/binary"
	"slices"
	"testing"

	"whirligig/api"
)

// raw is an update's message around parts that are told, with right lengths.
func raw(withdrawn, attributes, told []byte) []byte {
	b := head(23+len(withdrawn)+len(attributes)+len(told), 2)
	b = binary.BigEndian.AppendUint16(b, uint16(len(withdrawn)))
	b = append(b, withdrawn...)
	b = binary.BigEndian.AppendUint16(b, uint16(len(attributes)))
	b = append(b, attributes...)
	return append(b, told...)
}

// piece is an attribute's bytes.
func piece(flags, kind byte, value ...byte) []byte {
	return append([]byte{flags, kind, byte(len(value))}, value...)
}

// fours is numbers in four bytes each.
func fours(l ...int) []byte {
	var b []byte
	for _, n := range l {
		b = binary.BigEndian.AppendUint32(b, uint32(n))
	}
	return b
}

// twos is numbers in two bytes each.
func twos(l ...int) []byte {
	var b []byte
	for _, n := range l {
		b = binary.BigEndian.AppendUint16(b, uint16(n))
	}
	return b
}

// pieces is the bytes of attributes one by one, by other means than those of the package.
func pieces(a api.Attr) [][]byte {
	path := piece(64, 2)
	if len(a.Path) > 0 {
		path = piece(64, 2, append([]byte{2, byte(len(a.Path))}, twos(a.Path...)...)...)
	}
	l := [][]byte{piece(64, 1, byte(a.Origin)), path}
	if a.Med != 0 {
		l = append(l, piece(128, 4, fours(a.Med)...))
	}
	l = append(l, piece(64, 5, fours(a.Pref)...))
	var comms []byte
	for _, c := range a.Comms {
		comms = append(comms, twos(c.AS, c.N)...)
	}
	if len(comms) > 0 {
		l = append(l, piece(192, 8, comms...))
	}
	if a.From != 0 {
		l = append(l, piece(128, 9, fours(a.From)...))
	}
	if len(a.Clusters) > 0 {
		l = append(l, piece(128, 10, fours(a.Clusters...)...))
	}
	return l
}

// prefixBytes is the bytes of prefixes, by other means than those of the package.
func prefixBytes(l []api.Prefix) []byte {
	var b []byte
	for _, p := range l {
		whole := fours(int(p.Addr))
		b = append(b, byte(p.Bits))
		for at := 0; at < p.Bits; at += 8 {
			b = append(b, whole[at/8])
		}
	}
	return b
}

// written is an update's bytes, by other means than those of the package.
func written(u Update) []byte {
	var attributes []byte
	if len(u.Told) > 0 {
		attributes = slices.Concat(pieces(u.Attr)...)
	}
	return raw(prefixBytes(u.Withdrawn), attributes, prefixBytes(u.Told))
}

func TestEncodeByHand(t *testing.T) {
	for _, c := range []struct {
		name string
		u    Update
		want []byte // behind the sixteen bytes 255
	}{
		{"one is withdrawn", Update{Withdrawn: []api.Prefix{pre(10, 0, 0, 0, 8)}},
			[]byte{0, 25, 2, 0, 2, 8, 10, 0, 0}},
		{"no bits are withdrawn", Update{Withdrawn: []api.Prefix{{}}},
			[]byte{0, 24, 2, 0, 1, 0, 0, 0}},
		{"some are withdrawn", Update{Withdrawn: []api.Prefix{pre(10, 0, 0, 0, 8), pre(10, 128, 0, 0, 9), pre(10, 129, 2, 3, 32)}},
			[]byte{0, 33, 2, 0, 10, 8, 10, 9, 10, 128, 32, 10, 129, 2, 3, 0, 0}},
		{"one is told, with nothing", Update{Told: []api.Prefix{pre(10, 0, 0, 0, 8)}},
			[]byte{0, 39, 2, 0, 0, 0, 14, 64, 1, 1, 0, 64, 2, 0, 64, 5, 4, 0, 0, 0, 0, 8, 10}},
		{"one is told, by a path", Update{Told: []api.Prefix{pre(10, 0, 0, 0, 8)}, Attr: api.Attr{Pref: 100, Path: []int{1, 65000}}},
			[]byte{0, 45, 2, 0, 0, 0, 20, 64, 1, 1, 0, 64, 2, 6, 2, 2, 0, 1, 253, 232, 64, 5, 4, 0, 0, 0, 100, 8, 10}},
		{"both, with everything",
			Update{
				Withdrawn: []api.Prefix{pre(1, 2, 0, 0, 15)},
				Told:      []api.Prefix{{}, pre(1, 2, 3, 0, 24), pre(1, 2, 3, 128, 25)},
				Attr: api.Attr{
					Pref: 1 << 20, Med: 66051, Origin: 2, Path: []int{258}, From: 65535,
					Comms: []api.Comm{{AS: 1}, {AS: 65535, N: 65281}}, Clusters: []int{772, 1},
				},
			},
			[]byte{
				0, 90, 2, 0, 3, 15, 1, 2, 0, 54,
				64, 1, 1, 2, 64, 2, 4, 2, 1, 1, 2, 128, 4, 4, 0, 1, 2, 3, 64, 5, 4, 0, 16, 0, 0,
				192, 8, 8, 0, 1, 0, 0, 255, 255, 255, 1, 128, 9, 4, 0, 0, 255, 255, 128, 10, 8, 0, 0, 3, 4, 0, 0, 0, 1,
				0, 24, 1, 2, 3, 25, 1, 2, 3, 128,
			}},
	} {
		want := append(bytes.Repeat([]byte{255}, 16), c.want...)
		if len(want) != int(c.want[0])<<8+int(c.want[1]) {
			t.Fatalf("%s: the test's own length is wrong: %d", c.name, len(want))
		}
		if b, e := Encode(c.u); e != api.OK || !bytes.Equal(b, want) {
			t.Errorf("%s: %v %d, not %v", c.name, b, e, want)
		}
		if u, e := Decode(want); e != api.OK || !like(u, c.u) {
			t.Errorf("%s: read %v %d, not %v", c.name, u, e, c.u)
		}
	}
}

func TestEncode(t *testing.T) {
	for _, u := range rightUpdates() {
		want := written(u)
		for _, v := range []Update{u, twin(u)} {
			was := twin(v)
			b, e := Encode(v)
			if e != api.OK || !bytes.Equal(b, want) {
				t.Errorf("Encode(%v): %v %d, not %v", v, b, e, want)
			}
			if !like(v, was) {
				t.Errorf("Encode(%v) changed what it was handed", was)
			}
		}
	}
}

func TestEncodeOfTheMost(t *testing.T) {
	u := Update{Withdrawn: pres(32, 32), Told: pres(32, 32), Attr: greatest()}
	if b, e := Encode(u); e != api.OK || len(b) != 475 {
		t.Errorf("%d bytes, %d", len(b), e)
	}
}

func TestEncodeWrong(t *testing.T) {
	for _, u := range wrongUpdates() {
		if b, e := Encode(u); e != api.ErrArg || len(b) != 0 {
			t.Errorf("Encode(%v): %v %d", u, b, e)
		}
	}
}

func TestEncodeNewMemory(t *testing.T) {
	for _, u := range rightUpdates() {
		mine := twin(u)
		first, _ := Encode(mine)
		second, _ := Encode(mine)
		spoil(first, 77)
		spoilUpdate(mine)
		if !bytes.Equal(second, written(u)) {
			t.Fatalf("Encode(%v): two answers share memory, or one keeps what was handed in", u)
		}
	}
}

func TestPrefix(t *testing.T) {
	for _, c := range []struct {
		p    api.Prefix
		want []byte
	}{
		{api.Prefix{}, []byte{0}},
		{pre(128, 0, 0, 0, 1), []byte{1, 128}},
		{pre(0, 0, 0, 0, 1), []byte{1, 0}},
		{pre(10, 0, 0, 0, 8), []byte{8, 10}},
		{pre(10, 0, 0, 0, 9), []byte{9, 10, 0}},
		{pre(10, 128, 0, 0, 9), []byte{9, 10, 128}},
		{pre(10, 1, 0, 0, 16), []byte{16, 10, 1}},
		{pre(10, 1, 128, 0, 17), []byte{17, 10, 1, 128}},
		{pre(10, 1, 2, 0, 24), []byte{24, 10, 1, 2}},
		{pre(10, 1, 2, 128, 25), []byte{25, 10, 1, 2, 128}},
		{pre(255, 254, 253, 252, 32), []byte{32, 255, 254, 253, 252}},
	} {
		for _, b := range [][]byte{nil, {}, {7}, {1, 2, 3, 4, 5, 6, 7, 8}} {
			was := slices.Clone(b)
			if got := Prefix(b, c.p); !bytes.Equal(got, slices.Concat(was, c.want)) {
				t.Errorf("Prefix(%v, %v): %v", b, c.p, got)
			}
			if !bytes.Equal(b, was) {
				t.Errorf("Prefix(%v, %v) changed what it was handed", was, c.p)
			}
		}
	}
}

// wrongPrefixes is prefixes that may not be.
func wrongPrefixes() []api.Prefix {
	l := []api.Prefix{pre(10, 0, 0, 1, 8), pre(0, 0, 0, 1, 31), pre(128, 0, 0, 0, 0), pre(10, 64, 0, 0, 9)}
	for _, bits := range []int{-1, 33, 64, 256, 256 + 8, -248, 1 << 32} {
		l = append(l, api.Prefix{Bits: bits}, pre(10, 0, 0, 0, bits))
	}
	return l
}

func TestPrefixWrong(t *testing.T) {
	for _, p := range wrongPrefixes() {
		for _, b := range [][]byte{nil, {}, {7}, {1, 2, 3}} {
			if got := Prefix(b, p); !bytes.Equal(got, b) {
				t.Errorf("Prefix(%v, %v): %v", b, p, got)
			}
		}
	}
}

func TestPrefixNewMemory(t *testing.T) {
	for _, p := range []api.Prefix{{}, pre(10, 0, 0, 0, 8), pre(1, 2, 3, 4, 32), {Bits: 33}} {
		all := []byte{1, 2, 3, 4, 5, 6, 7, 8, 9, 10, 11, 12}
		was := slices.Clone(all)
		b := all[:4]
		want := was[:4]
		if p.Bits <= 32 {
			want = slices.Concat(was[:4], prefixBytes([]api.Prefix{p}))
		}
		first, second := Prefix(b, p), Prefix(b, p)
		if !bytes.Equal(all, was) {
			t.Fatalf("Prefix of %v wrote over what lies behind", p)
		}
		spoil(first, 77)
		if !bytes.Equal(all, was) || !bytes.Equal(second, want) {
			t.Fatalf("Prefix of %v: the answer shares memory", p)
		}
		spoil(b, 78)
		if !bytes.Equal(second, want) {
			t.Fatalf("Prefix of %v: the answer keeps what was handed in", p)
		}
	}
}
