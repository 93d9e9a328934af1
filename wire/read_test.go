package wire

import (
	"bytes"
	"math"
	"math/rand"
	"slices"
	"testing"

	"whirligig/api"
)

// judge reads an update strictly from its first byte to its last, each rule where it stands.
type judge struct {
	b  []byte
	ok bool
}

// cut is the next bytes; zeros, if they aren't all there.
func (j *judge) cut(many int) []byte {
	if many > len(j.b) {
		j.ok, j.b = false, nil
		return make([]byte, many)
	}
	c := j.b[:many]
	j.b = j.b[many:]
	return c
}

// ask keeps that something isn't right.
func (j *judge) ask(right bool) { j.ok = j.ok && right }

// big is the number of some bytes.
func big(b []byte) int {
	n := 0
	for i := range b {
		n = n*256 + int(b[i])
	}
	return n
}

// list is the prefixes that some bytes are.
func (j *judge) list(b []byte) []api.Prefix {
	in := judge{b, true}
	var l []api.Prefix
	for in.ok && len(in.b) > 0 {
		bits := big(in.cut(1))
		if bits > 32 {
			j.ask(false)
			return nil
		}
		first := in.cut((bits + 7) / 8)
		whole := append(slices.Clone(first), make([]byte, 4-len(first))...)
		p := api.Prefix{Addr: uint32(big(whole)), Bits: bits}
		for i := bits; i < 32; i++ {
			in.ask(p.Addr>>(31-i)&1 == 0)
		}
		if len(l) > 0 {
			last := l[len(l)-1]
			in.ask(last.Addr < p.Addr || last.Addr == p.Addr && last.Bits < p.Bits)
		}
		l = append(l, p)
	}
	j.ask(in.ok && len(l) <= 32)
	return l
}

// value is the bytes of the attribute that must come next.
func (j *judge) value(flags, kind byte) []byte {
	top := j.cut(3)
	j.ask(top[0] == flags && top[1] == kind)
	return j.cut(int(top[2]))
}

// number is a number that must come next, in so many bytes.
func (j *judge) number(flags, kind byte, many, least, most int) int {
	v := j.value(flags, kind)
	j.ask(len(v) == many && big(v) >= least && big(v) <= most)
	return big(v)
}

// comes tells whether an attribute of a type comes next.
func (j *judge) comes(kind byte) bool { return len(j.b) > 1 && j.b[1] == kind }

// attributes is the attributes that some bytes are.
func (j *judge) attributes(b []byte) api.Attr {
	in := judge{b, true}
	a := api.Attr{Origin: in.number(64, 1, 1, 0, 2)}
	if v := in.value(64, 2); len(v) > 0 {
		in.ask(len(v)%2 == 0 && len(v) >= 4 && len(v) <= 34 && v[0] == 2 && int(v[1]) == len(v)/2-1)
		for i := 2; in.ok && i < len(v); i += 2 {
			a.Path = append(a.Path, big(v[i:i+2]))
			in.ask(big(v[i:i+2]) > 0)
		}
	}
	if in.comes(4) {
		a.Med = in.number(128, 4, 4, 1, 1<<20)
	}
	a.Pref = in.number(64, 5, 4, 0, 1<<20)
	if in.comes(8) {
		v := in.value(192, 8)
		in.ask(len(v)%4 == 0 && len(v) >= 4 && len(v) <= 32)
		for i := 0; in.ok && i < len(v); i += 4 {
			a.Comms = append(a.Comms, api.Comm{AS: big(v[i : i+2]), N: big(v[i+2 : i+4])})
			in.ask(big(v[i:i+2]) > 0 && (i == 0 || big(v[i-4:i]) < big(v[i:i+4])))
		}
	}
	if in.comes(9) {
		a.From = in.number(128, 9, 4, 1, 65535)
	}
	if in.comes(10) {
		v := in.value(128, 10)
		in.ask(len(v)%4 == 0 && len(v) >= 4 && len(v) <= 32)
		for i := 0; in.ok && i < len(v); i += 4 {
			n := big(v[i : i+4])
			in.ask(n >= 1 && n <= 65535 && !slices.Contains(a.Clusters, n))
			a.Clusters = append(a.Clusters, n)
		}
	}
	j.ask(in.ok && len(in.b) == 0)
	return a
}

// judged is what Decode should answer.
func judged(b []byte) (Update, api.Errno) {
	if len(b) < 19 {
		return Update{}, api.ErrEnd
	}
	j := judge{b, true}
	j.ask(bytes.Equal(j.cut(16), bytes.Repeat([]byte{255}, 16)))
	j.ask(big(j.cut(2)) == len(b))
	j.ask(big(j.cut(1)) == 2)
	u := Update{Withdrawn: j.list(j.cut(big(j.cut(2))))}
	attributes := j.cut(big(j.cut(2)))
	u.Told = j.list(j.b)
	if len(u.Told) > 0 {
		u.Attr = j.attributes(attributes)
	} else {
		j.ask(len(attributes) == 0)
	}
	j.ask(len(u.Withdrawn)+len(u.Told) > 0)
	if !j.ok {
		return Update{}, api.ErrForm
	}
	return u, api.OK
}

// reads fails the test, if bytes aren't read as the judge reads them, and tells whether they are an update's.
func reads(t *testing.T, b []byte) bool {
	t.Helper()
	was := slices.Clone(b)
	want, wantE := judged(b)
	u, e := Decode(b)
	if e != wantE || !like(u, want) {
		t.Fatalf("Decode(%v): %v %d, not %v %d", b, u, e, want, wantE)
	}
	if !bytes.Equal(b, was) {
		t.Fatalf("Decode(%v) changed what it was handed", was)
	}
	if e != api.OK {
		return false
	}
	if again, e := Encode(u); e != api.OK || !bytes.Equal(again, b) {
		t.Fatalf("%v is read as %v, which is written %v %d", b, u, again, e)
	}
	return true
}

// refused fails the test, if bytes are read.
func refused(t *testing.T, name string, b []byte, e api.Errno) {
	t.Helper()
	if u, got := Decode(b); got != e || !like(u, Update{}) {
		t.Errorf("%s: %v %d, not %d", name, u, got, e)
	}
	reads(t, b)
}

func TestDecode(t *testing.T) {
	for _, u := range rightUpdates() {
		b, _ := Encode(u)
		if !reads(t, b) {
			t.Fatalf("%v isn't read of its bytes", u)
		}
		if v, e := Decode(b); e != api.OK || !like(u, v) || !May(v) {
			t.Fatalf("%v is read as %v %d", u, v, e)
		}
	}
}

func TestDecodeOfFewBytes(t *testing.T) {
	for n := range 19 {
		refused(t, "zeros", make([]byte, n), api.ErrEnd)
		refused(t, "a head's beginning", head(23, 2)[:n], api.ErrEnd)
		refused(t, "an update's beginning", written(rightUpdates()[0])[:n], api.ErrEnd)
	}
	refused(t, "nil", nil, api.ErrEnd)
	refused(t, "19 zeros", make([]byte, 19), api.ErrForm)
	refused(t, "a head alone", head(19, 2), api.ErrForm)
	for n := 20; n < 23; n++ {
		refused(t, "a head and few bytes", append(head(n, 2), make([]byte, n-19)...), api.ErrForm)
	}
	refused(t, "an update of nothing", raw(nil, nil, nil), api.ErrForm)
}

func TestDecodeOfManyBytes(t *testing.T) {
	one := []byte{8, 10}
	b := written(Update{Withdrawn: []api.Prefix{pre(10, 0, 0, 0, 8)}})
	for _, n := range []int{4096, 4097, 65536, 65536 + len(b), 1 << 20} {
		refused(t, "zeros", make([]byte, n), api.ErrForm)
		refused(t, "bytes behind", append(slices.Clone(b), make([]byte, n-len(b))...), api.ErrForm)
		refused(t, "marks", bytes.Repeat([]byte{255}, n), api.ErrForm)
	}
	for n := range 4 {
		refused(t, "many", raw(slices.Repeat(one, 1<<n*250), nil, one), api.ErrForm)
	}
}

// samples is updates whose bytes are changed.
func samples() []Update {
	return []Update{
		{Withdrawn: []api.Prefix{pre(10, 0, 0, 0, 8)}},
		{Withdrawn: []api.Prefix{{}, pre(10, 0, 0, 0, 8), pre(10, 0, 0, 0, 9), pre(10, 1, 2, 4, 30), pre(10, 1, 2, 7, 32)}},
		{Told: []api.Prefix{pre(10, 0, 0, 0, 8)}},
		{Told: []api.Prefix{pre(10, 0, 0, 0, 8)}, Attr: api.Attr{Pref: 100, Path: []int{1, 2}}},
		{Withdrawn: pres(2, 9), Told: []api.Prefix{{}, pre(10, 128, 0, 0, 9)}, Attr: full()},
		{Withdrawn: pres(32, 8), Told: pres(32, 32), Attr: greatest()},
	}
}

func TestDecodeOfOneByteChanged(t *testing.T) {
	seen := [2]int{}
	for _, u := range samples() {
		b := written(u)
		for i := range b {
			for c := range 256 {
				changed := slices.Clone(b)
				changed[i] = byte(c)
				right := reads(t, changed)
				if i < 19 && right != (b[i] == byte(c)) {
					t.Fatalf("a head's byte %d is %d: read %v", i, c, right)
				}
				if right {
					seen[0]++
				} else {
					seen[1]++
				}
			}
		}
	}
	if seen[0] < 3000 || seen[1] < 3000 {
		t.Error("too few of one kind:", seen)
	}
}

func TestDecodeOfBytesCutAndMore(t *testing.T) {
	for _, u := range samples() {
		b := written(u)
		for n := range b {
			reads(t, b[:n])
			if n < 19 {
				continue
			}
			short := slices.Clone(b[:n]) // cut, with a head that says so
			short[16], short[17] = byte(n>>8), byte(n)
			reads(t, short)
			reads(t, sizedAs(slices.Concat(b[:n], b[n+1:])))
		}
		for c := range 256 {
			long := append(slices.Clone(b), byte(c))
			refused(t, "a byte more", long, api.ErrForm)
			reads(t, sizedAs(long))
			for n := 19; n < len(b); n++ {
				reads(t, sizedAs(slices.Concat(b[:n], []byte{byte(c)}, b[n:])))
			}
		}
		refused(t, "twice", slices.Concat(b, b), api.ErrForm)
		refused(t, "twice, as one", sizedAs(slices.Concat(b, b)), api.ErrForm)
	}
}

// sizedAs is bytes whose head says how many they are.
func sizedAs(b []byte) []byte {
	b[16], b[17] = byte(len(b)>>8), byte(len(b))
	return b
}

func TestDecodeOfPiecesMoved(t *testing.T) {
	told := []byte{8, 10}
	for _, a := range rightAttrs() {
		l := pieces(a)
		refused(t, "attributes and none told", raw(told, slices.Concat(l...), nil), api.ErrForm)
		refused(t, "told and no attributes", raw(nil, nil, told), api.ErrForm)
		for i := range l {
			for k := range i { // another order
				moved := slices.Clone(l)
				moved[i], moved[k] = moved[k], moved[i]
				refused(t, "moved", raw(nil, slices.Concat(moved...), told), api.ErrForm)
			}
			for k := range len(l) + 1 { // one that is there twice
				refused(t, "twice", raw(nil, slices.Concat(slices.Insert(slices.Clone(l), k, l[i])...), told), api.ErrForm)
			}
			// one that isn't there
			reads(t, raw(nil, slices.Concat(slices.Delete(slices.Clone(l), i, i+1)...), told))
			// other flags, and another type
			for c := range 256 {
				for place := range 2 {
					other := slices.Clone(l)
					other[i] = slices.Clone(l[i])
					other[i][place] = byte(c)
					if reads(t, raw(nil, slices.Concat(other...), told)) && c != int(l[i][place]) && place == 0 {
						t.Fatalf("attribute %d of %v is read with the flags %d", i, a, c)
					}
				}
			}
		}
	}
}

func TestDecodeOfPiecesThatAreNone(t *testing.T) {
	origin, path, pref := piece(64, 1, 0), piece(64, 2), piece(64, 5, fours(100)...)
	med, comms, from, clusters := piece(128, 4, fours(1)...), piece(192, 8, twos(1, 1)...), piece(128, 9, fours(1)...), piece(128, 10, fours(1)...)
	told := []byte{8, 10}
	if !reads(t, raw(nil, slices.Concat(origin, path, med, pref, comms, from, clusters), told)) {
		t.Fatal("what is right isn't read")
	}
	long := slices.Repeat(twos(1), 17)
	for name, l := range map[string][][]byte{
		"no origin":              {path, pref},
		"no path":                {origin, pref},
		"no pref":                {origin, path},
		"a Med of 0":             {origin, path, piece(128, 4, fours(0)...), pref},
		"a From of 0":            {origin, path, pref, piece(128, 9, fours(0)...)},
		"no communities":         {origin, path, pref, piece(192, 8)},
		"no clusters":            {origin, path, pref, piece(128, 10)},
		"a path of 0 numbers":    {origin, piece(64, 2, 2, 0), pref},
		"a path's kind alone":    {origin, piece(64, 2, 2), pref},
		"a path of a set":        {origin, piece(64, 2, 1, 1, 0, 7), pref},
		"fewer than said":        {origin, piece(64, 2, 2, 2, 0, 7), pref},
		"more than said":         {origin, piece(64, 2, 2, 1, 0, 7, 0, 8), pref},
		"half a number":          {origin, piece(64, 2, 2, 1, 0), pref},
		"a path in two parts":    {origin, piece(64, 2, 2, 1, 0, 7, 2, 1, 0, 8), pref},
		"a path with 0":          {origin, piece(64, 2, 2, 1, 0, 0), pref},
		"a path of 17":           {origin, piece(64, 2, append([]byte{2, 17}, long...)...), pref},
		"an origin of 3":         {piece(64, 1, 3), path, pref},
		"an origin of no bytes":  {piece(64, 1), path, pref},
		"an origin of two bytes": {piece(64, 1, 0, 0), path, pref},
		"a Med of three bytes":   {origin, path, piece(128, 4, 0, 0, 1), pref},
		"a Med of five bytes":    {origin, path, piece(128, 4, 0, 0, 0, 1, 0), pref},
		"a Med too great":        {origin, path, piece(128, 4, fours(1<<20+1)...), pref},
		"a Med of all bits":      {origin, path, piece(128, 4, 255, 255, 255, 255), pref},
		"a Pref of three bytes":  {origin, path, piece(64, 5, 0, 0, 100)},
		"a Pref of five bytes":   {origin, path, piece(64, 5, 0, 0, 0, 0, 100)},
		"a Pref too great":       {origin, path, piece(64, 5, fours(1<<20+1)...)},
		"a Pref of all bits":     {origin, path, piece(64, 5, 255, 255, 255, 255)},
		"half a community":       {origin, path, pref, piece(192, 8, 0, 1)},
		"a community cut":        {origin, path, pref, piece(192, 8, 0, 1, 0, 1, 0)},
		"an AS of 0":             {origin, path, pref, piece(192, 8, 0, 0, 0, 1)},
		"communities twice":      {origin, path, pref, piece(192, 8, twos(1, 1, 1, 1)...)},
		"communities falling":    {origin, path, pref, piece(192, 8, twos(1, 2, 1, 1)...)},
		"nine communities":       {origin, path, pref, piece(192, 8, twos(1, 1, 1, 2, 1, 3, 1, 4, 1, 5, 1, 6, 1, 7, 1, 8, 1, 9)...)},
		"a From too great":       {origin, path, pref, piece(128, 9, fours(65536)...)},
		"a From of two bytes":    {origin, path, pref, piece(128, 9, 0, 1)},
		"a cluster of 0":         {origin, path, pref, piece(128, 10, fours(0)...)},
		"a cluster too great":    {origin, path, pref, piece(128, 10, fours(65536)...)},
		"a cluster cut":          {origin, path, pref, piece(128, 10, 0, 0, 1)},
		"clusters twice":         {origin, path, pref, piece(128, 10, fours(1, 2, 1)...)},
		"nine clusters":          {origin, path, pref, piece(128, 10, fours(rising(1, 9)...)...)},
		"a type not known":       {origin, path, piece(64, 3, 1, 2, 3, 4), pref},
		"a type 0":               {origin, path, pref, piece(64, 0)},
		"a type behind the last": {origin, path, pref, clusters, piece(192, 16, 1)},
		"a length of two bytes":  {{80, 1, 0, 1, 0}, path, pref},
		"an attribute cut":       {origin, path, pref[:6]},
		"a flag alone":           {origin, path, pref, {128}},
		"a flag and a type":      {origin, path, pref, {128, 9}},
		"from ahead of comms":    {origin, path, pref, from, comms},
		"med behind pref":        {origin, path, pref, med},
		"pref ahead of origin":   {pref, origin, path},
	} {
		refused(t, name, raw(nil, slices.Concat(l...), told), api.ErrForm)
		refused(t, name+", with withdrawn ones", raw(told, slices.Concat(l...), told), api.ErrForm)
	}
	refused(t, "empty attributes, none told", raw(told, slices.Concat(origin, path, piece(64, 5, 0, 0, 0, 0)), nil), api.ErrForm)
}

func TestDecodeOfPrefixesThatAreNone(t *testing.T) {
	attributes := slices.Concat(pieces(full())...)
	for _, l := range wrongLists() {
		if len(l) == 1 && (l[0].Bits < 0 || l[0].Bits > 32) { // they have no bytes
			continue
		}
		b := prefixBytes(l)
		if slices.ContainsFunc(l, func(p api.Prefix) bool { return p == pre(10, 0, 0, 1, 8) || p == pre(0, 0, 0, 1, 0) }) {
			continue // what makes them wrong isn't among their bytes
		}
		refused(t, "withdrawn", raw(b, nil, nil), api.ErrForm)
		refused(t, "told", raw(nil, attributes, b), api.ErrForm)
	}
	for name, b := range map[string][]byte{
		"33 bits":              {33, 1, 2, 3, 4, 0},
		"33 bits, four bytes":  {33, 1, 2, 3, 4},
		"255 bits":             append([]byte{255}, make([]byte, 32)...),
		"a rest of 7 bits":     {1, 129},
		"a rest of 1 bit":      {7, 3},
		"a rest of 31":         {31, 1, 2, 3, 1},
		"a byte is lacking":    {8},
		"bytes are lacking":    {32, 1, 2, 3},
		"the second is cut":    {8, 10, 9, 11},
		"the second has bits":  {8, 10, 9, 11, 64},
		"the second is ahead":  {8, 10, 8, 9},
		"a byte behind":        {8, 10, 10},
		"one without bits, 33": {0, 33, 1, 2, 3, 4, 0},
	} {
		refused(t, name+", withdrawn", raw(b, nil, nil), api.ErrForm)
		refused(t, name+", told", raw(nil, attributes, b), api.ErrForm)
	}
}

func TestDecodeOfLengths(t *testing.T) {
	u := Update{Withdrawn: pres(2, 8), Told: pres(2, 8), Attr: full()}
	b := written(u)
	behind := 21 + len(prefixBytes(u.Withdrawn))
	for _, at := range []int{16, 19, behind} {
		for n := range 65536 {
			if n > 5000 && n%97 != 0 && n < 65000 {
				continue
			}
			changed := slices.Clone(b)
			changed[at], changed[at+1] = byte(n>>8), byte(n)
			if right := reads(t, changed); right != bytes.Equal(changed, b) {
				t.Fatalf("a length %d at %d: read %v", n, at, right)
			}
		}
	}
}

// drawn is an update of few numbers that may be.
func drawn(r *rand.Rand) Update {
	list := func() []api.Prefix {
		var l []api.Prefix
		a := uint32(0)
		for range r.Intn(4) {
			bits := r.Intn(33)
			a += uint32(r.Intn(1<<16)) << 14
			p := api.Prefix{Addr: a &^ uint32(1<<(32-bits)-1), Bits: bits}
			if n := len(l); n == 0 || l[n-1].Addr < p.Addr || l[n-1].Addr == p.Addr && l[n-1].Bits < p.Bits {
				l = append(l, p)
			}
		}
		return l
	}
	u := Update{Withdrawn: list(), Told: list()}
	if len(u.Told) == 0 {
		if len(u.Withdrawn) == 0 {
			u.Withdrawn = pres(1, 1+r.Intn(32))
		}
		return u
	}
	u.Attr = api.Attr{Pref: r.Intn(1<<20 + 1), Med: r.Intn(2) * r.Intn(1<<20+1), Origin: r.Intn(3), From: r.Intn(2) * r.Intn(65536)}
	for range r.Intn(17) {
		u.Attr.Path = append(u.Attr.Path, 1+r.Intn(65535))
	}
	u.Attr.Comms = row(r.Intn(60000), r.Intn(9))
	u.Attr.Clusters = rising(1+r.Intn(60000), r.Intn(9))
	return u
}

func TestDecodeOfMany(t *testing.T) {
	r := rand.New(rand.NewSource(31))
	seen := [2]int{}
	for range 30000 {
		u := drawn(r)
		b, e := Encode(u)
		if e != api.OK || !bytes.Equal(b, written(u)) || !reads(t, b) {
			t.Fatalf("%v: %v %d", u, b, e)
		}
		for range 1 + r.Intn(3) {
			switch i := 19 + r.Intn(len(b)-19); r.Intn(4) {
			case 0:
				b[i] = byte(r.Intn(256))
			case 1:
				b[i] ^= 1 << r.Intn(8)
			case 2:
				b = slices.Insert(b, i, byte(r.Intn(256)))
			default:
				b = slices.Delete(b, i, i+1)
			}
			if len(b) == 19 {
				break
			}
		}
		if reads(t, sizedAs(b)) {
			seen[0]++
		} else {
			seen[1]++
		}
	}
	if seen[0] < 1000 || seen[1] < 1000 {
		t.Error("too few of one kind:", seen)
	}
}

func TestDecodeOfNoise(t *testing.T) {
	r := rand.New(rand.NewSource(32))
	few := []byte{0, 1, 2, 4, 5, 8, 9, 10, 32, 64, 128, 192, 255}
	for range 50000 {
		body := make([]byte, r.Intn(60))
		for i := range body {
			body[i] = few[r.Intn(len(few))]
		}
		reads(t, append(head(19+len(body), 2), body...))
		cut := r.Intn(len(body) + 1)
		reads(t, raw(nil, body[:cut], body[cut:]))
		reads(t, raw(body[:cut], nil, body[cut:]))
	}
}

func TestDecodeNewMemory(t *testing.T) {
	for _, u := range rightUpdates() {
		b := written(u)
		first, _ := Decode(b)
		second, _ := Decode(b)
		spoilUpdate(first)
		if !bytes.Equal(b, written(u)) || !like(second, u) {
			t.Fatalf("%v: an answer shares memory", u)
		}
		spoil(b, 77)
		if !like(second, u) {
			t.Fatalf("%v: an answer keeps what was handed in", u)
		}
		spoil(second.Withdrawn, api.Prefix{Bits: -77})
		if !slices.Equal(second.Told, u.Told) {
			t.Fatalf("%v: the lists of one answer share memory", u)
		}
	}
}

func TestTake(t *testing.T) {
	for _, c := range []struct {
		name string
		b    []byte
		at   int
		p    api.Prefix
		next int
		e    api.Errno
	}{
		{"no bits", []byte{0}, 0, api.Prefix{}, 1, api.OK},
		{"no bits, and more", []byte{0, 9, 9}, 0, api.Prefix{}, 1, api.OK},
		{"1 bit", []byte{1, 128}, 0, pre(128, 0, 0, 0, 1), 2, api.OK},
		{"8 bits", []byte{8, 10}, 0, pre(10, 0, 0, 0, 8), 2, api.OK},
		{"9 bits", []byte{9, 10, 128}, 0, pre(10, 128, 0, 0, 9), 3, api.OK},
		{"9 bits, the last one 0", []byte{9, 10, 0}, 0, pre(10, 0, 0, 0, 9), 3, api.OK},
		{"16 bits", []byte{16, 10, 1}, 0, pre(10, 1, 0, 0, 16), 3, api.OK},
		{"17 bits", []byte{17, 10, 1, 128}, 0, pre(10, 1, 128, 0, 17), 4, api.OK},
		{"24 bits", []byte{24, 10, 1, 2}, 0, pre(10, 1, 2, 0, 24), 4, api.OK},
		{"25 bits", []byte{25, 10, 1, 2, 128}, 0, pre(10, 1, 2, 128, 25), 5, api.OK},
		{"31 bits", []byte{31, 10, 1, 2, 254}, 0, pre(10, 1, 2, 254, 31), 5, api.OK},
		{"32 bits", []byte{32, 255, 255, 255, 255}, 0, pre(255, 255, 255, 255, 32), 5, api.OK},
		{"a place between", []byte{9, 8, 10, 7}, 1, pre(10, 0, 0, 0, 8), 3, api.OK},
		{"the last place", []byte{8, 10, 0}, 2, api.Prefix{}, 3, api.OK},
		{"the last place, lacking", []byte{8, 10}, 1, api.Prefix{}, 0, api.ErrEnd},
		{"nil", nil, 0, api.Prefix{}, 0, api.ErrEnd},
		{"empty", []byte{}, 0, api.Prefix{}, 0, api.ErrEnd},
		{"below 0", []byte{8, 10}, -1, api.Prefix{}, 0, api.ErrEnd},
		{"far below 0", []byte{8, 10}, math.MinInt, api.Prefix{}, 0, api.ErrEnd},
		{"behind the end", []byte{8, 10}, 2, api.Prefix{}, 0, api.ErrEnd},
		{"one more", []byte{8, 10}, 3, api.Prefix{}, 0, api.ErrEnd},
		{"far behind the end", []byte{8, 10}, math.MaxInt, api.Prefix{}, 0, api.ErrEnd},
		{"no byte of 8 bits", []byte{8}, 0, api.Prefix{}, 0, api.ErrEnd},
		{"one byte of 9 bits", []byte{9, 10}, 0, api.Prefix{}, 0, api.ErrEnd},
		{"three bytes of 32 bits", []byte{32, 1, 2, 3}, 0, api.Prefix{}, 0, api.ErrEnd},
		{"lacking ahead of a rest", []byte{17, 1, 255}, 0, api.Prefix{}, 0, api.ErrEnd},
		{"33 bits, alone", []byte{33}, 0, api.Prefix{}, 0, api.ErrEnd},
		{"33 bits, a byte is lacking", []byte{33, 1, 2, 3, 4}, 0, api.Prefix{}, 0, api.ErrEnd},
		{"33 bits", []byte{33, 1, 2, 3, 4, 0}, 0, api.Prefix{}, 0, api.ErrForm},
		{"255 bits", make255(32), 0, api.Prefix{}, 0, api.ErrForm},
		{"255 bits, a byte is lacking", make255(31), 0, api.Prefix{}, 0, api.ErrEnd},
		{"a rest of 7 bits", []byte{1, 129}, 0, api.Prefix{}, 0, api.ErrForm},
		{"a rest of 1 bit", []byte{7, 1}, 0, api.Prefix{}, 0, api.ErrForm},
		{"a rest of 9 bits", []byte{9, 10, 64}, 0, api.Prefix{}, 0, api.ErrForm},
		{"a rest of 31 bits", []byte{31, 10, 1, 2, 1}, 0, api.Prefix{}, 0, api.ErrForm},
	} {
		was := slices.Clone(c.b)
		if p, next, e := Take(c.b, c.at); p != c.p || next != c.next || e != c.e {
			t.Errorf("%s: %v %d %d, not %v %d %d", c.name, p, next, e, c.p, c.next, c.e)
		}
		if !bytes.Equal(c.b, was) {
			t.Errorf("%s: what was handed in was changed", c.name)
		}
	}
}

// make255 is a byte 255 and as many zeros.
func make255(many int) []byte { return append([]byte{255}, make([]byte, many)...) }

func TestTakeOfAllBits(t *testing.T) {
	for bits := range 256 {
		many := (bits + 7) / 8
		for have := range many + 3 {
			for low := range 256 {
				b := append([]byte{7, byte(bits)}, bytes.Repeat([]byte{170}, have)...)
				if many > 0 && have >= many {
					b[1+many] = byte(low)
				}
				p, next, e := Take(b, 1)
				want := api.OK
				switch {
				case have < many:
					want = api.ErrEnd
				case bits > 32 || bits%8 != 0 && low%(1<<(8-bits%8)) != 0:
					want = api.ErrForm
				}
				if e != want || e != api.OK && (p != api.Prefix{} || next != 0) {
					t.Fatalf("Take(%v): %v %d %d, not %d", b, p, next, e, want)
				}
				if e == api.OK && (next != 2+many || !bytes.Equal(prefixBytes([]api.Prefix{p}), b[1:next])) {
					t.Fatalf("Take(%v): %v %d", b, p, next)
				}
			}
		}
	}
}

func TestTakeWhatPrefixWrites(t *testing.T) {
	for _, l := range rightLists() {
		b := []byte{9}
		for _, p := range l {
			b = Prefix(b, p)
		}
		at := 1
		for _, p := range l {
			got, next, e := Take(b, at)
			if got != p || e != api.OK {
				t.Fatalf("%v is taken as %v %d", p, got, e)
			}
			at = next
		}
		if at != len(b) {
			t.Fatalf("%v: the end is %d of %d", l, at, len(b))
		}
	}
}
