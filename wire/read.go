package wire

import (
	"bytes"

	"whirligig/addr"
	"whirligig/api"
)

const (
	octet = 8  // bits of a byte
	width = 32 // bits of an address
)

// need is how many bytes some bits need.
func need(bits int) int { return (bits + octet - 1) / octet }

// octets is bytes of which numbers are read.
type octets []byte

// number is the number that stands in so many bytes from a place on, all of which are there.
func (o octets) number(at, many int) int {
	n := 0
	for _, c := range o[at : at+many] {
		n = n<<octet | int(c)
	}
	return n
}

// head is how many bytes a message has, and of which type it is; false, if none begins so. A head's bytes are there.
func (o octets) head() (int, int, bool) {
	for _, c := range o[:markSize] {
		if c != mark {
			return 0, 0, false
		}
	}
	size, kind := o.number(markSize, sizeSize), o.number(markSize+sizeSize, 1)
	if size < headSize || size > maxSize || kind < firstType || kind > lastType {
		return 0, 0, false
	}
	return size, kind, true
}

// Take is the prefix whose bytes begin at a place.
func Take(b []byte, at int) (api.Prefix, int, api.Errno) {
	if at < 0 || at >= len(b) {
		return api.Prefix{}, 0, api.ErrEnd
	}
	bits := int(b[at])
	many, from := need(bits), at+1
	if many > len(b)-from {
		return api.Prefix{}, 0, api.ErrEnd
	}
	if bits > width {
		return api.Prefix{}, 0, api.ErrForm
	}
	first := uint32(octets(b).number(from, many))
	p := api.Prefix{Addr: first << (width - octet*many), Bits: bits}
	if !addr.May(p) {
		return api.Prefix{}, 0, api.ErrForm
	}
	return p, from + many, api.OK
}

// reader goes over bytes, and gives up by a panic where they are no update's.
type reader struct {
	octets
	at int
}

// giveUp ends all reading.
func giveUp() { panic(api.ErrForm) }

// left is how many bytes are still to be read.
func (r *reader) left() int { return len(r.octets) - r.at }

// next is the number in the next bytes.
func (r *reader) next(many int) int {
	if many > r.left() {
		giveUp()
	}
	r.at += many
	return r.number(r.at-many, many)
}

// part is a reader of the next bytes alone.
func (r *reader) part(many int) *reader {
	if many > r.left() {
		giveUp()
	}
	r.at += many
	return &reader{octets: r.octets[r.at-many : r.at]}
}

// prefixes is the prefixes that are left.
func (r *reader) prefixes() []api.Prefix {
	var l []api.Prefix
	for r.left() > 0 {
		p, behind, e := Take(r.octets, r.at)
		if e != api.OK {
			giveUp()
		}
		l = append(l, p)
		r.at = behind
	}
	return l
}

// numbers is the numbers that are left, each in so many bytes.
func (r *reader) numbers(many int) []int {
	var l []int
	for r.left() > 0 {
		l = append(l, r.next(many))
	}
	return l
}

// path is the path that is left.
func (r *reader) path() []int {
	if r.left() == 0 {
		return nil
	}
	r.next(2) // its kind and how many there are: Decode holds them against what is written
	return r.numbers(2)
}

// comms is the communities that are left.
func (r *reader) comms() []api.Comm {
	var l []api.Comm
	for r.left() > 0 {
		as := r.next(2)
		l = append(l, api.Comm{AS: as, N: r.next(2)})
	}
	return l
}

// attributes is the attributes that are left.
func (r *reader) attributes() api.Attr {
	a := api.Attr{}
	for r.left() > 0 {
		r.next(1) // its flags: Decode holds them against what is written
		kind := r.next(1)
		value := r.part(r.next(1))
		switch kind {
		case typeOrigin:
			a.Origin = value.next(1)
		case typePath:
			a.Path = value.path()
		case typeMed:
			a.Med = value.next(4)
		case typePref:
			a.Pref = value.next(4)
		case typeComms:
			a.Comms = value.comms()
		case typeFrom:
			a.From = value.next(4)
		case typeClusters:
			a.Clusters = value.numbers(4)
		default:
			giveUp()
		}
	}
	return a
}

// update is the update that all the bytes are.
func (r *reader) update() Update {
	size, kind, is := r.head()
	if !is || size != len(r.octets) || kind != typeUpdate {
		giveUp()
	}
	r.at = headSize
	u := Update{}
	u.Withdrawn = r.part(r.next(sizeSize)).prefixes()
	u.Attr = r.part(r.next(sizeSize)).attributes()
	u.Told = r.prefixes()
	return u
}

// Decode reads an update.
func Decode(b []byte) (u Update, e api.Errno) {
	if len(b) < headSize {
		return Update{}, api.ErrEnd
	}
	defer func() {
		if recover() != nil {
			u, e = Update{}, api.ErrForm
		}
	}()
	r := reader{octets: b}
	u = r.update()
	// One update has one row of bytes: so what the reader lets pass is judged by what is written.
	if again, _ := Encode(u); !bytes.Equal(again, b) {
		giveUp()
	}
	return u, api.OK
}
