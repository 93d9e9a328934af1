package wire

import (
	"bytes"

	"whirligig/addr"
	"whirligig/api"
)

// Flags of attributes.
const (
	flagKnown    = 64  // everybody knows it
	flagOwn      = 128 // it need not be there
	flagHandedOn = 192 // it need not be there, and who doesn't know it hands it on
)

const sequence = 2 // the kind of a path's numbers

// put is bytes with a number behind them, in so many bytes.
func put(b []byte, n, many int) []byte {
	for i := range many {
		b = append(b, byte(n>>(octet*(many-1-i))))
	}
	return b
}

// putPrefix is bytes with those of a prefix that may be behind them.
func putPrefix(b []byte, p api.Prefix) []byte {
	b = put(b, p.Bits, 1)
	for i := range need(p.Bits) {
		b = append(b, byte(p.Addr>>(width-octet*(i+1))))
	}
	return b
}

// putPrefixes is bytes with those of prefixes behind them.
func putPrefixes(b []byte, l []api.Prefix) []byte {
	for _, p := range l {
		b = putPrefix(b, p)
	}
	return b
}

// Prefix writes a prefix.
func Prefix(b []byte, p api.Prefix) []byte {
	all := bytes.Clone(b) // lest what lies behind b be written over
	if !addr.May(p) {
		return all
	}
	return putPrefix(all, p)
}

// message is a head and what stands behind it.
func message(kind int, body []byte) []byte {
	b := bytes.Repeat([]byte{mark}, markSize)
	b = put(b, headSize+len(body), sizeSize)
	b = put(b, kind, 1)
	return append(b, body...)
}

// sized is bytes with how many others have, and these, behind them.
func sized(b, part []byte, many int) []byte {
	return append(put(b, len(part), many), part...)
}

// Encode is an update's bytes.
func Encode(u Update) ([]byte, api.Errno) {
	if !May(u) {
		return nil, api.ErrArg
	}
	body := sized(nil, putPrefixes(nil, u.Withdrawn), sizeSize)
	var attributes []byte
	if len(u.Told) > 0 {
		attributes = attrBytes(u.Attr)
	}
	body = sized(body, attributes, sizeSize)
	return message(typeUpdate, putPrefixes(body, u.Told)), api.OK
}

// putAttr is bytes with one attribute's behind them.
func putAttr(b []byte, flags, kind int, value []byte) []byte {
	return sized(append(b, byte(flags), byte(kind)), value, 1)
}

// attrBytes is the bytes of attributes that may be.
func attrBytes(a api.Attr) []byte {
	b := putAttr(nil, flagKnown, typeOrigin, put(nil, a.Origin, 1))
	b = putAttr(b, flagKnown, typePath, pathBytes(a.Path))
	if a.Med != 0 {
		b = putAttr(b, flagOwn, typeMed, put(nil, a.Med, 4))
	}
	b = putAttr(b, flagKnown, typePref, put(nil, a.Pref, 4))
	if len(a.Comms) > 0 {
		b = putAttr(b, flagHandedOn, typeComms, commBytes(a.Comms))
	}
	if a.From != 0 {
		b = putAttr(b, flagOwn, typeFrom, put(nil, a.From, 4))
	}
	if len(a.Clusters) > 0 {
		b = putAttr(b, flagOwn, typeClusters, numberBytes(nil, a.Clusters, 4))
	}
	return b
}

// numberBytes is bytes with numbers behind them, each in so many.
func numberBytes(b []byte, l []int, many int) []byte {
	for _, n := range l {
		b = put(b, n, many)
	}
	return b
}

// pathBytes is the bytes of a path.
func pathBytes(p []int) []byte {
	if len(p) == 0 {
		return nil
	}
	return numberBytes([]byte{sequence, byte(len(p))}, p, 2)
}

// commBytes is the bytes of communities.
func commBytes(l []api.Comm) []byte {
	var b []byte
	for _, c := range l {
		b = put(put(b, c.AS, 2), c.N, 2)
	}
	return b
}
