// Package addr is layer 1: see shared/doc/01-addr.md.
package addr

import "whirligig/api"

// width is how many bits an address has.
const width = 32

// cut is the first bits of an address, with 0 for the others.
func cut(a uint32, bits int) uint32 {
	return a &^ (^uint32(0) >> bits)
}

// May tells whether a prefix may be.
func May(p api.Prefix) bool {
	return p.Bits >= 0 && p.Bits <= width && cut(p.Addr, p.Bits) == p.Addr
}

// Has tells whether a prefix has an address.
func Has(p api.Prefix, a uint32) bool {
	return May(p) && cut(a, p.Bits) == p.Addr
}

// Contains tells whether a prefix contains another one.
func Contains(p, q api.Prefix) bool {
	return May(q) && p.Bits <= q.Bits && Has(p, q.Addr)
}

// Meets tells whether two prefixes have an address in common.
func Meets(p, q api.Prefix) bool {
	return Contains(p, q) || Contains(q, p)
}

// Before tells whether a prefix comes ahead of another one.
func Before(p, q api.Prefix) bool {
	if !May(p) || !May(q) {
		return false
	}
	if p.Addr != q.Addr {
		return p.Addr < q.Addr
	}
	return p.Bits < q.Bits
}

// Last is the greatest address that a prefix has.
func Last(p api.Prefix) uint32 {
	if !May(p) {
		return 0
	}
	return p.Addr | ^uint32(0)>>p.Bits
}

// Halves is a prefix's halves.
func Halves(p api.Prefix) (api.Prefix, api.Prefix, api.Errno) {
	if !May(p) {
		return api.Prefix{}, api.Prefix{}, api.ErrArg
	}
	if p.Bits == width {
		return api.Prefix{}, api.Prefix{}, api.ErrNone
	}
	bits := p.Bits + 1
	low := api.Prefix{Addr: p.Addr, Bits: bits}
	high := api.Prefix{Addr: p.Addr | 1<<(width-bits), Bits: bits}
	return low, high, api.OK
}

// Above is the prefix with the most bits that contains two.
func Above(p, q api.Prefix) (api.Prefix, api.Errno) {
	if !May(p) || !May(q) {
		return api.Prefix{}, api.ErrArg
	}
	above := api.Prefix{}
	for bits := range min(p.Bits, q.Bits) + 1 {
		next := api.Prefix{Addr: cut(p.Addr, bits), Bits: bits}
		if next != (api.Prefix{Addr: cut(q.Addr, bits), Bits: bits}) {
			break
		}
		above = next
	}
	return above, api.OK
}
