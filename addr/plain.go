package addr

import (
	"slices"

	"whirligig/api"
)

// Plain is the plain list of some prefixes.
func Plain(l []api.Prefix) ([]api.Prefix, api.Errno) {
	if e := check(l); e != api.OK {
		return nil, e
	}
	return merge(l), api.OK
}

// Minus is prefixes without another one.
func Minus(l []api.Prefix, q api.Prefix) ([]api.Prefix, api.Errno) {
	if e := check(l); e != api.OK {
		return nil, e
	}
	if !May(q) {
		return nil, api.ErrArg
	}
	var left []api.Prefix
	for _, p := range l {
		left = append(left, without(p, q)...)
	}
	// Only the plain list is held against the limit: before that, pieces may stand there many times.
	left = merge(left)
	if len(left) > api.MaxList {
		return nil, api.ErrLong
	}
	return left, api.OK
}

// check is the error of a list, if it is too long or one of its prefixes may not be.
func check(l []api.Prefix) api.Errno {
	if len(l) > api.MaxList {
		return api.ErrLong
	}
	for _, p := range l {
		if !May(p) {
			return api.ErrArg
		}
	}
	return api.OK
}

// merge is the plain list of prefixes that may be, however many.
func merge(l []api.Prefix) []api.Prefix {
	sorted := slices.Clone(l)
	slices.SortFunc(sorted, order)
	var plain []api.Prefix
	for _, p := range sorted {
		// They rise, and the last one reaches furthest: no earlier one could contain p.
		if n := len(plain); n > 0 && Contains(plain[n-1], p) {
			continue
		}
		plain = join(append(plain, p))
	}
	return plain
}

// join puts one prefix in the place of its halves at a list's end, as long as two stand there.
func join(l []api.Prefix) []api.Prefix {
	for n := len(l); n > 1; n = len(l) {
		p, q := l[n-2], l[n-1]
		// What is above both has them as its halves just if they are.
		whole, _ := Above(p, q)
		low, high, _ := Halves(whole)
		if p != low || q != high {
			break
		}
		l[n-2] = whole
		l = l[:n-1]
	}
	return l
}

// order is -1, 0 or 1, as p comes ahead of q, is q, or comes behind it.
func order(p, q api.Prefix) int {
	switch {
	case p == q:
		return 0
	case Before(p, q):
		return -1
	default:
		return 1
	}
}

// without is prefixes that have just the addresses of p that q hasn't.
func without(p, q api.Prefix) []api.Prefix {
	if !Meets(p, q) {
		return []api.Prefix{p}
	}
	var left []api.Prefix
	// Each bit that q has more than p leaves one half behind; if q contains p there is none.
	for range q.Bits - p.Bits {
		low, high, _ := Halves(p)
		if Contains(low, q) {
			left, p = append(left, high), low
		} else {
			left, p = append(left, low), high
		}
	}
	return left
}
