package addr

import (
	"strconv"
	"strings"

	"whirligig/api"
)

const (
	marks    = ".../" // what stands between the numbers of a text
	numbers  = len(marks) + 1
	octet    = 8
	maxOctet = 1<<octet - 1
	digits   = 3 // as many as the greatest number of a text may have
)

// Text is a prefix's text.
func Text(p api.Prefix) string {
	if !May(p) {
		return ""
	}
	var b strings.Builder
	for i := range len(marks) {
		part := p.Addr >> (width - octet*(i+1)) & maxOctet
		b.WriteString(strconv.Itoa(int(part)))
		b.WriteByte(marks[i])
	}
	b.WriteString(strconv.Itoa(p.Bits))
	return b.String()
}

// Parse is the prefix of a text.
func Parse(s string) (api.Prefix, api.Errno) {
	parts, ok := split(s)
	if !ok {
		return api.Prefix{}, api.ErrForm
	}
	p := api.Prefix{}
	for i := range len(marks) {
		n, ok := number(parts[i], maxOctet)
		if !ok {
			return api.Prefix{}, api.ErrRange
		}
		p.Addr = p.Addr<<octet | uint32(n)
	}
	if p.Bits, ok = number(parts[len(marks)], width); !ok {
		return api.Prefix{}, api.ErrRange
	}
	if !May(p) {
		return api.Prefix{}, api.ErrArg
	}
	return p, api.OK
}

// split is the numbers of a text; false, if it isn't of the form that a prefix's text has.
func split(s string) ([numbers]string, bool) {
	var parts [numbers]string
	for i := range len(marks) {
		at := strings.IndexByte(s, marks[i])
		if at < 0 {
			return [numbers]string{}, false
		}
		parts[i], s = s[:at], s[at+1:]
	}
	parts[len(marks)] = s
	for _, part := range parts {
		if !isNumber(part) {
			return [numbers]string{}, false
		}
	}
	return parts, true
}

// isNumber tells whether a text is digits without a 0 ahead.
func isNumber(s string) bool {
	if s == "" || s[0] == '0' && len(s) > 1 {
		return false
	}
	for i := range len(s) {
		if s[i] < '0' || s[i] > '9' {
			return false
		}
	}
	return true
}

// number is the number of some digits; false, if it is above most.
func number(s string, most int) (int, bool) {
	if len(s) > digits {
		return 0, false // so that no number is too great for an int
	}
	n := 0
	for i := range len(s) {
		n = 10*n + int(s[i]-'0')
	}
	if n > most {
		return 0, false
	}
	return n, true
}
