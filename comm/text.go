package comm

import (
	"strconv"
	"strings"

	"whirligig/api"
)

// The well known communities' names, and their numbers.
const (
	noExport     = "no-export"
	noAdvertise  = "no-advertise"
	local        = "local"
	wellKnown    = 65535 // their AS
	noExportN    = 65281
	noAdvertiseN = 65282
	localN       = 65283
)

// digits is as many as the greatest number of a text may have.
const digits = 5

// NoExport isn't told outside of an AS.
func NoExport() api.Comm { return api.Comm{AS: wellKnown, N: noExportN} }

// NoAdvertise isn't told to anybody.
func NoAdvertise() api.Comm { return api.Comm{AS: wellKnown, N: noAdvertiseN} }

// Local isn't told outside of an AS, whatever parts that has.
func Local() api.Comm { return api.Comm{AS: wellKnown, N: localN} }

// Text is a community's text.
func Text(c api.Comm) string {
	if !May(c) {
		return ""
	}
	switch c {
	case NoExport():
		return noExport
	case NoAdvertise():
		return noAdvertise
	case Local():
		return local
	}
	return strconv.Itoa(c.AS) + ":" + strconv.Itoa(c.N)
}

// Parse is the community of a text.
func Parse(s string) (api.Comm, api.Errno) {
	switch s {
	case noExport:
		return NoExport(), api.OK
	case noAdvertise:
		return NoAdvertise(), api.OK
	case local:
		return Local(), api.OK
	}
	first, second, _ := strings.Cut(s, ":")
	if !isNumber(first) || !isNumber(second) {
		return api.Comm{}, api.ErrForm
	}
	if len(first) > digits || len(second) > digits { // so that no number is too great for an int
		return api.Comm{}, api.ErrRange
	}
	c := api.Comm{AS: number(first), N: number(second)}
	if !May(c) {
		return api.Comm{}, api.ErrRange
	}
	return c, api.OK
}

// isNumber tells whether a text is digits without a 0 ahead.
func isNumber(s string) bool {
	if s == "" || s[0] == '0' && len(s) > 1 {
		return false
	}
	for i := range len(s) {
		if s[i] < '0' || s[i] > '9' {
			return false
		}
	}
	return true
}

// number is the number of a few digits.
func number(s string) int {
	n := 0
	for i := range len(s) {
		n = 10*n + int(s[i]-'0')
	}
	return n
}

// Texts is a set's text.
func Texts(l []api.Comm) string {
	if !Set(l) {
		return ""
	}
	texts := make([]string, 0, len(l))
	for _, c := range l {
		texts = append(texts, Text(c))
	}
	return strings.Join(texts, " ")
}
