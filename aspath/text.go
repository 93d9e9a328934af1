package aspath

import (
	"strconv"
	"strings"

	"whirligig/api"
)

// Text is a path's text.
func Text(p []int) string {
	if !May(p) {
		return ""
	}
	words := make([]string, 0, len(p))
	for _, as := range p {
		words = append(words, strconv.Itoa(as))
	}
	return strings.Join(words, " ")
}

// Parse is the path of a text.
func Parse(s string) ([]int, api.Errno) {
	if s == "" {
		return nil, api.OK
	}
	words := strings.Split(s, " ")
	if !areNumbers(words) {
		return nil, api.ErrForm
	}
	var p []int
	for _, w := range words {
		as, err := strconv.Atoi(w)
		if err != nil || !mayAS(as) { // of digits alone it is an error just if they are too many
			return nil, api.ErrRange
		}
		p = append(p, as)
	}
	if len(p) > api.MaxPath {
		return nil, api.ErrLong
	}
	return p, api.OK
}

// areNumbers tells whether each word is digits without a 0 ahead.
func areNumbers(words []string) bool {
	for _, w := range words {
		if w == "" || w[0] == '0' && len(w) > 1 || strings.Trim(w, "0123456789") != "" {
			return false
		}
	}
	return true
}
