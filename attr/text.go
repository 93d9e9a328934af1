package attr

import (
	"strconv"
	"strings"

	"whirligig/api"
	"whirligig/aspath"
	"whirligig/comm"
)

// Text is attributes' text.
func Text(a api.Attr) string {
	if !May(a) {
		return ""
	}
	s := "pref " + strconv.Itoa(a.Pref) + " med " + strconv.Itoa(a.Med) + " origin " + originText(a.Origin) +
		" path [" + aspath.Text(a.Path) + "] comms [" + comm.Texts(a.Comms) + "]"
	if a.From != 0 {
		s += " from " + strconv.Itoa(a.From)
	}
	if len(a.Clusters) > 0 {
		s += " clusters [" + numbersText(a.Clusters) + "]"
	}
	return s
}

// originText is the name of an origin.
func originText(origin int) string {
	switch origin {
	case api.OriginIGP:
		return "igp"
	case api.OriginEGP:
		return "egp"
	}
	return "none"
}

// numbersText is numbers with a blank between.
func numbersText(l []int) string {
	words := make([]string, 0, len(l))
	for _, n := range l {
		words = append(words, strconv.Itoa(n))
	}
	return strings.Join(words, " ")
}
