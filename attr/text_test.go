package attr

import (
	"math/rand"
	"testing"

	"whirligig/api"
)

func TestText(t *testing.T) {
	for want, a := range map[string]api.Attr{
		"pref 100 med 0 origin igp path [] comms []":                                                 {Pref: 100},
		"pref 0 med 0 origin igp path [] comms []":                                                   {},
		"pref 0 med 5 origin egp path [] comms []":                                                   {Med: 5, Origin: 1},
		"pref 1 med 0 origin none path [] comms []":                                                  {Pref: 1, Origin: 2},
		"pref 1048576 med 1048576 origin igp path [] comms []":                                       {Pref: 1 << 20, Med: 1 << 20},
		"pref 100 med 0 origin igp path [65000] comms []":                                            {Pref: 100, Path: []int{65000}},
		"pref 100 med 0 origin igp path [2 1 1] comms []":                                            {Pref: 100, Path: []int{2, 1, 1}},
		"pref 100 med 0 origin igp path [] comms [65000:4]":                                          {Pref: 100, Comms: row(4, 1)},
		"pref 100 med 0 origin igp path [] comms [65000:4 65000:5]":                                  {Pref: 100, Comms: row(4, 2)},
		"pref 100 med 0 origin igp path [] comms [1:0 no-export local]":                              {Pref: 100, Comms: []api.Comm{{AS: 1}, {AS: 65535, N: 65281}, {AS: 65535, N: 65283}}},
		"pref 100 med 0 origin igp path [] comms [] from 1":                                          {Pref: 100, From: 1},
		"pref 100 med 0 origin igp path [] comms [] from 65535":                                      {Pref: 100, From: 65535},
		"pref 100 med 0 origin igp path [] comms [] clusters [1]":                                    {Pref: 100, Clusters: []int{1}},
		"pref 100 med 0 origin igp path [] comms [] clusters [65535 3 1]":                            {Pref: 100, Clusters: []int{65535, 3, 1}},
		"pref 100 med 0 origin none path [] comms [] from 7 clusters [8]":                            {Pref: 100, Origin: 2, From: 7, Clusters: []int{8}},
		"pref 7 med 8 origin egp path [3 2 3] comms [65000:4 65000:5 65000:6] from 9 clusters [6 5]": full(),
		"pref 0 med 0 origin igp path [1 2 3 4 5 6 7 8 9 10 11 12 13 14 15 16] comms [65000:1 65000:2 65000:3 65000:4 65000:5 65000:6 65000:7 65000:8] clusters [8 9 10 11 12 13 14 15]": {
			Path: rising(1, 16), Comms: row(1, 8), Clusters: rising(8, 8)},
	} {
		if got := Text(a); got != want {
			t.Errorf("Text(%v): %q, not %q", a, got, want)
		}
		if got := Text(twin(a)); got != want {
			t.Errorf("Text(%v), with empty lists for nil ones: %q, not %q", a, got, want)
		}
	}
	for _, a := range wrong() {
		if got := Text(a); got != "" {
			t.Errorf("Text(%v): %q", a, got)
		}
	}
}

func TestOneTextJustIfTheSame(t *testing.T) {
	all := right()
	r := rand.New(rand.NewSource(11))
	for len(all) < 1500 {
		if a := drawn(r); May(a) {
			all = append(all, a)
		}
	}
	for _, a := range all {
		if Text(a) == "" {
			t.Fatalf("Text(%v): none, and it may be", a)
		}
	}
	texts := make([]string, len(all))
	for i, a := range all {
		texts[i] = Text(a)
	}
	for i, a := range all {
		for j, b := range all {
			if same := like(a, b); same != (texts[i] == texts[j]) || same != Same(a, b) {
				t.Fatalf("%v and %v: texts %q and %q", a, b, texts[i], texts[j])
			}
		}
	}
}
