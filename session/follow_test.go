package session

import (
	"math/rand"
	"slices"
	"testing"

	"whirligig/api"
	"whirligig/topo"
)

// journey is a route on its way from the router whose own it is.
type journey struct {
	world
	n       *topo.Net
	p       api.Prefix
	clients bool
	steps   int
	outer   int // how often it came through an outer session
	loops   int // how often it would have come back
	splits  int
	longest int
}

// on goes on from the last router of a way to each other one.
func (j *journey) on(t *testing.T, way []int, r Route) {
	if len(way) > 9 || j.steps == 0 {
		return
	}
	j.longest = max(j.longest, len(way))
	i := way[len(way)-1]
	for k := 1; k <= j.n.Len(); k++ {
		j.steps = max(j.steps-1, 0)
		told, w := Out(j.n, i, k, j.p, r)
		if w == Fine && j.world.outer(i, k) {
			j.outer++
			if len(told.Path) <= len(r.Attr.Path) || told.Path[0] != j.as[i-1] {
				t.Errorf("%v to %d: the path %v of %v", way, k, told.Path, r.Attr.Path)
			}
		}
		next, w := Pass(j.n, i, k, j.p, r)
		j.count(w)
		if w == Fine {
			j.look(t, way, k, told)
			j.on(t, append(slices.Clone(way), k), next)
		}
	}
}

// count counts what a route can't do.
func (j *journey) count(w Why) {
	switch w {
	case Loop:
		j.loops++
	case Split:
		j.splits++
	}
}

// look holds what is so of one step that a route took to k.
func (j *journey) look(t *testing.T, way []int, k int, told api.Attr) {
	i := way[len(way)-1]
	if j.world.outer(i, k) {
		been := func(v int) bool { return j.as[v-1] == j.as[k-1] }
		if slices.ContainsFunc(way, been) || slices.Contains(told.Path, j.as[k-1]) {
			t.Errorf("%v to %d: back into the AS %d by the path %v", way, k, j.as[k-1], told.Path)
		}
		return
	}
	if len(way) > 1 && !j.clients && j.inner(way[len(way)-2], i) {
		t.Errorf("%v to %d: through inner sessions twice", way, k)
	}
	if len(way) > 1 && way[len(way)-2] == k {
		t.Errorf("%v to %d: back to the teller", way, k)
	}
}

func TestFollows(t *testing.T) {
	r := rand.New(rand.NewSource(173))
	for _, clients := range []bool{false, true} {
		outer, loops, splits, longest := 0, 0, 0, 0
		for range 600 {
			w := drawn(r, 6, clients)
			n := made(t, w.config())
			for _, p := range n.Prefixes() {
				for _, i := range n.Origins(p) {
					own, is := Own(n, i, p)
					if !is {
						t.Fatalf("Own(%d, %v): none", i, p)
					}
					j := &journey{world: w, n: n, p: p, clients: clients, steps: 400}
					j.on(t, []int{i}, own)
					outer, loops, splits, longest = outer+j.outer, loops+j.loops, splits+j.splits, max(longest, j.longest)
				}
			}
		}
		if outer < 100 || loops < 100 || splits < 100 || longest < 5 {
			t.Errorf("clients %v: %d outer, %d loops, %d splits, %d routers at most", clients, outer, loops, splits, longest)
		}
	}
}

func TestReflectorsInARow(t *testing.T) {
	// Each of a row of eight reflectors has the next one as its client: the route goes through all of them, with the ID of each that brought it on ahead.
	var c api.Config
	names := []string{"a", "b", "c", "d", "e", "f", "g", "h"}
	for i, name := range names {
		r := api.Router{Name: name, AS: 7, ID: 50 + i}
		if i > 0 {
			r.Neighbors = append(r.Neighbors, api.Neighbor{Name: names[i-1]})
		}
		if i < 7 {
			r.Neighbors = append(r.Neighbors, api.Neighbor{Name: names[i+1], Client: true})
		}
		c.Routers = append(c.Routers, r)
	}
	c.Routers[0].Networks = []api.Prefix{ten}
	c.Routers[7].Neighbors = append(c.Routers[7].Neighbors, api.Neighbor{Name: "a", Client: true})
	c.Routers[0].Neighbors = append(c.Routers[0].Neighbors, api.Neighbor{Name: "h", Client: true})
	n := made(t, c)
	r, _ := Own(n, 1, ten)
	want := api.Attr{Pref: 100}
	for i := 1; i < 8; i++ {
		var w Why
		r, w = Pass(n, i, i+1, ten, r)
		if i > 1 {
			want.From, want.Clusters = 50, append([]int{49 + i}, want.Clusters...)
		}
		if w != Fine || !alike(r.Attr, want) || r.From != i {
			t.Fatalf("%d to %d: %v, %s", i, i+1, r, Name(w))
		}
	}
	// The ring is shut by the ID of the router that had it first.
	if back, w := Pass(n, 8, 1, ten, r); w != Loop || !alike(back.Attr, api.Attr{}) || back.From != 0 {
		t.Errorf("8 to 1: %v, %s", back, Name(w))
	}
}
