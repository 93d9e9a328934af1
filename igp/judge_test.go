package igp

import (
	"cmp"
	"maps"
	"math"
	"math/rand"
	"slices"
	"strconv"
	"testing"

	"whirligig/api"
	"whirligig/topo"
)

// world is routers, each of an AS, with links, each by the lesser of its ends first.
type world struct {
	as    []int
	links map[[2]int]int
}

// link is the cost of a link between two routers, in whatever order they are told.
func (w world) link(i, k int) (int, bool) {
	cost, is := w.links[[2]int{min(i, k), max(i, k)}]
	return cost, is
}

// config is the configuration of a world.
func (w world) config() api.Config {
	var c api.Config
	for i, as := range w.as {
		r := api.Router{Name: "r" + strconv.Itoa(i+1), AS: as, ID: i + 1}
		for k := range w.as {
			if cost, is := w.link(i+1, k+1); is {
				r.Links = append(r.Links, api.Link{Name: "r" + strconv.Itoa(k+1), Cost: cost})
			}
		}
		c.Routers = append(c.Routers, r)
	}
	return c
}

// net is a world's network.
func (w world) net(t *testing.T) *topo.Net {
	t.Helper()
	n, f := topo.Make(w.config())
	if n == nil {
		t.Fatalf("%v: %v", w, f)
	}
	return n
}

// route is a way with its cost.
type route struct {
	cost int
	way  []int
}

// ways is all ways without a router twice that go on from one: the others can't be the best, for they have more routers and cost no less.
func (w world) ways(from route) []route {
	l := []route{from}
	for k := range w.as {
		cost, is := w.link(from.way[len(from.way)-1], k+1)
		if is && !slices.Contains(from.way, k+1) {
			l = append(l, w.ways(route{from.cost + cost, append(slices.Clone(from.way), k+1)})...)
		}
	}
	return l
}

// better tells how two ways stand to one another: by cost, then by how many routers they have, then as lists.
func better(a, b route) int {
	return cmp.Or(cmp.Compare(a.cost, b.cost), cmp.Compare(len(a.way), len(b.way)), slices.Compare(a.way, b.way))
}

// judge is a world with its best ways, by where they begin and then by where they end.
type judge struct {
	world
	best map[int]map[int]route
}

// judged is a world's judge.
func (w world) judged() judge {
	j := judge{w, map[int]map[int]route{}}
	for i := range w.as {
		best := map[int]route{}
		for _, r := range w.ways(route{0, []int{i + 1}}) {
			k := r.way[len(r.way)-1]
			if old, is := best[k]; !is || better(r, old) < 0 {
				best[k] = r
			}
		}
		j.best[i+1] = best
	}
	return j
}

// groups is the groups, by who has a way to whom.
func (j judge) groups() [][]int {
	var groups [][]int
	for i := range j.as {
		if group := slices.Sorted(maps.Keys(j.best[i+1])); group[0] == i+1 {
			groups = append(groups, group)
		}
	}
	return groups
}

// around is the routers' numbers, and some that are none.
func around(size int) []int {
	l := []int{math.MinInt, -size, -1, math.MaxInt, size + 1, size + 2}
	for i := range size + 1 {
		l = append(l, i)
	}
	return l
}

// held fails the test, if an inner network isn't that of a world.
func held(t *testing.T, w world, x *Inner) {
	t.Helper()
	w.judged().held(t, x)
}

// held fails the test, if an inner network isn't that of the judge's world.
func (j judge) held(t *testing.T, x *Inner) {
	t.Helper()
	if x.Len() != len(j.as) {
		t.Fatalf("%v: Len %d", j.world, x.Len())
	}
	for _, i := range around(len(j.as)) {
		for _, k := range around(len(j.as)) {
			j.heldPair(t, x, i, k)
		}
		j.heldFar(t, x, i)
	}
	if l := x.Groups(); !slices.EqualFunc(l, j.groups(), slices.Equal) {
		t.Fatalf("%v: Groups: %v, not %v", j.world, l, j.groups())
	}
	follows(t, j.world, x)
}

// heldPair fails the test, if another way is told between two than the best.
func (j judge) heldPair(t *testing.T, x *Inner, i, k int) {
	t.Helper()
	r, is := j.best[i][k]
	next := 0
	if len(r.way) > 1 {
		next = r.way[1]
	}
	if cost, ok := x.Cost(i, k); cost != r.cost || ok != is {
		t.Fatalf("%v: Cost(%d, %d): %d, %v, not %v", j.world, i, k, cost, ok, r)
	}
	if way := x.Way(i, k); !slices.Equal(way, r.way) {
		t.Fatalf("%v: Way(%d, %d): %v, not %v", j.world, i, k, way, r)
	}
	if got := x.Next(i, k); got != next {
		t.Fatalf("%v: Next(%d, %d): %d, not %v", j.world, i, k, got, r)
	}
}

// heldFar fails the test, if another one is told as the farthest than the best ways tell.
func (j judge) heldFar(t *testing.T, x *Inner, i int) {
	t.Helper()
	far, most := 0, 0
	for _, k := range slices.Backward(slices.Sorted(maps.Keys(j.best[i]))) {
		if cost := j.best[i][k].cost; cost >= most {
			far, most = k, cost
		}
	}
	if k, cost := x.Far(i); k != far || cost != most {
		t.Fatalf("%v: Far(%d): %d, %d, not %d, %d", j.world, i, k, cost, far, most)
	}
}

// follows fails the test, if costs aren't the same both ways or don't keep to the triangle, or if going on by Next doesn't come there by the best cost.
func follows(t *testing.T, w world, x *Inner) {
	t.Helper()
	size := len(w.as)
	for i := 1; i <= size; i++ {
		for k := 1; k <= size; k++ {
			there, is := x.Cost(i, k)
			if back, ok := x.Cost(k, i); back != there || ok != is {
				t.Fatalf("%v: %d and %d: %d there, %d back", w, i, k, there, back)
			}
			for j := 1; j <= size; j++ {
				first, from := x.Cost(i, j)
				last, to := x.Cost(j, k)
				if from && to && (!is || there > first+last) {
					t.Fatalf("%v: from %d to %d: %d; by %d: %d and %d", w, i, k, there, j, first, last)
				}
			}
			if is {
				goOn(t, w, x, i, k)
			}
		}
	}
}

// goOn goes from i to k by Next, over links.
func goOn(t *testing.T, w world, x *Inner, i, k int) {
	t.Helper()
	want, _ := x.Cost(i, k)
	paid := 0
	for at, steps := i, 0; at != k; steps++ {
		next := x.Next(at, k)
		cost, is := w.link(at, next)
		if !is || steps == len(w.as) {
			t.Fatalf("%v: from %d to %d there is no going on from %d to %d", w, i, k, at, next)
		}
		paid, at = paid+cost, next
	}
	if paid != want {
		t.Fatalf("%v: from %d to %d by Next: %d, not %d", w, i, k, paid, want)
	}
}

// without is a world without a link.
func (w world) without(i, k int) world {
	links := maps.Clone(w.links)
	delete(links, [2]int{min(i, k), max(i, k)})
	return world{w.as, links}
}

// heldWithout fails the test, if an inner network, or one without any of its links, isn't what it should be.
func heldWithout(t *testing.T, w world) {
	t.Helper()
	x := Make(w.net(t))
	whole := w.judged()
	whole.held(t, x)
	less := map[[2]int]judge{}
	for link := range w.links {
		less[link] = w.without(link[0], link[1]).judged()
	}
	for _, i := range around(len(w.as)) {
		for _, k := range around(len(w.as)) {
			j, is := less[[2]int{min(i, k), max(i, k)}]
			if !is {
				j = whole
			}
			y := x.Without(i, k)
			if y == x {
				t.Fatalf("%v: Without(%d, %d) is the same one", w, i, k)
			}
			j.held(t, y)
		}
	}
	whole.held(t, x)
}

// TestSmallWorlds: of up to four routers of one AS all links of few costs.
func TestSmallWorlds(t *testing.T) {
	for size := range 5 {
		var pairs [][2]int
		for k := range size {
			for i := range k {
				pairs = append(pairs, [2]int{i + 1, k + 1})
			}
		}
		choices := 1 << (2 * len(pairs))
		for choice := range choices {
			w := world{slices.Repeat([]int{7}, size), map[[2]int]int{}}
			for at, pair := range pairs {
				if cost := choice >> (2 * at) & 3; cost < 3 {
					w.links[pair] = cost
				}
			}
			if size < 4 || choice%16 == 5 {
				heldWithout(t, w)
			} else {
				held(t, w, Make(w.net(t)))
			}
		}
	}
}

// drawn is a world of up to eight routers of one AS or of several ones.
func drawn(r *rand.Rand) world {
	w := world{links: map[[2]int]int{}}
	ases := 1 + r.Intn(3)
	for range r.Intn(api.MaxNodes + 1) {
		w.as = append(w.as, 1+r.Intn(ases))
	}
	costs := [][]int{{0, 1, 2, 3}, {0}, {1}, {0, api.MaxCost}, {api.MaxCost}, {1, 10, 100, 65535, api.MaxCost}}[r.Intn(6)]
	dense := 1 + r.Intn(4)
	for k := range w.as {
		for i := range k {
			if w.as[i] == w.as[k] && r.Intn(4) < dense {
				w.links[[2]int{i + 1, k + 1}] = costs[r.Intn(len(costs))]
			}
		}
	}
	return w
}

func TestDrawnWorlds(t *testing.T) {
	r := rand.New(rand.NewSource(15))
	sizes := map[int]int{}
	for range 700 {
		w := drawn(r)
		sizes[len(w.as)]++
		held(t, w, Make(w.net(t)))
	}
	for range 30 {
		heldWithout(t, drawn(r))
	}
	if len(sizes) != api.MaxNodes+1 {
		t.Errorf("not all sizes were drawn: %v", sizes)
	}
}

// TestWithoutMore takes one link after the other away, till there is none.
func TestWithoutMore(t *testing.T) {
	r := rand.New(rand.NewSource(151))
	for range 30 {
		w := drawn(r)
		x := Make(w.net(t))
		for len(w.links) > 0 {
			l := slices.SortedFunc(maps.Keys(w.links), func(a, b [2]int) int { return slices.Compare(a[:], b[:]) })
			link := l[r.Intn(len(l))]
			side := r.Intn(2)
			w, x = w.without(link[0], link[1]), x.Without(link[side], link[1-side])
			held(t, w, x)
		}
	}
}
