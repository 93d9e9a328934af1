package aspath

import (
	"slices"

	"whirligig/api"
)

// Short is a path with each run as one number.
func Short(p []int) []int { return slices.Compact(slices.Clone(p)) }

// Runs is a path's runs.
func Runs(p []int) [][2]int {
	var runs [][2]int
	for i, as := range p {
		if i == 0 || p[i-1] != as {
			runs = append(runs, [2]int{as, 0})
		}
		runs[len(runs)-1][1]++
	}
	return runs
}

// mayRuns tells whether runs could be those of some numbers, however many.
func mayRuns(runs [][2]int) bool {
	for i, run := range runs {
		if !mayAS(run[0]) || run[1] < 1 || i > 0 && runs[i-1][0] == run[0] {
			return false
		}
	}
	return true
}

// Of is the path that has some runs.
func Of(runs [][2]int) ([]int, api.Errno) {
	if !mayRuns(runs) {
		return nil, api.ErrArg
	}
	var p []int
	for _, run := range runs {
		if run[1] > api.MaxPath-len(p) { // a sum could be too great for an int
			return nil, api.ErrLong
		}
		p = put(p, run[0], run[1])
	}
	return p, api.OK
}

// Tail tells whether a path ends with another one.
func Tail(p, q []int) bool {
	runs, end := Runs(p), Runs(q)
	if len(end) > len(runs) {
		return false
	}
	runs = runs[len(runs)-len(end):]
	if len(end) > 0 { // the end may begin in the midst of a run
		runs[0][1] = min(runs[0][1], end[0][1])
	}
	return slices.Equal(runs, end)
}

// Loops tells whether a number stands in two runs.
func Loops(p []int) bool {
	heads := Short(p)
	runs := len(heads)
	slices.Sort(heads)
	return len(slices.Compact(heads)) < runs
}
