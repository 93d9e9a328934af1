package attr

import (
	"slices"

	"whirligig/api"
	"whirligig/aspath"
	"whirligig/comm"
)

// unchanged stands in a change for a number that stays as it is.
const unchanged = -1

// Nothing changes nothing.
func Nothing() api.Set {
	return api.Set{Pref: unchanged, Med: unchanged, Origin: unchanged}
}

// Change tells whether a change may be.
func Change(s api.Set) bool {
	or := func(may func(int) bool, n int) bool { return n == unchanged || may(n) }
	return or(mayPref, s.Pref) && or(mayMed, s.Med) && or(mayOrigin, s.Origin) &&
		mayComms(s.Add) && mayComms(s.Del) && aspath.May(s.Prepend)
}

// mayComms tells whether communities may stand in a change: there they need not be a set.
func mayComms(l []api.Comm) bool {
	mayNot := func(c api.Comm) bool { return !comm.May(c) }
	return len(l) <= api.MaxComms && !slices.ContainsFunc(l, mayNot)
}

// Do does a change.
func Do(a api.Attr, s api.Set) (api.Attr, api.Errno) {
	if !May(a) || !Change(s) {
		return api.Attr{}, api.ErrArg
	}
	comms, e := doComms(a.Comms, s)
	if e != api.OK {
		return api.Attr{}, e
	}
	path := slices.Concat(s.Prepend, a.Path)
	if len(path) > api.MaxPath {
		return api.Attr{}, api.ErrLong
	}
	done := Copy(a)
	done.Pref, done.Med, done.Origin = told(s.Pref, a.Pref), told(s.Med, a.Med), told(s.Origin, a.Origin)
	done.Path, done.Comms = path, comms
	return done, api.OK
}

// told is the number that a change tells, or the one that was there.
func told(n, was int) int {
	if n == unchanged {
		return was
	}
	return n
}

// doComms is what a change makes of communities.
func doComms(l []api.Comm, s api.Set) ([]api.Comm, api.Errno) {
	if s.Clear {
		l = nil
	}
	left, e := comm.Del(l, s.Del)
	if e != api.OK {
		return nil, e
	}
	return comm.Add(left, s.Add)
}
