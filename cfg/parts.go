package cfg

import (
	"math"
	"slices"

	"whirligig/api"
	"whirligig/lex"
	"whirligig/plist"
)

const (
	maxClause = 65535 // a clause's number
	untold    = -1    // what a clause doesn't set
)

// config takes a configuration.
func (p *parser) config() api.Config {
	var c api.Config
	lists, maps, routers := p.once(), p.once(), p.once()
	for len(p.rest) > 0 {
		switch t := p.next(); word(t) {
		case "prefix-list":
			p.room(t, len(c.Lists), api.MaxLists)
			c.Lists = append(c.Lists, p.list(lists))
		case "route-map":
			p.room(t, len(c.Maps), api.MaxLists)
			c.Maps = append(c.Maps, p.routeMap(maps))
		case "router":
			p.room(t, len(c.Routers), api.MaxNodes)
			c.Routers = append(c.Routers, p.router(routers))
		default:
			p.fault(t, api.ErrForm)
		}
	}
	return c
}

// permits tells whether a rule's or a clause's first word lets pass.
func (p *parser) permits(t lex.Token) bool {
	switch word(t) {
	case "permit":
		return true
	case "deny":
		return false
	}
	p.fault(t, api.ErrForm)
	return false
}

// list takes a prefix list behind its first word.
func (p *parser) list(once func(lex.Token)) api.List {
	l := api.List{Name: p.newName(once)}
	p.block(func(t lex.Token) {
		permit := p.permits(t)
		p.room(t, len(l.Rules), api.MaxRules)
		l.Rules = append(l.Rules, p.rule(permit))
	})
	return l
}

// rule takes a rule behind its first word.
func (p *parser) rule(permit bool) api.Range {
	defer p.mark(";") // behind whatever isn't left out
	prefix := p.prefix(p.next())
	r := api.Range{P: prefix, Ge: prefix.Bits, Le: prefix.Bits, Permit: permit}
	bound := func(first string, set func(n int)) {
		if !p.option(first) {
			return
		}
		t := p.next()
		set(p.number(t, 0, math.MaxInt))
		if plist.May([]api.Range{r}) != api.OK {
			p.fault(t, api.ErrRange)
		}
	}
	bound("ge", func(n int) { r.Ge, r.Le = n, n })
	bound("le", func(n int) { r.Le = n })
	return r
}

// routeMap takes a route map behind its first word.
func (p *parser) routeMap(once func(lex.Token)) api.Map {
	m := api.Map{Name: p.newName(once)}
	last := 0
	p.block(func(t lex.Token) {
		c := api.Clause{Permit: p.permits(t)}
		p.room(t, len(m.Clauses), api.MaxRules)
		c.N = p.number(p.next(), last+1, maxClause)
		c.Match, c.Set = p.clause()
		m.Clauses = append(m.Clauses, c)
		last = c.N
	})
	return m
}

// clause takes what a clause asks for and what it changes.
func (p *parser) clause() (api.Match, api.Set) {
	var m api.Match
	s := api.Set{Pref: untold, Med: untold, Origin: untold}
	matches, sets := p.once(), p.once()
	p.block(func(t lex.Token) {
		defer p.mark(";")
		switch word(t) {
		case "match":
			p.match(&m, matches)
		case "set":
			p.set(&s, sets)
		default:
			p.fault(t, api.ErrForm)
		}
	})
	return m, s
}

// match takes one thing that a clause asks for.
func (p *parser) match(m *api.Match, once func(lex.Token)) {
	t := p.next()
	switch word(t) {
	case "prefix":
		once(t)
		m.List = p.name(p.next())
	case "path":
		once(t)
		m.Path = p.path(p.next())
	case "community":
		once(t)
		m.Comm = p.comm(p.next())
	default:
		p.fault(t, api.ErrForm)
	}
}

// set takes one thing that a clause changes.
func (p *parser) set(s *api.Set, once func(lex.Token)) {
	t := p.next()
	switch word(t) {
	case "pref":
		once(t)
		s.Pref = p.number(p.next(), 0, api.MaxPref)
	case "med":
		once(t)
		s.Med = p.number(p.next(), 0, api.MaxMed)
	case "origin":
		once(t)
		s.Origin = p.origin(p.next())
	case "community":
		p.setComms(s, once)
	case "prepend":
		once(t)
		s.Prepend = several(p, api.MaxPath, p.as)
	default:
		p.fault(t, api.ErrForm)
	}
}

// setComms takes what a clause does to communities; the word for that, not the one ahead of it, stands once.
func (p *parser) setComms(s *api.Set, once func(lex.Token)) {
	t := p.next()
	switch word(t) {
	case "add":
		once(t)
		s.Add = several(p, api.MaxComms, p.comm)
	case "del":
		once(t)
		s.Del = several(p, api.MaxComms, p.comm)
	case "clear":
		once(t)
		s.Clear = true
	default:
		p.fault(t, api.ErrForm)
	}
}

// origin is a token's origin.
func (p *parser) origin(t lex.Token) int {
	switch word(t) {
	case "igp":
		return api.OriginIGP
	case "egp":
		return api.OriginEGP
	case "none":
		return api.OriginNone
	}
	p.fault(t, api.ErrForm)
	return untold
}

// router takes a router behind its first word.
func (p *parser) router(once func(lex.Token)) api.Router {
	r := api.Router{Name: p.newName(once)}
	numbers, neighbors, links := p.once(), p.once(), p.once()
	end := p.block(func(t lex.Token) {
		defer p.mark(";")
		switch word(t) {
		case "as":
			numbers(t)
			r.AS = p.as(p.next())
		case "id":
			numbers(t)
			r.ID = p.as(p.next())
		case "network":
			p.room(t, len(r.Networks), api.MaxRules)
			r.Networks = append(r.Networks, p.network(r.Networks))
		case "neighbor":
			p.room(t, len(r.Neighbors), api.MaxRules)
			r.Neighbors = append(r.Neighbors, p.neighbor(neighbors))
		case "link":
			p.room(t, len(r.Links), api.MaxRules)
			r.Links = append(r.Links, p.link(links))
		default:
			p.fault(t, api.ErrForm)
		}
	})
	if r.AS == 0 || r.ID == 0 { // neither may be told as 0
		p.fault(end, api.ErrNone)
	}
	return r
}

// network takes a prefix that must be unlike those ahead.
func (p *parser) network(ahead []api.Prefix) api.Prefix {
	t := p.next()
	x := p.prefix(t)
	if slices.Contains(ahead, x) {
		p.fault(t, api.ErrTwice)
	}
	return x
}

// neighbor takes a neighbor behind its first word.
func (p *parser) neighbor(once func(lex.Token)) api.Neighbor {
	n := api.Neighbor{Name: p.newName(once)}
	if p.option("import") {
		n.Import = p.name(p.next())
	}
	if p.option("export") {
		n.Export = p.name(p.next())
	}
	n.Client = p.option("client")
	return n
}

// link takes a link behind its first word.
func (p *parser) link(once func(lex.Token)) api.Link {
	l := api.Link{Name: p.newName(once)}
	p.keyword("cost")
	l.Cost = p.number(p.next(), 0, api.MaxCost)
	return l
}
