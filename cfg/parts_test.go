package cfg

import (
	"slices"
	"strconv"
	"strings"
	"testing"
	"unsafe"

	"whirligig/api"
	"whirligig/lex"
)

// part is a part of a clause or a router, and what it makes there.
type part[T any] struct {
	s    string
	make func(*T)
}

// orders hands on each order of a list's things.
func orders[T any](l []T, to func([]T)) {
	var grow func(done, rest []T)
	grow = func(done, rest []T) {
		if len(rest) == 0 {
			to(done)
		}
		for i, x := range rest {
			grow(append(slices.Clone(done), x), slices.Delete(slices.Clone(rest), i, i+1))
		}
	}
	grow(nil, l)
}

// joined is the texts of parts.
func joined[T any](l []part[T]) string {
	var b strings.Builder
	for _, p := range l {
		b.WriteString(p.s + "; ")
	}
	return b.String()
}

// changes is each part of a clause.
func changes() []part[api.Clause] {
	return []part[api.Clause]{
		{"match prefix l", func(c *api.Clause) { c.Match.List = "l" }},
		{`match path "1"`, func(c *api.Clause) { c.Match.Path = "1" }},
		{"match community 1:2", func(c *api.Clause) { c.Match.Comm = api.Comm{AS: 1, N: 2} }},
		{"set pref 7", func(c *api.Clause) { c.Set.Pref = 7 }},
		{"set med 0", func(c *api.Clause) { c.Set.Med = 0 }},
		{"set origin none", func(c *api.Clause) { c.Set.Origin = api.OriginNone }},
		{"set community add 1:1 1:2", func(c *api.Clause) { c.Set.Add = []api.Comm{{AS: 1, N: 1}, {AS: 1, N: 2}} }},
		{"set community del 1:2", func(c *api.Clause) { c.Set.Del = []api.Comm{{AS: 1, N: 2}} }},
		{"set community clear", func(c *api.Clause) { c.Set.Clear = true }},
		{"set prepend 3 4", func(c *api.Clause) { c.Set.Prepend = []int{3, 4} }},
	}
}

func TestPartsOfClauses(t *testing.T) {
	all := changes()
	for few := range 1 << len(all) {
		var l []part[api.Clause]
		for i := range all {
			if few>>i&1 == 1 {
				l = append(l, all[i])
			}
		}
		c := api.Clause{N: 5, Set: nothing()}
		for _, p := range l {
			p.make(&c)
		}
		parsed(t, inMap("deny 5 { "+joined(l)+"}"), clauses(c))
		slices.Reverse(l)
		parsed(t, inMap("deny 5 { "+joined(l)+"}"), clauses(c))
	}
	for from := range len(all) - 4 {
		orders(all[from:from+5], func(l []part[api.Clause]) {
			c := api.Clause{N: 5, Permit: true, Set: nothing()}
			for _, p := range l {
				p.make(&c)
			}
			parsed(t, inMap("permit 5 { "+joined(l)+"}"), clauses(c))
		})
	}
}

func TestOrigins(t *testing.T) {
	for i, s := range []string{"igp", "egp", "none"} {
		parsed(t, inClause("set origin "+s+";"), changing(func(x *api.Set) { x.Origin = i }))
		refused(t, inClause(`set origin @"`+s+`";`), api.ErrForm)
		refused(t, inClause("set origin "+s+" @"+s+";"), api.ErrForm)
	}
	for _, s := range []string{"0", "1", "incomplete", "a", "{", "}", ";", `""`} {
		refused(t, inClause("set origin @"+s+";"), api.ErrForm)
	}
}

func TestPartsOfClausesTwice(t *testing.T) {
	for _, p := range changes() {
		words := strings.Fields(p.s)
		at := 1 // the word that may stand once
		if words[0] == "set" && words[1] == "community" {
			at = 2
		}
		words[at] = "@" + words[at]
		twice := strings.Join(words, " ")
		refused(t, inClause(p.s+"; "+twice+";"), api.ErrTwice)
		for _, q := range changes() {
			if p.s != q.s {
				refused(t, inClause(p.s+"; "+q.s+"; "+twice+";"), api.ErrTwice)
			}
		}
		// The token counts, whatever would come behind it.
		refused(t, inClause(p.s+"; "+strings.Join(words[:at+1], " ")+" \"{\";"), api.ErrTwice)
		parsed(t, inMap("permit 1 { "+p.s+"; } permit 2 { "+p.s+"; }"), func() api.Config {
			c, d := api.Clause{N: 1, Permit: true, Set: nothing()}, api.Clause{N: 2, Permit: true, Set: nothing()}
			p.make(&c)
			p.make(&d)
			return clauses(c, d)
		}())
	}
	// What is told once is told, even if it changes nothing, or asks for nothing.
	refused(t, inClause(`match path ""; match @path "1";`), api.ErrTwice)
	refused(t, inClause("set pref 0; set @pref 0;"), api.ErrTwice)
	refused(t, inClause("set origin igp; set @origin igp;"), api.ErrTwice)
	refused(t, inClause("set community add 1:1; set community clear; set community @add 1:2;"), api.ErrTwice)
	// What looks like it is none.
	refused(t, inClause(`set pref 1; set @"pref" 1;`), api.ErrForm)
	refused(t, inClause(`match prefix l; match @"prefix" l;`), api.ErrForm)
	refused(t, inClause(`set community clear; set community @"clear";`), api.ErrForm)
	refused(t, inClause("set community clear; set @clear;"), api.ErrForm)
}

func TestWordsOfClauses(t *testing.T) {
	for _, s := range []string{
		"@;", "@prefix l;", "@pref 1;", "@{ }", "@matches;", `@"match" prefix l;`, "@permit 2 { }", "match @;", "match @l;", "match @pref 1;", "match @set;", "match @match;", "match @origin igp;",
		"set @;", "set @prefix l;", "set @path \"1\";", "set @add 1:1;", "set @clear;", "set @set;", "set community @;", "set community @1:1;", "set community @set 1:1;", "set community @community;",
		"match prefix l @l;", "set pref 1 @2;", "set med 1 @med 2;", "set community clear @clear;", "set prepend 1 @x;", "set prepend 1 @prepend;", "match prefix l @}", "set pref 1 @}", "set community clear @}", "set prepend 1 @}", "set prepend 1 @{", "set prepend 1 @\"2\";", "set pref 1; @;", "set @\"pref\" 1;", "set @}", "match @}", "set pref @}",
	} {
		refused(t, inClause(s), api.ErrForm)
	}
	for _, s := range []string{"@;", "@{ }", "@1 { }", "@permits 1 { }", `@"permit" 1 { }`, "permit @{ }", "permit @;", "permit @x { }", "permit 1 @;", "permit 1 @2 { }", "permit 1 @}", `permit 1 @"{" }`, "permit 1 { } @;", "@match prefix l;", "permit @deny 1 { }"} {
		refused(t, inMap(s), api.ErrForm)
	}
}

func TestNumbersOfClauses(t *testing.T) {
	parsed(t, inMap(""), clauses())
	parsed(t, inMap("deny 1 { } permit 2 { } deny 65535 { }"), clauses(
		api.Clause{N: 1, Set: nothing()}, api.Clause{N: 2, Permit: true, Set: nothing()}, api.Clause{N: 65535, Set: nothing()}))
	for _, s := range []string{
		"permit 1 { } permit @1 { }", "permit 10 { } deny @9 { }", "permit 10 { } permit 20 { } permit @15 { }", "permit 10 { } permit 20 { } permit @10 { }", "permit 65535 { } permit @65535 { }", "permit 65535 { } permit @65536 { }", "permit 65535 { } permit @1 { }", "permit 2 { } permit @0 { }",
	} {
		refused(t, inMap(s), api.ErrRange)
	}
	parsed(t, "route-map a { permit 5 { } } route-map b { permit 1 { } }", api.Config{Maps: []api.Map{
		{Name: "a", Clauses: []api.Clause{{N: 5, Permit: true, Set: nothing()}}}, {Name: "b", Clauses: []api.Clause{{N: 1, Permit: true, Set: nothing()}}}}})
}

func TestPartsOfRouters(t *testing.T) {
	all := []part[api.Router]{
		{"as 65535", func(r *api.Router) { r.AS = 65535 }},
		{"id 65535", func(r *api.Router) { r.ID = 65535 }},
		{"network 0.0.0.0/0", func(r *api.Router) { r.Networks = append(r.Networks, prefix("0.0.0.0/0")) }},
		{"network 10.0.0.0/8", func(r *api.Router) { r.Networks = append(r.Networks, prefix("10.0.0.0/8")) }},
		{"neighbor n import a export b", func(r *api.Router) {
			r.Neighbors = append(r.Neighbors, api.Neighbor{Name: "n", Import: "a", Export: "b"})
		}},
		{"link n cost 65536", func(r *api.Router) { r.Links = append(r.Links, api.Link{Name: "n", Cost: 65536}) }},
		{"link r cost 0", func(r *api.Router) { r.Links = append(r.Links, api.Link{Name: "r"}) }},
	}
	orders(all, func(l []part[api.Router]) {
		r := api.Router{Name: "r"}
		for _, p := range l {
			p.make(&r)
		}
		parsed(t, "router r { "+joined(l)+"}", api.Config{Routers: []api.Router{r}})
	})
}

func TestNeighbors(t *testing.T) {
	for few := range 8 {
		s, n := "neighbor n", api.Neighbor{Name: "n"}
		if few&1 != 0 {
			s, n.Import = s+" import x", "x"
		}
		if few&2 != 0 {
			s, n.Export = s+" export y", "y"
		}
		if few&4 != 0 {
			s, n.Client = s+" client", true
		}
		parsed(t, inRouter(s+";"), router(func(r *api.Router) { r.Neighbors = []api.Neighbor{n} }))
	}
	parsed(t, inRouter("neighbor r import x export x client; neighbor n import x export x client;"), router(func(r *api.Router) {
		r.Neighbors = []api.Neighbor{{Name: "r", Import: "x", Export: "x", Client: true}, {Name: "n", Import: "x", Export: "x", Client: true}}
	}))
	for _, s := range []string{
		"neighbor n export y @import x;", "neighbor n client @import x;", "neighbor n client @export x;", "neighbor n import x @import x;", "neighbor n export x @export x;", "neighbor n client @client;", "neighbor n @x;", "neighbor n import x @y;", "neighbor n import @;", "neighbor n export @;", `neighbor n @"client";`, `neighbor n @"import" x;`, `neighbor n import @"x";`, "neighbor @;", "neighbor n @}", "neighbor n @{", "neighbor n client @}",
	} {
		refused(t, inRouter(s), api.ErrForm)
	}
}

func TestWordsOfRouters(t *testing.T) {
	for _, s := range []string{
		"@;", "@{ }", "@router r { }", "@import x;", "@cost 1;", "@networks;", `@"as" 1;`, "@1;", "network @;", "network 10.0.0.0/8 @10.0.0.0/9;", "network 10.0.0.0/8 @ge 9;", "network 10.0.0.0/8 @}", "link @;", "link n @;", "link n @1;", "link n @costs 1;", `link n @"cost" 1;`, "link n cost @;", "link n cost 1 @1;", "link n cost 1 @}", "link n @cost2 1;", "link n @}", "network @}", "neighbor @}",
	} {
		refused(t, inRouter(s), api.ErrForm)
	}
	for _, s := range []string{"as @;", "as @}", "as 1 @id 2;", "as 1 @}", "as 1 @2;", "as @as 1;", "id @;", "id 1 @}", "as @x;"} {
		refused(t, "router r { "+s+" }", api.ErrForm)
	}
}

func TestWordsOfConfigs(t *testing.T) {
	for _, s := range []string{
		"@;", "@{", "@}", "@a", "@1", `@"router" r { as 1; id 2; }`, "@routers r { }", "@prefix l { }", "@permit 10.0.0.0/8;", "@as 1;", "@\"\"",
		"router @{ }", "router @;", "router r @r { }", "router r @;", "router r @}", `router r @"{" }`, "router r @as 1;", "prefix-list l @;", "prefix-list l @permit", "prefix-list @{", "route-map m @;", "route-map @{", "route-map m @permit",
		"prefix-list l { } @}", "prefix-list l { } @;", "prefix-list l { } @l { }", "router r { as 1; id 2; } @;", "router r { as 1; id 2; } @as 1;", "route-map m { } @permit 1 { }", "route-map m { permit 1 { } } @}",
	} {
		refused(t, s, api.ErrForm)
	}
}

func TestTwiceInRouters(t *testing.T) {
	for _, s := range []string{
		"@as 3;", "@id 3;", "@as 1;", "@id 2;", "@as x;", "@as as;", "@id;",
		"network 10.0.0.0/8; network @10.0.0.0/8;", "network 10.0.0.0/8; network 10.0.0.0/9; network @10.0.0.0/8;", "network 0.0.0.0/0; network @0.0.0.0/0 x;",
		"neighbor n; neighbor @n;", "neighbor n; neighbor m; neighbor @n import x;", "neighbor n client; neighbor @n export 1;",
		"link n cost 1; link @n cost 1;", "link n cost 1; link m cost 1; link @n cost 2;", "link n cost 1; link @n;",
		"@as 0;", "@id 65536;",
	} {
		refused(t, inRouter(s), api.ErrTwice)
	}
	parsed(t, inRouter("neighbor n; link n cost 1; neighbor m; link m cost 1; network 10.0.0.0/8; network 10.0.0.0/9;"), router(func(r *api.Router) {
		r.Neighbors = []api.Neighbor{{Name: "n"}, {Name: "m"}}
		r.Links = []api.Link{{Name: "n", Cost: 1}, {Name: "m", Cost: 1}}
		r.Networks = []api.Prefix{prefix("10.0.0.0/8"), prefix("10.0.0.0/9")}
	}))
	refused(t, `router r { as 1; @"as" 1; }`, api.ErrForm)
	refused(t, inRouter(`neighbor n; neighbor @"n";`), api.ErrForm)
	refused(t, inRouter(`network 10.0.0.0/8; network @"10.0.0.0/8";`), api.ErrForm)
}

func TestNamesTwice(t *testing.T) {
	const r = " { as 1; id 2; } "
	for _, s := range []string{
		"prefix-list a { } prefix-list @a { }", "prefix-list a { } prefix-list b { } prefix-list @a { }", "prefix-list a { } route-map a { } prefix-list @a { }", "prefix-list a { } prefix-list @a }",
		"route-map a { } route-map @a { }", "route-map a { } route-map b { } route-map @b { }",
		"router a" + r + "router @a" + r, "router a" + r + "router b" + r + "router @a { }", "router a" + r + "router @a;",
	} {
		refused(t, s, api.ErrTwice)
	}
	one := []api.Router{{Name: "a", AS: 1, ID: 2}}
	parsed(t, "prefix-list a { } route-map a { } router a"+r, api.Config{Lists: []api.List{{Name: "a"}}, Maps: []api.Map{{Name: "a"}}, Routers: one})
	parsed(t, "router a"+r+"route-map a { } prefix-list a { }", api.Config{Lists: []api.List{{Name: "a"}}, Maps: []api.Map{{Name: "a"}}, Routers: one})
	parsed(t, "prefix-list b { } router a"+r+"prefix-list a { }", api.Config{Lists: []api.List{{Name: "b"}, {Name: "a"}}, Routers: one})
	refused(t, `router a { as 1; id 2; } router @"a" { }`, api.ErrForm)
}

func TestRoutersWithoutNumbers(t *testing.T) {
	for _, s := range []string{
		"router r { @}", "router r { as 1; @}", "router r { id 1; @}", "router r { network 10.0.0.0/8; neighbor n; link n cost 1; @}", "router r { as 1; network 10.0.0.0/8; @}", "router r { id 1; @} x",
		"router q { as 1; id 2; } router r { as 1; @}", "router q { as 1; @} router r { as 0; id 2; }",
	} {
		refused(t, s, api.ErrNone)
	}
}

// rowOf is so many texts, one after the other.
func rowOf(n int, text func(i int) string) string {
	var b strings.Builder
	for i := range n {
		b.WriteString(text(i) + " ")
	}
	return b.String()
}

func TestTooMuch(t *testing.T) {
	name := func(i int) string { return "n" + strconv.Itoa(i) }
	for _, c := range []struct {
		in   func(string) string
		most int
		one  func(i int) string
		last string // the beginning of what is too much
	}{
		{inList, 16, func(int) string { return "permit 10.0.0.0/8;" }, "@deny"},
		{inList, 16, func(int) string { return "deny 10.0.0.0/8;" }, "@permit"},
		{inMap, 16, func(i int) string { return "permit " + strconv.Itoa(i+1) + " { }" }, "@deny"},
		{inRouter, 16, func(i int) string { return "network " + prefixes(i + 1)[i] + ";" }, "@network"},
		{inRouter, 16, func(i int) string { return "neighbor " + name(i) + ";" }, "@neighbor"},
		{inRouter, 16, func(i int) string { return "link " + name(i) + " cost 1;" }, "@link"},
		{strings.TrimSpace, 16, func(i int) string { return "prefix-list " + name(i) + " { }" }, "@prefix-list"},
		{strings.TrimSpace, 16, func(i int) string { return "route-map " + name(i) + " { }" }, "@route-map"},
		{strings.TrimSpace, 8, func(i int) string { return "router " + name(i) + " { as 1; id 2; }" }, "@router"},
	} {
		full := rowOf(c.most, c.one)
		if _, at, e := Parse(c.in(full)); at != (api.Pos{}) || e != api.OK {
			t.Errorf("Parse(%q): %v %d", c.in(full), at, e)
		}
		// The first token counts, whatever comes behind it.
		for _, behind := range []string{" n99 { }", " 10.99.0.0/16;", " 99 { }", " n99;", " n0 { as 0; }", " n0;", " 10.0.0.0/16;", " ;", " { ", ""} {
			refused(t, c.in(full+c.last+behind), api.ErrLong)
		}
		refused(t, c.in(full+"@x"), api.ErrForm)
		refused(t, c.in(full+"@;"), api.ErrForm)
		refused(t, c.in(full+`@"`+c.last[1:]+`"`), api.ErrForm)
	}
}

func TestTooMuchOfEach(t *testing.T) {
	name := func(i int) string { return "n" + strconv.Itoa(i) }
	all := rowOf(16, func(i int) string {
		return "network " + prefixes(i + 1)[i] + "; neighbor " + name(i) + "; link " + name(i) + " cost 1;"
	})
	c, at, e := Parse(inRouter(all))
	if e != api.OK || len(c.Routers[0].Networks) != 16 || len(c.Routers[0].Neighbors) != 16 || len(c.Routers[0].Links) != 16 {
		t.Errorf("16 of each: %+v %v %d", c, at, e)
	}
	tops := rowOf(16, func(i int) string { return "prefix-list " + name(i) + " { } route-map " + name(i) + " { }" })
	tops += rowOf(8, func(i int) string { return "router " + name(i) + " { as 1; id 2; }" })
	c, at, e = Parse(tops)
	if e != api.OK || len(c.Lists) != 16 || len(c.Maps) != 16 || len(c.Routers) != 8 {
		t.Errorf("all lists, maps and routers: %+v %v %d", c, at, e)
	}
	refused(t, tops+"@router n0 { }", api.ErrLong)
	refused(t, tops+"@prefix-list", api.ErrLong)
	// Each list, map and router has room of its own.
	sixteen := rowOf(16, func(i int) string { return "permit 10.0.0.0/8;" })
	c, at, e = Parse("prefix-list a { " + sixteen + "} prefix-list b { " + sixteen + "}")
	if e != api.OK || len(c.Lists) != 2 || len(c.Lists[0].Rules) != 16 || len(c.Lists[1].Rules) != 16 {
		t.Errorf("two lists of 16 rules: %+v %v %d", c, at, e)
	}
}

func TestTooManyCommunities(t *testing.T) {
	for _, word := range []string{"add", "del"} {
		for _, one := range []func(i int) string{
			func(i int) string { return "1:" + strconv.Itoa(i) }, func(i int) string { return "1:" + strconv.Itoa(9-i) }, func(int) string { return "local" },
		} {
			full := "set community " + word + " " + rowOf(8, one)
			c, at, e := Parse(inClause(full + ";"))
			if e != api.OK {
				t.Fatalf("eight: %v %d", at, e)
			}
			s := c.Maps[0].Clauses[0].Set
			told := slices.Concat(s.Add, s.Del)
			if len(told) != 8 {
				t.Errorf("eight: %+v", s)
			}
			for _, behind := range []string{";", " 1:9;", " x", ""} {
				refused(t, inClause(full+"@2:2"+behind), api.ErrLong)
				refused(t, inClause(full+"@local"+behind), api.ErrLong)
			}
			refused(t, inClause(full+"@0:1;"), api.ErrRange)
			refused(t, inClause(full+"@x;"), api.ErrForm)
			refused(t, inClause(full+"@}"), api.ErrForm)
		}
	}
	eight := rowOf(8, func(int) string { return "1:1" })
	if c, at, e := Parse(inClause("set community add " + eight + "; set community del " + eight + ";")); e != api.OK {
		t.Errorf("eight of both: %+v %v %d", c, at, e)
	}
}

func TestTooManyNumbers(t *testing.T) {
	full := "set prepend " + many("65535 ", 16)
	parsed(t, inClause(full+";"), changing(func(s *api.Set) { s.Prepend = slices.Repeat([]int{65535}, 16) }))
	for _, behind := range []string{";", " 1;", " x", ""} {
		refused(t, inClause(full+"@1"+behind), api.ErrLong)
		refused(t, inClause(full+"@65535"+behind), api.ErrLong)
	}
	refused(t, inClause(full+"@0;"), api.ErrRange)
	refused(t, inClause(full+"@65536;"), api.ErrRange)
	refused(t, inClause(full+"@01;"), api.ErrForm)
	refused(t, inClause(full+"@}"), api.ErrForm)
}

func TestEnds(t *testing.T) {
	l, _, _ := lex.Scan(whole)
	deep := 0
	for i, k := range l {
		switch {
		case k.Kind == lex.Mark && k.S == "{":
			deep++
		case k.Kind == lex.Mark && k.S == "}":
			deep--
		}
		s := lex.Join(l[:i+1])
		for _, behind := range []string{"", " ", "\n", "\n\n \t", " # no more", "#\n  "} {
			c, at, e := Parse(s + behind)
			if deep == 0 && k.S == "}" {
				if e != api.OK || at != (api.Pos{}) {
					t.Errorf("Parse(%q): %v %d", s+behind, at, e)
				}
				continue
			}
			if at != lex.End(s+behind) || e != api.ErrEnd || !same(c, api.Config{}) {
				t.Errorf("Parse(%q): %+v %v %d", s+behind, c, at, e)
			}
		}
	}
	if _, at, e := Parse("router r1 {\n as 1;\n"); at != (api.Pos{Line: 3, Col: 1}) || e != api.ErrEnd {
		t.Error(at, e)
	}
	if _, at, e := Parse("router"); at != (api.Pos{Line: 1, Col: 7}) || e != api.ErrEnd {
		t.Error(at, e)
	}
}

func TestFirstFault(t *testing.T) {
	refused(t, "router r { as @0; as 0; id x; }", api.ErrRange)
	refused(t, "router r { as 1; @as 0; id x;", api.ErrTwice)
	refused(t, "router r { as 1; id @x; as 1; }", api.ErrForm)
	refused(t, "router @abcdefghijklm { as 0", api.ErrLong)
	refused(t, "router r { as 1; @} router r { as 0", api.ErrNone)
	refused(t, "prefix-list l { permit @10.0.0.1/8 ge 7 le x; } }", api.ErrArg)
	refused(t, "prefix-list l { permit 10.0.0.0/8 ge @7 le x; } }", api.ErrRange)
	refused(t, "prefix-list l { permit 10.0.0.0/8 ge 9 le @x; } }", api.ErrForm)
	refused(t, "route-map m { permit 2 { set pref @1048577; set pref 1; } permit 1 { } }", api.ErrRange)
	refused(t, "route-map m { permit 2 { set pref 1; set @pref 1048577; } permit 1 { } }", api.ErrTwice)
	refused(t, "route-map m { permit 2 { } permit @1 { set x; } } route-map m", api.ErrRange)
	refused(t, "route-map m { } route-map @m { permit 0 { } }", api.ErrTwice)
	refused(t, "@router2 { } router r { as 0; }", api.ErrForm)
	refused(t, "router r { as 1; id 2; network 10.0.0.0/8; network @10.0.0.0/8 } ", api.ErrTwice)
	refused(t, "router r { as 1; id 2; neighbor n import @1; neighbor n; }", api.ErrForm)
}

func TestNewMemory(t *testing.T) {
	first, _, _ := Parse(whole)
	second, _, _ := Parse(whole)
	spoil(first)
	if !same(second, wholeConfig()) {
		t.Error("two answers share memory")
	}
	third, _, _ := Parse(whole)
	if !same(third, wholeConfig()) {
		t.Error("an answer shares memory with what is kept")
	}
	// Lists of one answer don't share any: each grows by itself.
	for i := range third.Maps {
		for k := range third.Maps[i].Clauses {
			s := &third.Maps[i].Clauses[k].Set
			s.Add = append(s.Add, api.Comm{})
			s.Del = append(s.Del, api.Comm{AS: 5})
			s.Add, s.Del = s.Add[:len(s.Add)-1], s.Del[:len(s.Del)-1]
		}
	}
	if !same(third, wholeConfig()) {
		t.Error("lists of one answer share memory")
	}
	from := uintptr(unsafe.Pointer(unsafe.StringData(whole)))
	for _, s := range []string{second.Lists[0].Name, second.Maps[0].Name, second.Maps[0].Clauses[0].Match.Path, second.Routers[0].Name, second.Routers[0].Links[0].Name} {
		if at := uintptr(unsafe.Pointer(unsafe.StringData(s))); at >= from && at < from+uintptr(len(whole)) {
			t.Errorf("%q shares memory with what was handed in", s)
		}
	}
}

// spoil overwrites all lists of a configuration.
func spoil(c api.Config) {
	for _, l := range c.Lists {
		clear(l.Rules)
	}
	for _, m := range c.Maps {
		for _, x := range m.Clauses {
			clear(x.Set.Add)
			clear(x.Set.Del)
			clear(x.Set.Prepend)
		}
		clear(m.Clauses)
	}
	for _, r := range c.Routers {
		clear(r.Networks)
		clear(r.Neighbors)
		clear(r.Links)
	}
	clear(c.Lists)
	clear(c.Maps)
	clear(c.Routers)
}
