package cfg

import (
	"fmt"
	"reflect"
	"strconv"
	"strings"
	"testing"

	"whirligig/addr"
	"whirligig/api"
	"whirligig/asre"
	"whirligig/comm"
	"whirligig/lex"
)

// same tells whether two configurations are the same, nil and empty lists being one.
func same(a, b api.Config) bool { return fmt.Sprintf("%#v", bared(a)) == fmt.Sprintf("%#v", bared(b)) }

// bared is a configuration without lists that are empty but not nil.
func bared(c api.Config) api.Config {
	bare(reflect.ValueOf(&c).Elem())
	return c
}

// bare makes empty lists nil, in what a value has.
func bare(v reflect.Value) {
	switch v.Kind() {
	case reflect.Slice:
		if v.Len() == 0 {
			v.SetZero()
		}
		for i := range v.Len() {
			bare(v.Index(i))
		}
	case reflect.Struct:
		for i := range v.NumField() {
			bare(v.Field(i))
		}
	}
}

// parsed asks whether a text is a configuration.
func parsed(t *testing.T, s string, want api.Config) {
	t.Helper()
	if c, at, e := Parse(s); !same(c, want) || at != (api.Pos{}) || e != api.OK {
		t.Errorf("Parse(%q): %+v %v %d, not %+v", s, c, at, e, want)
	}
}

// refused asks whether a text is refused with an error. Where the fault lies is told by a sign, which isn't in the text.
func refused(t *testing.T, signed string, want api.Errno) {
	t.Helper()
	at := strings.IndexByte(signed, '@')
	s := signed[:at] + signed[at+1:]
	if c, p, e := Parse(s); !reflect.ValueOf(c).IsZero() || p != lex.Place(s, at) || e != want {
		t.Errorf("Parse(%q): %+v %v %d, not %d", signed, c, p, e, want)
	}
}

// prefix is the prefix of a text that is one.
func prefix(s string) api.Prefix {
	p, e := addr.Parse(s)
	if e != api.OK {
		panic(s)
	}
	return p
}

// prefixes is so many prefixes.
func prefixes(n int) []string {
	var l []string
	for i := range n {
		l = append(l, "10."+strconv.Itoa(i)+".0.0/16")
	}
	return l
}

// rules is a list of rules.
func rules(l ...api.Range) api.Config {
	return api.Config{Lists: []api.List{{Name: "l", Rules: l}}}
}

// clauses is a map of clauses.
func clauses(l ...api.Clause) api.Config {
	return api.Config{Maps: []api.Map{{Name: "m", Clauses: l}}}
}

// nothing changes nothing.
func nothing() api.Set { return api.Set{Pref: -1, Med: -1, Origin: -1} }

// changing is a map of one clause with what it changes.
func changing(change func(*api.Set)) api.Config {
	s := nothing()
	change(&s)
	return clauses(api.Clause{N: 1, Permit: true, Set: s})
}

// asking is a map of one clause with what it asks for.
func asking(m api.Match) api.Config {
	return clauses(api.Clause{N: 1, Permit: true, Match: m, Set: nothing()})
}

// inList, inMap, inClause, inRouter put a text where rules, clauses, parts of a clause, or parts of a router stand.
func inList(s string) string   { return "prefix-list l { " + s + " }" }
func inMap(s string) string    { return "route-map m { " + s + " }" }
func inClause(s string) string { return inMap("permit 1 { " + s + " }") }
func inRouter(s string) string { return "router r { as 1; id 2; " + s + " }" }

// router is one router with some more.
func router(change func(*api.Router)) api.Config {
	r := api.Router{Name: "r", AS: 1, ID: 2}
	change(&r)
	return api.Config{Routers: []api.Router{r}}
}

// whole has each part of the grammar.
const whole = `# a network
prefix-list wide {
 permit 10.0.0.0/8 ge 16 le 24;
 deny 0.0.0.0/0 ge 8;
 permit 10.0.0.0/8 le 9;
 deny 10.1.2.3/32;
}
prefix-list none { }
route-map in {
 permit 10 { # first
  match prefix wide; match path "^65000 .*$"; match community 65000:1;
  set pref 200; set med 5; set origin egp;
  set community clear; set community del 65000:2 65000:1; set community add no-export 65000:2 65000:2;
  set prepend 65001 65001;
 }
 deny 20 { }
}
route-map out{permit 1{}}
router r1 {
 as 65001; id 1;
 network 10.0.0.0/8; network 10.0.0.0/9;
 neighbor r2; neighbor r3 import in export out client;
 link r2 cost 10; link r3 cost 0;
}
router r2 { link r1 cost 10; neighbor r1 client; network 10.0.0.0/8; id 2; as 65001; }
`

// wholeConfig is the configuration of that.
func wholeConfig() api.Config {
	return api.Config{
		Lists: []api.List{
			{Name: "wide", Rules: []api.Range{
				{P: prefix("10.0.0.0/8"), Ge: 16, Le: 24, Permit: true},
				{P: prefix("0.0.0.0/0"), Ge: 8, Le: 8},
				{P: prefix("10.0.0.0/8"), Ge: 8, Le: 9, Permit: true},
				{P: prefix("10.1.2.3/32"), Ge: 32, Le: 32},
			}},
			{Name: "none"},
		},
		Maps: []api.Map{
			{Name: "in", Clauses: []api.Clause{
				{
					N: 10, Permit: true,
					Match: api.Match{List: "wide", Path: "^65000 .*$", Comm: api.Comm{AS: 65000, N: 1}},
					Set: api.Set{
						Pref: 200, Med: 5, Origin: api.OriginEGP, Clear: true,
						Del:     []api.Comm{{AS: 65000, N: 2}, {AS: 65000, N: 1}},
						Add:     []api.Comm{comm.NoExport(), {AS: 65000, N: 2}, {AS: 65000, N: 2}},
						Prepend: []int{65001, 65001},
					},
				},
				{N: 20, Set: nothing()},
			}},
			{Name: "out", Clauses: []api.Clause{{N: 1, Permit: true, Set: nothing()}}},
		},
		Routers: []api.Router{
			{
				Name: "r1", AS: 65001, ID: 1,
				Networks:  []api.Prefix{prefix("10.0.0.0/8"), prefix("10.0.0.0/9")},
				Neighbors: []api.Neighbor{{Name: "r2"}, {Name: "r3", Import: "in", Export: "out", Client: true}},
				Links:     []api.Link{{Name: "r2", Cost: 10}, {Name: "r3"}},
			},
			{
				Name: "r2", AS: 65001, ID: 2,
				Networks:  []api.Prefix{prefix("10.0.0.0/8")},
				Neighbors: []api.Neighbor{{Name: "r1", Client: true}},
				Links:     []api.Link{{Name: "r1", Cost: 10}},
			},
		},
	}
}

func TestExamples(t *testing.T) {
	parsed(t, "router r1 { as 65001; id 1; }", api.Config{Routers: []api.Router{{Name: "r1", AS: 65001, ID: 1}}})
	refused(t, "router r1 { as @0; }", api.ErrRange)
	if _, at, e := Parse("router r1 { as 0; }"); at != (api.Pos{Line: 1, Col: 16}) || e != api.ErrRange {
		t.Error(at, e)
	}
	parsed(t, whole, wholeConfig())
	l, _, _ := lex.Scan(whole)
	parsed(t, lex.Join(l), wholeConfig())
	parsed(t, strings.ReplaceAll(lex.Join(l), "\n", ""), wholeConfig())
	parsed(t, strings.ReplaceAll(whole, "\n", "\r\n"), wholeConfig())
}

func TestNothing(t *testing.T) {
	for _, s := range []string{"", " ", "\n\n", "# router", "# a\n\t# b\r\n"} {
		parsed(t, s, api.Config{})
	}
}

func TestFaultsOfWords(t *testing.T) {
	for _, s := range []string{
		"A", "router r1 { as A; }", "router r1 {\n as =1; }", "router r1 {\n\tas +1; }", "router " + many("r", 33) + " { }",
		`route-map m { permit 1 { match path "a`, "route-map m { permit 1 { match path \"\t\"; } }", `route-map m { permit 1 { match path "` + many("1", 65) + `"; } }`,
		many(" ", 8193), many("router r1 { as 1; id 1; }\n", 400),
		// These lie behind others, but layer 11's faults are told ahead of all.
		"router router router A", `} ; "`, "router r1 { as 0; } " + many("0", 33), `x "" %`,
	} {
		_, want, wantE := lex.Scan(s)
		if c, at, e := Parse(s); !reflect.ValueOf(c).IsZero() || at != want || e != wantE || e == api.OK {
			t.Errorf("Parse(%q): %+v %v %d, not %v %d", s, c, at, e, want, wantE)
		}
	}
	refused(t, "router r1 { as @A; }", api.ErrForm)
	refused(t, `} @"x`, api.ErrEnd)
	refused(t, "@"+many(";", 8193), api.ErrLong)
	refused(t, "@"+many(";", 8192), api.ErrForm)
}

func TestNamesInTexts(t *testing.T) {
	for _, c := range []struct {
		name string
		e    api.Errno
	}{
		{"a", api.OK}, {"abcdefghijkl", api.OK}, {"a-1_z", api.OK}, {"router", api.OK}, {"import", api.OK}, {"export", api.OK}, {"client", api.OK}, {"cost", api.OK}, {"permit", api.OK},
		{"abcdefghijklm", api.ErrLong}, {many("a", 32), api.ErrLong}, {"a-----------_", api.ErrLong},
		{"1", api.ErrForm}, {"1a", api.ErrForm}, {"-a", api.ErrForm}, {"_a", api.ErrForm}, {"a.b", api.ErrForm}, {"a:b", api.ErrForm}, {"a/b", api.ErrForm}, {"abcdefghijkl.", api.ErrForm}, {many("1", 13), api.ErrForm},
		{`"a"`, api.ErrForm}, {`""`, api.ErrForm}, {"{", api.ErrForm}, {"}", api.ErrForm}, {";", api.ErrForm},
	} {
		for _, x := range []struct {
			ahead, behind string
			config        api.Config
		}{
			{"prefix-list ", " { }", api.Config{Lists: []api.List{{Name: c.name}}}},
			{"route-map ", " { }", api.Config{Maps: []api.Map{{Name: c.name}}}},
			{"router ", " { as 1; id 2; }", api.Config{Routers: []api.Router{{Name: c.name, AS: 1, ID: 2}}}},
			{"route-map m { permit 1 { match prefix ", "; } }", asking(api.Match{List: c.name})},
			{"router r { as 1; id 2; neighbor ", "; }", router(func(r *api.Router) { r.Neighbors = []api.Neighbor{{Name: c.name}} })},
			{"router r { as 1; id 2; neighbor n import ", "; }", router(func(r *api.Router) { r.Neighbors = []api.Neighbor{{Name: "n", Import: c.name}} })},
			{"router r { as 1; id 2; neighbor n export ", "; }", router(func(r *api.Router) { r.Neighbors = []api.Neighbor{{Name: "n", Export: c.name}} })},
			{"router r { as 1; id 2; link ", " cost 1; }", router(func(r *api.Router) { r.Links = []api.Link{{Name: c.name, Cost: 1}} })},
		} {
			if c.e == api.OK {
				parsed(t, x.ahead+c.name+x.behind, x.config)
			} else {
				refused(t, x.ahead+"@"+c.name+x.behind, c.e)
			}
		}
	}
	parsed(t, inRouter("neighbor neighbor import import export export client; link link cost 1;"), router(func(r *api.Router) {
		r.Neighbors = []api.Neighbor{{Name: "neighbor", Import: "import", Export: "export", Client: true}}
		r.Links = []api.Link{{Name: "link", Cost: 1}}
	}))
}

// number is where a number stands, from which to which it may be, and the configuration with it.
type number struct {
	ahead, behind string
	from, to      int
	config        func(n int) api.Config
}

// numbers is all places of numbers but those of rules.
func numbers() []number {
	return []number{
		{"route-map m { permit ", " { } }", 1, 65535, func(n int) api.Config { return clauses(api.Clause{N: n, Permit: true, Set: nothing()}) }},
		{"route-map m { permit 1 { set pref ", "; } }", 0, 1048576, func(n int) api.Config { return changing(func(s *api.Set) { s.Pref = n }) }},
		{"route-map m { permit 1 { set med ", "; } }", 0, 1048576, func(n int) api.Config { return changing(func(s *api.Set) { s.Med = n }) }},
		{"route-map m { permit 1 { set prepend ", "; } }", 1, 65535, func(n int) api.Config { return changing(func(s *api.Set) { s.Prepend = []int{n} }) }},
		{"route-map m { permit 1 { set prepend 5 ", "; } }", 1, 65535, func(n int) api.Config { return changing(func(s *api.Set) { s.Prepend = []int{5, n} }) }},
		{"router r { id 2; as ", "; }", 1, 65535, func(n int) api.Config { return router(func(r *api.Router) { r.AS = n }) }},
		{"router r { as 1; id ", "; }", 1, 65535, func(n int) api.Config { return router(func(r *api.Router) { r.ID = n }) }},
		{"router r { as 1; id 2; link n cost ", "; }", 0, 65536, func(n int) api.Config {
			return router(func(r *api.Router) { r.Links = []api.Link{{Name: "n", Cost: n}} })
		}},
	}
}

func TestNumbersInTexts(t *testing.T) {
	for _, x := range numbers() {
		for _, n := range []int{x.from, x.from + 1, 9, 10, 4711, x.to - 1, x.to} {
			parsed(t, x.ahead+strconv.Itoa(n)+x.behind, x.config(n))
			refused(t, x.ahead+"@0"+strconv.Itoa(n)+x.behind, api.ErrForm)
			refused(t, x.ahead+"@-"+strconv.Itoa(n)+x.behind, api.ErrForm)
		}
		if x.from > 0 {
			refused(t, x.ahead+"@0"+x.behind, api.ErrRange)
		}
		for _, s := range []string{strconv.Itoa(x.to + 1), "4294967297", "9223372036854775807", "9223372036854775808", "18446744073709551617", "1" + many("0", 31)} {
			refused(t, x.ahead+"@"+s+x.behind, api.ErrRange)
		}
		for _, s := range []string{"00", "a", "1a", "1.5", "1:1", "0x1", "_1", "10.0.0.0/8", `"1"`, `""`, "{", "}"} {
			refused(t, x.ahead+"@"+s+x.behind, api.ErrForm)
		}
	}
	refused(t, "router r { id 2; as @; }", api.ErrForm)
	refused(t, inClause("set pref @;"), api.ErrForm)
	refused(t, inClause("set prepend @;"), api.ErrForm)
	refused(t, inRouter("link n cost @;"), api.ErrForm)
}

func TestRules(t *testing.T) {
	for _, c := range []struct {
		s      string
		ge, le int
	}{
		{"10.0.0.0/8", 8, 8}, {"10.0.0.0/8 ge 8", 8, 8}, {"10.0.0.0/8 le 8", 8, 8}, {"10.0.0.0/8 ge 8 le 8", 8, 8},
		{"10.0.0.0/8 ge 9", 9, 9}, {"10.0.0.0/8 le 9", 8, 9}, {"10.0.0.0/8 ge 9 le 10", 9, 10}, {"10.0.0.0/8 ge 8 le 32", 8, 32},
		{"10.0.0.0/8 ge 32", 32, 32}, {"10.0.0.0/8 le 32", 8, 32}, {"10.0.0.0/8 ge 32 le 32", 32, 32}, {"10.0.0.0/8 ge 16 le 16", 16, 16},
		{"0.0.0.0/0", 0, 0}, {"0.0.0.0/0 ge 0", 0, 0}, {"0.0.0.0/0 le 0", 0, 0}, {"0.0.0.0/0 ge 0 le 32", 0, 32},
		{"255.255.255.255/32", 32, 32}, {"255.255.255.255/32 ge 32 le 32", 32, 32},
	} {
		p := prefix(strings.Fields(c.s)[0])
		parsed(t, inList("permit "+c.s+";"), rules(api.Range{P: p, Ge: c.ge, Le: c.le, Permit: true}))
		parsed(t, inList("deny "+c.s+"; permit 10.0.0.0/8;"), rules(
			api.Range{P: p, Ge: c.ge, Le: c.le}, api.Range{P: prefix("10.0.0.0/8"), Ge: 8, Le: 8, Permit: true}))
	}
	for _, s := range []string{
		"ge @7", "ge @0", "ge @33", "ge @100", "ge @9223372036854775807", "ge @9223372036854775808", "ge @" + many("9", 32), "le @7", "le @0", "le @33", "le @9223372036854775807", "le @18446744073709551616",
		"ge 9 le @8", "ge 32 le @31", "ge 32 le @33", "ge 8 le @7", "ge @7 le 6", "ge @33 le 40", "ge @7 le 9", "ge @33 le 32",
	} {
		refused(t, inList("permit 10.0.0.0/8 "+s+";"), api.ErrRange)
		refused(t, inList("permit 10.0.0.0/8; deny 10.0.0.0/8 "+s+";"), api.ErrRange)
	}
	for _, s := range []string{
		"@", "ge 9 le 9 @le 9", "le 9 @ge 9", "ge 9 @ge 9", "le 9 @le 9", "ge @x", "ge @08", "ge @;", "le @;", "ge @le 9", "ge 9 le @", "ge 9 @9", "@9", "@\"ge\" 9", "ge @\"9\"", "@permit", "@10.0.0.0/8", "@import a", "@{",
	} {
		if strings.HasSuffix(s, "@") {
			s += "}"
		}
		refused(t, inList("permit 10.0.0.0/8 "+s+";"), api.ErrForm)
	}
	for _, s := range []string{"@permits 10.0.0.0/8;", "@10.0.0.0/8;", "@;", "permit @ge 9;", "permit @;", "deny @deny 10.0.0.0/8;", "@\"permit\" 10.0.0.0/8;", "@{ }", "permit 10.0.0.0/8; @;"} {
		refused(t, inList(s), api.ErrForm)
	}
}

func TestPrefixes(t *testing.T) {
	for _, c := range []struct {
		s string
		e api.Errno
	}{
		{"10.0.0.1/8", api.ErrArg}, {"0.0.0.1/0", api.ErrArg}, {"255.255.255.255/31", api.ErrArg},
		{"10.0.0.0/33", api.ErrRange}, {"256.0.0.0/8", api.ErrRange}, {"10.0.0.0/99999", api.ErrRange}, {"10.1000.0.0/8", api.ErrRange},
		{"10.0.0.0", api.ErrForm}, {"10.0.0/8", api.ErrForm}, {"10.0.0.0/08", api.ErrForm}, {"10.0.0.0/", api.ErrForm}, {"a", api.ErrForm}, {"8", api.ErrForm}, {"10.0.0.0.0/8", api.ErrForm},
		{`"10.0.0.0/8"`, api.ErrForm}, {`"10.0.0.0/33"`, api.ErrForm}, {`"10.0.0.1/8"`, api.ErrForm}, {"{", api.ErrForm}, {"}", api.ErrForm}, {";", api.ErrForm},
	} {
		if _, e := addr.Parse(c.s); e != c.e && c.e != api.ErrForm {
			t.Fatalf("layer 1 tells %d of %s", e, c.s)
		}
		refused(t, inList("permit @"+c.s+";"), c.e)
		refused(t, inList("deny @"+c.s+" ge 40;"), c.e)
		refused(t, inRouter("network @"+c.s+";"), c.e)
	}
	for _, s := range []string{"0.0.0.0/0", "128.0.0.0/1", "10.0.0.0/8", "255.255.255.255/32", "1.2.3.4/32"} {
		parsed(t, inRouter("network "+s+";"), router(func(r *api.Router) { r.Networks = []api.Prefix{prefix(s)} }))
	}
}

func TestCommunities(t *testing.T) {
	for _, c := range []struct {
		s    string
		want api.Comm
		e    api.Errno
	}{
		{"1:0", api.Comm{AS: 1}, api.OK}, {"65535:65535", api.Comm{AS: 65535, N: 65535}, api.OK}, {"65000:1", api.Comm{AS: 65000, N: 1}, api.OK},
		{"no-export", comm.NoExport(), api.OK}, {"no-advertise", comm.NoAdvertise(), api.OK}, {"local", comm.Local(), api.OK}, {"65535:65281", comm.NoExport(), api.OK},
		{s: "0:1", e: api.ErrRange}, {s: "65536:1", e: api.ErrRange}, {s: "1:65536", e: api.ErrRange}, {s: "1:99999999999999999999", e: api.ErrRange},
		{s: "1", e: api.ErrForm}, {s: "1:", e: api.ErrForm}, {s: ":1", e: api.ErrForm}, {s: "1:1:1", e: api.ErrForm}, {s: "01:1", e: api.ErrForm}, {s: "1:01", e: api.ErrForm}, {s: "a", e: api.ErrForm}, {s: "no-exports", e: api.ErrForm}, {s: "none", e: api.ErrForm},
		{s: `"1:1"`, e: api.ErrForm}, {s: `"0:1"`, e: api.ErrForm}, {s: `"local"`, e: api.ErrForm}, {s: "{", e: api.ErrForm}, {s: "}", e: api.ErrForm},
	} {
		if c.e != api.OK {
			for _, s := range []string{"match community @", "set community add @", "set community del @", "set community add 1:1 @", "set community del 1:1 1:2 @"} {
				refused(t, inClause(s+c.s+";"), c.e)
			}
			continue
		}
		parsed(t, inClause("match community "+c.s+";"), asking(api.Match{Comm: c.want}))
		parsed(t, inClause("set community add "+c.s+";"), changing(func(s *api.Set) { s.Add = []api.Comm{c.want} }))
		parsed(t, inClause("set community del 9:9 "+c.s+" 1:1;"), changing(func(s *api.Set) { s.Del = []api.Comm{{AS: 9, N: 9}, c.want, {AS: 1, N: 1}} }))
	}
	for _, s := range []string{"match community @;", "set community add @;", "set community del @;", "match community 1:1 @1:2;", "set community clear @1:1;", "set community add 1:1 @add 1:2;", "set community add 1:1 @{"} {
		refused(t, inClause(s), api.ErrForm)
	}
}

func TestPaths(t *testing.T) {
	for _, s := range []string{"", "1", "^65000 .*$", "  1   2 ", "(1|2)+ 3", "[1-3 5]?", many(" ", 64), "|"} {
		parsed(t, inClause(`match path "`+s+`";`), asking(api.Match{Path: s}))
	}
	for _, c := range []struct {
		s string
		e api.Errno
	}{
		{`"0"`, api.ErrRange}, {`"65536"`, api.ErrRange}, {`"[3-2]"`, api.ErrRange},
		{`"("`, api.ErrForm}, {`"a"`, api.ErrForm}, {`"01"`, api.ErrForm}, {`"*"`, api.ErrForm}, {`"1$2"`, api.ErrForm},
		{`"` + many("(", 9) + many(")", 9) + `"`, api.ErrLong},
		{"1", api.ErrForm}, {"0", api.ErrForm}, {"65536", api.ErrForm}, {"a", api.ErrForm}, {";", api.ErrForm}, {"{", api.ErrForm}, {"}", api.ErrForm},
	} {
		if in, is := strings.CutPrefix(c.s, `"`); is {
			if _, e := asre.Parse(strings.TrimSuffix(in, `"`)); e != c.e {
				t.Fatalf("layer 5 tells %d of %s", e, c.s)
			}
		}
		refused(t, inClause("match path @"+c.s+";"), c.e)
	}
	refused(t, inClause(`match path "1" @"2";`), api.ErrForm)
	refused(t, inClause(`match path "1" @2;`), api.ErrForm)
}
