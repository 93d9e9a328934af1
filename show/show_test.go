package show

import (
	"fmt"
	"reflect"
	"regexp"
	"slices"
	"strings"
	"testing"

	"whirligig/addr"
	"whirligig/api"
	"whirligig/cfg"
)

// nothing changes nothing.
func nothing() api.Set { return api.Set{Pref: -1, Med: -1, Origin: -1} }

// prefix is the prefix of a text that is one.
func prefix(s string) api.Prefix {
	p, e := addr.Parse(s)
	if e != api.OK {
		panic(s)
	}
	return p
}

// name is the name number i, of so many bytes, if it has fewer else.
func name(i, bytes int) string { return fmt.Sprintf("n%0*d", bytes-1, i) }

// rules, clauses, router are configurations with one list, map or router.
func rules(l ...api.Range) api.Config {
	return api.Config{Lists: []api.List{{Name: "l", Rules: l}}}
}

func clauses(l ...api.Clause) api.Config {
	return api.Config{Maps: []api.Map{{Name: "m", Clauses: l}}}
}

func router(change func(*api.Router)) api.Config {
	r := api.Router{Name: "r", AS: 1, ID: 2}
	change(&r)
	return api.Config{Routers: []api.Router{r}}
}

// changing is a map of one clause with what it changes.
func changing(change func(*api.Set)) api.Config {
	s := nothing()
	change(&s)
	return clauses(api.Clause{N: 1, Permit: true, Set: s})
}

// asking is a map of one clause with what it asks for.
func asking(m api.Match) api.Config {
	return clauses(api.Clause{N: 1, Permit: true, Match: m, Set: nothing()})
}

// whole has each line that there can be.
const whole = `prefix-list wide {
 permit 10.0.0.0/8 ge 16 le 24;
 deny 10.0.0.0/8 ge 9;
 permit 10.0.0.0/8 le 32;
 deny 0.0.0.0/0;
}
prefix-list none {
}
route-map in {
 permit 10 {
  match prefix wide;
  match path "^65000 .*$";
  match community 65000:1;
  set pref 200;
  set med 0;
  set origin egp;
  set community clear;
  set community del 65000:2 no-export;
  set community add local 65000:1 65000:1;
  set prepend 65001 65001;
 }
 deny 20 {
 }
}
route-map out {
}
router r1 {
 as 65001;
 id 1;
 network 10.0.0.0/8;
 network 10.0.0.0/9;
 neighbor r2 import in export out client;
 neighbor r3 export in;
 neighbor r4;
 link r2 cost 0;
 link r3 cost 65536;
}
router r2 {
 as 65535;
 id 65535;
}
`

// wholeConfig is the configuration of whole.
func wholeConfig() api.Config {
	ten := prefix("10.0.0.0/8")
	return api.Config{
		Lists: []api.List{
			{Name: "wide", Rules: []api.Range{{P: ten, Ge: 16, Le: 24, Permit: true}, {P: ten, Ge: 9, Le: 9}, {P: ten, Ge: 8, Le: 32, Permit: true}, {}}},
			{Name: "none"},
		},
		Maps: []api.Map{
			{Name: "in", Clauses: []api.Clause{
				{N: 10, Permit: true, Match: api.Match{List: "wide", Path: "^65000 .*$", Comm: api.Comm{AS: 65000, N: 1}}, Set: api.Set{
					Pref: 200, Med: 0, Origin: api.OriginEGP, Clear: true, Prepend: []int{65001, 65001},
					Add: []api.Comm{{AS: 65535, N: 65283}, {AS: 65000, N: 1}, {AS: 65000, N: 1}},
					Del: []api.Comm{{AS: 65000, N: 2}, {AS: 65535, N: 65281}},
				}},
				{N: 20, Set: nothing()},
			}},
			{Name: "out"},
		},
		Routers: []api.Router{
			{
				Name: "r1", AS: 65001, ID: 1, Networks: []api.Prefix{ten, prefix("10.0.0.0/9")},
				Neighbors: []api.Neighbor{{Name: "r2", Import: "in", Export: "out", Client: true}, {Name: "r3", Export: "in"}, {Name: "r4"}},
				Links:     []api.Link{{Name: "r2"}, {Name: "r3", Cost: 65536}},
			},
			{Name: "r2", AS: 65535, ID: 65535},
		},
	}
}

// printed asks whether a configuration has a text.
func printed(t *testing.T, c api.Config, want string) {
	t.Helper()
	if s, e := Print(c); !May(c) || s != want || e != api.OK {
		t.Errorf("Print(%+v): %q %d, not %q", c, s, e, want)
	}
	if e := held(t, c); e != api.OK {
		t.Errorf("%+v: %d", c, e)
	}
}

// refused asks whether a configuration may not be.
func refused(t *testing.T, c api.Config) {
	t.Helper()
	if s, e := Print(c); May(c) || s != "" || e != api.ErrArg {
		t.Errorf("Print(%+v): %q %d, not %d", c, s, e, api.ErrArg)
	}
	if e := held(t, c); e != api.ErrArg {
		t.Errorf("%+v: %d", c, e)
	}
}

// plain asks whether a text has a plain text.
func plain(t *testing.T, s, want string) {
	t.Helper()
	if got, at, e := Plain(s); got != want || at != (api.Pos{}) || e != api.OK {
		t.Errorf("Plain(%q): %q %v %d, not %q", s, got, at, e, want)
	}
}

func TestExamples(t *testing.T) {
	c := api.Config{Routers: []api.Router{{Name: "r1", AS: 65001, ID: 1}}}
	printed(t, c, "router r1 {\n as 65001;\n id 1;\n}\n")
	plain(t, "router r1 { as 65001; id 1; }", "router r1 {\n as 65001;\n id 1;\n}\n")
	plain(t, "router r1{id 1;as 65001;}", "router r1 {\n as 65001;\n id 1;\n}\n")
	if l := Differ(c, api.Config{}); !slices.Equal(l, []string{"router r1"}) {
		t.Error(l)
	}
}

func TestWhole(t *testing.T) {
	printed(t, wholeConfig(), whole)
	plain(t, whole, whole)
}

func TestNothing(t *testing.T) {
	printed(t, api.Config{}, "")
	printed(t, api.Config{Lists: []api.List{}, Maps: []api.Map{}, Routers: []api.Router{}}, "")
	for _, s := range []string{"", " ", "\n\n", "# a remark", "\t\r\n# one\n#\n"} {
		plain(t, s, "")
	}
	printed(t, rules(), "prefix-list l {\n}\n")
	printed(t, rules([]api.Range{}...), "prefix-list l {\n}\n")
	printed(t, clauses(), "route-map m {\n}\n")
	printed(t, clauses(api.Clause{N: 1, Set: nothing()}), "route-map m {\n deny 1 {\n }\n}\n")
	printed(t, changing(func(s *api.Set) { s.Add, s.Del, s.Prepend = []api.Comm{}, []api.Comm{}, []int{} }), "route-map m {\n permit 1 {\n }\n}\n")
	printed(t, router(func(r *api.Router) {
		r.Networks, r.Neighbors, r.Links = []api.Prefix{}, []api.Neighbor{}, []api.Link{}
	}), "router r {\n as 1;\n id 2;\n}\n")
}

func TestOrderOfParts(t *testing.T) {
	plain(t, "router b { as 1; id 2; } route-map b { } prefix-list b { } router a { as 3; id 4; } route-map a { } prefix-list a { }",
		"prefix-list b {\n}\nprefix-list a {\n}\nroute-map b {\n}\nroute-map a {\n}\nrouter b {\n as 1;\n id 2;\n}\nrouter a {\n as 3;\n id 4;\n}\n")
}

func TestOrderOfLines(t *testing.T) {
	plain(t, "router r { link z cost 1; neighbor z client; network 11.0.0.0/8; id 2; link a cost 2; neighbor a import y export x; network 10.0.0.0/8; as 1; }",
		"router r {\n as 1;\n id 2;\n network 11.0.0.0/8;\n network 10.0.0.0/8;\n neighbor z client;\n neighbor a import y export x;\n link z cost 1;\n link a cost 2;\n}\n")
	plain(t, `route-map m { permit 1 {
		set prepend 2 1; set community add 2:2 1:1; set community del 2:2 1:1; set community clear; set origin none; set med 5; set pref 6;
		match community no-advertise; match path "1|2"; match prefix l; } }`,
		"route-map m {\n permit 1 {\n  match prefix l;\n  match path \"1|2\";\n  match community no-advertise;\n  set pref 6;\n  set med 5;\n  set origin none;\n"+
			"  set community clear;\n  set community del 2:2 1:1;\n  set community add 2:2 1:1;\n  set prepend 2 1;\n }\n}\n")
	plain(t, "prefix-list l { deny 10.0.0.0/8 ge 8 le 8; permit 10.0.0.0/8 ge 9 le 9; permit 10.0.0.0/8 ge 8 le 9; deny 0.0.0.0/0 le 0; }",
		"prefix-list l {\n deny 10.0.0.0/8;\n permit 10.0.0.0/8 ge 9;\n permit 10.0.0.0/8 le 9;\n deny 0.0.0.0/0;\n}\n")
}

func TestBlanksAndRemarks(t *testing.T) {
	for _, s := range []string{
		strings.ReplaceAll(whole, "\n", " "),
		strings.ReplaceAll(whole, "\n", "\r\n"),
		strings.ReplaceAll(whole, "\n", " # a remark; router x { }\n"),
		strings.ReplaceAll(whole, "\n", "\n\n\t  "),
		"# first\n" + whole + "# last",
		regexp.MustCompile(`\n *`).ReplaceAllString(whole, ""),
		regexp.MustCompile(` *([{};])\s*`).ReplaceAllString(whole, "$1"),
		strings.ReplaceAll(whole, ";", "\n;"),
		strings.ReplaceAll(whole, "{", "\n\t{"),
	} {
		plain(t, s, whole)
	}
}

func TestEachLineOfAClause(t *testing.T) {
	lines := []struct {
		text string
		make func(*api.Clause)
	}{
		{"match prefix l", func(c *api.Clause) { c.Match.List = "l" }},
		{`match path "1 .*"`, func(c *api.Clause) { c.Match.Path = "1 .*" }},
		{"match community 1:0", func(c *api.Clause) { c.Match.Comm = api.Comm{AS: 1} }},
		{"set pref 0", func(c *api.Clause) { c.Set.Pref = 0 }},
		{"set med 1048576", func(c *api.Clause) { c.Set.Med = 1 << 20 }},
		{"set origin igp", func(c *api.Clause) { c.Set.Origin = api.OriginIGP }},
		{"set community clear", func(c *api.Clause) { c.Set.Clear = true }},
		{"set community del 1:2 1:1", func(c *api.Clause) { c.Set.Del = []api.Comm{{AS: 1, N: 2}, {AS: 1, N: 1}} }},
		{"set community add 1:3", func(c *api.Clause) { c.Set.Add = []api.Comm{{AS: 1, N: 3}} }},
		{"set prepend 3 3 4", func(c *api.Clause) { c.Set.Prepend = []int{3, 3, 4} }},
	}
	for few := range 1 << len(lines) {
		c := api.Clause{N: 65535, Permit: few%3 == 0, Set: nothing()}
		want := map[bool]string{true: " permit", false: " deny"}[c.Permit] + " 65535 {\n"
		for i, l := range lines {
			if few>>i&1 == 1 {
				l.make(&c)
				want += "  " + l.text + ";\n"
			}
		}
		printed(t, clauses(c), "route-map m {\n"+want+" }\n}\n")
	}
}

func TestOrigins(t *testing.T) {
	for i, s := range []string{"igp", "egp", "none"} {
		printed(t, changing(func(x *api.Set) { x.Origin = i }), "route-map m {\n permit 1 {\n  set origin "+s+";\n }\n}\n")
	}
	for _, n := range []int{-2, 3, 4, 1 << 40} {
		refused(t, changing(func(x *api.Set) { x.Origin = n }))
	}
}

func TestCommunities(t *testing.T) {
	for s, c := range map[string]api.Comm{
		"no-export": {AS: 65535, N: 65281}, "no-advertise": {AS: 65535, N: 65282}, "local": {AS: 65535, N: 65283}, "65535:65280": {AS: 65535, N: 65280}, "1:0": {AS: 1}, "65535:65535": {AS: 65535, N: 65535},
	} {
		printed(t, asking(api.Match{Comm: c}), "route-map m {\n permit 1 {\n  match community "+s+";\n }\n}\n")
		printed(t, changing(func(x *api.Set) { x.Add = []api.Comm{c, c} }), "route-map m {\n permit 1 {\n  set community add "+s+" "+s+";\n }\n}\n")
		printed(t, changing(func(x *api.Set) { x.Del = []api.Comm{c} }), "route-map m {\n permit 1 {\n  set community del "+s+";\n }\n}\n")
	}
	// One with the AS 0 asks for nothing, but layer 12 tells no other number beside it.
	for _, c := range []api.Comm{{N: 1}, {N: -1}, {AS: -1}, {AS: 65536}, {AS: 1, N: -1}, {AS: 1, N: 65536}} {
		refused(t, asking(api.Match{Comm: c}))
	}
	for _, c := range []api.Comm{{}, {N: 1}, {AS: 65536}, {AS: 1, N: 65536}, {AS: 1, N: -1}} {
		refused(t, changing(func(x *api.Set) { x.Add = []api.Comm{{AS: 1}, c} }))
		refused(t, changing(func(x *api.Set) { x.Del = []api.Comm{c, {AS: 1}} }))
	}
}

func TestPaths(t *testing.T) {
	for _, s := range []string{
		"1", " ", "^", "$", "^$", "|", " 1   2 ", "1*", "( 1 | 2 )+ 3", "[1 2-3  4]", "1  .", ".....", strings.Repeat(".", 64), strings.Repeat(" ", 64), strings.Repeat("(", 7) + strings.Repeat(")", 7),
	} {
		// As it is told, not by its plain text.
		printed(t, asking(api.Match{Path: s}), "route-map m {\n permit 1 {\n  match path \""+s+"\";\n }\n}\n")
	}
	for _, s := range []string{
		"0", "65536", "01", "a", "(", ")", "1^", "$1", "[]", "[2-1]", "*", "1\t2", "1\n", `"`, `1" "2`, `"1"`, "\x00", "\xff", "é", strings.Repeat(".", 65), strings.Repeat("(", 8) + strings.Repeat(")", 8),
	} {
		refused(t, asking(api.Match{Path: s}))
	}
}

func TestRules(t *testing.T) {
	for bits := range 33 {
		p := api.Prefix{Bits: bits}
		for ge := -1; ge <= 33; ge++ {
			for le := -1; le <= 33; le++ {
				r := api.Range{P: p, Ge: ge, Le: le, Permit: (ge+le)%2 == 0}
				if bits > ge || ge > le || le > 32 {
					refused(t, rules(r))
					continue
				}
				want := map[bool]string{true: "permit", false: "deny"}[r.Permit] + fmt.Sprintf(" 0.0.0.0/%d", bits)
				if ge != bits {
					want += fmt.Sprint(" ge ", ge)
				}
				if le != ge {
					want += fmt.Sprint(" le ", le)
				}
				printed(t, rules(r), "prefix-list l {\n "+want+";\n}\n")
			}
		}
	}
	refused(t, rules(api.Range{P: api.Prefix{Addr: 1, Bits: 31}, Ge: 31, Le: 31}))
	refused(t, rules(api.Range{P: api.Prefix{Bits: 33}, Ge: 33, Le: 33}))
	refused(t, rules(api.Range{P: api.Prefix{Bits: -1}, Ge: -1, Le: 0}))
	// Rules may be there twice.
	printed(t, rules(api.Range{}, api.Range{}), "prefix-list l {\n deny 0.0.0.0/0;\n deny 0.0.0.0/0;\n}\n")
}

func TestNeighbors(t *testing.T) {
	for few := range 8 {
		want, n := "neighbor n", api.Neighbor{Name: "n"}
		if few&1 != 0 {
			want, n.Import = want+" import client", "client"
		}
		if few&2 != 0 {
			want, n.Export = want+" export import", "import"
		}
		if few&4 != 0 {
			want, n.Client = want+" client", true
		}
		printed(t, router(func(r *api.Router) { r.Neighbors = []api.Neighbor{n} }), "router r {\n as 1;\n id 2;\n "+want+";\n}\n")
	}
	for _, n := range []api.Neighbor{{}, {Import: "x"}, {Name: "n", Import: "X"}, {Name: "n", Export: "1"}, {Name: "n", Import: "a b"}, {Name: "n", Export: name(1, 13)}, {Name: name(1, 13)}, {Name: "n", Import: "-"}} {
		refused(t, router(func(r *api.Router) { r.Neighbors = []api.Neighbor{n} }))
	}
	// A router may be its own neighbor, for all that is asked here.
	printed(t, router(func(r *api.Router) { r.Neighbors = []api.Neighbor{{Name: "r"}} }), "router r {\n as 1;\n id 2;\n neighbor r;\n}\n")
}

func TestPlainTellsFaults(t *testing.T) {
	for _, s := range []string{
		"router r1 { as 0; }", "router r1 {\n as 1;\n}", "router", "prefix-list l { } prefix-list l { }", "x", "\"", "A", "router abcdefghijklm { }", "router r { as 1; id 1; network 10.0.0.1/8; }", "route-map m { permit 1 { match path \"(\"; } }",
		"prefix-list l { permit 10.0.0.0/8 ge 7; }", "route-map m { permit 1 { } permit 1 { } }", strings.Repeat(" ", 8193), whole + "}",
	} {
		_, wantAt, wantE := cfg.Parse(s)
		if wantE == api.OK || wantAt == (api.Pos{}) {
			t.Fatalf("%q has no fault", s)
		}
		if got, at, e := Plain(s); got != "" || at != wantAt || e != wantE {
			t.Errorf("Plain(%q): %q %v %d, not %v %d", s, got, at, e, wantAt, wantE)
		}
	}
	if _, at, e := Plain("router r1 { as 0; }"); at != (api.Pos{Line: 1, Col: 16}) || e != api.ErrRange {
		t.Error(at, e)
	}
}

// sized is a configuration whose text has so many bytes, from some 5,300 up to some 13,800.
func sized(t *testing.T, bytes int) api.Config {
	var c api.Config
	for i := range 16 {
		m := api.Map{Name: name(i, 4)}
		for k := range 9 {
			m.Clauses = append(m.Clauses, api.Clause{N: k + 1, Match: api.Match{Path: "1"}, Set: nothing()})
		}
		c.Maps = append(c.Maps, m)
	}
	lack := bytes - len(laid(c))
	for i := range c.Maps {
		for k := range c.Maps[i].Clauses {
			more := min(lack, 63)
			c.Maps[i].Clauses[k].Match.Path += strings.Repeat(" ", more)
			lack -= more
		}
	}
	if lack != 0 || len(laid(c)) != bytes {
		t.Fatalf("%d bytes, not %d", len(laid(c)), bytes)
	}
	return c
}

// tight is a text without blanks between marks and words.
func tight(s string) string {
	return regexp.MustCompile(` ?([{};])\s*`).ReplaceAllString(s, "$1")
}

func TestLength(t *testing.T) {
	for _, bytes := range []int{6000, 8190, 8191, 8192, 8193, 8194, 8300, 9000, 13800} {
		c := sized(t, bytes)
		want, wantE := laid(c), api.OK
		if bytes > 8192 {
			want, wantE = "", api.ErrLong
		}
		if s, e := Print(c); !May(c) || s != want || e != wantE {
			t.Errorf("%d bytes: %d %d", bytes, len(s), e)
		}
		held(t, c)
		s := tight(laid(c))
		if len(s) > 8192 {
			continue
		}
		// What is short enough to be told may have a text that isn't.
		if got, at, e := Plain(s); got != want || at != (api.Pos{}) || e != wantE {
			t.Errorf("%d bytes: Plain: %d %v %d", bytes, len(got), at, e)
		}
	}
	if s := tight(laid(sized(t, 9000))); len(s) > 8192 {
		t.Errorf("%d bytes", len(s))
	}
	full := laid(sized(t, 8192))
	plain(t, full, full)
	if got, at, e := Plain(full + "\n"); got != "" || at != (api.Pos{Line: 1, Col: 1}) || e != api.ErrLong {
		t.Error(len(got), at, e)
	}
}

func TestNewMemory(t *testing.T) {
	c := wholeConfig()
	s, _ := Print(c)
	spoil(reflect.ValueOf(&c).Elem())
	if s != whole {
		t.Error("a text hangs on what was handed in")
	}
	a, b := wholeConfig(), api.Config{}
	l := Differ(a, b)
	spoil(reflect.ValueOf(&a).Elem())
	if want := Differ(wholeConfig(), b); !slices.Equal(l, want) {
		t.Errorf("%q, not %q", l, want)
	}
	clear(l)
	if got := Differ(wholeConfig(), b); len(got) != 6 || got[0] != "prefix-list none" {
		t.Errorf("%q", got)
	}
}

// spoil overwrites whatever a value has.
func spoil(v reflect.Value) {
	switch v.Kind() {
	case reflect.Slice:
		for i := range v.Len() {
			spoil(v.Index(i))
		}
	case reflect.Struct:
		for i := range v.NumField() {
			spoil(v.Field(i))
		}
	default:
		v.SetZero()
	}
}
