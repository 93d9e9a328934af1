package cfg

import (
	"cmp"
	"fmt"
	"math/big"
	"math/rand"
	"reflect"
	"regexp"
	"slices"
	"strconv"
	"strings"
	"testing"

	"whirligig/api"
	"whirligig/comm"
	"whirligig/lex"
)

// flaw is a fault that the judge found: at which token, and where 12.1 names it.
type flaw struct {
	token, named int
	e            api.Errno
}

// count is how often a token may stand behind all that is open: what the brackets of it hold tells apart what is counted in one block.
type count struct {
	line  *regexp.Regexp
	most  int
	named int
	e     api.Errno
}

// counts is all that may not be there too often.
func counts() []count {
	twice := func(s string) count { return count{regexp.MustCompile("^" + s + "$"), 1, 2, api.ErrTwice} }
	long := func(s string, most int) count { return count{regexp.MustCompile("^" + s + "$"), most, 3, api.ErrLong} }
	const clause = `route-map \S+ { \w+ \w+ { `
	return []count{
		twice(`(prefix-list|route-map|router) (\S+)`),
		long(`prefix-list`, 16), long(`route-map`, 16), long(`router`, 8),
		long(`prefix-list \S+ { (?:permit|deny)`, 16), long(`route-map \S+ { (?:permit|deny)`, 16),
		twice(clause + `match (\w+)`), twice(clause + `set (pref|med|origin|prepend)`), twice(clause + `set community (\w+)`),
		long(clause+`set community (add|del)(?: [^ ;]+)+`, 8), long(clause+`set prepend(?: \d+)+`, 16),
		twice(`router \S+ { (as|id)`), twice(`router \S+ { (network|neighbor|link) (\S+)`), long(`router \S+ { (network|neighbor|link)`, 16),
	}
}

// bounds is from which to which number those at a line's end may be.
func bounds() map[string][2]int64 {
	return map[string][2]int64{
		`(as|id|prepend.*) (\d+)$`: {1, 65535}, ` { (permit|deny) (\d+)$`: {1, 65535}, `set (pref|med) (\d+)$`: {0, 1 << 20}, ` (cost) (\d+)$`: {0, 1 << 16},
	}
}

// judge knows the grammar and what stands beside it.
type judge struct {
	m      *machine
	counts []count
	bounds map[*regexp.Regexp][2]int64
}

// newJudge makes a judge.
func newJudge() judge {
	j := judge{newMachine(), counts(), map[*regexp.Regexp][2]int64{}}
	for s, b := range bounds() {
		j.bounds[regexp.MustCompile(s)] = b
	}
	return j
}

// look is of each token, as far as the grammar goes, the line that ends with it, heads of open blocks ahead, and the innermost open block.
func look(l []lex.Token, each func(i int, line string, block int, statement []string)) {
	var heads, statement []string
	blocks := []int{-1}
	for i, t := range l {
		s := t.S
		if t.Kind == lex.Text {
			s = `"` + strconv.Itoa(i) + `"` // a text may look like anything
		}
		statement = append(statement, s)
		each(i, strings.Join(slices.Concat(heads, statement), " "), blocks[len(blocks)-1], statement)
		switch s {
		case "{":
			heads, blocks = append(heads, strings.Join(statement, " ")), append(blocks, i)
		case "}":
			heads, blocks = heads[:len(heads)-1], blocks[:len(blocks)-1]
		case ";":
		default:
			continue
		}
		statement = nil
	}
}

var (
	clauseNumber = regexp.MustCompile(`^route-map \S+ { \w+ (\d+)$`)
	ruleBits     = regexp.MustCompile(`^prefix-list \S+ { \w+ [\d.]+/(\d+)( ge (\d+))?( le (\d+))?$`)
	routerEnd    = regexp.MustCompile(`^router \S+ { }$`)
	routerWord   = regexp.MustCompile(`^router \S+ { (as|id)$`)
)

// great is a number of digits.
func great(s string) *big.Int {
	n, _ := new(big.Int).SetString(s, 10)
	return n
}

// rises tells whether numbers rise, or stay.
func rises(l ...string) bool {
	return slices.IsSortedFunc(l, func(a, b string) int { return great(a).Cmp(great(b)) })
}

// flaws is all faults beside the grammar's.
func (j judge) flaws(l []lex.Token) []flaw {
	var all []flaw
	seen := map[string]int{}
	last := map[int]string{}
	numbers := map[int]int{}
	look(l, func(i int, line string, block int, statement []string) {
		found := func(wrong bool, named int, e api.Errno) {
			if wrong {
				all = append(all, flaw{i, named, e})
			}
		}
		for k, c := range j.counts {
			if x := c.line.FindStringSubmatch(line); x != nil {
				key := fmt.Sprint(k, block, x[1:])
				seen[key]++
				found(seen[key] > c.most, c.named, c.e)
			}
		}
		for ending, b := range j.bounds {
			if x := ending.FindStringSubmatch(line); x != nil && statement[0] != "neighbor" {
				n := great(x[len(x)-1])
				found(n.Cmp(big.NewInt(b[0])) < 0 || n.Cmp(big.NewInt(b[1])) > 0, 1, api.ErrRange)
			}
		}
		if x := clauseNumber.FindStringSubmatch(line); x != nil {
			found(last[block] != "" && rises(x[1], last[block]), 4, api.ErrRange)
			last[block] = x[1]
		}
		if x := ruleBits.FindStringSubmatch(line); x != nil {
			ge := cmp.Or(x[3], x[1])
			found(!rises(x[1], ge, cmp.Or(x[5], ge), "32"), 4, api.ErrRange)
		}
		if routerWord.MatchString(line) {
			numbers[block]++
		}
		found(routerEnd.MatchString(line) && numbers[block] < 2, 5, api.ErrNone)
	})
	return all
}

// judged is what Parse should answer.
func (j judge) judged(s string) (api.Config, api.Pos, api.Errno) {
	l, at, e := lex.Scan(s)
	if e != api.OK {
		return api.Config{}, at, e
	}
	far, e := j.m.run(l)
	all := j.flaws(l[:far])
	if e != api.OK {
		all = append(all, flaw{far, 1, e})
	}
	if len(all) == 0 {
		return told(l), api.Pos{}, api.OK
	}
	first := slices.MinFunc(all, func(a, b flaw) int { return cmp.Or(cmp.Compare(a.token, b.token), cmp.Compare(a.named, b.named)) })
	if first.token == len(l) {
		return api.Config{}, lex.End(s), first.e
	}
	return api.Config{}, l[first.token].At, first.e
}

// told is the configuration of tokens without faults, statement by statement.
func told(l []lex.Token) api.Config {
	var c api.Config
	look(l, func(i int, line string, block int, f []string) {
		end := f[len(f)-1]
		if end != ";" && end != "{" {
			return
		}
		heads := strings.Count(line, "{")
		switch {
		case heads == 1 && f[0] == "prefix-list" && end == "{":
			c.Lists = append(c.Lists, api.List{Name: f[1]})
		case heads == 1 && f[0] == "route-map" && end == "{":
			c.Maps = append(c.Maps, api.Map{Name: f[1]})
		case heads == 1 && f[0] == "router" && end == "{":
			c.Routers = append(c.Routers, api.Router{Name: f[1]})
		case strings.HasPrefix(line, "prefix-list"):
			x := &c.Lists[len(c.Lists)-1]
			x.Rules = append(x.Rules, toldRule(f))
		case strings.HasPrefix(line, "router"):
			toldRouter(&c.Routers[len(c.Routers)-1], f)
		case end == "{":
			x := &c.Maps[len(c.Maps)-1]
			x.Clauses = append(x.Clauses, api.Clause{N: digits(f[1]), Permit: f[0] == "permit", Set: api.Set{Pref: -1, Med: -1, Origin: -1}})
		default:
			x := c.Maps[len(c.Maps)-1].Clauses
			toldClause(&x[len(x)-1], f, l)
		}
	})
	return c
}

// digits is a number that is one.
func digits(s string) int {
	n, err := strconv.Atoi(s)
	if err != nil {
		panic(err)
	}
	return n
}

// behind is the word behind another one; empty, if that isn't there.
func behind(f []string, s string) string {
	if i := slices.Index(f[2:], s); i >= 0 {
		return f[2:][i+1]
	}
	return ""
}

// toldRule is the rule of a statement.
func toldRule(f []string) api.Range {
	p := prefix(f[1])
	ge := cmp.Or(behind(f, "ge"), strconv.Itoa(p.Bits))
	return api.Range{P: p, Ge: digits(ge), Le: digits(cmp.Or(behind(f, "le"), ge)), Permit: f[0] == "permit"}
}

// toldRouter adds a statement to a router.
func toldRouter(r *api.Router, f []string) {
	switch f[0] {
	case "as":
		r.AS = digits(f[1])
	case "id":
		r.ID = digits(f[1])
	case "network":
		r.Networks = append(r.Networks, prefix(f[1]))
	case "link":
		r.Links = append(r.Links, api.Link{Name: f[1], Cost: digits(f[3])})
	case "neighbor":
		n := api.Neighbor{Name: f[1]}
		l := f[2:]
		for _, x := range []struct {
			word string
			to   *string
		}{{"import", &n.Import}, {"export", &n.Export}} {
			if l[0] == x.word {
				*x.to, l = l[1], l[2:]
			}
		}
		n.Client = l[0] == "client"
		r.Neighbors = append(r.Neighbors, n)
	}
}

// toldClause adds a statement to a clause.
func toldClause(c *api.Clause, f []string, l []lex.Token) {
	var comms []api.Comm
	for _, s := range f {
		if x, e := comm.Parse(s); e == api.OK {
			comms = append(comms, x)
		}
	}
	switch strings.Join(f[:2], " ") {
	case "match prefix":
		c.Match.List = f[2]
	case "match path":
		c.Match.Path = l[digits(strings.Trim(f[2], `"`))].S
	case "match community":
		c.Match.Comm = comms[0]
	case "set pref":
		c.Set.Pref = digits(f[2])
	case "set med":
		c.Set.Med = digits(f[2])
	case "set origin":
		c.Set.Origin = slices.Index([]string{"igp", "egp", "none"}, f[2])
	case "set prepend":
		for _, s := range f[2 : len(f)-1] {
			c.Set.Prepend = append(c.Set.Prepend, digits(s))
		}
	case "set community":
		switch f[2] {
		case "add":
			c.Set.Add = comms
		case "del":
			c.Set.Del = comms
		case "clear":
			c.Set.Clear = true
		}
	}
}

// hold asks whether Parse answers as the judge, and tells what it answers.
func (j judge) hold(t *testing.T, s string) api.Errno {
	t.Helper()
	c, at, e := Parse(s)
	want, wantAt, wantE := j.judged(s)
	if at != wantAt || e != wantE || !same(c, want) || e != api.OK && !reflect.ValueOf(c).IsZero() {
		t.Fatalf("Parse(%q): %+v %v %d, not %+v %v %d", s, c, at, e, want, wantAt, wantE)
	}
	return e
}

// vocabulary is words, marks and texts that may, or may not, stand somewhere.
func vocabulary() []string {
	return strings.Fields(`{ } ; prefix-list route-map router permit deny ge le match set prefix path community pref med origin igp egp none add del clear prepend
		as id network neighbor import export client link cost r1 l m x abcdefghijkl abcdefghijklm a.b 0 1 2 7 8 9 16 24 32 33 01 65535 65536 1048576 1048577 99999999999999999999
		10.0.0.0/8 10.0.0.0/9 10.0.0.1/8 10.0.0.0/33 1:1 1:2 0:1 local "" "1" "0" "(" "{" "ge" "as" "router" "10.0.0.0/8"`)
}

// small is configurations that have each part of the grammar, and few tokens.
func small() []string {
	return []string{
		"prefix-list l { permit 10.0.0.0/8 ge 9 le 16; deny 10.0.0.0/8; permit 10.0.0.0/8 le 9; deny 10.0.0.0/9 ge 9; } prefix-list m { }",
		`route-map m { permit 1 { match prefix l; match path "1"; match community 1:1; } deny 2 { } } route-map l { deny 1 { } }`,
		"route-map m { permit 7 { set pref 1; set med 2; set origin igp; set community clear; set community add 1:1 local; set community del 1:2; set prepend 1 2; } deny 8 { set pref 1; } }",
		"router r1 { as 1; id 1; network 10.0.0.0/8; network 10.0.0.0/9; neighbor x; neighbor r1 import l export m client; link x cost 7; link r1 cost 8; }",
		"router r1 { id 1; as 2; } router x { as 1; neighbor x client; id 2; } prefix-list x { } route-map x { }",
		"", "router x { as 1; id 2; }",
	}
}

func TestOneTokenOtherwise(t *testing.T) {
	j := newJudge()
	got := map[api.Errno]int{}
	for _, s := range small() {
		l := strings.Fields(strings.ReplaceAll(s, ";", " ;"))
		if e := j.hold(t, s); e != api.OK {
			t.Fatalf("%q: %d", s, e)
		}
		put := func(from, to int, more ...string) {
			got[j.hold(t, strings.Join(slices.Concat(l[:from], more, l[to:]), " "))]++
		}
		for i := range len(l) + 1 {
			put(i, len(l))
			for _, w := range vocabulary() {
				put(i, i, w)
				if i < len(l) {
					put(i, i+1, w)
				}
			}
			for to := i + 1; to <= len(l); to++ {
				put(i, to)            // left out
				put(i, i, l[i:to]...) // told twice
			}
		}
	}
	for _, e := range []api.Errno{api.OK, api.ErrArg, api.ErrLong, api.ErrEnd, api.ErrForm, api.ErrNone, api.ErrTwice, api.ErrRange} {
		if got[e] == 0 {
			t.Errorf("nothing was answered with %d", e)
		}
	}
}

func TestRowsOfTokens(t *testing.T) {
	j := newJudge()
	r := rand.New(rand.NewSource(12))
	words := vocabulary()
	for range 20000 {
		var l []string
		for range r.Intn(12) {
			l = append(l, words[r.Intn(len(words))])
		}
		j.hold(t, strings.Join(l, " "))
	}
}

// draw draws a text of the grammar, by spots that follow one another. Names and numbers mostly rise, and blocks end late or soon, so that faults come late or soon, too.
func (j judge) draw(r *rand.Rand) string {
	var l []string
	spot, n, late := 0, 0, r.Intn(30)
	for range r.Intn(500) {
		next := j.m.follow[spot]
		if slices.Contains(j.m.last, spot) && r.Intn(12) == 0 {
			break
		}
		spot = next[r.Intn(len(next))]
		for range late {
			if w := j.m.want[spot]; w != `"}"` && w != `"as"` && w != `"id"` {
				break
			}
			spot = next[r.Intn(len(next))]
		}
		if r.Intn(30) > 0 {
			n++
		}
		l = append(l, drawToken(r, j.m.want[spot], strings.Join(l[max(len(l)-1, 0):], ""), n))
	}
	return strings.Join(l, []string{" ", "\n", " # x\n"}[r.Intn(3)])
}

// drawToken draws a token of a spot, behind another one.
func drawToken(r *rand.Rand, want, ahead string, n int) string {
	switch {
	case ahead == "ge":
		return strconv.Itoa(16 + r.Intn(3))
	case ahead == "le":
		return strconv.Itoa(17 + r.Intn(8))
	}
	switch want {
	case "NAME":
		return "n" + strconv.Itoa(n)
	case "NUMBER", "AS":
		return strconv.Itoa(n)
	case "PREFIX":
		return "10." + strconv.Itoa(n%256) + ".0.0/16"
	case "COMM":
		return "1:" + strconv.Itoa(n)
	case "TEXT":
		return `"1 2"`
	}
	return strings.Trim(want, `"`)
}

func TestDrawnTexts(t *testing.T) {
	j := newJudge()
	r := rand.New(rand.NewSource(13))
	got := map[api.Errno]int{}
	for range 2000 {
		got[j.hold(t, j.draw(r))]++
	}
	for _, e := range []api.Errno{api.OK, api.ErrLong, api.ErrEnd, api.ErrNone, api.ErrTwice, api.ErrRange} {
		if got[e] < 20 {
			t.Errorf("%d texts were answered with %d", got[e], e)
		}
	}
}

func TestTextsOfAnyBytes(t *testing.T) {
	j := newJudge()
	r := rand.New(rand.NewSource(14))
	for range 20000 {
		b := []byte(small()[r.Intn(len(small()))])
		for range r.Intn(4) {
			if len(b) > 0 {
				b[r.Intn(len(b))] = byte(r.Intn(256))
			}
		}
		j.hold(t, string(b))
	}
}
