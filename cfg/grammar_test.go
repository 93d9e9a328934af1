package cfg

import (
	"regexp"
	"slices"
	"testing"

	"whirligig/addr"
	"whirligig/api"
	"whirligig/asre"
	"whirligig/comm"
	"whirligig/lex"
)

// grammar is the document's own.
const grammar = `
    config   = ( list | map | router )*
    list     = "prefix-list" NAME "{" rule* "}"
    rule     = ( "permit" | "deny" ) PREFIX [ "ge" NUMBER ] [ "le" NUMBER ] ";"
    map      = "route-map" NAME "{" clause* "}"
    clause   = ( "permit" | "deny" ) NUMBER "{" ( match | set )* "}"
    match    = "match" ( "prefix" NAME | "path" TEXT | "community" COMM ) ";"
    set      = "set" ( "pref" NUMBER | "med" NUMBER | "origin" ( "igp" | "egp" | "none" )
             | "community" ( "add" COMM+ | "del" COMM+ | "clear" ) | "prepend" AS+ ) ";"
    router   = "router" NAME "{" ( "as" AS ";" | "id" AS ";" | "network" PREFIX ";"
             | "neighbor" NAME [ "import" NAME ] [ "export" NAME ] [ "client" ] ";"
             | "link" NAME "cost" NUMBER ";" )* "}"
`

// machine is the grammar's spots, at each of which one token may stand: what it is, and which spots may follow. The spot 0 stands ahead of all.
type machine struct {
	rules  map[string][]string
	want   []string
	follow [][]int
	last   []int // behind which a text may end
}

// shape is of a piece of the grammar whether it may be empty, and which spots begin and end it.
type shape struct {
	empty       bool
	first, last []int
}

// newMachine reads the grammar.
func newMachine() *machine {
	m := &machine{rules: map[string][]string{}, want: []string{""}, follow: [][]int{nil}}
	words := regexp.MustCompile(`"[^"]*"|\w+|\S`).FindAllString(grammar, -1)
	name := ""
	for i, w := range words {
		if i+1 < len(words) && words[i+1] == "=" {
			name = w
		} else if w != "=" {
			m.rules[name] = append(m.rules[name], w)
		}
	}
	s, _ := m.choice(m.rules["config"])
	m.follow[0] = s.first
	m.last = append(s.last, 0)
	return m
}

// choice reads rows with a stroke between, and tells what is left behind them.
func (m *machine) choice(l []string) (shape, []string) {
	s, l := m.row(l)
	for len(l) > 0 && l[0] == "|" {
		var other shape
		other, l = m.row(l[1:])
		s = shape{s.empty || other.empty, slices.Concat(s.first, other.first), slices.Concat(s.last, other.last)}
	}
	return s, l
}

// row reads items up to what ends them.
func (m *machine) row(l []string) (shape, []string) {
	s := shape{empty: true}
	for len(l) > 0 && l[0] != "|" && l[0] != ")" && l[0] != "]" {
		var next shape
		next, l = m.item(l)
		m.link(s.last, next.first)
		if s.empty {
			s.first = slices.Concat(s.first, next.first)
		}
		if next.empty {
			next.last = slices.Concat(s.last, next.last)
		}
		s = shape{s.empty && next.empty, s.first, next.last}
	}
	return s, l
}

// item reads one thing and what stands behind it.
func (m *machine) item(l []string) (shape, []string) {
	var s shape
	switch w := l[0]; {
	case w == "(" || w == "[":
		s, l = m.choice(l[1:])
		s.empty = s.empty || w == "["
	case m.rules[w] != nil:
		s, _ = m.choice(m.rules[w])
	default:
		spot := []int{len(m.want)}
		m.want, m.follow = append(m.want, w), append(m.follow, nil)
		s = shape{first: spot, last: spot}
	}
	l = l[1:]
	if len(l) > 0 && (l[0] == "*" || l[0] == "+") {
		m.link(s.last, s.first)
		s.empty = s.empty || l[0] == "*"
		l = l[1:]
	}
	return s, l
}

// link makes spots follow others.
func (m *machine) link(from, to []int) {
	for _, i := range from {
		m.follow[i] = slices.Concat(m.follow[i], to)
	}
}

// run goes over tokens as far as the grammar goes, and tells how far that is, and what is wrong there (ErrEnd, if something lacks).
func (m *machine) run(l []lex.Token) (int, api.Errno) {
	spots := []int{0}
	for i, t := range l {
		var may []int
		for _, s := range spots {
			may = slices.Concat(may, m.follow[s])
		}
		spots = nil
		e := api.ErrForm
		for _, s := range may {
			if is, why := stands(t, m.want[s]); is {
				spots = append(spots, s)
			} else if why != api.OK {
				e = why
			}
		}
		if spots == nil {
			return i, e
		}
	}
	ends := func(s int) bool { return slices.Contains(m.last, s) }
	if !slices.ContainsFunc(spots, ends) {
		return len(l), api.ErrEnd
	}
	return len(l), api.OK
}

var (
	someName   = regexp.MustCompile(`^[a-z][a-z0-9_-]*$`)
	someNumber = regexp.MustCompile(`^(0|[1-9][0-9]*)$`)
)

// stands tells whether a token may stand where something is wanted, and if not, why, if that is told.
func stands(t lex.Token, want string) (bool, api.Errno) {
	e := api.OK
	switch {
	case want[0] == '"':
		return t.Kind != lex.Text && want == `"`+t.S+`"`, api.OK
	case (t.Kind == lex.Text) != (want == "TEXT") || t.Kind == lex.Mark:
		e = api.ErrForm
	case want == "NAME":
		if !someName.MatchString(t.S) {
			e = api.ErrForm
		} else if len(t.S) > 12 {
			e = api.ErrLong
		}
	case want == "NUMBER" || want == "AS":
		if !someNumber.MatchString(t.S) {
			e = api.ErrForm
		}
	case want == "PREFIX":
		_, e = addr.Parse(t.S)
	case want == "COMM":
		_, e = comm.Parse(t.S)
	case want == "TEXT":
		_, e = asre.Parse(t.S)
	}
	return e == api.OK, e
}

func TestGrammar(t *testing.T) {
	m := newMachine()
	if len(m.want) < 60 || len(m.last) == 0 {
		t.Fatalf("the grammar isn't read: %v", m.want)
	}
	for s, want := range map[string]api.Errno{
		"": api.OK, "router": api.ErrEnd, "router r { }": api.OK, "router r { as 0; }": api.OK, "; router": api.ErrForm, "prefix-list l { permit 10.0.0.0/8 le 9 ge 9; }": api.ErrForm, whole: api.OK,
	} {
		l, _, _ := lex.Scan(s)
		if _, e := m.run(l); e != want {
			t.Errorf("%q: %d, not %d", s, e, want)
		}
	}
}
