package show

import (
	"fmt"
	"reflect"
	"slices"
	"strings"
	"testing"

	"whirligig/api"
	"whirligig/cfg"
	"whirligig/lex"
)

// bared is a value in memory of its own, without lists that are empty but not nil.
func bared[T any](x T) T {
	bare(reflect.ValueOf(&x).Elem())
	return x
}

// bare makes empty lists nil and others new, in what a value has.
func bare(v reflect.Value) {
	switch v.Kind() {
	case reflect.Slice:
		if v.Len() == 0 {
			v.SetZero()
			return
		}
		list := reflect.MakeSlice(v.Type(), v.Len(), v.Len())
		reflect.Copy(list, v)
		v.Set(list)
		for i := range v.Len() {
			bare(v.Index(i))
		}
	case reflect.Struct:
		for i := range v.NumField() {
			bare(v.Field(i))
		}
	}
}

// alike tells whether two values are the same, nil and empty lists being one.
func alike[T any](a, b T) bool { return reflect.DeepEqual(bared(a), bared(b)) }

// raw is a configuration in the words of layer 12's grammar, whatever its parts hold, and however long it gets.
func raw(c api.Config) string {
	var b strings.Builder
	add := func(form string, parts ...any) { fmt.Fprintf(&b, form+"\n", parts...) }
	word := map[bool]string{true: "permit", false: "deny"}
	for _, l := range c.Lists {
		add("prefix-list %s {", l.Name)
		for _, r := range l.Rules {
			bits := ""
			if r.Ge != r.P.Bits {
				bits += fmt.Sprintf(" ge %d", r.Ge)
			}
			if r.Le != r.Ge {
				bits += fmt.Sprintf(" le %d", r.Le)
			}
			add("%s %s%s;", word[r.Permit], rawPrefix(r.P), bits)
		}
		add("}")
	}
	for _, m := range c.Maps {
		add("route-map %s {", m.Name)
		for _, x := range m.Clauses {
			add("%s %d { %s%s }", word[x.Permit], x.N, rawMatch(x.Match), rawSet(x.Set))
		}
		add("}")
	}
	for _, r := range c.Routers {
		add("router %s { as %d; id %d;", r.Name, r.AS, r.ID)
		for _, p := range r.Networks {
			add("network %s;", rawPrefix(p))
		}
		for _, n := range r.Neighbors {
			add("neighbor %s%s%s%s;", n.Name, rawMaybe(" import ", n.Import), rawMaybe(" export ", n.Export), map[bool]string{true: " client"}[n.Client])
		}
		for _, l := range r.Links {
			add("link %s cost %d;", l.Name, l.Cost)
		}
		add("}")
	}
	return b.String()
}

func rawMaybe(word, s string) string {
	if s == "" {
		return ""
	}
	return word + s
}

func rawPrefix(p api.Prefix) string {
	return fmt.Sprintf("%d.%d.%d.%d/%d", p.Addr>>24, p.Addr>>16&255, p.Addr>>8&255, p.Addr&255, p.Bits)
}

func rawComm(c api.Comm) string {
	s := fmt.Sprintf("%d:%d", c.AS, c.N)
	switch s {
	case "65535:65281":
		return "no-export"
	case "65535:65282":
		return "no-advertise"
	case "65535:65283":
		return "local"
	}
	return s
}

func rawMatch(m api.Match) string {
	s := ""
	if m.List != "" {
		s += "match prefix " + m.List + "; "
	}
	if m.Path != "" {
		s += `match path "` + m.Path + `"; `
	}
	if m.Comm != (api.Comm{}) {
		s += "match community " + rawComm(m.Comm) + "; "
	}
	return s
}

func rawSet(x api.Set) string {
	s := ""
	if x.Pref != -1 {
		s += fmt.Sprintf("set pref %d; ", x.Pref)
	}
	if x.Med != -1 {
		s += fmt.Sprintf("set med %d; ", x.Med)
	}
	if x.Origin >= 0 && x.Origin < 3 {
		s += "set origin " + []string{"igp", "egp", "none"}[x.Origin] + "; "
	} else if x.Origin != -1 {
		s += fmt.Sprintf("set origin %d; ", x.Origin)
	}
	if x.Clear {
		s += "set community clear; "
	}
	for i, l := range [][]api.Comm{x.Del, x.Add} {
		for k, c := range l {
			if k == 0 {
				s += "set community " + []string{"del", "add"}[i]
			}
			s += " " + rawComm(c)
			if k == len(l)-1 {
				s += "; "
			}
		}
	}
	if len(x.Prepend) > 0 {
		s += "set prepend " + strings.Trim(fmt.Sprint(x.Prepend), "[]") + "; "
	}
	return s
}

// pieces parts a configuration into pieces whose words are short enough for layer 12: each list, clause and router by itself, each map with its clauses' numbers, and all names.
func pieces(c api.Config) []api.Config {
	var l []api.Config
	var names api.Config
	for i, x := range c.Lists {
		l = append(l, api.Config{Lists: c.Lists[i : i+1]})
		names.Lists = append(names.Lists, api.List{Name: x.Name})
	}
	for _, x := range c.Maps {
		bare := api.Map{Name: x.Name}
		for k, clause := range x.Clauses {
			l = append(l, api.Config{Maps: []api.Map{{Name: x.Name, Clauses: x.Clauses[k : k+1]}}})
			bare.Clauses = append(bare.Clauses, api.Clause{N: clause.N, Set: nothing()})
		}
		l = append(l, api.Config{Maps: []api.Map{bare}})
		names.Maps = append(names.Maps, api.Map{Name: x.Name})
	}
	for i, x := range c.Routers {
		l = append(l, api.Config{Routers: c.Routers[i : i+1]})
		names.Routers = append(names.Routers, api.Router{Name: x.Name, AS: 1, ID: 1})
	}
	return append(l, names)
}

// told tells whether layer 12 tells a configuration's pieces of their words.
func told(c api.Config) bool {
	for _, x := range pieces(c) {
		if got, _, e := cfg.Parse(raw(x)); e != api.OK || !alike(got, x) {
			return false
		}
	}
	return true
}

// laid is the text of a configuration that may be: its words, laid by their marks alone.
func laid(c api.Config) string {
	var b strings.Builder
	deep, begins := 0, true
	for line := range strings.Lines(raw(c)) {
		tokens, _, _ := lex.Scan(line)
		for _, k := range tokens {
			mark := ""
			if k.Kind == lex.Mark {
				mark = k.S
			}
			if mark == "}" {
				deep--
			}
			if begins {
				b.WriteString(strings.Repeat(" ", deep))
			} else if mark != ";" {
				b.WriteByte(' ')
			}
			if mark == "{" {
				deep++
			}
			begins = mark != ""
			b.WriteString(strings.TrimSuffix(lex.Join([]lex.Token{k}), "\n"))
			if begins {
				b.WriteByte('\n')
			}
		}
	}
	return b.String()
}

// held asks of a configuration all that 13.1 and 13.3 say of it, and tells Print's error.
func held(t *testing.T, c api.Config) api.Errno {
	t.Helper()
	was := bared(c)
	may := told(c)
	if May(c) != may {
		t.Errorf("May(%+v): %v", c, !may)
	}
	text, want := "", api.ErrArg
	if may {
		if text, want = laid(c), api.OK; len(text) > 8192 {
			text, want = "", api.ErrLong
		}
	}
	s, e := Print(c)
	if s != text || e != want {
		t.Errorf("Print(%+v): %q %d, not %q %d", c, s, e, text, want)
	}
	if !alike(c, was) {
		t.Errorf("%+v was changed to %+v", was, c)
	}
	if e != api.OK {
		return e
	}
	if got, at, e := cfg.Parse(s); !alike(got, c) || at != (api.Pos{}) || e != api.OK {
		t.Errorf("%+v: its text is parsed as %+v %v %d", c, got, at, e)
	}
	if again, at, e := Plain(s); again != s || at != (api.Pos{}) || e != api.OK {
		t.Errorf("Plain(%q): %q %v %d", s, again, at, e)
	}
	return api.OK
}

// differing is what Differ must tell of two configurations: each name is looked for from the beginning on.
func differing(a, b api.Config) []string {
	var l []string
	for _, field := range []struct{ field, word string }{{"Lists", "prefix-list"}, {"Maps", "route-map"}, {"Routers", "router"}} {
		parts := func(c api.Config) []any {
			var l []any
			v := reflect.ValueOf(bared(c)).FieldByName(field.field)
			for i := range v.Len() {
				l = append(l, v.Index(i).Interface())
			}
			return l
		}
		name := func(x any) string { return reflect.ValueOf(x).FieldByName("Name").String() }
		first := func(l []any, n string) any {
			if i := slices.IndexFunc(l, func(x any) bool { return name(x) == n }); i >= 0 {
				return l[i]
			}
			return nil
		}
		var some []string
		for _, x := range append(parts(a), parts(b)...) {
			s := field.word + " " + name(x)
			if !slices.Contains(some, s) && !reflect.DeepEqual(first(parts(a), name(x)), first(parts(b), name(x))) {
				some = append(some, s)
			}
		}
		slices.Sort(some)
		l = append(l, some...)
	}
	return l
}

// compared asks of two configurations all that 13.2 says of them, from both sides.
func compared(t *testing.T, a, b api.Config) {
	t.Helper()
	wasA, wasB := bared(a), bared(b)
	same, l := alike(a, b), differing(a, b)
	for range 2 {
		if Same(a, b) != same {
			t.Errorf("Same(%+v, %+v): %v", a, b, !same)
		}
		if got := Differ(a, b); !slices.Equal(got, l) {
			t.Errorf("Differ(%+v, %+v): %q, not %q", a, b, got, l)
		}
		a, b = b, a
	}
	if !alike(a, wasA) || !alike(b, wasB) {
		t.Errorf("%+v and %+v were changed to %+v and %+v", wasA, wasB, a, b)
	}
}
