package show

import (
	"strconv"
	"strings"

	"whirligig/addr"
	"whirligig/api"
	"whirligig/comm"
	"whirligig/plist"
)

// writer writes a configuration that may be, line by line.
type writer struct {
	strings.Builder
	deep int // blocks that are begun and not ended
}

// line writes a line, with a blank ahead for each block that it stands in.
func (w *writer) line(s string) {
	for range w.deep {
		w.WriteByte(' ')
	}
	w.WriteString(s)
	w.WriteByte('\n')
}

// say writes a line that is no block's beginning or end.
func (w *writer) say(words ...string) { w.line(strings.Join(words, " ") + ";") }

// block writes a block with what stands in it.
func (w *writer) block(head string, inner func()) {
	w.line(head + " {")
	w.deep++
	inner()
	w.deep--
	w.line("}")
}

// row writes a line with all things of a list, if there are any.
func row[T any](w *writer, words string, l []T, text func(T) string) {
	if len(l) == 0 {
		return
	}
	all := []string{words}
	for _, x := range l {
		all = append(all, text(x))
	}
	w.say(all...)
}

// number writes a line with a number that a clause sets, if it does.
func (w *writer) number(words string, n int) {
	if n != untold {
		w.say(words, strconv.Itoa(n))
	}
}

// config writes a configuration.
func (w *writer) config(c api.Config) {
	for _, l := range c.Lists {
		w.list(l)
	}
	for _, m := range c.Maps {
		w.routeMap(m)
	}
	for _, r := range c.Routers {
		w.router(r)
	}
}

// list writes a prefix list.
func (w *writer) list(l api.List) {
	w.block("prefix-list "+l.Name, func() {
		for _, r := range l.Rules {
			w.say(plist.Text(r))
		}
	})
}

// routeMap writes a route map.
func (w *writer) routeMap(m api.Map) {
	w.block("route-map "+m.Name, func() {
		for _, c := range m.Clauses {
			w.clause(c)
		}
	})
}

// clause writes a clause of a route map.
func (w *writer) clause(c api.Clause) {
	first := "deny "
	if c.Permit {
		first = "permit "
	}
	w.block(first+strconv.Itoa(c.N), func() {
		w.match(c.Match)
		w.set(c.Set)
	})
}

// match writes what a clause asks for.
func (w *writer) match(m api.Match) {
	if m.List != "" {
		w.say("match prefix", m.List)
	}
	if m.Path != "" {
		w.say("match path", `"`+m.Path+`"`) // as it stands, for its plain text may be another one
	}
	if m.Comm != (api.Comm{}) {
		w.say("match community", comm.Text(m.Comm))
	}
}

// set writes what a clause changes.
func (w *writer) set(s api.Set) {
	w.number("set pref", s.Pref)
	w.number("set med", s.Med)
	if s.Origin != untold {
		w.say("set origin", originName(s.Origin))
	}
	if s.Clear {
		w.say("set community clear")
	}
	row(w, "set community del", s.Del, comm.Text)
	row(w, "set community add", s.Add, comm.Text)
	row(w, "set prepend", s.Prepend, strconv.Itoa)
}

// originName is the word for an origin.
func originName(origin int) string {
	switch origin {
	case api.OriginIGP:
		return "igp"
	case api.OriginEGP:
		return "egp"
	}
	return "none"
}

// router writes a router.
func (w *writer) router(r api.Router) {
	w.block("router "+r.Name, func() {
		w.say("as", strconv.Itoa(r.AS))
		w.say("id", strconv.Itoa(r.ID))
		for _, p := range r.Networks {
			w.say("network", addr.Text(p))
		}
		for _, n := range r.Neighbors {
			w.neighbor(n)
		}
		for _, l := range r.Links {
			w.say("link", l.Name, "cost", strconv.Itoa(l.Cost))
		}
	})
}

// neighbor writes a neighbor of a router.
func (w *writer) neighbor(n api.Neighbor) {
	words := []string{"neighbor", n.Name}
	if n.Import != "" {
		words = append(words, "import", n.Import)
	}
	if n.Export != "" {
		words = append(words, "export", n.Export)
	}
	if n.Client {
		words = append(words, "client")
	}
	w.say(words...)
}
