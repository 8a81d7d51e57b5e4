package syntax

import (
	"math/rand/v2"
	"reflect"
	"strconv"
	"strings"
	"testing"

	"conch/api"
)

// maker writes a script and its tree at once, by numbers that are the same each time.
type maker struct {
	*rand.Rand
	out   []byte
	depth int
}

// at tells the place of what is written next.
func (m *maker) at() int { return len(m.out) }

// full tells whether so much is written, or is around, that nothing more is begun which may grow.
func (m *maker) full() bool { return m.at() > 200 || m.depth > 6 }

// put writes s.
func (m *maker) put(s string) { m.out = append(m.out, s...) }

// some tells one of several texts.
func (m *maker) some(l ...string) string { return l[m.IntN(len(l))] }

// blank writes what may stand between tokens, or nothing.
func (m *maker) blank() { m.put(m.some("", "", " ", "\t", " \\\n")) }

// gap writes what parts words.
func (m *maker) gap() { m.put(m.some(" ", " ", "  ", "\t", " \\\n")) }

// lines writes line feeds, or nothing.
func (m *maker) lines() { m.put(m.some("", "", "\n", " \n\t\n", " # a ' $$\n")) }

// sep writes what parts the and-or lists of a list.
func (m *maker) sep() {
	m.put(m.some("; ", " ;\n", "\n", ";", "\n\n", " # ; `\n", ";#\n "))
}

// literal writes a literal of a kind, and tells it; first: it stands right behind a `"` at its place.
func (m *maker) literal(l []api.Part, kind int, quote int) []api.Part {
	p := api.Part{Kind: api.PLit, At: m.at(), Quoted: true}
	switch kind {
	case 0: // as it is; a byte of no name first, as a name may stand ahead
		p.Quoted, p.Text = false, m.some("-b", ".", "-x=y", "}-{", "+1~", ",#", "/*?", "%]", "\xff")
		m.put(p.Text)
	case 1:
		p.Text = m.some("a b", "\"", "$x", ";\n", "\\", "`", "#)}")
		m.put("'" + p.Text + "'")
	case 2:
		p.Text = m.some("a", " ", "$", "'", "`", "\"", "\\", "}", "~", "#")
		m.put("\\" + p.Text)
	case 3: // within `"`, no byte of a name first
		if quote >= 0 {
			p.At = quote
		}
		p.Text = m.some(" b", "'", ";\n)", "}#", "~", "$ ", "\\x")
		m.put(p.Text)
	}
	return append(l, p)
}

// expansion writes what a `$` begins.
func (m *maker) expansion(l []api.Part, quoted bool) []api.Part {
	p := api.Part{Kind: api.PVar, At: m.at(), Quoted: quoted}
	name := m.some("a", "x_1", "_", "10", "7")
	switch n := m.IntN(9); {
	case n < 2:
		p.Name = m.some("a", "x_1", "_", "7", "@", "*", "#", "?")
		m.put("$" + p.Name)
	case n == 2:
		p.Name = m.some("a", "10", "@", "*", "#", "?")
		m.put("${" + p.Name + "}")
	case n == 3:
		p.Name, p.Op = name, api.VLen
		m.put("${#" + name + "}")
	case n == 4:
		p.Kind, p.Text = api.PSum, m.some("1", " a + 2 ", "(1)*(a)", "\n!b")
		m.put("$((" + p.Text + "))")
	case n < 7 || m.full():
		p.Name, p.Op = name, 1+m.IntN(9)
		if p.Op == api.VLen {
			p.Op = api.VMinus
		}
		p.Colon = p.Op <= api.VPlus && m.IntN(2) == 0
		m.put("${" + name + map[bool]string{true: ":"}[p.Colon] + signs[p.Op])
		p.Arg = m.parts(2, true)
		m.put("}")
	default:
		p.Kind = api.PCmd
		m.put("$( ")
		m.lines()
		body := api.Cmd{Kind: api.KSeq}
		if m.IntN(6) > 0 {
			body = m.list(false)
		}
		m.blank()
		m.put(")")
		p.Body = []api.Cmd{body}
	}
	return append(l, p)
}

// lastLiteral tells whether a literal that is so quoted ends l.
func lastLiteral(l []api.Part, quoted bool) bool {
	return len(l) > 0 && l[len(l)-1].Kind == api.PLit && l[len(l)-1].Quoted == quoted
}

// parts writes parts, most of them one more than n; within an Arg nothing need stand.
func (m *maker) parts(n int, arg bool) []api.Part {
	var l []api.Part
	m.depth++
	defer func() { m.depth-- }()
	for range n + 1 {
		switch kind := m.IntN(6); {
		case kind == 0 && !lastLiteral(l, false):
			if arg {
				at := m.at()
				s := m.some(" ", "a;b", "\n", "(", "<<&", "#")
				if len(l) == 0 && s == "#" || len(l) > 0 {
					s = "  "
				}
				m.put(s)
				l = append(l, api.Part{Kind: api.PLit, At: at, Text: s})
			} else {
				l = m.literal(l, 0, -1)
			}
		case (kind == 1 || kind == 2) && !lastLiteral(l, true):
			l = m.literal(l, kind, -1)
		case kind == 3 && !lastLiteral(l, true):
			l = m.double(l)
		case !m.full():
			l = m.expansion(l, false)
		}
	}
	return l
}

// double writes parts within `"`.
func (m *maker) double(l []api.Part) []api.Part {
	quote, open := m.at(), m.at()
	m.put("\"")
	for range m.IntN(4) {
		if !lastLiteral(l, true) && m.IntN(2) == 0 {
			l = m.literal(l, 3, open)
			open = -1
		} else if !m.full() {
			l = m.expansion(l, true)
			open = -1
		}
	}
	if open == quote {
		l = append(l, api.Part{Kind: api.PLit, At: quote, Quoted: true})
	}
	m.put("\"")
	return l
}

// word writes a word. It begins so that it is neither an assignment nor reserved, no comment and no redirection.
func (m *maker) word() api.Word {
	w := api.Word{At: m.at()}
	if m.IntN(3) > 0 {
		s := m.some("a", "b1", "x-y", "12a", "[", "{a", "=")
		m.put(s)
		w.Parts = append(w.Parts, api.Part{Kind: api.PLit, At: w.At, Text: s})
		if m.IntN(2) == 0 {
			return w
		}
	}
	more := m.parts(m.IntN(3), false)
	if lastLiteral(w.Parts, false) && len(more) > 0 && more[0].Kind == api.PLit && !more[0].Quoted {
		w.Parts[0].Text += more[0].Text
		more = more[1:]
	}
	w.Parts = append(w.Parts, more...)
	if len(w.Parts) == 0 {
		m.put("''")
		w.Parts = []api.Part{{Kind: api.PLit, At: w.At, Quoted: true}}
	}
	return w
}

// redir writes a redirection.
func (m *maker) redir() api.Redir {
	r := api.Redir{At: m.at(), Kind: 1 + m.IntN(3)}
	r.Fd = map[bool]int{true: 0, false: 1}[r.Kind == api.RIn]
	if m.IntN(3) == 0 {
		r.Fd = m.IntN(10)
		m.put(m.some("", "0", "00") + strconv.Itoa(r.Fd))
	}
	m.put([]string{"", "<", ">", ">>"}[r.Kind])
	m.blank()
	r.Target = m.word()
	return r
}

// assign writes an assignment.
func (m *maker) assign() api.Assign {
	a := api.Assign{At: m.at(), Name: m.some("a", "b_1", "if", "_")}
	m.put(a.Name + "=")
	if m.IntN(2) == 0 {
		s := m.some("~", "a=b", "1", "#")
		m.put(s)
		// What is left of the first part keeps the place of that.
		a.Value = []api.Part{{Kind: api.PLit, At: a.At, Text: s}}
		return a
	}
	m.put("'a b'")
	a.Value = []api.Part{{Kind: api.PLit, At: m.at() - 5, Quoted: true, Text: "a b"}}
	if m.IntN(2) == 0 {
		a.Value = m.expansion(a.Value, false)
	}
	return a
}

// simple writes a simple command.
func (m *maker) simple() api.Cmd {
	c := api.Cmd{Kind: api.KSimple, At: m.at()}
	for range 1 + m.IntN(4) {
		if m.at() > c.At {
			m.gap()
		}
		switch n := m.IntN(5); {
		case n == 0 && len(c.Words) == 0:
			c.Assigns = append(c.Assigns, m.assign())
		case n == 1:
			c.Redirs = append(c.Redirs, m.redir())
		case n == 2 && m.at() > c.At:
			at := m.at()
			s := m.some("if", "then", "}", "!", "in", "esac", "do")
			m.put(s)
			c.Words = append(c.Words, api.Word{At: at, Parts: []api.Part{{Kind: api.PLit, At: at, Text: s}}})
		default:
			c.Words = append(c.Words, m.word())
		}
	}
	return c
}

// own writes a command that has an end of its own, and redirections behind it.
func (m *maker) own() api.Cmd {
	c := api.Cmd{At: m.at()}
	switch m.IntN(6) {
	case 0:
		c.Kind = api.KSub
		m.put("( ")
		c.Subs = []api.Cmd{m.list(false)}
		m.blank()
		m.put(")")
	case 1:
		c.Kind = api.KGroup
		m.put("{ ")
		c.Subs = []api.Cmd{m.list(true)}
		m.put("}")
	case 2:
		c.Kind = api.KIf
		m.put("if ")
		c.Subs = m.branches()
	case 3:
		c.Kind = api.KWhile + m.IntN(2)
		m.put([]string{"while ", "until "}[c.Kind-api.KWhile])
		asked := m.list(true)
		c.Subs = []api.Cmd{asked, m.rounds()}
	case 4:
		m.each(&c)
	default:
		m.choice(&c)
	}
	for m.IntN(4) == 0 {
		m.gap()
		c.Redirs = append(c.Redirs, m.redir())
	}
	return c
}

// branches writes what stands behind an if or elif, up to the fi.
func (m *maker) branches() []api.Cmd {
	asked := m.list(true)
	m.put("then ")
	subs := []api.Cmd{asked, m.list(true)}
	switch m.IntN(3) {
	case 0:
		m.put("else ")
		subs = append(subs, m.list(true))
	case 1:
		at := m.at()
		m.put("elif ")
		return append(subs, api.Cmd{Kind: api.KSeq, At: at, Subs: []api.Cmd{{Kind: api.KIf, At: at, Subs: m.branches()}}})
	}
	m.put("fi")
	return subs
}

// rounds writes what a loop does.
func (m *maker) rounds() api.Cmd {
	m.put("do ")
	c := m.list(true)
	m.put("done")
	return c
}

// each writes a loop over words.
func (m *maker) each(c *api.Cmd) {
	c.Kind, c.Name = api.KFor, m.some("a", "if", "in", "do", "_9")
	m.put("for ")
	m.blank()
	m.put(c.Name)
	switch m.IntN(3) {
	case 0:
		m.put(m.some(" ", ";", "\n\n", " ;\n", " # a\n"))
	default:
		m.gap()
		m.lines()
		m.put("in")
		c.In = true
		for range m.IntN(4) {
			m.gap()
			c.Words = append(c.Words, m.word())
		}
		m.sep()
	}
	c.Subs = []api.Cmd{m.rounds()}
}

// choice writes a case.
func (m *maker) choice(c *api.Cmd) {
	c.Kind = api.KCase
	m.put("case ")
	c.Words = []api.Word{m.word()}
	m.gap()
	m.lines()
	m.put("in ")
	m.lines()
	for range m.IntN(4) {
		m.put(m.some("", "(", "( "))
		i := api.Item{Body: api.Cmd{Kind: api.KSeq}}
		for range 1 + m.IntN(2) {
			if len(i.Pats) > 0 {
				m.blank()
				m.put("|")
				m.blank()
			}
			i.Pats = append(i.Pats, m.word())
		}
		m.blank()
		m.put(")")
		m.lines()
		if m.IntN(4) > 0 {
			m.put(" ")
			i.Body = m.list(m.IntN(2) == 0)
		}
		c.Items = append(c.Items, i)
		m.put(" ;;")
		m.lines()
	}
	m.put(" esac")
}

// command writes a command.
func (m *maker) command() api.Cmd {
	m.depth++
	defer func() { m.depth-- }()
	if m.full() || m.IntN(2) == 0 {
		return m.simple()
	}
	if m.IntN(6) > 0 {
		return m.own()
	}
	c := api.Cmd{Kind: api.KFunc, At: m.at(), Name: m.some("f", "_", "g1")}
	m.put(c.Name)
	m.blank()
	m.put("(")
	m.blank()
	m.put(")")
	m.lines()
	m.blank()
	c.Subs = []api.Cmd{m.own()}
	return c
}

// pipeline writes a pipeline.
func (m *maker) pipeline() api.Cmd {
	c := api.Cmd{Kind: api.KPipe, At: m.at(), Not: m.IntN(6) == 0}
	if c.Not {
		m.put("!")
		m.gap()
	}
	c.Subs = []api.Cmd{m.command()}
	for m.IntN(5) == 0 {
		m.blank()
		m.put("|")
		m.blank()
		m.lines()
		c.Subs = append(c.Subs, m.command())
	}
	if len(c.Subs) == 1 && !c.Not {
		return c.Subs[0]
	}
	return c
}

// andOr writes an and-or list.
func (m *maker) andOr() api.Cmd {
	c := m.pipeline()
	for m.IntN(5) == 0 {
		kind := api.KAnd + m.IntN(2)
		m.blank()
		m.put([]string{"&&", "||"}[kind-api.KAnd])
		m.blank()
		m.lines()
		c = api.Cmd{Kind: kind, At: c.At, Subs: []api.Cmd{c, m.pipeline()}}
	}
	return c
}

// list writes a list; closed: a word that ends what is around may stand behind it.
func (m *maker) list(closed bool) api.Cmd {
	m.lines()
	m.blank()
	var subs []api.Cmd
	for range 1 + m.IntN(2) {
		if len(subs) > 0 {
			m.sep()
		}
		subs = append(subs, m.andOr())
	}
	if closed || m.IntN(3) == 0 {
		m.sep()
	}
	return api.Cmd{Kind: api.KSeq, At: subs[0].At, Subs: subs}
}

// 10.1, 10.3, 10.4: scripts that are made with their trees are read as these, each place too.
func TestMade(t *testing.T) {
	things := []string{":S{", ":P{", ":P!{", ":And{", ":Or{", ":Q{", ":Sub{", ":G{", ":If{", ":While{", ":Until{", ":For", ":For+", ":Case{", ":F", ":Q{}", "%", "#(1)", "len", ":-(", "##(", "+(", "\"$", "\"%", "\"#", "\"''", ":'~'", ">>"}
	seen := map[string]int{}
	for n := range 5000 {
		m := &maker{Rand: rand.New(rand.NewPCG(10, uint64(n)))}
		want := m.list(false)
		s := string(m.out)
		if len(s) > api.MaxScript {
			continue
		}
		c, at, e := Parse(s)
		if at != 0 || e != api.OK || !reflect.DeepEqual(c, want) {
			t.Fatalf("%d: Parse of %q:\n     %s\nnot  %s", n, s, withPlaces.script(s), withPlaces.cmd(want))
		}
		got := withPlaces.cmd(c)
		for _, k := range things {
			if strings.Contains(got, k) {
				seen[k]++
			}
		}
	}
	for _, k := range things {
		if seen[k] < 50 {
			t.Errorf("only %d scripts have a %s", seen[k], k)
		}
	}
}
