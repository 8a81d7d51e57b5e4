package syntax

import (
	"conch/api"
	"conch/lex"
	"conch/text"
)

// body reads a list, or nothing, where none begins.
func (r *reader) body() api.Cmd {
	r.lines()
	if !r.begins() {
		return api.Cmd{Kind: api.KSeq}
	}
	return r.list()
}

// list reads and-or lists, one at least.
func (r *reader) list() api.Cmd {
	r.lines()
	subs := []api.Cmd{r.andOr()}
	for r.separator() && r.begins() {
		subs = append(subs, r.andOr())
	}
	return api.Cmd{Kind: api.KSeq, At: subs[0].At, Subs: subs}
}

// andOr reads pipelines with `&&` and `||` between.
func (r *reader) andOr() api.Cmd {
	c := r.pipeline()
	for {
		kind := api.KAnd
		if !r.take("&&") {
			kind = api.KOr
			if !r.take("||") {
				return c
			}
		}
		r.lines()
		c = api.Cmd{Kind: kind, At: c.At, Subs: []api.Cmd{c, r.pipeline()}}
	}
}

// pipeline reads commands with `|` between.
func (r *reader) pipeline() api.Cmd {
	not := r.head() == "!"
	at := r.at
	if not {
		r.pass()
	}
	subs := []api.Cmd{r.command()}
	for r.take("|") {
		r.lines()
		subs = append(subs, r.command())
	}
	if !not && len(subs) == 1 {
		return subs[0]
	}
	return api.Cmd{Kind: api.KPipe, At: at, Not: not, Subs: subs}
}

// begins tells whether a pipeline may begin with what stands next.
func (r *reader) begins() bool {
	return r.head() == "!" || r.opens()
}

// opens tells whether a command may begin with what stands next. A sign like a redirection's begins one, though some of them end as a fault.
func (r *reader) opens() bool {
	head := r.head()
	return r.isRedir() || r.compound(head) != nil || head == "in" || r.isWord() && !lex.Reserved(head)
}

// command reads one command.
func (r *reader) command() api.Cmd {
	if !r.opens() {
		r.unfit()
		return api.Cmd{}
	}
	if read := r.compound(r.head()); read != nil {
		return r.redirected(read)
	}
	return r.nested(r.simple)
}

// nested reads a command as one that is deeper than those around it.
func (r *reader) nested(read func() api.Cmd) api.Cmd {
	at := r.at
	if !r.enter() {
		return api.Cmd{}
	}
	c := read()
	c.At = at
	r.leave()
	return c
}

// redirected reads a command that has an end of its own, and the redirections behind it, which are its own too.
func (r *reader) redirected(read func() api.Cmd) api.Cmd {
	return r.nested(func() api.Cmd {
		c := read()
		for r.isRedir() {
			c.Redirs = append(c.Redirs, r.redirection())
		}
		return c
	})
}

// simple reads assignments, words and redirections, or a function, as its beginning is as a simple command's.
func (r *reader) simple() api.Cmd {
	c := api.Cmd{Kind: api.KSimple}
	for {
		switch {
		case r.isRedir():
			c.Redirs = append(c.Redirs, r.redirection())
		case r.isWord():
			first := len(c.Redirs)+len(c.Assigns)+len(c.Words) == 0
			w := r.word()
			if name, ok := functionName(w); ok && first && r.take("(") {
				return r.function(name)
			}
			put(&c, w)
		default:
			return c
		}
	}
}

// put puts a word behind what is read of a command: only ahead of the first word it may be an assignment.
func put(c *api.Cmd, w api.Word) {
	if len(c.Words) == 0 {
		if a, ok := assignment(w); ok {
			c.Assigns = append(c.Assigns, a)
			return
		}
	}
	c.Words = append(c.Words, w)
}

// assignment tells the assignment that w is. What is left of its first part keeps its place.
func assignment(w api.Word) (api.Assign, bool) {
	if len(w.Parts) == 0 || w.Parts[0].Kind != api.PLit || w.Parts[0].Quoted {
		return api.Assign{}, false
	}
	s := w.Parts[0].Text
	n := text.NameLen(s, 0)
	if n == 0 || n == len(s) || s[n] != '=' {
		return api.Assign{}, false
	}
	if w.Parts[0].Text = s[n+1:]; w.Parts[0].Text == "" {
		w.Parts = w.Parts[1:]
	}
	return api.Assign{At: w.At, Name: s[:n], Value: w.Parts}, true
}

// functionName tells the name that w is, if it is one that a function may have.
func functionName(w api.Word) (string, bool) {
	if len(w.Parts) != 1 || w.Parts[0].Kind != api.PLit || w.Parts[0].Quoted {
		return "", false
	}
	s := w.Parts[0].Text
	return s, text.Name(s) && !lex.Reserved(s)
}

// function reads what stands behind the `(` of a function.
func (r *reader) function(name string) api.Cmd {
	r.need(")")
	r.lines()
	read := r.compound(r.head())
	if read == nil {
		r.unfit()
		return api.Cmd{}
	}
	return api.Cmd{Kind: api.KFunc, Name: name, Subs: []api.Cmd{r.redirected(read)}}
}

// redirection reads a redirection.
func (r *reader) redirection() api.Redir {
	at, sign := r.at, r.sign()
	op, _ := lex.Op(r.s, sign)
	kind, fd := redirKind(op)
	if kind == 0 {
		r.unfit()
		return api.Redir{}
	}
	if sign > at {
		n, ok := text.Number(r.s[at:sign])
		if !ok || n > 9 {
			r.fail(at, api.ErrSyntax)
			return api.Redir{}
		}
		fd = n
	}
	r.at = sign + len(op)
	return api.Redir{At: at, Fd: fd, Kind: kind, Target: r.needWord()}
}

// redirKind tells the kind of a redirection by its sign, and what it redirects, if no digits tell; 0 of another sign.
func redirKind(op string) (int, int) {
	switch op {
	case "<":
		return api.RIn, 0
	case ">":
		return api.ROut, 1
	case ">>":
		return api.RApp, 1
	}
	return 0, 0
}
