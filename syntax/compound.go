package syntax

import (
	"conch/api"
	"conch/text"
)

// compound tells what reads the command that head begins, if that has an end of its own; nil of another one.
func (r *reader) compound(head string) func() api.Cmd {
	switch head {
	case "(":
		return r.sub
	case "{":
		return r.group
	case "if":
		return r.branch
	case "while":
		return r.while
	case "until":
		return r.until
	case "for":
		return r.each
	case "case":
		return r.choice
	}
	return nil
}

// sub reads a list in parentheses.
func (r *reader) sub() api.Cmd {
	return r.enclosed(api.KSub, ")")
}

// group reads a list in braces.
func (r *reader) group() api.Cmd {
	return r.enclosed(api.KGroup, "}")
}

// enclosed reads what begins it, a list, and its end.
func (r *reader) enclosed(kind int, end string) api.Cmd {
	r.pass()
	c := r.list()
	r.need(end)
	return api.Cmd{Kind: kind, Subs: []api.Cmd{c}}
}

// branch reads an if, or an elif, up to their common fi.
func (r *reader) branch() api.Cmd {
	r.pass()
	asked := r.list()
	r.need("then")
	subs := []api.Cmd{asked, r.list()}
	if r.head() == "elif" {
		at := r.at
		other := r.nested(r.branch)
		subs = append(subs, api.Cmd{Kind: api.KSeq, At: at, Subs: []api.Cmd{other}})
		return api.Cmd{Kind: api.KIf, Subs: subs}
	}
	if r.take("else") {
		subs = append(subs, r.list())
	}
	r.need("fi")
	return api.Cmd{Kind: api.KIf, Subs: subs}
}

// while reads a loop that goes on while its first list says so.
func (r *reader) while() api.Cmd {
	return r.loop(api.KWhile)
}

// until reads a loop that ends when its first list says so.
func (r *reader) until() api.Cmd {
	return r.loop(api.KUntil)
}

// loop reads a loop that asks a list.
func (r *reader) loop(kind int) api.Cmd {
	r.pass()
	asked := r.list()
	return api.Cmd{Kind: kind, Subs: []api.Cmd{asked, r.rounds()}}
}

// rounds reads what a loop does each time round.
func (r *reader) rounds() api.Cmd {
	r.need("do")
	c := r.list()
	r.need("done")
	return c
}

// each reads a loop over words.
func (r *reader) each() api.Cmd {
	r.pass()
	c := api.Cmd{Kind: api.KFor, Name: r.head()}
	if !text.Name(c.Name) {
		r.unfit()
	}
	r.pass()
	// Line feeds behind the name are ahead of an in, or they are all that may stand ahead of the do.
	parted := r.lines()
	if r.take("in") {
		c.In, c.Words, parted = true, r.words(), false
	}
	// Where nothing parts the words from a do, that is one of them.
	if !parted {
		r.separator()
	}
	c.Subs = []api.Cmd{r.rounds()}
	return c
}

// words reads all words that stand next.
func (r *reader) words() []api.Word {
	var l []api.Word
	for r.isWord() {
		l = append(l, r.word())
	}
	return l
}

// choice reads a case.
func (r *reader) choice() api.Cmd {
	r.pass()
	c := api.Cmd{Kind: api.KCase, Words: []api.Word{r.needWord()}}
	r.lines()
	r.need("in")
	r.lines()
	for !r.take("esac") {
		c.Items = append(c.Items, r.item())
		if !r.take(";;") {
			r.need("esac")
			break
		}
		r.lines()
	}
	return c
}

// item reads an item of a case, up to its `;;`.
func (r *reader) item() api.Item {
	r.take("(")
	pats := []api.Word{r.needWord()}
	for r.take("|") {
		pats = append(pats, r.needWord())
	}
	r.need(")")
	return api.Item{Pats: pats, Body: r.body()}
}
