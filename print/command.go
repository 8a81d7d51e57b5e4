package print

import (
	"strings"

	"conch/api"
	"conch/lex"
	"conch/text"
)

// command writes a list, a pipeline or a command.
func (p *printer) command(c api.Cmd) {
	p.enter()
	switch c.Kind {
	case api.KSimple:
		p.simple(c)
	case api.KPipe:
		if c.Not {
			p.keyword("!")
		}
		p.row(c.Subs, "|")
	case api.KAnd:
		p.row(c.Subs, "&&")
	case api.KOr:
		p.row(c.Subs, "||")
	case api.KSeq:
		p.row(c.Subs, ";")
	case api.KFunc:
		p.keyword(c.Name)
		p.put("()")
		p.row(c.Subs, "")
	default:
		p.compound(c)
		p.redirs(c.Redirs)
	}
	p.leave()
}

// row writes commands with a sign between.
func (p *printer) row(l []api.Cmd, sign string) {
	for i, c := range l {
		if i > 0 {
			p.put(sign)
		}
		p.command(c)
	}
}

// compound writes a command that has an end of its own.
func (p *printer) compound(c api.Cmd) {
	switch c.Kind {
	case api.KSub:
		p.put("(")
		p.row(c.Subs, "")
		p.put(")")
	case api.KGroup:
		p.block("{", c.Subs[0])
		p.keyword("}")
	case api.KIf:
		p.branch("if", c.Subs)
	case api.KWhile:
		p.loop("while", c.Subs)
	case api.KUntil:
		p.loop("until", c.Subs)
	case api.KFor:
		p.each(c)
	case api.KCase:
		p.choice(c)
	}
}

// block writes a reserved word and the list behind it, so that another reserved word may follow.
func (p *printer) block(word string, list api.Cmd) {
	p.keyword(word)
	p.command(list)
	p.put(";")
}

// branch writes an if, or an elif, up to their common fi.
func (p *printer) branch(word string, subs []api.Cmd) {
	p.enter()
	defer p.leave()
	p.block(word, subs[0])
	p.block("then", subs[1])
	if len(subs) > 2 {
		if other, ok := onlyIf(subs[2]); ok {
			p.branch("elif", other)
			return
		}
		p.block("else", subs[2])
	}
	p.keyword("fi")
}

// onlyIf tells what is in the if that is all of a list, if it could be an elif: that has no redirections of its own.
func onlyIf(list api.Cmd) ([]api.Cmd, bool) {
	if len(list.Subs) != 1 || list.Subs[0].Kind != api.KIf || len(list.Subs[0].Redirs) > 0 {
		return nil, false
	}
	return list.Subs[0].Subs, true
}

// loop writes a loop that asks a list.
func (p *printer) loop(word string, subs []api.Cmd) {
	p.block(word, subs[0])
	p.rounds(subs[1])
}

// rounds writes what a loop does each time round.
func (p *printer) rounds(list api.Cmd) {
	p.block("do", list)
	p.keyword("done")
}

// each writes a loop over words.
func (p *printer) each(c api.Cmd) {
	p.keyword("for")
	p.keyword(c.Name)
	if c.In {
		p.keyword("in")
		p.words(c.Words)
		p.put(";")
	}
	p.rounds(c.Subs[0])
}

// choice writes a case.
func (p *printer) choice(c api.Cmd) {
	p.keyword("case")
	p.words(c.Words)
	p.keyword("in")
	for _, item := range c.Items {
		p.first(item.Pats[0], endsCase)
		for _, w := range item.Pats[1:] {
			p.put("|")
			p.word(w)
		}
		p.put(")")
		p.command(item.Body)
		p.put(";;")
	}
	p.keyword("esac")
}

// simple writes a simple command.
func (p *printer) simple(c api.Cmd) {
	open := openEnd(c)
	if open {
		p.redirs(c.Redirs)
	}
	for _, a := range c.Assigns {
		p.assign(a)
	}
	words := c.Words
	if len(c.Assigns) == 0 && len(words) > 0 {
		p.first(words[0], beginsCommand)
		words = words[1:]
	}
	p.words(words)
	if !open {
		p.redirs(c.Redirs)
	}
}

// beginsCommand tells whether s means something where a command begins.
func beginsCommand(s string) bool {
	return lex.Reserved(s) && s != "in"
}

// endsCase tells whether s means something where an item of a case begins.
func endsCase(s string) bool {
	return s == "esac"
}

// openEnd tells whether the words of c end with an unquoted backslash: it is itself only at the end of a script, so that nothing may follow.
func openEnd(c api.Cmd) bool {
	var last []api.Part
	if n := len(c.Words); n > 0 {
		last = c.Words[n-1].Parts
	} else if n := len(c.Assigns); n > 0 {
		last = c.Assigns[n-1].Value
	}
	n := len(last)
	return n > 0 && last[n-1].Kind == api.PLit && !last[n-1].Quoted && strings.HasSuffix(last[n-1].Text, `\`)
}

// words writes words.
func (p *printer) words(l []api.Word) {
	for _, w := range l {
		p.word(w)
	}
}

// assign writes an assignment.
func (p *printer) assign(a api.Assign) {
	p.put(a.Name + "=")
	p.parts(a.Value)
	p.apart(inWord, " ")
}

// arrows are the signs of the kinds of redirections.
var arrows = [...]string{api.RIn: "<", api.ROut: ">", api.RApp: ">>"}

// redirs writes redirections. What a sign redirects by itself is not told ahead of it.
func (p *printer) redirs(l []api.Redir) {
	for _, r := range l {
		usual := 1
		if r.Kind == api.RIn {
			usual = 0
		}
		if r.Fd != usual {
			p.put(text.Digits(r.Fd))
		}
		p.put(arrows[r.Kind])
		p.word(r.Target)
	}
}
