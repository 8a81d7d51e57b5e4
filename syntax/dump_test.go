package syntax

import (
	"reflect"
	"strconv"
	"strings"
	"testing"

	"conch/api"
)

// kinds are short names of the kinds of commands.
var kinds = []string{"?", "S", "P", "And", "Or", "Q", "Sub", "G", "If", "While", "Until", "For", "Case", "F"}

// signs are how what is done with a variable is written.
var signs = []string{"", "-", "=", "?", "+", "len", "%", "%%", "#", "##"}

// dumper writes trees as texts, in short, with places or without. Of a thing that has more than its kind tells it writes an X.
type dumper struct{ places bool }

// at writes a place.
func (d dumper) at(n int) string {
	if !d.places {
		return ""
	}
	return strconv.Itoa(n) + ":"
}

// parts writes parts one behind the other.
func (d dumper) parts(l []api.Part) string {
	var out []string
	for _, p := range l {
		out = append(out, d.part(p))
	}
	return strings.Join(out, " ")
}

// part writes a part: what is quoted has a `"` ahead.
func (d dumper) part(p api.Part) string {
	s := d.at(p.At)
	if p.Quoted {
		s += "\""
	}
	told := api.Part{Kind: p.Kind, At: p.At, Quoted: p.Quoted}
	switch p.Kind {
	case api.PLit:
		s += "'" + p.Text + "'"
		told.Text = p.Text
	case api.PVar:
		s += "$" + p.Name
		told.Name, told.Op = p.Name, p.Op
		if p.Colon {
			s += ":"
		}
		s += signs[p.Op]
		if p.Op != api.VPlain && p.Op != api.VLen {
			s += "(" + d.parts(p.Arg) + ")"
			told.Arg, told.Colon = p.Arg, p.Colon
		}
	case api.PCmd:
		s += "%"
		for _, c := range p.Body {
			s += d.cmd(c)
		}
		told.Body = p.Body
	case api.PSum:
		s += "#" + p.Text + "#"
		told.Text = p.Text
	}
	return s + excess(p, told)
}

// excess marks what has more than is told of it.
func excess(x, told any) string {
	if reflect.DeepEqual(x, told) {
		return ""
	}
	return "X"
}

// word writes a word.
func (d dumper) word(w api.Word) string {
	return d.at(w.At) + "[" + d.parts(w.Parts) + "]"
}

// words writes words, each with what comes behind it.
func (d dumper) words(l []api.Word, behind string) []string {
	var out []string
	for _, w := range l {
		out = append(out, d.word(w)+behind)
	}
	return out
}

// redirs writes redirections.
func (d dumper) redirs(l []api.Redir) []string {
	var out []string
	for _, r := range l {
		out = append(out, d.at(r.At)+strconv.Itoa(r.Fd)+[]string{"?", "<", ">", ">>"}[r.Kind]+d.word(r.Target))
	}
	return out
}

// cmd writes a command: what kind it is, and what it holds.
func (d dumper) cmd(c api.Cmd) string {
	told := api.Cmd{Kind: c.Kind, At: c.At, Redirs: c.Redirs, Subs: c.Subs}
	var l []string
	switch c.Kind {
	case api.KSimple:
		told.Assigns, told.Words, told.Subs = c.Assigns, c.Words, nil
	case api.KPipe:
		told.Not, told.Redirs = c.Not, nil
	case api.KSeq, api.KAnd, api.KOr:
		told.Redirs = nil
	case api.KFor:
		told.Name, told.In, told.Words = c.Name, c.In, c.Words
	case api.KCase:
		told.Words, told.Items, told.Subs = c.Words, c.Items, nil
	case api.KFunc:
		told.Name, told.Redirs = c.Name, nil
	}
	for _, a := range c.Assigns {
		l = append(l, d.at(a.At)+a.Name+"="+d.parts(a.Value))
	}
	l = append(l, d.words(c.Words, "")...)
	for _, i := range c.Items {
		l = append(l, strings.Join(d.words(i.Pats, ")"), "")+d.cmd(i.Body))
	}
	for _, x := range c.Subs {
		l = append(l, d.cmd(x))
	}
	l = append(l, d.redirs(c.Redirs)...)
	s := kinds[c.Kind]
	if c.Not {
		s += "!"
	}
	if c.In {
		s += "+"
	}
	return d.at(c.At) + s + c.Name + "{" + strings.Join(l, " ") + "}" + excess(c, told)
}

// script tells what Parse tells, as a text.
func (d dumper) script(s string) string {
	c, at, e := Parse(s)
	if e != api.OK {
		return fault(at, e) + beside(c.Kind == 0 && excess(c, api.Cmd{}) == "")
	}
	return d.cmd(c) + beside(at == 0)
}

// first tells what Word tells of the word at at, as a text.
func (d dumper) first(s string, at int) string {
	w, to, e := Word(s, at)
	if e != api.OK {
		return fault(to, e) + beside(excess(w, api.Word{}) == "")
	}
	return d.word(w) + " to " + strconv.Itoa(to)
}

// fault writes an error and its place.
func fault(at int, e api.Errno) string {
	return e.Error() + " at " + strconv.Itoa(at)
}

// beside marks what has something beside it that it must not have.
func beside(ok bool) string {
	if ok {
		return ""
	}
	return " X"
}

// withPlaces and bare are the two ways to write.
var withPlaces, bare = dumper{places: true}, dumper{}

// pair is an input and what is told of it.
type pair struct{ s, want string }

// checkScripts holds what Parse tells against what is wanted.
func checkScripts(t *testing.T, d dumper, l []pair) {
	t.Helper()
	for _, x := range l {
		if got := d.script(x.s); got != x.want {
			t.Errorf("Parse of %q:\n     %s\nnot  %s", x.s, got, x.want)
		}
	}
}

// checkWords holds what Word tells at the beginning against what is wanted.
func checkWords(t *testing.T, d dumper, l []pair) {
	t.Helper()
	for _, x := range l {
		if got := d.first(x.s, 0); got != x.want {
			t.Errorf("Word of %q:\n     %s\nnot  %s", x.s, got, x.want)
		}
	}
}
