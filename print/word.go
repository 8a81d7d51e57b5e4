package print

import (
	"strings"

	"conch/api"
	"conch/text"
)

// word writes a word.
func (p *printer) word(w api.Word) {
	p.spend(1)
	p.parts(w.Parts)
	p.apart(inWord, " ")
	if s, ok := plainText(w); ok && strings.Trim(s, "0123456789") == "" {
		p.apart(inNumber, " ")
	}
}

// first writes a word where some reserved words mean something: it is none of them as it stands there.
func (p *printer) first(w api.Word, means func(s string) bool) {
	if s, ok := plainText(w); ok && means(s) {
		p.keyword(s[:1] + joint + s[1:])
		return
	}
	p.word(w)
}

// keyword writes a name or a reserved word.
func (p *printer) keyword(s string) {
	p.put(s)
	p.apart(inWord, " ")
}

// plainText tells the text of a word that has but an unquoted one.
func plainText(w api.Word) (string, bool) {
	if len(w.Parts) != 1 || w.Parts[0].Kind != api.PLit || w.Parts[0].Quoted {
		return "", false
	}
	return w.Parts[0].Text, true
}

// parts writes parts one behind the other, with as few quotes `"` as they need.
func (p *printer) parts(l []api.Part) {
	for i, x := range l {
		p.enter()
		double := inDouble(l, i)
		if double && !inDouble(l, i-1) {
			p.put(`"`)
		}
		p.part(x, double)
		if double && !inDouble(l, i+1) {
			p.put(`"`)
		}
		p.leave()
	}
}

// inDouble tells whether the part at i is written within `"`: a quoted expansion is, and a quoted text beside one, unless it is empty: quotes that have something in them don't tell it.
func inDouble(l []api.Part, i int) bool {
	if quotedExpansion(l, i) {
		return true
	}
	return i >= 0 && i < len(l) && l[i].Quoted && l[i].Text != "" && (quotedExpansion(l, i-1) || quotedExpansion(l, i+1))
}

// quotedExpansion tells whether the part at i is one that only `"` can quote.
func quotedExpansion(l []api.Part, i int) bool {
	return i >= 0 && i < len(l) && l[i].Quoted && l[i].Kind != api.PLit
}

// part writes a part, within `"` or not.
func (p *printer) part(x api.Part, double bool) {
	switch x.Kind {
	case api.PLit:
		p.literal(x, double)
	case api.PVar:
		p.variable(x)
	case api.PCmd:
		p.put("$(")
		// With another parenthesis it would be a sum.
		p.apart(is('('), " ")
		p.row(x.Body, "")
		p.put(")")
	case api.PSum:
		p.put("$((" + x.Text + "))")
	}
}

// literal writes a literal.
func (p *printer) literal(x api.Part, double bool) {
	switch {
	case !x.Quoted:
		p.unquoted(x.Text)
	case double:
		p.put(doubled(x.Text))
	default:
		p.put(quoted(x.Text))
	}
}

// unquoted writes a text that is not quoted, so that each `$` in it is itself.
func (p *printer) unquoted(s string) {
	for s != "" {
		n := strings.IndexByte(s, '$') + 1
		if n == 0 {
			p.put(s)
			return
		}
		p.put(s[:n])
		p.apart(inDollar, joint)
		s = s[n:]
	}
}

// quoted tells s quoted, in the shortest of the ways.
func quoted(s string) string {
	best := Quote(s)
	if other := `"` + doubled(s) + `"`; len(other) < len(best) {
		best = other
	}
	if other := slashed(s); other != "" && len(other) < len(best) {
		best = other
	}
	return best
}

// slashed tells s with a backslash ahead of each byte; "", if it can't be quoted so.
func slashed(s string) string {
	if strings.Contains(s, "\n") {
		return ""
	}
	var out []byte
	for i := range len(s) {
		out = append(out, '\\', s[i])
	}
	return string(out)
}

// doubled tells s as it is written within `"`.
func doubled(s string) string {
	var out []byte
	for i := range len(s) {
		if isMore(s[i], s[i+1:]) {
			out = append(out, '\\')
		}
		out = append(out, s[i])
	}
	return string(out)
}

// isMore tells whether c, with what stands behind it in its text, may mean more than itself within `"`. Behind the text something may stand that a `$` or a backslash would be taken together with.
func isMore(c byte, behind string) bool {
	switch c {
	case '"', '`':
		return true
	case '$':
		return behind == "" || inDollar(behind[0])
	case '\\':
		return behind == "" || strings.IndexByte("$`\"\\\n", behind[0]) >= 0
	}
	return false
}

// operators are how what is done with a variable is written.
var operators = [...]string{api.VMinus: "-", api.VAssign: "=", api.VErr: "?", api.VPlus: "+", api.VSuf: "%", api.VSufs: "%%", api.VPre: "#", api.VPres: "##"}

// variable writes a variable, and what is done with it. Braces are not put where none need be: they would count as one more thing in another.
func (p *printer) variable(x api.Part) {
	switch {
	case x.Op == api.VLen:
		p.put("${#" + x.Name + "}")
	case x.Op != api.VPlain:
		p.operation(x)
	case text.Name(x.Name):
		p.put("$" + x.Name)
		p.apart(inName, joint)
	case len(x.Name) == 1:
		p.put("$" + x.Name)
	default:
		p.put("${" + x.Name + "}")
	}
}

// operation writes what is done with a variable, and the Arg to that.
func (p *printer) operation(x api.Part) {
	p.put("${" + x.Name)
	if x.Colon {
		p.put(":")
	}
	p.put(operators[x.Op])
	switch x.Op {
	case api.VSuf:
		p.apart(is('%'), joint)
	case api.VPre:
		p.apart(is('#'), joint)
	}
	p.parts(x.Arg)
	p.put("}")
}
