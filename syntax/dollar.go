package syntax

import (
	"strings"

	"conch/api"
	"conch/arith"
	"conch/text"
)

// dollar reads what a `$` begins, or the `$` as itself.
func (r *reader) dollar(w *row) {
	at := r.at
	read := r.expansion(w.quoted)
	if read == nil {
		r.at++
		w.literal(at, "$", w.quoted)
		return
	}
	p := read()
	p.At, p.Quoted = at, w.quoted
	w.put(p)
}

// expansion tells what reads what the `$` here begins; nil, if it begins nothing.
func (r *reader) expansion(quoted bool) func() api.Part {
	rest := r.s[r.at+1:]
	switch {
	case rest == "":
		return nil
	case strings.HasPrefix(rest, "(("):
		return r.sum
	case rest[0] == '(':
		return r.substitution
	case rest[0] == '{':
		return r.braced
	case text.NameLen(rest, 0) > 0 || digitsLen(rest) > 0 || strings.IndexByte("@*#?", rest[0]) >= 0:
		return r.variable
	case strings.IndexByte("$!-'", rest[0]) >= 0 || rest[0] == '"' && !quoted:
		return r.foreign
	}
	return nil
}

// foreign reads nothing: shells know what stands here, but this language does not.
func (r *reader) foreign() api.Part {
	r.fail(r.at, api.ErrDollar)
	return api.Part{}
}

// variable reads a `$` and a name, or one byte.
func (r *reader) variable() api.Part {
	begin := r.at + 1
	r.at = begin + max(text.NameLen(r.s, begin), 1)
	return api.Part{Kind: api.PVar, Name: r.s[begin:r.at]}
}

// braced reads `${` and all up to its `}`.
func (r *reader) braced() api.Part {
	at := r.at
	if !r.enter() {
		return api.Part{}
	}
	r.at += len("${")
	p := api.Part{Kind: api.PVar}
	switch rest := r.s[r.at:]; {
	case strings.HasPrefix(rest, "#") && !strings.HasPrefix(rest, "#}"):
		r.at++
		p.Op, p.Name = api.VLen, r.parameter()
	case rest != "" && strings.IndexByte("#@*?", rest[0]) >= 0:
		r.at++
		p.Name = rest[:1]
	default:
		p.Name = r.parameter()
		if p.Name != "" {
			r.operation(at, &p)
		}
	}
	if p.Name == "" || !strings.HasPrefix(r.s[r.at:], "}") {
		r.amiss(at)
		return api.Part{}
	}
	r.at++
	r.leave()
	return p
}

// amiss tells that `${` is not as it must be where the reader stands: it is open, if the script ends there.
func (r *reader) amiss(at int) {
	e := api.ErrDollar
	if r.at == len(r.s) {
		e = api.ErrOpen
	}
	r.fail(at, e)
}

// parameter reads a name or digits, if they stand here.
func (r *reader) parameter() string {
	begin := r.at
	r.at += max(text.NameLen(r.s, begin), digitsLen(r.s[begin:]))
	return r.s[begin:r.at]
}

// operation reads what is done with the variable p of the `${` at at, if anything is.
func (r *reader) operation(at int, p *api.Part) {
	colon := strings.HasPrefix(r.s[r.at:], ":")
	if colon {
		r.at++
	}
	op, n := operator(r.s[r.at:])
	if colon && (op == api.VPlain || op > api.VPlus) {
		r.amiss(at)
		return
	}
	if op == api.VPlain {
		return
	}
	r.at += n
	p.Op, p.Colon, p.Arg = op, colon, r.row(closes)
}

// operator tells what the longest sign that s begins with does with a variable, and how long it is.
func operator(s string) (int, int) {
	if s == "" {
		return api.VPlain, 0
	}
	switch s[0] {
	case '-':
		return api.VMinus, 1
	case '=':
		return api.VAssign, 1
	case '?':
		return api.VErr, 1
	case '+':
		return api.VPlus, 1
	case '%':
		return oneOrTwo(s, api.VSuf, api.VSufs)
	case '#':
		return oneOrTwo(s, api.VPre, api.VPres)
	}
	return api.VPlain, 0
}

// oneOrTwo tells what the first byte of s does alone, or what it does twice.
func oneOrTwo(s string, one, two int) (int, int) {
	if len(s) > 1 && s[1] == s[0] {
		return two, 2
	}
	return one, 1
}

// closes tells whether an unquoted c ends an Arg.
func closes(c byte) bool {
	return c == '}'
}

// substitution reads `$(` and all up to its `)`. It is open only where its own list might end.
func (r *reader) substitution() api.Part {
	at := r.at
	if !r.enter() {
		return api.Part{}
	}
	r.at += len("$(")
	body := r.body()
	if r.ended() {
		r.fail(at, api.ErrOpen)
	}
	r.need(")")
	r.leave()
	return api.Part{Kind: api.PCmd, Body: []api.Cmd{body}}
}

// sum reads `$((` and all up to its `))`.
func (r *reader) sum() api.Part {
	begin := r.at + len("$((")
	end, e := sumEnd(r.s, begin)
	if e == api.ErrOpen {
		end = r.at
	}
	if e != api.OK {
		r.fail(end, e)
		return api.Part{}
	}
	s := r.s[begin:end]
	if _, at, e := arith.Parse(s); e != api.OK {
		r.fail(begin+at, e)
		return api.Part{}
	}
	r.at = end + len("))")
	return api.Part{Kind: api.PSum, Text: s}
}

// sumEnd tells the place of the `))` that ends the sum whose text begins at begin, or of a `)` that is more than there are `(`.
func sumEnd(s string, begin int) (int, api.Errno) {
	open := 0
	for i := begin; i < len(s); i++ {
		switch {
		case s[i] == '(':
			open++
		case s[i] == ')' && open > 0:
			open--
		case strings.HasPrefix(s[i:], "))"):
			return i, api.OK
		case s[i] == ')':
			return i, api.ErrSyntax
		}
	}
	return 0, api.ErrOpen
}
