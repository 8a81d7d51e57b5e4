package arith

import (
	"conch/api"
	"conch/text"
)

// weakest is the strength of the sign that binds least.
const weakest = 1

// reader goes through a sum from the left. Where it meets an error it stays, so that at tells the error's place.
type reader struct {
	s     string
	at    int
	steps []api.Op
}

// sum reads one operand, and whatever signs between two bind to it that are at least so strong; deep tells how many signs and parentheses it stands in. It ends ahead of the next thing that is no blank.
func (r *reader) sum(least, deep int) api.Errno {
	if e := r.operand(deep); e != api.OK {
		return e
	}
	for {
		sign := r.sign()
		kind, strength := between(sign)
		if strength < least {
			return api.OK
		}
		r.at += len(sign)
		// The right side takes stronger signs alone: those of one row go from the left.
		if e := r.sum(strength+1, deep); e != api.OK {
			return e
		}
		r.steps = append(r.steps, api.Op{Kind: kind})
	}
}

// operand reads what a sign can stand between: a number, a name, or more behind a sign ahead or in parentheses.
func (r *reader) operand(deep int) api.Errno {
	sign := r.sign()
	kind := ahead(sign)
	if kind == 0 && sign != "(" {
		return r.plain()
	}
	if deep == api.MaxSign {
		return api.ErrDeep
	}
	r.at += len(sign)
	if sign == "(" {
		return r.closed(deep + 1)
	}
	if e := r.operand(deep + 1); e != api.OK {
		return e
	}
	r.steps = append(r.steps, api.Op{Kind: kind})
	return api.OK
}

// closed reads a sum and the parenthesis behind it.
func (r *reader) closed(deep int) api.Errno {
	if e := r.sum(weakest, deep); e != api.OK {
		return e
	}
	if r.sign() != ")" {
		return api.ErrSyntax
	}
	r.at++
	return api.OK
}

// plain reads a number or a name.
func (r *reader) plain() api.Errno {
	if n := text.NameLen(r.s, r.at); n > 0 {
		r.steps = append(r.steps, api.Op{Kind: api.OName, Name: r.s[r.at : r.at+n]})
		r.at += n
		return api.OK
	}
	end := r.at
	for end < len(r.s) && '0' <= r.s[end] && r.s[end] <= '9' {
		end++
	}
	n, ok := text.Number(r.s[r.at:end])
	if !ok {
		return api.ErrSyntax
	}
	r.steps = append(r.steps, api.Op{Kind: api.ONum, N: n})
	r.at = end
	return api.OK
}

// sign goes behind blanks and tells the sign that begins there, the longest; empty of none.
func (r *reader) sign() string {
	for r.at < len(r.s) && isBlank(r.s[r.at]) {
		r.at++
	}
	for n := min(2, len(r.s)-r.at); n > 0; n-- {
		if sign := r.s[r.at : r.at+n]; isSign(sign) {
			return sign
		}
	}
	return ""
}

// isBlank tells the bytes that say nothing between signs.
func isBlank(c byte) bool {
	return c == ' ' || c == '\t' || c == '\n'
}

// isSign tells whether s is one sign.
func isSign(s string) bool {
	_, strength := between(s)
	return strength > 0 || ahead(s) > 0 || s == "(" || s == ")"
}

// ahead tells what a sign ahead of one does; 0 of another.
func ahead(sign string) int {
	switch sign {
	case "-":
		return api.ONeg
	case "+":
		return api.OPlus
	case "!":
		return api.ONot
	}
	return 0
}

// between tells what a sign between two does, and how strongly it binds; twice 0 of another.
func between(sign string) (kind, strength int) {
	switch sign {
	case "||":
		return api.OOr, weakest
	case "&&":
		return api.OAnd, 2
	case "==":
		return api.OEq, 3
	case "!=":
		return api.ONe, 3
	case "<":
		return api.OLt, 4
	case "<=":
		return api.OLe, 4
	case ">":
		return api.OGt, 4
	case ">=":
		return api.OGe, 4
	case "+":
		return api.OAdd, 5
	case "-":
		return api.OSub, 5
	case "*":
		return api.OMul, 6
	case "/":
		return api.ODiv, 6
	case "%":
		return api.OMod, 6
	}
	return 0, 0
}
