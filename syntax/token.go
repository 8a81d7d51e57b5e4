package syntax

import (
	"conch/api"
	"conch/lex"
)

// head tells the sign that stands next, or the word just as it stands there; "" at the end. It is no fault to look at a sign that no script has: only where it can't stand it is told.
func (r *reader) head() string {
	r.at = lex.Skip(r.s, r.at)
	if op, ok := lex.Op(r.s, r.at); ok {
		return op
	}
	end := r.at
	for end < len(r.s) && !lex.Ends(r.s[end]) {
		end++
	}
	return r.s[r.at:end]
}

// ended tells whether nothing stands next.
func (r *reader) ended() bool {
	return r.head() == ""
}

// pass goes behind the sign or the reserved word that stands next.
func (r *reader) pass() {
	r.at += len(r.head())
}

// take goes behind a sign or a reserved word, if it stands next.
func (r *reader) take(want string) bool {
	if r.head() != want {
		return false
	}
	r.at += len(want)
	return true
}

// need goes behind a sign or a reserved word that must stand next.
func (r *reader) need(want string) {
	if !r.take(want) {
		r.unfit()
	}
}

// needWord reads a word that must stand next.
func (r *reader) needWord() api.Word {
	if !r.isWord() {
		r.unfit()
		return api.Word{}
	}
	return r.word()
}

// lines goes behind line feeds and tells whether there are any.
func (r *reader) lines() bool {
	some := false
	for r.take("\n") {
		some = true
	}
	return some
}

// separator goes behind what may stand between two of a list and tells whether it is there.
func (r *reader) separator() bool {
	semicolon := r.take(";")
	return r.lines() || semicolon
}

// isWord tells whether a word stands next. Digits of a redirection are none.
func (r *reader) isWord() bool {
	if r.ended() || r.isRedir() {
		return false
	}
	_, sign := lex.Op(r.s, r.at)
	return !sign
}

// isRedir tells whether what stands next begins as a redirection does.
func (r *reader) isRedir() bool {
	r.at = lex.Skip(r.s, r.at)
	at := r.sign()
	return at < len(r.s) && (r.s[at] == '<' || r.s[at] == '>')
}

// sign tells the place behind the digits that stand next.
func (r *reader) sign() int {
	return r.at + digitsLen(r.s[r.at:])
}

// unfit tells that what stands next can't stand there. Some signs can stand nowhere, and have errors of their own.
func (r *reader) unfit() {
	redir := r.isRedir()
	at := r.at
	if redir {
		at = r.sign()
	}
	op, _ := lex.Op(r.s, at)
	switch op {
	case "<<":
		r.fail(at, api.ErrHere)
	case "&":
		r.fail(at, api.ErrAsync)
	case "<&", ">&", "<>", ">|":
		r.fail(at, api.ErrSyntax)
	default:
		r.fail(r.at, api.ErrSyntax)
	}
}

// digitsLen tells how many digits s begins with.
func digitsLen(s string) int {
	n := 0
	for n < len(s) && '0' <= s[n] && s[n] <= '9' {
		n++
	}
	return n
}
