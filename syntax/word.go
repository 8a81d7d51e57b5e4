package syntax

import (
	"conch/api"
	"conch/lex"
)

// row is the parts of a word, or of an Arg, while they are read.
type row struct {
	ends   func(c byte) bool // which unquoted byte ends it
	parts  []api.Part
	lit    api.Part // the literal that may still grow; its Kind is 0, if there is none
	text   []byte   // the bytes of that literal
	quoted bool     // does a `"` stand open?
	quote  int      // its place
	bare   bool     // has nothing been told since?
}

// word reads the word that begins here.
func (r *reader) word() api.Word {
	at := r.at
	if at < len(r.s) && r.s[at] == '~' {
		r.fail(at, api.ErrTilde)
	}
	return api.Word{At: at, Parts: r.row(lex.Ends)}
}

// row reads parts up to an unquoted byte that ends them.
func (r *reader) row(ends func(c byte) bool) []api.Part {
	w := row{ends: ends}
	for r.at < len(r.s) && !ends(r.s[r.at]) {
		read := r.part(w.quoted)
		read(&w)
	}
	w.flush()
	return w.parts
}

// part tells what reads the part that begins here.
func (r *reader) part(quoted bool) func(w *row) {
	switch c := r.s[r.at]; {
	case c == '$':
		return r.dollar
	case c == '`':
		return r.backquote
	case c == '\\' && quoted:
		return r.quotedBackslash
	case c == '\\':
		return r.backslash
	case c == '"' && !quoted:
		return r.double
	case c == '\'' && !quoted:
		return r.single
	}
	return r.plain
}

// plain reads bytes that are themselves.
func (r *reader) plain(w *row) {
	begin := r.at
	for r.at < len(r.s) && w.plain(r.s[r.at]) {
		r.at++
	}
	w.literal(begin, r.s[begin:r.at], w.quoted)
}

// single reads a text between two quotes `'`.
func (r *reader) single(w *row) {
	inside, end, ok := lex.Single(r.s, r.at)
	if !ok {
		r.fail(r.at, api.ErrOpen)
		return
	}
	w.literal(r.at, inside, true)
	r.at = end
}

// double reads what stands between two quotes `"`.
func (r *reader) double(w *row) {
	at := r.at
	r.at++
	w.quoted, w.quote, w.bare = true, at, true
	for r.at < len(r.s) && r.s[r.at] != '"' {
		read := r.part(w.quoted)
		read(w)
	}
	if r.at == len(r.s) {
		r.fail(at, api.ErrOpen)
		return
	}
	r.at++
	if w.bare {
		w.literal(at, "", true)
	}
	w.quoted = false
}

// backslash reads a backslash and what it quotes. With a line feed it says nothing.
func (r *reader) backslash(w *row) {
	at := r.at
	r.at = min(at+2, len(r.s))
	switch quotes := r.s[at+1 : r.at]; quotes {
	case "":
		w.literal(at, `\`, false)
	case "\n":
	default:
		w.literal(at, quotes, true)
	}
}

// quotedBackslash reads a backslash that stands within `"`, where it quotes some bytes alone.
func (r *reader) quotedBackslash(w *row) {
	at := r.at
	r.at = min(at+2, len(r.s))
	switch quotes := r.s[at+1 : r.at]; quotes {
	case "\n":
	case "$", "`", `"`, `\`:
		w.literal(at, quotes, true)
	default:
		w.literal(at, `\`, true)
		r.at = at + 1
	}
}

// backquote reads nothing: what stands between backquotes is not of this language.
func (r *reader) backquote(*row) {
	r.fail(r.at, api.ErrBack)
}

// plain tells whether c is itself where the row is read.
func (w *row) plain(c byte) bool {
	switch c {
	case '$', '`', '\\', '"':
		return false
	case '\'':
		return w.quoted
	}
	return w.quoted || !w.ends(c)
}

// literal puts a text behind the literal ahead, or begins another one. The first byte that is told within `"` has that quote ahead of it.
func (w *row) literal(at int, text string, quoted bool) {
	if w.bare {
		at = w.quote
	}
	w.bare = false
	if w.lit.Kind != 0 && w.lit.Quoted != quoted {
		w.flush()
	}
	// Empty quotes ahead have told no byte: the place is that of the first one.
	if w.lit.Kind == 0 || len(w.text) == 0 && text != "" {
		w.lit = api.Part{Kind: api.PLit, At: at, Quoted: quoted}
	}
	w.text = append(w.text, text...)
}

// put puts a part that is no literal behind what is read.
func (w *row) put(p api.Part) {
	w.flush()
	w.bare = false
	w.parts = append(w.parts, p)
}

// flush ends the literal that is read.
func (w *row) flush() {
	if w.lit.Kind == 0 {
		return
	}
	w.lit.Text = string(w.text)
	w.parts = append(w.parts, w.lit)
	w.lit, w.text = api.Part{}, w.text[:0]
}
