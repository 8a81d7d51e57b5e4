package syntax

import (
	"math/rand/v2"
	"reflect"
	"slices"
	"strings"
	"testing"
	"time"

	"conch/api"
	"conch/arith"
	"conch/lex"
	"conch/probe"
	"conch/text"
)

// tokens are pieces of which scripts are made that are right or wrong.
var tokens = []string{"a", "=", "1", " ", "\n", ";", "&", "|", "(", ")", "<", ">", "'", "\"", "\\", "$", "{", "}", "`", "~", "#", "!", "-", "if ", "then ", "fi", "case ", " in ", "esac", "for ", "do ", "done", "while ", "elif ", "else ", "$(", "${", "$((", "))", ";;", "&&", "||", "{ ", "; }", "()", "\\\n", "\x00", "\xff"}

// errors are those of this layer.
var errors = []api.Errno{api.ErrNul, api.ErrLong, api.ErrOpen, api.ErrDeep, api.ErrSyntax, api.ErrHere, api.ErrBack, api.ErrTilde, api.ErrAsync, api.ErrDollar}

// look goes through a tree and holds it against its script.
type look struct {
	*testing.T
	s string
}

// must tells what is wrong with the script.
func (l look) must(ok bool, what string, at int) {
	l.Helper()
	if !ok {
		l.Fatalf("%q: %s at %d", l.s, what, at)
	}
}

// begins tells whether one of some texts stands at at.
func (l look) begins(at int, texts ...string) bool {
	return at >= 0 && at <= len(l.s) && slices.ContainsFunc(texts, func(x string) bool { return strings.HasPrefix(l.s[at:], x) })
}

// word looks at a word: it is what Word tells there.
func (l look) word(w api.Word) int {
	again, to, e := Word(l.s, w.At)
	l.must(e == api.OK && reflect.DeepEqual(w, again), "a word is not as it is by itself", w.At)
	l.must(to > w.At, "a word of nothing", w.At)
	l.must(to == len(l.s) || lex.Ends(l.s[to]), "a word goes on", to)
	l.parts(w.Parts, w.At, to)
	return to
}

// parts looks at parts that stand between two places.
func (l look) parts(parts []api.Part, from, to int) {
	for i, p := range parts {
		l.must(p.At >= from && p.At < to, "a part elsewhere", p.At)
		from = p.At + 1
		l.must(p.Kind == api.PLit || l.s[p.At] == '$', "no $ of a part", p.At)
		switch p.Kind {
		case api.PLit:
			l.must(i == 0 || parts[i-1].Kind != api.PLit || parts[i-1].Quoted != p.Quoted, "two literals for one", p.At)
			l.must(p.Quoted || p.Text != "", "an empty literal", p.At)
			c := l.s[p.At]
			l.must(p.Text == "" || l.begins(p.At, p.Text[:1]) || p.Quoted && strings.IndexByte("'\"\\", c) >= 0, "a literal elsewhere", p.At)
		case api.PVar:
			special := len(p.Name) == 1 && strings.Contains("@*#?", p.Name)
			_, number := text.Number(p.Name)
			l.must(text.Name(p.Name) || number || special && p.Op == api.VPlain, "a name", p.At)
			l.parts(p.Arg, p.At+1, to)
		case api.PCmd:
			l.must(len(p.Body) == 1, "a body", p.At)
			l.list(p.Body[0], true)
		case api.PSum:
			l.must(l.begins(p.At, "$(("+p.Text+"))"), "another sum", p.At)
			_, _, e := arith.Parse(p.Text)
			l.must(e == api.OK, "a wrong sum", p.At)
		default:
			l.must(false, "another kind", p.At)
		}
	}
}

// list looks at a KSeq.
func (l look) list(c api.Cmd, empty bool) {
	l.must(c.Kind == api.KSeq && (len(c.Subs) > 0 || empty), "no list", c.At)
	if len(c.Subs) == 0 {
		l.must(c.At == 0, "an empty list elsewhere", c.At)
		return
	}
	l.must(c.At == c.Subs[0].At, "a list elsewhere", c.At)
	from := -1
	for _, x := range c.Subs {
		l.must(x.At > from && x.Kind != api.KSeq, "no rising commands", x.At)
		from = x.At
		l.cmd(x)
	}
}

// lists looks at as many lists.
func (l look) lists(c api.Cmd, n int) {
	l.must(len(c.Subs) == n, "another number of lists", c.At)
	for _, x := range c.Subs {
		l.list(x, false)
	}
}

// cmd looks at a command.
func (l look) cmd(c api.Cmd) {
	for _, r := range c.Redirs {
		sign := r.At + digitsLen(l.s[r.At:])
		l.must(l.begins(sign, []string{"?", "<", ">", ">>"}[r.Kind]) && r.Target.At > sign, "a redirection elsewhere", r.At)
		l.word(r.Target)
	}
	from := -1
	for _, w := range c.Words {
		l.must(w.At > from, "words that overlap", w.At)
		from = l.word(w) - 1
	}
	for _, a := range c.Assigns {
		l.must(text.Name(a.Name) && l.s[a.At] == a.Name[0] && (len(c.Words) == 0 || a.At < c.Words[0].At), "an assignment elsewhere", a.At)
		// What is left of the first part keeps the place of that, where the name stands.
		if len(a.Value) > 0 && a.Value[0].At == a.At {
			l.must(a.Value[0].Kind == api.PLit && !a.Value[0].Quoted && a.Value[0].Text != "", "a rest", a.At)
			a.Value = a.Value[1:]
		}
		l.parts(a.Value, a.At+len(a.Name), len(l.s))
	}
	switch c.Kind {
	case api.KSimple:
		l.must(len(c.Words)+len(c.Assigns)+len(c.Redirs) > 0, "nothing", c.At)
	case api.KPipe:
		l.must(len(c.Subs) > 1 || c.Not && len(c.Subs) == 1, "no pipeline", c.At)
		l.must(c.Not == (l.begins(c.At, "!") && c.At != c.Subs[0].At), "a Not", c.At)
		for _, x := range c.Subs {
			l.must(x.Kind == api.KSimple || x.Kind >= api.KSub, "no command in a row", x.At)
			l.cmd(x)
		}
	case api.KAnd, api.KOr:
		l.must(len(c.Subs) == 2 && c.At == c.Subs[0].At && c.Subs[1].Kind != api.KAnd && c.Subs[1].Kind != api.KOr, "no two", c.At)
		l.cmd(c.Subs[0])
		l.cmd(c.Subs[1])
	case api.KSub:
		l.must(l.begins(c.At, "("), "a command elsewhere", c.At)
		l.lists(c, 1)
	case api.KGroup:
		l.must(l.begins(c.At, "{"), "a command elsewhere", c.At)
		l.lists(c, 1)
	case api.KIf:
		l.must(l.begins(c.At, "if", "elif"), "a command elsewhere", c.At)
		l.lists(c, 2+min(1, max(0, len(c.Subs)-2)))
	case api.KWhile, api.KUntil:
		l.must(l.begins(c.At, []string{"while", "until"}[c.Kind-api.KWhile]), "a command elsewhere", c.At)
		l.lists(c, 2)
	case api.KFor:
		l.must(l.begins(c.At, "for") && text.Name(c.Name) && (c.In || c.Words == nil), "a command elsewhere", c.At)
		l.lists(c, 1)
	case api.KCase:
		l.must(l.begins(c.At, "case") && len(c.Words) == 1, "a command elsewhere", c.At)
		for _, i := range c.Items {
			l.must(len(i.Pats) > 0, "an item of nothing", c.At)
			for _, w := range i.Pats {
				l.word(w)
			}
			l.list(i.Body, true)
		}
	case api.KFunc:
		l.must(l.begins(c.At, c.Name[:1]) && text.Name(c.Name) && !lex.Reserved(c.Name) && len(c.Subs) == 1 && c.Subs[0].Kind >= api.KSub && c.Subs[0].Kind < api.KFunc, "a function", c.At)
		l.cmd(c.Subs[0])
	default:
		l.must(false, "another kind", c.At)
	}
}

// checkWhole holds a text against what is promised of all: it is one script, or one error tells why not.
func checkWhole(t *testing.T, s string) bool {
	t.Helper()
	l := look{t, s}
	c, at, e := Parse(s)
	if e != api.OK {
		l.must(slices.Contains(errors, e) && at >= 0 && at <= len(s) && reflect.DeepEqual(c, api.Cmd{}), "error "+e.Error(), at)
		return false
	}
	l.must(at == 0, "a place", at)
	l.list(c, true)
	return true
}

// 10.5, 10.6: texts of a few pieces, right and wrong.
func TestWhole(t *testing.T) {
	right := 0
	probe.Texts(tokens, 3, func(s string) {
		if checkWhole(t, s) {
			right++
		}
	})
	if right < 5000 {
		t.Error("only", right, "scripts")
	}
	probe.Texts(probe.Pieces("a ;(){\n$"), 6, func(s string) { checkWhole(t, s) })
	for c := range 256 {
		for d := range 256 {
			checkWhole(t, string([]byte{byte(c), byte(d)}))
		}
	}
}

// 10.5, 10.6: longer texts of the same pieces, and scripts in which a few bytes are changed.
func TestChanged(t *testing.T) {
	r := rand.New(rand.NewPCG(10, 5))
	for range 50000 {
		var s []string
		for range r.IntN(30) {
			s = append(s, tokens[r.IntN(len(tokens))])
		}
		checkWhole(t, strings.Join(s, ""))
	}
	right := 0
	for n := range 10000 {
		m := &maker{Rand: r}
		m.list(false)
		for range 1 + n%3 {
			at, end := r.IntN(len(m.out)+1), 0
			if end = min(at+r.IntN(3), len(m.out)); n%2 == 0 {
				end = at
			}
			m.out = slices.Replace(m.out, at, end, []byte(tokens[r.IntN(len(tokens))])...)
		}
		if checkWhole(t, string(m.out)) {
			right++
		}
	}
	if right < 1000 || right > 9000 {
		t.Error(right, "scripts")
	}
}

// 10.6: Word at each place of each text, and far from it.
func TestWordAnywhere(t *testing.T) {
	check := func(s string) {
		for at := -1; at <= len(s)+1; at++ {
			w, to, e := Word(s, at)
			l := look{t, s}
			held := min(max(at, 0), len(s))
			if e != api.OK {
				l.must(slices.Contains(errors[2:], e) && to >= held && to <= len(s) && reflect.DeepEqual(w, api.Word{}), "error "+e.Error(), to)
				continue
			}
			l.must(w.At == held && to >= held && to <= len(s) && (to == len(s) || lex.Ends(s[to])), "a word", to)
			l.parts(w.Parts, held, to)
		}
	}
	probe.Texts(tokens, 2, check)
	r := rand.New(rand.NewPCG(10, 7))
	for range 1000 {
		m := &maker{Rand: r}
		m.list(false)
		check(string(m.out))
	}
}

// spoil writes over all of a tree's memory, spare room too, as far as it can be reached.
func spoil(v reflect.Value) {
	switch v.Kind() {
	case reflect.Slice:
		v = v.Slice(0, v.Cap())
		for i := range v.Len() {
			spoil(v.Index(i))
		}
	case reflect.Struct:
		for i := range v.NumField() {
			spoil(v.Field(i))
		}
	case reflect.String:
		v.SetString("spoilt")
	case reflect.Int:
		v.SetInt(-7)
	case reflect.Bool:
		v.SetBool(!v.Bool())
	}
}

// W2: the same is answered again, whatever is done with what was answered; no two lists share memory.
func TestAgain(t *testing.T) {
	for _, s := range []string{"", "a", "a=b'c'$d e >f", "a=${b-c d}$e", "a && b || c | ! d", "if a; then b; elif c; then d; else e; fi >f", "case a in b|c) d;; e) esac", "f() { for i in a b; do c; done; }", "a \"$(b; c $(d))\" $((1)) ${e%f}", "while a; do b; done", "a |", "$$"} {
		want := withPlaces.script(s)
		first, _, _ := Parse(s)
		second, _, _ := Parse(s)
		spoil(reflect.ValueOf(&first).Elem())
		if got := withPlaces.cmd(second); got != want && second.Kind != 0 {
			t.Errorf("%q: %s, not %s", s, got, want)
		}
		if got := withPlaces.script(s); got != want {
			t.Errorf("%q: %s, not %s", s, got, want)
		}
		word := withPlaces.first(s, 0)
		w, _, _ := Word(s, 0)
		spoil(reflect.ValueOf(&w).Elem())
		if got := withPlaces.first(s, 0); got != word {
			t.Errorf("Word of %q: %s, not %s", s, got, word)
		}
	}
}

// lists tells where the memory of each list of a tree begins and ends, its spare room too.
func lists(v reflect.Value, tell func(begin, end uintptr)) {
	switch v.Kind() {
	case reflect.Slice:
		if v.Cap() > 0 {
			tell(v.Pointer(), v.Pointer()+uintptr(v.Cap())*v.Type().Elem().Size())
		}
		for i := range v.Len() {
			lists(v.Index(i), tell)
		}
	case reflect.Struct:
		for i := range v.NumField() {
			lists(v.Field(i), tell)
		}
	}
}

// W2: no two lists of one answer share memory.
func TestApart(t *testing.T) {
	r := rand.New(rand.NewPCG(10, 8))
	for range 500 {
		m := &maker{Rand: r}
		m.list(false)
		c, _, e := Parse(string(m.out))
		if e != api.OK {
			t.Fatal(e)
		}
		var l [][2]uintptr
		lists(reflect.ValueOf(c), func(begin, end uintptr) { l = append(l, [2]uintptr{begin, end}) })
		slices.SortFunc(l, func(a, b [2]uintptr) int { return int(int64(a[0]) - int64(b[0])) })
		for i := 1; i < len(l); i++ {
			if l[i][0] < l[i-1][1] {
				t.Fatalf("%q: two lists share memory", m.out)
			}
		}
	}
}

// W7: long texts end: scripts up to their bound, words of any length.
func TestLong(t *testing.T) {
	done := make(chan bool)
	go func() {
		defer close(done)
		for _, x := range append(tokens, "a ", "a;", "a\n", "a|", "a&&", "! ", "a=b ", ">a ", "2>a ", "(a);", "((", "f()", "f() (", "{ a;", "if a;then b;else ", "elif a;then b;", "case a in b) ", "b) c;;", "for i in ", "while a;do ", "$a", "$(a) ", "$(a", "$(a;", "${a}", "${a-", "${a-b}", "$((1))", "\"\"", "''", "'a'", "\"a\"", "\\a", "\"a", "\"$(", "a\\\n", "# a\n", "9", "00", "$((1+", "\"${a-") {
			for _, ahead := range []string{"", "a ", "case a in ", "$(", "\"", strings.Repeat("$(a ", 19)} {
				s := ahead + strings.Repeat(x, api.MaxScript/len(x))
				Parse(s[:min(len(s), api.MaxScript)])
				Word(strings.Repeat(s, 2), 0)
				Word(s, len(ahead))
			}
		}
		Word(strings.Repeat("\\a", 1<<21), 0)
		Word(strings.Repeat("'a'b", 1<<20), 0)
		Word("$("+strings.Repeat("(a)&&", 1<<19)+"b)", 0)
	}()
	select {
	case <-done:
	case <-time.After(20 * time.Second):
		t.Fatal("no end")
	}
}
