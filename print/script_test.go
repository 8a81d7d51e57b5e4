package print

import (
	"math/rand/v2"
	"strings"
	"testing"

	"conch/api"
	"conch/probe"
	"conch/syntax"
)

// tokens are pieces of which scripts are made that are right or wrong.
var tokens = []string{"a", "1", "in", "a=", "'", "\\\n", "\\", " ", "\n", ";", "&&", "||", "|", "(", ")", "<", ">", "2>", "! ", "if ", "then ", "else ", "elif ", "fi", "while ", "do ", "done", "for ", "case ", "esac", ";;", "{ ", "}", "$"}

// 11.1, 11.2: all short texts that are scripts are told so that they are read as they were.
func TestShortScripts(t *testing.T) {
	n := 0
	probe.Texts(tokens, 4, func(s string) {
		if checkBack(t, s) {
			n++
		}
	})
	if n < 100000 {
		t.Errorf("only %d scripts", n)
	}
}

// 11.1, 11.2: scripts of few tokens behind a beginning that asks for more.
func TestShortCommands(t *testing.T) {
	for _, x := range []struct{ around, tokens string }{
		{"if ^fi", "a; (a) then_ else_ elif_ fi; ! | in"},
		{"if a;then ^fi", "b; (b) else_ elif_c;then_ if_ fi; >x"},
		{"while ^done", "a; (a) do_ done; | in"},
		{"for i ^ done", "in a do_ ; 1 if $b ''"},
		{"for ^ a;done", "in do ; if 1 _"},
		{"case a in ^esac", "( a | ) ;; esac if ;"},
		{"case ^ esac", "in a if 1 esac _ ) ("},
		{"f() ^", "{_ a; } ( ) >x <y"},
		{"^", "a=1 b c=2 >x 2>y if 1 f() {_ }"},
		{"(^)", "a 1 >x <1 2<2 b=3 ; _"},
		{"a $(^)", "( ) a ; | ! >x b="},
		{">x ^", "if a= b\\ 1 >1 in {"},
		{"a >x 1 ^ b\\", "a= >1 2>2 c\\ 3"},
	} {
		n := 0
		for _, gap := range []string{"", " "} {
			pieces := strings.Fields(x.tokens)
			for i, p := range pieces {
				pieces[i] = strings.ReplaceAll(p, "_", " ") + gap
			}
			probe.Texts(pieces, 5, func(s string) {
				if checkBack(t, strings.Replace(x.around, "^", s, 1)) {
					n++
				}
			})
		}
		if n < 100 {
			t.Errorf("%q: only %d scripts", x.around, n)
		}
	}
}

// 11.1, 11.2: scripts, and what each command of them may be.
func TestScripts(t *testing.T) {
	for _, s := range []string{
		"", "\n", "# a", "a", "a;", "a;b", "a\nb\n", "a b c", "a\\\n b", "a 'b c' \"$d\"", "\\a", "''", "'' ''", "a\\", "a b\\", "a;b\\", "a|b\\", "a&&b\\", "! a\\", "$a\\", "''\\", "$\\",
		"a=1", "a=", "a= b=", "a=1 b=$c d", "a='b c'd", "a=~", "a=~b:~c", "a=#", "a=b=c", "a= b=c d=e", "a b=c", "'a'=b", "a\\\n=b", "\\\na=b", "a=\\\n~", "a=$b'c'", "if=1", "in=1", "a=\\", "a=b\\", "a=b c\\", "a=$b\\", "1=2", "a-b=c", "=", "a$b=c", "a=1 if", "a=1 >x if", "_=\"$a\"",
		"a>b", "a >b", "a 2>b", "a 1>b", "a 0<b", "a 0>b", "a 1<b", "a 9>>b", "a>>b", "a 1>>b", "a<b>c>>d", ">a", "2>a", ">a b", "2>a b", ">a b=c", "a=b>c", "a>b=c", ">if", ">a if", ">a if>b", ">a in", ">1", ">1 >2", ">1 2>2", ">1 2", "1 >2", "1>2", "1\\\n>2", "a 1 >2", "a 1\\\n>2", "a 1 2 >3", "12 >a", "12\\\n2>a", "a1>2", "a=1>2", "'1'>2", "1''>2", "$a>2", "1$a>2", ">$a", ">\"$a\"", "> 'a b'c", ">''", "2>$a", ">$(a)", ">$((1))b", ">a\\", ">a\\\n\\", "a>b\\", "a=1>b\\", ">a b\\", ">a b=c\\", ">a >b c\\", "2>a b\\", ">1 a\\", ">a >b\\", "a >b c>d\\", "00>a", "003>a", "a 2>b 1<c",
		"i\\\nf", "i\\\nf a", "i\\\nf>a", "t\\\nhen", "{\\\n", "}\\\n", "!\\\n", "{\\\n a", "!\\\n a", "{a", "a {", "a }", "a !", "a if", "a then", "a done", "'if'", "i'f'", "\\if", "if\\", "if''", "if$a", "{$a", "!$a", "in", "in a", "i\\\nn", "a|i\\\nf", "a&&i\\\nf", "! i\\\nf", "(i\\\nf)", "{ i\\\nf;}", "a|in",
		"a|b", "a|b|c", "a|\nb", "! a", "! a|b", "! (a)", "!(a)", "! >x", "! a&&! b", "a&&b", "a||b", "a&&b||c&&d", "a&&b|c||! d|e;f", "a&&\n\nb", "a>b|c>d", "a|>b", "a|(b)", "(a)|b", "(a)|(b)", "a|{ b;}|c", "a|if b;then c;fi|d", "a|f() (b)",
		"(a)", "( a )", "(a;b)", "(a\n)", "((a))", "( (a) )", "((a);(b))", "(((a)))", "(a)>b", "(a) 2>b", "(a)2>b", "(a)>b<c", "(a)>b 2>c", "(a)>1 >2", "(a)>b\\", "(! a)", "(a&&b)", "(a|b)", "{ a;}", "{ a\n}", "{ (a)}", "{ (a) }", "{(a)}", "{ { a;};}", "{ { a;} }", "{ a;}>b", "{ a;} 2>b", "{ (a)>b;}", "{ a>b;}", "{ ! a;}", "{ a;}>b\\", "{ }\\\n;}", "({ a;})", "{(a);}",
		"if a;then b;fi", "if a\nthen b\nfi", "if a;then b;else c;fi", "if a;then b;elif c;then d;fi", "if a;then b;elif c;then d;else e;fi", "if a;then b;elif c;then d;elif e;then f;else g;fi>h", "if a;then b;else if c;then d;fi;fi", "if a;then b;else if c;then d;fi>x;fi", "if a;then b;else if c;then d;fi>x;fi>y", "if a;then b;else ! if c;then d;fi;fi", "if a;then b;else if c;then d;fi;e;fi", "if a;then b;else if c;then d;fi|e;fi", "if a;then b;else (if c;then d;fi);fi", "if a;then b;else if c;then d;elif e;then f;fi>x;fi", "if a;then b;elif c;then d;else if e;then f;fi>x;fi", "if (a) then (b) fi", "if(a)then(b)else(c)fi", "if ! a;then b;fi", "if a;b;then c;d;fi", "if if a;then b;fi;then c;fi", "if a;then if b;then c;fi;fi", "if a;then b;fi>x 2>y", "if a;then b;fi|c", "if a>b;then c>d;fi", "if a then;then b fi;fi",
		"while a;do b;done", "until a;do b;done", "while a;b;do c;d;done>e", "while ! a;do b;done", "while (a) do (b) done", "while while a;do b;done;do c;done", "until a|b;do c&&d;done<e", "while a do;do b done;done",
		"for i do a;done", "for i;do a;done", "for i\ndo a;done", "for i in;do a;done", "for i in\ndo a;done", "for i in a;do b;done", "for i in a $b 'c d' \"$e\";do f;done", "for i in a\ndo b;done>c", "for i in 1 2;do a;done", "for i in do done;do a;done", "for i in in;do a;done", "for in in in;do a;done", "for in do a;done", "for do do a;done", "for do in do;do a;done", "for if in if;do a;done", "for i in a=b;do a;done", "for i in \\\n;do a;done", "for i in ''\ndo a;done", "for i do for j do a;done;done", "for _ in {;do a;done",
		"case a in esac", "case a in b) ;; esac", "case a in b) esac", "case a in b) c;; esac", "case a in b) c; esac", "case a in (b) c;; esac", "case a in b|c|d) e;f;; g) ;; 'h i') j;; esac", "case in in in) in;; esac", "case if in if\\\n) a;; esac", "case esac in (esac) a;; esac", "case a in b|esac) c;; esac", "case a in e\\\nsac) b;; esac", "case a in 'esac') b;; esac", "case a in (if) b;; esac", "case a in (then|if) b;; esac", "case $a in \"$b\") c;; esac", "case 'a b' in *) c;; esac", "case a in [!b-c]*|?) d;; esac", "case 1 in 1) a;; 2) b;; esac>3", "case a in b) (c) esac", "case a in b) c>d;; esac 2>e", "case a in b) case c in d) ;; esac;; esac", "case '' in '') ;; esac", "case a in (b) (c);; (d) e;; esac", "case a\nin\nb)\nc\n;;\nesac", "case a in b) ! c;; esac",
		"f() { a;}", "f()(a)", "f ( ) ( a )", "f()\n\n{ a;}", "f() (a)>b", "f() (a)>b;c", "f() { a;} 2>b", "f() if a;then b;fi", "f() for i do a;done", "f() case a in esac", "f() while a;do b;done", "f() { g() (a);}", "f() (a)|b", "! f() (a)", "fo\\\no() (a)", "f()((a))", "iff() (a)", "_() (a)", "f() (a)>b\\", "a&&f() (b)",
		"a $(b)", "a $( )", "$(a;b)", "$( (a) )", "$( (a);b)", "\"$( (a))\"", "$(a>b)", "a$(b)c>$(d)", "$(f() (a))", "a \"$(b \"$(c \"$d\")\")\"", "a=$(b) c", "a ${b-c d} \"${e-'f'}\"", "a ${b-#} ${c- } ${d-\n}", "a $((1 + 2)) $(((1)))", "$((1))", "a$((1))b",
	} {
		if !checkBack(t, s) {
			t.Errorf("%q is no script", s)
		}
	}
}

// maker makes texts that are scripts, most of them, by numbers that are the same each time.
type maker struct {
	*rand.Rand
	depth, things int
}

// some tells one of several texts.
func (m *maker) some(l ...string) string { return l[m.IntN(len(l))] }

// bytes tells a few bytes of a pool.
func (m *maker) bytes(pool string) string {
	var b []byte
	for range 1 + m.IntN(4) {
		b = append(b, pool[m.IntN(len(pool))])
	}
	return string(b)
}

// many tells some things one behind the other.
func (m *maker) many(most int, sep string, f func() string) string {
	var l []string
	for range 1 + m.IntN(most) {
		l = append(l, f())
	}
	return strings.Join(l, sep)
}

// deeper tells what f does, or plain, where so much is around, or made, that nothing more is begun which may grow.
func (m *maker) deeper(f func() string, plain string) string {
	if m.depth > 5 || m.things > 20 {
		return plain
	}
	m.depth++
	m.things++
	defer func() { m.depth-- }()
	return f()
}

// expansion tells what a `$` begins.
func (m *maker) expansion() string {
	name := m.some("a", "x_1", "10", "7")
	switch m.IntN(6) {
	case 0:
		return "$" + m.some("a", "x_1", "_", "7", "@", "*", "#", "?", "{10}", "{a}", "{#a}", "{#10}")
	case 1:
		return "$((" + m.some("1", " a + 2 ", "(1)*(a)", "\n!b", "(1)") + "))"
	case 2:
		return m.deeper(func() string { return "$(" + m.some("", " ", "\n") + m.list() + ")" }, "$()")
	}
	op := m.some("-", "=", "?", "+", ":-", ":=", ":?", ":+", "%", "%%", "#", "##")
	return m.deeper(func() string { return "${" + name + op + m.some("", "\\\n") + m.arg() + "}" }, "$a")
}

// arg tells what may stand behind an operator.
func (m *maker) arg() string {
	if m.IntN(5) == 0 {
		return ""
	}
	return m.many(4, "", func() string { return m.some(m.piece(), m.bytes(" \n;|&()<>#~%-ab")) })
}

// piece tells a piece of a word.
func (m *maker) piece() string {
	switch m.IntN(9) {
	case 0, 1:
		return m.bytes("ab1_-=%+:/@*?!{#~,.\xff")
	case 2:
		return "'" + m.bytes("ab1 \n;|&()<>#~$`\"\\{}!*") + "'"
	case 3:
		return "\\" + m.bytes("ab1 ;|&()<>#~$`'\"\\{}!*\n")[:1]
	case 4:
		return "\"" + m.many(4, "", func() string {
			return m.some(m.bytes("ab1_ \n;|&()<>#~'{}!*"), "\\"+m.bytes("ab1'$`\"\\\n}")[:1], m.expansion(), m.expansion(), "$", "")
		}) + "\""
	case 5:
		return m.some("''", "\"\"", "$", "\\\n", "$\\\n")
	}
	return m.expansion()
}

// word tells a word.
func (m *maker) word() string {
	if m.IntN(3) == 0 {
		return m.some("a", "b", "1", "22", "if", "in", "do", "esac", "{", "}", "!", "a=b", "f", "i\\\nf")
	}
	return m.some("", "a", "-") + m.many(3, "", m.piece)
}

// redir tells a redirection.
func (m *maker) redir() string {
	return m.some("", "", "", "0", "1", "2", "09") + m.some("<", ">", ">>") + m.word()
}

// simple tells a simple command.
func (m *maker) simple() string {
	if m.IntN(8) == 0 {
		return m.some("f()", "_ () ") + m.own()
	}
	return m.many(2, " ", func() string {
		return m.some(m.word(), m.word(), m.redir(), m.some("a=", "b_1=")+m.many(2, "", m.piece), "c")
	}) + m.some("", "", " "+m.redir(), m.redir(), " "+m.word())
}

// own tells a command that has an end of its own.
func (m *maker) own() string {
	return m.deeper(func() string {
		s := ""
		switch m.IntN(6) {
		case 0:
			s = "(" + m.list() + ")"
		case 1:
			s = "{ " + m.list() + ";}"
		case 2:
			s = "if " + m.list() + ";then " + m.list() + ";" + m.some("", "else "+m.list()+";", "elif "+m.list()+";then "+m.list()+";", "else if "+m.list()+";then "+m.list()+";fi"+m.some("", " "+m.redir())+";") + "fi"
		case 3:
			s = m.some("while ", "until ") + m.list() + ";do " + m.list() + ";done"
		case 4:
			s = "for " + m.some("i", "in", "do", "if") + m.some(" ", ";", " in;", " in "+m.many(3, " ", m.word)+";") + "do " + m.list() + ";done"
		default:
			s = "case " + m.word() + " in " + m.some("", m.many(3, ";;", func() string {
				return m.some("", "(") + m.many(2, "|", m.word) + ")" + m.some("", m.list())
			})+m.some(";;", ";;", "\n")) + "esac"
		}
		return s + m.some("", "", m.redir(), " "+m.redir()+" "+m.redir())
	}, "(a)")
}

// list tells a list.
func (m *maker) list() string {
	return m.many(2, m.some(";", "\n", "&&", "||", "|", ";! "), func() string {
		if m.IntN(2) == 0 {
			return m.simple()
		}
		return m.own()
	})
}

// 11.1, 11.2: scripts of all things one in the other, and words.
func TestMade(t *testing.T) {
	scripts, words := 0, 0
	for n := range 30000 {
		m := &maker{Rand: rand.New(rand.NewPCG(11, uint64(n)))}
		if checkBack(t, m.list()+m.some("", "", "", "\\")) {
			scripts++
		}
		if checkWordBack(t, m.word()+m.some("", "", "", "\\")) {
			words++
		}
	}
	if scripts < 5000 || words < 15000 {
		t.Errorf("only %d scripts and %d words", scripts, words)
	}
}

// 11.1: the words of a script can be told alone, and its lists.
func TestOfScripts(t *testing.T) {
	var word func(w api.Word)
	var parts func(l []api.Part)
	var command func(c api.Cmd)
	n := 0
	word = func(w api.Word) {
		n++
		x := Word(w)
		v, to, e := syntax.Word(x, 0)
		if e != api.OK || to != len(x) || !sameWords(v, w) {
			t.Fatalf("%q: %d at %d", x, e, to)
		}
		parts(w.Parts)
	}
	parts = func(l []api.Part) {
		for _, p := range l {
			parts(p.Arg)
			for _, c := range p.Body {
				command(c)
			}
		}
	}
	command = func(c api.Cmd) {
		if c.Kind == api.KSeq {
			n++
			x := Cmd(c)
			d, at, e := syntax.Parse(x)
			if e != api.OK || !Same(c, d) {
				t.Fatalf("%q: %d at %d", x, e, at)
			}
		}
		for _, w := range c.Words {
			word(w)
		}
		for _, a := range c.Assigns {
			parts(a.Value)
		}
		for _, r := range c.Redirs {
			word(r.Target)
		}
		for _, x := range c.Subs {
			command(x)
		}
		for _, i := range c.Items {
			for _, w := range i.Pats {
				word(w)
			}
			command(i.Body)
		}
	}
	for n := range 3000 {
		m := &maker{Rand: rand.New(rand.NewPCG(12, uint64(n)))}
		if c, _, e := syntax.Parse(m.list()); e == api.OK {
			command(c)
		}
	}
	if n < 10000 {
		t.Errorf("only %d words and lists", n)
	}
}

// sameWords tells whether two words are the same, by Same.
func sameWords(a, b api.Word) bool {
	return Same(api.Cmd{Words: []api.Word{a}}, api.Cmd{Words: []api.Word{b}})
}
