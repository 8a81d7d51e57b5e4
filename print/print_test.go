package print

import (
	"reflect"
	"strings"
	"testing"

	"conch/api"
	"conch/probe"
	"conch/syntax"
)

// 11.1: the document's example, and what stands between the quotes.
func TestQuote(t *testing.T) {
	for _, x := range [][2]string{
		{"a", "'a'"}, {"", "''"}, {"'", `''\'''`}, {"''", `''\'''\'''`}, {"it's", `'it'\''s'`}, {"'a'", `''\''a'\'''`},
		{"a b", "'a b'"}, {"\n", "'\n'"}, {`\`, `'\'`}, {`\'`, `'\'\'''`}, {"$a`b`\"", "'$a`b`\"'"}, {"~", "'~'"}, {"\x00\xff", "'\x00\xff'"}, {"\u00e9", "'\u00e9'"},
	} {
		if got := Quote(x[0]); got != x[1] {
			t.Errorf("%q: %s", x[0], got)
		}
	}
}

// 11.1: of all short texts: what is quoted is read as the text, quoted, and without that nothing of it is changed.
func TestQuoteBack(t *testing.T) {
	probe.Texts(probe.Pieces("'\"\\$`\n ab~#{}(\x00\xff"), 4, func(s string) {
		got := Quote(s)
		w, to, e := syntax.Word(got, 0)
		want := []api.Part{{Kind: api.PLit, Quoted: true, Text: s}}
		if e != api.OK || to != len(got) || !reflect.DeepEqual(bare(w.Parts), want) {
			t.Fatalf("%q: %s", s, got)
		}
		n := strings.Count(s, "'")
		if len(got) != len(s)+2+3*n || strings.Join(strings.Split(got[1:len(got)-1], `'\''`), "'") != s {
			t.Fatalf("%q: %s", s, got)
		}
	})
}

// wordPieces are pieces of which words are made that are right or wrong.
var wordPieces = []string{"a", "1", "$", "'", "\"", "\\", "\n", "{", "}", "-", "#", "%", "(", ")", "~", ":", " "}

// 11.1, 11.2: all short texts that are words are told so that they are read as they were.
func TestShortWords(t *testing.T) {
	n := 0
	probe.Texts(wordPieces, 5, func(s string) {
		if checkWordBack(t, s) {
			n++
		}
	})
	if n < 100000 {
		t.Errorf("only %d words", n)
	}
}

// 11.1, 11.2: all short words of pieces that clash, within other things too.
func TestClashes(t *testing.T) {
	pieces := []string{"a", "1", "$", "$a", "$1", "\\\n", "''", "'b'", "\"", "\\$", "\\'", "${a", "-", "%", "#", "}", "\\"}
	for _, around := range [][2]string{{"", ""}, {"\"", "\""}, {"${x%", "}"}, {"${x#", "}"}, {"\"${x+", "}\""}, {"$(a ", ")"}, {"\"$(", ")\""}} {
		n := 0
		probe.Texts(pieces, 4, func(s string) {
			if checkWordBack(t, around[0]+s+around[1]) {
				n++
			}
		})
		if n < 8000 {
			t.Errorf("only %d words in %q", n, around[0])
		}
	}
}

// 11.1, 11.2: words, and what each part of them may be.
func TestWords(t *testing.T) {
	for _, s := range []string{
		"", "a", "\\\n", "a\\\nb", "a\\", "\\", "'a'\\", "$a\\", "$\\", "a$\\", "\\\n~", "\\\n~a", "\\\n\\\n~'b'", "#", "#a", "a#b", "'#a'", "if", "i\\\nf", "then", "in", "{", "}", "!", "[", "[!a-c]*?", "2", "12", "a=b", "a=", "=", "-", "\xff\x00", "\u00e9\u4e2d",
		"''", `""`, "''''", "''a", "a''", "a''b", "''$a", "$a''", "''$a''", "''\"$a\"''", "\"$a\"''\"$b\"", "''a''b''", "\"\\\n\"", "\"\\\n\"a",
		"'a b'", `"a b"`, `a\ b`, `\a\b`, `'$a'`, `"\$a"`, `\$a`, "\"\\`\"", "'`'", "\\`", `"'"`, `\'`, `'"'`, `\"`, `"'\""`, `"\'"`, `"\a"`, `"a\\"`, `"\\n"`, `'\'`, `\\`, "'\n'", "\"\n\"", "\"\\\n\n\"", `"~"`, `\~`, "'it'\\''s'",
		"$", "a$", "$\\\na", "$\\\n$", "$\\\n$a", "$\\\n$\\\n$", "$\\'", "$\\\n'a'", "$\\\n\"a\"", "$\\\n\"$a\"", "$\\a", "$\\\n{a}", "$\\\n1", "$\\\n_", "$\\\n@", "$\\\n*", "$\\\n#", "$\\\n?", "$\\\n!", "$\\\n-", "$=", "$%", "$.", "$/", "$}", "$~", "$:", "$\xff", `"$"`, `"$."`, `"a$"`, `"$ $ "`, "\"$\\\na\"", `"\$$a"`, `"$a\$"`, `"$a$"`, `"$\"$a"`,
		"$a", "${a}", "$a$b", "$a\\\nb", "${a}b", "${a}1", "${a}_", "${a}-", "$a=", "$a.b", "$a'b'", "$a\"b\"", "$a\\b", "$1", "${1}", "$10", "${10}", "${1}0", "${10}0", "${007}", "$0", "$@", "$*", "$#", "$?", "${@}", "${*}", "${#}", "${?}", "$@a", "$#a", "$?1", "$a[1]", "$a{b}",
		`"$a"`, `"${a}b"`, `"${a}"b`, `"$a"1`, `"$a"'b'`, `"$a'b'"`, `"$a"\b`, `"a$b c$d"`, `"a"$b`, `$a"$b"`, `"$a"$b`, `"$a""$b"`, `"$a$b"`, `'a'"$b"'c'`, `"a\\$b"`, `"a\b$c"`, `"$a\\"`, `"$a\\\\b"`, "\"$a\\`\"", `"$a\"b\""`, `"\"$a\""`, `"$10"`, `"${10}"`, `"$@"`,
		"${#a}", "${#10}", "${#_}", "${a-}", "${a:-}", "${a=}", "${a:=}", "${a?}", "${a:?}", "${a+}", "${a:+}", "${a%}", "${a%%}", "${a#}", "${a##}", "${1-b}", "${10:+b}", "${a-b c}", "${a:-'b}'}", "${a-\\}}", "${a-\"}\"}", "${a-$}", "${a-$\\\n}}", "${a-~}", "${a-#b}", "${a%\\\n%}", "${a%\\%}", "${a%'%'}", "${a%%%}", "${a#\\\n#}", "${a##\\\n#}", "${a###}", "${a%#}", "${a#%}", "${a%\\\n%%}", "${a--}", "${a-:}", "${a:--}", "${a:=:=}", "${a??}", "${a+}b", "\"${a-b}\"", "\"${a-'b'\"c d\"$e}\"", "\"${a-\"$b\"}c\"", "${a-${b-${c-d}}}", "${a-\n;|&()<>#~ $b}", "${a-\\\n}", "${a-''}", "\"${a-\"\"}\"", "${a#$b}", "${a#$\\\n#}", "${a%$b%}",
		"$()", "$(a)", "$( )", "$(a;b)", "$(a\n)", "$( (a))", "$( (a) )b", "$(\\\n(a))", "$( ( (a)))", "$({ a;})", "$(a)b", "\"$(a)\"", "\"$(a \"b c\")$d\"", "\"a$( (b))\"", "$(a)$(b)", "$(a $(b $(c)))", "${a-$(b)}", "$(${a-b})", "$(\"$a\")", "$(a>b)", "$(1 >b)", "$(>b)", "$(2>b)", "$(f() (a))", "$(if a;then b;fi)", "$(case a in b) c;; esac)", "$(case a in (b) c;; esac)", "$(! a)", "$(! (a))",
		"$((1))", "$(( a + 2 ))", "$(((1)))", "$((1))2", "\"$((1))\"", "\"a$((a))b\"", "$((1))$((2))", "$((\n1))", "${a-$((b))}", "$(( (1) * (2) ))",
	} {
		if !checkWordBack(t, s) {
			t.Errorf("%q is no word", s)
		}
	}
}

// 11.1: of what is told is told in few bytes: nothing is put that need not be.
func TestShortest(t *testing.T) {
	for _, x := range [][2]string{
		{`"a"`, `\a`}, {`"ab"`, "'ab'"}, {`\a\b\c`, "'abc'"}, {`'it'\''s'`, `"it's"`}, {`"it's \$a"`, "\"it's \\$a\""}, {`'$'"'"`, `\$\'`}, {"''", "''"},
		{"${a}", "$a"}, {"${a}b", "$a\\\nb"}, {"${a}-b", "$a-b"}, {`"$a"" b "'$c'"$d"`, `"$a b \$c$d"`}, {"a\\\nb", "ab"}, {"$(\na\n)", "$(a)"}, {"\"a\\\\b$c\"", `"a\b$c"`}, {`"a\$ b$c"`, `"a$ b$c"`},
	} {
		w, _, _ := syntax.Word(x[0], 0)
		if got := Word(w); got != x[1] {
			t.Errorf("%q: %q, not %q", x[0], got, x[1])
		}
	}
	for _, x := range [][2]string{
		{"", ""}, {" # a\n", ""}, {"a ; b\n\nc ;", "a;b;c"}, {"a && b || ! c | d", "a&&b||! c|d"}, {"a 1> b 0< c 2>> d", "a>b<c 2>>d"}, {"a 1 > b", "a 1 >b"}, {"a $b > c", "a $b>c"}, {"a 'b' > c", "a \\b>c"}, {"> 1 > 2 a", "a>1 >2"}, {"> a in", "in>a"}, {"a=1 if", "a=1 if"}, {"case a in (if) esac", "case a in if);;esac"}, {"( a )", "(a)"}, {"{ a\n}", "{ a;}"}, {"if a\nthen b\nelse if c\nthen d\nfi\nfi", "if a;then b;elif c;then d;fi"}, {"while a\ndo b\ndone", "while a;do b;done"}, {"for i\ndo a\ndone", "for i do a;done"}, {"for i in a b\ndo a\ndone", "for i in a b;do a;done"}, {"case a in\n( b | c ) d ; ;; esac", "case a in b|c)d;;esac"}, {"f ( )\n( a )", "f()(a)"}, {"a=1 b", "a=1 b"}, {"$( (a) )", "$( (a))"},
	} {
		if got := Cmd(parsed(t, x[0])); got != x[1] {
			t.Errorf("%q: %q, not %q", x[0], got, x[1])
		}
	}
}
