package syntax

import (
	"math"
	"regexp"
	"strconv"
	"strings"
	"testing"

	"conch/api"
	"conch/lex"
	"conch/probe"
)

// 10.1: where a word ends.
func TestWordEnds(t *testing.T) {
	checkWords(t, withPlaces, []pair{
		{"", "0:[] to 0"},
		{" a", "0:[] to 0"},
		{"ab", "0:[0:'ab'] to 2"},
		{"ab cd", "0:[0:'ab'] to 2"},
		{"a\\ b c", "0:[0:'a' 1:\"' ' 3:'b'] to 4"},
		{"a' 'b c", "0:[0:'a' 1:\"' ' 4:'b'] to 5"},
		{"a\" \"b c", "0:[0:'a' 1:\"' ' 4:'b'] to 5"},
		{"${a- }b c", "0:[0:$a-(4:' ') 6:'b'] to 7"},
		{"$( a )b c", "0:[0:%3:Q{3:S{3:[3:'a']}} 6:'b'] to 7"},
		{"$((1 + 2))b c", "0:[0:#1 + 2# 10:'b'] to 11"},
		{"a\\\n b", "0:[0:'a'] to 3"},
		{"\\\n", "0:[] to 2"},
		{"#a", "0:[0:'#a'] to 2"},
		{"a#b", "0:[0:'a#b'] to 3"},
		{"a{b}!=~[x]*?,:/%^+-@\x00\xff\u00e9", "0:[0:'a{b}!=~[x]*?,:/%^+-@\x00\xff\u00e9'] to 24"},
	})
	for c := range 256 {
		s := "a" + string([]byte{byte(c)}) + "b"
		if _, to, e := Word(s, 0); e == api.OK && (to == 1) != lex.Ends(byte(c)) {
			t.Errorf("%q ends at %d", s, to)
		}
	}
}

// 10.1: what is quoted, and what is one part.
func TestLiterals(t *testing.T) {
	checkWords(t, withPlaces, []pair{
		{"'a'", "0:[0:\"'a'] to 3"},
		{"'a'b", "0:[0:\"'a' 3:'b'] to 4"},
		{"a'b'", "0:[0:'a' 1:\"'b'] to 4"},
		{"'a''b'", "0:[0:\"'ab'] to 6"},
		{"'a'\"b\"\\c", "0:[0:\"'abc'] to 8"},
		{"\\a'b'", "0:[0:\"'ab'] to 5"},
		{"\\ab", "0:[0:\"'a' 2:'b'] to 3"},
		{"a\\bc", "0:[0:'a' 1:\"'b' 3:'c'] to 4"},
		{"'\\'", "0:[0:\"'\\'] to 3"},
		{"'\\\n'", "0:[0:\"'\\\n'] to 4"},
		{"'\"$a`#'", "0:[0:\"'\"$a`#'] to 7"},
		{"\"'\"", "0:[0:\"'''] to 3"},
		{"\"\\'\"", "0:[0:\"'\\''] to 4"},
		{"\\'a", "0:[0:\"''' 2:'a'] to 3"},
		{"\\\"a", "0:[0:\"'\"' 2:'a'] to 3"},
		{"\\`\\$a\\\\", "0:[0:\"'`$' 4:'a' 5:\"'\\'] to 7"},
		{"\\#\\~", "0:[0:\"'#~'] to 4"},
		{"\"a b\n;#)\"", "0:[0:\"'a b\n;#)'] to 9"},
		{"\"\\a\\ \\}\"", "0:[0:\"'\\a\\ \\}'] to 8"},
		{"\"\\$\\`\\\"\\\\\"", "0:[0:\"'$`\"\\'] to 10"},
		{"\"a\\\\\"b", "0:[0:\"'a\\' 5:'b'] to 6"},
		{"a\\", "0:[0:'a\\'] to 2"},
		{"\\", "0:[0:'\\'] to 1"},
		{"'a'\\", "0:[0:\"'a' 3:'\\'] to 4"},
		{"\\\\", "0:[0:\"'\\'] to 2"},
	})
}

// 10.1: a backslash with a line feed says nothing, and parts nothing.
func TestContinued(t *testing.T) {
	checkWords(t, withPlaces, []pair{
		{"a\\\nb", "0:[0:'ab'] to 4"},
		{"\\\nab", "0:[2:'ab'] to 4"},
		{"\\\n'a'", "0:[2:\"'a'] to 5"},
		{"'a'\\\n'b'", "0:[0:\"'ab'] to 8"},
		{"\"a\\\nb\"", "0:[0:\"'ab'] to 6"},
		{"\"\\\na\"", "0:[0:\"'a'] to 5"},
		{"\"\\\n\"", "0:[0:\"''] to 4"},
		{"\"$a\\\n\"", "0:[1:\"$a] to 6"},
		{"\"$a\\\nb\"", "0:[1:\"$a 5:\"'b'] to 7"},
		{"$\\\na", "0:[0:'$a'] to 4"},
		{"$a\\\nb", "0:[0:$a 4:'b'] to 5"},
		{"\\\\\\\na", "0:[0:\"'\\' 4:'a'] to 5"},
		{"\\\n~", "0:[2:'~'] to 3"},
		{"${a-\\\n}", "0:[0:$a-()] to 7"},
		{"${a#\\\n#}", "0:[0:$a#(6:'#')] to 8"},
	})
}

// 10.1: empty quotes.
func TestEmptyQuotes(t *testing.T) {
	checkWords(t, withPlaces, []pair{
		{"''", "0:[0:\"''] to 2"},
		{"\"\"", "0:[0:\"''] to 2"},
		{"''\"\"''", "0:[0:\"''] to 6"},
		{"a''b", "0:[0:'a' 1:\"'' 3:'b'] to 4"},
		{"''a''", "0:[0:\"'' 2:'a' 3:\"''] to 5"},
		{"''\"x\"", "0:[2:\"'x'] to 5"},
		{"\"\"\\x''", "0:[2:\"'x'] to 6"},
		{"\"x\"''", "0:[0:\"'x'] to 5"},
		{"$a''$b", "0:[0:$a 2:\"'' 4:$b] to 6"},
		{"''$a", "0:[0:\"'' 2:$a] to 4"},
		{"\"$a\"''", "0:[1:\"$a 4:\"''] to 6"},
		{"''\"$a\"", "0:[0:\"'' 3:\"$a] to 6"},
		{"\"$a\"", "0:[1:\"$a] to 4"},
		{"${a-''}", "0:[0:$a-(4:\"'')] to 7"},
		{"\"${a-}\"", "0:[1:\"$a-()] to 7"},
	})
}

// How what stands in a word without a `$` begins, and what is told one by one within `"`.
var (
	singleBy   = regexp.MustCompile(`^'[^']*'`)
	doubleBy   = regexp.MustCompile("^\"(?:[^\"\\\\`]|\\\\(?s:.))*\"")
	quotedBy   = regexp.MustCompile("\\\\[$`\"\\\\\\n]|(?s:.)")
	backquoted = regexp.MustCompile("^\"(?:[^\"\\\\`]|\\\\(?s:.))*`")
)

// insideBy tells what stands within the `"` that are all of s.
func insideBy(s string, at int) []api.Part {
	var l []api.Part
	for _, m := range quotedBy.FindAllStringIndex(s[1:len(s)-1], -1) {
		p := api.Part{Kind: api.PLit, At: at + 1 + m[0], Quoted: true, Text: s[1+m[0] : 1+m[1]]}
		if p.Text == "\\\n" {
			continue
		}
		if len(p.Text) == 2 {
			p.Text = p.Text[1:]
		}
		if l == nil {
			p.At = at
		}
		l = append(l, p)
	}
	if l == nil {
		l = append(l, api.Part{Kind: api.PLit, At: at, Quoted: true})
	}
	return l
}

// pieceBy tells what the first piece of s tells, and how long it is, or a fault at its place.
func pieceBy(s string, at int) ([]api.Part, int, api.Errno) {
	lit := func(n, skip, end int, quoted bool) ([]api.Part, int, api.Errno) {
		return []api.Part{{Kind: api.PLit, At: at, Quoted: quoted, Text: s[skip : n-end]}}, n, api.OK
	}
	switch m := doubleBy.FindString(s); {
	case m != "":
		return insideBy(m, at), len(m), api.OK
	case singleBy.MatchString(s):
		return lit(len(singleBy.FindString(s)), 1, 1, true)
	case backquoted.MatchString(s):
		return nil, len(backquoted.FindString(s)) - 1, api.ErrBack
	case s[0] == '`':
		return nil, 0, api.ErrBack
	case s[0] == '\'' || s[0] == '"':
		return nil, 0, api.ErrOpen
	case strings.HasPrefix(s, "\\\n"):
		return nil, 2, api.OK
	case s[0] == '\\' && len(s) > 1:
		return lit(2, 1, 0, true)
	}
	return lit(1, 0, 0, false)
}

// literalBy tells what Word is to tell of a text without a `$`.
func literalBy(s string) string {
	var l []api.Part
	to := 0
	for to < len(s) && strings.IndexByte(" \t\n;&|()<>", s[to]) < 0 {
		pieces, n, e := pieceBy(s[to:], to)
		if e != api.OK {
			return fault(to+n, e)
		}
		to += n
		for _, p := range pieces {
			last := len(l) - 1
			switch {
			case last < 0 || l[last].Quoted != p.Quoted:
				l = append(l, p)
			case p.Text != "" && l[last].Text == "":
				l[last] = p
			default:
				l[last].Text += p.Text
			}
		}
	}
	return withPlaces.word(api.Word{Parts: l}) + " to " + strconv.Itoa(to)
}

// 10.1, 10.2: short texts, as patterns tell them.
func TestShortWords(t *testing.T) {
	check := func(s string) {
		if got, want := withPlaces.first(s, 0), literalBy(s); got != want {
			t.Fatalf("Word of %q: %s, not %s", s, got, want)
		}
	}
	probe.Texts(probe.Pieces("a'\"\\\n `"), 6, check)
	probe.Texts([]string{"a", "b", "'", "\"", "\\", "\\\n", "''"}, 6, check)
}

// 10.1: places that a text has not are held within it.
func TestWordHeld(t *testing.T) {
	for _, s := range []string{"", "a", "ab cd", "'a b'", "a "} {
		for _, at := range []int{math.MinInt, -2, -1} {
			if got, want := withPlaces.first(s, at), withPlaces.first(s, 0); got != want {
				t.Errorf("Word of %q, %d: %s, not %s", s, at, got, want)
			}
		}
		n := strconv.Itoa(len(s))
		for _, at := range []int{len(s), len(s) + 1, 1 << 40, math.MaxInt} {
			if got, want := withPlaces.first(s, at), n+":[] to "+n; got != want {
				t.Errorf("Word of %q, %d: %s, not %s", s, at, got, want)
			}
		}
	}
	for at, want := range []string{"0:[0:'ab'] to 2", "1:[1:'b'] to 2", "2:[] to 2", "3:[3:\"'c d'] to 8", "4:[4:'c'] to 5", "5:[] to 5", "error 4 at 7", "error 4 at 7", "8:[] to 8"} {
		if got := withPlaces.first("ab 'c d'", at); got != want {
			t.Errorf("at %d: %s, not %s", at, got, want)
		}
	}
}

// 10.1: what a `$` is.
func TestDollar(t *testing.T) {
	checkWords(t, withPlaces, []pair{
		{"$a", "0:[0:$a] to 2"},
		{"$_a1-b", "0:[0:$_a1 4:'-b'] to 6"},
		{"$ab$cd", "0:[0:$ab 3:$cd] to 6"},
		{"$1a$10", "0:[0:$1 2:'a' 3:$1 5:'0'] to 6"},
		{"$0", "0:[0:$0] to 2"},
		{"$@$*$#$?", "0:[0:$@ 2:$* 4:$# 6:$?] to 8"},
		{"$@a", "0:[0:$@ 2:'a'] to 3"},
		{"$", "0:[0:'$'] to 1"},
		{"$ a", "0:[0:'$'] to 1"},
		{"a$=$%$/$.$,$:$[$]$}$~$^$+$\x00$\xff", "0:[0:'a$=$%$/$.$,$:$[$]$}$~$^$+$\x00$\xff'] to 29"},
		{"$;$", "0:[0:'$'] to 1"},
		{"$)", "0:[0:'$'] to 1"},
		{"$\\a", "0:[0:'$' 1:\"'a'] to 3"},
		{"\\$a", "0:[0:\"'$' 2:'a'] to 3"},
		{"'$a'", "0:[0:\"'$a'] to 4"},
		{"\"$\"", "0:[0:\"'$'] to 3"},
		{"\"a$\"b", "0:[0:\"'a$' 4:'b'] to 5"},
		{"\"$ $.\"", "0:[0:\"'$ $.'] to 6"},
		{"\"$a b\"", "0:[1:\"$a 3:\"' b'] to 6"},
		{"\"x$a\"$a", "0:[0:\"'x' 2:\"$a 5:$a] to 7"},
		{"\"$1$@$*$#$?\"", "0:[1:\"$1 3:\"$@ 5:\"$* 7:\"$# 9:\"$?] to 12"},
		{"\"\\$a\"", "0:[0:\"'$a'] to 5"},
		{"\"$a\\$\"", "0:[1:\"$a 3:\"'$'] to 6"},
		{"$\u00e9", "0:[0:'$\u00e9'] to 3"},
	})
}

// 10.1: `${` and what is done with a variable.
func TestBraced(t *testing.T) {
	checkWords(t, withPlaces, []pair{
		{"${a}b", "0:[0:$a 4:'b'] to 5"},
		{"${a_1}", "0:[0:$a_1] to 6"},
		{"${1}${10}${007}", "0:[0:$1 4:$10 9:$007] to 15"},
		{"${@}${*}${#}${?}", "0:[0:$@ 4:$* 8:$# 12:$?] to 16"},
		{"${#a}${#10}${#_}", "0:[0:$alen 5:$10len 11:$_len] to 16"},
		{"${a-b}${a=b}${a?b}${a+b}", "0:[0:$a-(4:'b') 6:$a=(10:'b') 12:$a?(16:'b') 18:$a+(22:'b')] to 24"},
		{"${a:-b}${a:=b}${a:?b}${a:+b}", "0:[0:$a:-(5:'b') 7:$a:=(12:'b') 14:$a:?(19:'b') 21:$a:+(26:'b')] to 28"},
		{"${a%b}${a%%b}${a#b}${a##b}", "0:[0:$a%(4:'b') 6:$a%%(11:'b') 13:$a#(17:'b') 19:$a##(24:'b')] to 26"},
		{"${1-b}${12:+b}${12%%b}", "0:[0:$1-(4:'b') 6:$12:+(12:'b') 14:$12%%(20:'b')] to 22"},
		{"${a-}${a:=}${a%}${a##}", "0:[0:$a-() 5:$a:=() 11:$a%() 16:$a##()] to 22"},
		{"${a%%%}${a###}${a--}${a:-:}${a==}", "0:[0:$a%%(5:'%') 7:$a##(12:'#') 14:$a-(18:'-') 20:$a:-(25:':') 27:$a=(31:'=')] to 33"},
		{"${a- b\n;|&()<>#~{}", "0:[0:$a-(4:' b\n;|&()<>#~{')] to 18"},
		{"${a-~}", "0:[0:$a-(4:'~')] to 6"},
		{"${a+'}'\"}\"\\}}", "0:[0:$a+(4:\"'}}}')] to 13"},
		{"${a-x'y'z}", "0:[0:$a-(4:'x' 5:\"'y' 8:'z')] to 10"},
		{"${a-${b-${c}}}", "0:[0:$a-(4:$b-(8:$c))] to 14"},
		{"${a-$(b })}", "0:[0:$a-(4:%6:Q{6:S{6:[6:'b'] 8:[8:'}']}})] to 11"},
		{"${a-$((1))$b$}", "0:[0:$a-(4:#1# 10:$b 12:'$')] to 14"},
		{"\"${a}\"", "0:[1:\"$a] to 6"},
		{"\"${a-'b'\"c\"$d}e\"", "0:[1:\"$a-(5:\"'bc' 11:$d) 14:\"'e'] to 16"},
		{"\"${a-b\\c\\}d}\"", "0:[1:\"$a-(5:'b' 6:\"'c}' 10:'d')] to 13"},
		{"\"${a-'}'}\"", "0:[1:\"$a-(5:\"'}')] to 10"},
		{"\"${a-\"${b-\"$c\"}\"}\"", "0:[1:\"$a-(6:\"$b-(11:\"$c))] to 18"},
		{"\"${a-$(b \"$c\")}\"", "0:[1:\"$a-(5:%7:Q{7:S{7:[7:'b'] 9:[10:\"$c]}})] to 16"},
	})
}

// 10.1: `$(` holds a list, or nothing.
func TestSubstitution(t *testing.T) {
	checkWords(t, withPlaces, []pair{
		{"$()", "0:[0:%0:Q{}] to 3"},
		{"$( )", "0:[0:%0:Q{}] to 4"},
		{"$(\n\n)", "0:[0:%0:Q{}] to 5"},
		{"$(# a\n)", "0:[0:%0:Q{}] to 7"},
		{"$(a)", "0:[0:%2:Q{2:S{2:[2:'a']}}] to 4"},
		{"x$(a)y", "0:[0:'x' 1:%3:Q{3:S{3:[3:'a']}} 5:'y'] to 6"},
		{"$(\na;b;\n)", "0:[0:%3:Q{3:S{3:[3:'a']} 5:S{5:[5:'b']}}] to 9"},
		{"$(a # )\n)", "0:[0:%2:Q{2:S{2:[2:'a']}}] to 9"},
		{"$(a ')')", "0:[0:%2:Q{2:S{2:[2:'a'] 4:[4:\"')']}}] to 8"},
		{"$( (a))", "0:[0:%3:Q{3:Sub{4:Q{4:S{4:[4:'a']}}}}] to 7"},
		{"$(a $(b))", "0:[0:%2:Q{2:S{2:[2:'a'] 4:[4:%6:Q{6:S{6:[6:'b']}}]}}] to 9"},
		{"$(case a in b) c;; esac)", "0:[0:%2:Q{2:Case{7:[7:'a'] 12:[12:'b'])15:Q{15:S{15:[15:'c']}}}}] to 24"},
		{"\"$(a \"b\")\"", "0:[1:\"%3:Q{3:S{3:[3:'a'] 5:[5:\"'b']}}] to 10"},
		{"\"$()\"", "0:[1:\"%0:Q{}] to 5"},
	})
}

// 10.1: `$((` holds a sum, up to the first `))` that can end it.
func TestSum(t *testing.T) {
	checkWords(t, withPlaces, []pair{
		{"$((1))", "0:[0:#1#] to 6"},
		{"x$((1))y", "0:[0:'x' 1:#1# 7:'y'] to 8"},
		{"$((1))))", "0:[0:#1#] to 6"},
		{"$(( 1 + a ))", "0:[0:# 1 + a #] to 12"},
		{"$((\n1\n))", "0:[0:#\n1\n#] to 8"},
		{"$((1+(2)))", "0:[0:#1+(2)#] to 10"},
		{"$(((1)))", "0:[0:#(1)#] to 8"},
		{"$((((1))+((2))))", "0:[0:#((1))+((2))#] to 16"},
		{"$((a<b&&c||!d))", "0:[0:#a<b&&c||!d#] to 15"},
		{"\"$((1))\"", "0:[1:\"#1#] to 8"},
		{"$((1))$((2))", "0:[0:#1# 6:#2#] to 12"},
	})
}

// 10.2: each error of a word, and where.
func TestWordErrors(t *testing.T) {
	for _, x := range []struct {
		s  string
		at int
		e  api.Errno
	}{
		{"'", 0, api.ErrOpen}, {"a'b", 1, api.ErrOpen}, {"''a'", 3, api.ErrOpen}, {"\"", 0, api.ErrOpen}, {"a\"b c\n", 1, api.ErrOpen}, {"\"'", 0, api.ErrOpen}, {"\"\\\"", 0, api.ErrOpen}, {"\"\\", 0, api.ErrOpen}, {"\"$", 0, api.ErrOpen}, {"\"$a", 0, api.ErrOpen}, {"\"${a-\"", 5, api.ErrOpen}, {"\"${a-\"}", 5, api.ErrOpen}, {"\"${a-'\"}", 5, api.ErrOpen}, {"\"a\"'b'\"", 6, api.ErrOpen},
		{"${", 0, api.ErrOpen}, {"x${", 1, api.ErrOpen}, {"${a", 0, api.ErrOpen}, {"${1", 0, api.ErrOpen}, {"${@", 0, api.ErrOpen}, {"${*", 0, api.ErrOpen}, {"${?", 0, api.ErrOpen}, {"${#", 0, api.ErrOpen}, {"${#a", 0, api.ErrOpen}, {"${#1", 0, api.ErrOpen}, {"${a:", 0, api.ErrOpen}, {"${a-", 0, api.ErrOpen}, {"${a:=", 0, api.ErrOpen}, {"${a%", 0, api.ErrOpen}, {"${a##", 0, api.ErrOpen}, {"${a-b c;", 0, api.ErrOpen}, {"${a-\\}", 0, api.ErrOpen}, {"${a-\\", 0, api.ErrOpen}, {"${a-'}'", 0, api.ErrOpen}, {"${a-${b}", 0, api.ErrOpen}, {"${a-${b", 4, api.ErrOpen}, {"\"${a", 1, api.ErrOpen}, {"\"${a-b\"", 6, api.ErrOpen},
		{"$(", 0, api.ErrOpen}, {"x$(", 1, api.ErrOpen}, {"$( ", 0, api.ErrOpen}, {"$(\n", 0, api.ErrOpen}, {"$(a", 0, api.ErrOpen}, {"$(a;", 0, api.ErrOpen}, {"$(a\n", 0, api.ErrOpen}, {"$(a # )", 0, api.ErrOpen}, {"$(a|b", 0, api.ErrOpen}, {"$(a >b", 0, api.ErrOpen}, {"$(if a;then b;fi", 0, api.ErrOpen}, {"$( (a)", 0, api.ErrOpen}, {"$(f() (a)", 0, api.ErrOpen}, {"$(a $(b)", 0, api.ErrOpen}, {"$(a $(b", 4, api.ErrOpen}, {"\"$(a", 1, api.ErrOpen}, {"\"$(a\"", 4, api.ErrOpen}, {"\"$(a)", 0, api.ErrOpen},
		{"$(a |", 5, api.ErrSyntax}, {"$(a &&", 6, api.ErrSyntax}, {"$(a ||\n ", 8, api.ErrSyntax}, {"$(a >", 5, api.ErrSyntax}, {"$(!", 3, api.ErrSyntax}, {"$(if a", 6, api.ErrSyntax}, {"$(if a;", 7, api.ErrSyntax}, {"$( (a", 5, api.ErrSyntax}, {"$({ a;", 6, api.ErrSyntax}, {"$(f(", 4, api.ErrSyntax}, {"$(f()", 5, api.ErrSyntax}, {"$(for", 5, api.ErrSyntax}, {"$(for a", 7, api.ErrSyntax}, {"$(case", 6, api.ErrSyntax}, {"$(case a in", 11, api.ErrSyntax}, {"$(case a in b", 13, api.ErrSyntax}, {"$(case a in b)", 14, api.ErrSyntax}, {"$(a $(b |)", 9, api.ErrSyntax},
		{"$(;)", 2, api.ErrSyntax}, {"$(a;;)", 3, api.ErrSyntax}, {"$(a }", 0, api.ErrOpen}, {"$(})", 2, api.ErrSyntax}, {"$((a) )", 4, api.ErrSyntax}, {"$(a &)", 4, api.ErrAsync}, {"$(a <<b)", 4, api.ErrHere}, {"$(`)", 2, api.ErrBack}, {"$(~)", 2, api.ErrTilde}, {"$($$)", 2, api.ErrDollar}, {"$('a)", 2, api.ErrOpen},
		{"$((", 0, api.ErrOpen}, {"$((1", 0, api.ErrOpen}, {"$(((1)", 0, api.ErrOpen}, {"$((((1))", 0, api.ErrOpen}, {"x$((`", 1, api.ErrOpen}, {"\"$((1\"", 1, api.ErrOpen}, {"$((1)", 4, api.ErrSyntax}, {"$((1) )", 4, api.ErrSyntax}, {"$((1)a))", 4, api.ErrSyntax}, {"$(()", 3, api.ErrSyntax}, {"$((a `))", 5, api.ErrSyntax}, {"$(((1))", 6, api.ErrSyntax},
		{"$(())", 3, api.ErrSyntax}, {"$(( ))", 4, api.ErrSyntax}, {"$((1 + ))", 7, api.ErrSyntax}, {"$(( a b ))", 6, api.ErrSyntax}, {"x$((1 $a))", 6, api.ErrSyntax}, {"$((`a`))", 3, api.ErrSyntax}, {"$(('1'))", 3, api.ErrSyntax}, {"$((99999999999999999999))", 3, api.ErrSyntax}, {"$((" + strings.Repeat("-", 21) + "1))", 23, api.ErrDeep}, {"\"a$((" + strings.Repeat("(", 21) + "1" + strings.Repeat(")", 21) + "))\"", 25, api.ErrDeep},
		{"`", 0, api.ErrBack}, {"a`b`", 1, api.ErrBack}, {"\"`\"", 1, api.ErrBack}, {"\"a`", 2, api.ErrBack}, {"${a-`}", 4, api.ErrBack}, {"\"${a-`}\"", 5, api.ErrBack}, {"'`'`", 3, api.ErrBack}, {"\\``", 2, api.ErrBack},
		{"~", 0, api.ErrTilde}, {"~a", 0, api.ErrTilde}, {"~/'", 0, api.ErrTilde}, {"~$$", 0, api.ErrTilde},
		{"$$", 0, api.ErrDollar}, {"a$!", 1, api.ErrDollar}, {"$-", 0, api.ErrDollar}, {"$'a'", 0, api.ErrDollar}, {"$'", 0, api.ErrDollar}, {"$\"a\"", 0, api.ErrDollar}, {"$\"", 0, api.ErrDollar}, {"\"$$\"", 1, api.ErrDollar}, {"\"$!\"", 1, api.ErrDollar}, {"\"$-\"", 1, api.ErrDollar}, {"\"$'a'\"", 1, api.ErrDollar}, {"${a-$$}", 4, api.ErrDollar}, {"${a-$\"b\"}", 4, api.ErrDollar}, {"\"${a-$\"b\"}\"", 5, api.ErrDollar},
		{"${}", 0, api.ErrDollar}, {"x${}", 1, api.ErrDollar}, {"${-}", 0, api.ErrDollar}, {"${-", 0, api.ErrDollar}, {"${!}", 0, api.ErrDollar}, {"${$}", 0, api.ErrDollar}, {"${ a}", 0, api.ErrDollar}, {"${a }", 0, api.ErrDollar}, {"${a b}", 0, api.ErrDollar}, {"${a!}", 0, api.ErrDollar}, {"${a!", 0, api.ErrDollar}, {"${1a}", 0, api.ErrDollar}, {"${a:}", 0, api.ErrDollar}, {"${a:b}", 0, api.ErrDollar}, {"${a:%b}", 0, api.ErrDollar}, {"${a:#b}", 0, api.ErrDollar}, {"${a::-b}", 0, api.ErrDollar}, {"${a/b/c}", 0, api.ErrDollar}, {"${a[1]}", 0, api.ErrDollar}, {"${#a-b}", 0, api.ErrDollar}, {"${#a%b}", 0, api.ErrDollar}, {"${@-b}", 0, api.ErrDollar}, {"${*%b}", 0, api.ErrDollar}, {"${?:-b}", 0, api.ErrDollar}, {"${##}", 0, api.ErrDollar}, {"${#@}", 0, api.ErrDollar}, {"${#*}", 0, api.ErrDollar}, {"${#?}", 0, api.ErrDollar}, {"${#-}", 0, api.ErrDollar}, {"${#:-b}", 0, api.ErrDollar}, {"${#a:}", 0, api.ErrDollar}, {"${\\\na}", 0, api.ErrDollar}, {"${a\\\n}", 0, api.ErrDollar}, {"${'a'}", 0, api.ErrDollar}, {"${\"a\"}", 0, api.ErrDollar}, {"${`", 0, api.ErrDollar}, {"\"${}\"", 1, api.ErrDollar}, {"${a-${}", 4, api.ErrDollar}, {"${\u00e9}", 0, api.ErrDollar}, {"${a\x00}", 0, api.ErrDollar},
	} {
		for _, ahead := range []string{"", "$a ", "'", "\n"} {
			want := fault(len(ahead)+x.at, x.e)
			if got := withPlaces.first(ahead+x.s, len(ahead)); got != want {
				t.Errorf("Word of %q, %d: %s, not %s", ahead+x.s, len(ahead), got, want)
			}
		}
	}
}
