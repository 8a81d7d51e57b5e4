package syntax

import (
	"slices"
	"strings"
	"testing"

	"conch/api"
	"conch/lex"
	"conch/text"
)

// rules are what the chapter says of lists and commands, in tokens. A `c` at a name's end: what ends so that a reserved word may stand behind it.
const rules = `
Script  : Lines : List
Lines   : : Lines LF
Sep     : ; Lines : LF Lines
List    : Lines Seq
Listc   : Lines Seqc
Seq     : AndOr : AndOr Sep : AndOr Sep Seq
Seqc    : AndOrc : AndOr Sep : AndOr Sep Seqc
AndOr   : Pipe : AndOr && Lines Pipe : AndOr || Lines Pipe
AndOrc  : Pipec : AndOr && Lines Pipec : AndOr || Lines Pipec
Pipe    : Row : ! Row
Pipec   : Rowc : ! Rowc
Row     : Cmd : Row | Lines Cmd
Rowc    : Cmdc : Row | Lines Cmdc
Cmd     : Simple : Cmdc
Cmdc    : Own Redirs : func ( ) Lines Own Redirs
Redirs  : : Redirs redir word
Simple  : begin : redir word : Simple word : Simple redir word
Own     : ( List ) : { Listc } : if If : while Loop : until Loop : for name For do Listc done : case word Lines in Lines Items esac
If      : Listc then Listc fi : Listc then Listc else Listc fi : Listc then Listc elif If
Loop    : Listc do Listc done
For     : : ; Lines : LF Lines : Lines in Words Sep
Words   : : Words word
Items   : : Pats ) Lines : Pats ) Listc : Pats ) Lines ;; Lines Items : Pats ) List ;; Lines Items
Pats    : pattern : ( word : Pats | word
`

// rule is a way to make what stands left.
type rule struct {
	left  string
	right []string
}

// grammar is rules, and what of it may be nothing.
type grammar struct {
	rules map[string][]rule
	empty map[string]bool
}

// readGrammar reads rules.
func readGrammar() grammar {
	g := grammar{map[string][]rule{}, map[string]bool{}}
	for _, line := range strings.Split(strings.TrimSpace(rules), "\n") {
		left, ways, _ := strings.Cut(line, " ")
		for _, way := range strings.Split(" "+strings.TrimSpace(ways)+" ", " :")[1:] {
			r := rule{left, strings.Fields(way)}
			g.rules[left] = append(g.rules[left], r)
			g.empty[left] = g.empty[left] || len(r.right) == 0
		}
	}
	return g
}

// item is a rule of which some is read, from a token on.
type item struct {
	r         *rule
	dot, from int
}

// chart is the items at each place between tokens; the last one's may go on.
type chart [][]item

// at puts what follows of the items that a place has.
func (g grammar) at(c chart, l []item) chart {
	c = append(slices.Clip(c), nil)
	here := len(c) - 1
	seen := map[item]bool{}
	put := func(i item) {
		if !seen[i] {
			seen[i] = true
			c[here] = append(c[here], i)
		}
	}
	for _, i := range l {
		put(i)
	}
	for n := 0; n < len(c[here]); n++ {
		i := c[here][n]
		if i.dot == len(i.r.right) {
			for _, j := range c[i.from] {
				if j.dot < len(j.r.right) && j.r.right[j.dot] == i.r.left {
					put(item{j.r, j.dot + 1, j.from})
				}
			}
			continue
		}
		next := i.r.right[i.dot]
		for k := range g.rules[next] {
			put(item{&g.rules[next][k], 0, here})
		}
		if g.empty[next] {
			put(item{i.r, i.dot + 1, i.from})
		}
	}
	return c
}

// start tells the chart ahead of all tokens.
func (g grammar) start() chart {
	var l []item
	for k := range g.rules["Script"] {
		l = append(l, item{&g.rules["Script"][k], 0, 0})
	}
	return g.at(nil, l)
}

// read tells the chart behind one more token; false, if it can't stand there.
func (g grammar) read(c chart, token string) (chart, bool) {
	var l []item
	for _, i := range c[len(c)-1] {
		if i.dot < len(i.r.right) && g.rules[i.r.right[i.dot]] == nil && isToken(token, i.r.right[i.dot]) {
			l = append(l, item{i.r, i.dot + 1, i.from})
		}
	}
	if l == nil {
		return nil, false
	}
	return g.at(c, l), true
}

// whole tells whether a script may end here.
func whole(c chart) bool {
	for _, i := range c[len(c)-1] {
		if i.r.left == "Script" && i.dot == len(i.r.right) {
			return true
		}
	}
	return false
}

// isToken tells whether a token is what a rule asks.
func isToken(token, want string) bool {
	_, sign := lex.Op(token, 0)
	redir := token == ">" || token == "2>" || token == "<"
	word := !sign && token != "LF" && !strings.ContainsAny(token, "<>")
	switch want {
	case "word":
		return word
	case "begin":
		return word && (token == "in" || !lex.Reserved(token))
	case "func":
		return text.Name(token) && token != "LF" && !lex.Reserved(token)
	case "name":
		return text.Name(token) && token != "LF"
	case "pattern":
		return word && token != "esac"
	case "redir":
		return redir
	}
	return token == want
}

// errorOf tells the error of a token that can't stand where it does, and how far in it that is.
func errorOf(token string) (int, api.Errno) {
	switch token {
	case "&":
		return 0, api.ErrAsync
	case "<<":
		return 0, api.ErrHere
	case "2<<":
		return 1, api.ErrHere
	case "2>&":
		return 1, api.ErrSyntax
	}
	return 0, api.ErrSyntax
}

// walk holds what Parse tells of each script of some tokens against the grammar, from a beginning on that may go on.
func (g grammar) walk(t *testing.T, c chart, s string, tokens []string, most int) {
	want := fault(len(s), api.ErrSyntax)
	_, at, e := Parse(s)
	if whole(c) && (at != 0 || e != api.OK) || !whole(c) && fault(at, e) != want {
		t.Fatalf("Parse of %q: %s; whole: %v", s, fault(at, e), whole(c))
	}
	for _, token := range tokens {
		written := strings.ReplaceAll(token, "LF", "\n")
		next, ok := g.read(c, token)
		if !ok {
			n, want := errorOf(token)
			for _, behind := range []string{"", " a", "\n)"} {
				if _, at, e := Parse(s + written + behind); at != len(s)+n || e != want {
					t.Fatalf("Parse of %q: %s, not %s", s+written+behind, fault(at, e), fault(len(s)+n, want))
				}
			}
		} else if most > 0 {
			g.walk(t, next, s+written+" ", tokens, most-1)
		}
	}
}

// 10.3, 10.4: scripts of some tokens, as the grammar tells them: what can stand where, and the first token that can't.
func TestGrammar(t *testing.T) {
	g := readGrammar()
	for _, x := range []struct {
		ahead, tokens string
		most          int
	}{
		{"", "a 1 a=b if then else elif fi while until do done for case esac in { } ! ; & LF | && || ( ) ;; > 2> 12> < << 2<< 2>&", 2},
		{"", "a ; LF ( ) && | ! } 2>", 4},
		{"", "if then elif else fi a ; (", 5},
		{"if a ;", "if then else fi a ; LF", 5},
		{"if ( a ) then a ;", "elif else fi then a ; LF", 5},
		{"", "while until do done a ; LF ( )", 4},
		{"while a ;", "while do done a ; LF ( )", 5},
		{"", "for a in do done ; LF >", 5},
		{"for a", "in do done ; LF 1 | 2>", 5},
		{"", "case a in esac ( ) LF", 5},
		{"case a in", "a ( ) | ;; esac LF ;", 5},
		{"case a in a ) (", "a ) ;; esac LF", 5},
		{"", "a in 1 a=b ( ) { } ; > LF", 3},
		{"a ( )", "{ } a ; > ( ) LF for do done", 4},
		{"( a )", "> 2> a ; LF | || } fi ( )", 4},
	} {
		c, s := g.start(), ""
		for _, token := range strings.Fields(x.ahead) {
			next, ok := g.read(c, token)
			if !ok {
				t.Fatalf("%q can't begin so", x.ahead)
			}
			c, s = next, s+token+" "
		}
		g.walk(t, c, s, strings.Fields(x.tokens), x.most)
	}
}
