package lex

import (
	"math"
	"regexp"
	"slices"
	"strings"
	"testing"
	"time"

	"conch/api"
	"conch/probe"
)

// script has bytes of each kind that this layer tells apart.
var script = []string{" ", "\t", "\n", "\\", "#", "'", ";", "&", ">", "a"}

// reserved are the words that Reserved is asked for.
var reserved = []string{"if", "then", "else", "elif", "fi", "while", "until", "do", "done", "for", "case", "esac", "in", "{", "}", "!"}

// operators are what Op is asked for.
var operators = []string{";;", "&&", "||", ";", "|", "&", "(", ")", "<", ">", ">>", "<<", "<&", ">&", "<>", ">|", "\n"}

// skipped and single know, by patterns, how a text begins.
var (
	skipped = regexp.MustCompile(`^([ \t]|\\\n)*(#[^\n]*)?`)
	single  = regexp.MustCompile(`^'([^']*)'`)
)

// opBy tells the longest of operators with which s begins.
func opBy(s string) string {
	longest := ""
	for _, op := range operators {
		if strings.HasPrefix(s, op) && len(op) > len(longest) {
			longest = op
		}
	}
	return longest
}

// noPlaces are places that a text of n bytes has not.
func noPlaces(n int) []int {
	return []int{math.MinInt, math.MinInt + 1, -1 << 32, -2, -1, n, n + 1, n + 2, 1 << 32, math.MaxInt - 1, math.MaxInt}
}

// 9.1: ordinary inputs, and edges.
func TestSkip(t *testing.T) {
	for _, x := range []struct {
		s        string
		at, want int
	}{
		{"", 0, 0},
		{"a", 0, 0},
		{" a", 0, 1},
		{" a", 1, 1},
		{"\ta", 0, 1},
		{" \t \ta", 0, 4},
		{" \t \ta", 2, 4},
		{"\\\na", 0, 2},
		{"\\\n\\\n a", 0, 5},
		{" \\\n\t# b", 0, 7},
		{"\\", 0, 0},
		{"\\a", 0, 0},
		{"\\ \n", 0, 0},
		{"\\\\\n", 0, 0},
		{"\\\\\n", 1, 3},
		{"\\\r\n", 0, 0},
		{" \\", 0, 1},
		{"\n", 0, 0},
		{"\n a", 0, 0},
		{" \n ", 0, 1},
		{"\\\n\n", 0, 2},
		{"#", 0, 1},
		{"#\n", 0, 1},
		{"#\n#\n", 0, 1},
		{"# a b\nc", 0, 5},
		{"# a ' \" $( b", 0, 12},
		{"# a\\\nb", 0, 4},
		{"#\x00\xff\u00e9\n", 0, 5},
		{"# a # b\n", 0, 7},
		{"  # a\n", 0, 5},
		{"a # b", 0, 0},
		{"a # b", 1, 5},
		{"a#b", 0, 0},
		{"a#b", 1, 3},
		{"a;#b\n", 2, 4},
		{"\\#", 0, 0},
		{"'#'", 0, 0},
		{"\ra", 0, 0},
		{"\va", 0, 0},
		{"\fa", 0, 0},
		{"\x00", 0, 0},
		{"\u00a0a", 0, 0},
		{"\u2003a", 0, 0},
		{"\x85a", 0, 0},
		{"; a", 0, 0},
		{"; a", 1, 2},
	} {
		if at := Skip(x.s, x.at); at != x.want {
			t.Errorf("Skip of %q, %d: %d, not %d", x.s, x.at, at, x.want)
		}
	}
}

// 9.1: short texts, at every place, as a pattern tells them.
func TestSkipPlaces(t *testing.T) {
	check := func(s string) {
		for at := range len(s) + 1 {
			if got, want := Skip(s, at), at+len(skipped.FindString(s[at:])); got != want {
				t.Fatalf("Skip of %q, %d: %d, not %d", s, at, got, want)
			}
		}
	}
	probe.Texts([]string{" ", "\t", "\n", "\\", "#", "a"}, 6, check)
	for c := range 256 {
		b := string([]byte{byte(c)})
		for _, s := range []string{b, b + " ", " " + b, "\\" + b, "#" + b, "#" + b + "\n", b + b + "\n", "\\\n" + b, b + "\\\n"} {
			check(s)
		}
	}
}

// 9.1: a place is held within the text.
func TestSkipHeld(t *testing.T) {
	for _, s := range []string{"", " ", "  a", " # a\nb", "\\\n", "\n", "a  "} {
		for _, at := range noPlaces(len(s)) {
			want := len(s)
			if at < 0 {
				want = Skip(s, 0)
			}
			if got := Skip(s, at); got != want {
				t.Errorf("Skip of %q, %d: %d, not %d", s, at, got, want)
			}
		}
	}
}

// 9.1: the chapter's example, and each operator at a place, with what makes it longer or not.
func TestOp(t *testing.T) {
	if op, ok := Op(">>a", 0); op != ">>" || !ok {
		t.Error(op, ok)
	}
	for _, x := range []struct{ s, want string }{
		{";;;", ";;"}, {"; ;", ";"}, {";\n", ";"}, {";&", ";"}, {";|", ";"},
		{"&&&", "&&"}, {"& &", "&"}, {"&|", "&"}, {"&>", "&"},
		{"|||", "||"}, {"|&", "|"}, {"|>", "|"},
		{"((", "("}, {"()", "("}, {"))", ")"}, {")(", ")"},
		{"<<<", "<<"}, {"<<-", "<<"}, {"<&1", "<&"}, {"<>a", "<>"}, {"<|", "<"}, {"< <", "<"}, {"<(", "<"},
		{">>>", ">>"}, {">>|", ">>"}, {">&2", ">&"}, {">|a", ">|"}, {"><", ">"}, {">(", ">"}, {">\\\n>", ">"},
		{"\n\n", "\n"}, {"\n;", "\n"}, {"\n#", "\n"},
		{"\\\n", ""}, {"\r\n", ""}, {" ;", ""}, {"\t&", ""}, {"#;", ""}, {"2>", ""}, {"{", ""}, {"}", ""}, {"!", ""}, {"[[", ""}, {"=", ""}, {"-", ""}, {"$(", ""}, {"';'", ""}, {"\";\"", ""}, {"`", ""}, {"\\;", ""}, {"\x00", ""}, {"\uff1b", ""},
	} {
		for _, ahead := range []string{"", "a", "<", "\u00e9", " \n"} {
			op, ok := Op(ahead+x.s, len(ahead))
			if op != x.want || ok != (x.want != "") {
				t.Errorf("Op of %q, %d: %q, %v", ahead+x.s, len(ahead), op, ok)
			}
		}
	}
}

// 9.1: all texts of two bytes, and what stands behind; none at a place that a text has not.
func TestOpBytes(t *testing.T) {
	seen := 0
	for c := range 256 {
		for d := range 256 {
			s := string([]byte{byte(c), byte(d)})
			for _, x := range []string{s[:1], s, s + ">", s + "\x00"} {
				want := opBy(x)
				if op, ok := Op(x, 0); op != want || ok != (want != "") {
					t.Fatalf("Op of %q: %q, %v", x, op, ok)
				}
			}
			if want := opBy(s); len(want) == 2 {
				seen++
			}
		}
	}
	if seen != 9 {
		t.Error(seen, "operators of two bytes")
	}
	for _, s := range append([]string{"", "a", ";;;"}, operators...) {
		for _, at := range noPlaces(len(s)) {
			if op, ok := Op(s, at); op != "" || ok {
				t.Errorf("Op of %q, %d: %q, %v", s, at, op, ok)
			}
		}
	}
}

// 9.1: every byte.
func TestEnds(t *testing.T) {
	for c := range 256 {
		if want := strings.IndexByte(" \t\n;&|()<>", byte(c)) >= 0; Ends(byte(c)) != want {
			t.Errorf("Ends of byte %d: %v", c, !want)
		}
	}
}

// 9.1: the words themselves, and what is one byte beside them.
func TestReserved(t *testing.T) {
	check := func(s string) {
		if want := slices.Contains(reserved, s); Reserved(s) != want {
			t.Errorf("Reserved of %q: %v", s, !want)
		}
	}
	for _, w := range reserved {
		check(w)
		check(strings.ToUpper(w))
		for _, v := range reserved {
			check(w + v)
			check(w + " " + v)
		}
		for i := range len(w) + 1 {
			check(w[:i])
			check(w[i:])
			for c := range 256 {
				b := string([]byte{byte(c)})
				check(w[:i] + b + w[i:])
				if i < len(w) {
					check(w[:i] + b + w[i+1:])
					check(w[:i] + w[i+1:])
				}
			}
		}
	}
	for _, w := range []string{"", " ", "a", "echo", "function", "select", "time", "[[", "]]", "[", "]", "(", ")", ";", "break", "return", "'if'", "\\if", "return ", "coproc", "{}", "!!", "\u00ef\u0192"} {
		check(w)
	}
}

// 9.1: ordinary inputs, and edges.
func TestSingle(t *testing.T) {
	for _, x := range []struct {
		s    string
		at   int
		want string
		to   int
		ok   bool
	}{
		{"'a'", 0, "a", 3, true},
		{"'a'b", 0, "a", 3, true},
		{"''", 0, "", 2, true},
		{"'''", 0, "", 2, true},
		{"'''", 1, "", 3, true},
		{"'''", 2, "", 0, false},
		{"x'a b'y", 1, "a b", 6, true},
		{"x'a b'y", 0, "", 0, false},
		{"'a'b'c'", 2, "b", 5, true},
		{"'a'b'c'", 4, "c", 7, true},
		{"'a\nb'", 0, "a\nb", 5, true},
		{"'\\'", 0, "\\", 3, true},
		{"'\\''", 0, "\\", 3, true},
		{"\\'a'", 1, "a", 4, true},
		{"'\\\n'", 0, "\\\n", 4, true},
		{"'\"$(#;'", 0, "\"$(#;", 7, true},
		{"'\x00\xff'", 0, "\x00\xff", 4, true},
		{"'\u00e9'", 0, "\u00e9", 4, true},
		{"'\u2019'", 0, "\u2019", 5, true},
		{"\u2019a'", 0, "", 0, false},
		{"'", 0, "", 0, false},
		{"'a", 0, "", 0, false},
		{"'a\u2019", 0, "", 0, false},
		{"a'", 0, "", 0, false},
		{"a'", 1, "", 0, false},
		{"\"a\"", 0, "", 0, false},
		{"`a`", 0, "", 0, false},
		{" 'a'", 0, "", 0, false},
		{"", 0, "", 0, false},
	} {
		if s, to, ok := Single(x.s, x.at); s != x.want || to != x.to || ok != x.ok {
			t.Errorf("Single of %q, %d: %q, %d, %v", x.s, x.at, s, to, ok)
		}
	}
	for _, s := range []string{"", "'", "''", "'a'"} {
		for _, at := range noPlaces(len(s)) {
			if in, to, ok := Single(s, at); in != "" || to != 0 || ok {
				t.Errorf("Single of %q, %d: %q, %d", s, at, in, to)
			}
		}
	}
}

// 9.1: short texts, at every place, as a pattern tells them.
func TestSinglePlaces(t *testing.T) {
	check := func(s string) {
		for at := range len(s) {
			want, wantTo := "", 0
			m := single.FindStringSubmatch(s[at:])
			if m != nil {
				want, wantTo = m[1], at+len(m[0])
			}
			if in, to, ok := Single(s, at); in != want || to != wantTo || ok != (m != nil) {
				t.Fatalf("Single of %q, %d: %q, %d, %v", s, at, in, to, ok)
			}
		}
	}
	probe.Texts([]string{"'", "a", "\\", "\"", "\n"}, 6, check)
	for c := range 256 {
		b := string([]byte{byte(c)})
		for _, s := range []string{b + "a" + b, "'" + b, "'" + b + "'", b + "''"} {
			check(s)
		}
	}
}

// claims tells how many bytes from at on each call takes: what is skipped, an operator, a quoted text, a byte of a word.
func claims(s string, at int) []int {
	l := make([]int, 4)
	l[0] = Skip(s, at) - at
	if op, ok := Op(s, at); ok {
		l[1] = len(op)
	}
	if _, to, ok := Single(s, at); ok {
		l[2] = to - at
	}
	if !Ends(s[at]) && l[0] == 0 && l[2] == 0 {
		l[3] = 1
	}
	return l
}

// 9.2: wherever a thing is asked for, just one call takes what begins there.
func TestOneThing(t *testing.T) {
	check := func(s string) {
		for at := range len(s) {
			takes := 0
			for _, n := range claims(s, at) {
				if n < 0 || n > len(s)-at {
					t.Fatalf("%q, %d: %v", s, at, claims(s, at))
				}
				takes += min(n, 1)
			}
			if takes != 1 {
				t.Fatalf("%q, %d: %v", s, at, claims(s, at))
			}
		}
	}
	probe.Texts(script, 4, check)
	for c := range 256 {
		for d := range 256 {
			check(string([]byte{byte(c), byte(d)}))
		}
	}
}

// 9.2: a byte that is skipped or begins an operator, and is no backslash and no comment's, ends a word; another one does not.
func TestEndsAgree(t *testing.T) {
	for c := range 256 {
		s := string([]byte{byte(c)})
		_, op := Op(s, 0)
		if taken := op || Skip(s, 0) == 1 && s != "#"; taken != Ends(byte(c)) {
			t.Errorf("byte %d: %v", c, taken)
		}
	}
	for _, op := range operators {
		for i := range len(op) {
			if !Ends(op[i]) {
				t.Errorf("%q does not end a word", op)
			}
		}
	}
	for _, w := range reserved {
		for i := range len(w) {
			if Ends(w[i]) {
				t.Errorf("%q ends within", w)
			}
		}
	}
}

// 9.2: what is skipped from within is skipped to the same place, and from there nothing is; no line feed is lost that no backslash hides.
func TestSkipOnce(t *testing.T) {
	probe.Texts(script, 5, func(s string) {
		for at := range len(s) {
			to := Skip(s, at)
			if Skip(s, to) != to {
				t.Fatalf("%q, %d: %d, then %d", s, at, to, Skip(s, to))
			}
			for i := at; i < to; i++ {
				if s[i] == '\n' && (i == at || s[i-1] != '\\') {
					t.Fatalf("%q, %d: %d, a line feed is lost", s, at, to)
				}
			}
			if to < len(s) && strings.IndexByte(s[at:to], '#') >= 0 && s[to] != '\n' {
				t.Fatalf("%q, %d: %d, within a comment", s, at, to)
			}
		}
	})
}

// W2: the same is answered again, and beside a false nothing else is told.
func TestAgain(t *testing.T) {
	for range 3 {
		if Skip(" a", 0) != 1 || !Ends(';') || Ends('a') || !Reserved("if") || Reserved("fo") {
			t.Fatal("another answer")
		}
		if op, ok := Op("a;;", 1); op != ";;" || !ok {
			t.Fatal(op, ok)
		}
		if op, ok := Op("a;;", 0); op != "" || ok {
			t.Fatal(op, ok)
		}
		if in, to, ok := Single("a'b", 1); in != "" || to != 0 || ok {
			t.Fatal(in, to, ok)
		}
	}
}

// askAll makes every call once at each of some places.
func askAll(s string) {
	Reserved(s)
	for _, at := range append(noPlaces(len(s)), 0, 1, len(s)/2, len(s)-1) {
		Skip(s, at)
		Op(s, at)
		Single(s, at)
	}
}

// 9.3, W7: no call panics.
func TestNoPanic(t *testing.T) {
	pieces := append([]string{"\x00", "\xff", "\xc3", "\u00e9", "\U0010ffff", strings.Repeat("a;", api.MaxScript)}, script...)
	probe.Texts(pieces, 3, func(s string) {
		defer func() {
			if r := recover(); r != nil {
				t.Errorf("%.20q: %v", s, r)
			}
		}()
		askAll(s)
	})
	for c := range 256 {
		Ends(byte(c))
	}
}

// W7: long texts end; what goes through them again and again is far from its end after the time that is given.
func TestLong(t *testing.T) {
	const n = 1 << 22
	done := make(chan bool)
	go func() {
		defer close(done)
		for _, piece := range []string{" ", "\\\n", "#", "'", "a", ";"} {
			askAll(strings.Repeat(piece, n))
		}
		if s := strings.Repeat(" \\\n", n) + strings.Repeat("#", n) + "\n"; Skip(s, 0) != len(s)-1 {
			t.Error("a long row of blanks and a long comment")
		}
		if in, to, ok := Single("'"+strings.Repeat("\\", n)+"'", 0); len(in) != n || to != n+2 || !ok {
			t.Error("a long quoted text")
		}
	}()
	select {
	case <-done:
	case <-time.After(20 * time.Second):
		t.Fatal("not at its end")
	}
}
