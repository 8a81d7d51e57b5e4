package syntax

import (
	"strings"
	"testing"

	"conch/api"
)

// nest is what goes one in the other: what begins it, with a `^` ahead of each thing in that which counts and goes on, and a `~` of each which counts and ends; and what ends it.
type nest struct{ marked, end string }

// nests have each thing that counts, and things that do not.
func nests() []nest {
	return []nest{
		{"^(", ")"},
		{"^{ ", "; }"},
		{"\n^{\n", "\n}"},
		{"^if ", "; then a; fi"},
		{"^if ~a; then ", "; fi"},
		{"^if ~a; then ~b; else ", "; fi"},
		{"^if ~a; then ~b; ^elif ", "; then c; fi"},
		{"^if ~a; then ~b; ^elif ~c; then ", "; fi"},
		{"^while ", "; do a; done"},
		{"^while ~a; do ", "; done"},
		{"^until ", "; do a; done"},
		{"^until ~a; do ", "; done"},
		{"^for i do ", "; done"},
		{"^for i in a $b; do ", "; done"},
		{"^for i in ^$(", "); do a; done"},
		{"^case a in b) ", "; esac"},
		{"^case ^$(", ") in esac"},
		{"^case a in ^$(", ")) esac"},
		{"^f() ^( ", ")"},
		{"^f() ^{ ", "; }"},
		{"^f()\n^{ ! ~a || ", "; }"},
		{"^a ^$(", ")"},
		{"^^$(", ")"},
		{"^a=^$(", ")"},
		{"^>x^$(", ")"},
		{"^(~a)>^$( ", ")"},
		{"^\"^$(", ")\""},
		{"^a ^${b-^$(", ")}"},
		{"^a \"^${b:+\"^$(", ")\"}\""},
		{"! ~a | ~b && ~c; ^(", ")"},
		{"~$((((1)))) $a | ^(", ")"},
	}
}

// beginning tells what begins a nest.
func (x nest) beginning() string {
	return strings.NewReplacer("^", "", "~", "").Replace(x.marked)
}

// deepAt tells where the first thing that is too deep begins, if one is: there are as many parentheses ahead, and as many of x, and a command.
func (x nest) deepAt(ahead, n int) (int, bool) {
	at, depth := 0, 0
	for _, c := range strings.Repeat("^(", ahead) + strings.Repeat(x.marked, n) + "~a" {
		if c != '^' && c != '~' {
			at++
			continue
		}
		if depth == api.MaxNest {
			return at, true
		}
		if c == '^' {
			depth++
		}
	}
	return 0, false
}

// 10.4: all that goes one in the other, up to the bound and beyond it, within other things or not.
func TestDeep(t *testing.T) {
	for _, x := range nests() {
		for ahead := range api.MaxNest + 2 {
			for n := range api.MaxNest + 2 {
				s := strings.Repeat("(", ahead) + strings.Repeat(x.beginning(), n) + "a" + strings.Repeat(x.end, n) + strings.Repeat(")", ahead)
				e := api.OK
				at, deep := x.deepAt(ahead, n)
				if deep {
					e = api.ErrDeep
				}
				if _, gotAt, gotE := Parse(s); gotAt != at || gotE != e {
					t.Fatalf("%d and %d of %q: %d, %d, not %d, %d", ahead, n, x.beginning(), gotAt, gotE, at, e)
				}
			}
		}
	}
}

// 10.4: `${` one in the other, in a script and in a word alone, where no command is around.
func TestDeepBraces(t *testing.T) {
	for n := range 45 {
		s := strings.Repeat("${b-", n) + "$c$((1))" + strings.Repeat("}", n)
		if got, want := bare.script("a "+s), fault(2+39*4, api.ErrDeep); (n > 39) != (got == want) || n <= 39 && strings.HasPrefix(got, "error") {
			t.Errorf("%d in a script: %s", n, got)
		}
		if got, want := bare.first(s, 0), fault(40*4, api.ErrDeep); (n > 40) != (got == want) || n <= 40 && strings.HasPrefix(got, "error") {
			t.Errorf("%d in a word: %s", n, got)
		}
	}
	for n := range 45 {
		s := strings.Repeat("$(", n) + strings.Repeat(")", n)
		if got, want := bare.first(s, 0), fault(40, api.ErrDeep); (n > 20) != (got == want) || n <= 20 && strings.HasPrefix(got, "error") {
			t.Errorf("%d `$(`: %s", n, got)
		}
	}
}

// 10.4: too deep is asked where something begins, ahead of anything else of it.
func TestDeepAhead(t *testing.T) {
	at40 := strings.Repeat("(", 40)
	for _, s := range []string{"a", "$$", "`", "~", "'", "${", "$(", "${}", ">x", ">", "2>x", "12>x", "<<x", "2<<x", "<&x", "2>&1", "<>x", ">|x", "a=", "in", "if", "(", "()", "{", "while", "until", "for", "for 1", "case", "f(", "f() a", "then'", "!a"} {
		checkWrong(t, []wrong{{at40 + s, 40, api.ErrDeep}, {at40 + "! " + s, 42, api.ErrDeep}, {at40 + " # a\n\n " + s, 47, api.ErrDeep}})
	}
	for _, s := range []string{"", ")", ";", ";;", "|", "||", "&&", "then", "else", "elif", "fi", "do", "done", "esac", "}"} {
		checkWrong(t, []wrong{{at40 + s, 40, api.ErrSyntax}, {at40 + "! " + s, 42, api.ErrSyntax}})
	}
	checkWrong(t, []wrong{{at40 + "&", 40, api.ErrAsync}, {at40 + "!", 41, api.ErrSyntax}, {at40 + "! ! a", 42, api.ErrSyntax}})
	at39 := at40[:39] + "a"
	for _, s := range []string{"${", "${}", "${a", "${a}", "${!", "$(", "$()", "$(;", "$(a)", "${a-$$}", "$('"} {
		checkWrong(t, []wrong{{at39 + s, 40, api.ErrDeep}, {at39 + "\"" + s, 41, api.ErrDeep}, {at39 + "$b" + s, 42, api.ErrDeep}, {at39 + " >" + s, 42, api.ErrDeep}})
	}
	checkWrong(t, []wrong{
		{at39 + "$((", 40, api.ErrOpen}, {at39 + "$(( ))", 44, api.ErrSyntax}, {at39 + "$$", 40, api.ErrDollar}, {at39 + "<<b", 40, api.ErrHere}, {at39 + "$b'", 42, api.ErrOpen},
		{at40[:39] + "f() (a)", 43, api.ErrDeep}, {at40[:39] + "f() a", 43, api.ErrSyntax}, {at40[:39] + "f() <<b", 43, api.ErrHere}, {at40[:38] + "f() (a)", 43, api.ErrDeep},
		{at40[:39] + "if a; then b; fi", 42, api.ErrDeep}, {at40[:38] + "if a; then b; elif c; then d; fi", 57, api.ErrDeep}, {at40[:38] + "if a; then b; elif", 56, api.ErrSyntax}, {at40[:39] + "if", 41, api.ErrSyntax},
	})
}

// 10.4: an elif is in the if ahead of it, and in the elif ahead.
func TestDeepElif(t *testing.T) {
	const open, more = "if a; then b; ", "elif a; then b; "
	for n := range 45 {
		at, e := 0, api.OK
		if n > 38 {
			// The one that is the fortieth is not too deep, but what it asks is.
			at, e = len(open)+38*len(more)+5, api.ErrDeep
		}
		if _, gotAt, gotE := Parse(open + strings.Repeat(more, n) + "fi"); gotAt != at || gotE != e {
			t.Errorf("%d: %d, %d, not %d, %d", n, gotAt, gotE, at, e)
		}
	}
}

// 10.4: what stands one behind the other is not one in the other.
func TestFlat(t *testing.T) {
	for _, s := range []string{
		strings.Repeat("(a);", 500), strings.Repeat("(a)|", 500) + "b", strings.Repeat("(a)&&", 500) + "b", strings.Repeat("a $(b) ${c-$(d)};", 500), strings.Repeat("if a;then b;else c;fi\n", 500), strings.Repeat("f()(a);", 500), "a " + strings.Repeat("${b}$(c)\"${d-e}\"", 500), "case a in " + strings.Repeat("b) (c);;", 500) + " esac", "for i in " + strings.Repeat("$(a) ", 500) + ";do b;done", strings.Repeat(">$(a) ", 500), "(" + strings.Repeat("(a);", 500) + ")",
	} {
		for _, x := range []string{s, strings.Repeat("(", 36) + s + "\n" + strings.Repeat(")", 36)} {
			if got := bare.script(x); strings.HasPrefix(got, "error") {
				t.Errorf("%.40q: %s", x, got)
			}
		}
	}
}
