package tree

import (
	"maps"
	"math/rand/v2"
	"slices"
	"strconv"
	"strings"
	"testing"
	"time"

	"conch/api"
	"conch/pat"
	"conch/probe"
)

// numbered tells n names, the numbers from a first one on.
func numbered(first, n int) []string {
	var l []string
	for i := range n {
		l = append(l, "n"+strconv.Itoa(first+i))
	}
	return l
}

// mayBeName asks byte by byte for what the tree asks for at once.
func mayBeName(s string) bool {
	for i := range len(s) {
		if s[i] == 0 || s[i] == '/' {
			return false
		}
	}
	return 1 <= len(s) && len(s) <= 100
}

// oddNames tells names at the edges, and texts that are none.
func oddNames() []string {
	x := strings.Repeat("x", 99)
	l := []string{"", ".", "..", "...", "-", "*", "[a]", "a b", "a\n", "\n", "a\\b", "é", "\xff\xfe", "\x01", "/", "//", "a/", "/a", "a/b", "a\x00", "\x00a", "a\x00b", "\x00"}
	return append(l, x, x+"y", x+"yz", x+"/", x+"\x00", "/"+x, "\x00"+x, x+"\xff", x+"é", strings.Repeat(x, 50), strings.Repeat("/", 5000))
}

// 12.1: every byte alone, first, amid and last: all may be there but 0 and `/`.
func TestBytes(t *testing.T) {
	for c := range 256 {
		want, b := c != 0 && c != '/', string([]byte{byte(c)})
		for _, s := range []string{b, b + "a", "a" + b, "a" + b + "c", strings.Repeat("é", 8) + b + "longer", strings.Repeat(b, 100)} {
			r, n := New(nil), New([]string{s})
			if r.Make(s) != want || r.Has(s) != want || n.Has(s) != want {
				t.Errorf("%q: not %v", s, want)
			}
			if got := slices.Contains(n.Names(), s); got != want || !slices.Equal(r.Names(), n.Names()) {
				t.Errorf("%q: %q, %q", s, r.Names(), n.Names())
			}
		}
	}
}

// 12.1: names have 1 to 100 bytes, not runes.
func TestLengths(t *testing.T) {
	for n := range 300 {
		s, want := strings.Repeat("a", n), 1 <= n && n <= 100
		r := New([]string{s, "b"})
		if r.Has(s) != want || New(nil).Make(s) != want || len(r.Names()) == 2 != want {
			t.Errorf("%d bytes: not %v", n, want)
		}
	}
	if r := New([]string{strings.Repeat("é", 51), strings.Repeat("é", 50)}); !slices.Equal(r.Names(), []string{strings.Repeat("é", 50)}) {
		t.Errorf("%q", r.Names())
	}
}

// 12.1: of odd texts just those are kept that are names, each once.
func TestOddNames(t *testing.T) {
	l := oddNames()
	r, want := New(append(slices.Clone(l), l...)), map[string]int{}
	for _, s := range l {
		if r.Has(s) != mayBeName(s) || r.Make(s) != mayBeName(s) {
			t.Errorf("%q: not %v", s, mayBeName(s))
		}
		if mayBeName(s) {
			want[s]++
		}
	}
	if got := r.Names(); !slices.Equal(got, slices.Sorted(maps.Keys(want))) {
		t.Errorf("%q", got)
	}
}

// 12.1: rising, by bytes, whatever the order in which they came.
func TestRising(t *testing.T) {
	want := []string{"\x01", "-", ".", "..", ".a", "0", "10", "9", "A", "Z", "a", "a ", "a.b", "aa", "b", "z", "é", "\xff"}
	p := rand.New(rand.NewPCG(12, 1))
	for range 200 {
		l := slices.Clone(want)
		p.Shuffle(len(l), func(i, j int) { l[i], l[j] = l[j], l[i] })
		made := New(l[:len(l)/2])
		for _, s := range l[len(l)/3:] {
			made.Make(s)
		}
		for _, r := range []*Tree{New(l), New(append(l, l...)), made, made.Copy()} {
			if !slices.Equal(r.Names(), want) || !slices.Equal(r.Glob(pat.Raw("[!.]*")), slices.Concat(want[:2], want[5:])) || !slices.Equal(r.Glob(pat.Raw(".*")), want[2:5]) {
				t.Fatalf("of %q: %q", l, r.Names())
			}
		}
	}
}

// 12.1: 200 at most, the first ones; what is no name, and what comes again, is not one of them.
func TestMost(t *testing.T) {
	all := numbered(1000, 1000)
	for _, n := range []int{0, 1, 199, 200, 201, 250, 1000} {
		var l []string
		for i, s := range all[:n] {
			l = append(l, "", s, "a/b", all[0], all[i/2])
		}
		want := all[:min(n, 200)]
		if got := New(l).Names(); !slices.Equal(got, want) {
			t.Errorf("%d names: %q", n, got)
		}
	}
	turned := slices.Clone(all)
	slices.Reverse(turned)
	if got := New(turned).Names(); !slices.Equal(got, all[800:]) {
		t.Errorf("the last ones first: %q", got)
	}
}

// 12.1: Make tells false beyond 200, but true of each that is there.
func TestMakeMost(t *testing.T) {
	all := numbered(100, 202)
	r := New(nil)
	for i, s := range all[:200] {
		if r.Has(s) || !r.Make(s) || !r.Has(s) || !r.Make(s) || len(r.Names()) != i+1 {
			t.Fatalf("%d: %q", i, r.Names())
		}
	}
	for _, r := range []*Tree{r, New(all), r.Copy()} {
		for _, s := range append(all[200:], "", "a", ".a", "z", "a/b", strings.Repeat("x", 101)) {
			if r.Make(s) || r.Has(s) {
				t.Errorf("%q is made", s)
			}
		}
		for _, s := range all[:200] {
			if !r.Make(s) || !r.Has(s) {
				t.Errorf("%q is not there", s)
			}
		}
		if !slices.Equal(r.Names(), all[:200]) || !slices.Equal(r.Glob(pat.Raw("*")), all[:200]) {
			t.Errorf("%q", r.Names())
		}
	}
}

// 12.1: Has asks for the whole name, and is no pattern.
func TestHas(t *testing.T) {
	r := New([]string{"ab", "b*", ".c", "[d]"})
	for _, s := range []string{"ab", "b*", ".c", "[d]"} {
		if !r.Has(s) {
			t.Errorf("%q is not there", s)
		}
	}
	for _, s := range []string{"", "a", "b", "abc", "bc", "AB", "*", "?b", "a*", "b?", "c", "d", "[d", "ab\x00", "/ab", "./ab", "ab/", strings.Repeat("ab", 3000)} {
		if r.Has(s) {
			t.Errorf("%q is there", s)
		}
	}
}

// 12.1: what patterns tell, those with a point first apart.
func TestGlob(t *testing.T) {
	r := New([]string{"a", "ab", "b*", ".c", ".", "..", "B", "a b", "x.y", "[!a]", "é", "\xff"})
	for _, x := range []struct {
		p    api.Pat
		want []string
	}{
		{pat.Raw("*"), []string{"B", "[!a]", "a", "a b", "ab", "b*", "x.y", "é", "\xff"}},
		{pat.Raw("**"), []string{"B", "[!a]", "a", "a b", "ab", "b*", "x.y", "é", "\xff"}},
		{pat.Raw("?"), []string{"B", "a", "\xff"}},
		{pat.Raw("??"), []string{"ab", "b*", "é"}},
		{pat.Raw("[!a]"), []string{"B", "\xff"}},
		{pat.Raw("[a-b]*"), []string{"a", "a b", "ab", "b*"}},
		{pat.Raw("[.]c"), nil}, {pat.Raw("?c"), nil}, {pat.Raw("*c"), nil}, {pat.Raw("*.c"), nil}, {pat.Raw("[!a]c"), nil}, {pat.Raw("?"), []string{"B", "a", "\xff"}},
		{pat.Raw("*.*"), []string{"x.y"}},
		{pat.Raw(".*"), []string{".", "..", ".c"}}, {pat.Raw(".?"), []string{"..", ".c"}}, {pat.Raw("."), []string{"."}}, {pat.Raw(".[c]"), []string{".c"}},
		{pat.Plain(".*"), nil}, {pat.Plain(".c"), []string{".c"}}, {api.Pat{Text: ".c"}, []string{".c"}},
		{api.Pat{Text: ".*", Live: []bool{false, true}}, []string{".", "..", ".c"}},
		{api.Pat{Text: ".*", Live: []bool{true, true}}, []string{".", "..", ".c"}},
		{api.Pat{Text: ".*", Live: []bool{true}}, nil},
		{api.Pat{Text: "b*"}, []string{"b*"}}, {api.Pat{Text: "b*", Live: []bool{true, true, true, true}}, []string{"b*"}},
		{pat.Plain("[!a]"), []string{"[!a]"}}, {pat.Plain("*"), nil},
		{pat.Raw(`\.c`), nil}, {pat.Raw("a/b"), nil}, {pat.Raw("*/"), nil}, {pat.Raw("./a"), nil}, {pat.Raw("./*"), nil},
		{pat.Raw(""), nil}, {api.Pat{}, nil}, {api.Pat{Live: []bool{true}}, nil}, {pat.Raw("q"), nil}, {pat.Raw("A"), nil}, {pat.Raw("\x00"), nil},
	} {
		if l := r.Glob(x.p); !slices.Equal(l, x.want) {
			t.Errorf("%q %v: %q", x.p.Text, x.p.Live, l)
		}
	}
	if l := New(nil).Glob(pat.Raw("*")); len(l) != 0 {
		t.Errorf("of no names: %q", l)
	}
}

// fits is whether the pattern p, of plain bytes and live `*` and `?`, matches all of s.
func fits(p, s string) bool {
	if p == "" || s == "" {
		return strings.Trim(p, "*") == s
	}
	if p[0] == '*' {
		return fits(p[1:], s) || fits(p, s[1:])
	}
	return (p[0] == '?' || p[0] == s[0]) && fits(p[1:], s[1:])
}

// 12.1: all short patterns, of all short names.
func TestGlobShort(t *testing.T) {
	var names []string
	probe.Texts(probe.Pieces(".ab"), 4, func(s string) { names = append(names, s) })
	r := New(names)
	slices.Sort(names)
	probe.Texts(probe.Pieces(".a*?"), 4, func(p string) {
		var want []string
		for _, s := range names {
			if s != "" && fits(p, s) && (s[0] != '.' || p[0] == '.') {
				want = append(want, s)
			}
		}
		if got := r.Glob(pat.Raw(p)); !slices.Equal(got, want) {
			t.Errorf("%q: %q, not %q", p, got, want)
		}
	})
}

// 12.1: makes, copies and questions in any order, held against a set of names.
func TestManySteps(t *testing.T) {
	p := rand.New(rand.NewPCG(12, 2))
	for range 30 {
		trees, models := []*Tree{New(nil)}, []map[string]int{{}}
		for range 1500 {
			i := p.IntN(len(trees))
			r, m := trees[i], models[i]
			s := strings.Repeat(".", p.IntN(2)) + strconv.Itoa(p.IntN(220))
			if p.IntN(20) == 0 {
				s = oddNames()[p.IntN(len(oddNames()))]
			}
			want := m[s] > 0 || mayBeName(s) && len(m) < 200
			switch {
			case p.IntN(40) == 0 && len(trees) < 5:
				trees, models = append(trees, r.Copy()), append(models, maps.Clone(m))
				continue
			case p.IntN(4) == 0:
				if r.Has(s) != (m[s] > 0) {
					t.Fatalf("%q: not %v", s, m[s] > 0)
				}
				continue
			}
			if r.Make(s) != want {
				t.Fatalf("Make of %q: not %v", s, want)
			}
			if want {
				m[s]++
			}
		}
		for i, r := range trees {
			want := slices.Sorted(maps.Keys(models[i]))
			if got := r.Names(); !slices.Equal(got, want) {
				t.Fatalf("%q, not %q", got, want)
			}
		}
	}
}

// 12.1: a copy and what it is made of go their own ways, and so do two copies.
func TestCopy(t *testing.T) {
	r := New([]string{"b", "d"})
	c, d := r.Copy(), r.Copy()
	if !r.Make("a") || !c.Make("c") || !d.Make("e") || !r.Make("f") || !c.Copy().Make("g") {
		t.Error("not made")
	}
	for _, x := range []struct {
		r    *Tree
		want string
	}{{r, "a b d f"}, {c, "b c d"}, {d, "b d e"}} {
		want := strings.Fields(x.want)
		if got := x.r.Names(); !slices.Equal(got, want) || !slices.Equal(x.r.Glob(pat.Raw("*")), want) || !slices.Equal(x.r.Copy().Names(), want) {
			t.Errorf("%q, not %q", got, want)
		}
	}
}

// 12.2, W2: files are told as they are: each by its own pattern, with each question again, and none is changed by asking.
func TestAsTheyAre(t *testing.T) {
	names := append(oddNames(), numbered(0, 50)...)
	r := New(names)
	kept := r.Names()
	for range 3 {
		for _, s := range names {
			want := []string{s}
			if !mayBeName(s) {
				want = nil
			}
			if got := r.Glob(pat.Plain(s)); !slices.Equal(got, want) || r.Has(s) != (want != nil) {
				t.Errorf("%q: %q", s, got)
			}
			r.Copy().Make("new")
			r.Glob(pat.Raw(s))
		}
		if l := slices.Sorted(slices.Values(slices.Concat(r.Glob(pat.Raw("*")), r.Glob(pat.Raw(".*"))))); !slices.Equal(l, kept) {
			t.Errorf("%q", l)
		}
		if !slices.Equal(r.Names(), kept) {
			t.Errorf("%q", r.Names())
		}
	}
	if !r.Make("a new one") || !slices.Equal(r.Glob(pat.Raw("a new*")), []string{"a new one"}) {
		t.Error("what is made is not told")
	}
}

// Rule 3: what is handed in stays as it is, its spare room too, and is not kept; an answer is new memory, its spare room too.
func TestMemory(t *testing.T) {
	given := []string{"c", "a/b", "a", "c", "spare", "room"}
	live := []bool{true, true, false, false}
	p := api.Pat{Text: "*c", Live: live[:1:4]}
	r := New(given[:4:6])
	r.Make("d")
	if !slices.Equal(r.Glob(p), []string{"c"}) || !slices.Equal(given, []string{"c", "a/b", "a", "c", "spare", "room"}) || !slices.Equal(live, []bool{true, true, false, false}) {
		t.Error("what was handed in is changed")
	}
	given[0], given[2] = "x", "y"
	for range 3 {
		for _, ask := range []func() []string{r.Names, func() []string { return r.Glob(pat.Raw("*")) }, r.Copy().Names} {
			l := ask()
			if !slices.Equal(l, []string{"a", "c", "d"}) {
				t.Errorf("%q", l)
			}
			for i := range l[:cap(l)] {
				l[:cap(l)][i] = "!"
			}
		}
	}
	r.Make("b")
	if !slices.Equal(r.Names(), []string{"a", "b", "c", "d"}) {
		t.Errorf("%q", r.Names())
	}
}

// askAll makes every call once.
func askAll(r *Tree, s string, p api.Pat) {
	c := r.Copy()
	for _, t := range []*Tree{r, c} {
		t.Has(s)
		t.Make(s)
		t.Glob(p)
		t.Names()
	}
}

// 12.3: whatever is handed in, the calls answer; of a nil tree, and of one that New did not give, too.
func TestNoPanic(t *testing.T) {
	ask := func(r *Tree, s string, p api.Pat) {
		defer func() {
			if x := recover(); x != nil {
				t.Errorf("%q, %q %v: %v", s, p.Text, p.Live, x)
			}
		}()
		askAll(r, s, p)
	}
	texts := append(oddNames(), "[", "[!", "[a", "a]", "[]a]", "[z-a]", strings.Repeat("[", 300), strings.Repeat("*a", 300))
	for _, s := range texts {
		for _, n := range []int{0, 1, len(s) - 1, len(s), len(s) + 1, len(s) + 9} {
			p := api.Pat{Text: s, Live: slices.Repeat([]bool{true}, max(n, 0))}
			for _, r := range []*Tree{nil, {}, New(nil), New(texts), New(numbered(0, 300))} {
				ask(r, s, p)
			}
		}
	}
	var none *Tree
	if none.Make("a") || none.Has("a") || len(none.Names()) != 0 || len(none.Glob(pat.Raw("*"))) != 0 || len(none.Copy().Names()) != 0 {
		t.Error("a nil tree has names")
	}
	if c := none.Copy(); !c.Make("a") || !c.Has("a") {
		t.Error("what is copied of a nil tree takes nothing")
	}
}

// W7: long names, patterns and lists come to an end.
func TestEnds(t *testing.T) {
	done := make(chan bool)
	go func() {
		defer close(done)
		long := strings.Repeat("a", 1<<20)
		var l []string
		for i := range 300_000 {
			l = append(l, strings.Repeat("a", 99)+strconv.Itoa(i), long)
		}
		r := New(l)
		for i := range 200 {
			r.Make(strings.Repeat("a", 99-i%90) + string(rune('b'+i%20)))
		}
		for _, p := range []string{strings.Repeat("*a", 1000) + "c", strings.Repeat("[", 5000), strings.Repeat("*", 20_000), "[" + strings.Repeat("b-z", 5000) + "]", long[:20_000]} {
			askAll(r, p, pat.Raw(p))
		}
	}()
	select {
	case <-done:
	case <-time.After(20 * time.Second):
		t.Fatal("a call does not end")
	}
}
