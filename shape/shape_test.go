package shape

import (
	"strings"
	"testing"

	"conch/api"
	"conch/probe"
)

// alphabet has a byte of each of a set's four numbers.
const alphabet = "\x01a\x80\xff"

// What several layers are tested with, by short names.
var just, made, orUnset, setOf, odd, may = probe.Just, probe.Made, probe.OrUnset, probe.SetOf, probe.OddShapes, probe.MayBe

// all is the set of all bytes but 0.
func all() api.Set {
	const full = 1<<64 - 1
	return api.Set{full - 1, full, full, full}
}

// shapes are those of the alphabet, and some beyond it.
func shapes() []api.Shape {
	return append(probe.Shapes(alphabet), api.Shape{U: true, E: true, Has: all()}, made("abc", true), just("abc"), just(strings.Repeat("a", 64)))
}

// values are enough to tell any two of the shapes apart: texts one byte longer than their literals, too.
func values() []probe.Value {
	l := probe.Values(alphabet, 3)
	for _, s := range []string{"abc", "abcd", strings.Repeat("a", 64), strings.Repeat("a", 65), "\x00", "\x00\x00", "a\x00"} {
		l = append(l, probe.Value{Set: true, Text: s})
	}
	return l
}

// profile tells which of the values x may be.
func profile(x api.Shape, l []probe.Value) []bool {
	got := make([]bool, len(l))
	for i, q := range l {
		got[i] = may(x, q)
	}
	return got
}

// profiles tells it of each of the shapes.
func profiles(xs []api.Shape, l []probe.Value) [][]bool {
	var got [][]bool
	for _, x := range xs {
		got = append(got, profile(x, l))
	}
	return got
}

// within tells whether all that is true in a is true in b.
func within(a, b []bool) bool {
	for i := range a {
		if a[i] && !b[i] {
			return false
		}
	}
	return true
}

// 4.1: a literal is kept up to 64 bytes; with a byte 0, or longer, its bytes are told, byte 0 not.
func TestLit(t *testing.T) {
	long := strings.Repeat("b", 66)
	for _, x := range []struct {
		s    string
		want api.Shape
	}{
		{"", just("")},
		{"a", just("a")},
		{"ab", just("ab")},
		{"aba", just("aba")},
		{"é\xff", just("é\xff")},
		{" \t\n*", just(" \t\n*")},
		{long[:63], just(long[:63])},
		{long[:64], just(long[:64])},
		{long[:65], made("b", false)},
		{long, made("b", false)},
		{strings.Repeat("é", 32), just(strings.Repeat("é", 32))},
		{strings.Repeat("é", 33), made("é", false)},
		{strings.Repeat("xyz\x00", 5000), made("xyz", false)},
		{"a\x00", made("a", false)},
		{"\x00a", made("a", false)},
		{"a\x00b", made("ab", false)},
		{"\x00", api.Shape{}},
		{strings.Repeat("\x00", 64), api.Shape{}},
		{strings.Repeat("\x00", 65), api.Shape{}},
	} {
		if got := Lit(x.s); got != x.want {
			t.Errorf("Lit(%q): %+v, not %+v", x.s, got, x.want)
		}
	}
}

// 4.1: a text without a byte 0 may be its own shape, whether it is kept or not.
func TestLitMayBe(t *testing.T) {
	probe.Texts([]string{"a", "\xff", " ", strings.Repeat("b", 31)}, 4, func(s string) {
		x := Lit(s)
		if !Ok(x) || !May(x, true, s) || May(x, false, "") {
			t.Errorf("Lit(%q): %+v", s, x)
		}
		if x.K != (len(s) <= 64) || x.K && May(x, true, s+"a") {
			t.Errorf("Lit(%q) is kept: %v", s, x.K)
		}
	})
}

// 4.1: Of takes the bytes as they are, but byte 0.
func TestOf(t *testing.T) {
	for _, s := range []string{"", "a", "ab", alphabet, "*?["} {
		for _, empty := range []bool{false, true} {
			for _, more := range []string{"", "\x00"} {
				if got := Of(setOf(s+more), empty); got != made(s, empty) {
					t.Errorf("Of(%q, %v): %+v", s+more, empty, got)
				}
			}
		}
	}
	const full = 1<<64 - 1
	if got := Of(api.Set{full, full, full, full}, false); got != (api.Shape{Has: all()}) {
		t.Errorf("Of all bytes: %+v", got)
	}
}

// 4.1: Any may be all, Unset is not set.
func TestAnyUnset(t *testing.T) {
	if got := Any(); got != (api.Shape{U: true, E: true, Has: all()}) {
		t.Errorf("Any: %+v", got)
	}
	if got := Unset(); got != (api.Shape{U: true}) {
		t.Errorf("Unset: %+v", got)
	}
	for _, q := range values() {
		if got, want := May(Any(), q.Set, q.Text), !strings.Contains(q.Text, "\x00"); got != want {
			t.Errorf("May of Any, %v: %v", q, got)
		}
		if got := May(Unset(), q.Set, q.Text); got == q.Set {
			t.Errorf("May of Unset, %v: %v", q, got)
		}
	}
}

// 4.1: the fields of what the package makes agree.
func TestOk(t *testing.T) {
	for _, x := range shapes() {
		if !Ok(x) {
			t.Errorf("Ok of %+v: false", x)
		}
	}
	for _, x := range odd() {
		if Ok(x) {
			t.Errorf("Ok of %+v: true", x)
		}
	}
}

// 4.1: cases of each kind.
func TestMay(t *testing.T) {
	for _, x := range []struct {
		x    api.Shape
		set  bool
		v    string
		want bool
	}{
		{just("ab"), true, "ab", true},
		{just("ab"), true, "ba", false},
		{just("ab"), true, "a", false},
		{just("ab"), true, "abab", false},
		{just("ab"), true, "", false},
		{just("ab"), false, "ab", false},
		{just(""), true, "", true},
		{just(""), true, "a", false},
		{orUnset(just("ab")), false, "", true},
		{orUnset(just("ab")), false, "never asked", true},
		{orUnset(just("ab")), true, "ab", true},
		{orUnset(just("ab")), true, "", false},
		{made("ab", false), true, "abba", true},
		{made("ab", false), true, "abc", false},
		{made("ab", false), true, "", false},
		{made("ab", true), true, "", true},
		{made("ab", true), true, "b", true},
		{made("ab", true), false, "", false},
		{made("", true), true, "", true},
		{made("", true), true, "a", false},
		{made("a", false), true, strings.Repeat("a", 10000), true},
		{made("a", false), true, strings.Repeat("a", 10000) + "b", false},
		{made("a", false), true, "a\x00", false},
		{api.Shape{}, true, "", false},
		{api.Shape{}, true, "a", false},
		{api.Shape{}, false, "", false},
		{Unset(), false, "", true},
		{Unset(), true, "", false},
	} {
		if got := May(x.x, x.set, x.v); got != x.want {
			t.Errorf("May(%+v, %v, %q): %v", x.x, x.set, x.v, got)
		}
	}
}

// 4.1: May of every shape and value, of shapes whose fields do not agree, too.
func TestMayOfAll(t *testing.T) {
	for _, x := range append(shapes(), odd()...) {
		for _, q := range values() {
			if got := May(x, q.Set, q.Text); got != may(x, q) {
				t.Errorf("May(%+v, %v): %v", x, q, got)
			}
		}
	}
}

// 4.1: None is what no value may be.
func TestNone(t *testing.T) {
	l := values()
	for _, x := range shapes() {
		none := within(profile(x, l), make([]bool, len(l)))
		if None(x) != none {
			t.Errorf("None(%+v): %v", x, !none)
		}
	}
	for _, x := range []struct {
		x    api.Shape
		want bool
	}{
		{api.Shape{}, true}, {Lit("\x00"), true}, {Of(setOf("\x00"), false), true}, {api.Shape{Lit: "a"}, true},
		{Unset(), false}, {just(""), false}, {made("", true), false}, {made("\xff", false), false}, {api.Shape{K: true}, false},
	} {
		if None(x.x) != x.want {
			t.Errorf("None(%+v): %v", x.x, !x.want)
		}
	}
}

// 4.2: Loose takes the literal away and nothing else; it may be no less.
func TestLoose(t *testing.T) {
	for _, x := range append(shapes(), odd()...) {
		if got := Loose(x); got != (api.Shape{U: x.U, E: x.E, Has: x.Has}) {
			t.Errorf("Loose(%+v): %+v", x, got)
		}
	}
	l := values()
	for _, x := range shapes() {
		if !Ok(Loose(x)) || !Leq(x, Loose(x)) || !within(profile(x, l), profile(Loose(x), l)) {
			t.Errorf("Loose(%+v) is less", x)
		}
	}
}

// 4.2: the document's example, and a join of each kind, from both sides.
func TestJoin(t *testing.T) {
	for _, x := range []struct{ a, b, want api.Shape }{
		{just("a"), just("b"), made("ab", false)},
		{just("a"), just("a"), just("a")},
		{just(""), just(""), just("")},
		{just("ab"), just("ba"), made("ab", false)},
		{just("a"), just("aa"), made("a", false)},
		{just(""), just("a"), made("a", true)},
		{just("a"), made("a", false), made("a", false)},
		{just("a"), made("b", true), made("ab", true)},
		{just(""), made("", true), made("", true)},
		{made("a", false), made("b", false), made("ab", false)},
		{made("a", true), made("b", false), made("ab", true)},
		{made("\x01", false), made("\xff", false), made("\x01\xff", false)},
		{api.Shape{}, api.Shape{}, api.Shape{}},
		{api.Shape{}, just("a"), just("a")},
		{api.Shape{}, made("a", true), made("a", true)},
		{api.Shape{}, Unset(), Unset()},
		{api.Shape{}, Any(), Any()},
		{Unset(), Unset(), Unset()},
		{Unset(), just("a"), orUnset(just("a"))},
		{Unset(), just(""), orUnset(just(""))},
		{Unset(), made("a", false), orUnset(made("a", false))},
		{Unset(), made("", true), orUnset(made("", true))},
		{Unset(), orUnset(just("a")), orUnset(just("a"))},
		{just("a"), orUnset(just("a")), orUnset(just("a"))},
		{just("a"), orUnset(just("b")), orUnset(made("ab", false))},
		{orUnset(just("a")), orUnset(just("b")), orUnset(made("ab", false))},
		{Any(), just("a"), Any()},
		{Any(), Unset(), Any()},
		{just(strings.Repeat("a", 64)), just(strings.Repeat("a", 64)), just(strings.Repeat("a", 64))},
		{just(strings.Repeat("a", 64)), Lit(strings.Repeat("a", 65)), made("a", false)},
	} {
		if got := Join(x.a, x.b); got != x.want {
			t.Errorf("Join(%+v, %+v): %+v", x.a, x.b, got)
		}
		if got := Join(x.b, x.a); got != x.want {
			t.Errorf("Join(%+v, %+v): %+v", x.b, x.a, got)
		}
	}
}

// 4.2: with one that is None the other stays as it is, even if its fields do not agree.
func TestJoinOfNone(t *testing.T) {
	for _, x := range append(shapes(), odd()...) {
		if got := Join(api.Shape{}, x); got != x {
			t.Errorf("Join of None and %+v: %+v", x, got)
		}
		if got := Join(x, api.Shape{}); got != x && !None(x) {
			t.Errorf("Join of %+v and None: %+v", x, got)
		}
	}
}

// 4.3: what may be stays in each join; the fields of the join agree, and it hangs on no side.
func TestJoinKeepsWhatMayBe(t *testing.T) {
	xs, l := shapes(), values()
	may := profiles(xs, l)
	for i, a := range xs {
		for j, b := range xs {
			x := Join(a, b)
			got := profile(x, l)
			if !Ok(x) || !within(may[i], got) || !within(may[j], got) || !Leq(a, x) || !Leq(b, x) {
				t.Fatalf("Join(%+v, %+v): %+v", a, b, x)
			}
			if x != Join(b, a) || x.U != (a.U || b.U) {
				t.Fatalf("Join(%+v, %+v): %+v, but %+v", a, b, x, Join(b, a))
			}
		}
		if Join(a, a) != a {
			t.Errorf("Join(%+v) with itself: %+v", a, Join(a, a))
		}
	}
}

// 4.3: nor is more in a join than there must be: it is within every shape that both are within.
func TestJoinIsLeast(t *testing.T) {
	xs, l := shapes(), values()
	may := profiles(xs, l)
	for i, a := range xs {
		if i%3 != 0 {
			continue
		}
		for j, b := range xs {
			got := profile(Join(a, b), l)
			for k, c := range xs {
				if within(may[i], may[k]) && within(may[j], may[k]) && !within(got, may[k]) {
					t.Fatalf("Join(%+v, %+v): not within %+v", a, b, c)
				}
			}
		}
	}
}

// 4.2: cases of each kind.
func TestLeq(t *testing.T) {
	for _, x := range []struct {
		a, b api.Shape
		want bool
	}{
		{just("a"), made("ab", false), true},
		{just("c"), made("ab", false), false},
		{just(""), made("ab", false), false},
		{just(""), made("", true), true},
		{made("", true), just(""), true},
		{made("", true), just("a"), false},
		{made("", true), api.Shape{K: true, Lit: "a", E: true}, false},
		{made("a", false), just("a"), false},
		{made("a", true), just("a"), false},
		{made("a", true), just(""), false},
		{just("a"), just("a"), true},
		{just("a"), just("b"), false},
		{just("a"), orUnset(just("a")), true},
		{orUnset(just("a")), just("a"), false},
		{orUnset(just("a")), orUnset(just("a")), true},
		{made("ab", false), made("abc", false), true},
		{made("abc", false), made("ab", false), false},
		{made("a", false), made("a", true), true},
		{made("a", true), made("a", false), false},
		{api.Shape{}, api.Shape{}, true},
		{api.Shape{}, just("a"), true},
		{api.Shape{}, Unset(), true},
		{just("a"), api.Shape{}, false},
		{Unset(), api.Shape{}, false},
		{Unset(), made("a", true), false},
		{Unset(), Unset(), true},
		{Unset(), Any(), true},
		{Any(), Unset(), false},
		{Any(), Any(), true},
		{Any(), Of(all(), true), false},
		{Of(all(), true), Any(), true},
		{Lit(strings.Repeat("a", 65)), just(strings.Repeat("a", 64)), false},
		{just(strings.Repeat("a", 64)), Lit(strings.Repeat("a", 65)), true},
	} {
		if got := Leq(x.a, x.b); got != x.want {
			t.Errorf("Leq(%+v, %+v): %v", x.a, x.b, got)
		}
	}
}

// 4.2: Leq of every two shapes is told by the values that they may be.
func TestLeqOfAll(t *testing.T) {
	xs, l := append(shapes(), odd()...), append(values(), probe.Value{Set: true, Text: "ab"}, probe.Value{Set: true, Text: strings.Repeat("ab", 5000)})
	may := profiles(xs, l)
	for i, a := range xs {
		for j, b := range xs {
			if got, want := Leq(a, b), within(may[i], may[j]); got != want {
				t.Errorf("Leq(%+v, %+v): %v", a, b, got)
			}
		}
	}
}

// 4.4: no call panics, whatever the fields.
func TestNoPanic(t *testing.T) {
	xs := append(odd(), api.Shape{}, Any(), Unset(), Lit(""), Lit("a"), api.Shape{U: true, E: true, K: true, Lit: strings.Repeat("\x00\xff", 100000)})
	for _, a := range xs {
		Ok(a)
		None(a)
		Loose(a)
		Lit(a.Lit)
		Of(a.Has, a.E)
		for _, b := range xs {
			Join(a, b)
			Leq(a, b)
			May(a, b.U, b.Lit)
			May(a, true, b.Lit)
		}
	}
}
