package alter

import (
	"math"
	"strconv"
	"strings"
	"testing"

	"conch/api"
	"conch/probe"
	"conch/shape"
)

// alphabet has a blank, a byte of patterns, and two that mean nothing.
const alphabet = " *a\xff"

// What several layers are tested with, by short names.
var just, made, orUnset, may = probe.Just, probe.Made, probe.OrUnset, probe.MayBe

// unset is what is surely not set; none is what nothing may be.
var unset, none = api.Shape{U: true}, api.Shape{}

// anything is what leaves all open.
func anything() api.Shape {
	const full = 1<<64 - 1
	return api.Shape{U: true, E: true, Has: api.Set{full - 1, full, full, full}}
}

// setOnes are the shapes of the alphabet that are not unset.
func setOnes() []api.Shape {
	var l []api.Shape
	for _, x := range probe.Shapes(alphabet) {
		if !x.U {
			l = append(l, x)
		}
	}
	return l
}

// outcome is a text that is made; lit, if its shape is known as a literal.
type outcome struct {
	text string
	lit  bool
}

// outcomes tells the short texts that x may be.
func outcomes(x api.Shape) []outcome {
	var l []outcome
	for _, q := range probe.Values(alphabet, 2) {
		if q.Set && may(x, q) {
			l = append(l, outcome{q.Text, x.K})
		}
	}
	return l
}

// least tells the shape that the outcomes are, no more and no less.
func least(l []outcome) api.Shape {
	var all strings.Builder
	empty, one := false, len(l) > 0
	for _, o := range l {
		all.WriteString(o.text)
		empty = empty || o.text == ""
		one = one && o.lit && o.text == l[0].text
	}
	if one {
		return just(l[0].text)
	}
	return made(all.String(), empty)
}

// checkMade holds a shape against what is made.
func checkMade(t *testing.T, got api.Shape, l []outcome, call string, asked ...any) {
	t.Helper()
	for _, o := range l {
		if !shape.May(got, true, o.text) {
			t.Fatalf("%s of %+v: %+v can't be %q", call, asked, got, o.text)
		}
	}
	if want := least(l); got != want || !shape.Ok(got) {
		t.Fatalf("%s of %+v: %+v, not %+v", call, asked, got, want)
	}
}

// 5.1: what is unset is read as empty.
func TestSet(t *testing.T) {
	long := strings.Repeat("a", 64)
	for _, x := range []struct{ x, want api.Shape }{
		{just("a"), just("a")},
		{just("a b"), just("a b")},
		{just(""), just("")},
		{just(long), just(long)},
		{made("ab", false), made("ab", false)},
		{made("ab", true), made("ab", true)},
		{made("", true), made("", true)},
		{none, none},
		{unset, just("")},
		{orUnset(just("a")), made("a", true)},
		{orUnset(just("ab")), made("ab", true)},
		{orUnset(just("")), made("", true)},
		{orUnset(just(long)), made("a", true)},
		{orUnset(made("ab", false)), made("ab", true)},
		{orUnset(made("ab", true)), made("ab", true)},
		{orUnset(made("", true)), made("", true)},
		{anything(), api.Shape{E: true, Has: anything().Has}},
	} {
		if got := Set(x.x); got != x.want {
			t.Errorf("Set(%+v): %+v, not %+v", x.x, got, x.want)
		}
	}
}

// 5.1: a text of one, and one of the other behind it.
func TestCat(t *testing.T) {
	for _, x := range []struct{ a, b, want api.Shape }{
		{just("a"), just("b"), just("ab")},
		{just("b"), just("a"), just("ba")},
		{just("a"), just("a"), just("aa")},
		{just(""), just(""), just("")},
		{just(""), just("a"), just("a")},
		{just("a"), just(""), just("a")},
		{just("\x01"), just("\xff"), just("\x01\xff")},
		{just("a"), made("b", true), made("ab", false)},
		{made("b", true), just("a"), made("ab", false)},
		{just("a"), made("b", false), made("ab", false)},
		{just(""), made("b", true), made("b", true)},
		{made("b", true), just(""), made("b", true)},
		{just(""), made("b", false), made("b", false)},
		{made("", true), just("a"), made("a", false)},
		{made("a", true), made("b", true), made("ab", true)},
		{made("a", true), made("b", false), made("ab", false)},
		{made("a", false), made("b", true), made("ab", false)},
		{made("a", false), made("b", false), made("ab", false)},
		{none, just("a"), none},
		{just("a"), none, none},
		{none, made("a", true), none},
		{made("a", true), none, none},
		{none, just(""), none},
		{none, none, none},
	} {
		if got := Cat(x.a, x.b); got != x.want {
			t.Errorf("Cat(%+v, %+v): %+v, not %+v", x.a, x.b, got, x.want)
		}
	}
}

// 5.1: two literals are kept as one up to 64 bytes.
func TestCatLength(t *testing.T) {
	lengths := []int{0, 1, 2, 31, 32, 33, 62, 63, 64}
	for _, i := range lengths {
		for _, j := range lengths {
			a, b := strings.Repeat("a", i), strings.Repeat("b", j)
			want := just(a + b)
			if i+j > 64 {
				want = shape.Loose(want)
			}
			if got := Cat(just(a), just(b)); got != want {
				t.Errorf("Cat of %d and %d bytes: %+v", i, j, got)
			}
		}
	}
	loose := shape.Lit(strings.Repeat("a", 65))
	if got := Cat(loose, just("")); got != loose {
		t.Errorf("Cat of 65 and no bytes: %+v", got)
	}
}

// 5.1: what is asked without U is taken so, and nothing that is made may be unset.
func TestWithoutUnset(t *testing.T) {
	xs := setOnes()
	for _, a := range xs {
		for _, b := range xs {
			want := Cat(a, b)
			if Cat(orUnset(a), b) != want || Cat(a, orUnset(b)) != want || Cat(orUnset(a), orUnset(b)) != want {
				t.Fatalf("Cat(%+v, %+v) with U", a, b)
			}
			if MaySplit(orUnset(a), b) != MaySplit(a, b) {
				t.Fatalf("MaySplit(%+v, %+v) with U", a, b)
			}
		}
		if Cut(orUnset(a)) != made(string(bytesOf(a)), true) {
			t.Errorf("Cut(%+v) with U: %+v", a, Cut(orUnset(a)))
		}
	}
}

// bytesOf tells the bytes of x's Has.
func bytesOf(x api.Shape) []byte {
	var l []byte
	for c := range 256 {
		if x.Has[c/64]>>(c%64)%2 == 1 {
			l = append(l, byte(c))
		}
	}
	return l
}

// 5.1: what is left may be empty.
func TestCut(t *testing.T) {
	for _, x := range []struct{ x, want api.Shape }{
		{just("ab"), made("ab", true)},
		{just("a"), made("a", true)},
		{just(""), just("")},
		{just(strings.Repeat("a", 64)), made("a", true)},
		{made("a", false), made("a", true)},
		{made("a", true), made("a", true)},
		{made("", true), made("", true)},
		{none, none},
	} {
		if got := Cut(x.x); got != x.want {
			t.Errorf("Cut(%+v): %+v, not %+v", x.x, got, x.want)
		}
	}
}

// 5.1: digits and the minus, and no number is empty.
func TestNumber(t *testing.T) {
	if got := Number(); got != made("0123456789-", false) {
		t.Errorf("Number: %+v", got)
	}
	for _, n := range []int{0, 1, -1, 9, 10, 1234567890, -987654321, math.MaxInt, math.MinInt} {
		if !shape.May(Number(), true, strconv.Itoa(n)) {
			t.Errorf("Number can't be %d", n)
		}
	}
	for _, s := range []string{"", "+1", "1 ", "a", "*", "1.5", "0x1"} {
		if shape.May(Number(), true, s) {
			t.Errorf("Number may be %q", s)
		}
	}
}

// operator is what is asked of the four operators at once.
type operator struct {
	x, w              api.Shape
	colon             bool
	def, given, other api.Shape
}

func (o operator) check(t *testing.T) {
	t.Helper()
	if got := Default(o.x, o.w, o.colon); got != o.def {
		t.Errorf("Default(%+v, %+v, %v): %+v, not %+v", o.x, o.w, o.colon, got, o.def)
	}
	if got := Assigned(o.x, o.w, o.colon); got != o.def {
		t.Errorf("Assigned(%+v, %+v, %v): %+v, not %+v", o.x, o.w, o.colon, got, o.def)
	}
	if got := Given(o.x, o.colon); got != o.given {
		t.Errorf("Given(%+v, %v): %+v, not %+v", o.x, o.colon, got, o.given)
	}
	if got := Other(o.x, o.w, o.colon); got != o.other {
		t.Errorf("Other(%+v, %+v, %v): %+v, not %+v", o.x, o.w, o.colon, got, o.other)
	}
}

// 5.2: without a colon x is used where it is set.
func TestOperators(t *testing.T) {
	w := just("w")
	for _, o := range []operator{
		{just("a"), w, false, just("a"), just("a"), w},
		{just(""), w, false, just(""), just(""), w},
		{made("a", true), w, false, made("a", true), made("a", true), w},
		{made("a", false), w, false, made("a", false), made("a", false), w},
		{made("", true), w, false, made("", true), made("", true), w},
		{unset, w, false, w, none, just("")},
		{unset, just(""), false, just(""), none, just("")},
		{unset, made("w", true), false, made("w", true), none, just("")},
		{orUnset(just("a")), w, false, made("aw", false), just("a"), made("w", true)},
		{orUnset(just("w")), w, false, w, w, made("w", true)},
		{orUnset(just("")), w, false, made("w", true), just(""), made("w", true)},
		{orUnset(just("a")), just(""), false, made("a", true), just("a"), just("")},
		{orUnset(made("a", true)), w, false, made("aw", true), made("a", true), made("w", true)},
		{orUnset(made("a", false)), w, false, made("aw", false), made("a", false), made("w", true)},
		{orUnset(just("a")), none, false, just("a"), just("a"), just("")},
		{just("a"), none, false, just("a"), just("a"), none},
		{none, w, false, none, none, none},
		{anything(), w, false, shape.Of(anything().Has, true), shape.Of(anything().Has, true), made("w", true)},
	} {
		o.check(t)
	}
}

// 5.2: with a colon x is used where it is set and not empty.
func TestOperatorsColon(t *testing.T) {
	w := just("w")
	for _, o := range []operator{
		{just("a"), w, true, just("a"), just("a"), w},
		{just(""), w, true, w, none, just("")},
		{just(""), made("w", true), true, made("w", true), none, just("")},
		{made("a", true), w, true, made("aw", false), made("a", false), made("w", true)},
		{made("a", true), just(""), true, made("a", true), made("a", false), just("")},
		{made("a", false), w, true, made("a", false), made("a", false), w},
		{made("", true), w, true, w, none, just("")},
		{unset, w, true, w, none, just("")},
		{orUnset(just("a")), w, true, made("aw", false), just("a"), made("w", true)},
		{orUnset(just("w")), w, true, w, w, made("w", true)},
		{orUnset(just("")), w, true, w, none, just("")},
		{orUnset(made("a", true)), w, true, made("aw", false), made("a", false), made("w", true)},
		{orUnset(made("a", false)), w, true, made("aw", false), made("a", false), made("w", true)},
		{orUnset(made("", true)), w, true, w, none, just("")},
		{made("a", true), none, true, made("a", false), made("a", false), just("")},
		{just(""), none, true, none, none, just("")},
		{none, w, true, none, none, none},
		{anything(), w, true, shape.Of(anything().Has, false), shape.Of(anything().Has, false), made("w", true)},
	} {
		o.check(t)
	}
}

// 5.2: U and E are asked as they stand there, even where a literal says otherwise.
func TestOperatorsOdd(t *testing.T) {
	w := just("w")
	odd := just("a")
	odd.E = true
	operator{odd, w, false, odd, odd, w}.check(t)
	operator{odd, w, true, api.Shape{E: true, Has: made("aw", false).Has}, odd, made("w", true)}.check(t)
	operator{api.Shape{K: true}, w, true, none, none, none}.check(t)
}

// 5.3: U alone says that it may be unset.
func TestMayUnset(t *testing.T) {
	for _, x := range probe.Shapes(alphabet) {
		if MayUnset(x) != may(x, probe.Value{}) {
			t.Errorf("MayUnset(%+v): %v", x, MayUnset(x))
		}
	}
	if MayUnset(none) || !MayUnset(unset) || !MayUnset(anything()) || MayUnset(just("")) {
		t.Error("MayUnset")
	}
}

// 5.3: what is empty is no field; a byte of IFS makes more than one.
func TestMaySplit(t *testing.T) {
	blanks := just(" \t\n")
	for _, x := range []struct {
		x, ifs api.Shape
		want   bool
	}{
		{just("a b"), blanks, true},
		{just("a\tb"), blanks, true},
		{just("a\nb"), blanks, true},
		{just("a\rb"), blanks, false},
		{just("ab"), blanks, false},
		{just(""), blanks, true},
		{just(""), just(""), true},
		{just(""), none, true},
		{made("a", true), blanks, true},
		{made("a", false), blanks, false},
		{made("a ", false), blanks, true},
		{made("", true), just(":"), true},
		{just("a:b"), just(":"), true},
		{just("a b"), just(":"), false},
		{just("a b"), just(""), false},
		{just("a b"), made("", true), false},
		{just("a b"), none, false},
		{just("a b"), unset, true},
		{just("a\tb"), unset, true},
		{just("a\nb"), unset, true},
		{just("a:b"), unset, false},
		{just("ab"), unset, false},
		{just("a:b"), orUnset(just(":")), true},
		{just("a b"), orUnset(just(":")), true},
		{just("a\tb"), orUnset(just("")), true},
		{just("a;b"), orUnset(just(":")), false},
		{just("a,b"), orUnset(made(",;", false)), true},
		{just("a b"), orUnset(made(",;", false)), true},
		{just("ab"), orUnset(made(",;", false)), false},
		{just("a,b"), made(",;", false), true},
		{just("a;b"), made(",;", true), true},
		{just("a b"), made(",;", true), false},
		{just("ab"), anything(), true},
		{just("\xff"), just("\xff"), true},
		{just("\x01"), just("\x01"), true},
		{none, anything(), false},
		{none, blanks, false},
		{none, unset, false},
		{unset, anything(), false},
		{shape.Lit(strings.Repeat("a", 65)), blanks, false},
		{shape.Lit(strings.Repeat("a", 65) + " "), blanks, true},
		{just("ab"), api.Shape{K: true, Lit: "b"}, true},
		{just("ab"), api.Shape{K: true, Lit: ":", Has: just("b").Has}, false},
	} {
		if got := MaySplit(x.x, x.ifs); got != x.want {
			t.Errorf("MaySplit(%+v, %+v): %v", x.x, x.ifs, got)
		}
	}
}

// 5.3: where IFS is unset, three bytes alone split.
func TestMaySplitUnset(t *testing.T) {
	for c := 1; c < 256; c++ {
		s := string([]byte{byte(c)})
		want := s == " " || s == "\t" || s == "\n"
		for _, ifs := range []api.Shape{unset, orUnset(just("")), orUnset(made("", true))} {
			if got := MaySplit(just(s), ifs); got != want {
				t.Errorf("MaySplit of %q, %+v: %v", s, ifs, got)
			}
		}
	}
}

// 5.3: three bytes alone, wherever they stand.
func TestMayGlob(t *testing.T) {
	for c := 1; c < 256; c++ {
		s := string([]byte{byte(c)})
		want := s == "*" || s == "?" || s == "["
		for _, x := range []api.Shape{just(s), just("a" + s), just(s + "a"), made(s, false), made("a"+s, true), orUnset(just(s))} {
			if got := MayGlob(x); got != want {
				t.Errorf("MayGlob(%+v): %v", x, got)
			}
		}
	}
	if MayGlob(none) || MayGlob(unset) || MayGlob(just("")) || MayGlob(made("", true)) || MayGlob(just("]!-")) || !MayGlob(anything()) {
		t.Error("MayGlob")
	}
}

// 5.4: each value as it is read.
func TestReadIsTold(t *testing.T) {
	for _, x := range probe.Shapes(alphabet) {
		l := outcomes(x)
		if x.U {
			for i := range l {
				l[i].lit = false
			}
			l = append(l, outcome{"", len(l) == 0})
		}
		checkMade(t, Set(x), l, "Set", x)
	}
}

// 5.4: each two values one behind the other.
func TestCatIsTold(t *testing.T) {
	xs := setOnes()
	for _, a := range xs {
		for _, b := range xs {
			var l []outcome
			for _, o := range outcomes(a) {
				for _, p := range outcomes(b) {
					l = append(l, outcome{o.text + p.text, o.lit && p.lit})
				}
			}
			checkMade(t, Cat(a, b), l, "Cat", a, b)
		}
	}
}

// 5.4: each value with something cut off at its front or its end.
func TestCutIsTold(t *testing.T) {
	for _, x := range setOnes() {
		var l []outcome
		for _, o := range outcomes(x) {
			for i := range len(o.text) + 1 {
				l = append(l, outcome{o.text[i:], o.lit}, outcome{o.text[:i], o.lit})
			}
		}
		checkMade(t, Cut(x), l, "Cut", x)
	}
}

// values tells the short ones that x may be.
func values(x api.Shape) []probe.Value {
	var l []probe.Value
	for _, q := range probe.Values(alphabet, 2) {
		if may(x, q) {
			l = append(l, q)
		}
	}
	return l
}

// 5.4: each value of x with each of w, as a shell does it.
func TestOperatorsAreTold(t *testing.T) {
	for _, x := range probe.Shapes(alphabet) {
		for _, w := range setOnes() {
			checkOperators(t, x, w, false)
			checkOperators(t, x, w, true)
		}
	}
}

// checkOperators does on values what the operators do on shapes.
func checkOperators(t *testing.T, x, w api.Shape, colon bool) {
	t.Helper()
	var def, given, other []outcome
	for _, q := range values(x) {
		if q.Set && !(colon && q.Text == "") {
			def = append(def, outcome{q.Text, x.K})
			given = append(given, outcome{q.Text, x.K})
			other = append(other, outcomes(w)...)
		} else {
			def = append(def, outcomes(w)...)
			other = append(other, outcome{"", true})
		}
	}
	checkMade(t, Default(x, w, colon), def, "Default", x, w, colon)
	checkMade(t, Assigned(x, w, colon), def, "Assigned", x, w, colon)
	checkMade(t, Given(x, colon), given, "Given", x, colon)
	checkMade(t, Other(x, w, colon), other, "Other", x, w, colon)
}

// common tells whether two texts have a byte in common.
func common(a, b string) bool {
	for i := range len(a) {
		if strings.IndexByte(b, a[i]) >= 0 {
			return true
		}
	}
	return false
}

// splits tells whether some value of x is not one field, just as it is, by some value of ifs.
func splits(x, ifs api.Shape) bool {
	for _, o := range outcomes(x) {
		for _, q := range values(ifs) {
			by := q.Text
			if !q.Set {
				by = " \t\n"
			}
			if o.text == "" || common(o.text, by) {
				return true
			}
		}
	}
	return false
}

// 5.4: what may split is told, and nothing else.
func TestSplitIsTold(t *testing.T) {
	for _, x := range setOnes() {
		for _, ifs := range probe.Shapes(alphabet) {
			if ifs == none {
				continue
			}
			if got, want := MaySplit(x, ifs), splits(x, ifs); got != want {
				t.Fatalf("MaySplit(%+v, %+v): %v", x, ifs, got)
			}
		}
	}
}

// 5.4: what may be a pattern is told, and nothing else.
func TestGlobIsTold(t *testing.T) {
	for _, x := range probe.Shapes(alphabet) {
		want := false
		for _, o := range outcomes(x) {
			want = want || common(o.text, "*?[")
		}
		if got := MayGlob(x); got != want {
			t.Errorf("MayGlob(%+v): %v", x, got)
		}
	}
}

// 5.5: no call panics, whatever the fields.
func TestNoPanic(t *testing.T) {
	xs := append(probe.OddShapes(), none, unset, anything(), just(""), just("a"), orUnset(just("a")), api.Shape{U: true, E: true, K: true, Lit: strings.Repeat("\x00\xff", 100000)})
	Number()
	for _, a := range xs {
		Set(a)
		Cut(a)
		MayUnset(a)
		MayGlob(a)
		for _, b := range xs {
			Cat(a, b)
			MaySplit(a, b)
			for _, colon := range []bool{false, true} {
				Default(a, b, colon)
				Assigned(a, b, colon)
				Given(a, colon)
				Other(a, b, colon)
			}
		}
	}
}
