package arith

import (
	"math"
	"slices"
	"strings"
	"testing"
	"time"

	"conch/api"
	"conch/probe"
	"conch/text"
)

// values tells a get of some variables.
func values(pairs ...string) func(name string) (string, bool) {
	return func(name string) (string, bool) {
		for i := 0; i < len(pairs); i += 2 {
			if pairs[i] == name {
				return pairs[i+1], true
			}
		}
		return "", false
	}
}

// number tells what a sum is.
func number(t *testing.T, s string, get func(name string) (string, bool)) (int, api.Errno) {
	t.Helper()
	l, at, e := Parse(s)
	if at != 0 || e != api.OK {
		t.Fatalf("Parse of %q: %d, %d", s, at, e)
	}
	return Eval(l, get)
}

// checkParse holds what Parse tells of s against the model.
func checkParse(t *testing.T, s string) bool {
	t.Helper()
	l, at, e := Parse(s)
	wantAt, wantE := faultOf(s)
	var want []api.Op
	if wantE == api.OK {
		x, _ := things(s)
		want = stepsOf(x)
	}
	if at != wantAt || e != wantE || !slices.Equal(l, want) {
		t.Fatalf("Parse of %q: %v, %d, %d, not %v, %d, %d", s, l, at, e, want, wantAt, wantE)
	}
	return e == api.OK
}

// num tells the step of a number.
func num(n int) api.Op { return api.Op{Kind: api.ONum, N: n} }

// name tells the step of a name.
func name(s string) api.Op { return api.Op{Kind: api.OName, Name: s} }

// step tells a step that has a kind alone.
func step(kind int) api.Op { return api.Op{Kind: kind} }

// row tells its steps as a list.
func row(l ...api.Op) []api.Op { return l }

// 8.1: steps, in the order in which they are done.
func TestSteps(t *testing.T) {
	for _, x := range []struct {
		s    string
		want []api.Op
	}{
		{"1", row(num(1))},
		{"007", row(num(7))},
		{"4611686018427387904", row(num(1 << 62))},
		{"a_1", row(name("a_1"))},
		{"_", row(name("_"))},
		{"1 + 2 * 3", row(num(1), num(2), num(3), step(api.OMul), step(api.OAdd))},
		{"(1 + 2) * 3", row(num(1), num(2), step(api.OAdd), num(3), step(api.OMul))},
		{"1-2-3", row(num(1), num(2), step(api.OSub), num(3), step(api.OSub))},
		{"1-(2-3)", row(num(1), num(2), num(3), step(api.OSub), step(api.OSub))},
		{"a-+!b", row(name("a"), name("b"), step(api.ONot), step(api.OPlus), step(api.OSub))},
		{"!a==b", row(name("a"), step(api.ONot), name("b"), step(api.OEq))},
		{"!(a==b)", row(name("a"), name("b"), step(api.OEq), step(api.ONot))},
		{"a!=!b", row(name("a"), name("b"), step(api.ONot), step(api.ONe))},
		{"a<b<=c", row(name("a"), name("b"), step(api.OLt), name("c"), step(api.OLe))},
		{"a==b<c", row(name("a"), name("b"), name("c"), step(api.OLt), step(api.OEq))},
		{"a<b==c", row(name("a"), name("b"), step(api.OLt), name("c"), step(api.OEq))},
		{"a>=b!=c>d", row(name("a"), name("b"), step(api.OGe), name("c"), name("d"), step(api.OGt), step(api.ONe))},
		{"a||b&&c", row(name("a"), name("b"), name("c"), step(api.OAnd), step(api.OOr))},
		{"a&&b||c", row(name("a"), name("b"), step(api.OAnd), name("c"), step(api.OOr))},
		{"a/b%c*d", row(name("a"), name("b"), step(api.ODiv), name("c"), step(api.OMod), name("d"), step(api.OMul))},
		{"- -a", row(name("a"), step(api.ONeg), step(api.ONeg))},
		{"--a", row(name("a"), step(api.ONeg), step(api.ONeg))},
		{"a--b", row(name("a"), name("b"), step(api.ONeg), step(api.OSub))},
		{"a++b", row(name("a"), name("b"), step(api.OPlus), step(api.OAdd))},
		{"\n\t 1\n+\t\ta ", row(num(1), name("a"), step(api.OAdd))},
	} {
		if l, at, e := Parse(x.s); !slices.Equal(l, x.want) || at != 0 || e != api.OK {
			t.Errorf("%q: %v, %d, %d", x.s, l, at, e)
		}
	}
}

// 8.1: two and three signs beside each other, of all rows.
func TestRows(t *testing.T) {
	all := slices.Concat(rows()...)
	if len(all) != 13 {
		t.Fatal(len(all), "signs")
	}
	for _, a := range all {
		checkParse(t, "w"+a+"x")
		for _, b := range all {
			checkParse(t, "w "+a+"!x"+b+" y")
			checkParse(t, "w"+a+"(x"+b+"y)")
			for _, c := range all {
				checkParse(t, "w"+a+"x"+b+"y"+c+"z")
				checkParse(t, "(w"+a+"-x)"+b+"(y"+c+"z)")
			}
		}
	}
}

// 8.1: places of what can't stand there.
func TestFaults(t *testing.T) {
	for _, x := range []struct {
		s  string
		at int
	}{
		{"", 0}, {" ", 1}, {"\t\n ", 3}, {"1 +", 3}, {"1 + ", 4}, {"(", 1}, {")", 0}, {"()", 1}, {"( )", 2}, {"(1", 2}, {"(1 ", 3}, {"1)", 1}, {"(1))", 3}, {"(1(2))", 2},
		{"1 2", 2}, {"1a", 1}, {"a b", 2}, {"a 1", 2}, {"a(1)", 1}, {"(a)b", 3}, {"(a)1", 3}, {"(1)(2)", 3}, {"0x10", 1}, {"1.5", 1}, {"1e5", 1}, {"1_0", 1},
		{"*1", 0}, {"1 * / 2", 4}, {"1 + * 2", 4}, {"-", 1}, {"!", 1}, {"-*1", 1}, {"- )", 2}, {"1 ! 2", 2}, {"1 !2", 2}, {"a!", 1},
		{"a = b", 2}, {"a =", 2}, {"= a", 0}, {"a & b", 2}, {"a | b", 2}, {"& a", 0}, {"|", 0}, {"a &", 2}, {"a +=b", 3}, {"a += 1", 3}, {"-=1", 1},
		{"a === b", 4}, {"a !== b", 4}, {"a <== b", 4}, {"a =< b", 2}, {"a => b", 2}, {"a < = b", 4}, {"a & & b", 2}, {"a &&& b", 4}, {"a &&&& b", 4}, {"a ||| b", 4}, {"a &| b", 2},
		{"a << 1", 3}, {"a >> 1", 3}, {"a <> b", 3}, {"a ** 2", 3}, {"!= 1", 0}, {"1 + != 1", 4}, {"!=", 0}, {"! = 1", 2}, {"== 1", 0}, {"<= 1", 0}, {"&& 1", 0}, {"1 && || 1", 5},
		{"$a", 0}, {"a $ b", 2}, {"a, b", 1}, {"~1", 0}, {"1 ^ 2", 2}, {"a ? b : c", 2}, {"a[0]", 1}, {"{a}", 0}, {"\"1\"", 0}, {"'1'", 0}, {"`", 0}, {"1;", 1}, {"#", 0}, {"\\", 0}, {"a\\\nb", 1},
		{"1\r", 1}, {"\r1", 0}, {"1\x0b+1", 1}, {"1\x0c", 1}, {"1\u00a0+ 1", 1}, {"1 +\u00a01", 3}, {"\x00", 0}, {"1\x00", 1}, {"a\u00e9", 1}, {"\u00e9", 0}, {"1 + \xff", 4}, {"1\u0663", 1}, {"\u0663", 0},
		{"4611686018427387905", 0}, {"1 + 4611686018427387905", 4}, {"-4611686018427387905", 1}, {"99999999999999999999a", 0}, {"1 99999999999999999999", 2}, {"18446744073709551617", 0}, {"(00004611686018427387905)", 1},
	} {
		l, at, e := Parse(x.s)
		if len(l) != 0 || at != x.at || e != api.ErrSyntax {
			t.Errorf("%q: %v, %d, %d", x.s, l, at, e)
		}
		if wantAt, wantE := faultOf(x.s); wantAt != x.at || wantE != api.ErrSyntax {
			t.Errorf("the model of %q: %d, %d", x.s, wantAt, wantE)
		}
	}
}

// 8.1: every byte where one is awaited, and behind one.
func TestBytes(t *testing.T) {
	for c := range 256 {
		s := string([]byte{byte(c)})
		for _, x := range []string{s, s + "1", s + s + "1", "1" + s, "1" + s + "1", "1" + s + s + "1", "1 " + s + " 1", "1" + s + "=1", "a" + s + "a", "(" + s + ")", "1+" + s} {
			checkParse(t, x)
		}
	}
}

// 8.1: all short sums.
func TestShort(t *testing.T) {
	sums := 0
	count := func(s string) {
		if checkParse(t, s) {
			sums++
		}
	}
	probe.Texts([]string{"1", "a", "-", "!", "(", ")", "*", "<", "=", "&", "|", " "}, 5, count)
	probe.Texts([]string{"2", "b_", "-", "(", ")", "%", "!="}, 6, count)
	probe.Texts([]string{"1", "+", "(", ")"}, 8, count)
	if sums < 4000 {
		t.Error(sums, "sums")
	}
}

// 8.1: up to 20 parentheses and signs one in the other.
func TestDeep(t *testing.T) {
	many := strings.Repeat
	deep := many("(", 20) + "1" + many(")", 20)
	for _, x := range []struct {
		s  string
		at int
		e  api.Errno
	}{
		{deep, 0, api.OK},
		{"(" + deep + ")", 20, api.ErrDeep},
		{"-" + deep, 20, api.ErrDeep},
		{" ( " + deep + ")", 22, api.ErrDeep},
		{deep + "*" + deep + "-" + deep, 0, api.OK},
		{"1+(" + deep + ")", 22, api.ErrDeep},
		{"-1-" + deep, 0, api.OK},
		{"-(1)-" + deep, 0, api.OK},
		{many("-", 20) + "1" + "+" + many("!", 20) + "1", 0, api.OK},
		{many("-", 21) + "1", 20, api.ErrDeep},
		{many("+", 21) + "1", 20, api.ErrDeep},
		{many("!", 21) + "1", 20, api.ErrDeep},
		{many("! ", 21) + "1", 40, api.ErrDeep},
		{many("-(", 10) + "1" + many(")", 10), 0, api.OK},
		{many("-(", 10) + "!1" + many(")", 10), 20, api.ErrDeep},
		{many("-(", 10) + "1+-2" + many(")", 10), 22, api.ErrDeep},
		{many("(1+", 20) + "1" + many(")", 20), 0, api.OK},
		{many("(1+", 20) + "-1" + many(")", 20), 60, api.ErrDeep},
		{many("(", 19) + "-1*-1-(-1)" + many(")", 19), 26, api.ErrDeep},
		{many("(", 19) + "-1*-1-(1)" + many(")", 19), 0, api.OK},
		{many("(", 21), 20, api.ErrDeep},
		{many("(", 30) + "$", 20, api.ErrDeep},
		{many("(", 20), 20, api.ErrSyntax},
		{many("(", 20) + ")", 20, api.ErrSyntax},
		{many("(", 20) + "*", 20, api.ErrSyntax},
		{many("(", 20) + "!=1", 20, api.ErrSyntax},
		{many("(", 20) + "1(", 21, api.ErrSyntax},
		{many("(", 20) + "1!1", 21, api.ErrSyntax},
		{"1 1" + many("(", 21), 2, api.ErrSyntax},
		{many("(", 1000), 20, api.ErrDeep},
		{many("(1)+", 1000) + "1", 0, api.OK},
		{many("-1+", 1000) + "1", 0, api.OK},
	} {
		l, at, e := Parse(x.s)
		if at != x.at || e != x.e || (e == api.OK) != (len(l) > 0) {
			t.Errorf("%q: %v, %d, %d", x.s, l, at, e)
		}
		checkParse(t, x.s)
	}
}

// 8.2: the chapter's example, and others.
func TestNumbers(t *testing.T) {
	get := values("a", "5", "b", "-7", "c", "", "e", "007", "z", "-0", "most", "4611686018427387904", "least", "-4611686018427387904")
	for _, x := range []struct {
		s    string
		want int
	}{
		{"1 + 2 * 3", 7}, {"(1 + 2) * 3", 9}, {"7 - 3 - 2", 2}, {"24 / 4 / 2", 3}, {"100 / 10 % 4", 2}, {"2 * 7 % 4", 2},
		{"7 / 2", 3}, {"-7 / 2", -3}, {"7 / -2", -3}, {"-7 / -2", 3}, {"7 % 3", 1}, {"-7 % 3", -1}, {"7 % -3", 1}, {"-7 % -3", -1},
		{"1 < 2", 1}, {"2 < 1", 0}, {"1 < 1", 0}, {"1 <= 1", 1}, {"2 <= 1", 0}, {"2 > 1", 1}, {"1 > 1", 0}, {"1 >= 1", 1}, {"0 >= 1", 0}, {"1 == 1", 1}, {"1 == 2", 0}, {"1 != 1", 0}, {"1 != 2", 1},
		{"3 > 2 > 1", 0}, {"1 < 2 == 1", 1}, {"2 == 1 < 2", 0}, {"1 + 1 == 2", 1}, {"-1 < 0", 1},
		{"0 || 2", 1}, {"0 || 0", 0}, {"-3 || 0", 1}, {"2 && 3", 1}, {"2 && 0", 0}, {"0 && 2", 0}, {"1 || 0 && 0", 1}, {"0 && 0 || 1", 1},
		{"!0", 1}, {"!5", 0}, {"!-1", 0}, {"!!5", 1}, {"--3", 3}, {"+3", 3}, {"-+-3", 3}, {"+-3", -3}, {"-!0", -1},
		{"a + b", -2}, {"c", 0}, {"unset", 0}, {"e", 7}, {"z", 0}, {"-b", 7}, {"!c", 1}, {"most", 1 << 62}, {"least", -1 << 62}, {"most + least", 0},
		{"most * 4", 0}, {"most + most", math.MinInt}, {"least + least", math.MinInt}, {"least + least - 1", math.MaxInt}, {"-(least + least)", math.MinInt},
		{"(least + least) / -1", math.MinInt}, {"(least + least) % -1", 0}, {"(least + least) * -1", math.MinInt},
	} {
		if n, e := number(t, x.s, get); n != x.want || e != api.OK {
			t.Errorf("%q: %d, %d", x.s, n, e)
		}
	}
}

// 8.2: errors as they come; beside one the number is 0.
func TestErrors(t *testing.T) {
	get := values("a", "5", "c", "", "d", "x")
	for _, x := range []struct {
		s string
		e api.Errno
	}{
		{"1 / 0", api.ErrDiv}, {"1 % 0", api.ErrDiv}, {"0 / 0", api.ErrDiv}, {"1 / c", api.ErrDiv}, {"1 % unset", api.ErrDiv}, {"1 / (a - 5)", api.ErrDiv},
		{"0 && 1 / 0", api.ErrDiv}, {"1 || 1 / 0", api.ErrDiv}, {"0 && d", api.ErrNum}, {"1 || d", api.ErrNum}, {"0 * d", api.ErrNum},
		{"1 / 0 + d", api.ErrDiv}, {"d + 1 / 0", api.ErrNum}, {"d / 0", api.ErrNum}, {"0 / d", api.ErrNum}, {"1 / 0 / d", api.ErrDiv}, {"1 / (0 / d)", api.ErrNum},
	} {
		if n, e := number(t, x.s, get); n != 0 || e != x.e {
			t.Errorf("%q: %d, %d", x.s, n, e)
		}
	}
}

// 8.2: what a name's value may be.
func TestValues(t *testing.T) {
	check := func(v string) {
		want, e := 0, api.OK
		if v != "" {
			n, ok := text.Number(strings.TrimPrefix(v, "-"))
			if !ok {
				e = api.ErrNum
			} else if want = n; v[0] == '-' {
				want = -n
			}
		}
		if n, got := Eval(row(name("a")), values("a", v)); n != want || got != e {
			t.Fatalf("%q: %d, %d, not %d, %d", v, n, got, want, e)
		}
		// What a get tells beside a false is no value.
		if n, got := Eval(row(name("a")), func(string) (string, bool) { return v, false }); n != 0 || got != api.OK {
			t.Fatalf("%q, not set: %d, %d", v, n, got)
		}
	}
	probe.Texts([]string{"0", "1", "9", "-", "+", " ", "a", "\n", "\x00", "\xff"}, 4, check)
	for _, v := range []string{"4611686018427387904", "4611686018427387905", "-4611686018427387904", "-4611686018427387905", "-9223372036854775808", "99999999999999999999", "00000000000000000000000001", "-00000000000000000000000001", "0x1", "1e1", "\u0663", "1+1", "(1)", "\u22121", strings.Repeat("0", 10000)} {
		check(v)
	}
}

// 8.2: a get is asked once each time a name stands there, in order, and not behind an error.
func TestAsked(t *testing.T) {
	for _, x := range []struct{ s, want string }{
		{"1", ""}, {"a", "a"}, {"a + a", "a a"}, {"a * b + a - b", "a b a b"}, {"a - b * a", "a b a"}, {"a && b || a", "a b a"}, {"0 && a", "a"}, {"1 || a", "a"},
		{"-a", "a"}, {"(b) + !a", "b a"}, {"b + 1 / 0 + a", "b"}, {"a + bad + b", "a bad"}, {"b / b + a", "b b a"},
	} {
		var asked []string
		number(t, x.s, func(name string) (string, bool) {
			asked = append(asked, name)
			return map[bool]string{false: "3", true: "bad"}[name == "bad"], true
		})
		if got := strings.Join(asked, " "); got != x.want {
			t.Errorf("%q: %q", x.s, got)
		}
	}
	// Each time it is asked, it may tell another value.
	n := 0
	count := func(string) (string, bool) {
		n++
		return text.Digits(n), true
	}
	if x, e := number(t, "a * 100 + a * 10 + a", count); x != 123 || e != api.OK {
		t.Error(x, e)
	}
}

// edges tells numbers at which a sum may go round or be asked.
func edges() []int {
	l := []int{0, 1, 2, 3, 7, 10, 1<<31 - 1, 1 << 31, 1<<32 - 1, 1 << 32, 1<<32 + 1, 3037000500, 1<<62 - 1, 1 << 62, 1<<62 + 1, math.MaxInt - 1, math.MaxInt, math.MinInt, math.MinInt + 1}
	for _, n := range l {
		l = append(l, -n)
	}
	return l
}

// 8.2: every step, of numbers at the edges.
func TestEdges(t *testing.T) {
	for _, a := range edges() {
		for _, l := range [][]api.Op{row(num(a)), row(num(a), step(api.ONeg)), row(num(a), step(api.OPlus)), row(num(a), step(api.ONot))} {
			want, wantE := bigEval(l, nil)
			if n, e := Eval(l, nil); n != want || e != wantE {
				t.Fatalf("%v: %d, %d, not %d, %d", l, n, e, want, wantE)
			}
		}
		for _, b := range edges() {
			for kind := api.OMul; kind <= api.OOr; kind++ {
				want, wantE := bigTwo(kind, a, b)
				if n, e := Eval(row(num(a), num(b), step(kind)), nil); n != want || e != wantE {
					t.Fatalf("step %d of %d, %d: %d, %d, not %d, %d", kind, a, b, n, e, want, wantE)
				}
			}
		}
	}
}

// 8.2: rows of steps that no sum tells, too; fields that a step has no use for say nothing.
func TestAnySteps(t *testing.T) {
	var all []api.Op
	for kind := api.ONum; kind <= api.OOr; kind++ {
		all = append(all, step(kind))
	}
	all = append(all, num(2), num(-3), name("a"), name("d"), step(0), step(-1), step(19), step(math.MinInt), api.Op{Kind: api.ONeg, N: 9, Name: "d"}, api.Op{Kind: api.OSub, N: 9, Name: "d"}, api.Op{Kind: api.ONum, N: 4, Name: "d"}, api.Op{Kind: api.OName, N: 4, Name: "a"})
	get := values("a", "6", "d", "x")
	value := func(name string) (int, bool) { return map[string]int{"a": 6}[name], name != "d" }
	var check func(l []api.Op, most int)
	check = func(l []api.Op, most int) {
		want, wantE := bigEval(l, value)
		if n, e := Eval(l, get); n != want || e != wantE {
			t.Fatalf("%v: %d, %d, not %d, %d", l, n, e, want, wantE)
		}
		for _, op := range all {
			if most > 0 {
				check(append(slices.Clone(l), op), most-1)
			}
		}
	}
	check(nil, 3)
	check(row(num(7), num(-2)), 3)
}

// 8.2: ErrSyntax of steps that can't be done, as it comes.
func TestNotDone(t *testing.T) {
	get := values("d", "x")
	for i, x := range []struct {
		l []api.Op
		e api.Errno
	}{
		{nil, api.ErrSyntax}, {row(), api.ErrSyntax}, {row(num(1), num(2)), api.ErrSyntax}, {row(step(api.ONeg)), api.ErrSyntax}, {row(step(api.OPlus), num(1)), api.ErrSyntax},
		{row(num(1), step(api.OAdd)), api.ErrSyntax}, {row(num(0), step(api.ODiv)), api.ErrSyntax}, {row(step(99)), api.ErrSyntax}, {row(num(1), step(0)), api.ErrSyntax},
		{row(num(1), num(0), step(api.ODiv), step(api.OAdd)), api.ErrDiv}, {row(num(1), num(0), step(api.OMod), step(99)), api.ErrDiv},
		{row(name("d"), step(api.OAdd)), api.ErrNum}, {row(step(api.OAdd), name("d")), api.ErrSyntax}, {row(step(99), num(1), num(0), step(api.ODiv)), api.ErrSyntax},
		{row(num(1), name("d"), num(2)), api.ErrNum}, {row(num(1), num(1), num(0), step(api.ODiv)), api.ErrDiv},
	} {
		if n, e := Eval(x.l, get); n != 0 || e != x.e {
			t.Errorf("case %d: %d, %d", i, n, e)
		}
	}
}

// 8.2: all names, in order.
func TestNames(t *testing.T) {
	for _, x := range []struct{ s, want string }{
		{"1", ""}, {"a", "a"}, {"a + -2 * b", "a b"}, {"x || x", "x x"}, {"b - a - b", "b a b"}, {"(c * b) - !a", "c b a"}, {"a1 + _a + A", "a1 _a A"},
	} {
		l, _, _ := Parse(x.s)
		if got := strings.Join(Names(l), " "); got != x.want {
			t.Errorf("%q: %q", x.s, got)
		}
	}
	if l := Names(nil); len(l) != 0 {
		t.Error(l)
	}
	odd := row(step(99), name("b"), step(api.OAdd), api.Op{Kind: api.ONum, Name: "x"}, api.Op{Kind: api.OOr, Name: "y"}, name(""), name("b"), name("$"))
	if l := Names(odd); !slices.Equal(l, []string{"b", "", "b", "$"}) {
		t.Errorf("%q", l)
	}
}

// 8.3: what is read can be done: it is one number, or an error of its values.
func TestOneNumber(t *testing.T) {
	get := values("a", "-2", "b", "x")
	seen := [20]int{}
	probe.Texts([]string{"0", "1", "a", "b", "-", "!", "/", "(", ")", "&&"}, 5, func(s string) {
		l, at, e := Parse(s)
		if (e == api.OK) != (len(l) > 0) || e == api.OK && at != 0 || at < 0 || at > len(s) || e != api.OK && e != api.ErrSyntax {
			t.Fatalf("%q: %v, %d, %d", s, l, at, e)
		}
		if e != api.OK {
			return
		}
		n, e := Eval(l, get)
		seen[e]++
		if e != api.OK && n != 0 || e != api.OK && e != api.ErrDiv && e != api.ErrNum {
			t.Fatalf("%q: %d, %d", s, n, e)
		}
	})
	if seen[api.OK] < 1000 || seen[api.ErrDiv] < 100 || seen[api.ErrNum] < 100 {
		t.Error(seen)
	}
}

// 8.3: what is told of a number is a sum, and it is that number, up to 2^62 on both sides.
func TestToldNumber(t *testing.T) {
	for _, n := range edges() {
		if x, e := number(t, text.Digits(n/2), nil); x != n/2 || e != api.OK {
			t.Errorf("%d: %d, %d", n/2, x, e)
		}
	}
}

// W2: the same is answered again; rule 3: what is handed in stays as it is, its spare room too, and an answer is new memory.
func TestMemory(t *testing.T) {
	const s = "a + 2 * b"
	want := row(name("a"), num(2), name("b"), step(api.OMul), step(api.OAdd))
	get := values("a", "1", "b", "3")
	for range 3 {
		l, _, _ := Parse(s)
		if !slices.Equal(l, want) {
			t.Fatal(l)
		}
		room := append(slices.Clone(l), num(8), num(9))
		held := room[: len(l) : len(l)+2]
		if n, e := Eval(held, get); n != 7 || e != api.OK || !slices.Equal(Names(held), []string{"a", "b"}) {
			t.Fatal(n, e)
		}
		if !slices.Equal(room, append(slices.Clone(want), num(8), num(9))) {
			t.Fatal("what was handed in is changed")
		}
		names := Names(l)
		_ = append(names[:1], "x", "x", "x")
		_ = append(l[:1], num(0), num(0), num(0), num(0), num(0), num(0), num(0))
		names[0], l[0] = "x", num(0)
		if again, _, _ := Parse(s); !slices.Equal(again, want) || !slices.Equal(Names(want), []string{"a", "b"}) {
			t.Fatal("two answers share memory")
		}
	}
}

// 8.2: where there is no get, no name is set.
func TestNoGet(t *testing.T) {
	for _, x := range []struct {
		s    string
		want int
		e    api.Errno
	}{{"a", 0, api.OK}, {"!a + a", 1, api.OK}, {"7 - a", 7, api.OK}, {"1 / a", 0, api.ErrDiv}} {
		if n, e := number(t, x.s, nil); n != x.want || e != x.e {
			t.Errorf("%q: %d, %d", x.s, n, e)
		}
	}
}

// 8.2: a get may ask for sums itself.
func TestGetAsks(t *testing.T) {
	deep := 0
	var get func(name string) (string, bool)
	get = func(string) (string, bool) {
		if deep++; deep > 5 {
			return "1", true
		}
		n, _ := number(t, "a * 2", get)
		return text.Digits(n), true
	}
	if n, e := number(t, "a + 1", get); n != 33 || e != api.OK {
		t.Error(n, e)
	}
}

// 8.4, W7: no call panics, whatever it is given.
func TestNoPanic(t *testing.T) {
	defer func() {
		if r := recover(); r != nil {
			t.Error(r)
		}
	}()
	many := strings.Repeat
	probe.Texts([]string{"\x00", "\xff", "\u00e9", "(", ")", "9", "a", "-", "=", " "}, 4, func(s string) {
		l, _, _ := Parse(s)
		Eval(l, nil)
		Names(l)
	})
	for _, s := range []string{many("(", 100000), many("-", 100000), many(")", 100000), many("9", 100000), many("a", 100000), many("&", 100000), many("1+", 100000), many("\x00", 100000)} {
		l, _, _ := Parse(s)
		Eval(l, nil)
	}
	odd := []int{math.MinInt, -1, 0, api.ONum, api.OName, api.ONeg, api.ODiv, api.OMod, api.OOr, api.OOr + 1, math.MaxInt}
	for _, a := range odd {
		for _, b := range odd {
			for _, c := range odd {
				l := row(step(a), step(b), step(c), num(math.MinInt), num(-1), step(api.ODiv), num(-1), step(api.OMod))
				Eval(l, nil)
				Eval(l[3:], nil)
				Names(l)
			}
		}
	}
	// A get that panics has told no number.
	for _, s := range []string{"a", "1 + a", "a / 0", "a || 1"} {
		if n, e := number(t, s, func(string) (string, bool) { panic("no value") }); n != 0 || e != api.ErrNum {
			t.Errorf("%q: %d, %d", s, n, e)
		}
	}
}

// W7: long sums end; what goes through them again and again is far from its end after the time that is given.
func TestEnds(t *testing.T) {
	const n = 1 << 20
	many := strings.Repeat
	done := make(chan bool)
	go func() {
		for _, s := range []string{many("1+", n) + "1", many("1||2&&3==4<5+6*", n/8) + "7", many("(a)-", n) + many("b", n), many(" ", n) + "1" + many("\n", n) + "*" + many("\t", n) + "1", many("0", n) + "7", many("(", 20) + many(" ", n) + "1" + many(" ", n) + many(") ", 20), many("-", n)} {
			l, _, _ := Parse(s)
			Eval(l, values("a", many("0", 10)+"1"))
			Names(l)
		}
		close(done)
	}()
	select {
	case <-done:
	case <-time.After(20 * time.Second):
		t.Fatal("not at its end")
	}
}
