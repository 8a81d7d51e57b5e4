package print

import (
	"math/rand/v2"
	"reflect"
	"strconv"
	"testing"

	"conch/api"
	"conch/syntax"
)

// richScript tells a script that has things of each kind, each of them more than once where there may be more.
func richScript() string {
	return "a=1 b=\"$c\" d ${e-f \"$g\"} ${h:=i}j ${#k} $((l + 1)) $(m; n \"$(o)\") 'p' >q 2<r >>s\n" +
		"! a|b&&c||d|e; (a;b)>c; { a; b;} <c; if a; then b; elif c; then d; else e; fi >f; while a; do b; done; until a; do b; done\n" +
		"for i do a; done; for i in; do a; done; for i in a b; do c; done; case a in b|'c') d;; e) f; g;; h) ;; esac >i; f() { a; } >b"
}

// change is a way to change something of a tree, and back.
type change struct {
	what     string
	place    bool // is it a place?
	do, undo func()
}

// changes tells each way to change one thing in v.
func changes(v reflect.Value, what string) []change {
	old := reflect.New(v.Type()).Elem()
	old.Set(v)
	to := func(how string, x any) change {
		return change{what + how, false, func() { v.Set(reflect.ValueOf(x)) }, func() { v.Set(old) }}
	}
	var l []change
	switch v.Kind() {
	case reflect.Int:
		return []change{to("+1", int(v.Int())+1), to("-1", int(v.Int())-1)}
	case reflect.Bool:
		return []change{to("!", !v.Bool())}
	case reflect.String:
		l = []change{to("+x", v.String()+"x"), to("+0", v.String()+"\x00")}
		if v.Len() > 0 {
			l = append(l, to("-", v.String()[1:]), to("other", "X"+v.String()[1:]), to("empty", ""))
		}
	case reflect.Struct:
		for i := range v.NumField() {
			name := v.Type().Field(i).Name
			inner := changes(v.Field(i), what+"."+name)
			if name == "At" {
				for i := range inner {
					inner[i].place = true
				}
			}
			l = append(l, inner...)
		}
	case reflect.Slice:
		one := reflect.Zero(v.Type().Elem())
		l = append(l, to("+", reflect.Append(v.Slice3(0, v.Len(), v.Len()), one).Interface()))
		if v.Len() > 0 {
			l = append(l, to("-last", v.Slice(0, v.Len()-1).Interface()), to("-first", v.Slice(1, v.Len()).Interface()), to("twice", reflect.Append(v.Slice3(0, v.Len(), v.Len()), v.Index(v.Len()-1)).Interface()))
		}
		for i := range v.Len() {
			l = append(l, changes(v.Index(i), what+"["+strconv.Itoa(i)+"]")...)
		}
	}
	return l
}

// 11.1: two scripts are the same, if nothing but places is another; each thing that is another makes them two.
func TestSameEach(t *testing.T) {
	a := parsed(t, richScript())
	b := rebuilt(a, same, copied)
	if !reflect.DeepEqual(a, b) {
		t.Fatal("the copy is another")
	}
	text := Cmd(a)
	places, others := 0, 0
	for _, x := range changes(reflect.ValueOf(&b).Elem(), "") {
		x.do()
		if Same(a, b) != x.place || Same(b, a) != x.place || !Same(b, b) {
			t.Errorf("%s: %v, %v", x.what, Same(a, b), Same(b, a))
		}
		if got := Cmd(b); x.place && got != text {
			t.Errorf("%s: %q", x.what, got)
		}
		x.undo()
		if x.place {
			places++
		} else {
			others++
		}
	}
	if !reflect.DeepEqual(a, b) || places < 200 || others < 1500 {
		t.Errorf("%d places, %d others", places, others)
	}
}

// 11.1: what is told hangs neither on places nor on how lists are kept; what is handed in stays as it is, and what is behind it.
func TestHangsOn(t *testing.T) {
	for n := range 3000 {
		m := &maker{Rand: rand.New(rand.NewPCG(13, uint64(n)))}
		s := m.list()
		if n == 0 {
			s = richScript()
		}
		c, _, e := syntax.Parse(s)
		if e != api.OK {
			continue
		}
		text, whole := Cmd(c), rebuilt(c, same, spare)
		d := rebuilt(c, func(int) int { return m.IntN(100) - 50 }, spare)
		if got := Cmd(d); got != text || !Same(c, d) || !Same(d, c) || Cmd(whole) != text || Cmd(bare(c)) != text {
			t.Fatalf("%q: %q, not %q", s, got, text)
		}
		if again := rebuilt(c, same, spare); !reflect.DeepEqual(whole, again) || !reflect.DeepEqual(behind(whole), behind(again)) {
			t.Fatalf("%q: something is changed", s)
		}
		if len(c.Subs) > 0 && len(c.Subs[0].Words) > 0 {
			w, v := c.Subs[0].Words[0], d.Subs[0].Words[0]
			if Word(w) != Word(v) || Word(w) != Word(bare(w)) {
				t.Fatalf("%q: %q, not %q", s, Word(v), Word(w))
			}
		}
	}
}

// behind tells what is behind the lists of x.
func behind[T any](x T) []any {
	var l []any
	rebuilt(x, same, func(v reflect.Value) reflect.Value {
		if v.Cap() > v.Len() {
			l = append(l, v.Slice(0, v.Cap()).Index(v.Len()).Interface())
		}
		return v
	})
	return l
}

// 11.1: scripts that are the same by other bytes, and such that are not.
func TestSame(t *testing.T) {
	for _, x := range [][2]string{
		{"", "\n # a\n"}, {"a", "a;"}, {"a b", " a\t b # c"}, {"a;b", "a\n\nb\n"}, {"'a'", `"a"`}, {"'a'", `\a`}, {"''", `""`}, {"a''", "a\"\""}, {"'ab'", `'a'"b"`}, {"'a'", "'a'''"}, {"ab", "a\\\nb"}, {"$a", "${a}"}, {"$1", "${1}"}, {`"$a"b`, `"${a}"b`}, {"a >b", "a 1>b"}, {"a <b", "a 00<b"}, {">b a", "a>b"}, {"a=b c >d", ">d a=b c"}, {"a&&b", "a &&\n\nb"}, {"a|b", "a |\n b"}, {"(a)", "( a\n)"}, {"{ a;}", "{ a\n}"}, {"if a;then b;elif c;then d;fi", "if a\nthen b\nelse if c;then d\nfi\nfi"}, {"for i do a;done", "for i\n\ndo a\ndone"}, {"for i in;do a;done", "for i\nin\ndo a;done"}, {"case a in b) c;; esac", "case a\nin (b) c\nesac"}, {"f() (a)", "f\\\n ( )\n\n( a )"},
	} {
		if a, b := parsed(t, x[0]), parsed(t, x[1]); !Same(a, b) || !Same(b, a) || Cmd(a) != Cmd(b) {
			t.Errorf("%q, %q: %v, %v", x[0], x[1], Same(a, b), Same(b, a))
		}
	}
	for _, x := range [][2]string{
		{"", "a"}, {"a", "b"}, {"a", "A"}, {"a", "'a'"}, {"a b", "ab"}, {"a b", "b a"}, {"a", "a ''"}, {"a", "a''"}, {"''a", "a''"}, {"a=b", "'a'=b"}, {"a=", "a=''"}, {"$a", `"$a"`}, {"$a", "$b"}, {"$a", `\$a`}, {"${#a}", "${a}"}, {"${a-b}", "${a:-b}"}, {"${a-b}", "${a=b}"}, {"${a%b}", "${a%%b}"}, {"${a-}", "$a"}, {"${a-}", "${a-''}"}, {"$(a)", "$( (a))"}, {"$(a)", "$()"}, {"$((1))", "$(( 1))"}, {`"$a$b"`, `"$a"$b`}, {`"$a$b"`, `"$a"''"$b"`}, {"a;b", "a&&b"}, {"a;b", "(a;b)"}, {"a|b|c", "a|b"}, {"a&&b||c", "a&&b&&c"}, {"! a", "a"}, {"(a)", "((a))"}, {"(a)", "{ a;}"}, {"a>b", "a>>b"}, {"a>b", "a<b"}, {"a>b", "a 2>b"}, {"a>b>c", "a>c>b"}, {"(a)>b", "(a>b)"}, {"if a;then b;elif c;then d;fi>x", "if a;then b;else if c;then d;fi>x;fi"}, {"while a;do b;done", "until a;do b;done"}, {"for i do a;done", "for i in;do a;done"}, {"for i do a;done", "for j do a;done"}, {"case a in b|c) esac", "case a in b) ;; c) esac"}, {"case a in b) esac", "case a in esac"}, {"f() (a)", "g() (a)"}, {"f() (a)", "f;(a)"},
	} {
		if a, b := parsed(t, x[0]), parsed(t, x[1]); Same(a, b) || Same(b, a) || !Same(a, a) || Cmd(a) == Cmd(b) {
			t.Errorf("%q, %q: %v, %v", x[0], x[1], Same(a, b), Same(b, a))
		}
	}
}
