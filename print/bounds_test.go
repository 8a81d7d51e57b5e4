package print

import (
	"math/rand/v2"
	"reflect"
	"strings"
	"testing"
	"time"

	"conch/api"
)

// 11.1: what is as deep as a script may be is told no deeper.
func TestDeep(t *testing.T) {
	for _, x := range [][2]string{
		{"(", ")"}, {"{ ", ";}"}, {"if ", ";then a;fi"}, {"if a;then ", ";fi"}, {"if a;then b;else ", ";fi"}, {"if a;then b;elif c;then ", ";fi"}, {"if a;then b;else if c;then ", ";fi;fi"}, {"if a;then b;else if c;then ", ";fi>x;fi"}, {"while ", ";do a;done"}, {"until a;do ", ";done"}, {"for i do ", ";done"}, {"for i in $(", ");do a;done"}, {"case a in b) ", ";; esac"}, {"case $(", ") in esac"}, {"case a in $(", ")) esac"}, {"f() (", ")"}, {"f() { ", ";}"}, {"a $(", ")"}, {"a $( (", "))"}, {"a=$(", ")"}, {">x$(", ")"}, {"(a)>$( ", ")"}, {"a \"$(", ")\""}, {"a \"${b}c$(", ")\""}, {"a ${b-$(", ")}"}, {"a \"${b:+\"$(", ")\"}\""}, {"! a|b&&c;(", ")"},
	} {
		deepest := 0
		for ahead := range 4 {
			for n := range 45 {
				if checkBack(t, strings.Repeat("(", ahead)+strings.Repeat(x[0], n)+"a $b${c}d $((1))"+strings.Repeat(x[1], n)+strings.Repeat(")", ahead)) {
					deepest = max(deepest, n)
				}
			}
		}
		if deepest < 12 {
			t.Errorf("%q: only %d", x[0], deepest)
		}
	}
	for n := range 41 {
		if !checkWordBack(t, strings.Repeat("${b%", n)+"$c$((1))"+strings.Repeat("}", n)) || n <= 20 && !checkWordBack(t, strings.Repeat("\"$(", n)+strings.Repeat(")\"", n)) {
			t.Errorf("%d one in the other are no word", n)
		}
	}
}

// 11.1: what is as long as a script may be is told no longer, be it written in few bytes.
func TestLong(t *testing.T) {
	for _, s := range []string{
		"a", "a ", "a;", "a\n", "a b;", "a|", "! a;", "a&&", "a||", "a>b;", "a 2>b;", "a>>b ", ">a", "2>a ", "1 >2;", "a=1 ", "a=;", "(a);", "(a)|", "{ a;};", "{ a;}>b;", "if a;then b;fi;", "if a;then b;else c;fi;", "if a;then b;elif c;then d;fi;", "while a;do b;done;", "for i do a;done;", "for i in a;do b;done;", "case a in b)c;;esac;", "case a in esac;", "f()(a);", "f(){ a;};", "i\\\nf;", "a if;", "in;",
		"''a", "'a b'c", `"it's a"`, `\a `, `\ a`, `\'\"`, `a\'`, `"'"b`, "$\\\na", "$a", "$a ", "$1", "$@ ", "$a\\\nb", "${10}", "\"$a\"b", "\"$a b\"", `"$a b'c"d`, `"\$a$b"`, `"a\b$c"`, "\"a\\`$c\"", "''\"$a\"", "${#a}", "${a-b}", "${a:=b c}", "${a%\\\n%}", "${a##b}", "\"${a-$b}\"", "$(a)", "$()", "$( (a))", "\"$(a) b\"", "$((1))", "\xff",
	} {
		whole := strings.Repeat(s, api.MaxScript/len(s))
		// What asks for more has it at its end.
		if !checkBack(t, whole) && !checkBack(t, whole[len(s):]+strings.Repeat("a", len(s))) {
			t.Errorf("%q: is no script", s)
		}
	}
	for _, s := range []string{"'" + strings.Repeat("$", 19998) + "'", "'" + strings.Repeat("\"", 19998) + "'", "\"" + strings.Repeat("'", 19998) + "\"", strings.Repeat("a", 20000), strings.Repeat("\n", 20000), "case a in " + strings.Repeat("b)c;;", 3990) + "\n esac", strings.Repeat("a;", 9990) + "a b c\\", "\"" + strings.Repeat("$a", 9999) + "\"", "for i in " + strings.Repeat("a ", 9900) + ";do b;done"} {
		if !checkBack(t, s) {
			t.Errorf("%.20q: is no script", s)
		}
	}
	for _, s := range []string{strings.Repeat("a", 300000), "'" + strings.Repeat("a;", 100000) + "'", strings.Repeat("\"$a\"b", 30000), "$(" + strings.Repeat("a;", 30000) + ")", strings.Repeat("$\\\na", 20000)} {
		if !checkWordBack(t, s) {
			t.Errorf("%.20q is no word", s)
		}
	}
}

// ended calls f, which must come to an end without a panic.
func ended(t *testing.T, what string, f func()) {
	t.Helper()
	done := make(chan any)
	go func() {
		defer func() { done <- recover() }()
		f()
	}()
	select {
	case x := <-done:
		if x != nil {
			t.Errorf("%s: %v", what, x)
		}
	case <-time.After(20 * time.Second):
		t.Fatalf("%s does not end", what)
	}
}

// calls does all that can be done with a tree, and asks whether it is done twice alike.
func calls(t *testing.T, c api.Cmd) {
	w := api.Word{Parts: []api.Part{{Kind: api.PCmd, Body: []api.Cmd{c}}}}
	if x := Cmd(c); x != Cmd(c) {
		t.Errorf("%q, and then %q", x, Cmd(c))
	}
	if x := Word(w); x != Word(w) {
		t.Errorf("%q, and then %q", x, Word(w))
	}
	Same(c, c)
	if Same(c, api.Cmd{Kind: 99}) || Same(api.Cmd{Kind: 99}, c) {
		t.Error("another is the same")
	}
}

// odd makes trees that no script has.
type odd struct {
	*rand.Rand
	left int
}

// fill fills v with what it may hold, though no script does.
func (o *odd) fill(v reflect.Value) {
	switch v.Kind() {
	case reflect.Int:
		v.SetInt([]int64{0, 1, 2, 3, 4, 5, 6, 7, 8, 9, 10, 11, 12, 13, 14, -1, 1 << 40, -1 << 63}[o.IntN(18)])
	case reflect.Bool:
		v.SetBool(o.IntN(2) == 0)
	case reflect.String:
		v.SetString([]string{"", "a", "if", "'", "\"", "\\", "$", "$a", "${", "\n", "\x00", " ", "a b", "~", "#", "10", ";", "\xff"}[o.IntN(18)])
	case reflect.Struct:
		for i := range v.NumField() {
			o.fill(v.Field(i))
		}
	case reflect.Slice:
		n := o.IntN(4)
		if o.left < n {
			return
		}
		o.left -= n
		l := reflect.MakeSlice(v.Type(), n, n)
		for i := range n {
			o.fill(l.Index(i))
		}
		v.Set(l)
	}
}

// 11.1, 11.3: trees that no script has are some text, and the same as themselves.
func TestOdd(t *testing.T) {
	ended(t, "an odd tree", func() {
		for n := range 30000 {
			o := &odd{rand.New(rand.NewPCG(14, uint64(n))), 30}
			var c api.Cmd
			var w api.Word
			o.fill(reflect.ValueOf(&c).Elem())
			o.fill(reflect.ValueOf(&w).Elem())
			c.Kind = n%16 - 1
			before := rebuilt(c, same, copied)
			calls(t, c)
			if Word(w) != Word(w) || !Same(c, before) || !Same(before, c) || !reflect.DeepEqual(bare(c), bare(before)) {
				t.Fatalf("%+v", c)
			}
		}
		for kind := -2; kind < 20; kind++ {
			for n := range 5 {
				subs := make([]api.Cmd, n)
				calls(t, api.Cmd{Kind: kind, Subs: subs, Words: make([]api.Word, n), Assigns: make([]api.Assign, n), Redirs: make([]api.Redir, n), Items: make([]api.Item, n)})
				Word(api.Word{Parts: []api.Part{{Kind: kind, Quoted: n%2 == 0, Op: kind, Body: subs, Arg: make([]api.Part, n)}}})
			}
		}
	})
}

// 11.3: trees that are within themselves, or far greater or deeper than a script.
func TestEndless(t *testing.T) {
	for kind := range 15 {
		for n := 1; n < 4; n++ {
			c := api.Cmd{Kind: kind, Subs: make([]api.Cmd, n), Words: make([]api.Word, 1), Items: []api.Item{{Pats: make([]api.Word, 1)}}}
			c.Words[0].Parts = []api.Part{{Kind: api.PCmd, Body: c.Subs}}
			c.Items[0].Body = c
			for i := range c.Subs {
				c.Subs[i] = c
			}
			ended(t, "a command in itself", func() { calls(t, c) })
		}
	}
	for kind := range 6 {
		for _, quoted := range []bool{false, true} {
			l := make([]api.Part, 2)
			l[0] = api.Part{Kind: kind, Op: api.VMinus, Quoted: quoted, Arg: l, Body: []api.Cmd{{Kind: api.KSimple, Words: []api.Word{{Parts: l}}}}}
			l[1] = l[0]
			ended(t, "a part in itself", func() { calls(t, api.Cmd{Kind: api.KSimple, Words: []api.Word{{Parts: l}}}) })
		}
	}
	for _, kind := range []int{api.KAnd, api.KSeq, api.KSub, api.KIf, api.KPipe, api.KFunc} {
		double, deep := api.Cmd{Kind: api.KSimple}, api.Cmd{Kind: api.KSimple}
		for range 100 {
			double = api.Cmd{Kind: kind, Subs: []api.Cmd{double, double}}
		}
		for range 1000000 {
			deep = api.Cmd{Kind: kind, Subs: []api.Cmd{deep, {Kind: api.KSimple}}}
		}
		ended(t, "a great tree", func() { calls(t, double) })
		ended(t, "a deep tree", func() { calls(t, deep) })
	}
	arg := []api.Part{{Kind: api.PVar, Name: "a"}}
	for range 1000000 {
		arg = []api.Part{{Kind: api.PVar, Name: "a", Op: api.VMinus, Arg: arg}}
	}
	ended(t, "a deep word", func() { calls(t, api.Cmd{Kind: api.KSimple, Words: []api.Word{{Parts: arg}}}) })
	other := api.Cmd{Kind: api.KIf, Subs: []api.Cmd{{Kind: api.KSeq}, {Kind: api.KSeq}, {Kind: api.KSeq, Subs: make([]api.Cmd, 1)}}}
	other.Subs[2].Subs[0] = other
	ended(t, "an elif in itself", func() { calls(t, other) })
}

// 11.3: texts that are long and often there, in other memory too, and lists that hold nothing, in lists.
func TestWide(t *testing.T) {
	wide := func() api.Cmd {
		parts := []api.Part{{Kind: api.PLit, Quoted: true, Text: strings.Repeat("a'\"$", 250000)}}
		c := api.Cmd{Kind: api.KSimple, Words: make([]api.Word, 1000000)}
		for i := range c.Words {
			c.Words[i].Parts = parts
		}
		return c
	}
	one, two := wide(), wide()
	ended(t, "wide words", func() { calls(t, one); Same(one, two) })
	const n = 200000
	for _, c := range []api.Cmd{{Words: make([]api.Word, n)}, {Assigns: make([]api.Assign, n)}, {Redirs: make([]api.Redir, n)}, {Items: make([]api.Item, n)}, {Subs: make([]api.Cmd, n)}} {
		for _, kind := range []int{api.KSimple, api.KCase, api.KFor} {
			c.Kind, c.In = kind, true
			for i := range c.Items {
				c.Items[i].Pats = make([]api.Word, 1)
			}
			all := make([]api.Cmd, n)
			for i := range all {
				all[i] = c
			}
			ended(t, "wide commands", func() { calls(t, api.Cmd{Kind: api.KSeq, Subs: all}) })
		}
	}
	ended(t, "a long text", func() { Quote(strings.Repeat("'a", 5000000)) })
}
