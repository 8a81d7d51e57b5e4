package syntax

import (
	"strings"
	"testing"

	"conch/api"
)

// 10.3, 10.4: lists, their ends, and the chapter's example.
func TestLists(t *testing.T) {
	checkScripts(t, withPlaces, []pair{
		{"", "0:Q{}"},
		{" ", "0:Q{}"},
		{"\n\n", "0:Q{}"},
		{"# a", "0:Q{}"},
		{" \\\n\t# a\n \n#", "0:Q{}"},
		{"a; b", "0:Q{0:S{0:[0:'a']} 3:S{3:[3:'b']}}"},
		{"a\nb", "0:Q{0:S{0:[0:'a']} 2:S{2:[2:'b']}}"},
		{"\n\n a;\n\nb\n\nc", "3:Q{3:S{3:[3:'a']} 7:S{7:[7:'b']} 10:S{10:[10:'c']}}"},
		{"a;", "0:Q{0:S{0:[0:'a']}}"},
		{"a;\n", "0:Q{0:S{0:[0:'a']}}"},
		{"a\n", "0:Q{0:S{0:[0:'a']}}"},
		{"a # b\n# c\nd", "0:Q{0:S{0:[0:'a']} 10:S{10:[10:'d']}}"},
		{"a;#b\nc", "0:Q{0:S{0:[0:'a']} 5:S{5:[5:'c']}}"},
		{"a b\\\n c\\\n", "0:Q{0:S{0:[0:'a'] 2:[2:'b'] 6:[6:'c']}}"},
		{"a#b #c", "0:Q{0:S{0:[0:'a#b']}}"},
	})
}

// 10.3: what is put together of commands.
func TestPipelines(t *testing.T) {
	checkScripts(t, withPlaces, []pair{
		{"a|b", "0:Q{0:P{0:S{0:[0:'a']} 2:S{2:[2:'b']}}}"},
		{"a | \n\n b|c", "0:Q{0:P{0:S{0:[0:'a']} 7:S{7:[7:'b']} 9:S{9:[9:'c']}}}"},
		{" ! a", "1:Q{1:P!{3:S{3:[3:'a']}}}"},
		{"! a|b", "0:Q{0:P!{2:S{2:[2:'a']} 4:S{4:[4:'b']}}}"},
		{"!(a)", "0:Q{0:P!{1:Sub{2:Q{2:S{2:[2:'a']}}}}}"},
		{"!>a", "0:Q{0:P!{1:S{1:1>2:[2:'a']}}}"},
		{"!a", "0:Q{0:S{0:[0:'!a']}}"},
		{"!$a", "0:Q{0:S{0:[0:'!' 1:$a]}}"},
		{"a !", "0:Q{0:S{0:[0:'a'] 2:[2:'!']}}"},
		{"'!' a", "0:Q{0:S{0:[0:\"'!'] 4:[4:'a']}}"},
		{"a&&b", "0:Q{0:And{0:S{0:[0:'a']} 3:S{3:[3:'b']}}}"},
		{"a||\n\nb", "0:Q{0:Or{0:S{0:[0:'a']} 5:S{5:[5:'b']}}}"},
		{"a && b || c && d", "0:Q{0:And{0:Or{0:And{0:S{0:[0:'a']} 5:S{5:[5:'b']}} 10:S{10:[10:'c']}} 15:S{15:[15:'d']}}}"},
		{"a || b && c", "0:Q{0:And{0:Or{0:S{0:[0:'a']} 5:S{5:[5:'b']}} 10:S{10:[10:'c']}}}"},
		{"! a && ! b | c", "0:Q{0:And{0:P!{2:S{2:[2:'a']}} 7:P!{9:S{9:[9:'b']} 13:S{13:[13:'c']}}}}"},
		{"a | b && c", "0:Q{0:And{0:P{0:S{0:[0:'a']} 4:S{4:[4:'b']}} 9:S{9:[9:'c']}}}"},
		{"a; ! b", "0:Q{0:S{0:[0:'a']} 3:P!{5:S{5:[5:'b']}}}"},
	})
}

// 10.3: simple commands.
func TestSimple(t *testing.T) {
	checkScripts(t, withPlaces, []pair{
		{"a=1 b=$c d e=f >x", "0:Q{0:S{0:a=0:'1' 4:b=6:$c 9:[9:'d'] 11:[11:'e=f'] 15:1>16:[16:'x']}}"},
		{"a= b", "0:Q{0:S{0:a= 3:[3:'b']}}"},
		{"a=", "0:Q{0:S{0:a=}}"},
		{"a=b'c'$d", "0:Q{0:S{0:a=0:'b' 3:\"'c' 6:$d}}"},
		{"a='b c'", "0:Q{0:S{0:a=2:\"'b c'}}"},
		{"a=''", "0:Q{0:S{0:a=2:\"''}}"},
		{"a==b", "0:Q{0:S{0:a=0:'=b'}}"},
		{"_1=~ b~", "0:Q{0:S{0:_1=0:'~' 5:[5:'b~']}}"},
		{"a\\\nb=c", "0:Q{0:S{0:ab=0:'c'}}"},
		{">x a=1 <y b c=2", "0:Q{0:S{3:a=3:'1' 10:[10:'b'] 12:[12:'c=2'] 0:1>1:[1:'x'] 7:0<8:[8:'y']}}"},
		{"\"a\"=b", "0:Q{0:S{0:[0:\"'a' 3:'=b']}}"},
		{"a'='b", "0:Q{0:S{0:[0:'a' 1:\"'=' 4:'b']}}"},
		{"''a=b", "0:Q{0:S{0:[0:\"'' 2:'a=b']}}"},
		{"$a=b", "0:Q{0:S{0:[0:$a 2:'=b']}}"},
		{"a$b=c", "0:Q{0:S{0:[0:'a' 1:$b 3:'=c']}}"},
		{"=a", "0:Q{0:S{0:[0:'=a']}}"},
		{"'a=b'", "0:Q{0:S{0:[0:\"'a=b']}}"},
		{"\"a=b\"c", "0:Q{0:S{0:[0:\"'a=b' 5:'c']}}"},
		{"a\\=b", "0:Q{0:S{0:[0:'a' 1:\"'=' 3:'b']}}"},
		{"$((a==b))", "0:Q{0:S{0:[0:#a==b#]}}"},
		{"1a=b", "0:Q{0:S{0:[0:'1a=b']}}"},
		{"a+=b", "0:Q{0:S{0:[0:'a+=b']}}"},
		{"a[1]=b", "0:Q{0:S{0:[0:'a[1]=b']}}"},
		{"if=a", "0:Q{0:S{0:if=0:'a'}}"},
		{"a=b if then", "0:Q{0:S{0:a=0:'b' 4:[4:'if'] 7:[7:'then']}}"},
		{">x if", "0:Q{0:S{3:[3:'if'] 0:1>1:[1:'x']}}"},
		{"a if } fi !", "0:Q{0:S{0:[0:'a'] 2:[2:'if'] 5:[5:'}'] 7:[7:'fi'] 10:[10:'!']}}"},
		{"in do", "0:Q{0:S{0:[0:'in'] 3:[3:'do']}}"},
		{"'if' a", "0:Q{0:S{0:[0:\"'if'] 5:[5:'a']}}"},
		{"i\\\nf a", "0:Q{0:S{0:[0:'if'] 5:[5:'a']}}"},
		{"fi\\\n", "0:Q{0:S{0:[0:'fi']}}"},
		{"if'' a", "0:Q{0:S{0:[0:'if' 2:\"''] 5:[5:'a']}}"},
		{"{a }", "0:Q{0:S{0:[0:'{a'] 3:[3:'}']}}"},
		{"{} }{", "0:Q{0:S{0:[0:'{}'] 3:[3:'}{']}}"},
		{"iffi", "0:Q{0:S{0:[0:'iffi']}}"},
		{"a$(b;c)d", "0:Q{0:S{0:[0:'a' 1:%3:Q{3:S{3:[3:'b']} 5:S{5:[5:'c']}} 7:'d']}}"},
		{"'' \"\"", "0:Q{0:S{0:[0:\"''] 3:[3:\"'']}}"},
	})
}

// 10.3: redirections.
func TestRedirections(t *testing.T) {
	checkScripts(t, withPlaces, []pair{
		{"<a", "0:Q{0:S{0:0<1:[1:'a']}}"},
		{">a", "0:Q{0:S{0:1>1:[1:'a']}}"},
		{">>a", "0:Q{0:S{0:1>>2:[2:'a']}}"},
		{"2>x <y >>z", "0:Q{0:S{0:2>2:[2:'x'] 4:0<5:[5:'y'] 7:1>>9:[9:'z']}}"},
		{"a 3< \\\n b", "0:Q{0:S{0:[0:'a'] 2:3<8:[8:'b']}}"},
		{"a>b>>c", "0:Q{0:S{0:[0:'a'] 1:1>2:[2:'b'] 3:1>>5:[5:'c']}}"},
		{"9>a 0>>b 1<c", "0:Q{0:S{0:9>2:[2:'a'] 4:0>>7:[7:'b'] 9:1<11:[11:'c']}}"},
		{"a 0000000000000000000000000000009<b", "0:Q{0:S{0:[0:'a'] 2:9<34:[34:'b']}}"},
		{"a2>x", "0:Q{0:S{0:[0:'a2'] 2:1>3:[3:'x']}}"},
		{"a 1 >x", "0:Q{0:S{0:[0:'a'] 2:[2:'1'] 4:1>5:[5:'x']}}"},
		{"1 2\\\n>x", "0:Q{0:S{0:[0:'1'] 2:[2:'2'] 5:1>6:[6:'x']}}"},
		{"'1'>x", "0:Q{0:S{0:[0:\"'1'] 3:1>4:[4:'x']}}"},
		{"12>>x y", "error 6 at 0"},
		{"a=1>x", "0:Q{0:S{0:a=0:'1' 3:1>4:[4:'x']}}"},
		{">'a b'$c", "0:Q{0:S{0:1>1:[1:\"'a b' 6:$c]}}"},
		{">1 2", "0:Q{0:S{3:[3:'2'] 0:1>1:[1:'1']}}"},
		{">if", "0:Q{0:S{0:1>1:[1:'if']}}"},
		{"(a)>x 2>y", "0:Q{0:Sub{1:Q{1:S{1:[1:'a']}} 3:1>4:[4:'x'] 6:2>8:[8:'y']}}"},
		{"{ a; }<x|b", "0:Q{0:P{0:G{2:Q{2:S{2:[2:'a']}} 6:0<7:[7:'x']} 9:S{9:[9:'b']}}}"},
	})
}

// 10.3: commands with ends of their own.
func TestCompounds(t *testing.T) {
	checkScripts(t, withPlaces, []pair{
		{"(a)", "0:Q{0:Sub{1:Q{1:S{1:[1:'a']}}}}"},
		{"(\na;b\n)", "0:Q{0:Sub{2:Q{2:S{2:[2:'a']} 4:S{4:[4:'b']}}}}"},
		{"((a))", "0:Q{0:Sub{1:Q{1:Sub{2:Q{2:S{2:[2:'a']}}}}}}"},
		{"{ a;}", "0:Q{0:G{2:Q{2:S{2:[2:'a']}}}}"},
		{"{\na\n}", "0:Q{0:G{2:Q{2:S{2:[2:'a']}}}}"},
		{"{(a);}", "0:Q{0:G{1:Q{1:Sub{2:Q{2:S{2:[2:'a']}}}}}}"},
		{"{ (a) }", "0:Q{0:G{2:Q{2:Sub{3:Q{3:S{3:[3:'a']}}}}}}"},
		{"if a;then b;fi", "0:Q{0:If{3:Q{3:S{3:[3:'a']}} 10:Q{10:S{10:[10:'b']}}}}"},
		{"if a\nthen b\nelse c\nfi", "0:Q{0:If{3:Q{3:S{3:[3:'a']}} 10:Q{10:S{10:[10:'b']}} 17:Q{17:S{17:[17:'c']}}}}"},
		{"if a;then b;elif c;then d;fi", "0:Q{0:If{3:Q{3:S{3:[3:'a']}} 10:Q{10:S{10:[10:'b']}} 12:Q{12:If{17:Q{17:S{17:[17:'c']}} 24:Q{24:S{24:[24:'d']}}}}}}"},
		{"if a;then b;elif c;then d;else e;fi>x", "0:Q{0:If{3:Q{3:S{3:[3:'a']}} 10:Q{10:S{10:[10:'b']}} 12:Q{12:If{17:Q{17:S{17:[17:'c']}} 24:Q{24:S{24:[24:'d']}} 31:Q{31:S{31:[31:'e']}}}} 35:1>36:[36:'x']}}"},
		{"if(a)then(b)else(c)fi", "0:Q{0:If{2:Q{2:Sub{3:Q{3:S{3:[3:'a']}}}} 9:Q{9:Sub{10:Q{10:S{10:[10:'b']}}}} 16:Q{16:Sub{17:Q{17:S{17:[17:'c']}}}}}}"},
		{"while a;do b;done", "0:Q{0:While{6:Q{6:S{6:[6:'a']}} 11:Q{11:S{11:[11:'b']}}}}"},
		{"until a\nb\ndo c\ndone", "0:Q{0:Until{6:Q{6:S{6:[6:'a']} 8:S{8:[8:'b']}} 13:Q{13:S{13:[13:'c']}}}}"},
		{"f() { a; } >x", "0:Q{0:Ff{4:G{6:Q{6:S{6:[6:'a']}} 11:1>12:[12:'x']}}}"},
		{"f ( )\n\n(a)", "0:Q{0:Ff{7:Sub{8:Q{8:S{8:[8:'a']}}}}}"},
		{"f()for i do a;done;g", "0:Q{0:Ff{3:Fori{12:Q{12:S{12:[12:'a']}}}} 19:S{19:[19:'g']}}"},
		{"f()if a;then b;fi|c", "0:Q{0:P{0:Ff{3:If{6:Q{6:S{6:[6:'a']}} 13:Q{13:S{13:[13:'b']}}}} 18:S{18:[18:'c']}}}"},
		{"f\\\no () (a)", "0:Q{0:Ffo{8:Sub{9:Q{9:S{9:[9:'a']}}}}}"},
		{"! f() (a) && g", "0:Q{0:And{0:P!{2:Ff{6:Sub{7:Q{7:S{7:[7:'a']}}}}} 13:S{13:[13:'g']}}}"},
	})
}

// 10.3: loops over words.
func TestFor(t *testing.T) {
	const body = " do x;done"
	checkScripts(t, bare, []pair{
		{"for i" + body, "Q{Fori{Q{S{['x']}}}}"},
		{"for i;" + body, "Q{Fori{Q{S{['x']}}}}"},
		{"for i;\n\n" + body, "Q{Fori{Q{S{['x']}}}}"},
		{"for i\n\n" + body, "Q{Fori{Q{S{['x']}}}}"},
		{"for i in;" + body, "Q{For+i{Q{S{['x']}}}}"},
		{"for i in\n" + body, "Q{For+i{Q{S{['x']}}}}"},
		{"for i\n\nin a\n" + body, "Q{For+i{['a'] Q{S{['x']}}}}"},
		{"for i in a $b 'c d';\n" + body, "Q{For+i{['a'] [$b] [\"'c d'] Q{S{['x']}}}}"},
		{"for i in do done in if 1;" + body, "Q{For+i{['do'] ['done'] ['in'] ['if'] ['1'] Q{S{['x']}}}}"},
		{"for if in a;" + body, "Q{For+if{['a'] Q{S{['x']}}}}"},
		{"for in in in;" + body, "Q{For+in{['in'] Q{S{['x']}}}}"},
		{"for do" + body, "Q{Fordo{Q{S{['x']}}}}"},
		{"for i # a\n # b\nin a # c\n" + body, "Q{For+i{['a'] Q{S{['x']}}}}"},
		{"for i" + body + ">y", "Q{Fori{Q{S{['x']}} 1>['y']}}"},
		{"for _1 \\\n in a=b;" + body, "Q{For+_1{['a=b'] Q{S{['x']}}}}"},
	})
	checkScripts(t, withPlaces, []pair{
		{"for i in $a b;do c;done", "0:Q{0:For+i{9:[9:$a] 12:[12:'b'] 17:Q{17:S{17:[17:'c']}}}}"},
	})
}

// 10.3: cases.
func TestCase(t *testing.T) {
	checkScripts(t, bare, []pair{
		{"case a in esac", "Q{Case{['a']}}"},
		{"case a\n\nin\n\nesac", "Q{Case{['a']}}"},
		{"case a in b) c;; esac", "Q{Case{['a'] ['b'])Q{S{['c']}}}}"},
		{"case a in b) c; esac", "Q{Case{['a'] ['b'])Q{S{['c']}}}}"},
		{"case a in b) c\nesac", "Q{Case{['a'] ['b'])Q{S{['c']}}}}"},
		{"case a in b) c;;\n\nesac", "Q{Case{['a'] ['b'])Q{S{['c']}}}}"},
		{"case a in b) esac", "Q{Case{['a'] ['b'])Q{}}}"},
		{"case a in b)\n\nesac", "Q{Case{['a'] ['b'])Q{}}}"},
		{"case a in b);; (c)\n;;\n\nd) esac", "Q{Case{['a'] ['b'])Q{} ['c'])Q{} ['d'])Q{}}}"},
		{"case a in b|'c d'|$e) f; g;; esac", "Q{Case{['a'] ['b'])[\"'c d'])[$e])Q{S{['f']} S{['g']}}}}"},
		{"case a in ( b | c ) d;; esac", "Q{Case{['a'] ['b'])['c'])Q{S{['d']}}}}"},
		{"case a in b) (c) esac", "Q{Case{['a'] ['b'])Q{Sub{Q{S{['c']}}}}}}"},
		{"case a in (esac) b;; esac", "Q{Case{['a'] ['esac'])Q{S{['b']}}}}"},
		{"case a in b|esac) c;; esac", "Q{Case{['a'] ['b'])['esac'])Q{S{['c']}}}}"},
		{"case if in if) then;; 1) in;; esac", "error 6 at 15"},
		{"case in in in) in;; do) b;; esac", "Q{Case{['in'] ['in'])Q{S{['in']}} ['do'])Q{S{['b']}}}}"},
		{"case esac in (a) b;; esac", "Q{Case{['esac'] ['a'])Q{S{['b']}}}}"},
		{"case $a in *) b;; esac>x", "Q{Case{[$a] ['*'])Q{S{['b']}} 1>['x']}}"},
		{"case 'a b'$c in esac|b", "Q{P{Case{[\"'a b' $c]} S{['b']}}}"},
		{"case a in e'sac') b;; esac", "Q{Case{['a'] ['e' \"'sac'])Q{S{['b']}}}}"},
		{"case a in b) case c in d) e;; esac;; esac", "Q{Case{['a'] ['b'])Q{Case{['c'] ['d'])Q{S{['e']}}}}}}"},
	})
	checkScripts(t, withPlaces, []pair{
		{"case a in (b|c) d;; e) esac", "0:Q{0:Case{5:[5:'a'] 11:[11:'b'])13:[13:'c'])16:Q{16:S{16:[16:'d']}} 20:[20:'e'])0:Q{}}}"},
	})
}

// wrong is a script, its error, and where.
type wrong struct {
	s  string
	at int
	e  api.Errno
}

// checkWrong holds the errors of scripts against what is wanted.
func checkWrong(t *testing.T, l []wrong) {
	t.Helper()
	for _, x := range l {
		if got, want := bare.script(x.s), fault(x.at, x.e); got != want {
			t.Errorf("Parse of %q: %s, not %s", x.s, got, want)
		}
	}
}

// 10.4: what is asked ahead of all.
func TestWholeScript(t *testing.T) {
	a := strings.Repeat("a", api.MaxScript)
	checkWrong(t, []wrong{
		{"\x00", 0, api.ErrNul}, {"a\x00\x00", 1, api.ErrNul}, {"$$ ` ~ \x00", 7, api.ErrNul}, {"'\x00'", 1, api.ErrNul}, {"# \x00", 2, api.ErrNul},
		{a + "a", 20000, api.ErrLong}, {a + strings.Repeat("a", 500), 20000, api.ErrLong}, {"$$" + a, 20000, api.ErrLong},
		{a + "\x00", 20000, api.ErrNul}, {"\x00" + a, 0, api.ErrNul}, {a[1:] + "\x00", 19999, api.ErrNul}, {a[1:] + "'", 19999, api.ErrOpen},
	})
	for _, s := range []string{a, a[1:] + ";", strings.Repeat("a\n", 10000), strings.Repeat("#", 20000), strings.Repeat("\xff", 20000)} {
		if _, at, e := Parse(s); at != 0 || e != api.OK {
			t.Errorf("%d bytes: %d, %d", len(s), at, e)
		}
	}
	for _, s := range []string{strings.Repeat(" ", 20001), strings.Repeat("\xff", 20001), strings.Repeat("\u00e9", 10001)} {
		if _, at, e := Parse(s); at != 20000 || e != api.ErrLong {
			t.Errorf("%d bytes: %d, %d", len(s), at, e)
		}
	}
}

// 10.4: signs that can stand nowhere, wherever they are met.
func TestForeignSigns(t *testing.T) {
	ahead := []string{"", "a ", "a", "a;", "a&&", "a||\n", "a|", "! ", "(", "{ ", "(a) ", "(a)", "(a) >x ", "{ a; }", "if ", "if a; then ", "if a; then b; fi ", "if a; then b; elif ", "while ", "while a; do ", "for ", "for i ", "for i\n", "for i in ", "for i in a ", "for i in a;", "for i; ", "for i do a; done ", "case ", "case a ", "case a\n", "case a in ", "case a in (", "case a in b", "case a in b|", "case a in b) ", "case a in b) c", "case a in b) c;;", "case a in esac ", "f(", "f()", "f()\n", "f() (a) ", "< ", ">> ", "a 2>\\\n", "$(", "${a-$(", "a=b ", "a=b"}
	for _, s := range ahead {
		n := len(s)
		checkWrong(t, []wrong{
			{s + "<<b", n, api.ErrHere}, {s + "<<<b", n, api.ErrHere}, {s + "& b", n, api.ErrAsync}, {s + "&>b", n, api.ErrAsync}, {s + "&;", n, api.ErrAsync},
			{s + "<&b", n, api.ErrSyntax}, {s + ">&2", n, api.ErrSyntax}, {s + "<>b", n, api.ErrSyntax}, {s + ">|b", n, api.ErrSyntax},
			{s + " \\\n <<b", n + 4, api.ErrHere},
		})
		// Digits are a redirection's only where they do not stand behind what else is of the word.
		if n == 0 || strings.IndexByte(" \n;|&()<>", s[n-1]) >= 0 {
			checkWrong(t, []wrong{
				{s + "2<<b", n + 1, api.ErrHere}, {s + "0012<<b", n + 4, api.ErrHere}, {s + "2<&b", n + 1, api.ErrSyntax}, {s + "2>&1", n + 1, api.ErrSyntax}, {s + "20<>b", n + 2, api.ErrSyntax}, {s + "2>|b", n + 1, api.ErrSyntax},
			})
		}
	}
	checkWrong(t, []wrong{
		{"a2<<b", 2, api.ErrHere}, {"a=2<<b", 3, api.ErrHere}, {"'2'<<b", 3, api.ErrHere}, {"2 <<b", 2, api.ErrHere}, {"2&", 1, api.ErrAsync}, {"a 2& b", 3, api.ErrAsync},
		{">>&b", 2, api.ErrAsync}, {">>>b", 2, api.ErrSyntax}, {">>|b", 2, api.ErrSyntax}, {"a &&& b", 4, api.ErrAsync}, {"a &", 2, api.ErrAsync}, {"a &\n", 2, api.ErrAsync},
	})
}

// 10.4: tokens that can't stand where they do.
func TestUnfit(t *testing.T) {
	checkWrong(t, []wrong{
		{";", 0, api.ErrSyntax}, {"\n;", 1, api.ErrSyntax}, {"a;;b", 1, api.ErrSyntax}, {"a; ;b", 3, api.ErrSyntax}, {"a\n;b", 2, api.ErrSyntax}, {"a;\n;b", 3, api.ErrSyntax}, {"a)", 1, api.ErrSyntax}, {")", 0, api.ErrSyntax}, {"a;)", 2, api.ErrSyntax}, {"a (b)", 3, api.ErrSyntax}, {"a b (c)", 4, api.ErrSyntax}, {"a b (", 4, api.ErrSyntax},
		{"&& a", 0, api.ErrSyntax}, {"| a", 0, api.ErrSyntax}, {"a &&", 4, api.ErrSyntax}, {"a && && b", 5, api.ErrSyntax}, {"a ||\n", 5, api.ErrSyntax}, {"a | ;", 4, api.ErrSyntax}, {"a |", 3, api.ErrSyntax}, {"a | | b", 4, api.ErrSyntax}, {"a\n| b", 2, api.ErrSyntax}, {"a\n&& b", 2, api.ErrSyntax}, {"a; | b", 3, api.ErrSyntax}, {"a|;;", 2, api.ErrSyntax},
		{"!", 1, api.ErrSyntax}, {"! ! a", 2, api.ErrSyntax}, {"a | ! b", 4, api.ErrSyntax}, {"!\na", 1, api.ErrSyntax}, {"! ;", 2, api.ErrSyntax}, {"! | a", 2, api.ErrSyntax}, {"! && a", 2, api.ErrSyntax}, {"a && ! ! b", 7, api.ErrSyntax}, {"! then", 2, api.ErrSyntax},
		{"a >", 3, api.ErrSyntax}, {"a > ;", 4, api.ErrSyntax}, {"a >\nb", 3, api.ErrSyntax}, {"a > >b", 4, api.ErrSyntax}, {"a > 2>b", 4, api.ErrSyntax}, {"a > (b)", 4, api.ErrSyntax}, {"a ># b", 6, api.ErrSyntax}, {"a 10>b", 2, api.ErrSyntax}, {"12>b", 0, api.ErrSyntax}, {"a 99999999999999999999>b", 2, api.ErrSyntax}, {"(a) 10>b", 4, api.ErrSyntax}, {"a 10>", 2, api.ErrSyntax},
		{"then", 0, api.ErrSyntax}, {"else", 0, api.ErrSyntax}, {"elif", 0, api.ErrSyntax}, {"fi", 0, api.ErrSyntax}, {"do", 0, api.ErrSyntax}, {"done", 0, api.ErrSyntax}, {"esac", 0, api.ErrSyntax}, {"}", 0, api.ErrSyntax}, {"a; then", 3, api.ErrSyntax}, {"a\nfi", 2, api.ErrSyntax}, {"a && }", 5, api.ErrSyntax}, {"a | done", 4, api.ErrSyntax},
		{"(a", 2, api.ErrSyntax}, {"(", 1, api.ErrSyntax}, {"()", 1, api.ErrSyntax}, {"(\n)", 2, api.ErrSyntax}, {"(;)", 1, api.ErrSyntax}, {"(a) b", 4, api.ErrSyntax}, {"(a) (b)", 4, api.ErrSyntax}, {"(a) >x b", 7, api.ErrSyntax}, {"(a) fi", 4, api.ErrSyntax}, {"(a}", 3, api.ErrSyntax}, {"(a;;)", 2, api.ErrSyntax},
		{"{ a }", 5, api.ErrSyntax}, {"{ a;", 4, api.ErrSyntax}, {"{ }", 2, api.ErrSyntax}, {"{ ; }", 2, api.ErrSyntax}, {"{", 1, api.ErrSyntax}, {"{ a; } b", 7, api.ErrSyntax}, {"{ a; )", 5, api.ErrSyntax}, {"{ a; };}", 7, api.ErrSyntax}, {"{ (a) then }", 6, api.ErrSyntax},
		{"if a; fi", 6, api.ErrSyntax}, {"if; then a; fi", 2, api.ErrSyntax}, {"if a then b; fi", 13, api.ErrSyntax}, {"if a; then fi", 11, api.ErrSyntax}, {"if a; then b; else fi", 19, api.ErrSyntax}, {"if a; then b; else c; else d; fi", 22, api.ErrSyntax}, {"if a; then b; else c; elif d; then e; fi", 22, api.ErrSyntax}, {"if a; then b; elif c; fi", 22, api.ErrSyntax}, {"if a; then b; elif c; else d; fi", 22, api.ErrSyntax}, {"if a; then b", 12, api.ErrSyntax}, {"if a; then b; done", 14, api.ErrSyntax}, {"if a; then b; fi c", 17, api.ErrSyntax}, {"if a; then b; elif", 18, api.ErrSyntax}, {"if a; do b; fi", 6, api.ErrSyntax},
		{"while a; done", 9, api.ErrSyntax}, {"while do a; done", 6, api.ErrSyntax}, {"while a; do done", 12, api.ErrSyntax}, {"while a do b; done", 14, api.ErrSyntax}, {"until a; do b; fi", 15, api.ErrSyntax}, {"until a; do b", 13, api.ErrSyntax}, {"while a; do; b; done", 11, api.ErrSyntax},
	})
}

// 10.4: a name of a for, words that can't stand where they do and are not read, and what else is asked of for, case and functions.
func TestUnfitWords(t *testing.T) {
	checkWrong(t, []wrong{
		{"for", 3, api.ErrSyntax}, {"for\na in b; do c; done", 3, api.ErrSyntax}, {"for 1 in a; do b; done", 4, api.ErrSyntax}, {"for 1a in b; do c; done", 4, api.ErrSyntax}, {"for a- in b; do c; done", 4, api.ErrSyntax}, {"for \"a\" do b; done", 4, api.ErrSyntax}, {"for 'a", 4, api.ErrSyntax}, {"for a'b do c; done", 4, api.ErrSyntax}, {"for a\\\nb do c;done", 4, api.ErrSyntax}, {"for a\\\n do c;done", 4, api.ErrSyntax}, {"for $a in b; do c; done", 4, api.ErrSyntax}, {"for $$", 4, api.ErrSyntax}, {"for ~", 4, api.ErrSyntax}, {"for `a`", 4, api.ErrSyntax}, {"for a=b; do c; done", 4, api.ErrSyntax}, {"for ; do a; done", 4, api.ErrSyntax}, {"for (a) do b; done", 4, api.ErrSyntax}, {"for 2>a", 4, api.ErrSyntax}, {"for a>b do c; done", 5, api.ErrSyntax}, {"for \u00e9 do c; done", 4, api.ErrSyntax},
		{"for a b; do c; done", 6, api.ErrSyntax}, {"for a", 5, api.ErrSyntax}, {"for a in", 8, api.ErrSyntax}, {"for a in b", 10, api.ErrSyntax}, {"for a;", 6, api.ErrSyntax}, {"for a\n; do b; done", 6, api.ErrSyntax}, {"for a;; do b; done", 5, api.ErrSyntax}, {"for a; in b; do c; done", 7, api.ErrSyntax}, {"for a in b >c; do d; done", 11, api.ErrSyntax}, {"for a in b 2>c; do d; done", 11, api.ErrSyntax}, {"for a in (b); do c; done", 9, api.ErrSyntax}, {"for a in b; c", 12, api.ErrSyntax}, {"for a in b; do done", 15, api.ErrSyntax}, {"for a in b do c; done", 17, api.ErrSyntax}, {"for a in do c; done", 15, api.ErrSyntax}, {"for a in b;; do c; done", 10, api.ErrSyntax}, {"for a do b; done c", 17, api.ErrSyntax}, {"for a i\\\nn b; do c; done", 6, api.ErrSyntax}, {"for a d\\\no b; done", 6, api.ErrSyntax}, {"for a 'do' b; done", 6, api.ErrSyntax},
		{"for a $$", 6, api.ErrSyntax}, {"for a `", 6, api.ErrSyntax}, {"for a 'b", 6, api.ErrSyntax}, {"for a; ~", 7, api.ErrSyntax}, {"for a in $$", 9, api.ErrDollar}, {"for a in b 'c", 11, api.ErrOpen}, {"for a in b; $$", 12, api.ErrSyntax},
		{"case", 4, api.ErrSyntax}, {"case ; in", 5, api.ErrSyntax}, {"case\na in esac", 4, api.ErrSyntax}, {"case a", 6, api.ErrSyntax}, {"case a b", 7, api.ErrSyntax}, {"case a; in esac", 6, api.ErrSyntax}, {"case a 'in' esac", 7, api.ErrSyntax}, {"case a $$", 7, api.ErrSyntax}, {"case $$", 5, api.ErrDollar}, {"case 2>b in esac", 5, api.ErrSyntax}, {"case a in", 9, api.ErrSyntax}, {"case a in b", 11, api.ErrSyntax}, {"case a in b c", 12, api.ErrSyntax}, {"case a in b $$", 12, api.ErrSyntax}, {"case a in $$", 10, api.ErrDollar}, {"case a in b|`", 12, api.ErrBack}, {"case a in b;; esac", 11, api.ErrSyntax}, {"case a in b|) c;; esac", 12, api.ErrSyntax}, {"case a in |b) c;; esac", 10, api.ErrSyntax}, {"case a in () b;; esac", 11, api.ErrSyntax}, {"case a in (\nb) c;; esac", 11, api.ErrSyntax}, {"case a in b\n) c;; esac", 11, api.ErrSyntax}, {"case a in ((b) c;; esac", 11, api.ErrSyntax}, {"case a in 2>b) c;; esac", 10, api.ErrSyntax}, {"case a in ;; esac", 10, api.ErrSyntax}, {"case a in b) c", 14, api.ErrSyntax}, {"case a in b) c;;", 16, api.ErrSyntax}, {"case a in b) c;; ;; esac", 17, api.ErrSyntax}, {"case a in b) c; fi", 16, api.ErrSyntax}, {"case a in b) )", 13, api.ErrSyntax}, {"case a in b) ; esac", 13, api.ErrSyntax}, {"case a in b) (c) d) esac", 17, api.ErrSyntax}, {"case a in esac b", 15, api.ErrSyntax}, {"case a in esac) b;; esac", 14, api.ErrSyntax}, {"case a in b) esac) c", 17, api.ErrSyntax}, {"case in in a) b", 15, api.ErrSyntax},
		{"f()", 3, api.ErrSyntax}, {"f(", 2, api.ErrSyntax}, {"f(a) { b; }", 2, api.ErrSyntax}, {"f($$", 2, api.ErrSyntax}, {"f(\n) (a)", 2, api.ErrSyntax}, {"f() a", 4, api.ErrSyntax}, {"f() $$", 4, api.ErrSyntax}, {"f() >x", 4, api.ErrSyntax}, {"f() ! (a)", 4, api.ErrSyntax}, {"f();", 3, api.ErrSyntax}, {"f() fi", 4, api.ErrSyntax}, {"f() in", 4, api.ErrSyntax}, {"f() g() { a; }", 4, api.ErrSyntax}, {"f() { a; } b", 11, api.ErrSyntax}, {"f() (a) >x b", 11, api.ErrSyntax}, {"f()() (a)", 4, api.ErrSyntax},
		{"'f'() { a; }", 3, api.ErrSyntax}, {"f''() { a; }", 3, api.ErrSyntax}, {"f$a() { b; }", 3, api.ErrSyntax}, {"a-b() { a; }", 3, api.ErrSyntax}, {"1() { a; }", 1, api.ErrSyntax}, {"in() { a; }", 2, api.ErrSyntax}, {"i\\\nf() { a; }", 4, api.ErrSyntax}, {"f x() { a; }", 3, api.ErrSyntax}, {"f x () { a; }", 4, api.ErrSyntax}, {"a=1 f() { a; }", 5, api.ErrSyntax}, {">x f() { a; }", 4, api.ErrSyntax}, {"a=b() { a; }", 3, api.ErrSyntax}, {"a=()", 2, api.ErrSyntax}, {"f$$() (a)", 1, api.ErrDollar},
		{"(a) $$", 4, api.ErrSyntax}, {"(a) 'b", 4, api.ErrSyntax}, {"(a) `", 4, api.ErrSyntax}, {"(a) ~", 4, api.ErrSyntax}, {"(a) ${", 4, api.ErrSyntax}, {"{ a; } \"", 7, api.ErrSyntax}, {"(a)b", 3, api.ErrSyntax},
	})
}

// 10.4: a word's own error, as it is read.
func TestErrorsOfWords(t *testing.T) {
	checkWrong(t, []wrong{
		{"a 'b", 2, api.ErrOpen}, {"a;b \"c", 4, api.ErrOpen}, {"a ${b", 2, api.ErrOpen}, {"a; $((1", 3, api.ErrOpen}, {"if a; then $(b", 11, api.ErrOpen}, {"if a; then $(b; fi)", 16, api.ErrSyntax}, {"x\n`", 2, api.ErrBack}, {"a >`", 3, api.ErrBack}, {"~", 0, api.ErrTilde}, {"a ~b", 2, api.ErrTilde}, {"a >~b", 3, api.ErrTilde}, {"\\\n~", 2, api.ErrTilde}, {"a=~ ~", 4, api.ErrTilde}, {"case ~ in esac", 5, api.ErrTilde}, {"case a in ~) b;; esac", 10, api.ErrTilde}, {"for i in a ~; do b; done", 11, api.ErrTilde}, {"a $$ $!", 2, api.ErrDollar}, {"a=$!", 2, api.ErrDollar}, {"2>$-", 2, api.ErrDollar}, {"a $'b'", 2, api.ErrDollar},
		{"a $(b) 'c", 7, api.ErrOpen}, {"a;; $$", 1, api.ErrSyntax}, {"$$ ;;", 0, api.ErrDollar}, {"a $(b;; c) $$", 5, api.ErrSyntax}, {"a ~ <<b", 2, api.ErrTilde}, {"a <<b ~", 2, api.ErrHere}, {"a # $$ `\n'", 9, api.ErrOpen},
	})
}
