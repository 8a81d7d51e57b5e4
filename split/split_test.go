package split

import (
	"fmt"
	"regexp"
	"slices"
	"strings"
	"testing"
	"time"

	"conch/alter"
	"conch/api"
	"conch/probe"
)

// wide tells each byte of s as a rune of its own, so that calls that go by runes can be asked.
func wide(s string) string {
	var b strings.Builder
	for i := range len(s) {
		b.WriteRune(rune(s[i]))
	}
	return b.String()
}

// narrow tells each rune of s as the byte that wide made it of.
func narrow(s string) string {
	var l []byte
	for _, c := range s {
		l = append(l, byte(c))
	}
	return string(l)
}

// fieldsBy tells the fields of s by the library.
func fieldsBy(s, ifs string) []string {
	l := strings.FieldsFunc(wide(s), func(c rune) bool { return strings.ContainsRune(wide(ifs), c) })
	for i := range l {
		l[i] = narrow(l[i])
	}
	return l
}

// trimBy tells s without bytes of ifs at both ends, by the library.
func trimBy(s, ifs string) string {
	return narrow(strings.Trim(wide(s), wide(ifs)))
}

// oneOf tells an expression that knows a field: each byte of ifs stands in it by its number.
func oneOf(ifs string) *regexp.Regexp {
	if ifs == "" {
		return regexp.MustCompile("(?s).+")
	}
	none := ""
	for i := range len(ifs) {
		none += fmt.Sprintf(`\x{%x}`, ifs[i])
	}
	return regexp.MustCompile("[^" + none + "]+")
}

// wordsBy tells the words of a read by the places of its fields.
func wordsBy(s, ifs string, n int) []string {
	w := wide(s)
	left := 0
	var l []string
	for _, at := range oneOf(ifs).FindAllStringIndex(w, n-1) {
		l = append(l, narrow(w[at[0]:at[1]]))
		left = at[1]
	}
	for len(l) < n-1 {
		l, left = append(l, ""), len(w)
	}
	return append(l, trimBy(narrow(w[left:]), ifs))
}

// texts tells all texts of some bytes, up to a number of them.
func texts(alphabet string, most int) []string {
	var l []string
	probe.Texts(probe.Pieces(alphabet), most, func(s string) { l = append(l, s) })
	return l
}

// 7.1: ordinary inputs, and edges.
func TestFields(t *testing.T) {
	const white = " \t\n"
	for _, x := range []struct {
		s, ifs string
		want   []string
	}{
		{"a  b", " ", []string{"a", "b"}},
		{"", "", nil},
		{"", white, nil},
		{" ", " ", nil},
		{" \t\n \n", white, nil},
		{"a", "", []string{"a"}},
		{" a b ", "", []string{" a b "}},
		{"a", "a", nil},
		{"aba", "a", []string{"b"}},
		{"  a\tb\n\nc\n", white, []string{"a", "b", "c"}},
		{"a::b", ":", []string{"a", "b"}},
		{":a:", ":", []string{"a"}},
		{"a :b", ":", []string{"a ", "b"}},
		{"a b:c", ": ", []string{"a", "b", "c"}},
		{"a b:c", "  ::  ", []string{"a", "b", "c"}},
		{"a\x00b", white, []string{"a\x00b"}},
		{"a\x00b", "\x00", []string{"a", "b"}},
		{"x\u00e9y", "\u00e9", []string{"x", "y"}},
		{"x\u00e9y", "\xa9", []string{"x\xc3", "y"}},
		{"x\xc3y\xa9z", "\u00e9", []string{"x", "y", "z"}},
		{"\xc3\xa9\xc3", "\xc3", []string{"\xa9"}},
		{"a\u00a0b\u2003c\x85d\x0be", white, []string{"a\u00a0b\u2003c\x85d\x0be"}},
		{"a-b", "a-c", []string{"b"}},
		{"a.b", ".", []string{"a", "b"}},
		{"ab\\c", "\\", []string{"ab", "c"}},
		{"aAb", "A", []string{"a", "b"}},
		{"\xff\xfe\xff", "\xff", []string{"\xfe"}},
	} {
		if l := Fields(x.s, x.ifs); !slices.Equal(l, x.want) {
			t.Errorf("Fields of %q, %q: %q", x.s, x.ifs, l)
		}
		want := len(x.want) == 1 && x.want[0] == x.s
		if Whole(x.s, x.ifs) != want {
			t.Errorf("Whole of %q, %q: %v", x.s, x.ifs, !want)
		}
	}
}

// 7.1: a text is whole just where it is its only field.
func TestWhole(t *testing.T) {
	for _, x := range []struct {
		s, ifs string
		want   bool
	}{
		{"ab", " ", true},
		{"", "", false},
		{"", " ", false},
		{" ", " ", false},
		{" ", "", true},
		{" ab", " ", false},
		{"ab ", " ", false},
		{"a b", " ", false},
		{"a b", ":", true},
		{"\u00e9", "\xc3", false},
		{"\u00e9", "\xa9", false},
		{"\u00e9", "\u00c3", false},
		{"\xa9", "\u00e8", true},
		{"a\x00", " ", true},
	} {
		if Whole(x.s, x.ifs) != x.want {
			t.Errorf("Whole of %q, %q: %v", x.s, x.ifs, !x.want)
		}
	}
}

// 7.1: only both ends are cut, byte by byte.
func TestTrim(t *testing.T) {
	for _, x := range []struct{ s, ifs, want string }{
		{"", "", ""},
		{"", " ", ""},
		{"   ", " ", ""},
		{" a  b ", " ", "a  b"},
		{" a", " ", "a"},
		{"a ", " ", "a"},
		{" a ", "", " a "},
		{" \t\na\t b \n", " \t\n", "a\t b"},
		{": a :", ":", " a "},
		{"a", "a", ""},
		{"\u00e9a\u00e9", "\xc3", "\xa9a\u00e9"},
		{"\u00e9a\u00e9", "\xa9", "\u00e9a\xc3"},
		{"\u00e9a\u00e9", "\u00e9", "a"},
		{"\xa9a\xc3", "\u00e9", "a"},
		{"\u00a0a\u00a0", " ", "\u00a0a\u00a0"},
		{"\xff a\xff", "\xff", " a"},
		{"\x00a\x00", "\x00", "a"},
	} {
		if s := Trim(x.s, x.ifs); s != x.want {
			t.Errorf("Trim of %q, %q: %q", x.s, x.ifs, s)
		}
	}
}

// 7.1: the last variable of a read gets all that is left.
func TestWords(t *testing.T) {
	for _, x := range []struct {
		s, ifs string
		n      int
		want   []string
	}{
		{"a b c", " ", 1, []string{"a b c"}},
		{"a b c", " ", 2, []string{"a", "b c"}},
		{"a b c", " ", 3, []string{"a", "b", "c"}},
		{"a b c", " ", 4, []string{"a", "b", "c", ""}},
		{"a b c", " ", 6, []string{"a", "b", "c", "", "", ""}},
		{"  a  b  c  ", " ", 1, []string{"a  b  c"}},
		{"  a  b  c  ", " ", 2, []string{"a", "b  c"}},
		{"  a  b  c  ", " ", 3, []string{"a", "b", "c"}},
		{"  a  b  c  ", " ", 4, []string{"a", "b", "c", ""}},
		{"", " ", 1, []string{""}},
		{"", "", 3, []string{"", "", ""}},
		{"   ", " ", 2, []string{"", ""}},
		{" a b ", "", 1, []string{" a b "}},
		{" a b ", "", 2, []string{" a b ", ""}},
		{"a::b: c", ":", 3, []string{"a", "b", " c"}},
		{"x\u00e9y\u00e9z", "\xa9", 2, []string{"x\xc3", "y\u00e9z"}},
		{"a\x00b c", " ", 2, []string{"a\x00b", "c"}},
	} {
		if l := Words(x.s, x.ifs, x.n); !slices.Equal(l, x.want) {
			t.Errorf("Words of %q, %q, %d: %q", x.s, x.ifs, x.n, l)
		}
	}
}

// 7.1: a number of words below 1 is taken as 1, one above 100 as 100.
func TestNumberOfWords(t *testing.T) {
	for _, n := range []int{0, -1, -100, -1 << 63} {
		if l := Words(" a b ", " ", n); !slices.Equal(l, []string{"a b"}) {
			t.Errorf("%d words: %q", n, l)
		}
	}
	many := strings.Repeat("a ", 102)
	for _, n := range []int{99, 100, 101, 1000, 1<<31 - 1, 1<<63 - 1} {
		want := slices.Repeat([]string{"a"}, min(n, 100))
		want[len(want)-1] = strings.TrimSuffix(strings.Repeat("a ", 103-len(want)), " ")
		if l := Words(many, " ", n); !slices.Equal(l, want) {
			t.Errorf("%d words: %q", n, l)
		}
		want = make([]string, min(n, 100))
		want[0] = "a"
		if l := Words("a", " ", n); !slices.Equal(l, want) {
			t.Errorf("%d words of one: %q", n, l)
		}
	}
}

// 7.1: all short texts, held against the library.
func TestAllShort(t *testing.T) {
	separators := append(texts(" :\xa9", 3), "a", " a:b\xa9", "\u00e9", "\n")
	for _, s := range texts("a :\xa9\n", 5) {
		for _, ifs := range separators {
			want := fieldsBy(s, ifs)
			if l := Fields(s, ifs); !slices.Equal(l, want) {
				t.Fatalf("Fields of %q, %q: %q, not %q", s, ifs, l, want)
			}
			if whole := slices.Equal(want, []string{s}); Whole(s, ifs) != whole {
				t.Fatalf("Whole of %q, %q: %v", s, ifs, !whole)
			}
			if got, want := Trim(s, ifs), trimBy(s, ifs); got != want {
				t.Fatalf("Trim of %q, %q: %q, not %q", s, ifs, got, want)
			}
		}
	}
}

// 7.1: all words of short texts, held against an expression.
func TestAllWords(t *testing.T) {
	for _, s := range texts("a :\xc3", 6) {
		for _, ifs := range []string{"", " ", " :", "a", "\xc3\xa9"} {
			for n := 1; n < 5; n++ {
				want := wordsBy(s, ifs, n)
				if l := Words(s, ifs, n); !slices.Equal(l, want) {
					t.Fatalf("Words of %q, %q, %d: %q, not %q", s, ifs, n, l, want)
				}
			}
		}
	}
}

// 7.1: each byte ends a field just where it is one of ifs.
func TestEachByte(t *testing.T) {
	all := make([]byte, 256)
	for i := range all {
		all[i] = byte(i)
	}
	for i := range all {
		s, others := string(all[i:i+1]), string(all[:i])+string(all[i+1:])
		if Whole(s, s) || !Whole(s, others) || Whole("x"+s+"x", s) {
			t.Errorf("Whole of byte %d", i)
		}
		if len(Fields(s, string(all))) != 0 || !slices.Equal(Fields(string(all), others), []string{s}) {
			t.Errorf("Fields of byte %d", i)
		}
		if Trim(string(all), others) != s || Trim(s+s, s) != "" || Trim(s, others) != s {
			t.Errorf("Trim of byte %d", i)
		}
	}
}

// 7.2, W1: a value that is not empty and has no byte of ifs is one field, itself.
func TestOneField(t *testing.T) {
	seen := 0
	for _, s := range texts("ab :\u00e9", 4) {
		for _, ifs := range texts("b :\xc3\n", 3) {
			none := s != "" && !slices.ContainsFunc([]byte(s), func(c byte) bool { return strings.IndexByte(ifs, c) >= 0 })
			l := Fields(s, ifs)
			if one := len(l) == 1 && l[0] == s; one != none || Whole(s, ifs) != none {
				t.Fatalf("%q, %q: %q, %v", s, ifs, l, Whole(s, ifs))
			}
			if !none {
				continue
			}
			seen++
			if Trim(s, ifs) != s || !slices.Equal(Words(s, ifs, 2), []string{s, ""}) {
				t.Fatalf("%q, %q: %q, %q", s, ifs, Trim(s, ifs), Words(s, ifs, 2))
			}
		}
	}
	if seen < 1000 {
		t.Error(seen, "values are one field")
	}
}

// 7.2, W1: what the judge of shapes says does not split is one field.
func TestJudged(t *testing.T) {
	seen := 0
	for _, x := range probe.Shapes("a :") {
		for _, ifs := range texts("b :", 2) {
			if alter.MaySplit(x, probe.Just(ifs)) {
				continue
			}
			for _, s := range texts("ab :", 3) {
				if !probe.MayBe(x, probe.Value{Set: true, Text: s}) {
					continue
				}
				seen++
				if !slices.Equal(Fields(s, ifs), []string{s}) {
					t.Fatalf("%+v, %q: %q splits to %q", x, ifs, s, Fields(s, ifs))
				}
			}
		}
	}
	if seen < 100 {
		t.Error(seen, "values are judged not to split")
	}
}

// W2: the same is answered again; rule 3: an answer is new memory, its spare room too.
func TestMemory(t *testing.T) {
	for range 3 {
		one, two := Fields("a b c", " "), Words("a b c", " ", 3)
		one, two = append(one[:1], "x", "x", "x")[:1], append(two[:1], "x", "x", "x")[:1]
		one[0], two[0] = "x", "x"
		if !slices.Equal(Fields("a b c", " "), []string{"a", "b", "c"}) || !slices.Equal(Words("a b c", " ", 3), []string{"a", "b", "c"}) {
			t.Fatal("two answers share memory")
		}
		if Whole("a b c", " ") || !Whole("a b c", ":") || Trim(" a ", " ") != "a" {
			t.Fatal("another answer")
		}
	}
}

// askAll makes every call once.
func askAll(s, ifs string) {
	Fields(s, ifs)
	Whole(s, ifs)
	Trim(s, ifs)
	for _, n := range []int{-1 << 63, -1, 0, 1, 2, 100, 101, 1<<63 - 1} {
		Words(s, ifs, n)
	}
}

// 7.3, W7: no call panics.
func TestNoPanic(t *testing.T) {
	long := strings.Repeat(" a\x00\xff", api.MaxScript)
	odd := []string{"", " ", "\x00", "\xff", "\xc3", "\u00e9", "\U0010ffff", "\xed\xa0\x80", "a b", " \t\n", long}
	for _, s := range odd {
		for _, ifs := range odd {
			func() {
				defer func() {
					if r := recover(); r != nil {
						t.Errorf("%.20q, %.20q: %v", s, ifs, r)
					}
				}()
				askAll(s, ifs)
			}()
		}
	}
}

// W7: long texts end; what goes again and again through both is far from its end after the time that is given.
func TestEnds(t *testing.T) {
	const n = 1 << 20
	done := make(chan bool)
	go func() {
		for _, s := range []string{strings.Repeat("a", n), strings.Repeat(" ", n), strings.Repeat("a ", n/2), strings.Repeat(" ", n/2) + "a"} {
			askAll(s, strings.Repeat(":", n)+" ")
			askAll(s, strings.Repeat(":", n))
		}
		close(done)
	}()
	select {
	case <-done:
	case <-time.After(20 * time.Second):
		t.Fatal("not at its end")
	}
}
