package pat

import (
	"regexp"
	"slices"
	"strconv"
	"strings"
	"testing"
	"time"

	"conch/api"
	"conch/probe"
)

// some is the pattern of s in which just the bytes are live whose mark is l.
func some(s, marks string) api.Pat {
	p := api.Pat{Text: s}
	for i := range len(marks) {
		p.Live = append(p.Live, marks[i] == 'l')
	}
	return p
}

// marked is the pattern of a row of pairs, each a byte and its mark.
func marked(pairs string) api.Pat {
	var s, marks []byte
	for i := 0; i < len(pairs); i += 2 {
		s, marks = append(s, pairs[i]), append(marks, pairs[i+1])
	}
	return some(string(s), string(marks))
}

// both tells each byte of s as two pairs: live, and not.
func both(s string) []string {
	var l []string
	for _, c := range probe.Pieces(s) {
		l = append(l, c+"l", c+"d")
	}
	return l
}

// short tells all texts of some bytes, up to a number of them.
func short(alphabet string, most int) []string {
	var l []string
	probe.Texts(probe.Pieces(alphabet), most, func(s string) { l = append(l, s) })
	return l
}

// dead is added to the rune of a byte that is not live, so that an expression can tell it from one that is.
const dead = 0x100

var (
	// inBracket knows a bracket by the runes of a pattern: a first byte, whatever it is, and those up to a live `]`.
	inBracket = regexp.MustCompile(`^\[(?s:(!)(.[^\]]*)|()([^!][^\]]*))\]`)
	// inItem knows one item between the two.
	inItem = regexp.MustCompile(`(?s)(.)-(.)|(.)`)
)

// runes tells a pattern by runes: a byte that is live by its own number, another by one above 255.
func runes(p api.Pat) string {
	var b strings.Builder
	for i := range len(p.Text) {
		c := rune(p.Text[i])
		if i >= len(p.Live) || !p.Live[i] {
			c += dead
		}
		b.WriteRune(c)
	}
	return b.String()
}

// wide tells each byte of s as a rune of its own.
func wide(s string) string {
	var b strings.Builder
	for i := range len(s) {
		b.WriteRune(rune(s[i]))
	}
	return b.String()
}

// quoted tells the byte of a pattern's rune as a regular expression has it.
func quoted(s string) string {
	return `\x{` + strconv.FormatInt(int64([]rune(s)[0]%dead), 16) + `}`
}

// classOf tells a bracket as a regular expression.
func classOf(not bool, between string) string {
	all := ""
	for _, x := range inItem.FindAllStringSubmatch(between, -1) {
		switch {
		case x[3] != "":
			all += quoted(x[3])
		case []rune(x[1])[0]%dead <= []rune(x[2])[0]%dead:
			all += quoted(x[1]) + "-" + quoted(x[2])
		}
	}
	switch {
	case all == "" && not:
		return `(?s:.)`
	case all == "":
		return `[^\x{0}-\x{10ffff}]`
	case not:
		return "[^" + all + "]"
	}
	return "[" + all + "]"
}

// expression tells p as a regular expression on wide texts, and whether something in p means more than itself.
func expression(p api.Pat) (*regexp.Regexp, bool) {
	s, all, active := runes(p), "", false
	for s != "" {
		first := string([]rune(s)[0])
		x := inBracket.FindStringSubmatch(s)
		active = active || x != nil || first == "*" || first == "?"
		switch {
		case x != nil:
			all += classOf(x[1] != "", x[2]+x[4])
			first = x[0]
		case first == "*":
			all += `(?s:.*)`
		case first == "?":
			all += `(?s:.)`
		default:
			all += quoted(first)
		}
		s = s[len(first):]
	}
	return regexp.MustCompile(`\A(?:` + all + `)\z`), active
}

// check holds Match and Active of p against its regular expression.
func check(t *testing.T, p api.Pat, texts []string) {
	t.Helper()
	x, active := expression(p)
	if Active(p) != active {
		t.Fatalf("Active of %q %v: %v", p.Text, p.Live, !active)
	}
	for _, s := range append(texts, p.Text) {
		if want := x.MatchString(wide(s)); Match(p, s) != want {
			t.Fatalf("Match of %q %v, %q: %v", p.Text, p.Live, s, !want)
		}
	}
}

// 6.1: all short patterns of the bytes that may mean something, live and not.
func TestShortPatterns(t *testing.T) {
	texts := short("abc[*", 2)
	probe.Texts(both("*?[]!-a"), 4, func(pairs string) { check(t, marked(pairs), texts) })
}

// 6.1: all brackets of up to five bytes, with what stands behind them.
func TestBrackets(t *testing.T) {
	texts := append(short("!-]abc[\x00\xff", 1), "a]", "!]", "-a", "]]", "b]a")
	pairs := append(both("]-"), "!l", "!d", "al", "cd")
	probe.Texts(pairs, 5, func(s string) { check(t, marked("[l"+s), texts) })
}

// 6.1: patterns of several stars, and what they go back over.
func TestStars(t *testing.T) {
	texts := short("ab", 6)
	probe.Texts([]string{"*l", "?l", "al", "bl", "[lalbl]l"}, 5, func(pairs string) { check(t, marked(pairs), texts) })
}

// 6.1: every byte is matched by `?` and `*`, by itself, and by no other one.
func TestBytes(t *testing.T) {
	for c := range 256 {
		s := string([]byte{byte(c)})
		for _, p := range []string{"?", "*", "*?", "?*", "[!q]", "[!\x00-\xff]"} {
			want := p != "[!\x00-\xff]" && (p != "[!q]" || s != "q")
			if Match(Raw(p), s) != want {
				t.Errorf("Match of %q, %q: %v", p, s, !want)
			}
		}
		for d := range 256 {
			if Match(Plain(s), string([]byte{byte(d)})) != (c == d) {
				t.Errorf("Match of %q, byte %d", s, d)
			}
		}
	}
}

// 6.1: from every edge to every other one, each byte; both ends may be dead.
func TestRanges(t *testing.T) {
	edges := []byte("\x00\x01 !*-?[]^az\x7f\x80\xfe\xff")
	for _, lo := range edges {
		for _, hi := range edges {
			for c := range 256 {
				in, s := int(lo) <= c && c <= int(hi), string([]byte{byte(c)})
				between := string([]byte{lo, '-', hi})
				if Match(some("["+between+"]", "ldldl"), s) != in {
					t.Errorf("from %q to %q: %q", lo, hi, s)
				}
				if Match(some("[!"+between+"]", "lldldl"), s) == in {
					t.Errorf("not from %q to %q: %q", lo, hi, s)
				}
				if want := s == "-" || s[0] == lo || s[0] == hi; Match(some("["+between+"]", "ldddl"), s) != want {
					t.Errorf("%q, a minus, %q: %q", lo, hi, s)
				}
			}
		}
	}
}

// 6.1: what a shell may do otherwise, and edges of the chapter's words.
func TestWords(t *testing.T) {
	for _, x := range []struct {
		p    api.Pat
		s    string
		want bool
	}{
		{Raw("a*"), "ab", true},
		{Raw("?"), "é", false}, {Raw("??"), "é", true}, {Raw("[é]"), "é", false}, {Raw("[é][é]"), "é", true},
		{Raw("*"), "a/b\n", true}, {Raw("?"), "/", true}, {Raw("*"), ".a", true}, {Raw("[!a]"), "/", true},
		{Raw(`\*`), `\a`, true}, {Raw(`\*`), "*", false}, {Raw(`[\]]`), `\]`, true},
		{Raw("[^a]"), "a", true}, {Raw("[^a]"), "b", false}, {Raw("[^a]"), "^", true},
		{Raw("[[:digit:]]"), "1", false}, {Raw("[[:digit:]]"), "g]", true},
		{Raw("[a!]"), "!", true}, {Raw("[!!]"), "!", false}, {Raw("[!!]"), "a", true},
		{Raw("[]-a]"), "^", true}, {Raw("[]-a]"), "-", false}, {Raw("[--0]"), ".", true}, {Raw("[a-a]"), "a", true},
		{Raw("[!c-a]"), "b", true}, {Raw("[c-ab]"), "b", true}, {Raw("[a-]c]"), "-c]", true},
		{some("[!]", "ldl"), "!", true}, {some("[!]", "ldl"), "[!]", false},
		{some("[!]]", "ldll"), "!]", true}, {some("[]]", "ldl"), "]", true}, {some("[]]", "lld"), "[]]", true},
		{some("[!]]", "lldl"), "a", true}, {some("[!]]", "lldl"), "]", false},
		{some("[a-]]", "llldl"), "]", false}, {some("[A-]]", "llldl"), "Z", true},
		{some("[!-z]", "ldlll"), "q", true}, {some("[*?[]", "ldddl"), "[", true},
		{some("a*", "l"), "a*", true}, {some("a*", "l"), "ab", false},
		{some("*", "llll"), "ab", true}, {some("", "ll"), "", true}, {some("", "ll"), "a", false},
		{some("[a", "lll"), "[a", true}, {some("[", "ll"), "[", true}, {some("[!", "lll"), "[!", true},
	} {
		if Match(x.p, x.s) != x.want {
			t.Errorf("Match of %q %v, %q: %v", x.p.Text, x.p.Live, x.s, !x.want)
		}
	}
}

// 6.1: nothing of Plain is live, all of Raw is.
func TestPlainRaw(t *testing.T) {
	for _, s := range append(short("a*[\x00\xff", 3), "é", strings.Repeat("*", 5000)) {
		if p := Plain(s); p.Text != s || slices.Contains(p.Live, true) || Active(p) {
			t.Errorf("Plain(%q): %q %v", s, p.Text, p.Live)
		}
		if p := Raw(s); p.Text != s || len(p.Live) != len(s) || slices.Contains(p.Live, false) {
			t.Errorf("Raw(%q): %q %v", s, p.Text, p.Live)
		}
	}
}

// cutBy tells what Cut should, by trying every beginning or end, the shortest first.
func cutBy(x *regexp.Regexp, s string, front, long bool) string {
	left := s
	for n := range len(s) + 1 {
		off, rest := s[:n], s[n:]
		if !front {
			rest, off = s[:len(s)-n], s[len(s)-n:]
		}
		if x.MatchString(wide(off)) {
			left = rest
			if !long {
				break
			}
		}
	}
	return left
}

// checkCut holds all four ways to cut s against the regular expression of p.
func checkCut(t *testing.T, p api.Pat, x *regexp.Regexp, s string) {
	t.Helper()
	for _, front := range []bool{false, true} {
		for _, long := range []bool{false, true} {
			if got, want := Cut(p, s, front, long), cutBy(x, s, front, long); got != want {
				t.Fatalf("Cut of %q %v, %q, %v, %v: %q, not %q", p.Text, p.Live, s, front, long, got, want)
			}
		}
	}
}

// 6.2: short texts, cut by short patterns.
func TestCutShort(t *testing.T) {
	texts := append(short("ab", 4), "*", "a*", "*a", "a*b", "ba*", "[a]", "é", "\x00\xff")
	probe.Texts([]string{"*l", "*d", "?l", "al", "bl", "[l!lal]l"}, 4, func(pairs string) {
		p := marked(pairs)
		x, _ := expression(p)
		for _, s := range texts {
			checkCut(t, p, x, s)
		}
	})
}

// 6.2: what scripts ask for, and edges.
func TestCutWords(t *testing.T) {
	for _, x := range []struct {
		p           api.Pat
		s           string
		front, long bool
		want        string
	}{
		{Raw("*/"), "a/b/c", true, false, "b/c"}, {Raw("*/"), "a/b/c", true, true, "c"},
		{Raw("/*"), "a/b/c", false, false, "a/b"}, {Raw("/*"), "a/b/c", false, true, "a"},
		{Raw("[0-9]*"), "12ab", true, false, "2ab"}, {Raw("*[0-9]"), "ab12", false, false, "ab1"},
		{Raw("[!a]"), "ab", true, true, "ab"}, {Raw("[!a]"), "ab", false, true, "a"},
		{Plain("*"), "*a*", true, true, "a*"}, {Plain("*"), "*a*", false, true, "*a"}, {Plain("*"), "a", true, true, "a"},
		{Raw("ab"), "abab", true, true, "ab"}, {Raw("ba"), "abab", false, true, "abab"},
		{Raw("abc"), "ab", true, true, "ab"}, {Raw("abc"), "bc", false, true, "bc"},
		{Raw("a*b"), "ab", false, false, ""}, {Raw("a*b"), "aabb", false, false, "a"}, {Raw("a*b"), "aabb", true, false, "b"},
		{Raw("?"), "", true, true, ""}, {Raw("*"), "", false, true, ""}, {api.Pat{}, "ab", false, true, "ab"},
		{Raw("?"), "é", true, false, "\xa9"}, {Raw("?"), "é", false, false, "\xc3"},
	} {
		if got := Cut(x.p, x.s, x.front, x.long); got != x.want {
			t.Errorf("Cut of %q, %q, %v, %v: %q, not %q", x.p.Text, x.s, x.front, x.long, got, x.want)
		}
	}
}

// 6.3: a pattern that is not active matches itself, and no other text.
func TestNotActive(t *testing.T) {
	texts := append(short("*?[]!a", 3), "[!]a", "****", "[[[[")
	seen := 0
	probe.Texts(both("*?[]!a"), 4, func(pairs string) {
		p := marked(pairs)
		if Active(p) {
			return
		}
		seen++
		for _, s := range append(texts, p.Text, p.Text+"a", "a"+p.Text) {
			if want := s == p.Text; Match(p, s) != want {
				t.Fatalf("Match of %q %v, %q: %v", p.Text, p.Live, s, !want)
			}
		}
		if s := p.Text + "x"; p.Text != "" && (Cut(p, s, true, true) != "x" || Cut(p, s, false, true) != s) {
			t.Fatalf("Cut of %q %v, %q", p.Text, p.Live, s)
		}
	})
	if seen < 1000 {
		t.Error(seen, "patterns are not active")
	}
}

// W2: the same is answered again; rule 3: what is handed in stays as it is, its spare room too, and an answer is new memory.
func TestMemory(t *testing.T) {
	live := []bool{true, false, true, true, true, false, true, true, false}
	p := api.Pat{Text: "*a[!b]", Live: live[:6:9]}
	kept := slices.Clone(live)
	for range 3 {
		if Match(p, "xab") || !Match(p, "xa[!b]") || Active(p) != true || Cut(p, "xa[!b]y", true, true) != "y" || Cut(p, "ya[!b]", false, false) != "y" {
			t.Error("another answer")
		}
	}
	if !slices.Equal(live, kept) {
		t.Error("what was handed in is changed")
	}
	live[0] = false
	if Match(p, "xa[!b]") || !Match(p, "*a[!b]") || Active(p) {
		t.Error("what was handed in is kept")
	}
	one := Raw("ab")
	one.Live[0] = false
	_ = append(one.Live[:1], false, false, false)
	two := Plain("ab")
	_ = append(two.Live[:0], true, true, true)
	if !slices.Equal(Raw("ab").Live, []bool{true, true}) || slices.Contains(Plain("ab").Live, true) {
		t.Error("two answers share memory")
	}
}

// askAll makes every call once.
func askAll(p api.Pat, s string) {
	Active(p)
	Match(p, s)
	Plain(s)
	Raw(s)
	for _, front := range []bool{false, true} {
		Cut(p, s, front, false)
		Cut(p, s, front, true)
	}
}

// 6.4: in steps of both lengths; what takes more of them is far from its end after the time that is given.
func TestSteps(t *testing.T) {
	const n = 4000
	a := strings.Repeat("a", n)
	for i, x := range []struct {
		p api.Pat
		s string
	}{
		{Raw(strings.Repeat("*a", n/2) + "b"), a},
		{Raw("b" + strings.Repeat("a*", n/2)), a},
		{Raw("*" + a[:n/2] + "b"), a + a},
		{Raw("b" + a[:n/2] + "*"), a + a},
		{Raw(strings.Repeat("*?", n/2) + "b"), a},
		{Raw(strings.Repeat("*[!b]", n/2) + "b"), a},
		{Raw(strings.Repeat("*", 100*n) + "b"), a},
		{Raw(strings.Repeat("?", 100*n)), a},
		{Raw(strings.Repeat("[", 100*n)), strings.Repeat("[", 100*n)},
		{Raw(strings.Repeat("[!", 100*n)), strings.Repeat("[!", 100*n)},
		{Raw("[" + strings.Repeat("a-z", 10*n) + "]"), a},
		{Raw("*" + a[:100] + "b*"), strings.Repeat(a, 10)},
		{Plain(strings.Repeat(a, 100)), strings.Repeat(a, 100)},
		{Raw(a), strings.Repeat(a, 100)},
	} {
		done := make(chan bool)
		go func() {
			askAll(x.p, x.s)
			close(done)
		}()
		select {
		case <-done:
		case <-time.After(20 * time.Second):
			t.Fatalf("case %d does not end", i)
		}
	}
}

// 6.4: whatever is handed in, the calls answer.
func TestNoPanic(t *testing.T) {
	texts := []string{"", "\x00", "\xff", "é", "[", "]", "[a]", "*", strings.Repeat("[", 300), strings.Repeat("a*", 300)}
	ask := func(p api.Pat, s string) {
		defer func() {
			if r := recover(); r != nil {
				t.Errorf("%q %v, %q: %v", p.Text, p.Live, s, r)
			}
		}()
		askAll(p, s)
	}
	probe.Texts([]string{"*", "[", "]", "!", "-", "\x00", "\xff"}, 4, func(s string) {
		for _, live := range []int{0, 1, len(s) - 1, len(s), len(s) + 1, len(s) + 9} {
			p := api.Pat{Text: s, Live: slices.Repeat([]bool{true}, max(live, 0))}
			for _, u := range texts {
				ask(p, u)
			}
		}
	})
	ask(api.Pat{}, "")
	ask(api.Pat{Live: []bool{true}}, "a")
}
