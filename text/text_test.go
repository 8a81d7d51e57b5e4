package text

import (
	"math"
	"math/big"
	"regexp"
	"slices"
	"strings"
	"testing"

	"conch/probe"
)

// edges are numbers at which telling or reading could go wrong.
func edges() []int {
	l := []int{0, math.MaxInt, math.MinInt}
	for n := 1; n > 0; n *= 2 {
		l = append(l, n-1, n, n+1)
	}
	for n := 1; n < math.MaxInt/10; n *= 10 {
		l = append(l, n-1, n, n+1, n*10-1)
	}
	for _, n := range slices.Clone(l) {
		l = append(l, -n)
	}
	return l
}

// 1.1: every byte, alone, first and behind another one.
func TestNameBytes(t *testing.T) {
	const letters = "abcdefghijklmnopqrstuvwxyzABCDEFGHIJKLMNOPQRSTUVWXYZ_"
	const all = letters + "0123456789"
	for c := range 256 {
		s := string([]byte{byte(c)})
		first, behind := strings.Contains(letters, s), strings.Contains(all, s)
		if Name(s) != first || Name(s+"x") != first || Name("x"+s) != behind || Name("x"+s+"y") != behind {
			t.Errorf("byte %d: %v %v %v", c, Name(s), Name(s+"x"), Name("x"+s))
		}
		if n := NameLen("-x"+s+"y", 1); behind && n != 3 || !behind && n != 1 {
			t.Errorf("byte %d behind: %d", c, n)
		}
	}
}

// 1.1: names of short texts, at every place, as a pattern tells them.
func TestNamePlaces(t *testing.T) {
	whole := regexp.MustCompile(`^[A-Za-z_][A-Za-z0-9_]*$`)
	front := regexp.MustCompile(`^[A-Za-z_][A-Za-z0-9_]*`)
	probe.Texts([]string{"a", "Z", "_", "0", "9", "-", "\n", "\x00", "é"}, 4, func(s string) {
		if want := whole.MatchString(s); Name(s) != want {
			t.Errorf("Name(%q): %v", s, !want)
		}
		for at := range len(s) {
			if n, want := NameLen(s, at), len(front.FindString(s[at:])); n != want {
				t.Errorf("NameLen(%q, %d): %d, not %d", s, at, n, want)
			}
		}
	})
}

// 1.1: a name, however long, is told whole.
func TestNameLong(t *testing.T) {
	s := strings.Repeat("aB_9", 5000)
	if !Name(s) || NameLen(s, 0) != len(s) || NameLen(s+"=", 0) != len(s) || NameLen(s, 4) != len(s)-4 {
		t.Error("a long name")
	}
	if Name(s + " ") {
		t.Error("a long name and a blank")
	}
}

// 1.1: a place that the text has not.
func TestNameNoPlace(t *testing.T) {
	for _, s := range []string{"", "a", "ab", "a1-"} {
		for _, at := range []int{-1, -2, len(s), len(s) + 1, 1 << 40, math.MaxInt, math.MinInt} {
			if n := NameLen(s, at); n != 0 {
				t.Errorf("NameLen(%q, %d): %d", s, at, n)
			}
		}
	}
}

// 1.1: the chapter's example.
func TestNameExample(t *testing.T) {
	if n := NameLen("a1-", 0); n != 2 {
		t.Error(n)
	}
}

// 1.1: digits of a number, a minus ahead of one below 0 alone.
func TestDigits(t *testing.T) {
	for _, n := range edges() {
		if s, want := Digits(n), big.NewInt(int64(n)).String(); s != want {
			t.Errorf("Digits(%d): %q, not %q", n, s, want)
		}
	}
}

// 1.1: numbers of short texts.
func TestNumberShort(t *testing.T) {
	digits := regexp.MustCompile(`^[0-9]+$`)
	probe.Texts([]string{"0", "1", "9", "-", "+", " ", "_", "a", "\n", "."}, 4, func(s string) {
		n, ok := Number(s)
		want := new(big.Int)
		wantOk := digits.MatchString(s)
		if wantOk {
			want.SetString(s, 10)
		}
		if ok != wantOk || int64(n) != want.Int64() {
			t.Errorf("Number(%q): %d %v", s, n, ok)
		}
	})
}

// 1.1: every byte in the place of a digit.
func TestNumberBytes(t *testing.T) {
	for c := range 256 {
		s := string([]byte{byte(c)})
		want := '0' <= c && c <= '9'
		for _, x := range []string{s, "1" + s, s + "1", "1" + s + "1"} {
			if n, ok := Number(x); ok != want || !ok && n != 0 {
				t.Errorf("Number(%q): %d %v", x, n, ok)
			}
		}
	}
}

// 1.1: the bound 2^62, from both sides, with noughts ahead too.
func TestNumberBound(t *testing.T) {
	bound := new(big.Int).Lsh(big.NewInt(1), 62)
	for d := int64(-30); d <= 30; d++ {
		s := new(big.Int).Add(bound, big.NewInt(d)).String()
		for _, x := range []string{s, "0" + s, strings.Repeat("0", 100) + s} {
			n, ok := Number(x)
			if ok != (d <= 0) || ok && n != 1<<62+int(d) || !ok && n != 0 {
				t.Errorf("Number(%q): %d %v", x, n, ok)
			}
		}
	}
}

// 1.1: numbers that would come within the bound again, if they went round.
func TestNumberGreat(t *testing.T) {
	for _, shift := range []uint{63, 64, 65, 128, 1000} {
		for d := int64(-3); d <= 3; d++ {
			s := new(big.Int).Add(new(big.Int).Lsh(big.NewInt(1), shift), big.NewInt(d)).String()
			if n, ok := Number(s); n != 0 || ok {
				t.Errorf("Number(%q): %d %v", s, n, ok)
			}
		}
	}
	for _, s := range []string{strings.Repeat("9", 19), strings.Repeat("9", 20000), "4611686018427387904a", "4611686018427387904 "} {
		if n, ok := Number(s); n != 0 || ok {
			t.Errorf("Number of %d bytes: %d %v", len(s), n, ok)
		}
	}
}

// 1.1: digits of another script are none.
func TestNumberForeign(t *testing.T) {
	for _, s := range []string{"٣", "1٣", "０", "²", "0x1", "1e1", "1_0", "\x001", "1\x00"} {
		if n, ok := Number(s); n != 0 || ok {
			t.Errorf("Number(%q): %d %v", s, n, ok)
		}
	}
}

// 1.1: lines of short texts: with the line feeds between they are the text again.
func TestLines(t *testing.T) {
	probe.Texts([]string{"a", "bc", "\n", "\r", "\x00", "é"}, 5, func(s string) {
		l := Lines(s)
		want := strings.Split(s, "\n")
		if want[len(want)-1] == "" {
			want = want[:len(want)-1]
		}
		if !slices.Equal(l, want) {
			t.Errorf("Lines(%q): %q, not %q", s, l, want)
		}
	})
}

// 1.1: line feeds alone, and lines of some length.
func TestLinesMany(t *testing.T) {
	if l := Lines(strings.Repeat("\n", 3000)); len(l) != 3000 || slices.ContainsFunc(l, func(s string) bool { return s != "" }) {
		t.Error("line feeds", len(l))
	}
	long := strings.Repeat("x", 20000)
	if l := Lines(long + "\n" + long); len(l) != 2 || l[0] != long || l[1] != long {
		t.Error("long lines", len(l))
	}
}

// Rule 3: an answer is new memory, its spare room too.
func TestLinesNew(t *testing.T) {
	const s = "a\nb\nc"
	one, other := Lines(s), Lines(s)
	one[0] = "x"
	_ = append(one[:1], "y", "z", "w")
	if !slices.Equal(other, []string{"a", "b", "c"}) || !slices.Equal(Lines(s), []string{"a", "b", "c"}) {
		t.Error("two answers share memory")
	}
}

// 1.2: what Digits tells of 0 to 2^62 is what Number reads; of another it reads nothing.
func TestNumberToldAndRead(t *testing.T) {
	for _, n := range edges() {
		got, ok := Number(Digits(n))
		if want := 0 <= n && n <= 1<<62; ok != want || ok && got != n || !ok && got != 0 {
			t.Errorf("%d: %d %v", n, got, ok)
		}
	}
	for n := range 20000 {
		if got, ok := Number(Digits(n)); got != n || !ok {
			t.Errorf("%d: %d %v", n, got, ok)
		}
	}
}

// 1.2: what Number reads Digits tells, without the noughts ahead.
func TestNumberReadAndTold(t *testing.T) {
	probe.Texts([]string{"0", "1", "8", "9"}, 6, func(s string) {
		n, ok := Number(s)
		if !ok {
			if s != "" {
				t.Errorf("Number(%q): false", s)
			}
			return
		}
		want := strings.TrimLeft(s, "0")
		if want == "" {
			want = "0"
		}
		if Digits(n) != want {
			t.Errorf("%q: %q", s, Digits(n))
		}
	})
}

// 1.3: whatever is handed in, the calls answer.
func TestNoPanic(t *testing.T) {
	pieces := []string{"", "\x00", "\xff", "\xc3", "é", "\n", "a", "0", "-", strings.Repeat("9", 300), strings.Repeat("a\n", 300)}
	probe.Texts(pieces, 3, func(s string) {
		defer func() {
			if r := recover(); r != nil {
				t.Errorf("%q: %v", s, r)
			}
		}()
		Name(s)
		Number(s)
		Lines(s)
		for _, at := range []int{math.MinInt, -1, 0, 1, len(s) - 1, len(s), len(s) + 1, math.MaxInt} {
			NameLen(s, at)
			Digits(at)
		}
	})
}
