package set

import (
	"math"
	"math/bits"
	"strings"
	"testing"

	"conch/api"
	"conch/probe"
)

// table is a set told otherwise: for each byte, whether it is in.
type table [256]bool

// tableOf reads a bit by bit, as the document lays them out.
func tableOf(a api.Set) table {
	var l table
	for c := range l {
		l[c] = a[c/64]>>(c%64)%2 == 1
	}
	return l
}

// samples are sets of each kind: none, all, one byte, all but one, whole numbers, patterns of bits.
func samples() []api.Set {
	const full = math.MaxUint64
	l := []api.Set{
		{}, {full, full, full, full}, {full - 1, full, full, full},
		{full, 0, 0, 0}, {0, full, 0, 0}, {0, 0, full, 0}, {0, 0, 0, full},
		{full, 0, full, 0}, {0, full, 0, full},
		{0x5555555555555555, 0x5555555555555555, 0x5555555555555555, 0x5555555555555555},
		{0xaaaaaaaaaaaaaaaa, 0xaaaaaaaaaaaaaaaa, 0xaaaaaaaaaaaaaaaa, 0xaaaaaaaaaaaaaaaa},
		{1 << 63, 1, 1 << 63, 1}, {1<<63 | 1, 1<<63 | 1, 1<<63 | 1, 1<<63 | 1},
		{0x123456789abcdef0, 0xfedcba9876543210, 0xdeadbeefcafebabe, 0x0f0f0f0ff0f0f0f0},
	}
	for _, c := range []int{0, 1, 31, 32, 62, 63, 64, 65, 97, 127, 128, 129, 191, 192, 193, 254, 255} {
		var one api.Set
		one[c/64] = 1 << (c % 64)
		rest := api.Set{full, full, full, full}
		rest[c/64] ^= one[c/64]
		l = append(l, one, rest)
	}
	return l
}

// 3.1: the document's example, and texts with bytes twice, in no order, of all four numbers.
func TestOf(t *testing.T) {
	for _, x := range []struct {
		s     string
		want  api.Set
		bytes string
	}{
		{"ba", api.Set{0, 3 << 33, 0, 0}, "ab"},
		{"", api.Set{}, ""},
		{"\x00", api.Set{1, 0, 0, 0}, "\x00"},
		{"?", api.Set{1 << 63, 0, 0, 0}, "?"},
		{"@", api.Set{0, 1, 0, 0}, "@"},
		{"\x7f", api.Set{0, 1 << 63, 0, 0}, "\x7f"},
		{"\x80", api.Set{0, 0, 1, 0}, "\x80"},
		{"\xbf", api.Set{0, 0, 1 << 63, 0}, "\xbf"},
		{"\xc0", api.Set{0, 0, 0, 1}, "\xc0"},
		{"\xff", api.Set{0, 0, 0, 1 << 63}, "\xff"},
		{"aaa", api.Set{0, 1 << 33, 0, 0}, "a"},
		{"abab\x00ba", api.Set{1, 3 << 33, 0, 0}, "\x00ab"},
		{"é", api.Set{0, 0, 1 << 41, 1 << 3}, "\xa9\xc3"},
		{"\ufffd", api.Set{0, 0, 1<<63 | 1<<61, 1 << 47}, "\xbd\xbf\xef"},
		{"\xff a\x80\n", api.Set{1<<32 | 1<<10, 1 << 33, 1, 1 << 63}, "\n a\x80\xff"},
	} {
		if a := Of(x.s); a != x.want {
			t.Errorf("Of(%q): %x, not %x", x.s, a, x.want)
		}
		if s := Bytes(x.want); s != x.bytes {
			t.Errorf("Bytes of %q: %q, not %q", x.s, s, x.bytes)
		}
	}
}

// 3.1: a byte is in the set of a text just where the text has it.
func TestOfTexts(t *testing.T) {
	probe.Texts([]string{"a", "b", "\x00", "?", "@", "\x7f", "\x80", "\xff", "é"}, 4, func(s string) {
		a := Of(s)
		for c, in := range tableOf(a) {
			if want := strings.IndexByte(s, byte(c)) >= 0; in != want || Has(a, byte(c)) != want {
				t.Errorf("Of(%q): byte %d: %v, %v, not %v", s, c, in, Has(a, byte(c)), want)
			}
		}
	})
}

// 3.1: all bytes but 0.
func TestAll(t *testing.T) {
	for c, in := range tableOf(All()) {
		if in != (c != 0) {
			t.Errorf("All: byte %d: %v", c, in)
		}
	}
	if All() != (api.Set{math.MaxUint64 - 1, math.MaxUint64, math.MaxUint64, math.MaxUint64}) {
		t.Errorf("All: %x", All())
	}
}

// checkRange holds Range against asking for each byte whether it lies between the ends.
func checkRange(t *testing.T, lo, hi int) {
	t.Helper()
	first, end := min(max(lo, 0), 255), min(max(hi, 0), 255)
	for c, in := range tableOf(Range(lo, hi)) {
		if want := lo <= hi && first <= c && c <= end; in != want {
			t.Errorf("Range(%d, %d): byte %d: %v", lo, hi, c, in)
		}
	}
}

// 3.1: each range with its ends within the bytes or near to them.
func TestRange(t *testing.T) {
	for lo := -3; lo <= 258; lo++ {
		for hi := -3; hi <= 258; hi++ {
			checkRange(t, lo, hi)
		}
	}
}

// 3.1: an end beyond the bytes is held there; a range whose end is below its beginning has none, wherever they lie.
func TestRangeHeld(t *testing.T) {
	for _, x := range []struct {
		lo, hi int
		want   string
	}{
		{'a', 'c', "abc"}, {'a', 'a', "a"}, {'b', 'a', ""}, {0, 0, "\x00"}, {255, 255, "\xff"},
		{-1, 0, "\x00"}, {-9, 1, "\x00\x01"}, {-5, -1, "\x00"}, {-1, -1, "\x00"}, {-1, -5, ""}, {0, -1, ""}, {1, -1, ""},
		{255, 256, "\xff"}, {254, 999, "\xfe\xff"}, {300, 400, "\xff"}, {256, 256, "\xff"}, {400, 300, ""}, {256, 255, ""}, {256, 254, ""},
		{math.MinInt, 1, "\x00\x01"}, {254, math.MaxInt, "\xfe\xff"}, {math.MaxInt, math.MinInt, ""},
		{math.MaxInt, math.MaxInt, "\xff"}, {math.MinInt, math.MinInt, "\x00"},
		{math.MaxInt - 1, math.MaxInt, "\xff"}, {math.MinInt, math.MinInt + 1, "\x00"}, {math.MaxInt, math.MaxInt - 1, ""}, {math.MinInt + 1, math.MinInt, ""},
		{math.MaxUint32 + 1 + 'a', math.MaxUint32 + 1 + 'c', "\xff"}, {256 + 'a', 256 + 'c', "\xff"}, {'a' - 256, 'c' - 256, "\x00"},
	} {
		if s := Bytes(Range(x.lo, x.hi)); s != x.want {
			t.Errorf("Range(%d, %d): %q, not %q", x.lo, x.hi, s, x.want)
		}
		checkRange(t, x.lo, x.hi)
	}
	if Range(math.MinInt, math.MaxInt) != Range(0, 255) || Count(Range(0, 255)) != 256 || Range(1, 255) != All() {
		t.Errorf("whole ranges: %x, %x", Range(math.MinInt, math.MaxInt), Range(0, 255))
	}
}

// 3.1: each byte of a set is told by Has, is counted, and stands once in Bytes, rising.
func TestOneSet(t *testing.T) {
	for _, a := range samples() {
		var want []byte
		for c, in := range tableOf(a) {
			if Has(a, byte(c)) != in {
				t.Errorf("Has(%x, %d): %v", a, c, !in)
			}
			if in {
				want = append(want, byte(c))
			}
		}
		if n := Count(a); n != len(want) {
			t.Errorf("Count(%x): %d, not %d", a, n, len(want))
		}
		if s := Bytes(a); s != string(want) {
			t.Errorf("Bytes(%x): %q, not %q", a, s, want)
		}
	}
}

// checkTwo holds what is made of two sets against what is so of each byte.
func checkTwo(t *testing.T, a, b api.Set) {
	t.Helper()
	l, m := tableOf(a), tableOf(b)
	or, and, less := tableOf(Or(a, b)), tableOf(And(a, b)), tableOf(Less(a, b))
	within := true
	for c := range l {
		if or[c] != (l[c] || m[c]) || and[c] != (l[c] && m[c]) || less[c] != (l[c] && !m[c]) {
			t.Errorf("%x, %x: byte %d: %v %v %v", a, b, c, or[c], and[c], less[c])
		}
		if l[c] && !m[c] {
			within = false
		}
	}
	if Within(a, b) != within {
		t.Errorf("Within(%x, %x): %v", a, b, !within)
	}
}

// 3.1: two sets of each kind, each with each.
func TestTwoSets(t *testing.T) {
	for _, a := range samples() {
		for _, b := range samples() {
			checkTwo(t, a, b)
		}
	}
}

// 3.1: each two single bytes, and each one with what it is one of or is missing from.
func TestTwoBytes(t *testing.T) {
	for c := range 256 {
		a := Range(c, c)
		checkTwo(t, a, All())
		checkTwo(t, All(), a)
		checkTwo(t, Less(All(), a), All())
		checkTwo(t, All(), Less(All(), a))
		for d := range 256 {
			if b := Range(d, d); Within(a, b) != (c == d) || Has(a, byte(d)) != (c == d) {
				t.Errorf("bytes %d, %d: %v, %v", c, d, Within(a, b), Has(a, byte(d)))
			}
		}
	}
}

// 3.1: sets that have some bytes in common, as texts.
func TestJoined(t *testing.T) {
	a, b := Of("abc\x00\xff"), Of("bcd\x80")
	for _, x := range []struct{ name, got, want string }{
		{"Or", Bytes(Or(a, b)), "\x00abcd\x80\xff"},
		{"And", Bytes(And(a, b)), "bc"},
		{"Less", Bytes(Less(a, b)), "\x00a\xff"},
		{"Less turned", Bytes(Less(b, a)), "d\x80"},
	} {
		if x.got != x.want {
			t.Errorf("%s: %q, not %q", x.name, x.got, x.want)
		}
	}
	if Within(a, b) || Within(b, a) || !Within(Of("cb"), b) || !Within(api.Set{}, api.Set{}) || Within(Of("bcde\x80"), b) {
		t.Error("Within")
	}
}

// 3.2: a set is told wholly by its bytes: none is lost on the way through a text, and none comes in.
func TestExact(t *testing.T) {
	for _, a := range samples() {
		if back := Of(Bytes(a)); back != a {
			t.Errorf("%x comes back as %x", a, back)
		}
		for _, b := range samples() {
			both := And(a, b)
			if Or(Less(a, b), both) != a || And(Less(a, b), b) != (api.Set{}) {
				t.Errorf("%x and %x do not make up %x", Less(a, b), both, a)
			}
			if Within(a, b) != (Or(a, b) == b) || Within(a, b) && Within(b, a) != (a == b) {
				t.Errorf("Within(%x, %x): %v", a, b, Within(a, b))
			}
			if Count(Or(a, b))+Count(both) != Count(a)+Count(b) {
				t.Errorf("%x, %x: counts do not make up", a, b)
			}
		}
	}
}

// 3.2: of four bytes, one of each number, sixteen sets can be made, and no two of them are one.
func TestExactSmall(t *testing.T) {
	const four = "\x00a\x80\xff"
	seen := map[api.Set]int{}
	for m := range 16 {
		var l []byte
		for i := range len(four) {
			if m>>i%2 == 1 {
				l = append(l, four[i])
			}
		}
		a := Of(string(l))
		seen[a]++
		if Count(a) != bits.OnesCount(uint(m)) || Bytes(a) != string(l) {
			t.Errorf("Of(%q): %d, %q", l, Count(a), Bytes(a))
		}
	}
	if len(seen) != 16 {
		t.Errorf("%d sets, not 16", len(seen))
	}
}

// 3.1: what is handed in stays as it was.
func TestNotChanged(t *testing.T) {
	a, b := Of("ab\x00"), Of("bc\xff")
	c, d := a, b
	Or(a, b)
	And(a, b)
	Less(a, b)
	Within(a, b)
	Has(a, 'a')
	Count(a)
	Bytes(a)
	if a != c || b != d {
		t.Errorf("changed: %x, %x", a, b)
	}
	first := All()
	first[0] = 0
	if Has(first, 1) || !Has(All(), 1) {
		t.Error("All hands out what it keeps")
	}
}

// 3.3: no text, no number and no set makes a call panic or run on.
func TestNoPanic(t *testing.T) {
	numbers := []int{
		0, 1, -1, 63, 64, 255, 256, -256, 65535, 65536,
		math.MaxInt32, math.MinInt32, math.MaxInt32 + 1, math.MaxUint32, math.MaxUint32 + 1,
		math.MaxInt, math.MaxInt - 1, math.MaxInt - 255, math.MinInt, math.MinInt + 1, math.MinInt + 255,
	}
	for _, lo := range numbers {
		for _, hi := range numbers {
			checkRange(t, lo, hi)
		}
	}
	for _, s := range []string{strings.Repeat("\x00", 100000), strings.Repeat("\xff", 100000), strings.Repeat("ab\x80é", 100000)} {
		if a := Of(s); a != Of(s[:5]) {
			t.Errorf("a long text: %x", a)
		}
	}
	for c := range 256 {
		if Has(api.Set{}, byte(c)) || !Has(Range(0, 255), byte(c)) {
			t.Errorf("byte %d of none or of all", c)
		}
	}
	if Bytes(api.Set{}) != "" || Count(api.Set{}) != 0 {
		t.Error("the empty set has bytes")
	}
}
