package pos

import (
	"math"
	"strings"
	"testing"

	"conch/probe"
)

// pieces are what short texts are made of: bytes, a rune of two bytes, and what elsewhere ends a line.
func pieces() []string {
	return []string{"a", "\n", "\r", "\x00", "\xff", "é"}
}

// places tells the line and column of each place of s, counted a byte at a time.
func places(s string) [][2]int {
	line, col := 1, 1
	l := [][2]int{{line, col}}
	for i := range len(s) {
		col++
		if s[i] == '\n' {
			line, col = line+1, 1
		}
		l = append(l, [2]int{line, col})
	}
	return l
}

// edges are numbers at which a place, a line or a column could go wrong.
func edges() []int {
	return []int{
		0, 1, -1, 2, -2, 20000,
		math.MaxInt32, math.MinInt32, math.MaxInt32 + 1, math.MaxUint32, math.MaxUint32 + 1, math.MaxUint32 + 2,
		math.MaxInt, math.MaxInt - 1, math.MinInt, math.MinInt + 1, math.MinInt + 2,
	}
}

// 2.1: the document's example, and a place of each kind.
func TestOf(t *testing.T) {
	for _, x := range []struct {
		s             string
		at, line, col int
	}{
		{"a", 1, 1, 2},
		{"", 0, 1, 1},
		{"a", 0, 1, 1},
		{"\n", 0, 1, 1},
		{"\n", 1, 2, 1},
		{"ab\ncd", 2, 1, 3},
		{"ab\ncd", 3, 2, 1},
		{"ab\ncd", 4, 2, 2},
		{"ab\ncd", 5, 2, 3},
		{"ab\ncd\n", 6, 3, 1},
		{"\n\n\n", 2, 3, 1},
		{"a\r\nb", 2, 1, 3},
		{"a\r\nb", 3, 2, 1},
		{"a\rb", 2, 1, 3},
		{"é\nx", 2, 1, 3},
		{"é\nx", 3, 2, 1},
		{"a\u2028b", 4, 1, 5},
	} {
		if line, col := Of(x.s, x.at); line != x.line || col != x.col {
			t.Errorf("Of(%q, %d): %d, %d, not %d, %d", x.s, x.at, line, col, x.line, x.col)
		}
		if at, ok := At(x.s, x.line, x.col); at != x.at || !ok {
			t.Errorf("At(%q, %d, %d): %d, %v, not %d", x.s, x.line, x.col, at, ok, x.at)
		}
	}
}

// 2.1: each place of each short text, as counting a byte at a time tells it.
func TestOfPlaces(t *testing.T) {
	probe.Texts(pieces(), 5, func(s string) {
		for at, want := range places(s) {
			if line, col := Of(s, at); line != want[0] || col != want[1] {
				t.Errorf("Of(%q, %d): %d, %d, not %v", s, at, line, col, want)
			}
		}
	})
}

// 2.1: a place ahead of the text is its beginning, one behind it is its end.
func TestOfHeld(t *testing.T) {
	probe.Texts(pieces(), 3, func(s string) {
		l := places(s)
		for _, at := range append(edges(), len(s)+1, len(s)+2) {
			want := l[min(max(at, 0), len(s))]
			if line, col := Of(s, at); line != want[0] || col != want[1] {
				t.Errorf("Of(%q, %d): %d, %d, not %v", s, at, line, col, want)
			}
		}
	})
}

// 2.1: At finds a place by its line and column, and nothing by any others.
func TestAt(t *testing.T) {
	probe.Texts(pieces(), 4, func(s string) {
		want := map[[2]int]int{}
		for at, x := range places(s) {
			want[x] = at
		}
		for line := -1; line <= len(s)+3; line++ {
			for col := -1; col <= len(s)+3; col++ {
				at, ok := At(s, line, col)
				w, is := want[[2]int{line, col}]
				if at != w || ok != is {
					t.Errorf("At(%q, %d, %d): %d, %v, not %d, %v", s, line, col, at, ok, w, is)
				}
			}
		}
	})
}

// 2.1: no line reaches into the next one, and no line or column is ahead of the first.
func TestAtNone(t *testing.T) {
	for _, x := range []struct {
		s         string
		line, col int
	}{
		{"", 0, 0}, {"", 0, 1}, {"", 1, 0}, {"", 1, 2}, {"", 2, 1},
		{"a", 0, 2}, {"a", 1, 3}, {"a", 2, 1}, {"a", 2, 0}, {"a", -1, 1}, {"a", 1, -1},
		{"a\nb", 1, 3}, {"a\nb", 1, 4}, {"a\nb", 2, 3}, {"a\nb", 2, 0}, {"a\nb", 2, -1}, {"a\nb", 3, 1}, {"a\nb", 3, 0},
		{"a\n", 2, 2}, {"a\n", 2, 0}, {"a\n", 3, 1}, {"a\n", 3, -1},
	} {
		if at, ok := At(x.s, x.line, x.col); at != 0 || ok {
			t.Errorf("At(%q, %d, %d): %d, %v", x.s, x.line, x.col, at, ok)
		}
	}
}

// 2.2: each place has one line and column that no other has, later places greater ones, and they lead back to it.
func TestOnePlace(t *testing.T) {
	probe.Texts(pieces(), 5, func(s string) {
		lastLine, lastCol := 0, 0
		for at := range len(s) + 1 {
			line, col := Of(s, at)
			if line < lastLine || line == lastLine && col <= lastCol {
				t.Errorf("%q: place %d at %d, %d is not behind %d, %d", s, at, line, col, lastLine, lastCol)
			}
			if back, ok := At(s, line, col); back != at || !ok {
				t.Errorf("%q: place %d leads to %d, %v", s, at, back, ok)
			}
			lastLine, lastCol = line, col
		}
	})
}

// 2.1, 2.2: a text as long as a script may be, and a longer one.
func TestLong(t *testing.T) {
	for _, x := range []struct {
		s         string
		line, col int
	}{
		{strings.Repeat("\n", 20000), 20001, 1},
		{strings.Repeat("x", 20000), 1, 20001},
		{strings.Repeat("abc\n", 100000) + "abc", 100001, 4},
		{"x\n" + strings.Repeat("y", 100000), 2, 100001},
	} {
		n := len(x.s)
		if line, col := Of(x.s, n); line != x.line || col != x.col {
			t.Errorf("a long text: %d, %d, not %d, %d", line, col, x.line, x.col)
		}
		if at, ok := At(x.s, x.line, x.col); at != n || !ok {
			t.Errorf("a long text: %d, %v", at, ok)
		}
		if at, ok := At(x.s, x.line, x.col+1); at != 0 || ok {
			t.Errorf("behind a long text: %d, %v", at, ok)
		}
		if at, ok := At(x.s, x.line+1, 1); at != 0 || ok {
			t.Errorf("below a long text: %d, %v", at, ok)
		}
	}
}

// 2.3: no number and no text makes a call panic or run on; what is no place is told as none.
func TestNoPanic(t *testing.T) {
	probe.Texts(pieces(), 3, func(s string) {
		l := places(s)
		for _, a := range edges() {
			Of(s, a)
			for _, b := range edges() {
				at, ok := At(s, a, b)
				if !ok && at != 0 {
					t.Errorf("At(%q, %d, %d): %d beside a false", s, a, b, at)
				}
				if ok && (at < 0 || at > len(s) || l[at] != [2]int{a, b}) {
					t.Errorf("At(%q, %d, %d): %d", s, a, b, at)
				}
			}
		}
	})
}
