package probe

import (
	"slices"
	"testing"

	"conch/api"
)

// The texts are all there, each once.
func TestTexts(t *testing.T) {
	for _, x := range []struct {
		most int
		want []string
	}{
		{-1, []string{""}},
		{0, []string{""}},
		{1, []string{"", "a", "bc"}},
		{2, []string{"", "a", "aa", "abc", "bc", "bca", "bcbc"}},
	} {
		var got []string
		Texts([]string{"a", "bc"}, x.most, func(s string) { got = append(got, s) })
		slices.Sort(got)
		if !slices.Equal(got, x.want) {
			t.Errorf("%d: %q", x.most, got)
		}
	}
}

// The shapes of one byte are all there, each once.
func TestShapes(t *testing.T) {
	a := api.Set{0, 1 << 33, 0, 0}
	want := []api.Shape{
		{}, {E: true}, {Has: a}, {E: true, Has: a},
		{E: true, K: true}, {Has: a, K: true, Lit: "a"}, {Has: a, K: true, Lit: "aa"},
	}
	for _, x := range slices.Clone(want) {
		x.U = true
		want = append(want, x)
	}
	got := Shapes("a")
	for _, x := range want {
		if !slices.Contains(got, x) {
			t.Errorf("%+v is not there", x)
		}
	}
	if len(got) != len(want) || len(Shapes("abcd")) != 2*(32+21) {
		t.Errorf("%d, %d shapes", len(got), len(Shapes("abcd")))
	}
}

// The values are all there, each once.
func TestValues(t *testing.T) {
	want := []Value{{}, {true, ""}, {true, "a"}, {true, "aa"}, {true, "a\xff"}, {true, "\xff"}, {true, "\xffa"}, {true, "\xff\xff"}}
	if got := Values("a\xff", 2); !slices.Equal(got, want) {
		t.Errorf("%+v", got)
	}
}

// A value is asked for as the document says.
func TestMayBe(t *testing.T) {
	for _, x := range []struct {
		x    api.Shape
		want []Value
	}{
		{api.Shape{}, nil},
		{api.Shape{U: true}, []Value{{}}},
		{Just(""), []Value{{true, ""}}},
		{Just("ab"), []Value{{true, "ab"}}},
		{OrUnset(Just("a")), []Value{{}, {true, "a"}}},
		{Made("", true), []Value{{true, ""}}},
		{Made("a", false), []Value{{true, "a"}, {true, "aa"}}},
		{Made("a", true), []Value{{true, ""}, {true, "a"}, {true, "aa"}}},
		{Made("ab", false), []Value{{true, "a"}, {true, "aa"}, {true, "ab"}, {true, "b"}, {true, "ba"}, {true, "bb"}}},
	} {
		got := slices.DeleteFunc(Values("ab", 2), func(q Value) bool { return !MayBe(x.x, q) })
		if !slices.Equal(got, x.want) {
			t.Errorf("%+v: %+v", x.x, got)
		}
	}
}
