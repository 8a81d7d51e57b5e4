package probe

import (
	"strings"

	"conch/api"
)

// Value is one that is asked for: not set, or set and a text.
type Value struct {
	Set  bool
	Text string
}

// Pieces tells the bytes of s, each as a text.
func Pieces(s string) []string {
	var l []string
	for i := range len(s) {
		l = append(l, s[i:i+1])
	}
	return l
}

// SetOf tells the set of s's bytes, bit by bit: package set may be what is tested.
func SetOf(s string) api.Set {
	var a api.Set
	for i := range len(s) {
		a[s[i]/64] |= 1 << (s[i] % 64)
	}
	return a
}

// Just tells the shape of the literal s, field by field: package shape may be what is tested.
func Just(s string) api.Shape {
	return api.Shape{E: s == "", Has: SetOf(s), K: true, Lit: s}
}

// Made tells the shape of texts of s's bytes, field by field.
func Made(s string, empty bool) api.Shape {
	return api.Shape{E: empty, Has: SetOf(s)}
}

// OrUnset tells x, but it may be unset, too.
func OrUnset(x api.Shape) api.Shape {
	x.U = true
	return x
}

// Shapes tells all shapes of an alphabet whose fields agree, their literals of at most two bytes.
func Shapes(alphabet string) []api.Shape {
	var l []api.Shape
	for bits := range 1 << len(alphabet) {
		s := ""
		for i := range len(alphabet) {
			if bits>>i%2 == 1 {
				s += alphabet[i : i+1]
			}
		}
		l = append(l, Made(s, false), Made(s, true))
	}
	Texts(Pieces(alphabet), 2, func(s string) { l = append(l, Just(s)) })
	for _, x := range l {
		l = append(l, OrUnset(x))
	}
	return l
}

// OddShapes tells shapes whose fields do not agree: no call makes one.
func OddShapes() []api.Shape {
	return []api.Shape{
		{Lit: "a"}, {Lit: "a", U: true}, {Lit: "a", E: true}, {Lit: "a", Has: SetOf("a")}, {Lit: "\x00"},
		{Has: SetOf("\x00")}, {Has: SetOf("\x00a")}, {Has: SetOf("\x00"), E: true}, {Has: SetOf("\x00"), U: true},
		{K: true}, {K: true, U: true}, {K: true, E: true, Has: SetOf("a")}, {K: true, Has: SetOf("a")},
		{K: true, Lit: "ab", Has: SetOf("ab"), E: true}, {K: true, Lit: "ab", Has: SetOf("abc")},
		{K: true, Lit: "ab", Has: SetOf("a")}, {K: true, Lit: "ab"}, {K: true, Lit: "ab", E: true},
		{K: true, Lit: "a\x00", Has: SetOf("a\x00")}, {K: true, Lit: "a\x00", Has: SetOf("a")},
		{K: true, Lit: "\x00", Has: SetOf("\x00")}, {K: true, Lit: "\x00"},
		{K: true, Lit: strings.Repeat("a", 65), Has: SetOf("a")},
		{K: true, Lit: strings.Repeat("ab", 5000), Has: SetOf("ab")},
	}
}

// Values tells the unset one, and those of all texts of an alphabet up to a number of bytes.
func Values(alphabet string, most int) []Value {
	l := []Value{{}}
	Texts(Pieces(alphabet), most, func(s string) { l = append(l, Value{true, s}) })
	return l
}

// MayBe asks for a value, byte by byte: package shape may be what is tested.
func MayBe(x api.Shape, q Value) bool {
	if !q.Set {
		return x.U
	}
	if x.K {
		return x.Lit == q.Text
	}
	for i := range len(q.Text) {
		c := q.Text[i]
		if x.Has[c/64]>>(c%64)%2 == 0 {
			return false
		}
	}
	return x.E || q.Text != ""
}
