package print

import (
	"reflect"
	"testing"

	"conch/api"
	"conch/syntax"
)

// rebuilt tells x with each place by place, and each list by list, which gets its new memory; other things stay as they are.
func rebuilt[T any](x T, place func(at int) int, list func(l reflect.Value) reflect.Value) T {
	rebuild(reflect.ValueOf(&x).Elem(), place, list)
	return x
}

// rebuild does what rebuilt does where v stands.
func rebuild(v reflect.Value, place func(at int) int, list func(l reflect.Value) reflect.Value) {
	switch v.Kind() {
	case reflect.Struct:
		for i := range v.NumField() {
			if v.Type().Field(i).Name == "At" {
				v.Field(i).SetInt(int64(place(int(v.Field(i).Int()))))
			} else {
				rebuild(v.Field(i), place, list)
			}
		}
	case reflect.Slice:
		v.Set(list(v))
		for i := range v.Len() {
			rebuild(v.Index(i), place, list)
		}
	}
}

// copied tells a list in new memory; an empty one is nil.
func copied(l reflect.Value) reflect.Value {
	if l.Len() == 0 {
		return reflect.Zero(l.Type())
	}
	return reflect.AppendSlice(reflect.Zero(l.Type()), l)
}

// spare tells a list in new memory, with something behind it that is not its own; an empty one is not nil.
func spare(l reflect.Value) reflect.Value {
	room := reflect.MakeSlice(l.Type(), l.Len()+1, l.Len()+1)
	reflect.Copy(room, l)
	junk(room.Index(l.Len()))
	return room.Slice(0, l.Len())
}

// junk fills what would be told, if it were looked at.
func junk(v reflect.Value) {
	switch x := v.Addr().Interface().(type) {
	case *api.Part:
		*x = api.Part{Kind: api.PLit, At: 7, Text: "junk"}
	case *api.Word:
		*x = api.Word{At: 7, Parts: []api.Part{{Kind: api.PLit, Text: "junk"}}}
	case *api.Cmd:
		*x = api.Cmd{Kind: api.KFunc, Name: "junk"}
	}
}

// same leaves places as they are.
func same(at int) int { return at }

// bare tells x without places, by which two are the same or not.
func bare[T any](x T) T {
	return rebuilt(x, func(int) int { return 0 }, copied)
}

// parsed tells the script that s is.
func parsed(t *testing.T, s string) api.Cmd {
	t.Helper()
	c, at, e := syntax.Parse(s)
	if e != api.OK {
		t.Fatalf("%q: %d at %d", s, e, at)
	}
	return c
}

// checkBack holds the script that Cmd's text is against the one that it is of, and asks whether the text is the same whatever the places are; false of what is no script.
func checkBack(t *testing.T, s string) bool {
	t.Helper()
	c, _, e := syntax.Parse(s)
	if e != api.OK {
		return false
	}
	x := Cmd(c)
	d, at, e := syntax.Parse(x)
	if e != api.OK || !reflect.DeepEqual(bare(c), bare(d)) {
		t.Fatalf("%q is written as %q, which is another (%d at %d)", s, x, e, at)
	}
	if !Same(c, d) || !Same(d, c) || Cmd(d) != x {
		t.Fatalf("%q is written as %q, and that as %q; the same: %v, %v", s, x, Cmd(d), Same(c, d), Same(d, c))
	}
	return true
}

// checkWordBack holds the word that Word's text is against the one that it is of; false of what no word begins, or is not all of.
func checkWordBack(t *testing.T, s string) bool {
	t.Helper()
	w, to, e := syntax.Word(s, 0)
	if e != api.OK || to != len(s) {
		return false
	}
	x := Word(w)
	v, to, e := syntax.Word(x, 0)
	if e != api.OK || to != len(x) || !reflect.DeepEqual(bare(w), bare(v)) {
		t.Fatalf("%q is written as %q, which is another (%d at %d)", s, x, e, to)
	}
	if Word(v) != x {
		t.Fatalf("%q is written as %q, and that as %q", s, x, Word(v))
	}
	return true
}
