// Package probe makes the inputs that the tests of several layers go through; no layer leans on it.
package probe

// Texts calls f with every text of the given pieces, up to a number of them.
func Texts(pieces []string, most int, f func(s string)) {
	f("")
	if most <= 0 {
		return
	}
	for _, p := range pieces {
		Texts(pieces, most-1, func(s string) { f(p + s) })
	}
}
