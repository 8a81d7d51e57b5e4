package pat

import (
	"iter"
	"slices"

	"conch/api"
)

// plan is a pattern as it is gone through: each of takes takes one byte that it has, and any bytes may stand where gaps, ahead of the take of the same number, is true. There is one gap more, behind the last take.
type plan struct {
	takes []api.Set
	gaps  []bool
}

// read makes the plan of p.
func read(p api.Pat) plan {
	var m plan
	gap := false
	last := lastClose(p)
	for i := 0; i < len(p.Text); {
		if means(p, i, '*') {
			gap = true
			i++
			continue
		}
		a, n := takeAt(p, i, last)
		m.takes = append(m.takes, a)
		m.gaps = append(m.gaps, gap)
		gap = false
		i += n
	}
	m.gaps = append(m.gaps, gap)
	return m
}

// takeAt tells what stands at a place of p that is no live `*`: the bytes of which it takes one, and how many bytes of p tell it.
func takeAt(p api.Pat, at, last int) (api.Set, int) {
	if means(p, at, '?') {
		return without(api.Set{}), 1
	}
	if b, ok := bracketAt(p, at, last); ok {
		return b.set(p), b.to + 1 - at
	}
	return with(api.Set{}, p.Text[at], p.Text[at]), 1
}

// turn makes it the plan of all texts turned round.
func (m plan) turn() {
	slices.Reverse(m.takes)
	slices.Reverse(m.gaps)
}

// length tells the least, with long the greatest, of the plan's lengths; 0, if there are none.
func (m plan) length(s string, long bool) int {
	best := 0
	for n := range m.lengths(s) {
		best = n
		if !long {
			break
		}
	}
	return best
}

// lengths tells, rising, the lengths of those beginnings of s that the plan matches.
func (m plan) lengths(s string) iter.Seq[int] {
	return func(yield func(n int) bool) {
		done, spare := []int{0}, []int(nil)
		for n := 0; len(done) > 0; n++ {
			if done[len(done)-1] == len(m.takes) && !yield(n) || n == len(s) {
				return
			}
			done, spare = m.after(s[n], done, spare[:0]), done
		}
	}
}

// after tells how many takes may be done behind one more byte c, where done tells, rising, how many may be done ahead of it. The answer rises too, and stands in next's memory, which is empty.
func (m plan) after(c byte, done, next []int) []int {
	for _, k := range done {
		if m.gaps[k] {
			// One that has done less comes by here too, if it comes to the end: the one that waits in this gap does for it. So a `*` more makes no more ways to follow.
			next = append(next[:0], k)
		}
		if k < len(m.takes) && has(m.takes[k], c) {
			next = append(next, k+1)
		}
	}
	return next
}

// bracket is what a live `[` and its `]` tell: the bytes of the pattern between them, without the `!`.
type bracket struct {
	from, to int
	not      bool
}

// bracketAt tells the bracket that begins at a place of p, if one does; last is where p's last live `]` stands. As no `[` looks further than that for its `]`, none looks in vain, and all of them together look at each byte once.
func bracketAt(p api.Pat, at, last int) (bracket, bool) {
	if !means(p, at, '[') {
		return bracket{}, false
	}
	b := bracket{from: at + 1}
	if means(p, b.from, '!') {
		b.from++
		b.not = true
	}
	// The first byte is one of those between, be it a `]`.
	b.to = b.from + 1
	if b.to > last {
		return bracket{}, false
	}
	for !means(p, b.to, ']') {
		b.to++
	}
	return b, true
}

// set tells the bytes of which the bracket takes one.
func (b bracket) set(p api.Pat) api.Set {
	var a api.Set
	for i := b.from; i < b.to; i++ {
		lo, hi := p.Text[i], p.Text[i]
		if i+2 < b.to && means(p, i+1, '-') {
			i += 2
			hi = p.Text[i]
		}
		a = with(a, lo, hi)
	}
	if b.not {
		return without(a)
	}
	return a
}

// lastClose tells where p's last live `]` stands; below 0 of none.
func lastClose(p api.Pat) int {
	at := len(p.Text) - 1
	for at >= 0 && !means(p, at, ']') {
		at--
	}
	return at
}

// means tells whether c stands at a place of p and is live there.
func means(p api.Pat, at int, c byte) bool {
	return at < len(p.Text) && at < len(p.Live) && p.Live[at] && p.Text[at] == c
}

// with tells a and the bytes from lo to hi.
func with(a api.Set, lo, hi byte) api.Set {
	// Counted by numbers, as the byte behind 255 would be 0 again.
	for c := int(lo); c <= int(hi); c++ {
		a[c>>6] |= 1 << (c & 63)
	}
	return a
}

// without tells all bytes that a has not.
func without(a api.Set) api.Set {
	for i := range a {
		a[i] = ^a[i]
	}
	return a
}

// has tells whether c is one of a.
func has(a api.Set, c byte) bool {
	return a[c>>6]>>(c&63)&1 == 1
}
