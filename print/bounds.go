package print

import (
	"errors"

	"conch/api"
)

// No script has so many things one in the other, or is so great. A tree that is none's may be, or even be within itself.
const (
	mostDepth = api.MaxScript
	mostSteps = 1 << 22
)

// errBeyond ends what is done for a tree that is beyond the bounds.
var errBeyond = errors.New("no script is so great")

// bounds count what is done for a tree.
type bounds struct{ depth, steps int }

// spend counts steps.
func (b *bounds) spend(n int) {
	b.steps += n
	if b.steps > mostSteps {
		panic(errBeyond)
	}
}

// enter goes into a thing that others may be in.
func (b *bounds) enter() {
	b.spend(1)
	b.depth++
	if b.depth > mostDepth {
		panic(errBeyond)
	}
}

// leave goes out of what enter went into.
func (b *bounds) leave() {
	b.depth--
}
