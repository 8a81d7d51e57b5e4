package probe

import (
	"slices"
	"testing"
)

// The texts are all there, each once.
func TestTexts(t *testing.T) {
	for _, x := range []struct {
		most int
		want []string
	}{
		{-1, []string{""}},
		{0, []string{""}},
		{1, []string{"", "a", "bc"}},
		{2, []string{"", "a", "aa", "abc", "bc", "bca", "bcbc"}},
	} {
		var got []string
		Texts([]string{"a", "bc"}, x.most, func(s string) { got = append(got, s) })
		slices.Sort(got)
		if !slices.Equal(got, x.want) {
			t.Errorf("%d: %q", x.most, got)
		}
	}
}
