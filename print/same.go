package print

import (
	"slices"

	"conch/api"
)

// Same tells whether two scripts are the same, but for each At; of trees that are beyond the bounds it tells that they are not.
func Same(a, b api.Cmd) (same bool) {
	defer func() { _ = recover() }()
	var m matcher
	return m.commands(a, b)
}

// matcher holds things against each other, but for each At.
type matcher struct{ bounds }

// commands tells whether two commands are the same.
func (m *matcher) commands(a, b api.Cmd) bool {
	m.enter()
	defer m.leave()
	return a.Kind == b.Kind && a.Not == b.Not && a.In == b.In && m.texts(a.Name, b.Name) &&
		slices.EqualFunc(a.Words, b.Words, m.words) &&
		slices.EqualFunc(a.Assigns, b.Assigns, m.assigns) &&
		slices.EqualFunc(a.Redirs, b.Redirs, m.redirs) &&
		slices.EqualFunc(a.Subs, b.Subs, m.commands) &&
		slices.EqualFunc(a.Items, b.Items, m.items)
}

// texts tells whether two texts are the same.
func (m *matcher) texts(a, b string) bool {
	m.spend(len(a))
	return a == b
}

// words tells whether two words are the same.
func (m *matcher) words(a, b api.Word) bool {
	m.spend(1)
	return slices.EqualFunc(a.Parts, b.Parts, m.parts)
}

// assigns tells whether two assignments are the same.
func (m *matcher) assigns(a, b api.Assign) bool {
	m.spend(1)
	return m.texts(a.Name, b.Name) && slices.EqualFunc(a.Value, b.Value, m.parts)
}

// redirs tells whether two redirections are the same.
func (m *matcher) redirs(a, b api.Redir) bool {
	return a.Fd == b.Fd && a.Kind == b.Kind && m.words(a.Target, b.Target)
}

// items tells whether two items of a case are the same.
func (m *matcher) items(a, b api.Item) bool {
	return slices.EqualFunc(a.Pats, b.Pats, m.words) && m.commands(a.Body, b.Body)
}

// parts tells whether two parts are the same.
func (m *matcher) parts(a, b api.Part) bool {
	m.enter()
	defer m.leave()
	return a.Kind == b.Kind && a.Quoted == b.Quoted && a.Op == b.Op && a.Colon == b.Colon &&
		m.texts(a.Text, b.Text) && m.texts(a.Name, b.Name) &&
		slices.EqualFunc(a.Arg, b.Arg, m.parts) &&
		slices.EqualFunc(a.Body, b.Body, m.commands)
}
