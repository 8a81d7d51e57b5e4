// Package frame holds the faces of all layers against the document: it is not built, if a call is gone or has another signature.
package frame

import (
	"testing"

	"conch/absexp"
	"conch/absint"
	"conch/alter"
	"conch/api"
	"conch/arith"
	"conch/built"
	"conch/cfg"
	"conch/console"
	"conch/env"
	"conch/expand"
	"conch/flow"
	"conch/lex"
	"conch/lint"
	"conch/pat"
	"conch/pos"
	"conch/print"
	"conch/render"
	"conch/rules"
	"conch/sem"
	"conch/set"
	"conch/shape"
	"conch/split"
	"conch/state"
	"conch/syntax"
	"conch/text"
	"conch/tree"
	"conch/witness"
	"conch/work"
	"conch/world"
)

// Layers 1 to 3.
var (
	_ func(s string) bool                = text.Name
	_ func(s string, at int) int         = text.NameLen
	_ func(n int) string                 = text.Digits
	_ func(s string) (int, bool)         = text.Number
	_ func(s string) []string            = text.Lines
	_ func(string, int) (int, int)       = pos.Of
	_ func(string, int, int) (int, bool) = pos.At
	_ func(s string) api.Set             = set.Of
	_ func() api.Set                     = set.All
	_ func(lo, hi int) api.Set           = set.Range
	_ func(a api.Set, c byte) bool       = set.Has
	_ func(a, b api.Set) api.Set         = set.Or
	_ func(a, b api.Set) api.Set         = set.And
	_ func(a, b api.Set) api.Set         = set.Less
	_ func(a, b api.Set) bool            = set.Within
	_ func(a api.Set) int                = set.Count
	_ func(a api.Set) string             = set.Bytes
)

// Layers 4 and 5.
var (
	_ func(s string) api.Shape                   = shape.Lit
	_ func() api.Shape                           = shape.Any
	_ func() api.Shape                           = shape.Unset
	_ func(a api.Set, empty bool) api.Shape      = shape.Of
	_ func(x api.Shape) bool                     = shape.Ok
	_ func(x api.Shape, set bool, v string) bool = shape.May
	_ func(a, b api.Shape) api.Shape             = shape.Join
	_ func(a, b api.Shape) bool                  = shape.Leq
	_ func(x api.Shape) bool                     = shape.None
	_ func(x api.Shape) api.Shape                = shape.Loose
	_ func(a, b api.Shape) api.Shape             = alter.Cat
	_ func(x api.Shape) api.Shape                = alter.Set
	_ func(x api.Shape) api.Shape                = alter.Cut
	_ func() api.Shape                           = alter.Number
	_ func(x, w api.Shape, colon bool) api.Shape = alter.Default
	_ func(x, w api.Shape, colon bool) api.Shape = alter.Assigned
	_ func(x api.Shape, colon bool) api.Shape    = alter.Given
	_ func(x, w api.Shape, colon bool) api.Shape = alter.Other
	_ func(x api.Shape) bool                     = alter.MayUnset
	_ func(x api.Shape, ifs api.Shape) bool      = alter.MaySplit
	_ func(x api.Shape) bool                     = alter.MayGlob
)

// Layers 6 to 9.
var (
	_ func(p api.Pat, s string) bool                               = pat.Match
	_ func(p api.Pat) bool                                         = pat.Active
	_ func(s string) api.Pat                                       = pat.Plain
	_ func(s string) api.Pat                                       = pat.Raw
	_ func(p api.Pat, s string, front, long bool) string           = pat.Cut
	_ func(s, ifs string) []string                                 = split.Fields
	_ func(s, ifs string) bool                                     = split.Whole
	_ func(s, ifs string) string                                   = split.Trim
	_ func(s, ifs string, n int) []string                          = split.Words
	_ func(s string) ([]api.Op, int, api.Errno)                    = arith.Parse
	_ func([]api.Op, func(string) (string, bool)) (int, api.Errno) = arith.Eval
	_ func(l []api.Op) []string                                    = arith.Names
	_ func(s string, at int) int                                   = lex.Skip
	_ func(s string, at int) (string, bool)                        = lex.Op
	_ func(c byte) bool                                            = lex.Ends
	_ func(s string) bool                                          = lex.Reserved
	_ func(s string, at int) (string, int, bool)                   = lex.Single
)

// Layers 10 to 14.
var (
	_ func(s string) (api.Cmd, int, api.Errno)          = syntax.Parse
	_ func(s string, at int) (api.Word, int, api.Errno) = syntax.Word
	_ func(s string) string                             = print.Quote
	_ func(w api.Word) string                           = print.Word
	_ func(c api.Cmd) string                            = print.Cmd
	_ func(a, b api.Cmd) bool                           = print.Same
	_ func(names []string) *tree.Tree                   = tree.New
	_ func(t *tree.Tree) []string                       = (*tree.Tree).Names
	_ func(t *tree.Tree, name string) bool              = (*tree.Tree).Has
	_ func(t *tree.Tree, name string) bool              = (*tree.Tree).Make
	_ func(t *tree.Tree, p api.Pat) []string            = (*tree.Tree).Glob
	_ func(t *tree.Tree) *tree.Tree                     = (*tree.Tree).Copy
	_ func(vars []api.Var, args []string) *env.Env      = env.New
	_ func(e *env.Env, name string) (string, bool)      = (*env.Env).Get
	_ func(e *env.Env, name, v string) api.Errno        = (*env.Env).Set
	_ func(e *env.Env, name string) bool                = (*env.Env).Unset
	_ func(e *env.Env) []string                         = (*env.Env).Args
	_ func(e *env.Env, l []string)                      = (*env.Env).SetArgs
	_ func(e *env.Env, c byte) bool                     = (*env.Env).Flag
	_ func(e *env.Env, c byte, on bool) bool            = (*env.Env).SetFlag
	_ func(e *env.Env) string                           = (*env.Env).IFS
	_ func(e *env.Env) []api.Var                        = (*env.Env).Vars
	_ func(e *env.Env) *env.Env                         = (*env.Env).Copy
	_ func(w api.World) *world.World                    = world.New
	_ func(w *world.World) api.Out                      = (*world.World).Out
	_ func(w *world.World) (string, bool)               = (*world.World).Read
	_ func(w *world.World) bool                         = (*world.World).Take
	_ func(w *world.World) *tree.Tree                   = (*world.World).Tree
	_ func(w *world.World) int                          = (*world.World).Left
)

// Layers 15 to 20.
var (
	_ func(*env.Env, *tree.Tree, int, func(api.Cmd) (string, api.Errno), func(api.Event)) *expand.Exp = expand.New
	_ func(x *expand.Exp, l []api.Part) (string, api.Errno)                                           = (*expand.Exp).Text
	_ func(x *expand.Exp, l []api.Part) (api.Pat, api.Errno)                                          = (*expand.Exp).Pattern
	_ func(x *expand.Exp, w api.Word) ([]string, api.Errno)                                           = (*expand.Exp).Fields
	_ func(name string) bool                                                                          = built.Is
	_ func(name string) bool                                                                          = built.Refused
	_ func(name string) bool                                                                          = built.Foreign
	_ func(e *env.Env, w *world.World, l []string, status int) api.Done                               = built.Run
	_ func(c api.Cmd, w api.World) api.Result                                                         = sem.Run
	_ func(s string, w api.World) (api.Result, api.Errno)                                             = sem.Script
	_ func(c api.Cmd) api.Graph                                                                       = cfg.Build
	_ func(c api.Cmd) []string                                                                        = cfg.Reads
	_ func(c api.Cmd) []string                                                                        = cfg.Sets
	_ func(l ...int) *work.Work                                                                       = work.New
	_ func(w *work.Work, n int) bool                                                                  = (*work.Work).Push
	_ func(w *work.Work) (int, bool)                                                                  = (*work.Work).Pop
	_ func(w *work.Work) int                                                                          = (*work.Work).Len
	_ func(g api.Graph) [][]string                                                                    = flow.Definite
	_ func(g api.Graph) int                                                                           = flow.Steps
	_ func(g api.Graph) []int                                                                         = flow.Unsure
)

// Layers 21 to 23.
var (
	_ func() *state.State                                                         = state.New
	_ func() *state.State                                                         = state.Dead
	_ func(s *state.State) bool                                                   = (*state.State).Is
	_ func(s *state.State, name string) api.Shape                                 = (*state.State).Get
	_ func(s *state.State, name string, x api.Shape)                              = (*state.State).Set
	_ func(s *state.State) bool                                                   = (*state.State).Glob
	_ func(s *state.State, on bool)                                               = (*state.State).SetGlob
	_ func(s *state.State) []string                                               = (*state.State).Names
	_ func(s *state.State) *state.State                                           = (*state.State).Copy
	_ func(a, b *state.State) *state.State                                        = state.Join
	_ func(a, b *state.State) bool                                                = state.Leq
	_ func(*state.State, func(api.Cmd, *state.State), func(api.Diag)) *absexp.Exp = absexp.New
	_ func(x *absexp.Exp, l []api.Part) api.Shape                                 = (*absexp.Exp).Text
	_ func(x *absexp.Exp, w api.Word) api.Shape                                   = (*absexp.Exp).Split
	_ func(w api.Word) (string, bool)                                             = absexp.Literal
	_ func(w api.Word) bool                                                       = absexp.Open
	_ func(c api.Cmd) api.Report                                                  = absint.Run
)

// Layers 24 to 28.
var (
	_ func(c api.Cmd) []api.Diag                   = rules.Foreign
	_ func(c api.Cmd) []api.Diag                   = rules.Lost
	_ func(l []api.Diag) []api.Diag                = rules.Sort
	_ func(s string) api.Verdict                   = lint.Lint
	_ func(c api.Cmd) api.Verdict                  = lint.Cmd
	_ func(n int) string                           = render.Rule
	_ func(e api.Errno, why int) string            = render.Reason
	_ func(s string, v api.Verdict) string         = render.Text
	_ func(s string) (api.World, api.Diag, bool)   = witness.Find
	_ func(c api.Cmd) bool                         = witness.Plain
	_ func(s string, w api.World, d api.Diag) bool = witness.Shows
	_ func() *console.Console                      = console.New
	_ func(c *console.Console, line string) string = (*console.Console).Do
	_ func(text string) string                     = console.Run
)

// TestFrame is there so that the faces above are among the tests that are told.
func TestFrame(t *testing.T) {}
