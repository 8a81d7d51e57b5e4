/-
  No cell of these rows narrows 'for every input' (looked for: loops, veiled, ifaces, maps, wideKeys, modest, calm, conditions, laid).
  DERIVED. THE GIVEN ROWS OF THIS SEAT. 5 by the template 'for every input the law returns true; each argument reads behind the call as it read before'; 0 by the template 'total and deterministic' (their statements: YtjdhidiocchkeaaTotals.lean).
  GIVEN WITH THE SEED: the statements are not yours to turn. If you find one false, say at which input.
  Laid BY PROGRAM, IN A SANDBOX (cutbox-rows.mjs): the forced cells as the released guide's own fill.sh prints them over the translation f9780f3ff1fd5002… (all of the seat's roots in one cut). By AI agents, Wed Nov 11 2026. No macro, syntax, notation, axiom, sorry.
-/
import Derived.Test.YtjdhidiocchkeaaChecked
import GoSem.Claim
import GoSem.ClaimJoined
import GoSem.ClaimMapViews
import Derived.JoinedTies
import Derived.KernelRfl
namespace Go.Proofs.Ytjdhidiocchkeaa
/- THE CELL 'sum', in the pinned program and in every row, IS THE sha256 OF THE DUMP (.gsa) THAT YtjdhidiocchkeaaProg.lean LOADS. Nothing in Lean hashes anything: it is a label: what it is worth is what the hold of that sum in a sandbox is worth. -/
noncomputable def Try.pinned : Pinned := { name := "ytjdhidiocchkeaa", sum := "f9780f3ff1fd500240449c0fecbd17533848333f36ba2d832a55cefd91ff917f", checked := Try.checked }
namespace Rows
def none {H : Type} : Left H := { results := [], args := [] }

/-- 'conchlaw5.AlterNumbers': WHATEVER THE INPUT: true; the input reads as it did. -/
def alterNumbersSpec : ChangeSpec := { name := "alterNumbers", fn := fun _ => fun
  | [d1, d2] => { results := [.lit (.bool true)], args := [d1, d2] }
  | _ => none }
def alterNumbersRow : OpenClaim := { program := "ytjdhidiocchkeaa", sum := "f9780f3ff1fd500240449c0fecbd17533848333f36ba2d832a55cefd91ff917f", func := "conch/conchlaw5.AlterNumbers", spec := "alterNumbers", inPlace := ["internal/bytealg.IndexByteString", "internal/bytealg.IndexString"], named := ["internal/bytealg.MaxLen"], apart := false }
def AlterNumbersSaid : Prop := alterNumbersRow.holds Try.pinned (OpenSpec.ofChange alterNumbersSpec)

/-- ITS FALSE NEIGHBOUR: 'it returns false'. Refute it at one input. -/
def alterNumbersWrong : ChangeSpec := { name := "alterNumbers", fn := fun _ => fun
  | [d1, d2] => { results := [.lit (.bool false)], args := [d1, d2] }
  | _ => none }
def AlterNumbersWrongFalsely : Prop := alterNumbersRow.holds Try.pinned (OpenSpec.ofChange alterNumbersWrong)

/-- 'conchlaw5.AlterTells': WHATEVER THE INPUT: true; the input reads as it did. -/
def alterTellsSpec : ChangeSpec := { name := "alterTells", fn := fun _ => fun
  | [d1, d2, d3, d4] => { results := [.lit (.bool true)], args := [d1, d2, d3, d4] }
  | _ => none }
def alterTellsRow : OpenClaim := { program := "ytjdhidiocchkeaa", sum := "f9780f3ff1fd500240449c0fecbd17533848333f36ba2d832a55cefd91ff917f", func := "conch/conchlaw5.AlterTells", spec := "alterTells", inPlace := ["internal/bytealg.IndexByteString", "internal/bytealg.IndexString"], named := ["internal/bytealg.MaxLen"], apart := false }
def AlterTellsSaid : Prop := alterTellsRow.holds Try.pinned (OpenSpec.ofChange alterTellsSpec)

/-- ITS FALSE NEIGHBOUR: 'it returns false'. Refute it at one input. -/
def alterTellsWrong : ChangeSpec := { name := "alterTells", fn := fun _ => fun
  | [d1, d2, d3, d4] => { results := [.lit (.bool false)], args := [d1, d2, d3, d4] }
  | _ => none }
def AlterTellsWrongFalsely : Prop := alterTellsRow.holds Try.pinned (OpenSpec.ofChange alterTellsWrong)

/-- 'conchlaw5.AlterSound': WHATEVER THE INPUT: true; the input reads as it did. -/
def alterSoundSpec : ChangeSpec := { name := "alterSound", fn := fun _ => fun
  | [d1, d2, d3, d4, d5, d6, d7, d8] => { results := [.lit (.bool true)], args := [d1, d2, d3, d4, d5, d6, d7, d8] }
  | _ => none }
def alterSoundRow : OpenClaim := { program := "ytjdhidiocchkeaa", sum := "f9780f3ff1fd500240449c0fecbd17533848333f36ba2d832a55cefd91ff917f", func := "conch/conchlaw5.AlterSound", spec := "alterSound", inPlace := ["internal/bytealg.IndexByteString", "internal/bytealg.IndexString"], named := ["internal/bytealg.MaxLen"], apart := false }
def AlterSoundSaid : Prop := alterSoundRow.holds Try.pinned (OpenSpec.ofChange alterSoundSpec)

/-- ITS FALSE NEIGHBOUR: 'it returns false'. Refute it at one input. -/
def alterSoundWrong : ChangeSpec := { name := "alterSound", fn := fun _ => fun
  | [d1, d2, d3, d4, d5, d6, d7, d8] => { results := [.lit (.bool false)], args := [d1, d2, d3, d4, d5, d6, d7, d8] }
  | _ => none }
def AlterSoundWrongFalsely : Prop := alterSoundRow.holds Try.pinned (OpenSpec.ofChange alterSoundWrong)

/-- 'conchlaw5.AlterSplits': WHATEVER THE INPUT: true; the input reads as it did. -/
def alterSplitsSpec : ChangeSpec := { name := "alterSplits", fn := fun _ => fun
  | [d1, d2, d3, d4, d5] => { results := [.lit (.bool true)], args := [d1, d2, d3, d4, d5] }
  | _ => none }
def alterSplitsRow : OpenClaim := { program := "ytjdhidiocchkeaa", sum := "f9780f3ff1fd500240449c0fecbd17533848333f36ba2d832a55cefd91ff917f", func := "conch/conchlaw5.AlterSplits", spec := "alterSplits", inPlace := ["internal/bytealg.IndexByteString", "internal/bytealg.IndexString"], named := ["internal/bytealg.MaxLen"], apart := false }
def AlterSplitsSaid : Prop := alterSplitsRow.holds Try.pinned (OpenSpec.ofChange alterSplitsSpec)

/-- ITS FALSE NEIGHBOUR: 'it returns false'. Refute it at one input. -/
def alterSplitsWrong : ChangeSpec := { name := "alterSplits", fn := fun _ => fun
  | [d1, d2, d3, d4, d5] => { results := [.lit (.bool false)], args := [d1, d2, d3, d4, d5] }
  | _ => none }
def AlterSplitsWrongFalsely : Prop := alterSplitsRow.holds Try.pinned (OpenSpec.ofChange alterSplitsWrong)

/-- 'conchlaw5.AlterRises': WHATEVER THE INPUT: true; the input reads as it did. -/
def alterRisesSpec : ChangeSpec := { name := "alterRises", fn := fun _ => fun
  | [d1, d2, d3, d4, d5] => { results := [.lit (.bool true)], args := [d1, d2, d3, d4, d5] }
  | _ => none }
def alterRisesRow : OpenClaim := { program := "ytjdhidiocchkeaa", sum := "f9780f3ff1fd500240449c0fecbd17533848333f36ba2d832a55cefd91ff917f", func := "conch/conchlaw5.AlterRises", spec := "alterRises", inPlace := ["internal/bytealg.IndexByteString", "internal/bytealg.IndexString"], named := ["internal/bytealg.MaxLen"], apart := false }
def AlterRisesSaid : Prop := alterRisesRow.holds Try.pinned (OpenSpec.ofChange alterRisesSpec)

/-- ITS FALSE NEIGHBOUR: 'it returns false'. Refute it at one input. -/
def alterRisesWrong : ChangeSpec := { name := "alterRises", fn := fun _ => fun
  | [d1, d2, d3, d4, d5] => { results := [.lit (.bool false)], args := [d1, d2, d3, d4, d5] }
  | _ => none }
def AlterRisesWrongFalsely : Prop := alterRisesRow.holds Try.pinned (OpenSpec.ofChange alterRisesWrong)

/- THE SECOND FORM. 'bulk': how many values and letters a reading holds, each counted each time it is reached (what is shared counts as often as it is met; a slice's spare places count too). A statement '..UptoSaid' is the law's where the arguments, and the package variables that the reading takes, are together of bulk at most 1048576: NARROWER than '..Said'. Prove '..Said' where nothing that the law and all that it calls make is longer than what came in: it says more and counts as full. Else prove '..UptoSaid'. A law counts once. -/
mutual
def uptoBulk {H : Type} : DataW H → Nat
  | .lit (.string bytes) => bytes.length + 1
  | .lit _ => 1
  | .nil => 1
  | .ptr d => uptoBulk d + 1
  | .slice elems spare => uptoBulkAll elems + uptoBulkAll spare + 1
  | .agg parts => uptoBulkAll parts + 1
  | .iface _ d => uptoBulk d + 1
  | .map entries => uptoBulkEntries entries + 1
  | .held _ => 1
def uptoBulkAll {H : Type} : List (DataW H) → Nat
  | [] => 0
  | d :: r => uptoBulk d + uptoBulkAll r
def uptoBulkEntries {H : Type} : List (Lit × DataW H) → Nat
  | [] => 0
  | x :: r => uptoBulkEntry x + uptoBulkEntries r
def uptoBulkEntry {H : Type} : Lit × DataW H → Nat
  | (.string bytes, d) => bytes.length + uptoBulk d + 1
  | (_, d) => uptoBulk d + 1
 end
def uptoSmall : (H : Type) → List (DataW H) → Bool := fun _ ds => decide (uptoBulkAll ds ≤ 1048576)
def OpenSpec.upto (s : _root_.Go.ChangeSpec) : _root_.Go.OpenSpec := { _root_.Go.OpenSpec.ofChange s with cond := some uptoSmall }

/-- 'conchlaw5.AlterNumbers', WHERE WHAT IT READS IS OF BULK AT MOST 1048576: true; the input reads as it did. -/
def alterNumbersUptoRow : OpenClaim := { program := "ytjdhidiocchkeaa", sum := "f9780f3ff1fd500240449c0fecbd17533848333f36ba2d832a55cefd91ff917f", func := "conch/conchlaw5.AlterNumbers", spec := "alterNumbers", inPlace := ["internal/bytealg.IndexByteString", "internal/bytealg.IndexString"], named := ["internal/bytealg.MaxLen"], apart := false, narrowed := true }
def AlterNumbersUptoSaid : Prop := alterNumbersUptoRow.holds Try.pinned (OpenSpec.upto alterNumbersSpec)

/-- 'conchlaw5.AlterTells', WHERE WHAT IT READS IS OF BULK AT MOST 1048576: true; the input reads as it did. -/
def alterTellsUptoRow : OpenClaim := { program := "ytjdhidiocchkeaa", sum := "f9780f3ff1fd500240449c0fecbd17533848333f36ba2d832a55cefd91ff917f", func := "conch/conchlaw5.AlterTells", spec := "alterTells", inPlace := ["internal/bytealg.IndexByteString", "internal/bytealg.IndexString"], named := ["internal/bytealg.MaxLen"], apart := false, narrowed := true }
def AlterTellsUptoSaid : Prop := alterTellsUptoRow.holds Try.pinned (OpenSpec.upto alterTellsSpec)

/-- 'conchlaw5.AlterSound', WHERE WHAT IT READS IS OF BULK AT MOST 1048576: true; the input reads as it did. -/
def alterSoundUptoRow : OpenClaim := { program := "ytjdhidiocchkeaa", sum := "f9780f3ff1fd500240449c0fecbd17533848333f36ba2d832a55cefd91ff917f", func := "conch/conchlaw5.AlterSound", spec := "alterSound", inPlace := ["internal/bytealg.IndexByteString", "internal/bytealg.IndexString"], named := ["internal/bytealg.MaxLen"], apart := false, narrowed := true }
def AlterSoundUptoSaid : Prop := alterSoundUptoRow.holds Try.pinned (OpenSpec.upto alterSoundSpec)

/-- 'conchlaw5.AlterSplits', WHERE WHAT IT READS IS OF BULK AT MOST 1048576: true; the input reads as it did. -/
def alterSplitsUptoRow : OpenClaim := { program := "ytjdhidiocchkeaa", sum := "f9780f3ff1fd500240449c0fecbd17533848333f36ba2d832a55cefd91ff917f", func := "conch/conchlaw5.AlterSplits", spec := "alterSplits", inPlace := ["internal/bytealg.IndexByteString", "internal/bytealg.IndexString"], named := ["internal/bytealg.MaxLen"], apart := false, narrowed := true }
def AlterSplitsUptoSaid : Prop := alterSplitsUptoRow.holds Try.pinned (OpenSpec.upto alterSplitsSpec)

/-- 'conchlaw5.AlterRises', WHERE WHAT IT READS IS OF BULK AT MOST 1048576: true; the input reads as it did. -/
def alterRisesUptoRow : OpenClaim := { program := "ytjdhidiocchkeaa", sum := "f9780f3ff1fd500240449c0fecbd17533848333f36ba2d832a55cefd91ff917f", func := "conch/conchlaw5.AlterRises", spec := "alterRises", inPlace := ["internal/bytealg.IndexByteString", "internal/bytealg.IndexString"], named := ["internal/bytealg.MaxLen"], apart := false, narrowed := true }
def AlterRisesUptoSaid : Prop := alterRisesUptoRow.holds Try.pinned (OpenSpec.upto alterRisesSpec)

end Rows
end Go.Proofs.Ytjdhidiocchkeaa
