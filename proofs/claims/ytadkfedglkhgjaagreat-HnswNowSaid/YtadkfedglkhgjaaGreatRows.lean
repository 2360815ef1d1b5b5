/-
  No cell of these rows narrows 'for every input' (looked for: loops, veiled, ifaces, maps, wideKeys, modest, calm, conditions, laid).
  DERIVED. THE GIVEN ROWS OF THIS SEAT. 7 by the template 'for every input the law returns true; each argument reads behind the call as it read before'; 0 by the template 'total and deterministic' (their statements: YtadkfedglkhgjaaGreatTotals.lean).
  GIVEN WITH THE SEED: the statements are not yours to turn. If you find one false, say at which input.
  Laid BY PROGRAM, IN A SANDBOX (cutbox-rows.mjs): the forced cells as the released guide's own fill.sh prints them over the translation fc07de42a4daa099… (all of the seat's roots in one cut). By AI agents, Wed Nov 11 2026. No macro, syntax, notation, axiom, sorry.
-/
import Derived.Test.YtadkfedglkhgjaaGreatChecked
import GoSem.Claim
import GoSem.ClaimJoined
import GoSem.ClaimMapViews
import Derived.JoinedTies
import Derived.KernelRfl
namespace Go.Proofs.YtadkfedglkhgjaaGreat
/- THE CELL 'sum', in the pinned program and in every row, IS THE sha256 OF THE DUMP (.gsa) THAT YtadkfedglkhgjaaGreatProg.lean LOADS. Nothing in Lean hashes anything: it is a label: what it is worth is what the hold of that sum in a sandbox is worth. -/
noncomputable def Tryz.pinned : Pinned := { name := "ytadkfedglkhgjaagreat", sum := "fc07de42a4daa0996169dd813f847cd619226ce926b21c0af160e0f62b5ffe79", checked := Tryz.checked }
namespace Rows
def none {H : Type} : Left H := { results := [], args := [] }

/-- 'lodestarlaw12.HnswPlays': WHATEVER THE INPUT: true; the input reads as it did. -/
def hnswPlaysSpec : ChangeSpec := { name := "hnswPlays", fn := fun _ => fun
  | [d1, d2, d3, d4] => { results := [.lit (.bool true)], args := [d1, d2, d3, d4] }
  | _ => none }
def hnswPlaysRow : OpenClaim := { program := "ytadkfedglkhgjaagreat", sum := "fc07de42a4daa0996169dd813f847cd619226ce926b21c0af160e0f62b5ffe79", func := "lodestar/lodestarlaw12.HnswPlays", spec := "hnswPlays", inPlace := ["slices.overlaps[lodestar/api.Hit]"], unfollowed := true, recurses := true, apart := false }
def HnswPlaysSaid : Prop := hnswPlaysRow.holds Tryz.pinned (OpenSpec.ofChange hnswPlaysSpec)

/-- ITS FALSE NEIGHBOUR: 'it returns false'. Refute it at one input. -/
def hnswPlaysWrong : ChangeSpec := { name := "hnswPlays", fn := fun _ => fun
  | [d1, d2, d3, d4] => { results := [.lit (.bool false)], args := [d1, d2, d3, d4] }
  | _ => none }
def HnswPlaysWrongFalsely : Prop := hnswPlaysRow.holds Tryz.pinned (OpenSpec.ofChange hnswPlaysWrong)

/-- 'lodestarlaw12.HnswSound': WHATEVER THE INPUT: true; the input reads as it did. -/
def hnswSoundSpec : ChangeSpec := { name := "hnswSound", fn := fun _ => fun
  | [d1, d2, d3, d4, d5] => { results := [.lit (.bool true)], args := [d1, d2, d3, d4, d5] }
  | _ => none }
def hnswSoundRow : OpenClaim := { program := "ytadkfedglkhgjaagreat", sum := "fc07de42a4daa0996169dd813f847cd619226ce926b21c0af160e0f62b5ffe79", func := "lodestar/lodestarlaw12.HnswSound", spec := "hnswSound", inPlace := ["slices.overlaps[lodestar/api.Hit]"], unfollowed := true, recurses := true, apart := false }
def HnswSoundSaid : Prop := hnswSoundRow.holds Tryz.pinned (OpenSpec.ofChange hnswSoundSpec)

/-- ITS FALSE NEIGHBOUR: 'it returns false'. Refute it at one input. -/
def hnswSoundWrong : ChangeSpec := { name := "hnswSound", fn := fun _ => fun
  | [d1, d2, d3, d4, d5] => { results := [.lit (.bool false)], args := [d1, d2, d3, d4, d5] }
  | _ => none }
def HnswSoundWrongFalsely : Prop := hnswSoundRow.holds Tryz.pinned (OpenSpec.ofChange hnswSoundWrong)

/-- 'lodestarlaw12.HnswExact': WHATEVER THE INPUT: true; the input reads as it did. -/
def hnswExactSpec : ChangeSpec := { name := "hnswExact", fn := fun _ => fun
  | [d1, d2, d3, d4, d5] => { results := [.lit (.bool true)], args := [d1, d2, d3, d4, d5] }
  | _ => none }
def hnswExactRow : OpenClaim := { program := "ytadkfedglkhgjaagreat", sum := "fc07de42a4daa0996169dd813f847cd619226ce926b21c0af160e0f62b5ffe79", func := "lodestar/lodestarlaw12.HnswExact", spec := "hnswExact", inPlace := ["slices.overlaps[lodestar/api.Hit]"], unfollowed := true, recurses := true, apart := false }
def HnswExactSaid : Prop := hnswExactRow.holds Tryz.pinned (OpenSpec.ofChange hnswExactSpec)

/-- ITS FALSE NEIGHBOUR: 'it returns false'. Refute it at one input. -/
def hnswExactWrong : ChangeSpec := { name := "hnswExact", fn := fun _ => fun
  | [d1, d2, d3, d4, d5] => { results := [.lit (.bool false)], args := [d1, d2, d3, d4, d5] }
  | _ => none }
def HnswExactWrongFalsely : Prop := hnswExactRow.holds Tryz.pinned (OpenSpec.ofChange hnswExactWrong)

/-- 'lodestarlaw12.HnswSwept': WHATEVER THE INPUT: true; the input reads as it did. -/
def hnswSweptSpec : ChangeSpec := { name := "hnswSwept", fn := fun _ => fun
  | [d1, d2, d3, d4, d5] => { results := [.lit (.bool true)], args := [d1, d2, d3, d4, d5] }
  | _ => none }
def hnswSweptRow : OpenClaim := { program := "ytadkfedglkhgjaagreat", sum := "fc07de42a4daa0996169dd813f847cd619226ce926b21c0af160e0f62b5ffe79", func := "lodestar/lodestarlaw12.HnswSwept", spec := "hnswSwept", inPlace := ["slices.overlaps[lodestar/api.Hit]"], unfollowed := true, recurses := true, apart := false }
def HnswSweptSaid : Prop := hnswSweptRow.holds Tryz.pinned (OpenSpec.ofChange hnswSweptSpec)

/-- ITS FALSE NEIGHBOUR: 'it returns false'. Refute it at one input. -/
def hnswSweptWrong : ChangeSpec := { name := "hnswSwept", fn := fun _ => fun
  | [d1, d2, d3, d4, d5] => { results := [.lit (.bool false)], args := [d1, d2, d3, d4, d5] }
  | _ => none }
def HnswSweptWrongFalsely : Prop := hnswSweptRow.holds Tryz.pinned (OpenSpec.ofChange hnswSweptWrong)

/-- 'lodestarlaw12.HnswGone': WHATEVER THE INPUT: true; the input reads as it did. -/
def hnswGoneSpec : ChangeSpec := { name := "hnswGone", fn := fun _ => fun
  | [d1, d2, d3, d4, d5, d6] => { results := [.lit (.bool true)], args := [d1, d2, d3, d4, d5, d6] }
  | _ => none }
def hnswGoneRow : OpenClaim := { program := "ytadkfedglkhgjaagreat", sum := "fc07de42a4daa0996169dd813f847cd619226ce926b21c0af160e0f62b5ffe79", func := "lodestar/lodestarlaw12.HnswGone", spec := "hnswGone", inPlace := ["slices.overlaps[lodestar/api.Hit]"], unfollowed := true, recurses := true, apart := false }
def HnswGoneSaid : Prop := hnswGoneRow.holds Tryz.pinned (OpenSpec.ofChange hnswGoneSpec)

/-- ITS FALSE NEIGHBOUR: 'it returns false'. Refute it at one input. -/
def hnswGoneWrong : ChangeSpec := { name := "hnswGone", fn := fun _ => fun
  | [d1, d2, d3, d4, d5, d6] => { results := [.lit (.bool false)], args := [d1, d2, d3, d4, d5, d6] }
  | _ => none }
def HnswGoneWrongFalsely : Prop := hnswGoneRow.holds Tryz.pinned (OpenSpec.ofChange hnswGoneWrong)

/-- 'lodestarlaw12.HnswEntry': WHATEVER THE INPUT: true; the input reads as it did. -/
def hnswEntrySpec : ChangeSpec := { name := "hnswEntry", fn := fun _ => fun
  | [d1, d2, d3, d4] => { results := [.lit (.bool true)], args := [d1, d2, d3, d4] }
  | _ => none }
def hnswEntryRow : OpenClaim := { program := "ytadkfedglkhgjaagreat", sum := "fc07de42a4daa0996169dd813f847cd619226ce926b21c0af160e0f62b5ffe79", func := "lodestar/lodestarlaw12.HnswEntry", spec := "hnswEntry", inPlace := ["slices.overlaps[lodestar/api.Hit]"], unfollowed := true, recurses := true, apart := false }
def HnswEntrySaid : Prop := hnswEntryRow.holds Tryz.pinned (OpenSpec.ofChange hnswEntrySpec)

/-- ITS FALSE NEIGHBOUR: 'it returns false'. Refute it at one input. -/
def hnswEntryWrong : ChangeSpec := { name := "hnswEntry", fn := fun _ => fun
  | [d1, d2, d3, d4] => { results := [.lit (.bool false)], args := [d1, d2, d3, d4] }
  | _ => none }
def HnswEntryWrongFalsely : Prop := hnswEntryRow.holds Tryz.pinned (OpenSpec.ofChange hnswEntryWrong)

/-- 'lodestarlaw12.HnswNow': WHATEVER THE INPUT: true; the input reads as it did. -/
def hnswNowSpec : ChangeSpec := { name := "hnswNow", fn := fun _ => fun
  | [d] => { results := [.lit (.bool true)], args := [d] }
  | _ => none }
def hnswNowRow : OpenClaim := { program := "ytadkfedglkhgjaagreat", sum := "fc07de42a4daa0996169dd813f847cd619226ce926b21c0af160e0f62b5ffe79", func := "lodestar/lodestarlaw12.HnswNow", spec := "hnswNow", inPlace := ["slices.overlaps[lodestar/api.Hit]"], unfollowed := true, recurses := true, apart := false }
def HnswNowSaid : Prop := hnswNowRow.holds Tryz.pinned (OpenSpec.ofChange hnswNowSpec)

/-- ITS FALSE NEIGHBOUR: 'it returns false'. Refute it at one input. -/
def hnswNowWrong : ChangeSpec := { name := "hnswNow", fn := fun _ => fun
  | [d] => { results := [.lit (.bool false)], args := [d] }
  | _ => none }
def HnswNowWrongFalsely : Prop := hnswNowRow.holds Tryz.pinned (OpenSpec.ofChange hnswNowWrong)

/- THE SECOND FORM. 'bulk': how many values and letters a reading holds, each counted each time it is reached (what is shared counts as often as it is met; a slice's spare places count too). A statement '..UptoSaid' is the law's where the arguments, and the package variables that the reading takes, are together of bulk at most 1048576: NARROWER than '..Said'. Prove '..Said' where nothing that the law and all that it calls make is longer than what came in: it says more and counts as full. Else prove '..UptoSaid'. A law counts once. -/
mutual
def uptoBulk {H : Type} : DataW H → Nat
  | .lit (.string bytes) => bytes.length + 1
  | .lit _ => 1
  | .nil => 1
  | .ptr d => uptoBulk d + 1
  | .slice elems spare => uptoBulkAll elems + uptoBulkAll spare + 1
  | .agg parts => uptoBulkAll parts + 1
  | .iface _ d => uptoBulk d + 1
  | .map entries => uptoBulkEntries entries + 1
  | .held _ => 1
def uptoBulkAll {H : Type} : List (DataW H) → Nat
  | [] => 0
  | d :: r => uptoBulk d + uptoBulkAll r
def uptoBulkEntries {H : Type} : List (Lit × DataW H) → Nat
  | [] => 0
  | x :: r => uptoBulkEntry x + uptoBulkEntries r
def uptoBulkEntry {H : Type} : Lit × DataW H → Nat
  | (.string bytes, d) => bytes.length + uptoBulk d + 1
  | (_, d) => uptoBulk d + 1
 end
def uptoSmall : (H : Type) → List (DataW H) → Bool := fun _ ds => decide (uptoBulkAll ds ≤ 1048576)
def OpenSpec.upto (s : _root_.Go.ChangeSpec) : _root_.Go.OpenSpec := { _root_.Go.OpenSpec.ofChange s with cond := some uptoSmall }

/-- 'lodestarlaw12.HnswPlays', WHERE WHAT IT READS IS OF BULK AT MOST 1048576: true; the input reads as it did. -/
def hnswPlaysUptoRow : OpenClaim := { program := "ytadkfedglkhgjaagreat", sum := "fc07de42a4daa0996169dd813f847cd619226ce926b21c0af160e0f62b5ffe79", func := "lodestar/lodestarlaw12.HnswPlays", spec := "hnswPlays", inPlace := ["slices.overlaps[lodestar/api.Hit]"], unfollowed := true, recurses := true, apart := false, narrowed := true }
def HnswPlaysUptoSaid : Prop := hnswPlaysUptoRow.holds Tryz.pinned (OpenSpec.upto hnswPlaysSpec)

/-- 'lodestarlaw12.HnswSound', WHERE WHAT IT READS IS OF BULK AT MOST 1048576: true; the input reads as it did. -/
def hnswSoundUptoRow : OpenClaim := { program := "ytadkfedglkhgjaagreat", sum := "fc07de42a4daa0996169dd813f847cd619226ce926b21c0af160e0f62b5ffe79", func := "lodestar/lodestarlaw12.HnswSound", spec := "hnswSound", inPlace := ["slices.overlaps[lodestar/api.Hit]"], unfollowed := true, recurses := true, apart := false, narrowed := true }
def HnswSoundUptoSaid : Prop := hnswSoundUptoRow.holds Tryz.pinned (OpenSpec.upto hnswSoundSpec)

/-- 'lodestarlaw12.HnswExact', WHERE WHAT IT READS IS OF BULK AT MOST 1048576: true; the input reads as it did. -/
def hnswExactUptoRow : OpenClaim := { program := "ytadkfedglkhgjaagreat", sum := "fc07de42a4daa0996169dd813f847cd619226ce926b21c0af160e0f62b5ffe79", func := "lodestar/lodestarlaw12.HnswExact", spec := "hnswExact", inPlace := ["slices.overlaps[lodestar/api.Hit]"], unfollowed := true, recurses := true, apart := false, narrowed := true }
def HnswExactUptoSaid : Prop := hnswExactUptoRow.holds Tryz.pinned (OpenSpec.upto hnswExactSpec)

/-- 'lodestarlaw12.HnswSwept', WHERE WHAT IT READS IS OF BULK AT MOST 1048576: true; the input reads as it did. -/
def hnswSweptUptoRow : OpenClaim := { program := "ytadkfedglkhgjaagreat", sum := "fc07de42a4daa0996169dd813f847cd619226ce926b21c0af160e0f62b5ffe79", func := "lodestar/lodestarlaw12.HnswSwept", spec := "hnswSwept", inPlace := ["slices.overlaps[lodestar/api.Hit]"], unfollowed := true, recurses := true, apart := false, narrowed := true }
def HnswSweptUptoSaid : Prop := hnswSweptUptoRow.holds Tryz.pinned (OpenSpec.upto hnswSweptSpec)

/-- 'lodestarlaw12.HnswGone', WHERE WHAT IT READS IS OF BULK AT MOST 1048576: true; the input reads as it did. -/
def hnswGoneUptoRow : OpenClaim := { program := "ytadkfedglkhgjaagreat", sum := "fc07de42a4daa0996169dd813f847cd619226ce926b21c0af160e0f62b5ffe79", func := "lodestar/lodestarlaw12.HnswGone", spec := "hnswGone", inPlace := ["slices.overlaps[lodestar/api.Hit]"], unfollowed := true, recurses := true, apart := false, narrowed := true }
def HnswGoneUptoSaid : Prop := hnswGoneUptoRow.holds Tryz.pinned (OpenSpec.upto hnswGoneSpec)

/-- 'lodestarlaw12.HnswEntry', WHERE WHAT IT READS IS OF BULK AT MOST 1048576: true; the input reads as it did. -/
def hnswEntryUptoRow : OpenClaim := { program := "ytadkfedglkhgjaagreat", sum := "fc07de42a4daa0996169dd813f847cd619226ce926b21c0af160e0f62b5ffe79", func := "lodestar/lodestarlaw12.HnswEntry", spec := "hnswEntry", inPlace := ["slices.overlaps[lodestar/api.Hit]"], unfollowed := true, recurses := true, apart := false, narrowed := true }
def HnswEntryUptoSaid : Prop := hnswEntryUptoRow.holds Tryz.pinned (OpenSpec.upto hnswEntrySpec)

/-- 'lodestarlaw12.HnswNow', WHERE WHAT IT READS IS OF BULK AT MOST 1048576: true; the input reads as it did. -/
def hnswNowUptoRow : OpenClaim := { program := "ytadkfedglkhgjaagreat", sum := "fc07de42a4daa0996169dd813f847cd619226ce926b21c0af160e0f62b5ffe79", func := "lodestar/lodestarlaw12.HnswNow", spec := "hnswNow", inPlace := ["slices.overlaps[lodestar/api.Hit]"], unfollowed := true, recurses := true, apart := false, narrowed := true }
def HnswNowUptoSaid : Prop := hnswNowUptoRow.holds Tryz.pinned (OpenSpec.upto hnswNowSpec)

end Rows
end Go.Proofs.YtadkfedglkhgjaaGreat
