/-
  No cell of these rows narrows 'for every input' (looked for: loops, veiled, ifaces, maps, wideKeys, modest, calm, conditions, laid).
  DERIVED. THE GIVEN ROWS OF THIS SEAT. 7 by the template 'for every input the law returns true; each argument reads behind the call as it read before'; 0 by the template 'total and deterministic' (their statements: YtpaehifgccfpoaaTotals.lean).
  GIVEN WITH THE SEED: the statements are not yours to turn. If you find one false, say at which input.
  Laid BY PROGRAM, IN A SANDBOX (cutbox-rows.mjs): the forced cells as the released guide's own fill.sh prints them over the translation a6ad8255296e0e10… (all of the seat's roots in one cut). By AI agents, Wed Nov 11 2026. No macro, syntax, notation, axiom, sorry.
-/
import Derived.Test.YtpaehifgccfpoaaChecked
import GoSem.Claim
import GoSem.ClaimJoined
import GoSem.ClaimMapViews
import Derived.JoinedTies
import Derived.KernelRfl
namespace Go.Proofs.Ytpaehifgccfpoaa
/- THE CELL 'sum', in the pinned program and in every row, IS THE sha256 OF THE DUMP (.gsa) THAT YtpaehifgccfpoaaProg.lean LOADS. Nothing in Lean hashes anything: it is a label: what it is worth is what the hold of that sum in a sandbox is worth. -/
noncomputable def Try.pinned : Pinned := { name := "ytpaehifgccfpoaa", sum := "a6ad8255296e0e10e5013963e942bc9a8d627f2c603fc1cae389efe80d821d86", checked := Try.checked }
namespace Rows
def none {H : Type} : Left H := { results := [], args := [] }

/-- 'lodestarlaw03.TagsChecks': WHATEVER THE INPUT: true; the input reads as it did. -/
def tagsChecksSpec : ChangeSpec := { name := "tagsChecks", fn := fun _ => fun
  | [d1, d2] => { results := [.lit (.bool true)], args := [d1, d2] }
  | _ => none }
def tagsChecksRow : OpenClaim := { program := "ytpaehifgccfpoaa", sum := "a6ad8255296e0e10e5013963e942bc9a8d627f2c603fc1cae389efe80d821d86", func := "lodestar/lodestarlaw03.TagsChecks", spec := "tagsChecks", unfollowed := true, recurses := true, apart := false }
def TagsChecksSaid : Prop := tagsChecksRow.holds Try.pinned (OpenSpec.ofChange tagsChecksSpec)

/-- ITS FALSE NEIGHBOUR: 'it returns false'. Refute it at one input. -/
def tagsChecksWrong : ChangeSpec := { name := "tagsChecks", fn := fun _ => fun
  | [d1, d2] => { results := [.lit (.bool false)], args := [d1, d2] }
  | _ => none }
def TagsChecksWrongFalsely : Prop := tagsChecksRow.holds Try.pinned (OpenSpec.ofChange tagsChecksWrong)

/-- 'lodestarlaw03.TagsMatch': WHATEVER THE INPUT: true; the input reads as it did. -/
def tagsMatchSpec : ChangeSpec := { name := "tagsMatch", fn := fun _ => fun
  | [d1, d2] => { results := [.lit (.bool true)], args := [d1, d2] }
  | _ => none }
def tagsMatchRow : OpenClaim := { program := "ytpaehifgccfpoaa", sum := "a6ad8255296e0e10e5013963e942bc9a8d627f2c603fc1cae389efe80d821d86", func := "lodestar/lodestarlaw03.TagsMatch", spec := "tagsMatch", unfollowed := true, recurses := true, apart := false }
def TagsMatchSaid : Prop := tagsMatchRow.holds Try.pinned (OpenSpec.ofChange tagsMatchSpec)

/-- ITS FALSE NEIGHBOUR: 'it returns false'. Refute it at one input. -/
def tagsMatchWrong : ChangeSpec := { name := "tagsMatch", fn := fun _ => fun
  | [d1, d2] => { results := [.lit (.bool false)], args := [d1, d2] }
  | _ => none }
def TagsMatchWrongFalsely : Prop := tagsMatchRow.holds Try.pinned (OpenSpec.ofChange tagsMatchWrong)

/-- 'lodestarlaw03.TagsSorts': WHATEVER THE INPUT: true; the input reads as it did. -/
def tagsSortsSpec : ChangeSpec := { name := "tagsSorts", fn := fun _ => fun
  | [d] => { results := [.lit (.bool true)], args := [d] }
  | _ => none }
def tagsSortsRow : OpenClaim := { program := "ytpaehifgccfpoaa", sum := "a6ad8255296e0e10e5013963e942bc9a8d627f2c603fc1cae389efe80d821d86", func := "lodestar/lodestarlaw03.TagsSorts", spec := "tagsSorts", unfollowed := true, recurses := true, apart := false }
def TagsSortsSaid : Prop := tagsSortsRow.holds Try.pinned (OpenSpec.ofChange tagsSortsSpec)

/-- ITS FALSE NEIGHBOUR: 'it returns false'. Refute it at one input. -/
def tagsSortsWrong : ChangeSpec := { name := "tagsSorts", fn := fun _ => fun
  | [d] => { results := [.lit (.bool false)], args := [d] }
  | _ => none }
def TagsSortsWrongFalsely : Prop := tagsSortsRow.holds Try.pinned (OpenSpec.ofChange tagsSortsWrong)

/-- 'lodestarlaw03.TagsMore': WHATEVER THE INPUT: true; the input reads as it did. -/
def tagsMoreSpec : ChangeSpec := { name := "tagsMore", fn := fun _ => fun
  | [d1, d2, d3] => { results := [.lit (.bool true)], args := [d1, d2, d3] }
  | _ => none }
def tagsMoreRow : OpenClaim := { program := "ytpaehifgccfpoaa", sum := "a6ad8255296e0e10e5013963e942bc9a8d627f2c603fc1cae389efe80d821d86", func := "lodestar/lodestarlaw03.TagsMore", spec := "tagsMore", unfollowed := true, recurses := true, apart := false }
def TagsMoreSaid : Prop := tagsMoreRow.holds Try.pinned (OpenSpec.ofChange tagsMoreSpec)

/-- ITS FALSE NEIGHBOUR: 'it returns false'. Refute it at one input. -/
def tagsMoreWrong : ChangeSpec := { name := "tagsMore", fn := fun _ => fun
  | [d1, d2, d3] => { results := [.lit (.bool false)], args := [d1, d2, d3] }
  | _ => none }
def TagsMoreWrongFalsely : Prop := tagsMoreRow.holds Try.pinned (OpenSpec.ofChange tagsMoreWrong)

/-- 'lodestarlaw03.TagsSame': WHATEVER THE INPUT: true; the input reads as it did. -/
def tagsSameSpec : ChangeSpec := { name := "tagsSame", fn := fun _ => fun
  | [d] => { results := [.lit (.bool true)], args := [d] }
  | _ => none }
def tagsSameRow : OpenClaim := { program := "ytpaehifgccfpoaa", sum := "a6ad8255296e0e10e5013963e942bc9a8d627f2c603fc1cae389efe80d821d86", func := "lodestar/lodestarlaw03.TagsSame", spec := "tagsSame", unfollowed := true, recurses := true, apart := false }
def TagsSameSaid : Prop := tagsSameRow.holds Try.pinned (OpenSpec.ofChange tagsSameSpec)

/-- ITS FALSE NEIGHBOUR: 'it returns false'. Refute it at one input. -/
def tagsSameWrong : ChangeSpec := { name := "tagsSame", fn := fun _ => fun
  | [d] => { results := [.lit (.bool false)], args := [d] }
  | _ => none }
def TagsSameWrongFalsely : Prop := tagsSameRow.holds Try.pinned (OpenSpec.ofChange tagsSameWrong)

/-- 'lodestarlaw03.TagsOwn': WHATEVER THE INPUT: true; the input reads as it did. -/
def tagsOwnSpec : ChangeSpec := { name := "tagsOwn", fn := fun _ => fun
  | [d1, d2] => { results := [.lit (.bool true)], args := [d1, d2] }
  | _ => none }
def tagsOwnRow : OpenClaim := { program := "ytpaehifgccfpoaa", sum := "a6ad8255296e0e10e5013963e942bc9a8d627f2c603fc1cae389efe80d821d86", func := "lodestar/lodestarlaw03.TagsOwn", spec := "tagsOwn", unfollowed := true, recurses := true, apart := false }
def TagsOwnSaid : Prop := tagsOwnRow.holds Try.pinned (OpenSpec.ofChange tagsOwnSpec)

/-- ITS FALSE NEIGHBOUR: 'it returns false'. Refute it at one input. -/
def tagsOwnWrong : ChangeSpec := { name := "tagsOwn", fn := fun _ => fun
  | [d1, d2] => { results := [.lit (.bool false)], args := [d1, d2] }
  | _ => none }
def TagsOwnWrongFalsely : Prop := tagsOwnRow.holds Try.pinned (OpenSpec.ofChange tagsOwnWrong)

/-- 'lodestarlaw03.TagsParts': WHATEVER THE INPUT: true; the input reads as it did. -/
def tagsPartsSpec : ChangeSpec := { name := "tagsParts", fn := fun _ => fun
  | [d1, d2] => { results := [.lit (.bool true)], args := [d1, d2] }
  | _ => none }
def tagsPartsRow : OpenClaim := { program := "ytpaehifgccfpoaa", sum := "a6ad8255296e0e10e5013963e942bc9a8d627f2c603fc1cae389efe80d821d86", func := "lodestar/lodestarlaw03.TagsParts", spec := "tagsParts", unfollowed := true, recurses := true, apart := false }
def TagsPartsSaid : Prop := tagsPartsRow.holds Try.pinned (OpenSpec.ofChange tagsPartsSpec)

/-- ITS FALSE NEIGHBOUR: 'it returns false'. Refute it at one input. -/
def tagsPartsWrong : ChangeSpec := { name := "tagsParts", fn := fun _ => fun
  | [d1, d2] => { results := [.lit (.bool false)], args := [d1, d2] }
  | _ => none }
def TagsPartsWrongFalsely : Prop := tagsPartsRow.holds Try.pinned (OpenSpec.ofChange tagsPartsWrong)

/- THE SECOND FORM. 'bulk': how many values and letters a reading holds, each counted each time it is reached (what is shared counts as often as it is met; a slice's spare places count too). A statement '..UptoSaid' is the law's where the arguments, and the package variables that the reading takes, are together of bulk at most 1048576: NARROWER than '..Said'. Prove '..Said' where nothing that the law and all that it calls make is longer than what came in: it says more and counts as full. Else prove '..UptoSaid'. A law counts once. -/
mutual
def uptoBulk {H : Type} : DataW H → Nat
  | .lit (.string bytes) => bytes.length + 1
  | .lit _ => 1
  | .nil => 1
  | .ptr d => uptoBulk d + 1
  | .slice elems spare => uptoBulkAll elems + uptoBulkAll spare + 1
  | .agg parts => uptoBulkAll parts + 1
  | .iface _ d => uptoBulk d + 1
  | .map entries => uptoBulkEntries entries + 1
  | .held _ => 1
def uptoBulkAll {H : Type} : List (DataW H) → Nat
  | [] => 0
  | d :: r => uptoBulk d + uptoBulkAll r
def uptoBulkEntries {H : Type} : List (Lit × DataW H) → Nat
  | [] => 0
  | x :: r => uptoBulkEntry x + uptoBulkEntries r
def uptoBulkEntry {H : Type} : Lit × DataW H → Nat
  | (.string bytes, d) => bytes.length + uptoBulk d + 1
  | (_, d) => uptoBulk d + 1
 end
def uptoSmall : (H : Type) → List (DataW H) → Bool := fun _ ds => decide (uptoBulkAll ds ≤ 1048576)
def OpenSpec.upto (s : _root_.Go.ChangeSpec) : _root_.Go.OpenSpec := { _root_.Go.OpenSpec.ofChange s with cond := some uptoSmall }

/-- 'lodestarlaw03.TagsChecks', WHERE WHAT IT READS IS OF BULK AT MOST 1048576: true; the input reads as it did. -/
def tagsChecksUptoRow : OpenClaim := { program := "ytpaehifgccfpoaa", sum := "a6ad8255296e0e10e5013963e942bc9a8d627f2c603fc1cae389efe80d821d86", func := "lodestar/lodestarlaw03.TagsChecks", spec := "tagsChecks", unfollowed := true, recurses := true, apart := false, narrowed := true }
def TagsChecksUptoSaid : Prop := tagsChecksUptoRow.holds Try.pinned (OpenSpec.upto tagsChecksSpec)

/-- 'lodestarlaw03.TagsMatch', WHERE WHAT IT READS IS OF BULK AT MOST 1048576: true; the input reads as it did. -/
def tagsMatchUptoRow : OpenClaim := { program := "ytpaehifgccfpoaa", sum := "a6ad8255296e0e10e5013963e942bc9a8d627f2c603fc1cae389efe80d821d86", func := "lodestar/lodestarlaw03.TagsMatch", spec := "tagsMatch", unfollowed := true, recurses := true, apart := false, narrowed := true }
def TagsMatchUptoSaid : Prop := tagsMatchUptoRow.holds Try.pinned (OpenSpec.upto tagsMatchSpec)

/-- 'lodestarlaw03.TagsSorts', WHERE WHAT IT READS IS OF BULK AT MOST 1048576: true; the input reads as it did. -/
def tagsSortsUptoRow : OpenClaim := { program := "ytpaehifgccfpoaa", sum := "a6ad8255296e0e10e5013963e942bc9a8d627f2c603fc1cae389efe80d821d86", func := "lodestar/lodestarlaw03.TagsSorts", spec := "tagsSorts", unfollowed := true, recurses := true, apart := false, narrowed := true }
def TagsSortsUptoSaid : Prop := tagsSortsUptoRow.holds Try.pinned (OpenSpec.upto tagsSortsSpec)

/-- 'lodestarlaw03.TagsMore', WHERE WHAT IT READS IS OF BULK AT MOST 1048576: true; the input reads as it did. -/
def tagsMoreUptoRow : OpenClaim := { program := "ytpaehifgccfpoaa", sum := "a6ad8255296e0e10e5013963e942bc9a8d627f2c603fc1cae389efe80d821d86", func := "lodestar/lodestarlaw03.TagsMore", spec := "tagsMore", unfollowed := true, recurses := true, apart := false, narrowed := true }
def TagsMoreUptoSaid : Prop := tagsMoreUptoRow.holds Try.pinned (OpenSpec.upto tagsMoreSpec)

/-- 'lodestarlaw03.TagsSame', WHERE WHAT IT READS IS OF BULK AT MOST 1048576: true; the input reads as it did. -/
def tagsSameUptoRow : OpenClaim := { program := "ytpaehifgccfpoaa", sum := "a6ad8255296e0e10e5013963e942bc9a8d627f2c603fc1cae389efe80d821d86", func := "lodestar/lodestarlaw03.TagsSame", spec := "tagsSame", unfollowed := true, recurses := true, apart := false, narrowed := true }
def TagsSameUptoSaid : Prop := tagsSameUptoRow.holds Try.pinned (OpenSpec.upto tagsSameSpec)

/-- 'lodestarlaw03.TagsOwn', WHERE WHAT IT READS IS OF BULK AT MOST 1048576: true; the input reads as it did. -/
def tagsOwnUptoRow : OpenClaim := { program := "ytpaehifgccfpoaa", sum := "a6ad8255296e0e10e5013963e942bc9a8d627f2c603fc1cae389efe80d821d86", func := "lodestar/lodestarlaw03.TagsOwn", spec := "tagsOwn", unfollowed := true, recurses := true, apart := false, narrowed := true }
def TagsOwnUptoSaid : Prop := tagsOwnUptoRow.holds Try.pinned (OpenSpec.upto tagsOwnSpec)

/-- 'lodestarlaw03.TagsParts', WHERE WHAT IT READS IS OF BULK AT MOST 1048576: true; the input reads as it did. -/
def tagsPartsUptoRow : OpenClaim := { program := "ytpaehifgccfpoaa", sum := "a6ad8255296e0e10e5013963e942bc9a8d627f2c603fc1cae389efe80d821d86", func := "lodestar/lodestarlaw03.TagsParts", spec := "tagsParts", unfollowed := true, recurses := true, apart := false, narrowed := true }
def TagsPartsUptoSaid : Prop := tagsPartsUptoRow.holds Try.pinned (OpenSpec.upto tagsPartsSpec)

end Rows
end Go.Proofs.Ytpaehifgccfpoaa
