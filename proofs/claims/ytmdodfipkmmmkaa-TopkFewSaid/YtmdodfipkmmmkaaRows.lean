/-
  No cell of these rows narrows 'for every input' (looked for: loops, veiled, ifaces, maps, wideKeys, modest, calm, conditions, laid).
  DERIVED. THE GIVEN ROWS OF THIS SEAT. 7 by the template 'for every input the law returns true; each argument reads behind the call as it read before'; 0 by the template 'total and deterministic' (their statements: YtmdodfipkmmmkaaTotals.lean).
  GIVEN WITH THE SEED: the statements are not yours to turn. If you find one false, say at which input.
  Laid BY PROGRAM, IN A SANDBOX (cutbox-rows.mjs): the forced cells as the released guide's own fill.sh prints them over the translation 8f00e5eb6d1d1c7e… (all of the seat's roots in one cut). By AI agents, Wed Nov 11 2026. No macro, syntax, notation, axiom, sorry.
-/
import Derived.Test.YtmdodfipkmmmkaaChecked
import GoSem.Claim
import GoSem.ClaimJoined
import GoSem.ClaimMapViews
import Derived.JoinedTies
import Derived.KernelRfl
namespace Go.Proofs.Ytmdodfipkmmmkaa
/- THE CELL 'sum', in the pinned program and in every row, IS THE sha256 OF THE DUMP (.gsa) THAT YtmdodfipkmmmkaaProg.lean LOADS. Nothing in Lean hashes anything: it is a label: what it is worth is what the hold of that sum in a sandbox is worth. -/
noncomputable def Try.pinned : Pinned := { name := "ytmdodfipkmmmkaa", sum := "8f00e5eb6d1d1c7e907b26436a27f43c3ba38b41429c61748496770512a50e09", checked := Try.checked }
namespace Rows
def none {H : Type} : Left H := { results := [], args := [] }

/-- 'lodestarlaw02.TopkKeeps': WHATEVER THE INPUT: true; the input reads as it did. -/
def topkKeepsSpec : ChangeSpec := { name := "topkKeeps", fn := fun _ => fun
  | [d1, d2] => { results := [.lit (.bool true)], args := [d1, d2] }
  | _ => none }
def topkKeepsRow : OpenClaim := { program := "ytmdodfipkmmmkaa", sum := "8f00e5eb6d1d1c7e907b26436a27f43c3ba38b41429c61748496770512a50e09", func := "lodestar/lodestarlaw02.TopkKeeps", spec := "topkKeeps", unfollowed := true, recurses := true, apart := false }
def TopkKeepsSaid : Prop := topkKeepsRow.holds Try.pinned (OpenSpec.ofChange topkKeepsSpec)

/-- ITS FALSE NEIGHBOUR: 'it returns false'. Refute it at one input. -/
def topkKeepsWrong : ChangeSpec := { name := "topkKeeps", fn := fun _ => fun
  | [d1, d2] => { results := [.lit (.bool false)], args := [d1, d2] }
  | _ => none }
def TopkKeepsWrongFalsely : Prop := topkKeepsRow.holds Try.pinned (OpenSpec.ofChange topkKeepsWrong)

/-- 'lodestarlaw02.TopkOrder': WHATEVER THE INPUT: true; the input reads as it did. -/
def topkOrderSpec : ChangeSpec := { name := "topkOrder", fn := fun _ => fun
  | [d1, d2, d3] => { results := [.lit (.bool true)], args := [d1, d2, d3] }
  | _ => none }
def topkOrderRow : OpenClaim := { program := "ytmdodfipkmmmkaa", sum := "8f00e5eb6d1d1c7e907b26436a27f43c3ba38b41429c61748496770512a50e09", func := "lodestar/lodestarlaw02.TopkOrder", spec := "topkOrder", unfollowed := true, recurses := true, apart := false }
def TopkOrderSaid : Prop := topkOrderRow.holds Try.pinned (OpenSpec.ofChange topkOrderSpec)

/-- ITS FALSE NEIGHBOUR: 'it returns false'. Refute it at one input. -/
def topkOrderWrong : ChangeSpec := { name := "topkOrder", fn := fun _ => fun
  | [d1, d2, d3] => { results := [.lit (.bool false)], args := [d1, d2, d3] }
  | _ => none }
def TopkOrderWrongFalsely : Prop := topkOrderRow.holds Try.pinned (OpenSpec.ofChange topkOrderWrong)

/-- 'lodestarlaw02.TopkMerges': WHATEVER THE INPUT: true; the input reads as it did. -/
def topkMergesSpec : ChangeSpec := { name := "topkMerges", fn := fun _ => fun
  | [d1, d2, d3] => { results := [.lit (.bool true)], args := [d1, d2, d3] }
  | _ => none }
def topkMergesRow : OpenClaim := { program := "ytmdodfipkmmmkaa", sum := "8f00e5eb6d1d1c7e907b26436a27f43c3ba38b41429c61748496770512a50e09", func := "lodestar/lodestarlaw02.TopkMerges", spec := "topkMerges", unfollowed := true, recurses := true, apart := false }
def TopkMergesSaid : Prop := topkMergesRow.holds Try.pinned (OpenSpec.ofChange topkMergesSpec)

/-- ITS FALSE NEIGHBOUR: 'it returns false'. Refute it at one input. -/
def topkMergesWrong : ChangeSpec := { name := "topkMerges", fn := fun _ => fun
  | [d1, d2, d3] => { results := [.lit (.bool false)], args := [d1, d2, d3] }
  | _ => none }
def TopkMergesWrongFalsely : Prop := topkMergesRow.holds Try.pinned (OpenSpec.ofChange topkMergesWrong)

/-- 'lodestarlaw02.TopkOwn': WHATEVER THE INPUT: true; the input reads as it did. -/
def topkOwnSpec : ChangeSpec := { name := "topkOwn", fn := fun _ => fun
  | [d] => { results := [.lit (.bool true)], args := [d] }
  | _ => none }
def topkOwnRow : OpenClaim := { program := "ytmdodfipkmmmkaa", sum := "8f00e5eb6d1d1c7e907b26436a27f43c3ba38b41429c61748496770512a50e09", func := "lodestar/lodestarlaw02.TopkOwn", spec := "topkOwn", unfollowed := true, recurses := true, apart := false }
def TopkOwnSaid : Prop := topkOwnRow.holds Try.pinned (OpenSpec.ofChange topkOwnSpec)

/-- ITS FALSE NEIGHBOUR: 'it returns false'. Refute it at one input. -/
def topkOwnWrong : ChangeSpec := { name := "topkOwn", fn := fun _ => fun
  | [d] => { results := [.lit (.bool false)], args := [d] }
  | _ => none }
def TopkOwnWrongFalsely : Prop := topkOwnRow.holds Try.pinned (OpenSpec.ofChange topkOwnWrong)

/-- 'lodestarlaw02.TopkFew': WHATEVER THE INPUT: true; the input reads as it did. -/
def topkFewSpec : ChangeSpec := { name := "topkFew", fn := fun _ => fun
  | [d1, d2] => { results := [.lit (.bool true)], args := [d1, d2] }
  | _ => none }
def topkFewRow : OpenClaim := { program := "ytmdodfipkmmmkaa", sum := "8f00e5eb6d1d1c7e907b26436a27f43c3ba38b41429c61748496770512a50e09", func := "lodestar/lodestarlaw02.TopkFew", spec := "topkFew", unfollowed := true, recurses := true, apart := false }
def TopkFewSaid : Prop := topkFewRow.holds Try.pinned (OpenSpec.ofChange topkFewSpec)

/-- ITS FALSE NEIGHBOUR: 'it returns false'. Refute it at one input. -/
def topkFewWrong : ChangeSpec := { name := "topkFew", fn := fun _ => fun
  | [d1, d2] => { results := [.lit (.bool false)], args := [d1, d2] }
  | _ => none }
def TopkFewWrongFalsely : Prop := topkFewRow.holds Try.pinned (OpenSpec.ofChange topkFewWrong)

/-- 'lodestarlaw02.TopkWorst': WHATEVER THE INPUT: true; the input reads as it did. -/
def topkWorstSpec : ChangeSpec := { name := "topkWorst", fn := fun _ => fun
  | [d1, d2] => { results := [.lit (.bool true)], args := [d1, d2] }
  | _ => none }
def topkWorstRow : OpenClaim := { program := "ytmdodfipkmmmkaa", sum := "8f00e5eb6d1d1c7e907b26436a27f43c3ba38b41429c61748496770512a50e09", func := "lodestar/lodestarlaw02.TopkWorst", spec := "topkWorst", unfollowed := true, recurses := true, apart := false }
def TopkWorstSaid : Prop := topkWorstRow.holds Try.pinned (OpenSpec.ofChange topkWorstSpec)

/-- ITS FALSE NEIGHBOUR: 'it returns false'. Refute it at one input. -/
def topkWorstWrong : ChangeSpec := { name := "topkWorst", fn := fun _ => fun
  | [d1, d2] => { results := [.lit (.bool false)], args := [d1, d2] }
  | _ => none }
def TopkWorstWrongFalsely : Prop := topkWorstRow.holds Try.pinned (OpenSpec.ofChange topkWorstWrong)

/-- 'lodestarlaw02.TopkTwo': WHATEVER THE INPUT: true; the input reads as it did. -/
def topkTwoSpec : ChangeSpec := { name := "topkTwo", fn := fun _ => fun
  | [d1, d2, d3] => { results := [.lit (.bool true)], args := [d1, d2, d3] }
  | _ => none }
def topkTwoRow : OpenClaim := { program := "ytmdodfipkmmmkaa", sum := "8f00e5eb6d1d1c7e907b26436a27f43c3ba38b41429c61748496770512a50e09", func := "lodestar/lodestarlaw02.TopkTwo", spec := "topkTwo", unfollowed := true, recurses := true, apart := false }
def TopkTwoSaid : Prop := topkTwoRow.holds Try.pinned (OpenSpec.ofChange topkTwoSpec)

/-- ITS FALSE NEIGHBOUR: 'it returns false'. Refute it at one input. -/
def topkTwoWrong : ChangeSpec := { name := "topkTwo", fn := fun _ => fun
  | [d1, d2, d3] => { results := [.lit (.bool false)], args := [d1, d2, d3] }
  | _ => none }
def TopkTwoWrongFalsely : Prop := topkTwoRow.holds Try.pinned (OpenSpec.ofChange topkTwoWrong)

/- THE SECOND FORM. 'bulk': how many values and letters a reading holds, each counted each time it is reached (what is shared counts as often as it is met; a slice's spare places count too). A statement '..UptoSaid' is the law's where the arguments, and the package variables that the reading takes, are together of bulk at most 1048576: NARROWER than '..Said'. Prove '..Said' where nothing that the law and all that it calls make is longer than what came in: it says more and counts as full. Else prove '..UptoSaid'. A law counts once. -/
mutual
def uptoBulk {H : Type} : DataW H → Nat
  | .lit (.string bytes) => bytes.length + 1
  | .lit _ => 1
  | .nil => 1
  | .ptr d => uptoBulk d + 1
  | .slice elems spare => uptoBulkAll elems + uptoBulkAll spare + 1
  | .agg parts => uptoBulkAll parts + 1
  | .iface _ d => uptoBulk d + 1
  | .map entries => uptoBulkEntries entries + 1
  | .held _ => 1
def uptoBulkAll {H : Type} : List (DataW H) → Nat
  | [] => 0
  | d :: r => uptoBulk d + uptoBulkAll r
def uptoBulkEntries {H : Type} : List (Lit × DataW H) → Nat
  | [] => 0
  | x :: r => uptoBulkEntry x + uptoBulkEntries r
def uptoBulkEntry {H : Type} : Lit × DataW H → Nat
  | (.string bytes, d) => bytes.length + uptoBulk d + 1
  | (_, d) => uptoBulk d + 1
 end
def uptoSmall : (H : Type) → List (DataW H) → Bool := fun _ ds => decide (uptoBulkAll ds ≤ 1048576)
def OpenSpec.upto (s : _root_.Go.ChangeSpec) : _root_.Go.OpenSpec := { _root_.Go.OpenSpec.ofChange s with cond := some uptoSmall }

/-- 'lodestarlaw02.TopkKeeps', WHERE WHAT IT READS IS OF BULK AT MOST 1048576: true; the input reads as it did. -/
def topkKeepsUptoRow : OpenClaim := { program := "ytmdodfipkmmmkaa", sum := "8f00e5eb6d1d1c7e907b26436a27f43c3ba38b41429c61748496770512a50e09", func := "lodestar/lodestarlaw02.TopkKeeps", spec := "topkKeeps", unfollowed := true, recurses := true, apart := false, narrowed := true }
def TopkKeepsUptoSaid : Prop := topkKeepsUptoRow.holds Try.pinned (OpenSpec.upto topkKeepsSpec)

/-- 'lodestarlaw02.TopkOrder', WHERE WHAT IT READS IS OF BULK AT MOST 1048576: true; the input reads as it did. -/
def topkOrderUptoRow : OpenClaim := { program := "ytmdodfipkmmmkaa", sum := "8f00e5eb6d1d1c7e907b26436a27f43c3ba38b41429c61748496770512a50e09", func := "lodestar/lodestarlaw02.TopkOrder", spec := "topkOrder", unfollowed := true, recurses := true, apart := false, narrowed := true }
def TopkOrderUptoSaid : Prop := topkOrderUptoRow.holds Try.pinned (OpenSpec.upto topkOrderSpec)

/-- 'lodestarlaw02.TopkMerges', WHERE WHAT IT READS IS OF BULK AT MOST 1048576: true; the input reads as it did. -/
def topkMergesUptoRow : OpenClaim := { program := "ytmdodfipkmmmkaa", sum := "8f00e5eb6d1d1c7e907b26436a27f43c3ba38b41429c61748496770512a50e09", func := "lodestar/lodestarlaw02.TopkMerges", spec := "topkMerges", unfollowed := true, recurses := true, apart := false, narrowed := true }
def TopkMergesUptoSaid : Prop := topkMergesUptoRow.holds Try.pinned (OpenSpec.upto topkMergesSpec)

/-- 'lodestarlaw02.TopkOwn', WHERE WHAT IT READS IS OF BULK AT MOST 1048576: true; the input reads as it did. -/
def topkOwnUptoRow : OpenClaim := { program := "ytmdodfipkmmmkaa", sum := "8f00e5eb6d1d1c7e907b26436a27f43c3ba38b41429c61748496770512a50e09", func := "lodestar/lodestarlaw02.TopkOwn", spec := "topkOwn", unfollowed := true, recurses := true, apart := false, narrowed := true }
def TopkOwnUptoSaid : Prop := topkOwnUptoRow.holds Try.pinned (OpenSpec.upto topkOwnSpec)

/-- 'lodestarlaw02.TopkFew', WHERE WHAT IT READS IS OF BULK AT MOST 1048576: true; the input reads as it did. -/
def topkFewUptoRow : OpenClaim := { program := "ytmdodfipkmmmkaa", sum := "8f00e5eb6d1d1c7e907b26436a27f43c3ba38b41429c61748496770512a50e09", func := "lodestar/lodestarlaw02.TopkFew", spec := "topkFew", unfollowed := true, recurses := true, apart := false, narrowed := true }
def TopkFewUptoSaid : Prop := topkFewUptoRow.holds Try.pinned (OpenSpec.upto topkFewSpec)

/-- 'lodestarlaw02.TopkWorst', WHERE WHAT IT READS IS OF BULK AT MOST 1048576: true; the input reads as it did. -/
def topkWorstUptoRow : OpenClaim := { program := "ytmdodfipkmmmkaa", sum := "8f00e5eb6d1d1c7e907b26436a27f43c3ba38b41429c61748496770512a50e09", func := "lodestar/lodestarlaw02.TopkWorst", spec := "topkWorst", unfollowed := true, recurses := true, apart := false, narrowed := true }
def TopkWorstUptoSaid : Prop := topkWorstUptoRow.holds Try.pinned (OpenSpec.upto topkWorstSpec)

/-- 'lodestarlaw02.TopkTwo', WHERE WHAT IT READS IS OF BULK AT MOST 1048576: true; the input reads as it did. -/
def topkTwoUptoRow : OpenClaim := { program := "ytmdodfipkmmmkaa", sum := "8f00e5eb6d1d1c7e907b26436a27f43c3ba38b41429c61748496770512a50e09", func := "lodestar/lodestarlaw02.TopkTwo", spec := "topkTwo", unfollowed := true, recurses := true, apart := false, narrowed := true }
def TopkTwoUptoSaid : Prop := topkTwoUptoRow.holds Try.pinned (OpenSpec.upto topkTwoSpec)

end Rows
end Go.Proofs.Ytmdodfipkmmmkaa
