/-
  No cell of these rows narrows 'for every input' (looked for: loops, veiled, ifaces, maps, wideKeys, modest, calm, conditions, laid).
  DERIVED. THE GIVEN ROWS OF THIS SEAT. 6 by the template 'for every input the law returns true; each argument reads behind the call as it read before'; 0 by the template 'total and deterministic' (their statements: YteaomjabanhblaaTotals.lean).
  GIVEN WITH THE SEED: the statements are not yours to turn. If you find one false, say at which input.
  Laid BY PROGRAM, IN A SANDBOX (cutbox-rows.mjs): the forced cells as the released guide's own fill.sh prints them over the translation e0b222a913b968ae… (all of the seat's roots in one cut). By AI agents, Wed Nov 11 2026. No macro, syntax, notation, axiom, sorry.
-/
import Derived.Test.YteaomjabanhblaaChecked
import GoSem.Claim
import GoSem.ClaimJoined
import GoSem.ClaimMapViews
import Derived.JoinedTies
import Derived.KernelRfl
namespace Go.Proofs.Yteaomjabanhblaa
/- THE CELL 'sum', in the pinned program and in every row, IS THE sha256 OF THE DUMP (.gsa) THAT YteaomjabanhblaaProg.lean LOADS. Nothing in Lean hashes anything: it is a label: what it is worth is what the hold of that sum in a sandbox is worth. -/
noncomputable def Try.pinned : Pinned := { name := "yteaomjabanhblaa", sum := "e0b222a913b968ae387ab157477c4f281128958a3dde39695fe97b61ffe84056", checked := Try.checked }
namespace Rows
def none {H : Type} : Left H := { results := [], args := [] }

/-- 'lodestarlaw10.FlatFinds': WHATEVER THE INPUT: true; the input reads as it did. -/
def flatFindsSpec : ChangeSpec := { name := "flatFinds", fn := fun _ => fun
  | [d1, d2, d3, d4, d5, d6] => { results := [.lit (.bool true)], args := [d1, d2, d3, d4, d5, d6] }
  | _ => none }
def flatFindsRow : OpenClaim := { program := "yteaomjabanhblaa", sum := "e0b222a913b968ae387ab157477c4f281128958a3dde39695fe97b61ffe84056", func := "lodestar/lodestarlaw10.FlatFinds", spec := "flatFinds", unfollowed := true, recurses := true, apart := false }
def FlatFindsSaid : Prop := flatFindsRow.holds Try.pinned (OpenSpec.ofChange flatFindsSpec)

/-- ITS FALSE NEIGHBOUR: 'it returns false'. Refute it at one input. -/
def flatFindsWrong : ChangeSpec := { name := "flatFinds", fn := fun _ => fun
  | [d1, d2, d3, d4, d5, d6] => { results := [.lit (.bool false)], args := [d1, d2, d3, d4, d5, d6] }
  | _ => none }
def FlatFindsWrongFalsely : Prop := flatFindsRow.holds Try.pinned (OpenSpec.ofChange flatFindsWrong)

/-- 'lodestarlaw10.FlatPages': WHATEVER THE INPUT: true; the input reads as it did. -/
def flatPagesSpec : ChangeSpec := { name := "flatPages", fn := fun _ => fun
  | [d1, d2, d3, d4, d5] => { results := [.lit (.bool true)], args := [d1, d2, d3, d4, d5] }
  | _ => none }
def flatPagesRow : OpenClaim := { program := "yteaomjabanhblaa", sum := "e0b222a913b968ae387ab157477c4f281128958a3dde39695fe97b61ffe84056", func := "lodestar/lodestarlaw10.FlatPages", spec := "flatPages", unfollowed := true, recurses := true, apart := false }
def FlatPagesSaid : Prop := flatPagesRow.holds Try.pinned (OpenSpec.ofChange flatPagesSpec)

/-- ITS FALSE NEIGHBOUR: 'it returns false'. Refute it at one input. -/
def flatPagesWrong : ChangeSpec := { name := "flatPages", fn := fun _ => fun
  | [d1, d2, d3, d4, d5] => { results := [.lit (.bool false)], args := [d1, d2, d3, d4, d5] }
  | _ => none }
def FlatPagesWrongFalsely : Prop := flatPagesRow.holds Try.pinned (OpenSpec.ofChange flatPagesWrong)

/-- 'lodestarlaw10.FlatOrder': WHATEVER THE INPUT: true; the input reads as it did. -/
def flatOrderSpec : ChangeSpec := { name := "flatOrder", fn := fun _ => fun
  | [d1, d2, d3, d4, d5] => { results := [.lit (.bool true)], args := [d1, d2, d3, d4, d5] }
  | _ => none }
def flatOrderRow : OpenClaim := { program := "yteaomjabanhblaa", sum := "e0b222a913b968ae387ab157477c4f281128958a3dde39695fe97b61ffe84056", func := "lodestar/lodestarlaw10.FlatOrder", spec := "flatOrder", unfollowed := true, recurses := true, apart := false }
def FlatOrderSaid : Prop := flatOrderRow.holds Try.pinned (OpenSpec.ofChange flatOrderSpec)

/-- ITS FALSE NEIGHBOUR: 'it returns false'. Refute it at one input. -/
def flatOrderWrong : ChangeSpec := { name := "flatOrder", fn := fun _ => fun
  | [d1, d2, d3, d4, d5] => { results := [.lit (.bool false)], args := [d1, d2, d3, d4, d5] }
  | _ => none }
def FlatOrderWrongFalsely : Prop := flatOrderRow.holds Try.pinned (OpenSpec.ofChange flatOrderWrong)

/-- 'lodestarlaw10.FlatTags': WHATEVER THE INPUT: true; the input reads as it did. -/
def flatTagsSpec : ChangeSpec := { name := "flatTags", fn := fun _ => fun
  | [d1, d2, d3, d4] => { results := [.lit (.bool true)], args := [d1, d2, d3, d4] }
  | _ => none }
def flatTagsRow : OpenClaim := { program := "yteaomjabanhblaa", sum := "e0b222a913b968ae387ab157477c4f281128958a3dde39695fe97b61ffe84056", func := "lodestar/lodestarlaw10.FlatTags", spec := "flatTags", unfollowed := true, recurses := true, apart := false }
def FlatTagsSaid : Prop := flatTagsRow.holds Try.pinned (OpenSpec.ofChange flatTagsSpec)

/-- ITS FALSE NEIGHBOUR: 'it returns false'. Refute it at one input. -/
def flatTagsWrong : ChangeSpec := { name := "flatTags", fn := fun _ => fun
  | [d1, d2, d3, d4] => { results := [.lit (.bool false)], args := [d1, d2, d3, d4] }
  | _ => none }
def FlatTagsWrongFalsely : Prop := flatTagsRow.holds Try.pinned (OpenSpec.ofChange flatTagsWrong)

/-- 'lodestarlaw10.FlatOwn': WHATEVER THE INPUT: true; the input reads as it did. -/
def flatOwnSpec : ChangeSpec := { name := "flatOwn", fn := fun _ => fun
  | [d1, d2, d3, d4, d5] => { results := [.lit (.bool true)], args := [d1, d2, d3, d4, d5] }
  | _ => none }
def flatOwnRow : OpenClaim := { program := "yteaomjabanhblaa", sum := "e0b222a913b968ae387ab157477c4f281128958a3dde39695fe97b61ffe84056", func := "lodestar/lodestarlaw10.FlatOwn", spec := "flatOwn", unfollowed := true, recurses := true, apart := false }
def FlatOwnSaid : Prop := flatOwnRow.holds Try.pinned (OpenSpec.ofChange flatOwnSpec)

/-- ITS FALSE NEIGHBOUR: 'it returns false'. Refute it at one input. -/
def flatOwnWrong : ChangeSpec := { name := "flatOwn", fn := fun _ => fun
  | [d1, d2, d3, d4, d5] => { results := [.lit (.bool false)], args := [d1, d2, d3, d4, d5] }
  | _ => none }
def FlatOwnWrongFalsely : Prop := flatOwnRow.holds Try.pinned (OpenSpec.ofChange flatOwnWrong)

/-- 'lodestarlaw10.FlatMore': WHATEVER THE INPUT: true; the input reads as it did. -/
def flatMoreSpec : ChangeSpec := { name := "flatMore", fn := fun _ => fun
  | [d1, d2, d3, d4, d5] => { results := [.lit (.bool true)], args := [d1, d2, d3, d4, d5] }
  | _ => none }
def flatMoreRow : OpenClaim := { program := "yteaomjabanhblaa", sum := "e0b222a913b968ae387ab157477c4f281128958a3dde39695fe97b61ffe84056", func := "lodestar/lodestarlaw10.FlatMore", spec := "flatMore", unfollowed := true, recurses := true, apart := false }
def FlatMoreSaid : Prop := flatMoreRow.holds Try.pinned (OpenSpec.ofChange flatMoreSpec)

/-- ITS FALSE NEIGHBOUR: 'it returns false'. Refute it at one input. -/
def flatMoreWrong : ChangeSpec := { name := "flatMore", fn := fun _ => fun
  | [d1, d2, d3, d4, d5] => { results := [.lit (.bool false)], args := [d1, d2, d3, d4, d5] }
  | _ => none }
def FlatMoreWrongFalsely : Prop := flatMoreRow.holds Try.pinned (OpenSpec.ofChange flatMoreWrong)

/- THE SECOND FORM. 'bulk': how many values and letters a reading holds, each counted each time it is reached (what is shared counts as often as it is met; a slice's spare places count too). A statement '..UptoSaid' is the law's where the arguments, and the package variables that the reading takes, are together of bulk at most 1048576: NARROWER than '..Said'. Prove '..Said' where nothing that the law and all that it calls make is longer than what came in: it says more and counts as full. Else prove '..UptoSaid'. A law counts once. -/
mutual
def uptoBulk {H : Type} : DataW H → Nat
  | .lit (.string bytes) => bytes.length + 1
  | .lit _ => 1
  | .nil => 1
  | .ptr d => uptoBulk d + 1
  | .slice elems spare => uptoBulkAll elems + uptoBulkAll spare + 1
  | .agg parts => uptoBulkAll parts + 1
  | .iface _ d => uptoBulk d + 1
  | .map entries => uptoBulkEntries entries + 1
  | .held _ => 1
def uptoBulkAll {H : Type} : List (DataW H) → Nat
  | [] => 0
  | d :: r => uptoBulk d + uptoBulkAll r
def uptoBulkEntries {H : Type} : List (Lit × DataW H) → Nat
  | [] => 0
  | x :: r => uptoBulkEntry x + uptoBulkEntries r
def uptoBulkEntry {H : Type} : Lit × DataW H → Nat
  | (.string bytes, d) => bytes.length + uptoBulk d + 1
  | (_, d) => uptoBulk d + 1
 end
def uptoSmall : (H : Type) → List (DataW H) → Bool := fun _ ds => decide (uptoBulkAll ds ≤ 1048576)
def OpenSpec.upto (s : _root_.Go.ChangeSpec) : _root_.Go.OpenSpec := { _root_.Go.OpenSpec.ofChange s with cond := some uptoSmall }

/-- 'lodestarlaw10.FlatFinds', WHERE WHAT IT READS IS OF BULK AT MOST 1048576: true; the input reads as it did. -/
def flatFindsUptoRow : OpenClaim := { program := "yteaomjabanhblaa", sum := "e0b222a913b968ae387ab157477c4f281128958a3dde39695fe97b61ffe84056", func := "lodestar/lodestarlaw10.FlatFinds", spec := "flatFinds", unfollowed := true, recurses := true, apart := false, narrowed := true }
def FlatFindsUptoSaid : Prop := flatFindsUptoRow.holds Try.pinned (OpenSpec.upto flatFindsSpec)

/-- 'lodestarlaw10.FlatPages', WHERE WHAT IT READS IS OF BULK AT MOST 1048576: true; the input reads as it did. -/
def flatPagesUptoRow : OpenClaim := { program := "yteaomjabanhblaa", sum := "e0b222a913b968ae387ab157477c4f281128958a3dde39695fe97b61ffe84056", func := "lodestar/lodestarlaw10.FlatPages", spec := "flatPages", unfollowed := true, recurses := true, apart := false, narrowed := true }
def FlatPagesUptoSaid : Prop := flatPagesUptoRow.holds Try.pinned (OpenSpec.upto flatPagesSpec)

/-- 'lodestarlaw10.FlatOrder', WHERE WHAT IT READS IS OF BULK AT MOST 1048576: true; the input reads as it did. -/
def flatOrderUptoRow : OpenClaim := { program := "yteaomjabanhblaa", sum := "e0b222a913b968ae387ab157477c4f281128958a3dde39695fe97b61ffe84056", func := "lodestar/lodestarlaw10.FlatOrder", spec := "flatOrder", unfollowed := true, recurses := true, apart := false, narrowed := true }
def FlatOrderUptoSaid : Prop := flatOrderUptoRow.holds Try.pinned (OpenSpec.upto flatOrderSpec)

/-- 'lodestarlaw10.FlatTags', WHERE WHAT IT READS IS OF BULK AT MOST 1048576: true; the input reads as it did. -/
def flatTagsUptoRow : OpenClaim := { program := "yteaomjabanhblaa", sum := "e0b222a913b968ae387ab157477c4f281128958a3dde39695fe97b61ffe84056", func := "lodestar/lodestarlaw10.FlatTags", spec := "flatTags", unfollowed := true, recurses := true, apart := false, narrowed := true }
def FlatTagsUptoSaid : Prop := flatTagsUptoRow.holds Try.pinned (OpenSpec.upto flatTagsSpec)

/-- 'lodestarlaw10.FlatOwn', WHERE WHAT IT READS IS OF BULK AT MOST 1048576: true; the input reads as it did. -/
def flatOwnUptoRow : OpenClaim := { program := "yteaomjabanhblaa", sum := "e0b222a913b968ae387ab157477c4f281128958a3dde39695fe97b61ffe84056", func := "lodestar/lodestarlaw10.FlatOwn", spec := "flatOwn", unfollowed := true, recurses := true, apart := false, narrowed := true }
def FlatOwnUptoSaid : Prop := flatOwnUptoRow.holds Try.pinned (OpenSpec.upto flatOwnSpec)

/-- 'lodestarlaw10.FlatMore', WHERE WHAT IT READS IS OF BULK AT MOST 1048576: true; the input reads as it did. -/
def flatMoreUptoRow : OpenClaim := { program := "yteaomjabanhblaa", sum := "e0b222a913b968ae387ab157477c4f281128958a3dde39695fe97b61ffe84056", func := "lodestar/lodestarlaw10.FlatMore", spec := "flatMore", unfollowed := true, recurses := true, apart := false, narrowed := true }
def FlatMoreUptoSaid : Prop := flatMoreUptoRow.holds Try.pinned (OpenSpec.upto flatMoreSpec)

end Rows
end Go.Proofs.Yteaomjabanhblaa
