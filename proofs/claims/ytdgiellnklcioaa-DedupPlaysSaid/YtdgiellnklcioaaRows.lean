/-
  No cell of these rows narrows 'for every input' (looked for: loops, veiled, ifaces, maps, wideKeys, modest, calm, conditions, laid).
  DERIVED. THE GIVEN ROWS OF THIS SEAT. 4 by the template 'for every input the law returns true; each argument reads behind the call as it read before'; 0 by the template 'total and deterministic' (their statements: YtdgiellnklcioaaTotals.lean).
  GIVEN WITH THE SEED: the statements are not yours to turn. If you find one false, say at which input.
  Laid BY PROGRAM, IN A SANDBOX (cutbox-rows.mjs): the forced cells as the released guide's own fill.sh prints them over the translation d6df6013c0a3d89b… (all of the seat's roots in one cut). By AI agents, Wed Nov 11 2026. No macro, syntax, notation, axiom, sorry.
-/
import Derived.Test.YtdgiellnklcioaaChecked
import GoSem.Claim
import GoSem.ClaimJoined
import GoSem.ClaimMapViews
import Derived.JoinedTies
import Derived.KernelRfl
namespace Go.Proofs.Ytdgiellnklcioaa
/- THE CELL 'sum', in the pinned program and in every row, IS THE sha256 OF THE DUMP (.gsa) THAT YtdgiellnklcioaaProg.lean LOADS. Nothing in Lean hashes anything: it is a label: what it is worth is what the hold of that sum in a sandbox is worth. -/
noncomputable def Try.pinned : Pinned := { name := "ytdgiellnklcioaa", sum := "d6df6013c0a3d89baa5a08ed4a8c7158b883965f08e2ed0ff1a0954fe612822e", checked := Try.checked }
namespace Rows
def none {H : Type} : Left H := { results := [], args := [] }

/-- 'lodestarlaw16.DedupPlays': WHATEVER THE INPUT: true; the input reads as it did. -/
def dedupPlaysSpec : ChangeSpec := { name := "dedupPlays", fn := fun _ => fun
  | [d] => { results := [.lit (.bool true)], args := [d] }
  | _ => none }
def dedupPlaysRow : OpenClaim := { program := "ytdgiellnklcioaa", sum := "d6df6013c0a3d89baa5a08ed4a8c7158b883965f08e2ed0ff1a0954fe612822e", func := "lodestar/lodestarlaw16.DedupPlays", spec := "dedupPlays", unfollowed := true, recurses := true, apart := false }
def DedupPlaysSaid : Prop := dedupPlaysRow.holds Try.pinned (OpenSpec.ofChange dedupPlaysSpec)

/-- ITS FALSE NEIGHBOUR: 'it returns false'. Refute it at one input. -/
def dedupPlaysWrong : ChangeSpec := { name := "dedupPlays", fn := fun _ => fun
  | [d] => { results := [.lit (.bool false)], args := [d] }
  | _ => none }
def DedupPlaysWrongFalsely : Prop := dedupPlaysRow.holds Try.pinned (OpenSpec.ofChange dedupPlaysWrong)

/-- 'lodestarlaw16.DedupOnce': WHATEVER THE INPUT: true; the input reads as it did. -/
def dedupOnceSpec : ChangeSpec := { name := "dedupOnce", fn := fun _ => fun
  | [d] => { results := [.lit (.bool true)], args := [d] }
  | _ => none }
def dedupOnceRow : OpenClaim := { program := "ytdgiellnklcioaa", sum := "d6df6013c0a3d89baa5a08ed4a8c7158b883965f08e2ed0ff1a0954fe612822e", func := "lodestar/lodestarlaw16.DedupOnce", spec := "dedupOnce", unfollowed := true, recurses := true, apart := false }
def DedupOnceSaid : Prop := dedupOnceRow.holds Try.pinned (OpenSpec.ofChange dedupOnceSpec)

/-- ITS FALSE NEIGHBOUR: 'it returns false'. Refute it at one input. -/
def dedupOnceWrong : ChangeSpec := { name := "dedupOnce", fn := fun _ => fun
  | [d] => { results := [.lit (.bool false)], args := [d] }
  | _ => none }
def DedupOnceWrongFalsely : Prop := dedupOnceRow.holds Try.pinned (OpenSpec.ofChange dedupOnceWrong)

/-- 'lodestarlaw16.DedupFull': WHATEVER THE INPUT: true; the input reads as it did. -/
def dedupFullSpec : ChangeSpec := { name := "dedupFull", fn := fun _ => fun
  | [d1, d2] => { results := [.lit (.bool true)], args := [d1, d2] }
  | _ => none }
def dedupFullRow : OpenClaim := { program := "ytdgiellnklcioaa", sum := "d6df6013c0a3d89baa5a08ed4a8c7158b883965f08e2ed0ff1a0954fe612822e", func := "lodestar/lodestarlaw16.DedupFull", spec := "dedupFull", unfollowed := true, recurses := true, apart := false }
def DedupFullSaid : Prop := dedupFullRow.holds Try.pinned (OpenSpec.ofChange dedupFullSpec)

/-- ITS FALSE NEIGHBOUR: 'it returns false'. Refute it at one input. -/
def dedupFullWrong : ChangeSpec := { name := "dedupFull", fn := fun _ => fun
  | [d1, d2] => { results := [.lit (.bool false)], args := [d1, d2] }
  | _ => none }
def DedupFullWrongFalsely : Prop := dedupFullRow.holds Try.pinned (OpenSpec.ofChange dedupFullWrong)

/-- 'lodestarlaw16.DedupWrong': WHATEVER THE INPUT: true; the input reads as it did. -/
def dedupWrongSpec : ChangeSpec := { name := "dedupWrong", fn := fun _ => fun
  | [d1, d2, d3, d4] => { results := [.lit (.bool true)], args := [d1, d2, d3, d4] }
  | _ => none }
def dedupWrongRow : OpenClaim := { program := "ytdgiellnklcioaa", sum := "d6df6013c0a3d89baa5a08ed4a8c7158b883965f08e2ed0ff1a0954fe612822e", func := "lodestar/lodestarlaw16.DedupWrong", spec := "dedupWrong", unfollowed := true, recurses := true, apart := false }
def DedupWrongSaid : Prop := dedupWrongRow.holds Try.pinned (OpenSpec.ofChange dedupWrongSpec)

/-- ITS FALSE NEIGHBOUR: 'it returns false'. Refute it at one input. -/
def dedupWrongWrong : ChangeSpec := { name := "dedupWrong", fn := fun _ => fun
  | [d1, d2, d3, d4] => { results := [.lit (.bool false)], args := [d1, d2, d3, d4] }
  | _ => none }
def DedupWrongWrongFalsely : Prop := dedupWrongRow.holds Try.pinned (OpenSpec.ofChange dedupWrongWrong)

/- THE SECOND FORM. 'bulk': how many values and letters a reading holds, each counted each time it is reached (what is shared counts as often as it is met; a slice's spare places count too). A statement '..UptoSaid' is the law's where the arguments, and the package variables that the reading takes, are together of bulk at most 1048576: NARROWER than '..Said'. Prove '..Said' where nothing that the law and all that it calls make is longer than what came in: it says more and counts as full. Else prove '..UptoSaid'. A law counts once. -/
mutual
def uptoBulk {H : Type} : DataW H → Nat
  | .lit (.string bytes) => bytes.length + 1
  | .lit _ => 1
  | .nil => 1
  | .ptr d => uptoBulk d + 1
  | .slice elems spare => uptoBulkAll elems + uptoBulkAll spare + 1
  | .agg parts => uptoBulkAll parts + 1
  | .iface _ d => uptoBulk d + 1
  | .map entries => uptoBulkEntries entries + 1
  | .held _ => 1
def uptoBulkAll {H : Type} : List (DataW H) → Nat
  | [] => 0
  | d :: r => uptoBulk d + uptoBulkAll r
def uptoBulkEntries {H : Type} : List (Lit × DataW H) → Nat
  | [] => 0
  | x :: r => uptoBulkEntry x + uptoBulkEntries r
def uptoBulkEntry {H : Type} : Lit × DataW H → Nat
  | (.string bytes, d) => bytes.length + uptoBulk d + 1
  | (_, d) => uptoBulk d + 1
 end
def uptoSmall : (H : Type) → List (DataW H) → Bool := fun _ ds => decide (uptoBulkAll ds ≤ 1048576)
def OpenSpec.upto (s : _root_.Go.ChangeSpec) : _root_.Go.OpenSpec := { _root_.Go.OpenSpec.ofChange s with cond := some uptoSmall }

/-- 'lodestarlaw16.DedupPlays', WHERE WHAT IT READS IS OF BULK AT MOST 1048576: true; the input reads as it did. -/
def dedupPlaysUptoRow : OpenClaim := { program := "ytdgiellnklcioaa", sum := "d6df6013c0a3d89baa5a08ed4a8c7158b883965f08e2ed0ff1a0954fe612822e", func := "lodestar/lodestarlaw16.DedupPlays", spec := "dedupPlays", unfollowed := true, recurses := true, apart := false, narrowed := true }
def DedupPlaysUptoSaid : Prop := dedupPlaysUptoRow.holds Try.pinned (OpenSpec.upto dedupPlaysSpec)

/-- 'lodestarlaw16.DedupOnce', WHERE WHAT IT READS IS OF BULK AT MOST 1048576: true; the input reads as it did. -/
def dedupOnceUptoRow : OpenClaim := { program := "ytdgiellnklcioaa", sum := "d6df6013c0a3d89baa5a08ed4a8c7158b883965f08e2ed0ff1a0954fe612822e", func := "lodestar/lodestarlaw16.DedupOnce", spec := "dedupOnce", unfollowed := true, recurses := true, apart := false, narrowed := true }
def DedupOnceUptoSaid : Prop := dedupOnceUptoRow.holds Try.pinned (OpenSpec.upto dedupOnceSpec)

/-- 'lodestarlaw16.DedupFull', WHERE WHAT IT READS IS OF BULK AT MOST 1048576: true; the input reads as it did. -/
def dedupFullUptoRow : OpenClaim := { program := "ytdgiellnklcioaa", sum := "d6df6013c0a3d89baa5a08ed4a8c7158b883965f08e2ed0ff1a0954fe612822e", func := "lodestar/lodestarlaw16.DedupFull", spec := "dedupFull", unfollowed := true, recurses := true, apart := false, narrowed := true }
def DedupFullUptoSaid : Prop := dedupFullUptoRow.holds Try.pinned (OpenSpec.upto dedupFullSpec)

/-- 'lodestarlaw16.DedupWrong', WHERE WHAT IT READS IS OF BULK AT MOST 1048576: true; the input reads as it did. -/
def dedupWrongUptoRow : OpenClaim := { program := "ytdgiellnklcioaa", sum := "d6df6013c0a3d89baa5a08ed4a8c7158b883965f08e2ed0ff1a0954fe612822e", func := "lodestar/lodestarlaw16.DedupWrong", spec := "dedupWrong", unfollowed := true, recurses := true, apart := false, narrowed := true }
def DedupWrongUptoSaid : Prop := dedupWrongUptoRow.holds Try.pinned (OpenSpec.upto dedupWrongSpec)

end Rows
end Go.Proofs.Ytdgiellnklcioaa
