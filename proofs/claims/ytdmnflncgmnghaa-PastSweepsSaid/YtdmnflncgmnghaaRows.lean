/-
  No cell of these rows narrows 'for every input' (looked for: loops, veiled, ifaces, maps, wideKeys, modest, calm, conditions, laid).
  DERIVED. THE GIVEN ROWS OF THIS SEAT. 3 by the template 'for every input the law returns true; each argument reads behind the call as it read before'; 0 by the template 'total and deterministic' (their statements: YtdmnflncgmnghaaTotals.lean).
  GIVEN WITH THE SEED: the statements are not yours to turn. If you find one false, say at which input.
  Laid BY PROGRAM, IN A SANDBOX (cutbox-rows.mjs): the forced cells as the released guide's own fill.sh prints them over the translation 9039fbebe5a5b17b… (all of the seat's roots in one cut). By AI agents, Wed Nov 11 2026. No macro, syntax, notation, axiom, sorry.
-/
import Derived.Test.YtdmnflncgmnghaaChecked
import GoSem.Claim
import GoSem.ClaimJoined
import GoSem.ClaimMapViews
import Derived.JoinedTies
import Derived.KernelRfl
namespace Go.Proofs.Ytdmnflncgmnghaa
/- THE CELL 'sum', in the pinned program and in every row, IS THE sha256 OF THE DUMP (.gsa) THAT YtdmnflncgmnghaaProg.lean LOADS. Nothing in Lean hashes anything: it is a label: what it is worth is what the hold of that sum in a sandbox is worth. -/
noncomputable def Try.pinned : Pinned := { name := "ytdmnflncgmnghaa", sum := "9039fbebe5a5b17bf2897aef0d7e35ae16fb3bc603de91f72be2204bc3936966", checked := Try.checked }
namespace Rows
def none {H : Type} : Left H := { results := [], args := [] }

/-- 'lodestarlaw08.PastPlays': WHATEVER THE INPUT: true; the input reads as it did. -/
def pastPlaysSpec : ChangeSpec := { name := "pastPlays", fn := fun _ => fun
  | [d] => { results := [.lit (.bool true)], args := [d] }
  | _ => none }
def pastPlaysRow : OpenClaim := { program := "ytdmnflncgmnghaa", sum := "9039fbebe5a5b17bf2897aef0d7e35ae16fb3bc603de91f72be2204bc3936966", func := "lodestar/lodestarlaw08.PastPlays", spec := "pastPlays", unfollowed := true, recurses := true, apart := false }
def PastPlaysSaid : Prop := pastPlaysRow.holds Try.pinned (OpenSpec.ofChange pastPlaysSpec)

/-- ITS FALSE NEIGHBOUR: 'it returns false'. Refute it at one input. -/
def pastPlaysWrong : ChangeSpec := { name := "pastPlays", fn := fun _ => fun
  | [d] => { results := [.lit (.bool false)], args := [d] }
  | _ => none }
def PastPlaysWrongFalsely : Prop := pastPlaysRow.holds Try.pinned (OpenSpec.ofChange pastPlaysWrong)

/-- 'lodestarlaw08.PastSweeps': WHATEVER THE INPUT: true; the input reads as it did. -/
def pastSweepsSpec : ChangeSpec := { name := "pastSweeps", fn := fun _ => fun
  | [d1, d2, d3] => { results := [.lit (.bool true)], args := [d1, d2, d3] }
  | _ => none }
def pastSweepsRow : OpenClaim := { program := "ytdmnflncgmnghaa", sum := "9039fbebe5a5b17bf2897aef0d7e35ae16fb3bc603de91f72be2204bc3936966", func := "lodestar/lodestarlaw08.PastSweeps", spec := "pastSweeps", unfollowed := true, recurses := true, apart := false }
def PastSweepsSaid : Prop := pastSweepsRow.holds Try.pinned (OpenSpec.ofChange pastSweepsSpec)

/-- ITS FALSE NEIGHBOUR: 'it returns false'. Refute it at one input. -/
def pastSweepsWrong : ChangeSpec := { name := "pastSweeps", fn := fun _ => fun
  | [d1, d2, d3] => { results := [.lit (.bool false)], args := [d1, d2, d3] }
  | _ => none }
def PastSweepsWrongFalsely : Prop := pastSweepsRow.holds Try.pinned (OpenSpec.ofChange pastSweepsWrong)

/-- 'lodestarlaw08.PastEach': WHATEVER THE INPUT: true; the input reads as it did. -/
def pastEachSpec : ChangeSpec := { name := "pastEach", fn := fun _ => fun
  | [d1, d2] => { results := [.lit (.bool true)], args := [d1, d2] }
  | _ => none }
def pastEachRow : OpenClaim := { program := "ytdmnflncgmnghaa", sum := "9039fbebe5a5b17bf2897aef0d7e35ae16fb3bc603de91f72be2204bc3936966", func := "lodestar/lodestarlaw08.PastEach", spec := "pastEach", unfollowed := true, recurses := true, apart := false }
def PastEachSaid : Prop := pastEachRow.holds Try.pinned (OpenSpec.ofChange pastEachSpec)

/-- ITS FALSE NEIGHBOUR: 'it returns false'. Refute it at one input. -/
def pastEachWrong : ChangeSpec := { name := "pastEach", fn := fun _ => fun
  | [d1, d2] => { results := [.lit (.bool false)], args := [d1, d2] }
  | _ => none }
def PastEachWrongFalsely : Prop := pastEachRow.holds Try.pinned (OpenSpec.ofChange pastEachWrong)

/- THE SECOND FORM. 'bulk': how many values and letters a reading holds, each counted each time it is reached (what is shared counts as often as it is met; a slice's spare places count too). A statement '..UptoSaid' is the law's where the arguments, and the package variables that the reading takes, are together of bulk at most 1048576: NARROWER than '..Said'. Prove '..Said' where nothing that the law and all that it calls make is longer than what came in: it says more and counts as full. Else prove '..UptoSaid'. A law counts once. -/
mutual
def uptoBulk {H : Type} : DataW H → Nat
  | .lit (.string bytes) => bytes.length + 1
  | .lit _ => 1
  | .nil => 1
  | .ptr d => uptoBulk d + 1
  | .slice elems spare => uptoBulkAll elems + uptoBulkAll spare + 1
  | .agg parts => uptoBulkAll parts + 1
  | .iface _ d => uptoBulk d + 1
  | .map entries => uptoBulkEntries entries + 1
  | .held _ => 1
def uptoBulkAll {H : Type} : List (DataW H) → Nat
  | [] => 0
  | d :: r => uptoBulk d + uptoBulkAll r
def uptoBulkEntries {H : Type} : List (Lit × DataW H) → Nat
  | [] => 0
  | x :: r => uptoBulkEntry x + uptoBulkEntries r
def uptoBulkEntry {H : Type} : Lit × DataW H → Nat
  | (.string bytes, d) => bytes.length + uptoBulk d + 1
  | (_, d) => uptoBulk d + 1
 end
def uptoSmall : (H : Type) → List (DataW H) → Bool := fun _ ds => decide (uptoBulkAll ds ≤ 1048576)
def OpenSpec.upto (s : _root_.Go.ChangeSpec) : _root_.Go.OpenSpec := { _root_.Go.OpenSpec.ofChange s with cond := some uptoSmall }

/-- 'lodestarlaw08.PastPlays', WHERE WHAT IT READS IS OF BULK AT MOST 1048576: true; the input reads as it did. -/
def pastPlaysUptoRow : OpenClaim := { program := "ytdmnflncgmnghaa", sum := "9039fbebe5a5b17bf2897aef0d7e35ae16fb3bc603de91f72be2204bc3936966", func := "lodestar/lodestarlaw08.PastPlays", spec := "pastPlays", unfollowed := true, recurses := true, apart := false, narrowed := true }
def PastPlaysUptoSaid : Prop := pastPlaysUptoRow.holds Try.pinned (OpenSpec.upto pastPlaysSpec)

/-- 'lodestarlaw08.PastSweeps', WHERE WHAT IT READS IS OF BULK AT MOST 1048576: true; the input reads as it did. -/
def pastSweepsUptoRow : OpenClaim := { program := "ytdmnflncgmnghaa", sum := "9039fbebe5a5b17bf2897aef0d7e35ae16fb3bc603de91f72be2204bc3936966", func := "lodestar/lodestarlaw08.PastSweeps", spec := "pastSweeps", unfollowed := true, recurses := true, apart := false, narrowed := true }
def PastSweepsUptoSaid : Prop := pastSweepsUptoRow.holds Try.pinned (OpenSpec.upto pastSweepsSpec)

/-- 'lodestarlaw08.PastEach', WHERE WHAT IT READS IS OF BULK AT MOST 1048576: true; the input reads as it did. -/
def pastEachUptoRow : OpenClaim := { program := "ytdmnflncgmnghaa", sum := "9039fbebe5a5b17bf2897aef0d7e35ae16fb3bc603de91f72be2204bc3936966", func := "lodestar/lodestarlaw08.PastEach", spec := "pastEach", unfollowed := true, recurses := true, apart := false, narrowed := true }
def PastEachUptoSaid : Prop := pastEachUptoRow.holds Try.pinned (OpenSpec.upto pastEachSpec)

end Rows
end Go.Proofs.Ytdmnflncgmnghaa
