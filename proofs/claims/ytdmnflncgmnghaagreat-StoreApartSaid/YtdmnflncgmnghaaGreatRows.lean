/-
  No cell of these rows narrows 'for every input' (looked for: loops, veiled, ifaces, maps, wideKeys, modest, calm, conditions, laid).
  DERIVED. THE GIVEN ROWS OF THIS SEAT. 7 by the template 'for every input the law returns true; each argument reads behind the call as it read before'; 0 by the template 'total and deterministic' (their statements: YtdmnflncgmnghaaGreatTotals.lean).
  GIVEN WITH THE SEED: the statements are not yours to turn. If you find one false, say at which input.
  Laid BY PROGRAM, IN A SANDBOX (cutbox-rows.mjs): the forced cells as the released guide's own fill.sh prints them over the translation 31121f316744e436… (all of the seat's roots in one cut). By AI agents, Wed Nov 11 2026. No macro, syntax, notation, axiom, sorry.
-/
import Derived.Test.YtdmnflncgmnghaaGreatChecked
import GoSem.Claim
import GoSem.ClaimJoined
import GoSem.ClaimMapViews
import Derived.JoinedTies
import Derived.KernelRfl
namespace Go.Proofs.YtdmnflncgmnghaaGreat
/- THE CELL 'sum', in the pinned program and in every row, IS THE sha256 OF THE DUMP (.gsa) THAT YtdmnflncgmnghaaGreatProg.lean LOADS. Nothing in Lean hashes anything: it is a label: what it is worth is what the hold of that sum in a sandbox is worth. -/
noncomputable def Tryz.pinned : Pinned := { name := "ytdmnflncgmnghaagreat", sum := "31121f316744e436b1f98f6033e9dcabc87c061daaf6b90e2f9d8cfaf4f14517", checked := Tryz.checked }
namespace Rows
def none {H : Type} : Left H := { results := [], args := [] }

/-- 'lodestarlaw09.StorePlays': WHATEVER THE INPUT: true; the input reads as it did. -/
def storePlaysSpec : ChangeSpec := { name := "storePlays", fn := fun _ => fun
  | [d] => { results := [.lit (.bool true)], args := [d] }
  | _ => none }
def storePlaysRow : OpenClaim := { program := "ytdmnflncgmnghaagreat", sum := "31121f316744e436b1f98f6033e9dcabc87c061daaf6b90e2f9d8cfaf4f14517", func := "lodestar/lodestarlaw09.StorePlays", spec := "storePlays", inPlace := ["sync/atomic.LoadUint64", "sync/atomic.AddUint64", "sync/atomic.AddInt64"], unfollowed := true, recurses := true, apart := false }
def StorePlaysSaid : Prop := storePlaysRow.holds Tryz.pinned (OpenSpec.ofChange storePlaysSpec)

/-- ITS FALSE NEIGHBOUR: 'it returns false'. Refute it at one input. -/
def storePlaysWrong : ChangeSpec := { name := "storePlays", fn := fun _ => fun
  | [d] => { results := [.lit (.bool false)], args := [d] }
  | _ => none }
def StorePlaysWrongFalsely : Prop := storePlaysRow.holds Tryz.pinned (OpenSpec.ofChange storePlaysWrong)

/-- 'lodestarlaw09.StorePinned': WHATEVER THE INPUT: true; the input reads as it did. -/
def storePinnedSpec : ChangeSpec := { name := "storePinned", fn := fun _ => fun
  | [d1, d2] => { results := [.lit (.bool true)], args := [d1, d2] }
  | _ => none }
def storePinnedRow : OpenClaim := { program := "ytdmnflncgmnghaagreat", sum := "31121f316744e436b1f98f6033e9dcabc87c061daaf6b90e2f9d8cfaf4f14517", func := "lodestar/lodestarlaw09.StorePinned", spec := "storePinned", inPlace := ["sync/atomic.LoadUint64", "sync/atomic.AddUint64", "sync/atomic.AddInt64"], unfollowed := true, recurses := true, apart := false }
def StorePinnedSaid : Prop := storePinnedRow.holds Tryz.pinned (OpenSpec.ofChange storePinnedSpec)

/-- ITS FALSE NEIGHBOUR: 'it returns false'. Refute it at one input. -/
def storePinnedWrong : ChangeSpec := { name := "storePinned", fn := fun _ => fun
  | [d1, d2] => { results := [.lit (.bool false)], args := [d1, d2] }
  | _ => none }
def StorePinnedWrongFalsely : Prop := storePinnedRow.holds Tryz.pinned (OpenSpec.ofChange storePinnedWrong)

/-- 'lodestarlaw09.StoreAll': WHATEVER THE INPUT: true; the input reads as it did. -/
def storeAllSpec : ChangeSpec := { name := "storeAll", fn := fun _ => fun
  | [d1, d2] => { results := [.lit (.bool true)], args := [d1, d2] }
  | _ => none }
def storeAllRow : OpenClaim := { program := "ytdmnflncgmnghaagreat", sum := "31121f316744e436b1f98f6033e9dcabc87c061daaf6b90e2f9d8cfaf4f14517", func := "lodestar/lodestarlaw09.StoreAll", spec := "storeAll", inPlace := ["sync/atomic.LoadUint64", "sync/atomic.AddUint64", "sync/atomic.AddInt64"], unfollowed := true, recurses := true, apart := false }
def StoreAllSaid : Prop := storeAllRow.holds Tryz.pinned (OpenSpec.ofChange storeAllSpec)

/-- ITS FALSE NEIGHBOUR: 'it returns false'. Refute it at one input. -/
def storeAllWrong : ChangeSpec := { name := "storeAll", fn := fun _ => fun
  | [d1, d2] => { results := [.lit (.bool false)], args := [d1, d2] }
  | _ => none }
def StoreAllWrongFalsely : Prop := storeAllRow.holds Tryz.pinned (OpenSpec.ofChange storeAllWrong)

/-- 'lodestarlaw09.StoreSwept': WHATEVER THE INPUT: true; the input reads as it did. -/
def storeSweptSpec : ChangeSpec := { name := "storeSwept", fn := fun _ => fun
  | [d] => { results := [.lit (.bool true)], args := [d] }
  | _ => none }
def storeSweptRow : OpenClaim := { program := "ytdmnflncgmnghaagreat", sum := "31121f316744e436b1f98f6033e9dcabc87c061daaf6b90e2f9d8cfaf4f14517", func := "lodestar/lodestarlaw09.StoreSwept", spec := "storeSwept", inPlace := ["sync/atomic.LoadUint64", "sync/atomic.AddUint64", "sync/atomic.AddInt64"], unfollowed := true, recurses := true, apart := false }
def StoreSweptSaid : Prop := storeSweptRow.holds Tryz.pinned (OpenSpec.ofChange storeSweptSpec)

/-- ITS FALSE NEIGHBOUR: 'it returns false'. Refute it at one input. -/
def storeSweptWrong : ChangeSpec := { name := "storeSwept", fn := fun _ => fun
  | [d] => { results := [.lit (.bool false)], args := [d] }
  | _ => none }
def StoreSweptWrongFalsely : Prop := storeSweptRow.holds Tryz.pinned (OpenSpec.ofChange storeSweptWrong)

/-- 'lodestarlaw09.StoreApart': WHATEVER THE INPUT: true; the input reads as it did. -/
def storeApartSpec : ChangeSpec := { name := "storeApart", fn := fun _ => fun
  | [d1, d2] => { results := [.lit (.bool true)], args := [d1, d2] }
  | _ => none }
def storeApartRow : OpenClaim := { program := "ytdmnflncgmnghaagreat", sum := "31121f316744e436b1f98f6033e9dcabc87c061daaf6b90e2f9d8cfaf4f14517", func := "lodestar/lodestarlaw09.StoreApart", spec := "storeApart", inPlace := ["sync/atomic.LoadUint64", "sync/atomic.AddUint64", "sync/atomic.AddInt64"], unfollowed := true, recurses := true, apart := false }
def StoreApartSaid : Prop := storeApartRow.holds Tryz.pinned (OpenSpec.ofChange storeApartSpec)

/-- ITS FALSE NEIGHBOUR: 'it returns false'. Refute it at one input. -/
def storeApartWrong : ChangeSpec := { name := "storeApart", fn := fun _ => fun
  | [d1, d2] => { results := [.lit (.bool false)], args := [d1, d2] }
  | _ => none }
def StoreApartWrongFalsely : Prop := storeApartRow.holds Tryz.pinned (OpenSpec.ofChange storeApartWrong)

/-- 'lodestarlaw09.StoreVersions': WHATEVER THE INPUT: true; the input reads as it did. -/
def storeVersionsSpec : ChangeSpec := { name := "storeVersions", fn := fun _ => fun
  | [d] => { results := [.lit (.bool true)], args := [d] }
  | _ => none }
def storeVersionsRow : OpenClaim := { program := "ytdmnflncgmnghaagreat", sum := "31121f316744e436b1f98f6033e9dcabc87c061daaf6b90e2f9d8cfaf4f14517", func := "lodestar/lodestarlaw09.StoreVersions", spec := "storeVersions", inPlace := ["sync/atomic.LoadUint64", "sync/atomic.AddUint64", "sync/atomic.AddInt64"], unfollowed := true, recurses := true, apart := false }
def StoreVersionsSaid : Prop := storeVersionsRow.holds Tryz.pinned (OpenSpec.ofChange storeVersionsSpec)

/-- ITS FALSE NEIGHBOUR: 'it returns false'. Refute it at one input. -/
def storeVersionsWrong : ChangeSpec := { name := "storeVersions", fn := fun _ => fun
  | [d] => { results := [.lit (.bool false)], args := [d] }
  | _ => none }
def StoreVersionsWrongFalsely : Prop := storeVersionsRow.holds Tryz.pinned (OpenSpec.ofChange storeVersionsWrong)

/-- 'lodestarlaw09.StoreRoom': WHATEVER THE INPUT: true; the input reads as it did. -/
def storeRoomSpec : ChangeSpec := { name := "storeRoom", fn := fun _ => fun
  | [d] => { results := [.lit (.bool true)], args := [d] }
  | _ => none }
def storeRoomRow : OpenClaim := { program := "ytdmnflncgmnghaagreat", sum := "31121f316744e436b1f98f6033e9dcabc87c061daaf6b90e2f9d8cfaf4f14517", func := "lodestar/lodestarlaw09.StoreRoom", spec := "storeRoom", inPlace := ["sync/atomic.LoadUint64", "sync/atomic.AddUint64", "sync/atomic.AddInt64"], unfollowed := true, recurses := true, apart := false }
def StoreRoomSaid : Prop := storeRoomRow.holds Tryz.pinned (OpenSpec.ofChange storeRoomSpec)

/-- ITS FALSE NEIGHBOUR: 'it returns false'. Refute it at one input. -/
def storeRoomWrong : ChangeSpec := { name := "storeRoom", fn := fun _ => fun
  | [d] => { results := [.lit (.bool false)], args := [d] }
  | _ => none }
def StoreRoomWrongFalsely : Prop := storeRoomRow.holds Tryz.pinned (OpenSpec.ofChange storeRoomWrong)

/- THE SECOND FORM. 'bulk': how many values and letters a reading holds, each counted each time it is reached (what is shared counts as often as it is met; a slice's spare places count too). A statement '..UptoSaid' is the law's where the arguments, and the package variables that the reading takes, are together of bulk at most 1048576: NARROWER than '..Said'. Prove '..Said' where nothing that the law and all that it calls make is longer than what came in: it says more and counts as full. Else prove '..UptoSaid'. A law counts once. -/
mutual
def uptoBulk {H : Type} : DataW H → Nat
  | .lit (.string bytes) => bytes.length + 1
  | .lit _ => 1
  | .nil => 1
  | .ptr d => uptoBulk d + 1
  | .slice elems spare => uptoBulkAll elems + uptoBulkAll spare + 1
  | .agg parts => uptoBulkAll parts + 1
  | .iface _ d => uptoBulk d + 1
  | .map entries => uptoBulkEntries entries + 1
  | .held _ => 1
def uptoBulkAll {H : Type} : List (DataW H) → Nat
  | [] => 0
  | d :: r => uptoBulk d + uptoBulkAll r
def uptoBulkEntries {H : Type} : List (Lit × DataW H) → Nat
  | [] => 0
  | x :: r => uptoBulkEntry x + uptoBulkEntries r
def uptoBulkEntry {H : Type} : Lit × DataW H → Nat
  | (.string bytes, d) => bytes.length + uptoBulk d + 1
  | (_, d) => uptoBulk d + 1
 end
def uptoSmall : (H : Type) → List (DataW H) → Bool := fun _ ds => decide (uptoBulkAll ds ≤ 1048576)
def OpenSpec.upto (s : _root_.Go.ChangeSpec) : _root_.Go.OpenSpec := { _root_.Go.OpenSpec.ofChange s with cond := some uptoSmall }

/-- 'lodestarlaw09.StorePlays', WHERE WHAT IT READS IS OF BULK AT MOST 1048576: true; the input reads as it did. -/
def storePlaysUptoRow : OpenClaim := { program := "ytdmnflncgmnghaagreat", sum := "31121f316744e436b1f98f6033e9dcabc87c061daaf6b90e2f9d8cfaf4f14517", func := "lodestar/lodestarlaw09.StorePlays", spec := "storePlays", inPlace := ["sync/atomic.LoadUint64", "sync/atomic.AddUint64", "sync/atomic.AddInt64"], unfollowed := true, recurses := true, apart := false, narrowed := true }
def StorePlaysUptoSaid : Prop := storePlaysUptoRow.holds Tryz.pinned (OpenSpec.upto storePlaysSpec)

/-- 'lodestarlaw09.StorePinned', WHERE WHAT IT READS IS OF BULK AT MOST 1048576: true; the input reads as it did. -/
def storePinnedUptoRow : OpenClaim := { program := "ytdmnflncgmnghaagreat", sum := "31121f316744e436b1f98f6033e9dcabc87c061daaf6b90e2f9d8cfaf4f14517", func := "lodestar/lodestarlaw09.StorePinned", spec := "storePinned", inPlace := ["sync/atomic.LoadUint64", "sync/atomic.AddUint64", "sync/atomic.AddInt64"], unfollowed := true, recurses := true, apart := false, narrowed := true }
def StorePinnedUptoSaid : Prop := storePinnedUptoRow.holds Tryz.pinned (OpenSpec.upto storePinnedSpec)

/-- 'lodestarlaw09.StoreAll', WHERE WHAT IT READS IS OF BULK AT MOST 1048576: true; the input reads as it did. -/
def storeAllUptoRow : OpenClaim := { program := "ytdmnflncgmnghaagreat", sum := "31121f316744e436b1f98f6033e9dcabc87c061daaf6b90e2f9d8cfaf4f14517", func := "lodestar/lodestarlaw09.StoreAll", spec := "storeAll", inPlace := ["sync/atomic.LoadUint64", "sync/atomic.AddUint64", "sync/atomic.AddInt64"], unfollowed := true, recurses := true, apart := false, narrowed := true }
def StoreAllUptoSaid : Prop := storeAllUptoRow.holds Tryz.pinned (OpenSpec.upto storeAllSpec)

/-- 'lodestarlaw09.StoreSwept', WHERE WHAT IT READS IS OF BULK AT MOST 1048576: true; the input reads as it did. -/
def storeSweptUptoRow : OpenClaim := { program := "ytdmnflncgmnghaagreat", sum := "31121f316744e436b1f98f6033e9dcabc87c061daaf6b90e2f9d8cfaf4f14517", func := "lodestar/lodestarlaw09.StoreSwept", spec := "storeSwept", inPlace := ["sync/atomic.LoadUint64", "sync/atomic.AddUint64", "sync/atomic.AddInt64"], unfollowed := true, recurses := true, apart := false, narrowed := true }
def StoreSweptUptoSaid : Prop := storeSweptUptoRow.holds Tryz.pinned (OpenSpec.upto storeSweptSpec)

/-- 'lodestarlaw09.StoreApart', WHERE WHAT IT READS IS OF BULK AT MOST 1048576: true; the input reads as it did. -/
def storeApartUptoRow : OpenClaim := { program := "ytdmnflncgmnghaagreat", sum := "31121f316744e436b1f98f6033e9dcabc87c061daaf6b90e2f9d8cfaf4f14517", func := "lodestar/lodestarlaw09.StoreApart", spec := "storeApart", inPlace := ["sync/atomic.LoadUint64", "sync/atomic.AddUint64", "sync/atomic.AddInt64"], unfollowed := true, recurses := true, apart := false, narrowed := true }
def StoreApartUptoSaid : Prop := storeApartUptoRow.holds Tryz.pinned (OpenSpec.upto storeApartSpec)

/-- 'lodestarlaw09.StoreVersions', WHERE WHAT IT READS IS OF BULK AT MOST 1048576: true; the input reads as it did. -/
def storeVersionsUptoRow : OpenClaim := { program := "ytdmnflncgmnghaagreat", sum := "31121f316744e436b1f98f6033e9dcabc87c061daaf6b90e2f9d8cfaf4f14517", func := "lodestar/lodestarlaw09.StoreVersions", spec := "storeVersions", inPlace := ["sync/atomic.LoadUint64", "sync/atomic.AddUint64", "sync/atomic.AddInt64"], unfollowed := true, recurses := true, apart := false, narrowed := true }
def StoreVersionsUptoSaid : Prop := storeVersionsUptoRow.holds Tryz.pinned (OpenSpec.upto storeVersionsSpec)

/-- 'lodestarlaw09.StoreRoom', WHERE WHAT IT READS IS OF BULK AT MOST 1048576: true; the input reads as it did. -/
def storeRoomUptoRow : OpenClaim := { program := "ytdmnflncgmnghaagreat", sum := "31121f316744e436b1f98f6033e9dcabc87c061daaf6b90e2f9d8cfaf4f14517", func := "lodestar/lodestarlaw09.StoreRoom", spec := "storeRoom", inPlace := ["sync/atomic.LoadUint64", "sync/atomic.AddUint64", "sync/atomic.AddInt64"], unfollowed := true, recurses := true, apart := false, narrowed := true }
def StoreRoomUptoSaid : Prop := storeRoomUptoRow.holds Tryz.pinned (OpenSpec.upto storeRoomSpec)

end Rows
end Go.Proofs.YtdmnflncgmnghaaGreat
