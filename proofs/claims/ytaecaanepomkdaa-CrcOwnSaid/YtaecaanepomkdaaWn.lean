/-
  The document's example of layer 5 holds: what the laws' alive tells.
-/
import Derived.Test.YtaecaanepomkdaaWv
import Derived.Lib.SlBytesConst
namespace Go.Proofs.Ytaecaanepomkdaa
open Go.RowKit

abbrev exDigits : List Nat := [49, 50, 51, 52, 53, 54, 55, 56, 57]
set_option maxRecDepth 100000 in
theorem ex_crc : (crcMore 0#32 exDigits).toNat = 3421780262 := by decide

/-- A slice of bytes out of a constant string: one new block, marked. -/
theorem BReads.text (w : World) (bs : List Nat) (e : TypeId) (k : Nat × Nat) (h1 : bs.length ≤ 1000000) (h2 : ∀ b ∈ bs, b < 256) :
    BReads (w.alloc (.cells (bs.map byteV).toArray e k)) (some ⟨w.heap.size, 0, none⟩) bs.length bs.length bs := by
  refine ⟨rfl, by omega, h2, (fun h => by cases h), Nat.le_refl _, .inr ⟨_, _, rfl, by simp, fun i hi => ?_⟩⟩
  have hn : (w.alloc (.cells (bs.map byteV).toArray e k)).heap[w.heap.size]? = some (.cells (bs.map byteV).toArray e k) := heap_alloc_new w _
  rw [cell_of_row _ _ _ _ e k hn]
  simp [byteAt, byteV, List.getD, hi]

/-- The same contracts, what is told by a letter. -/
theorem of_at (g : Nat) (t : Bool) (a : Option Addr) (n c m : Nat) (bs : List Nat) (w : World) (hs : SumAt w g t) (h : BReads w a n c bs) (hg : 0 < n → ∀ ad, a = some ad → ad.block ≠ g) (hm : (crcMore 0#32 bs).toNat = m) :
    Calls Try.prog 11 #[.pointer (some ⟨g, 0, none⟩), .slice a n c] w fun e w' => e = .returned (.int .u32 (m : Int)) ∧ SumAt w' g true ∧ Kept [g] w w' := by
  rw [← hm]
  exact of_any g t a n c bs w hs h hg
theorem more_at (g : Nat) (t : Bool) (x : BitVec 32) (a : Option Addr) (k n c m : Nat) (bs : List Nat) (w : World) (hs : SumAt w g t) (h : BReads w a n c bs) (hg : 0 < n → ∀ ad, a = some ad → ad.block ≠ g) (hk : x.toNat = k) (hm : (crcMore x bs).toNat = m) :
    Calls Try.prog 13 #[.pointer (some ⟨g, 0, none⟩), .int .u32 (k : Int), .slice a n c] w fun e w' => e = .returned (.int .u32 (m : Int)) ∧ SumAt w' g true ∧ Kept [g] w w' := by
  rw [← hk, ← hm]
  exact more_any g t x a n c bs w hs h hg
theorem rof_at (a : Option Addr) (n c m : Nat) (bs : List Nat) (w : World) (h : BReads w a n c bs) (hm : (crcMore 0#32 bs).toNat = m) :
    Calls Try.prog 12 #[.slice a n c] w fun e w' => e = .returned (.int .u32 (m : Int)) ∧ w = w' := by
  rw [← hm]
  exact rof_any a n c bs w h
theorem rmore_at (x : BitVec 32) (a : Option Addr) (k n c m : Nat) (bs : List Nat) (w : World) (h : BReads w a n c bs) (hk : x.toNat = k) (hm : (crcMore x bs).toNat = m) :
    Calls Try.prog 14 #[.int .u32 (k : Int), .slice a n c] w fun e w' => e = .returned (.int .u32 (m : Int)) ∧ w = w' := by
  rw [← hk, ← hm]
  exact rmore_any a n c bs x w h
/-- Blocks that a call has made since w are its own. -/
theorem below_kept {w w1 w2 : World} {g : Nat} (h : Below w.heap.size w w1) (hk : Kept [g] w1 w2) (hg : w.heap.size ≤ g) : Below w.heap.size w w2 :=
  h.trans (hk.below (B := w.heap.size) (by simpa using hg) h.size)

set_option maxRecDepth 100000 in
set_option maxHeartbeats 3200000 in
theorem alive5 (w : World) : Calls Try.prog 9 #[] w fun e w' => e = .returned (.bool true) ∧ Below w.heap.size w w' := by
  have kc := fun (w : World) (C : Array Value) (n c : Nat) => Lib.run_convert_bytes_const (P := Try.prog) w 23 5 C n c Try.underlying23 Try.underlying5
  have hnot : ∀ (x : Bool) (w : World), (Op.unary .not (.bool x)).run Try.prog w = .ok (.bool (!x)) w := fun _ _ => rfl
  go_enter Try.func9, Try.ntmps9
  go_wp2_with (fail)
  refine (new_any5 w).mono ?_
  rintro e w1 ⟨rfl, hs1, hb1⟩
  have HS1 := Lib.hid hs1
  have HB1 := Lib.hid hb1
  clear hs1 hb1
  go_wp2_with (fail)
  refine (made_any _ false _ HS1.out).mono ?_
  rintro e w' ⟨rfl, rfl⟩
  have ht := BReads.text w1 exDigits 5 (9, 10) (by decide) (by decide)
  have HS2 := Lib.hid (HS1.out.on ((Below.refl _ _).alloc (Nat.le_refl _) (.cells (exDigits.map byteV).toArray 5 (9, 10))))
  have HT := Lib.hid ht
  have HB2 := Lib.hid (HB1.out.alloc HB1.out.size (.cells (exDigits.map byteV).toArray 5 (9, 10)))
  have hne := HS1.out.lt
  clear ht HS1
  go_wp2_with (fail)
  refine (of_at w.heap.size false _ 9 9 3421780262 exDigits _ HS2.out HT.out (by intro _ ad h; cases h; simp; omega) ex_crc).mono ?_
  rintro e w2 ⟨rfl, hs3, hk3⟩
  have HS3 := Lib.hid hs3
  have HB3 := Lib.hid (below_kept HB2.out hk3 (Nat.le_refl _))
  clear hs3 hk3 HS2 HB2 HT
  go_wp2_with (fail)
  refine (made_any _ true w2 HS3.out).mono ?_
  rintro e w' ⟨rfl, rfl⟩
  go_wp2
  go_ret
  exact ⟨rfl, HB3.out⟩
end Go.Proofs.Ytaecaanepomkdaa
