/-
  The program's table: its words, and how it is laid, by walks over their texts.
-/
import Derived.Test.YtaecaanepomkdaaWr
import Derived.Test.YtaecaanepomkdaaWt
import Derived.Deep.QuietTactic
import Derived.BigRegion
import Derived.Deep.RegionWith
import Derived.StillTailTactics
namespace Go.Proofs.Ytaecaanepomkdaa
open Go.RowKit

set_option maxRecDepth 100000 in
set_option maxHeartbeats 3200000 in
theorem word_any (x : BitVec 32) (w : World) :
    Calls Try.prog 20 #[.int .u32 (x.toNat : Int)] w fun e w' => e = .returned (.int .u32 ((halves 8 x).toNat : Int)) ∧ w = w' := by
  obtain ⟨m0, hm0⟩ : ∃ m0, x.toNat = m0 := ⟨_, rfl⟩
  have HM := Lib.hid hm0
  rw [hm0]
  clear hm0
  go_enter Try.func20, Try.ntmps20
  go_wp2
  go_loop [0, 4] (fun s0 s4 => ∃ (j m : Nat) (y : BitVec 32), j ≤ 8 ∧ s4 = .int .i64 j ∧ s0 = .int .u32 m ∧ Hid (y.toNat = m) ∧ Hid (halves 8 x = halves (8 - j) y)) (fun _ s4 => 8 - (intOf s4).toNat)
  case atStart => exact ⟨0, m0, x, by omega, rfl, rfl, HM.out, rfl⟩
  case round =>
    obtain ⟨j, m, y, hj, rfl, rfl, HY, HT⟩ := hrel
    by_cases hj8 : j < 8
    · obtain ⟨s, hs⟩ : ∃ s, (y >>> 1).toNat = s := ⟨_, rfl⟩
      have hshr := shr1_u32 y
      have hand := and1_u32 y
      have hxp := xorP_u32 (y >>> 1)
      rw [HY.out] at hshr hand
      rw [hs] at hshr hxp
      have HH := Lib.hid (show halves 8 x = halves (8 - (j + 1)) (half y) from by
        rw [HT.out, show 8 - j = 8 - (j + 1) + 1 by omega, halves])
      have HS := Lib.hid hs
      cases hb : y.getLsbD 0
      · have HF := Lib.hid (show half y = y >>> 1 from half_even hb)
        rw [hb] at hand
        simp only [Bool.false_eq_true, if_false] at hand
        clear hb hs hxp
        go_wp2
        go_round
        case rel => exact ⟨j + 1, s, y >>> 1, by omega, by go_num, rfl, HS.out, by rw [HH.out, HF.out]; exact rfl⟩
        case measure => simp [intOf]; omega
      · have HF := Lib.hid (show half y = (y >>> 1) ^^^ crcP from by unfold half; rw [hb]; simp only [if_true])
        rw [hb] at hand
        simp only [if_true] at hand
        obtain ⟨s', hs'⟩ : ∃ s', ((y >>> 1) ^^^ crcP).toNat = s' := ⟨_, rfl⟩
        rw [hs'] at hxp
        have HS' := Lib.hid hs'
        clear hb hs hs'
        go_wp2
        go_round
        case rel => exact ⟨j + 1, s', (y >>> 1) ^^^ crcP, by omega, by go_num, rfl, HS'.out, by rw [HH.out, HF.out]; exact rfl⟩
        case measure => simp [intOf]; omega
    · have hj' : j = 8 := by omega
      subst hj'
      have HR := Lib.hid (show (halves 8 x).toNat = m from by rw [HT.out]; exact HY.out)
      go_wp2
      go_ret
      exact ⟨by rw [HR.out]; rfl, rfl⟩

/-- The word i as a value; a table of which k words are laid. -/
def wordV (i : Nat) : Value := .int .u32 ((crcWord i).toNat : Int)
def tabV (k : Nat) : List Value := (List.range 256).map fun i => if i < k then wordV i else .int .u32 0
/-- A summer's cells: the Once's flag and lock, whether the table was made, the table. -/
def sumV (d m s k : Nat) : List Value := [.int .u32 d, .int .i32 m, .int .u32 0, .int .u32 s] ++ tabV k
theorem tabV_len (k : Nat) : (tabV k).length = 256 := by simp [tabV]
theorem tabV_set (k : Nat) : (tabV k).set k (wordV k) = tabV (k + 1) := by
  apply List.ext_getElem (by simp [tabV])
  intro i h1 h2
  rw [List.getElem_set]
  simp only [tabV, List.getElem_map, List.getElem_range]
  by_cases he : k = i
  · subst he
    simp
  · simp only [if_neg he]
    by_cases hlt : i < k
    · rw [if_pos hlt, if_pos (by omega)]
    · rw [if_neg hlt, if_neg (by omega)]
theorem sumV_set (d m s k : Nat) : (sumV d m s k).set (4 + k) (wordV k) = sumV d m s (k + 1) := by
  rw [sumV, List.set_append_right _ _ (by simp)]
  simp only [List.length_cons, List.length_nil]
  rw [show 4 + k - (0 + 1 + 1 + 1 + 1) = k by omega, tabV_set k, sumV]
theorem sumV_len (d m s k : Nat) : (sumV d m s k).length = 260 := by simp [sumV, tabV_len]

theorem word_nat (k q : Nat) (w : World) (hk : k < 256) (hq : (crcWord k).toNat = q) :
    Calls Try.prog 20 #[.int .u32 (k : Int)] w fun e w' => e = .returned (.int .u32 (q : Int)) ∧ w' = w := by
  have := word_any (BitVec.ofNat 32 k) w
  rw [show ((BitVec.ofNat 32 k).toNat : Int) = (k : Int) by simp; omega] at this
  rw [← hq]
  exact this.mono fun _ _ ⟨h1, h2⟩ => ⟨h1, h2.symm⟩
theorem sumV_at (d m s j k : Nat) (hk : k < 256) : ∃ v, (sumV d m s j)[4 + k]? = some v := by
  rw [sumV, List.getElem?_append_right (by simp)]
  exact ⟨_, List.getElem?_eq_getElem (by rw [tabV_len]; simp; omega)⟩

set_option maxRecDepth 100000 in
set_option maxHeartbeats 3200000 in
/-- The table is laid, and that it was. -/
theorem fill_any (g d m : Nat) (w : World) (h : Blk w g 50 (sumV d m 0 0)) :
    Calls Try.prog 17 #[.pointer (some ⟨g, 0, none⟩)] w fun e w' => e = .returned (.tuple #[]) ∧ Blk w' g 50 (sumV d m 1 256) ∧ Kept [g] w w' := by
  have HB := Lib.hid h
  clear h
  go_enter Try.func17, Try.ntmps17
  go_wp2
  go_loopw [3] (fun s3 wr => ∃ k : Nat, k ≤ 256 ∧ s3 = .int .i64 k ∧ Hid (Blk wr g 50 (sumV d m 0 k)) ∧ Hid (Kept [g] w wr)) (fun s3 _ => 256 - (intOf s3).toNat)
  case atStart => exact ⟨0, by omega, rfl, HB.out, Kept.refl _ _⟩
  case round =>
    clear HB
    obtain ⟨k, hk, rfl, HB, HK⟩ := hrel
    by_cases hc : k < 256
    · have hlt := HB.out.lt
      obtain ⟨v, hv⟩ := sumV_at d m 0 k k hc
      obtain ⟨q, hq⟩ : ∃ q, (crcWord k).toNat = q := ⟨_, rfl⟩
      have HQ := Lib.hid hq
      clear hq
      have hck := (HB.out.cell (4 + k)).trans hv
      have hzk := HB.out.frozen (4 + k)
      have hkc : (k : Int) < 256 := by omega
      have hkw : IntKind.u32.wrap (k : Int) = (k : Int) := by rw [IntKind.wrap_u32]; omega
      clear hv
      go_wp2
      go_still_tail 8, (by kernel_rfl)
      still_call (word_nat k q _ hc HQ.out)
      repeat still_step
      try refine wpStill_nil ?_
      change wpList _ _ _ _ _ wr.drew
      have HB1 := Lib.hid (Blk.drew HB.out)
      have HK1 := Lib.hid HK.out.drew
      have hck' := (HB1.out.cell (4 + k)).trans ((HB.out.cell (4 + k)).symm.trans hck)
      have hzk' := HB1.out.frozen (4 + k)
      clear HB HK hck hzk hlt
      generalize wr.drew = w2 at *
      go_wp2
      go_roundw
      case rel => exact ⟨k + 1, by omega, by go_num, by have := HB1.out.set (4 + k) (wordV k); rw [sumV_set, wordV, HQ.out] at this; exact this, HK1.out.setCell _ _ (.inl (by simp))⟩
      case measure => simp [intOf]; omega
    · have hk' : k = 256 := by omega
      subst hk'
      have c3 := HB.out.cell 3
      have z3 := HB.out.frozen 3
      go_wp2_with (fail)
      refine (s_store ⟨g, 3, none⟩ (.int .u32 0) wr c3 z3).mono ?_
      rintro e w' ⟨rfl, rfl⟩
      clear c3 z3
      go_wp2
      go_end0
      refine ⟨rfl, ?_, ?_⟩
      · have := (HB.out.drew).set 3 (.int .u32 1)
        exact this
      · exact (HK.out.drew).setCell _ _ (.inl (by simp))
end Go.Proofs.Ytaecaanepomkdaa
