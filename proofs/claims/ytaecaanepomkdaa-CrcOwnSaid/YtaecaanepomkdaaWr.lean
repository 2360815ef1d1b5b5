/-
  The document's sum, by a walk over its text: bit by bit.
-/
import Derived.Test.YtaecaanepomkdaaRows
import Derived.Test.YtaecaanepomkdaaVs
import Derived.Test.YtaecaanepomkdaaWm
import Derived.Laws.BitsAllLaws
namespace Go.Proofs.Ytaecaanepomkdaa
open Go.RowKit

theorem xor_u32 (x y : BitVec 32) : bits .xor .u32 (x.toNat : Int) (y.toNat : Int) = ((x ^^^ y).toNat : Int) := by
  rw [u32_xor_nat _ _ x.isLt y.isLt, BitVec.toNat_xor]
theorem not_u32 (x : BitVec 32) : bits .xor .u32 (x.toNat : Int) 4294967295 = ((~~~x).toNat : Int) := by
  have h := xor_u32 x (BitVec.allOnes 32)
  rw [show ((BitVec.allOnes 32).toNat : Int) = 4294967295 by decide] at h
  rw [h, BitVec.xor_allOnes]
theorem and1_u32 (x : BitVec 32) : bits .and .u32 (x.toNat : Int) 1 = if x.getLsbD 0 then 1 else 0 := by
  have h := u32_and_nat x.toNat 1 x.isLt (by decide)
  refine h.trans ?_
  have e : x.getLsbD 0 = x.toNat.testBit 0 := by rw [BitVec.testBit_toNat]
  rw [e, Nat.testBit_zero, Nat.and_one_is_mod]
  by_cases h1 : x.toNat % 2 = 1
  · simp [h1]
  · have : x.toNat % 2 = 0 := by omega
    simp [this]
theorem shr1_u32 (x : BitVec 32) : (x.toNat : Int) / (2 : Int) = ((x >>> 1).toNat : Int) := by
  rw [BitVec.toNat_ushiftRight, Nat.shiftRight_eq_div_pow]
  omega
theorem xorP_u32 (x : BitVec 32) : bits .xor .u32 (x.toNat : Int) 3988292384 = ((x ^^^ crcP).toNat : Int) := by
  have h := xor_u32 x crcP
  rw [show (crcP.toNat : Int) = 3988292384 by decide] at h
  exact h
theorem xor_byte32 (x : BitVec 32) (b : Nat) (hb : b < 256) : bits .xor .u32 (x.toNat : Int) (b : Int) = ((x ^^^ BitVec.ofNat 32 b).toNat : Int) := by
  have h := xor_u32 x (BitVec.ofNat 32 b)
  rw [show ((BitVec.ofNat 32 b).toNat : Int) = (b : Int) by simp; omega] at h
  exact h
theorem bdrop_at (bs : List Nat) (k : Nat) (h : k < bs.length) : bs.drop k = byteAt bs k :: bs.drop (k + 1) := by
  rw [List.drop_eq_getElem_cons h]
  simp [byteAt, List.getD, h]
theorem btake_at (bs : List Nat) (k : Nat) (h : k < bs.length) : bs.take (k + 1) = bs.take k ++ [byteAt bs k] := by
  rw [List.take_succ_eq_append_getElem h]
  simp [byteAt, List.getD, h]

set_option maxRecDepth 100000 in
set_option maxHeartbeats 3200000 in
theorem rmore_any (a : Option Addr) (n c : Nat) (bs : List Nat) (x : BitVec 32) (w : World) (h : BReads w a n c bs) :
    Calls Try.prog 14 #[.int .u32 (x.toNat : Int), .slice a n c] w fun e w' => e = .returned (.int .u32 ((crcMore x bs).toNat : Int)) ∧ w = w' := by
  have HC := Lib.hid h.cells
  have HL := Lib.hid h.len
  have HA := Lib.hid h.at_lt
  have hsm := h.small
  clear h
  obtain ⟨m0, hm0⟩ : ∃ m0, x.toNat = m0 := ⟨_, rfl⟩
  obtain ⟨m1, hm1⟩ : ∃ m1, (~~~x).toNat = m1 := ⟨_, rfl⟩
  have hnot := not_u32 x
  rw [hm0, hm1] at hnot
  have HM1 := Lib.hid hm1
  rw [hm0]
  clear hm0 hm1
  go_enter Try.func14, Try.ntmps14
  go_wp2
  clear hnot
  go_loop [0, 5] (fun s0 s5 => ∃ (k m : Nat) (z : BitVec 32), k ≤ n ∧ s5 = .int .i64 k ∧ s0 = .int .u32 m ∧ Hid (z.toNat = m) ∧ Hid (crcs (~~~ x) (bs.take k) = z)) (fun _ s5 => n - (intOf s5).toNat)
  case atStart => exact ⟨0, m1, _, Nat.zero_le _, rfl, rfl, HM1.out, by simp [Hid, crcs]⟩
  case round =>
    obtain ⟨k, m, z, hk, rfl, rfl, HZ, HE⟩ := hrel
    by_cases hc : k < n
    · rcases HC.out with h0 | ⟨b, off, rfl, hlt, hcl⟩
      · omega
      obtain ⟨p, hp⟩ : ∃ p, byteAt bs k = p := ⟨_, rfl⟩
      have hcell := hcl k hc
      have hp256 := HA.out k
      rw [hp] at hcell hp256
      obtain ⟨m2, hm2⟩ : ∃ m2, (z ^^^ BitVec.ofNat 32 p).toNat = m2 := ⟨_, rfl⟩
      have hxb := xor_byte32 z p hp256
      rw [HZ.out, hm2] at hxb
      have HM2 := Lib.hid hm2
      have HT := Lib.hid (show crcs (~~~ x) (bs.take (k + 1)) = halves 8 (z ^^^ BitVec.ofNat 32 p) from by
        rw [btake_at bs k (by rw [HL.out]; exact hc), crcs_snoc, HE.out, hp, stepB])
      clear hcl hp hm2
      go_wp2
      clear hxb
      go_loop [0, 6, 7] (fun s0 s6 s7 => ∃ (j m : Nat) (y : BitVec 32), j ≤ 8 ∧ s6 = .int .i64 j ∧ s0 = .int .u32 m ∧ Hid (y.toNat = m) ∧ Hid (crcs (~~~ x) (bs.take (k + 1)) = halves (8 - j) y)) (fun _ s6 _ => 8 - (intOf s6).toNat)
      case atStart => exact ⟨0, m2, _, by omega, rfl, rfl, HM2.out, HT.out⟩
      case round =>
        clear HM2 HT
        obtain ⟨j, m, y, hj, rfl, rfl, HY, HT⟩ := hrel
        by_cases hj8 : j < 8
        · obtain ⟨s, hs⟩ : ∃ s, (y >>> 1).toNat = s := ⟨_, rfl⟩
          have hshr := shr1_u32 y
          have hand := and1_u32 y
          have hxp := xorP_u32 (y >>> 1)
          rw [HY.out] at hshr hand
          rw [hs] at hshr hxp
          have HH := Lib.hid (show crcs (~~~ x) (bs.take (k + 1)) = halves (8 - (j + 1)) (half y) from by
            rw [HT.out, show 8 - j = 8 - (j + 1) + 1 by omega, halves])
          have HS := Lib.hid hs
          cases hb : y.getLsbD 0
          · have HF := Lib.hid (show half y = y >>> 1 from half_even hb)
            rw [hb] at hand
            simp only [Bool.false_eq_true, if_false] at hand
            clear hb hs hxp
            go_wp2
            go_round
            case rel => exact ⟨j + 1, s, y >>> 1, by omega, by go_num, rfl, HS.out, by rw [HH.out, HF.out]; exact rfl⟩
            case measure => simp [intOf]; omega
          · have HF := Lib.hid (show half y = (y >>> 1) ^^^ crcP from by unfold half; rw [hb]; simp only [if_true])
            rw [hb] at hand
            simp only [if_true] at hand
            obtain ⟨s', hs'⟩ : ∃ s', ((y >>> 1) ^^^ crcP).toNat = s' := ⟨_, rfl⟩
            rw [hs'] at hxp
            have HS' := Lib.hid hs'
            clear hb hs hs'
            go_wp2
            go_round
            case rel => exact ⟨j + 1, s', (y >>> 1) ^^^ crcP, by omega, by go_num, rfl, HS'.out, by rw [HH.out, HF.out]; exact rfl⟩
            case measure => simp [intOf]; omega
        · have hj' : j = 8 := by omega
          subst hj'
          go_wp2
          go_round
          case rel => exact ⟨k + 1, m, y, by omega, by go_num, rfl, HY.out, by rw [HT.out]; rfl⟩
          case measure => simp [intOf]; omega
    · obtain ⟨m3, hm3⟩ : ∃ m3, (~~~z).toNat = m3 := ⟨_, rfl⟩
      have hn3 := not_u32 z
      rw [HZ.out, hm3] at hn3
      have HR := Lib.hid (show (crcMore x bs).toNat = m3 from by
        have e := HE.out
        rw [List.take_of_length_le (by rw [HL.out]; omega)] at e
        rw [crcMore, e, hm3])
      clear hm3
      go_wp2
      go_ret
      exact ⟨by rw [HR.out]; rfl, rfl⟩

theorem rof_any (a : Option Addr) (n c : Nat) (bs : List Nat) (w : World) (h : BReads w a n c bs) :
    Calls Try.prog 12 #[.slice a n c] w fun e w' => e = .returned (.int .u32 ((crcMore 0#32 bs).toNat : Int)) ∧ w = w' := by
  have HR := Lib.hid h
  clear h
  obtain ⟨m, hm⟩ : ∃ m, (crcMore 0#32 bs).toNat = m := ⟨_, rfl⟩
  have key : ∀ w, BReads w a n c bs → Calls Try.prog 14 #[.int .u32 0, .slice a n c] w fun e w' => e = .returned (.int .u32 (m : Int)) ∧ w = w' := fun w h => by
    have := rmore_any a n c bs 0#32 w h
    rw [hm] at this
    exact this
  have HK := Lib.hid key
  rw [hm]
  clear key hm
  go_enter Try.func12, Try.ntmps12
  go_wp2_with (fail)
  refine (HK.out w HR.out).mono ?_
  rintro e w' ⟨rfl, rfl⟩
  go_wp2
  go_ret
  exact ⟨rfl, rfl⟩
end Go.Proofs.Ytaecaanepomkdaa
