/-
  The program's Get of a number, by a walk over its text.
-/
import Derived.Test.YtdlpifcfgfhagaaVc
import Derived.Laws.BitsAllLaws
namespace Go.Proofs.Ytdlpifcfgfhagaa
open Go.RowKit

set_option maxRecDepth 100000 in
theorem and128_nat : ∀ a : Fin 256, (a.val &&& 128) = if 128 ≤ a.val then 128 else 0 := by decide
theorem and128 (p : Nat) (h : p < 256) : bits .and .u8 (p : Int) 128 = if 128 ≤ p then 128 else 0 := by
  have h1 := (bits_nat .u8 8 (by decide) wraps_u8 p 128 (by simpa using h) (by decide)).1
  have h2 := and128_nat ⟨p, h⟩
  simp only at h2
  rw [h2] at h1
  refine h1.trans ?_
  split <;> rfl
theorem and128_on (p : Nat) (h : p < 256) (hp : 128 ≤ p) : (bits .and .u8 (p : Int) 128 != 0) = true := by
  rw [and128 p h, if_pos hp]; rfl
theorem and128_off (p : Nat) (hp : p < 128) : (bits .and .u8 (p : Int) 128 != 0) = false := by
  rw [and128 p (by omega), if_neg (by omega)]; rfl
theorem andNot128 (p : Nat) (h : p < 256) : bits .andNot .u8 (p : Int) 128 = ((p % 128 : Nat) : Int) := by
  have h1 := u8_andNot_nat p 128 h (by decide)
  refine h1.trans ?_
  rw [show 255 - 128 = 2 ^ 7 - 1 by decide, Nat.and_two_pow_sub_one_eq_mod]
theorem pow7 (k : Nat) : (2 : Nat) ^ (7 * k) = 128 ^ k := by rw [Nat.pow_mul]
theorem or_step (A p k : Nat) (hp : p < 256) (hk : k ≤ 9) (hA : A < 128 ^ k) (h9 : k = 9 → p ≤ 1) :
    bits .or .u64 (A : Int) (IntKind.u64.wrap (IntKind.u64.wrap (bits .andNot .u8 (p : Int) 128) * 2 ^ (7 * k))) = ((A + p % 128 * 128 ^ k : Nat) : Int) := by
  have hq : p % 128 < 128 := Nat.mod_lt _ (by decide)
  have hlt : (p % 128) * 128 ^ k < 18446744073709551616 := by
    rcases Nat.lt_or_ge k 9 with h | h
    · have h1 : (128 : Nat) ^ (k + 1) ≤ 128 ^ 9 := Nat.pow_le_pow_right (by decide) (by omega)
      have h2 : (p % 128) * 128 ^ k ≤ 127 * 128 ^ k := Nat.mul_le_mul_right _ (by omega)
      rw [Nat.pow_succ, show (128 : Nat) ^ 9 = 9223372036854775808 by decide] at h1
      omega
    · have : k = 9 := by omega
      subst this
      rw [show (128 : Nat) ^ 9 = 9223372036854775808 by decide]
      have := h9 rfl
      omega
  have hA64 : A < 18446744073709551616 := by
    have h1 : (128 : Nat) ^ k ≤ 128 ^ 9 := Nat.pow_le_pow_right (by decide) hk
    rw [show (128 : Nat) ^ 9 = 9223372036854775808 by decide] at h1
    omega
  have e1 : IntKind.u64.wrap (bits .andNot .u8 (p : Int) 128) = ((p % 128 : Nat) : Int) := by
    rw [andNot128 p hp, IntKind.wrap_u64]
    omega
  have e2 : ((p % 128 : Nat) : Int) * 2 ^ (7 * k) = ((p % 128 * 128 ^ k : Nat) : Int) := by
    rw [← pow7]
    simp
  have e3 : IntKind.u64.wrap ((p % 128 * 128 ^ k : Nat) : Int) = ((p % 128 * 128 ^ k : Nat) : Int) := by
    rw [IntKind.wrap_u64]
    omega
  rw [e1, e2, e3]
  have c1 : ((2 : Int) ^ (7 * k)) = ((128 ^ k : Nat) : Int) := by rw [← pow7]; simp
  have c2 : ((2 : Int) ^ 64) = 18446744073709551616 := by decide
  have h5 : (p % 128 * 128 ^ k) % 128 ^ k = 0 := Nat.mul_mod_left _ _
  rw [bits_join_low .u64 64 (by decide) wraps_u64 (7 * k) _ _ (by omega) (by rw [c1]; omega) (by rw [c2]; omega) (by omega) (by rw [c1]; omega) (by rw [c2]; omega)]
  omega

set_option maxRecDepth 100000 in
set_option maxHeartbeats 3200000 in
theorem get_any (a : Option Addr) (n c : Nat) (bs : List Nat) (w : World) (h : BReads w a n c bs) :
    Calls Try.prog 68 #[.slice a n c] w fun e w' => e = .returned (gotV (vget 0 0 bs)) ∧ w = w' := by
  have HS := Lib.hid h.small
  have HC := Lib.hid h.cells
  have HL := Lib.hid h.len
  have HA := Lib.hid h.at_lt
  clear h
  have hsm : n ≤ 140737488355328 := HS.out
  go_enter Try.func68, Try.ntmps68
  go_wp2
  go_loop [5, 10] (fun s5 s10 => ∃ k A : Nat, k ≤ n ∧ k ≤ 9 ∧ s10 = .int .i64 k ∧ s5 = .int .u64 A ∧ Hid (A < 128 ^ k) ∧ Hid (vget 0 0 bs = vget k A (bs.drop k))) (fun _ s10 => n - (intOf s10).toNat)
  case atStart => exact ⟨0, 0, Nat.zero_le _, by omega, rfl, rfl, by simp [Hid], rfl⟩
  case round =>
    obtain ⟨k, A, hk, hk9, rfl, rfl, HA1, HE⟩ := hrel
    by_cases hc : k < n
    · rcases HC.out with h0 | ⟨b, off, rfl, hlt, hcl⟩
      · omega
      obtain ⟨p, hp⟩ : ∃ p, byteAt bs k = p := ⟨_, rfl⟩
      have hcell := hcl k hc
      have hp256 := HA.out k
      rw [hp] at hcell hp256
      have HP := Lib.hid hp
      clear hcl hp
      have HD := Lib.hid (show vget 0 0 bs = vget k A (p :: bs.drop (k + 1)) from by rw [HE.out, drop_at bs k (by rw [HL.out]; exact hc), HP.out])
      by_cases h9 : k = 9
      · subst h9
        by_cases hp1 : 1 < p
        · have HV := Lib.hid (show vget 0 0 bs = (0, 0, 41) from by rw [HD.out, vget, if_pos ⟨rfl, hp1⟩])
          go_wp2
          go_ret3
          exact ⟨by rw [HV.out]; rfl, rfl⟩
        · have hp01 : p = 0 ∨ p = 1 := by omega
          rcases hp01 with rfl | rfl
          · have HV := Lib.hid (show vget 0 0 bs = (0, 0, 41) from by rw [HD.out]; simp [vget])
            have hand : (bits .and .u8 0 128 != 0) = false := and128_off 0 (by decide)
            go_wp2
            go_ret3
            exact ⟨by rw [HV.out]; rfl, rfl⟩
          · have HV := Lib.hid (show vget 0 0 bs = (A + 1 % 128 * 128 ^ 9, 10, 0) from by rw [HD.out]; simp [vget])
            have hand : (bits .and .u8 1 128 != 0) = false := and128_off 1 (by decide)
            have hor : bits .or .u64 (A : Int) (IntKind.u64.wrap (IntKind.u64.wrap (bits .andNot .u8 1 128) * 9223372036854775808)) = ((A + 1 % 128 * 128 ^ 9 : Nat) : Int) := or_step A 1 9 (by decide) (by decide) HA1.out (by decide)
            obtain ⟨A', hA'⟩ : ∃ A', A + 1 % 128 * 128 ^ 9 = A' := ⟨_, rfl⟩
            rw [hA'] at hor
            have HA' := Lib.hid hA'
            clear hA'
            go_wp2
            go_ret3
            exact ⟨by rw [HV.out, HA'.out]; rfl, rfl⟩
      · have hor := or_step A p k hp256 hk9 HA1.out (fun e => absurd e h9)
        obtain ⟨A', hA'⟩ : ∃ A', A + p % 128 * 128 ^ k = A' := ⟨_, rfl⟩
        rw [hA'] at hor
        have HA' := Lib.hid hA'
        clear hA'
        by_cases hp1 : 128 ≤ p
        · have hand := and128_on p hp256 hp1
          go_wp2
          go_round
          case rel => exact ⟨k + 1, A', by omega, by omega, by go_num, rfl, by
            have h1 := HA1.out
            have h2 : p % 128 * 128 ^ k ≤ 127 * 128 ^ k := Nat.mul_le_mul_right _ (by omega)
            unfold Hid
            rw [← HA'.out, Nat.pow_succ]
            omega, by rw [HD.out, vget, if_neg (by omega), if_pos hp1, HA'.out]; rfl⟩
          case measure => simp [intOf]; omega
        · have hand := and128_off p (by omega)
          have hpm : p % 128 = p := by omega
          have HM := Lib.hid hpm
          clear hpm
          by_cases hz : p = 0 ∧ 0 < k
          · obtain ⟨rfl, hk0⟩ := hz
            have HV := Lib.hid (show vget 0 0 bs = (0, 0, 41) from by rw [HD.out, vget, if_neg (by omega), if_neg (by omega), if_pos ⟨rfl, hk0⟩])
            go_wp2
            go_ret3
            exact ⟨by rw [HV.out]; rfl, rfl⟩
          · have HV := Lib.hid (show vget 0 0 bs = (A', k + 1, 0) from by rw [HD.out, vget, if_neg (by omega), if_neg (by omega), if_neg hz, ← HA'.out, HM.out])
            by_cases hp0 : p = 0
            · subst hp0
              have hk0 : ¬ 0 < k := by omega
              have hcell' : w.cell? ⟨b, off + k, none⟩ = some (.int .u8 0) := hcell
              have hand' : (bits .and .u8 0 128 != 0) = false := hand
              have hor' : bits .or .u64 (A : Int) (IntKind.u64.wrap (IntKind.u64.wrap (bits .andNot .u8 0 128) * 2 ^ (7 * k))) = (A' : Int) := hor
              clear hz hcell hand hor
              go_wp2
              go_ret3
              exact ⟨by rw [HV.out]; rfl, rfl⟩
            · go_wp2
              go_ret3
              exact ⟨by rw [HV.out]; rfl, rfl⟩
    · have HV := Lib.hid (show vget 0 0 bs = (0, 0, 40) from by rw [HE.out, List.drop_eq_nil_of_le (by rw [HL.out]; omega), vget])
      go_wp2
      go_ret3
      exact ⟨by rw [HV.out]; rfl, rfl⟩
end Go.Proofs.Ytdlpifcfgfhagaa
