/-
  VarintSizes holds: for every number the bytes are as many as there are sevens of bits that it needs, and all but the last go on.
-/
import Derived.Test.YtaadbnaofafgkaaRows
import Derived.Test.YtaadbnaofafgkaaVn
namespace Go.Proofs.Ytaadbnaofafgkaa
open Go.ChangeShapes Go.WideShapes Go.ChangeAt Go.RowKit

theorem vput_top : ∀ (n i : Nat), i < (vput n).length → (128 ≤ byteAt (vput n) i ↔ i + 1 < (vput n).length) := by
  intro n
  induction n using Nat.strongRecOn with
  | ind n ih =>
    intro i hi
    by_cases h : n < 128
    · rw [vput_small h] at hi ⊢
      simp at hi
      subst hi
      simp [byteAt]
      omega
    · rw [vput_big (by omega)] at hi ⊢
      cases i with
      | zero =>
        have := vput_pos (n / 128)
        simp [byteAt]
        omega
      | succ i =>
        have h1 := ih (n / 128) (by omega) i (by simpa using hi)
        have h2 : byteAt ((n % 128 + 128) :: vput (n / 128)) (i + 1) = byteAt (vput (n / 128)) i := by simp [byteAt]
        rw [h2, h1]
        simp

set_option maxRecDepth 100000 in
set_option maxHeartbeats 3200000 in
theorem sizes_walk (n : Nat) (w : World) (hn : n < 18446744073709551616) :
    Calls Try.prog 7 #[.int .u64 n] w fun e w' => e = .returned (.bool true) ∧ Below w.heap.size w w' := by
  obtain ⟨m, hm⟩ : ∃ m, (vput n).length = m := ⟨_, rfl⟩
  have hm10 : m ≤ 10 := by rw [← hm]; exact vput_len10 hn
  have HN := Lib.hid hn
  have HM := Lib.hid hm
  clear hn hm
  go_enter Try.func7, Try.ntmps7
  go_wp2_with (fail)
  refine (alive4 w).mono ?_
  rintro e w1 ⟨rfl, hb1⟩
  have B1 := Lib.hid hb1
  clear hb1
  go_wp2_with (fail)
  go_loop [3, 4] (fun s3 s4 => ∃ k q : Nat, s3 = .int .i64 k ∧ s4 = .int .u64 q ∧ k ≤ 10 ∧ Hid (q < 18446744073709551616) ∧ Hid (k + (vput q).length = m + 1)) (fun _ s4 => (intOf s4).toNat)
  case atStart => exact ⟨1, n, rfl, rfl, by omega, HN.out, by rw [HM.out]; unfold Hid; omega⟩
  case round =>
    obtain ⟨k, q, rfl, rfl, hk10, HQ, HE⟩ := hrel
    by_cases hc : 127 < q
    · obtain ⟨r, hr⟩ : ∃ r, q / 128 = r := ⟨_, rfl⟩
      have hquo : IntKind.u64.wrap ((q : Int) / 128) = (r : Int) := by
        have := HQ.out
        rw [IntKind.wrap_u64]
        omega
      have HR := Lib.hid hr
      have HE2 := Lib.hid (show k + 1 + (vput r).length = m + 1 from by
        have h1 := HE.out
        rw [vput_big (by omega), List.length_cons, hr] at h1
        omega)
      have hk : k ≤ 9 := by have := HE2.out; have := vput_pos r; omega
      clear hr
      go_wp2
      go_round
      case rel => exact ⟨k + 1, r, by go_num, rfl, by omega, by have := HQ.out; have := HR.out; unfold Hid; omega, HE2.out⟩
      case measure =>
        have := HR.out
        simp [intOf]
        omega
    · have hkm : k = m := by
        have h1 := HE.out
        rw [vput_small (by omega)] at h1
        simp at h1
        omega
      subst hkm
      clear HE
      go_wp2_with (fail)
      refine (put_any n w1 HN.out).mono ?_
      rintro e w2 ⟨v, rfl, ho, hb2⟩
      obtain ⟨a, c, rfl, hr, -⟩ := ho.reads (by rw [HM.out]; omega)
      rw [HM.out] at hr
      rw [HM.out]
      have B2 := Lib.hid (below_on B1.out hb2)
      have HR := Lib.hid hr
      clear ho hb2 hr
      go_wp2_with (fail)
      go_loop [6] (fun s6 => ∃ i : Nat, s6 = .int .i64 i ∧ i ≤ k) (fun s6 => k - (intOf s6).toNat)
      case atStart => exact ⟨0, rfl, by omega⟩
      case round =>
        obtain ⟨i, rfl, hi⟩ := hrel
        by_cases hc2 : i < k
        · rcases HR.out.cells with h0 | ⟨b, off, rfl, hlt, hcl⟩
          · omega
          have hcell := hcl i hc2
          have hlt2 := HR.out.at_lt i
          have htop := vput_top n i (by rw [HM.out]; exact hc2)
          rw [HM.out] at htop
          obtain ⟨p, hp⟩ : ∃ p, byteAt (vput n) i = p := ⟨_, rfl⟩
          rw [hp] at hcell hlt2 htop
          clear hcl hp
          by_cases hl : i + 1 < k
          · have hp := htop.2 hl
            have hd1 : decide ((127 : Int) < (p : Int)) = true := decide_eq_true (by omega)
            have hd2 : decide ((i : Int) < (k : Int) - 1) = true := decide_eq_true (by omega)
            clear htop
            go_wp2
            go_round
            case rel => exact ⟨i + 1, by go_num, by omega⟩
            case measure => simp [intOf]; omega
          · have hp : ¬ 128 ≤ p := fun h => hl (htop.1 h)
            have hd1 : decide ((127 : Int) < (p : Int)) = false := decide_eq_false (by omega)
            have hd2 : decide ((i : Int) < (k : Int) - 1) = false := decide_eq_false (by omega)
            clear htop
            go_wp2
            go_round
            case rel => exact ⟨i + 1, by go_num, by omega⟩
            case measure => simp [intOf]; omega
        · go_wp2
          go_ret
          exact ⟨rfl, B2.out⟩

theorem sizes_row : Rows.VarintSizesSaid :=
  OpenClaim.holds_of_wide 7 Try.f7 rfl rfl rfl rfl rfl rfl rfl ⟨rfl, rfl, rfl, rfl, rfl⟩ rfl rfl rfl rfl rfl (by kernel_rfl) Try.func7 (by kernel_rfl)
    (of_decide_eq_true (by kernel_rfl)) (by unfold Func.isWrapper; rw [if_neg (of_decide_eq_false (by kernel_rfl))]; exact ⟨rfl, rfl⟩)
    (fun os started H enc _ => lift (C := Try.checked) (s := Rows.varintSizesSpec) (conds := Rows.varintSizesRow.domain) os started H enc prog_own (by kernel_rfl) Try.func7 prog_laid rfl Try.underlying4 rfl
      (fun ds hl => by
        have hl : ds.length = 1 := hl
        match ds, hl with
        | [_], _ => rfl)
      (of_decide_eq_true (by kernel_rfl))
      (ChangeSpec.witness6 (enc := enc) (C := Try.checked) false ⟨#[], #[.int .u64 0], []⟩ 8 (by kernel_rfl) (by kernel_rfl) (by kernel_rfl) (by kernel_rfl))
      (fun W base args ds p g => by
        rw [Try.params7] at g
        obtain ⟨n, e0, h0⟩ := g.u64 0 rfl Try.underlying22
        rw [args1 g.count e0]
        exact sizes_walk n W h0))
end Go.Proofs.Ytaadbnaofafgkaa
