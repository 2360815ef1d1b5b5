/-
  VarintInts holds: for every whole number, it and its fellow on the other side of 0 have as many bytes, which differ in one bit of the first.
-/
import Derived.Test.YtaadbnaofafgkaaRows
import Derived.Test.YtaadbnaofafgkaaVn
import Derived.Test.YtaadbnaofafgkaaVt
import Derived.BigQuiet
namespace Go.Proofs.Ytaadbnaofafgkaa
open Go.ChangeShapes Go.WideShapes Go.ChangeAt Go.RowKit

theorem fold_pair (q : Nat) : vfold (q : Int) = 2 * q ∧ vfold (-(q : Int) - 1) = 2 * q + 1 := by
  unfold vfold
  rw [if_pos (by omega), if_neg (by omega)]
  omega
/-- The bytes of 2 q and of 2 q + 1. -/
theorem vput_pair (q : Nat) : ∃ f r, f % 2 = 0 ∧ f + 1 < 256 ∧ vput (2 * q) = f :: r ∧ vput (2 * q + 1) = (f + 1) :: r := by
  by_cases h : 2 * q < 128
  · exact ⟨2 * q, [], by omega, by omega, vput_small h, vput_small (by omega)⟩
  · refine ⟨2 * q % 128 + 128, vput (2 * q / 128), by omega, by omega, vput_big (by omega), ?_⟩
    rw [vput_big (by omega)]
    have e1 : (2 * q + 1) % 128 + 128 = 2 * q % 128 + 128 + 1 := by omega
    have e2 : (2 * q + 1) / 128 = 2 * q / 128 := by omega
    rw [e1, e2]

set_option maxRecDepth 100000 in
theorem xor_nat : ∀ a : Fin 128, ((2 * a.val) ^^^ (2 * a.val + 1)) = 1 := by decide
theorem xor_byte (f : Nat) (h0 : f % 2 = 0) (h : f + 1 < 256) : bits .xor .u8 (f : Int) ((f + 1 : Nat) : Int) = 1 := by
  rw [u8_xor_nat f (f + 1) (by omega) h]
  have := xor_nat ⟨f / 2, by omega⟩
  simp only at this
  rw [show 2 * (f / 2) = f by omega] at this
  rw [this]
  rfl

/-- What PutInt tells of a whole number: a slice of so many bytes that reads, now and later. -/
theorem putint_reads (n : Int) (bs : List Nat) (m : Nat) (w : World) (h0 : -9223372036854775808 ≤ n) (h1 : n ≤ 9223372036854775807) (hb : vput (vfold n) = bs) (hm : bs.length = m) :
    Calls Try.prog 13 #[.int .i64 n] w fun e w' => ∃ a c, e = .returned (.slice a m c) ∧ Hid (BReads w' a m c bs) ∧ Below w.heap.size w w' :=
  (putint_any n w h0 h1).mono fun e w' ⟨v, he, ho, hbel⟩ => by
    obtain ⟨a, c, rfl, hr, _⟩ := ho.reads (by have := vput_len10 (vfold_lt h0 h1); omega)
    rw [hb, hm] at he hr
    exact ⟨a, c, he, hr, hbel⟩

set_option maxRecDepth 100000 in
set_option maxHeartbeats 3200000 in
theorem ints_walk (n : Int) (w : World) (h0 : -9223372036854775808 ≤ n) (h1 : n ≤ 9223372036854775807) :
    Calls Try.prog 8 #[.int .i64 n] w fun e w' => e = .returned (.bool true) ∧ Below w.heap.size w w' := by
  obtain ⟨q, hq0, hq⟩ : ∃ q : Nat, (q : Int) ≤ 9223372036854775807 ∧ (n = (q : Int) ∨ n = -(q : Int) - 1) := ⟨if 0 ≤ n then n.toNat else (-n - 1).toNat, by split <;> omega, by split <;> omega⟩
  obtain ⟨f, r, hf0, hf1, hv0, hv1⟩ := vput_pair q
  obtain ⟨g, hg⟩ : ∃ g, f + 1 = g := ⟨_, rfl⟩
  obtain ⟨m, hm⟩ : ∃ m, (f :: r).length = m := ⟨_, rfl⟩
  have hfp := fold_pair q
  have hm0 : 1 ≤ m := by rw [← hm]; simp
  have hm10 : m ≤ 10 := by rw [← hm, ← hv0]; exact vput_len10 (by omega)
  have hxor := xor_byte f hf0 hf1
  rw [hg] at hxor hf1 hv1
  have P1 := Lib.hid (fun w => putint_reads (q : Int) (f :: r) m w (by omega) hq0 (by rw [hfp.1]; exact hv0) hm)
  have P2 := Lib.hid (fun w => putint_reads (-(q : Int) - 1) (g :: r) m w (by omega) (by omega) (by rw [hfp.2]; exact hv1) (by rw [← hm]; simp))
  have a1 : IntKind.i64.wrap (-(q : Int) - 1 + 1) = -(q : Int) := by rw [IntKind.wrap_i64]; omega
  have a2 : IntKind.i64.wrap (-(-(q : Int))) = (q : Int) := by rw [IntKind.wrap_i64]; omega
  clear h0 h1 hf0 hv0 hv1 hg hm hfp
  rcases hq with rfl | rfl
  all_goals
    go_enter Try.func8, Try.ntmps8
    go_wp2_with (fail)
    refine (alive4 w).mono ?_
    rintro e w1 ⟨rfl, hb1⟩
    have B1 := Lib.hid hb1
    clear hb1
    go_wp2_with (fail)
    refine (P1.out w1).mono ?_
    rintro e w2 ⟨a, c, rfl, HR2, hb2⟩
    have B2 := Lib.hid (below_on B1.out hb2)
    clear hb2
    go_wp2_with (fail)
    refine (P2.out w2).mono ?_
    rintro e w3 ⟨a', c', rfl, HR3, hb3⟩
    have B3 := Lib.hid (below_on B2.out hb3)
    have HR2' := Lib.hid (HR2.out.on hb3)
    clear hb3 P1 P2 HR2
    rcases HR2'.out.cells with h0 | ⟨b, off, rfl, hlt, hcl⟩
    · omega
    rcases HR3.out.cells with h0 | ⟨b', off', rfl, hlt', hcl'⟩
    · omega
    have hca : w3.cell? ⟨b, off, none⟩ = some (.int .u8 (f : Int)) := hcl 0 (by omega)
    have hcb : w3.cell? ⟨b', off', none⟩ = some (.int .u8 (g : Int)) := hcl' 0 (by omega)
    obtain ⟨x, hx1, hx2⟩ := cut_bytes (P := Try.prog) 24 5 Try.underlying24 (by kernel_rfl) byte_info (some ⟨b, off, none⟩) m c 1 1 rfl hm0
    obtain ⟨y, hy1, hy2⟩ := cut_bytes (P := Try.prog) 24 5 Try.underlying24 (by kernel_rfl) byte_info (some ⟨b', off', none⟩) m c' 1 1 rfl hm0
    have kx := fun k => (hx2 _ _ (HR2'.out.on (below_draws (Below.refl _ _) k))).str (P := Try.prog) 24 5 Try.underlying24 Try.underlying5 9 Try.underlying9
    have ky := fun k => (hy2 _ _ (HR3.out.on (below_draws (Below.refl _ _) k))).str (P := Try.prog) 24 5 Try.underlying24 Try.underlying5 9 Try.underlying9
    obtain ⟨s, hs⟩ : ∃ s, strOfB r = s := ⟨_, rfl⟩
    simp only [List.drop_succ_cons, List.drop_zero, hs] at kx ky
    obtain ⟨m1, hm1⟩ : ∃ m1, m - 1 = m1 := ⟨_, rfl⟩
    obtain ⟨d, hd⟩ : ∃ d, c - 1 = d := ⟨_, rfl⟩
    obtain ⟨d', hd'⟩ : ∃ d', c' - 1 = d' := ⟨_, rfl⟩
    rw [hm1, hd] at hx1 kx
    rw [hm1, hd'] at hy1 ky
    clear hcl hcl' hx2 hy2 hs hm1 hd hd' a1 a2
    go_wp2_with (fail)
    go_quiet (fail)
    go_wp2
    go_ret
    exact ⟨rfl, below_draws B3.out _⟩

theorem ints_row : Rows.VarintIntsSaid :=
  OpenClaim.holds_of_wide 8 Try.f8 rfl rfl rfl rfl rfl rfl rfl ⟨rfl, rfl, rfl, rfl, rfl⟩ rfl rfl rfl rfl rfl (by kernel_rfl) Try.func8 (by kernel_rfl)
    (of_decide_eq_true (by kernel_rfl)) (by unfold Func.isWrapper; rw [if_neg (of_decide_eq_false (by kernel_rfl))]; exact ⟨rfl, rfl⟩)
    (fun os started H enc _ => lift (C := Try.checked) (s := Rows.varintIntsSpec) (conds := Rows.varintIntsRow.domain) os started H enc prog_own (by kernel_rfl) Try.func8 prog_laid rfl Try.underlying4 rfl
      (fun ds hl => by
        have hl : ds.length = 1 := hl
        match ds, hl with
        | [_], _ => rfl)
      (of_decide_eq_true (by kernel_rfl))
      (ChangeSpec.witness6 (enc := enc) (C := Try.checked) false ⟨#[], #[.int .i64 0], []⟩ 8 (by kernel_rfl) (by kernel_rfl) (by kernel_rfl) (by kernel_rfl))
      (fun W base args ds p g => by
        rw [Try.params8] at g
        obtain ⟨n, e0, h0, h1⟩ := g.i64 0 rfl Try.underlying2
        rw [args1 g.count e0]
        exact ints_walk n W h0 h1))
end Go.Proofs.Ytaadbnaofafgkaa
