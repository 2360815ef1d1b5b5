/-
  VarintPuts holds: for every number the program's bytes and the document's are the same, as a number and as a whole one.
-/
import Derived.Test.YtaadbnaofafgkaaRows
import Derived.Test.YtaadbnaofafgkaaVn
namespace Go.Proofs.Ytaadbnaofafgkaa
open Go.ChangeShapes Go.WideShapes Go.ChangeAt Go.RowKit

set_option maxRecDepth 100000 in
set_option maxHeartbeats 6400000 in
theorem puts_walk (n : Nat) (w : World) (hn : n < 18446744073709551616) :
    Calls Try.prog 3 #[.int .u64 n] w fun e w' => e = .returned (.bool true) ∧ Below w.heap.size w w' := by
  obtain ⟨s, hs⟩ : ∃ s, strOfB (vput n) = s := ⟨_, rfl⟩
  obtain ⟨m, hm⟩ : ∃ m, IntKind.i64.wrap (n : Int) = m := ⟨_, rfl⟩
  have hmb := wrap_bounds n
  rw [hm] at hmb
  obtain ⟨z, hz⟩ : ∃ z, strOfB (vput (vfold m)) = z := ⟨_, rfl⟩
  have P1 := Lib.hid (fun w => (put_any n w hn).mono fun e w' h => h.strs (vput_len10 hn) hs)
  have P2 := Lib.hid (fun w => (rput_any n w hn).mono fun e w' h => h.strs (vput_len10 hn) hs)
  have P3 := Lib.hid (fun w => (putint_any m w hmb.1 hmb.2).mono fun e w' h => h.strs (vput_len10 (vfold_lt hmb.1 hmb.2)) hz)
  have P4 := Lib.hid (fun w => (rputint_any m w hmb.1 hmb.2).mono fun e w' h => h.strs (vput_len10 (vfold_lt hmb.1 hmb.2)) hz)
  clear hn hs hz hmb
  go_enter Try.func3, Try.ntmps3
  go_wp2
  go_region_with (first
    | (go_at_call 10; refine (alive4 _).mono ?_; rintro e w1 ⟨rfl, hb1⟩; have B1 := Lib.hid hb1; clear hb1)
    | (go_at_call 11; refine (P1.out _).mono ?_; rintro e w2 ⟨v2, rfl, k2, K2, hb2⟩; have B2 := Lib.hid hb2; clear hb2)
    | (go_at_call 12; refine (P2.out _).mono ?_; rintro e w3 ⟨v3, rfl, k3, K3, hb3⟩; have k23 := K2.out w3 hb3; have B3 := Lib.hid hb3; clear hb3)
    | (go_at_call 13; refine (P3.out _).mono ?_; rintro e w4 ⟨v4, rfl, k4, K4, hb4⟩; have B4 := Lib.hid hb4; clear hb4)
    | (go_at_call 14; refine (P4.out _).mono ?_; rintro e w5 ⟨v5, rfl, k5, K5, hb5⟩; have k45 := K4.out w5 hb5; have B5 := Lib.hid hb5; clear hb5))
  all_goals
    clear P1 P2 P3 P4 hm
    go_wp2
    go_ret
    exact ⟨rfl, below_on (below_on (below_on (below_on ((Below.refl _ _).drew.trans B1.out) B2.out) B3.out) B4.out) B5.out⟩

theorem puts_row : Rows.VarintPutsSaid :=
  OpenClaim.holds_of_wide 3 Try.f3 rfl rfl rfl rfl rfl rfl rfl ⟨rfl, rfl, rfl, rfl, rfl⟩ rfl rfl rfl rfl rfl (by kernel_rfl) Try.func3 (by kernel_rfl)
    (of_decide_eq_true (by kernel_rfl)) (by unfold Func.isWrapper; rw [if_neg (of_decide_eq_false (by kernel_rfl))]; exact ⟨rfl, rfl⟩)
    (fun os started H enc _ => lift (C := Try.checked) (s := Rows.varintPutsSpec) (conds := Rows.varintPutsRow.domain) os started H enc prog_own (by kernel_rfl) Try.func3 prog_laid rfl Try.underlying4 rfl
      (fun ds hl => by
        have hl : ds.length = 1 := hl
        match ds, hl with
        | [_], _ => rfl)
      (of_decide_eq_true (by kernel_rfl))
      (ChangeSpec.witness6 (enc := enc) (C := Try.checked) false ⟨#[], #[.int .u64 0], []⟩ 8 (by kernel_rfl) (by kernel_rfl) (by kernel_rfl) (by kernel_rfl))
      (fun W base args ds p g => by
        rw [Try.params3] at g
        obtain ⟨n, e0, h0⟩ := g.u64 0 rfl Try.underlying22
        rw [args1 g.count e0]
        exact puts_walk n W h0))
end Go.Proofs.Ytaadbnaofafgkaa
