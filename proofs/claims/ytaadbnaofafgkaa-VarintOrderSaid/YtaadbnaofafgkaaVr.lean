/-
  VarintOrder holds: of any two numbers the greater one has no fewer bytes, unlike ones have unlike bytes, and ten at most.
-/
import Derived.Test.YtaadbnaofafgkaaRows
import Derived.Test.YtaadbnaofafgkaaVn
namespace Go.Proofs.Ytaadbnaofafgkaa
open Go.ChangeShapes Go.WideShapes Go.ChangeAt Go.RowKit

/-- What is told has so many bytes, and can be made a string of, now and later. -/
def Sized (n : Nat) (s : ByteArray) (w : World) (e : Ending) (w' : World) : Prop :=
  ∃ a c, e = .returned (.slice a n c) ∧ (convert 24 9 (.slice a n c)).run Try.prog w' = .ok (.string s) w' ∧ Hid (∀ w'', Below w'.heap.size w' w'' → (convert 24 9 (.slice a n c)).run Try.prog w'' = .ok (.string s) w'') ∧ Below w.heap.size w w'
theorem PutsV.sized {bs : List Nat} {n : Nat} {s : ByteArray} {w w' : World} {e : Ending} (h : PutsV bs w e w') (hl : bs.length ≤ 10) (hn : bs.length = n) (hs : strOfB bs = s) : Sized n s w e w' := by
  obtain ⟨v, he, k, K, hb⟩ := h.strs hl hs
  obtain ⟨v', he', ho, _⟩ := h
  rw [he] at he'
  obtain rfl : v = v' := by injection he'
  obtain ⟨a, c, rfl, _⟩ := ho.reads (by omega)
  rw [hn] at he k K
  exact ⟨a, c, he, k, K, hb⟩

set_option maxRecDepth 100000 in
set_option maxHeartbeats 3200000 in
theorem order_walk (x y : Nat) (w : World) (hx : x < 18446744073709551616) (hy : y < 18446744073709551616) :
    Calls Try.prog 6 #[.int .u64 x, .int .u64 y] w fun e w' => e = .returned (.bool true) ∧ Below w.heap.size w w' := by
  obtain ⟨s, hs⟩ : ∃ s, strOfB (vput x) = s := ⟨_, rfl⟩
  obtain ⟨z, hz⟩ : ∃ z, strOfB (vput y) = z := ⟨_, rfl⟩
  obtain ⟨m, hm⟩ : ∃ m, (vput x).length = m := ⟨_, rfl⟩
  obtain ⟨k, hk⟩ : ∃ k, (vput y).length = k := ⟨_, rfl⟩
  have hm10 : m ≤ 10 := by rw [← hm]; exact vput_len10 hx
  have P1 := Lib.hid (fun w => (put_any x w hx).mono fun e w' h => h.sized (vput_len10 hx) hm hs)
  have P2 := Lib.hid (fun w => (put_any y w hy).mono fun e w' h => h.sized (vput_len10 hy) hk hz)
  have HM := Lib.hid (fun h : x ≤ y => show m ≤ k by rw [← hm, ← hk]; exact vput_mono x y h)
  have HQ := Lib.hid (fun h : x ≠ y => show (s.toList == z.toList) = false by rw [← hs, ← hz, strOfB_beq (vput_byte x) (vput_byte y)]; exact decide_eq_false fun e => h (vput_inj x y e))
  have HQ2 := Lib.hid (fun h : x = y => show s = z by rw [← hs, ← hz, h])
  clear hx hy hs hz hm hk
  by_cases he : x = y
  · have hsz := HQ2.out he
    subst he
    subst hsz
    have hmk := HM.out (Nat.le_refl _)
    go_enter Try.func6, Try.ntmps6
    go_wp2_with (fail)
    refine (alive4 w).mono ?_
    rintro e w1 ⟨rfl, hb1⟩
    have B1 := Lib.hid hb1
    clear hb1
    go_wp2_with (fail)
    refine (P1.out w1).mono ?_
    rintro e w2 ⟨a2, c2, rfl, k2, K2, hb2⟩
    have B2 := Lib.hid (below_on B1.out hb2)
    clear hb2
    go_wp2_with (fail)
    refine (P2.out w2).mono ?_
    rintro e w3 ⟨a3, c3, rfl, k3, K3, hb3⟩
    have B3 := Lib.hid (below_on B2.out hb3)
    have k23 := K2.out w3 hb3
    clear hb3 k2
    go_wp2
    go_ret
    exact ⟨ret_bool (decide_eq_true (by omega)), B3.out⟩
  · have hbq := HQ.out he
    have hne : ((x : Int) == (y : Int)) = false := by simp; omega
    by_cases hlt : y < x
    · clear he
      go_enter Try.func6, Try.ntmps6
      go_wp2_with (fail)
      refine (alive4 w).mono ?_
      rintro e w1 ⟨rfl, hb1⟩
      have B1 := Lib.hid hb1
      clear hb1
      go_wp2_with (fail)
      refine (P1.out w1).mono ?_
      rintro e w2 ⟨a2, c2, rfl, k2, K2, hb2⟩
      have B2 := Lib.hid (below_on B1.out hb2)
      clear hb2
      go_wp2_with (fail)
      refine (P2.out w2).mono ?_
      rintro e w3 ⟨a3, c3, rfl, k3, K3, hb3⟩
      have B3 := Lib.hid (below_on B2.out hb3)
      have k23 := K2.out w3 hb3
      clear hb3 k2
      go_wp2
      go_ret
      exact ⟨ret_bool (decide_eq_true (by omega)), B3.out⟩
    · have hmk := HM.out (by omega)
      clear he
      go_enter Try.func6, Try.ntmps6
      go_wp2_with (fail)
      refine (alive4 w).mono ?_
      rintro e w1 ⟨rfl, hb1⟩
      have B1 := Lib.hid hb1
      clear hb1
      go_wp2_with (fail)
      refine (P1.out w1).mono ?_
      rintro e w2 ⟨a2, c2, rfl, k2, K2, hb2⟩
      have B2 := Lib.hid (below_on B1.out hb2)
      clear hb2
      go_wp2_with (fail)
      refine (P2.out w2).mono ?_
      rintro e w3 ⟨a3, c3, rfl, k3, K3, hb3⟩
      have B3 := Lib.hid (below_on B2.out hb3)
      have k23 := K2.out w3 hb3
      clear hb3 k2
      go_wp2
      go_ret
      exact ⟨ret_bool (decide_eq_true (by omega)), B3.out⟩

theorem order_row : Rows.VarintOrderSaid :=
  OpenClaim.holds_of_wide 6 Try.f6 rfl rfl rfl rfl rfl rfl rfl ⟨rfl, rfl, rfl, rfl, rfl⟩ rfl rfl rfl rfl rfl (by kernel_rfl) Try.func6 (by kernel_rfl)
    (of_decide_eq_true (by kernel_rfl)) (by unfold Func.isWrapper; rw [if_neg (of_decide_eq_false (by kernel_rfl))]; exact ⟨rfl, rfl⟩)
    (fun os started H enc _ => lift (C := Try.checked) (s := Rows.varintOrderSpec) (conds := Rows.varintOrderRow.domain) os started H enc prog_own (by kernel_rfl) Try.func6 prog_laid rfl Try.underlying4 rfl
      (fun ds hl => by
        have hl : ds.length = 2 := hl
        match ds, hl with
        | [_, _], _ => rfl)
      (of_decide_eq_true (by kernel_rfl))
      (ChangeSpec.witness6 (enc := enc) (C := Try.checked) false ⟨#[], #[.int .u64 0, .int .u64 0], []⟩ 8 (by kernel_rfl) (by kernel_rfl) (by kernel_rfl) (by kernel_rfl))
      (fun W base args ds p g => by
        rw [Try.params6] at g
        obtain ⟨x, e0, h0⟩ := g.u64 0 rfl Try.underlying22
        obtain ⟨y, e1, h1⟩ := g.u64 1 rfl Try.underlying22
        rw [args2 g.count e0 e1]
        exact order_walk x y W h0 h1))
end Go.Proofs.Ytaadbnaofafgkaa
