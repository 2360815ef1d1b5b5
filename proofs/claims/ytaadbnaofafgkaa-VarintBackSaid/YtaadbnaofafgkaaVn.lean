/-
  The document's examples of layer 4 hold: what the laws' alive tells.
-/
import Derived.Test.YtaadbnaofafgkaaVg
namespace Go.Proofs.Ytaadbnaofafgkaa
open Go.RowKit

theorem ex_put : vput 300 = [172, 2] := by rw [vput_big (by decide), vput_small (by decide)]
theorem ex_putint : vput (vfold (-1)) = [1] := by rw [show vfold (-1) = 1 by decide, vput_small (by decide)]
theorem ex_get : vget 0 0 [172, 2, 9] = (300, 2, 0) := by decide
theorem ex_s1 : strOfB [172, 2] = ⟨#[172, 2]⟩ := by rfl
theorem ex_s2 : strOfB [1] = ⟨#[1]⟩ := by rfl

theorem put_str (n : Nat) (s : ByteArray) (w : World) (hn : n < 18446744073709551616) (hs : strOfB (vput n) = s) :
    Calls Try.prog 11 #[.int .u64 n] w fun e w' => ∃ v, e = .returned v ∧ (convert 24 9 v).run Try.prog w' = .ok (.string s) w' ∧ Below w.heap.size w w' :=
  (put_any n w hn).mono fun e w' ⟨v, he, ho, hb⟩ => ⟨v, he, by
    rw [← hs]
    exact ho.str (by have := vput_len10 hn; omega) 24 5 Try.underlying24 Try.underlying5 9 Try.underlying9, hb⟩
theorem putint_str (n : Int) (s : ByteArray) (w : World) (h0 : -9223372036854775808 ≤ n) (h1 : n ≤ 9223372036854775807) (hs : strOfB (vput (vfold n)) = s) :
    Calls Try.prog 13 #[.int .i64 n] w fun e w' => ∃ v, e = .returned v ∧ (convert 24 9 v).run Try.prog w' = .ok (.string s) w' ∧ Below w.heap.size w w' :=
  (putint_any n w h0 h1).mono fun e w' ⟨v, he, ho, hb⟩ => ⟨v, he, by
    rw [← hs]
    exact ho.str (by have := vput_len10 (vfold_lt h0 h1); omega) 24 5 Try.underlying24 Try.underlying5 9 Try.underlying9, hb⟩

set_option maxRecDepth 100000 in
set_option maxHeartbeats 1600000 in
theorem alive4 (w : World) : Calls Try.prog 10 #[] w fun e w' => e = .returned (.bool true) ∧ Below w.heap.size w w' := by
  go_enter Try.func10, Try.ntmps10
  go_wp2_with (fail)
  refine (get_eq _ _ _ [172, 2, 9] _ 300 2 0 (BReads.built w [172, 2, 9] 5 (by simp) (by simp)) ex_get).mono ?_
  rintro e w1 ⟨rfl, rfl⟩
  go_wp2_with (fail)
  refine (put_str 300 ⟨#[172, 2]⟩ _ (by decide) (by rw [ex_put]; exact ex_s1)).mono ?_
  rintro e w2 ⟨v, rfl, hc, hb⟩
  have HB := Lib.hid (((Below.refl w.heap.size w).alloc (Nat.le_refl _) (.cells #[.int .u8 172, .int .u8 2, .int .u8 9] 5)).trans (hb.mono (by simp)))
  clear hb
  go_wp2_with (fail)
  refine (putint_str (-1) ⟨#[1]⟩ _ (by decide) (by decide) (by rw [ex_putint]; exact ex_s2)).mono ?_
  rintro e w3 ⟨v3, rfl, hc3, hb⟩
  have HB3 := Lib.hid (HB.out.trans (hb.mono HB.out.size))
  clear hb HB hc
  go_wp2
  go_ret
  exact ⟨rfl, HB3.out⟩
/-- What is told can be made a string of, now and later. -/
def Strs (s : ByteArray) (w : World) (e : Ending) (w' : World) : Prop :=
  ∃ v, e = .returned v ∧ (convert 24 9 v).run Try.prog w' = .ok (.string s) w' ∧ Hid (∀ w'', Below w'.heap.size w' w'' → (convert 24 9 v).run Try.prog w'' = .ok (.string s) w'') ∧ Below w.heap.size w w'
theorem PutsV.strs {bs : List Nat} {s : ByteArray} {w w' : World} {e : Ending} (h : PutsV bs w e w') (hl : bs.length ≤ 10) (hs : strOfB bs = s) : Strs s w e w' := by
  obtain ⟨v, he, ho, hb⟩ := h
  have k : ∀ w'', Below w'.heap.size w' w'' → (convert 24 9 v).run Try.prog w'' = .ok (.string s) w'' := fun w'' hb' => by
    rw [← hs]
    exact (ho.on hb').str (by omega) 24 5 Try.underlying24 Try.underlying5 9 Try.underlying9
  exact ⟨v, he, k w' (Below.refl _ _), k, hb⟩

theorem wrap_bounds (n : Int) : -9223372036854775808 ≤ IntKind.i64.wrap n ∧ IntKind.i64.wrap n ≤ 9223372036854775807 := by
  rw [IntKind.wrap_i64]
  omega

theorem prog_own : ownKnob Try.prog.godebug = none := by kernel_rfl
theorem prog_laid : laidOutB Try.prog = true := by kernel_rfl


section
variable {H : Type} {enc : TypeId × Value → H} {P : Program} {W : World} {base : Nat} {ts : Array TypeId} {args : Array Value} {ds : List (DataW H)} {p : List MemPlace}
theorem Given.u64 (g : Given enc P W base ts args ds p) (j : Nat) {t : TypeId} (ht : ts[j]? = some t) (hu : P.underlying t = some (.int .u64)) :
    ∃ n : Nat, args[j]? = some (.int .u64 n) ∧ n < 18446744073709551616 := by
  obtain ⟨x, e, hw⟩ := g.int j ht hu
  simp [Lit.wf, IntKind.min, IntKind.max, IntKind.signed, IntKind.bits] at hw
  obtain ⟨n, rfl⟩ := Int.eq_ofNat_of_zero_le (a := x) (by omega)
  exact ⟨n, e, by omega⟩
theorem Given.i64 (g : Given enc P W base ts args ds p) (j : Nat) {t : TypeId} (ht : ts[j]? = some t) (hu : P.underlying t = some (.int .i64)) :
    ∃ n : Int, args[j]? = some (.int .i64 n) ∧ -9223372036854775808 ≤ n ∧ n ≤ 9223372036854775807 := by
  obtain ⟨x, e, hw⟩ := g.int j ht hu
  simp [Lit.wf, IntKind.min, IntKind.max, IntKind.signed, IntKind.bits] at hw
  exact ⟨x, e, by omega, by omega⟩
end
end Go.Proofs.Ytaadbnaofafgkaa
