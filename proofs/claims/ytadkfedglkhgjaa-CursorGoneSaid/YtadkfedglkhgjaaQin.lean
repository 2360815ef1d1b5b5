/-
  The document's Ints of two lists of whole numbers. (Out of XIM8.)
-/
import Derived.Test.YtadkfedglkhgjaaBk
import Derived.Test.YtadkfedglkhgjaaProg
import Derived.Handy
import Derived.BigQuiet
import Derived.Deep.QuietTactic
import Derived.Deep.RegionLaw
import Derived.IntWalk
namespace Go.Proofs.Ytadkfedglkhgjaa
open Go.RowKit Go.ChangeShapes Go.WideShapes Go.ChangeAt

set_option maxRecDepth 100000 in
/-- The document's Ints. -/
theorem ints_any (w : World) (a : Option Addr) (n c : Nat) (xs : List Int) (hx : Reads .i64 w a n xs) (a' : Option Addr) (n' c' : Nat) (ys : List Int) (hy : Reads .i64 w a' n' ys) (z : Bool) (hz : decide (xs = ys) = z) :
    Calls Try.prog 18 #[.slice a n c, .slice a' n' c'] w fun e w' => e = .returned (.bool z) ∧ Below w.heap.size w w' := by
  obtain ⟨hl, hn, _, _, hc⟩ := hx
  obtain ⟨hl', hn', _, _, hc'⟩ := hy
  by_cases hnn : n = n'
  · subst hnn
    have dn : (((n : Nat) : Int) != (n : Int)) = false := by simp
    have HC := Lib.hid hc
    have HC' := Lib.hid hc'
    have HX := Lib.hid hl
    have HY := Lib.hid hl'
    have HZ := Lib.hid hz
    clear hc hc' hl hl' hz
    go_enter Try.func18, Try.ntmps18
    go_wp2
    go_loopw [5] (fun s5 wr => ∃ i : Nat, s5 = .int .i64 i ∧ i ≤ n ∧ Hid (∀ k, k < i → xs.getD k 0 = ys.getD k 0) ∧ Hid (Below w.heap.size w wr)) (fun s5 _ => n - (intOf s5).toNat)
    case atStart => exact ⟨0, rfl, Nat.zero_le _, fun k hk => by omega, Below.refl _ _⟩
    case round =>
      obtain ⟨i, rfl, hi, HN, HB⟩ := hrel
      by_cases h1 : i < n
      · rcases HC.out with h0 | ⟨b, off, rfl, hlt, hcl⟩
        · omega
        rcases HC'.out with h0 | ⟨b', off', rfl, hlt', hcl'⟩
        · omega
        have r0 := (HB.out.cell (p := ⟨b, off + i, none⟩) hlt).trans (hcl i h1)
        have r1 := (HB.out.cell (p := ⟨b', off' + i, none⟩) hlt').trans (hcl' i h1)
        obtain ⟨x, hx⟩ : ∃ x, xs.getD i 0 = x := ⟨_, rfl⟩
        obtain ⟨y, hy⟩ : ∃ y, ys.getD i 0 = y := ⟨_, rfl⟩
        rw [hx] at r0
        rw [hy] at r1
        by_cases hxy : x = y
        · subst hxy
          have dx : (x != x) = false := by simp
          have HE := Lib.hid (hx.trans hy.symm)
          clear hx hy hcl hcl'
          go_wp2
          go_quiet (fail)
          have HB2 := Lib.hid (below_draws HB.out nq)
          clear r0 r1 HB
          go_wp2
          go_roundw
          case rel => exact ⟨i + 1, by go_num, by omega, fun k hk => by
            rcases Nat.lt_succ_iff_lt_or_eq.1 hk with h3 | h3
            · exact HN.out k h3
            · rw [h3]
              exact HE.out, HB2⟩
          case measure => simp [intOf]; omega
        · have dx : (x != y) = true := by rw [bne_iff_ne]; exact hxy
          have HF := Lib.hid (show z = false from by
            rw [← HZ.out, decide_eq_false_iff_not]
            rintro rfl
            exact hxy (hx.symm.trans hy))
          clear hx hy hcl hcl' hxy
          go_wp2
          go_quiet (fail)
          have HB2 := Lib.hid (below_draws HB.out nq)
          clear r0 r1 HB
          go_wp2
          go_ret
          exact ⟨by rw [HF.out]; rfl, HB2.out⟩
      · obtain rfl : i = n := by omega
        have HT := Lib.hid (show z = true from by
          rw [← HZ.out, decide_eq_true_iff]
          apply List.ext_getElem (by rw [HX.out, HY.out])
          intro k h1 h2
          have h3 := HN.out k (by rw [← HX.out]; exact h1)
          rw [List.getD_eq_getElem?_getD, List.getD_eq_getElem?_getD, List.getElem?_eq_getElem h1, List.getElem?_eq_getElem h2] at h3
          exact h3)
        go_wp2
        go_ret
        exact ⟨by rw [HT.out]; rfl, HB.out⟩
  · have dn : (((n : Nat) : Int) != (n' : Int)) = true := by rw [bne_iff_ne]; omega
    have hne : z = false := by
      rw [← hz, decide_eq_false_iff_not]
      rintro rfl
      omega
    subst hne
    clear hz hc hc'
    go_enter Try.func18, Try.ntmps18
    go_wp2
    go_ret
    exact ⟨rfl, Below.refl _ _⟩
end Go.Proofs.Ytadkfedglkhgjaa
