/-
  The document's Has leaves the world as it was.
-/
import Derived.Test.YtdfpfgkfmjehiaaIl
namespace Go.Proofs.Ytdfpfgkfmjehiaa
open Go.ChangeShapes Go.WideShapes Go.ChangeAt Go.RowKit

set_option maxRecDepth 100000 in
/-- The document's Has leaves the world as it was. -/
theorem rhas_same (w : World) (a : Option Addr) (n c : Nat) (xs : List Int) (hx : Reads .i64 w a n xs) (x : Int) (z : Bool) (hz : decide (x ∈ xs) = z) :
    Calls Try.prog 14 #[.slice a n c, .int .i64 x] w fun e w' => e = .returned (.bool z) ∧ w' = w := by
  obtain ⟨hl, hn, _, _, hc⟩ := hx
  have HC := Lib.hid hc
  have HX := Lib.hid hl
  have HZ := Lib.hid hz
  clear hc hl hz
  go_enter Try.func14, Try.ntmps14
  go_wp2
  go_loopw [5] (fun s5 wr => ∃ i : Nat, s5 = .int .i64 i ∧ i ≤ n ∧ Hid (∀ k, k < i → xs.getD k 0 ≠ x) ∧ Hid (wr = w)) (fun s5 _ => n - (intOf s5).toNat)
  case atStart => exact ⟨0, rfl, Nat.zero_le _, fun k hk => by omega, rfl⟩
  case round =>
    obtain ⟨i, rfl, hi, HN, HB⟩ := hrel
    by_cases h1 : i < n
    · rcases HC.out with h0 | ⟨b, off, rfl, hlt, hcl⟩
      · omega
      have r0 : wr.cell? ⟨b, off + i, none⟩ = some (.int .i64 (xs.getD i 0)) := by rw [HB.out]; exact hcl i h1
      obtain ⟨y, hy⟩ : ∃ y, xs.getD i 0 = y := ⟨_, rfl⟩
      rw [hy] at r0
      have HY := Lib.hid hy
      by_cases hxy : y = x
      · have dx : (y == x) = true := by simpa using hxy
        have HF := Lib.hid (show z = true from by
          rw [← HZ.out, decide_eq_true_iff, ← hxy, ← hy]
          have hlt : i < xs.length := by rw [HX.out]; exact h1
          rw [List.getD_eq_getElem?_getD, List.getElem?_eq_getElem hlt]
          exact List.getElem_mem hlt)
        clear hy hcl hxy
        go_wp2
        go_ret
        exact ⟨by rw [HF.out]; rfl, HB.out⟩
      · have dx : (y == x) = false := by simpa using hxy
        have HE := Lib.hid hxy
        clear hy hcl hxy
        go_wp2
        go_roundw
        case rel => exact ⟨i + 1, by go_num, by omega, fun k hk => by
          rcases Nat.lt_succ_iff_lt_or_eq.1 hk with h3 | h3
          · exact HN.out k h3
          · rw [h3, HY.out]
            exact HE.out, HB⟩
        case measure => simp [intOf]; omega
    · obtain rfl : i = n := by omega
      have HT := Lib.hid (show z = false from by
        rw [← HZ.out, decide_eq_false_iff_not]
        intro hm
        obtain ⟨k, hk, e⟩ := List.mem_iff_getElem.1 hm
        have h3 := HN.out k (by rw [← HX.out]; exact hk)
        rw [List.getD_eq_getElem?_getD, List.getElem?_eq_getElem hk] at h3
        exact h3 e)
      go_wp2
      go_ret
      exact ⟨by rw [HT.out]; rfl, HB.out⟩
end Go.Proofs.Ytdfpfgkfmjehiaa
