/-
  The document's Has, Same, Great of tags, each by a walk over its text.
-/
import Derived.Test.YtadkfedglkhgjaaGreatGm
import Derived.Test.YtadkfedglkhgjaaGreatProg
import Derived.BigQuiet
import Derived.Deep.QuietTactic
import Derived.Handy
import Derived.Outline
namespace Go.Proofs.YtadkfedglkhgjaaGreat
open Go.RowKit

theorem beq_yes {a b : ByteArray} (h : a = b) : (a.toList == b.toList) = true := (Lib.bytes_beq_iff a b).2 h
theorem beq_no {a b : ByteArray} (h : a ≠ b) : (a.toList == b.toList) = false := (Lib.bytes_beq_false_iff a b).2 h
theorem run_leq_str (y z : ByteArray) (w : World) (b : Bool) (h : (!ltB z y) = b) : (binOp .leq 9 (.string y) (.string z)).run Tryz.prog w = .ok (.bool b) w := by
  subst h
  rw [← leq_eq]
  rfl
theorem run_lss_str (y z : ByteArray) (w : World) (b : Bool) (h : ltB y z = b) : (binOp .lss 9 (.string y) (.string z)).run Tryz.prog w = .ok (.bool b) w := by
  subst h
  rfl
theorem strAt_mem {ss : List ByteArray} {i : Nat} (h : i < ss.length) : strAt ss i ∈ ss := by
  simp [strAt, List.getD, h]
theorem has_yes {ss : List ByteArray} {x : ByteArray} {i n : Nat} (hl : ss.length = n) (hi : i < n) (h : strAt ss i = x) : Lib.containsS ss x = true := by
  rw [Lib.containsS_iff, ← h]
  exact strAt_mem (by omega)
theorem has_no {ss : List ByteArray} {x : ByteArray} (h : ∀ j, j < ss.length → strAt ss j ≠ x) : Lib.containsS ss x = false := by
  rw [← Bool.not_eq_true, Lib.containsS_iff]
  intro hx
  obtain ⟨j, hj, e⟩ := List.mem_iff_getElem.1 hx
  exact h j hj (by simpa [strAt, List.getD, hj] using e)

set_option maxHeartbeats 800000 in
theorem has_reads (a : Option Addr) (n c : Nat) (ss : List ByteArray) (x : ByteArray) (w : World) (h : SReads w a n c ss) :
    Calls Tryz.prog 94 #[.slice a n c, .string x] w fun e w' => e = .returned (.bool (Lib.containsS ss x)) ∧ w' = w := by
  have HC := Lib.hid h.cells
  have HL := Lib.hid h.len
  have hsm := h.small
  clear h
  go_enter Tryz.func94, Tryz.ntmps94
  go_wp2
  go_loop [5] (fun s5 => ∃ i : Nat, s5 = .int .i64 i ∧ i ≤ n ∧ Hid (∀ j, j < i → strAt ss j ≠ x)) (fun s5 => n - (intOf s5).toNat)
  case atStart => exact ⟨0, rfl, Nat.zero_le _, fun j hj => by omega⟩
  case round =>
    obtain ⟨i, rfl, hi, HN⟩ := hrel
    by_cases hc : i < n
    · rcases HC.out with h0 | ⟨b, off, rfl, hlt, hcl⟩
      · omega
      obtain ⟨y, hy⟩ : ∃ y, strAt ss i = y := ⟨_, rfl⟩
      have hcc := hcl i hc
      rw [hy] at hcc
      have HY := Lib.hid hy
      clear hy hcl
      by_cases hyx : y = x
      · have ht := beq_yes hyx
        have HX := Lib.hid hyx
        clear hyx
        go_wp2
        go_ret
        exact ⟨ret_bool (has_yes HL.out hc (HY.out.trans HX.out)).symm, rfl⟩
      · have ht := beq_no hyx
        have HX := Lib.hid hyx
        clear hyx
        go_wp2
        go_round
        case rel =>
          refine ⟨i + 1, by go_num, by omega, fun j hj => ?_⟩
          rcases Nat.lt_or_eq_of_le (Nat.le_of_lt_succ hj) with h | rfl
          · exact HN.out j h
          · rw [HY.out]; exact HX.out
        case measure => simp [intOf]; omega
    · go_wp2
      go_ret
      exact ⟨ret_bool (has_no fun j hj => HN.out j (by have := HL.out; omega)).symm, rfl⟩

theorem take_succ_strs {xs ys : List ByteArray} {i : Nat} (hx : i < xs.length) (hy : i < ys.length) (h : xs.take i = ys.take i) (e : strAt xs i = strAt ys i) : xs.take (i + 1) = ys.take (i + 1) := by
  rw [List.take_add_one, List.take_add_one, h]
  simp [strAt, List.getD, hx, hy] at e
  simp [hx, hy, e]

set_option maxHeartbeats 1600000 in
theorem same_reads (a a' : Option Addr) (n n' c c' : Nat) (xs ys : List ByteArray) (w : World) (h : SReads w a n c xs) (h' : SReads w a' n' c' ys) :
    Calls Tryz.prog 24 #[.slice a n c, .slice a' n' c'] w fun e w' => e = .returned (.bool (decide (xs = ys))) ∧ Below w.heap.size w w' := by
  have HC := Lib.hid h.cells
  have HL := Lib.hid h.len
  have hsm := h.small
  have HC' := Lib.hid h'.cells
  have HL' := Lib.hid h'.len
  have hsm' := h'.small
  clear h h'
  by_cases hnn : n = n'
  · subst hnn
    go_enter Tryz.func24, Tryz.ntmps24
    go_wp2
    go_loopw [5] (fun s5 wr => ∃ i : Nat, s5 = .int .i64 i ∧ i ≤ n ∧ Hid (xs.take i = ys.take i) ∧ Below w.heap.size w wr) (fun s5 _ => n - (intOf s5).toNat)
    case atStart => exact ⟨0, rfl, Nat.zero_le _, by simp [Hid], Below.refl _ _⟩
    case round =>
      obtain ⟨i, rfl, hi, HT, hB⟩ := hrel
      by_cases hc : i < n
      · rcases HC.out with h0 | ⟨b, off, rfl, hlt, hcl⟩
        · omega
        rcases HC'.out with h0 | ⟨b', off', rfl, hlt', hcl'⟩
        · omega
        obtain ⟨y, hy⟩ : ∃ y, strAt xs i = y := ⟨_, rfl⟩
        obtain ⟨z, hz⟩ : ∃ z, strAt ys i = z := ⟨_, rfl⟩
        have hcc := (hB.cell (p := ⟨b, off + i, none⟩) hlt).trans (hcl i hc)
        have hcc' := (hB.cell (p := ⟨b', off' + i, none⟩) hlt').trans (hcl' i hc)
        rw [hy] at hcc
        rw [hz] at hcc'
        have HY := Lib.hid hy
        have HZ := Lib.hid hz
        have HB := Lib.hid hB
        clear hy hz hcl hcl' hB
        by_cases hyz : y = z
        · have ht := beq_yes hyz
          have HX := Lib.hid hyz
          clear hyz
          go_wp2
          go_quiet (fail)
          go_wp2
          go_roundw
          case rel => exact ⟨i + 1, by go_num, by omega, take_succ_strs (by have := HL.out; omega) (by have := HL'.out; omega) HT.out (by rw [HY.out, HZ.out, HX.out]), below_draws HB.out _⟩
          case measure => simp [intOf]; omega
        · have ht := beq_no hyz
          have HX := Lib.hid hyz
          clear hyz
          go_wp2
          go_quiet (fail)
          go_wp2
          go_ret
          refine ⟨ret_bool ?_, below_draws HB.out _⟩
          symm
          apply decide_eq_false
          intro e
          rw [e] at HY
          exact HX.out (HY.out.symm.trans HZ.out)
      · go_wp2
        go_ret
        refine ⟨ret_bool ?_, hB⟩
        symm
        apply decide_eq_true
        have := HT.out
        have h1 := HL.out
        have h2 := HL'.out
        rwa [List.take_of_length_le (by omega), List.take_of_length_le (by omega)] at this
  · have hne : xs ≠ ys := fun e => hnn (by rw [← HL.out, ← HL'.out, e])
    have HNE := Lib.hid hne
    clear hne
    go_enter Tryz.func24, Tryz.ntmps24
    go_wp2
    go_ret
    exact ⟨ret_bool (decide_eq_false HNE.out).symm, Below.refl _ _⟩

/-- What Great tells: if it says no, there are few. -/
def Told (n : Nat) (e : Ending) : Prop := ∃ g : Bool, e = .returned (.bool g) ∧ (g = false → n ≤ 300)
theorem told (n : Nat) (g : Bool) (h : g = false → n ≤ 300) : Told n (.returned (.bool g)) := ⟨g, rfl, h⟩

set_option maxHeartbeats 1600000 in
theorem great_reads (a : Option Addr) (n c : Nat) (ss : List ByteArray) (w : World) (h : SReads w a n c ss) (hz : ∀ s ∈ ss, s.size ≤ maxLen) :
    Calls Tryz.prog 62 #[.slice a n c] w fun e w' => Told n e ∧ w' = w := by
  have HC := Lib.hid h.cells
  have HL := Lib.hid h.len
  have HZ := Lib.hid hz
  have hsm := h.small
  clear h hz
  go_enter Tryz.func62, Tryz.ntmps62
  go_wp2
  go_loop [3, 4] (fun s3 s4 => ∃ (i : Nat) (m : Int), s3 = .int .i64 m ∧ s4 = .int .i64 i ∧ i ≤ n ∧ 0 ≤ m ∧ m ≤ 50000) (fun _ s4 => n - (intOf s4).toNat)
  case atStart => exact ⟨0, 0, rfl, rfl, Nat.zero_le _, by omega, by omega⟩
  case round =>
    obtain ⟨i, m, rfl, rfl, hi, h0, h1⟩ := hrel
    by_cases hc : i < n
    · by_cases hm : m < 20000
      · rcases HC.out with h0 | ⟨b, off, rfl, hlt, hcl⟩
        · omega
        obtain ⟨y, hy⟩ : ∃ y, strAt ss i = y := ⟨_, rfl⟩
        have hcc := hcl i hc
        rw [hy] at hcc
        have hsz : y.size ≤ maxLen := by rw [← hy]; exact HZ.out _ (strAt_mem (by have := HL.out; omega))
        unfold maxLen at hsz
        clear hy hcl
        go_wp2
        go_round
        case rel => exact ⟨i + 1, _, rfl, by go_num, by omega, by go_num, by go_num⟩
        case measure => simp [intOf]; omega
      · go_wp2
        go_ret
        exact ⟨told n _ (by simp; try omega), rfl⟩
    · go_wp2
      all_goals
        go_ret
        exact ⟨told n _ (by simp; try omega), rfl⟩

theorem size_zero {y : ByteArray} (h : y.size = 0) : y = ⟨#[]⟩ := by
  cases y with
  | mk d => cases d with
    | mk l => cases l with
      | nil => rfl
      | cons x l => simp [ByteArray.size] at h

theorem good_small {l : List ByteArray} {i : Nat} (h : (strAt l i).size = 0) : goodAt l i = false := by simp [goodAt, h]
theorem good_big {l : List ByteArray} {i : Nat} (h : 16 < (strAt l i).size) : goodAt l i = false := by
  have : ¬ (strAt l i).size ≤ 16 := by omega
  simp [goodAt, this]
theorem good_low {l : List ByteArray} {i : Nat} (h0 : 0 < i) (h : ltB (strAt l (i - 1)) (strAt l i) = false) : goodAt l i = false := by
  have : ¬ i = 0 := by omega
  simp [goodAt, h, this]
theorem good_yes {l : List ByteArray} {i : Nat} (h1 : 1 ≤ (strAt l i).size) (h2 : (strAt l i).size ≤ 16) (h : i = 0 ∨ ltB (strAt l (i - 1)) (strAt l i) = true) : goodAt l i = true := by
  simp [goodAt, h2, h]
  omega

end Go.Proofs.YtadkfedglkhgjaaGreat
