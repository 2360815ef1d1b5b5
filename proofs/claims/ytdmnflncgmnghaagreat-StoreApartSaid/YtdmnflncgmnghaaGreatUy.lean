/-
  The program's checks of vectors and of tags, by walks over their texts.
-/
import Derived.Test.YtdmnflncgmnghaaGreatProg
import Derived.Test.YtdmnflncgmnghaaGreatSl
import Derived.BigQuiet
import Derived.Deep.QuietTactic
import Derived.Handy
import Derived.Outline
import Derived.Test.YtdmnflncgmnghaaGreatGm
import Derived.Test.YtdmnflncgmnghaaGreatGs
import Derived.Lib.Hide
namespace Go.Proofs.YtdmnflncgmnghaaGreat
open Go.RowKit

/-- A part that may be. -/
def okPart (x : Int) : Bool := decide (-1048576 ≤ x ∧ x ≤ 1048576)
/-- What Check answers, as a number. -/
def checkV (n : Nat) (d : Int) (xs : List Int) : Int := if d < 1 ∨ 16 < d ∨ (n : Int) ≠ d then 10 else if xs.all okPart then 0 else 11

theorem all_take_succ (xs : List Int) (k : Nat) (h : k < xs.length) : (xs.take (k + 1)).all okPart = ((xs.take k).all okPart && okPart (xs.getD k 0)) := by
  have e : xs.getD k 0 = xs[k] := by simp [List.getD, h]
  rw [List.take_succ_eq_append_getElem h, e]
  simp only [List.all_append, List.all_cons, List.all_nil, Bool.and_true]

theorem all_false_of (xs : List Int) (k : Nat) (h : k < xs.length) (hk : okPart (xs.getD k 0) = false) : xs.all okPart = false := by
  rw [List.all_eq_false]
  exact ⟨xs[k], List.getElem_mem h, by simpa [List.getD, h] using hk⟩

set_option maxHeartbeats 400000 in
theorem check_any (a : Option Addr) (n cap : Nat) (xs : List Int) (d : Int) (w : World) (h : Reads .i32 w a n xs) :
    Calls Tryz.prog 119 #[.slice a n cap, .int .i64 d] w fun e w' => e = .returned (.int .i64 (checkV n d xs)) ∧ w = w' := by
  obtain ⟨hl, hn, _, hwf, hc⟩ := h
  by_cases h1 : d < 1
  · go_enter Tryz.func119, Tryz.ntmps119
    go_wp2
    go_ret
    exact ⟨by simp [checkV, h1], rfl⟩
  by_cases h2 : 16 < d
  · go_enter Tryz.func119, Tryz.ntmps119
    go_wp2
    go_ret
    exact ⟨by simp [checkV, h2], rfl⟩
  by_cases h3 : (n : Int) = d
  · subst h3
    have hcv : checkV n n xs = if xs.all okPart then 0 else 11 := by simp [checkV, h1, h2]
    rcases hc with h0 | ⟨b, off, rfl, hlt, hc⟩
    · omega
    have HL := Lib.hid hl
    have HV := Lib.hid hcv
    have HC := Lib.hid hc
    clear hl hcv hc hwf
    go_enter Tryz.func119, Tryz.ntmps119
    go_wp2
    go_loop [21] (fun i => ∃ k : Nat, k ≤ n ∧ i = .int .i64 k ∧ (xs.take k).all okPart = true) (fun i => n - (intOf i).toNat)
    case atStart => exact ⟨0, Nat.zero_le _, rfl, by simp⟩
    case round =>
      obtain ⟨k, hk, rfl, hall⟩ := hrel
      have HA := Lib.hid hall
      clear hall
      by_cases hlt' : k < n
      · obtain ⟨p, hp⟩ : ∃ p, p = xs.getD k 0 := ⟨_, rfl⟩
        have hcell := HC.out k hlt'
        rw [← hp] at hcell
        have HP := Lib.hid hp
        clear hp
        by_cases hp1 : p < -1048576
        · go_wp2
          go_ret
          exact ⟨by rw [HV.out, all_false_of xs k (by rw [HL.out]; exact hlt') (by rw [← HP.out]; simp [okPart]; omega)]; rfl, rfl⟩
        by_cases hp2 : 1048576 < p
        · go_wp2
          go_ret
          exact ⟨by rw [HV.out, all_false_of xs k (by rw [HL.out]; exact hlt') (by rw [← HP.out]; simp [okPart]; omega)]; rfl, rfl⟩
        go_wp2
        go_round
        case rel => exact ⟨k + 1, by omega, by go_num, by rw [all_take_succ xs k (by rw [HL.out]; exact hlt'), HA.out, ← HP.out]; simp [okPart]; omega⟩
        case measure => simp [intOf]; omega
      · go_wp2
        go_ret
        refine ⟨?_, rfl⟩
        have e := HA.out
        rw [List.take_of_length_le (by rw [HL.out]; omega)] at e
        rw [HV.out, e]; rfl
  · go_enter Tryz.func119, Tryz.ntmps119
    go_wp2
    go_ret
    exact ⟨by simp [checkV, h3], rfl⟩

/-- The sum of the squares of the parts' differences. -/
def sqSum : List Int → List Int → Int
  | x :: xs, y :: ys => (x - y) * (x - y) + sqSum xs ys
  | _, _ => 0
/-- The sum of the parts' products. -/
def mulSum : List Int → List Int → Int
  | x :: xs, y :: ys => x * y + mulSum xs ys
  | _, _ => 0

theorem beq_yes {a b : ByteArray} (h : a = b) : (a.toList == b.toList) = true := (Lib.bytes_beq_iff a b).2 h
theorem beq_no {a b : ByteArray} (h : a ≠ b) : (a.toList == b.toList) = false := (Lib.bytes_beq_false_iff a b).2 h
theorem run_leq_str (y z : ByteArray) (w : World) (b : Bool) (h : (!ltB z y) = b) : (binOp .leq 9 (.string y) (.string z)).run Tryz.prog w = .ok (.bool b) w := by
  subst h
  rw [← leq_eq]
  rfl
theorem run_lss_str (y z : ByteArray) (w : World) (b : Bool) (h : ltB y z = b) : (binOp .lss 9 (.string y) (.string z)).run Tryz.prog w = .ok (.bool b) w := by
  subst h
  rfl
theorem strAt_mem {ss : List ByteArray} {i : Nat} (h : i < ss.length) : strAt ss i ∈ ss := by
  simp [strAt, List.getD, h]
theorem has_yes {ss : List ByteArray} {x : ByteArray} {i n : Nat} (hl : ss.length = n) (hi : i < n) (h : strAt ss i = x) : Lib.containsS ss x = true := by
  rw [Lib.containsS_iff, ← h]
  exact strAt_mem (by omega)
theorem has_no {ss : List ByteArray} {x : ByteArray} (h : ∀ j, j < ss.length → strAt ss j ≠ x) : Lib.containsS ss x = false := by
  rw [← Bool.not_eq_true, Lib.containsS_iff]
  intro hx
  obtain ⟨j, hj, e⟩ := List.mem_iff_getElem.1 hx
  exact h j hj (by simpa [strAt, List.getD, hj] using e)
theorem take_succ_strs {xs ys : List ByteArray} {i : Nat} (hx : i < xs.length) (hy : i < ys.length) (h : xs.take i = ys.take i) (e : strAt xs i = strAt ys i) : xs.take (i + 1) = ys.take (i + 1) := by
  rw [List.take_add_one, List.take_add_one, h]
  simp [strAt, List.getD, hx, hy] at e
  simp [hx, hy, e]

set_option maxHeartbeats 1600000 in
theorem same_reads (a a' : Option Addr) (n n' c c' : Nat) (xs ys : List ByteArray) (w : World) (h : SReads w a n c xs) (h' : SReads w a' n' c' ys) :
    Calls Tryz.prog 19 #[.slice a n c, .slice a' n' c'] w fun e w' => e = .returned (.bool (decide (xs = ys))) ∧ Below w.heap.size w w' := by
  have HC := Lib.hid h.cells
  have HL := Lib.hid h.len
  have hsm := h.small
  have HC' := Lib.hid h'.cells
  have HL' := Lib.hid h'.len
  have hsm' := h'.small
  clear h h'
  by_cases hnn : n = n'
  · subst hnn
    go_enter Tryz.func19, Tryz.ntmps19
    go_wp2
    go_loopw [5] (fun s5 wr => ∃ i : Nat, s5 = .int .i64 i ∧ i ≤ n ∧ Hid (xs.take i = ys.take i) ∧ Below w.heap.size w wr) (fun s5 _ => n - (intOf s5).toNat)
    case atStart => exact ⟨0, rfl, Nat.zero_le _, by simp [Hid], Below.refl _ _⟩
    case round =>
      obtain ⟨i, rfl, hi, HT, hB⟩ := hrel
      by_cases hc : i < n
      · rcases HC.out with h0 | ⟨b, off, rfl, hlt, hcl⟩
        · omega
        rcases HC'.out with h0 | ⟨b', off', rfl, hlt', hcl'⟩
        · omega
        obtain ⟨y, hy⟩ : ∃ y, strAt xs i = y := ⟨_, rfl⟩
        obtain ⟨z, hz⟩ : ∃ z, strAt ys i = z := ⟨_, rfl⟩
        have hcc := (hB.cell (p := ⟨b, off + i, none⟩) hlt).trans (hcl i hc)
        have hcc' := (hB.cell (p := ⟨b', off' + i, none⟩) hlt').trans (hcl' i hc)
        rw [hy] at hcc
        rw [hz] at hcc'
        have HY := Lib.hid hy
        have HZ := Lib.hid hz
        have HB := Lib.hid hB
        clear hy hz hcl hcl' hB
        by_cases hyz : y = z
        · have ht := beq_yes hyz
          have HX := Lib.hid hyz
          clear hyz
          go_wp2
          go_quiet (fail)
          go_wp2
          go_roundw
          case rel => exact ⟨i + 1, by go_num, by omega, take_succ_strs (by have := HL.out; omega) (by have := HL'.out; omega) HT.out (by rw [HY.out, HZ.out, HX.out]), below_draws HB.out _⟩
          case measure => simp [intOf]; omega
        · have ht := beq_no hyz
          have HX := Lib.hid hyz
          clear hyz
          go_wp2
          go_quiet (fail)
          go_wp2
          go_ret
          refine ⟨ret_bool ?_, below_draws HB.out _⟩
          symm
          apply decide_eq_false
          intro e
          rw [e] at HY
          exact HX.out (HY.out.symm.trans HZ.out)
      · go_wp2
        go_ret
        refine ⟨ret_bool ?_, hB⟩
        symm
        apply decide_eq_true
        have := HT.out
        have h1 := HL.out
        have h2 := HL'.out
        rwa [List.take_of_length_le (by omega), List.take_of_length_le (by omega)] at this
  · have hne : xs ≠ ys := fun e => hnn (by rw [← HL.out, ← HL'.out, e])
    have HNE := Lib.hid hne
    clear hne
    go_enter Tryz.func19, Tryz.ntmps19
    go_wp2
    go_ret
    exact ⟨ret_bool (decide_eq_false HNE.out).symm, Below.refl _ _⟩

/-- What Great tells: if it says no, there are few. -/
def Told (n : Nat) (e : Ending) : Prop := ∃ g : Bool, e = .returned (.bool g) ∧ (g = false → n ≤ 300)
theorem told (n : Nat) (g : Bool) (h : g = false → n ≤ 300) : Told n (.returned (.bool g)) := ⟨g, rfl, h⟩

set_option maxHeartbeats 1600000 in
theorem great_reads (a : Option Addr) (n c : Nat) (ss : List ByteArray) (w : World) (h : SReads w a n c ss) (hz : ∀ s ∈ ss, s.size ≤ maxLen) :
    Calls Tryz.prog 53 #[.slice a n c] w fun e w' => Told n e ∧ w' = w := by
  have HC := Lib.hid h.cells
  have HL := Lib.hid h.len
  have HZ := Lib.hid hz
  have hsm := h.small
  clear h hz
  go_enter Tryz.func53, Tryz.ntmps53
  go_wp2
  go_loop [3, 4] (fun s3 s4 => ∃ (i : Nat) (m : Int), s3 = .int .i64 m ∧ s4 = .int .i64 i ∧ i ≤ n ∧ 0 ≤ m ∧ m ≤ 50000) (fun _ s4 => n - (intOf s4).toNat)
  case atStart => exact ⟨0, 0, rfl, rfl, Nat.zero_le _, by omega, by omega⟩
  case round =>
    obtain ⟨i, m, rfl, rfl, hi, h0, h1⟩ := hrel
    by_cases hc : i < n
    · by_cases hm : m < 20000
      · rcases HC.out with h0 | ⟨b, off, rfl, hlt, hcl⟩
        · omega
        obtain ⟨y, hy⟩ : ∃ y, strAt ss i = y := ⟨_, rfl⟩
        have hcc := hcl i hc
        rw [hy] at hcc
        have hsz : y.size ≤ maxLen := by rw [← hy]; exact HZ.out _ (strAt_mem (by have := HL.out; omega))
        unfold maxLen at hsz
        clear hy hcl
        go_wp2
        go_round
        case rel => exact ⟨i + 1, _, rfl, by go_num, by omega, by go_num, by go_num⟩
        case measure => simp [intOf]; omega
      · go_wp2
        go_ret
        exact ⟨told n _ (by simp; try omega), rfl⟩
    · go_wp2
      all_goals
        go_ret
        exact ⟨told n _ (by simp; try omega), rfl⟩

theorem size_zero {y : ByteArray} (h : y.size = 0) : y = ⟨#[]⟩ := by
  cases y with
  | mk d => cases d with
    | mk l => cases l with
      | nil => rfl
      | cons x l => simp [ByteArray.size] at h

theorem good_small {l : List ByteArray} {i : Nat} (h : (strAt l i).size = 0) : goodAt l i = false := by simp [goodAt, h]
theorem good_big {l : List ByteArray} {i : Nat} (h : 16 < (strAt l i).size) : goodAt l i = false := by
  have : ¬ (strAt l i).size ≤ 16 := by omega
  simp [goodAt, this]
theorem good_low {l : List ByteArray} {i : Nat} (h0 : 0 < i) (h : ltB (strAt l (i - 1)) (strAt l i) = false) : goodAt l i = false := by
  have : ¬ i = 0 := by omega
  simp [goodAt, h, this]
theorem good_yes {l : List ByteArray} {i : Nat} (h1 : 1 ≤ (strAt l i).size) (h2 : (strAt l i).size ≤ 16) (h : i = 0 ∨ ltB (strAt l (i - 1)) (strAt l i) = true) : goodAt l i = true := by
  simp [goodAt, h2, h]
  omega

set_option maxHeartbeats 3200000 in
theorem fine_reads (a : Option Addr) (n c : Nat) (ss : List ByteArray) (w : World) (h : SReads w a n c ss) (hz : ∀ s ∈ ss, s.size ≤ maxLen) :
    Calls Tryz.prog 85 #[.slice a n c] w fun e w' => e = .returned (.bool (fineB ss)) ∧ Below w.heap.size w w' := by
  have HC := Lib.hid h.cells
  have HL := Lib.hid h.len
  have HZ := Lib.hid hz
  have hsm := h.small
  clear h hz
  go_enter Tryz.func85, Tryz.ntmps85
  go_wp2
  go_loopw [3] (fun s3 wr => ∃ (i : Nat), s3 = .int .i64 i ∧ i ≤ n ∧ i ≤ 10 ∧ Hid (∀ j, j < i → goodAt ss j = true) ∧ Below w.heap.size w wr) (fun s3 _ => n - (intOf s3).toNat)
  case atStart => exact ⟨0, rfl, Nat.zero_le _, Nat.zero_le _, fun j hj => by omega, Below.refl _ _⟩
  case round =>
    obtain ⟨i, rfl, hi, hi', HG, hB⟩ := hrel
    by_cases hc : i < n ∧ i < 10
    · obtain ⟨hc, hc'⟩ := hc
      rcases HC.out with h0 | ⟨b, off, rfl, hlt, hcl⟩
      · omega
      obtain ⟨y, hy⟩ : ∃ y, strAt ss i = y := ⟨_, rfl⟩
      have hcc := (hB.cell (p := ⟨b, off + i, none⟩) hlt).trans (hcl i hc)
      rw [hy] at hcc
      have hsz : y.size ≤ maxLen := by rw [← hy]; exact HZ.out _ (strAt_mem (by have := HL.out; omega))
      unfold maxLen at hsz
      have HY := Lib.hid hy
      have HB := Lib.hid hB
      have HCL := Lib.hid hcl
      clear hy hcl hB
      by_cases h0 : y = ⟨#[]⟩
      · have ht : y.toList.isEmpty = true := by rw [h0]; simp
        have HX := Lib.hid h0
        clear h0
        go_wp2
        go_quiet (fail)
        go_wp2
        go_ret
        exact ⟨ret_bool (fineB_not (i := i) (by have := HL.out; omega) (good_small (by rw [HY.out, HX.out]; rfl))).symm, below_draws HB.out _⟩
      · have ht : y.toList.isEmpty = false := by
          rw [← Bool.not_eq_true, List.isEmpty_iff]
          intro h
          exact h0 (toList_inj.1 (by rw [h]; simp))
        have hs1 : 1 ≤ y.size := by
          rcases Nat.eq_zero_or_pos y.size with h | h
          · exact absurd (size_zero h) h0
          · exact h
        have HS1 := Lib.hid hs1
        clear h0 hs1
        by_cases h16 : 16 < y.size
        · have hd16 : decide ((16 : Int) < (y.size : Int)) = true := decide_eq_true (by omega)
          go_wp2
          go_quiet (fail)
          go_wp2
          go_ret
          exact ⟨ret_bool (fineB_not (i := i) (by have := HL.out; omega) (good_big (by rw [HY.out]; exact h16))).symm, below_draws HB.out _⟩
        · have hd16 : decide ((16 : Int) < (y.size : Int)) = false := decide_eq_false (by omega)
          have HG2 : i = 0 → Hid (∀ j, j < i + 1 → goodAt ss j = true) := fun h0 j hj => by
            have : j = i := by omega
            subst this
            exact good_yes (by rw [HY.out]; exact HS1.out) (by rw [HY.out]; omega) (.inl h0)
          by_cases hi0 : i = 0
          · have HG3 := HG2 hi0
            clear HG2 HCL
            subst hi0
            rw [Nat.add_zero] at hcc
            go_wp2
            go_quiet (fail)
            go_wp2
            go_roundw
            case rel => exact ⟨0 + 1, by go_num, by omega, by omega, HG3.out, below_draws HB.out _⟩
            case measure => simp [intOf]; omega
          · clear HG2
            obtain ⟨z, hz⟩ : ∃ z, strAt ss (i - 1) = z := ⟨_, rfl⟩
            obtain ⟨k, hk⟩ : ∃ k, i - 1 = k := ⟨_, rfl⟩
            have hcz := (HB.out.cell (p := ⟨b, off + (i - 1), none⟩) hlt).trans (HCL.out (i - 1) (by omega))
            rw [hz, hk] at hcz
            have hkn : k < n := by omega
            have hwr : IntKind.i64.wrap ((i : Int) - 1) = (k : Int) := by
              rw [IntWalk.i64_in _ (by omega)]
              omega
            have HK := Lib.hid hk
            clear hk
            have hpos : 0 < i := by omega
            have hd0 : decide ((0 : Int) < (i : Int)) = true := decide_eq_true (by omega)
            have HZ' := Lib.hid hz
            clear hz HCL hi0
            by_cases hlt' : ltB z y = true
            · have HLT := Lib.hid hlt'
              have hl := fun w => run_leq_str y z w false (by rw [hlt']; rfl)
              clear hlt'
              go_wp2
              go_quiet (fail)
              go_wp2
              go_roundw
              case rel =>
                refine ⟨i + 1, by go_num, by omega, by omega, fun j hj => ?_, below_draws HB.out _⟩
                rcases Nat.lt_or_eq_of_le (Nat.le_of_lt_succ hj) with h | rfl
                · exact HG.out j h
                · exact good_yes (by rw [HY.out]; exact HS1.out) (by rw [HY.out]; omega) (.inr (by rw [HY.out, HZ'.out]; exact HLT.out))
              case measure => simp [intOf]; omega
            · rw [Bool.not_eq_true] at hlt'
              have HLT := Lib.hid hlt'
              have hl := fun w => run_leq_str y z w true (by rw [hlt']; rfl)
              clear hlt'
              go_wp2
              go_quiet (fail)
              go_wp2
              go_ret
              exact ⟨ret_bool (fineB_not (i := i) (by have := HL.out; omega) (good_low hpos (by rw [HY.out, HZ'.out]; exact HLT.out))).symm, below_draws HB.out _⟩
    · have hcase : ¬ i < n ∨ (i < n ∧ ¬ i < 10) := by omega
      clear hc
      rcases hcase with h1 | ⟨h1, h2⟩
      · by_cases h8 : n ≤ 8
        all_goals
          go_wp2
          go_ret
          refine ⟨ret_bool ?_, hB⟩
        · symm
          have := HL.out
          have e : fineB ss = true := fineB_iff.2 ⟨by omega, fun j hj => HG.out j (by omega)⟩
          rw [e]
          symm
          apply decide_eq_true
          omega
        · have := HL.out
          rw [fineB_long (by omega)]
          simp
          omega
      · go_wp2
        go_ret
        refine ⟨ret_bool ?_, hB⟩
        have := HL.out
        rw [fineB_long (by omega)]
        simp
        omega

/-- The number that Check tells. -/
def errOf (b : Bool) : Int := if b then 0 else 30
theorem ret_err {x : Int} {b : Bool} (h : errOf b = x) : Ending.returned (.int .i64 x) = .returned (.int .i64 (errOf b)) := by rw [h]

set_option maxHeartbeats 3200000 in
theorem check_reads (a : Option Addr) (n c : Nat) (ss : List ByteArray) (w : World) (h : SReads w a n c ss) (hz : ∀ s ∈ ss, s.size ≤ maxLen) :
    Calls Tryz.prog 120 #[.slice a n c] w fun e w' => e = .returned (.int .i64 (errOf (fineB ss))) ∧ w' = w := by
  have HC := Lib.hid h.cells
  have HL := Lib.hid h.len
  have HZ := Lib.hid hz
  have hsm := h.small
  clear h hz
  by_cases h8 : 8 < n
  · go_enter Tryz.func120, Tryz.ntmps120
    go_wp2
    go_ret
    exact ⟨ret_err (by rw [fineB_long (by have := HL.out; omega)]; rfl), rfl⟩
  · go_enter Tryz.func120, Tryz.ntmps120
    go_wp2
    go_loop [10] (fun s10 => ∃ (i : Nat), s10 = .int .i64 i ∧ i ≤ n ∧ Hid (∀ j, j < i → goodAt ss j = true)) (fun s10 => n - (intOf s10).toNat)
    case atStart => exact ⟨0, rfl, Nat.zero_le _, fun j hj => by omega⟩
    case round =>
      obtain ⟨i, rfl, hi, HG⟩ := hrel
      by_cases hc : i < n
      · rcases HC.out with h0 | ⟨b, off, rfl, hlt, hcl⟩
        · omega
        obtain ⟨y, hy⟩ : ∃ y, strAt ss i = y := ⟨_, rfl⟩
        have hcc := hcl i hc
        rw [hy] at hcc
        have hsz : y.size ≤ maxLen := by rw [← hy]; exact HZ.out _ (strAt_mem (by have := HL.out; omega))
        unfold maxLen at hsz
        have HY := Lib.hid hy
        have HCL := Lib.hid hcl
        clear hy hcl
        by_cases hbad : y.size < 1 ∨ 16 < y.size
        · have hcase : y.size < 1 ∨ (¬ y.size < 1 ∧ 16 < y.size) := by omega
          clear hbad
          rcases hcase with h1 | ⟨h1, h2⟩
          · go_wp2
            go_ret
            exact ⟨ret_err (by rw [fineB_not (i := i) (by have := HL.out; omega) (good_small (by rw [HY.out]; omega))]; rfl), rfl⟩
          · go_wp2
            go_ret
            exact ⟨ret_err (by rw [fineB_not (i := i) (by have := HL.out; omega) (good_big (by rw [HY.out]; omega))]; rfl), rfl⟩
        · obtain ⟨hs1, hs2⟩ : ¬ y.size < 1 ∧ ¬ 16 < y.size := by omega
          clear hbad
          by_cases hi0 : i = 0
          · have HG3 : Hid (∀ j, j < i + 1 → goodAt ss j = true) := fun j hj => by
              have : j = i := by omega
              subst this
              exact good_yes (by rw [HY.out]; omega) (by rw [HY.out]; omega) (.inl hi0)
            clear HCL
            subst hi0
            rw [Nat.add_zero] at hcc
            go_wp2
            go_round
            case rel => exact ⟨0 + 1, by go_num, by omega, HG3.out⟩
            case measure => simp [intOf]; omega
          · obtain ⟨z, hz⟩ : ∃ z, strAt ss (i - 1) = z := ⟨_, rfl⟩
            have hcz := HCL.out (i - 1) (by omega)
            rw [hz] at hcz
            have hpos : 0 < i := by omega
            have HZ' := Lib.hid hz
            clear hz HCL hi0
            by_cases hlt' : ltB z y = true
            · have HLT := Lib.hid hlt'
              have hl := fun w => run_leq_str y z w false (by rw [hlt']; rfl)
              clear hlt'
              go_wp2
              go_round
              case rel =>
                refine ⟨i + 1, by go_num, by omega, fun j hj => ?_⟩
                rcases Nat.lt_or_eq_of_le (Nat.le_of_lt_succ hj) with h | rfl
                · exact HG.out j h
                · exact good_yes (by rw [HY.out]; omega) (by rw [HY.out]; omega) (.inr (by rw [HY.out, HZ'.out]; exact HLT.out))
              case measure => simp [intOf]; omega
            · rw [Bool.not_eq_true] at hlt'
              have HLT := Lib.hid hlt'
              have hl := fun w => run_leq_str y z w true (by rw [hlt']; rfl)
              clear hlt'
              go_wp2
              go_ret
              exact ⟨ret_err (by rw [fineB_not (i := i) (by have := HL.out; omega) (good_low hpos (by rw [HY.out, HZ'.out]; exact HLT.out))]; rfl), rfl⟩
      · go_wp2
        go_ret
        exact ⟨ret_err (by rw [fineB_iff.2 ⟨by have := HL.out; omega, fun j hj => HG.out j (by have := HL.out; omega)⟩]; rfl), rfl⟩

/-- What Sort tells: the set, rising, if these are tags that may be; else none. -/
def Sorted (ss : List ByteArray) (w : World) (e : Ending) (w' : World) : Prop :=
  Below w.heap.size w w' ∧ ((fineB (sortU ss) = true ∧ ∃ a c, e = .returned (.tuple #[.slice a (sortU ss).length c, .int .i64 0]) ∧ SReads w' a (sortU ss).length c (sortU ss)) ∨
    (fineB (sortU ss) = false ∧ e = .returned (.tuple #[.slice none 0 0, .int .i64 30])))

theorem sortU_size {ss : List ByteArray} (h : ∀ s ∈ ss, s.size ≤ maxLen) : ∀ s ∈ sortU ss, s.size ≤ maxLen := fun s hs => h s (mem_sortU.1 hs)
end Go.Proofs.YtdmnflncgmnghaaGreat
