/-
  The closures of Match, the library's IndexFunc and ContainsFunc over them, Match itself, each by a walk.
-/
import Derived.Test.YtadkfedglkhgjaaGreatGc
import Derived.Laws.EntriesVeiled
namespace Go.Proofs.YtadkfedglkhgjaaGreat
open Go.RowKit

/-- The closure that asks whether a tag is there. -/
theorem there_reads (b : Nat) (a : Option Addr) (n c : Nat) (ss : List ByteArray) (x : ByteArray) (w : World) (hb : w.cell? ⟨b, 0, none⟩ = some (.slice a n c)) (h : SReads w a n c ss) :
    Calls Tryz.prog 83 #[.string x, .pointer (some ⟨b, 0, none⟩)] w fun e w' => e = .returned (.bool (Lib.containsS ss x)) ∧ w' = w := by
  have HR := Lib.hid h
  clear h
  go_enter Tryz.func83, Tryz.ntmps83
  go_wp2_with (fail)
  refine (contains_reads a n c ss x w HR.out).mono ?_
  rintro e w1 ⟨rfl, rfl⟩
  go_wp2
  go_ret
  exact ⟨rfl, rfl⟩

/-- The closure that asks whether a tag is missing. -/
theorem missing_reads (b b2 : Nat) (a : Option Addr) (n c : Nat) (ss : List ByteArray) (x : ByteArray) (w : World) (hb : w.cell? ⟨b, 0, none⟩ = some (.slice a n c)) (h : SReads w a n c ss)
    (hb2 : w.cell? ⟨b2, 0, none⟩ = some (.func (.func 83) #[] #[.pointer (some ⟨b, 0, none⟩)])) :
    Calls Tryz.prog 85 #[.string x, .pointer (some ⟨b2, 0, none⟩)] w fun e w' => e = .returned (.bool (!Lib.containsS ss x)) ∧ w' = w := by
  have HR := Lib.hid h
  have HB := Lib.hid hb
  clear h hb
  go_enter Tryz.func85, Tryz.ntmps85
  go_wp2_with (fail)
  refine (there_reads b a n c ss x w HB.out HR.out).mono ?_
  rintro e w1 ⟨rfl, rfl⟩
  go_wp2
  go_ret
  exact ⟨rfl, rfl⟩

theorem any_at {p : ByteArray → Bool} {l : List ByteArray} {i n : Nat} (hl : l.length = n) (hi : i < n) (h : p (strAt l i) = true) : l.any p = true := by
  rw [List.any_eq_true]
  exact ⟨_, strAt_mem (by omega), h⟩
theorem any_none {p : ByteArray → Bool} {l : List ByteArray} {n : Nat} (hl : l.length = n) (h : ∀ j, j < n → p (strAt l j) = false) : l.any p = false := by
  rw [List.any_eq_false]
  intro x hx
  obtain ⟨j, hj, e⟩ := List.mem_iff_getElem.1 hx
  have := h j (by omega)
  rw [show strAt l j = x by simpa [strAt, List.getD, hj] using e] at this
  simp [this]
/-- What IndexFunc tells. -/
def Found (b : Bool) (e : Ending) : Prop := ∃ r : Int, e = .returned (.int .i64 r) ∧ decide (0 ≤ r) = b

set_option maxHeartbeats 1600000 in
theorem index_there (b : Nat) (a : Option Addr) (n c : Nat) (ss : List ByteArray) (w : World) (hb : w.cell? ⟨b, 0, none⟩ = some (.slice a n c)) (h : SReads w a n c ss) (a0 : Option Addr) (n0 c0 : Nat) (s0 : List ByteArray) (h0 : SReads w a0 n0 c0 s0) :
    Calls Tryz.prog 122 #[.slice a0 n0 c0, .func (.func 83) #[] #[.pointer (some ⟨b, 0, none⟩)]] w fun e w' => Found (s0.any (Lib.containsS ss)) e ∧ w' = w := by
  have HC := Lib.hid h0.cells
  have HL := Lib.hid h0.len
  have hsm := h0.small
  have HR := Lib.hid h
  have HB := Lib.hid hb
  clear h0 h hb
  go_enter Tryz.func122, Tryz.ntmps122
  go_wp2
  go_loop [8] (fun s8 => ∃ i : Nat, s8 = .int .i64 i ∧ i ≤ n0 ∧ Hid (∀ j, j < i → (Lib.containsS ss) (strAt s0 j) = false)) (fun s8 => n0 - (intOf s8).toNat)
  case atStart => exact ⟨0, rfl, Nat.zero_le _, fun j hj => by omega⟩
  case round =>
    obtain ⟨i, rfl, hi, HN⟩ := hrel
    by_cases hc : i < n0
    · rcases HC.out with h0 | ⟨bb, off, rfl, hlt, hcl⟩
      · omega
      obtain ⟨y, hy⟩ : ∃ y, strAt s0 i = y := ⟨_, rfl⟩
      have hcc := hcl i hc
      rw [hy] at hcc
      have HY := Lib.hid hy
      clear hy hcl
      go_wp2_with (fail)
      refine (there_reads b a n c ss y w HB.out HR.out).mono ?_
      rintro e w1 ⟨rfl, rfl⟩
      by_cases hz : (Lib.containsS ss) y = true
      · have HZ := Lib.hid hz
        go_wp2
        go_ret
        exact ⟨⟨_, rfl, by rw [any_at (p := (Lib.containsS ss)) HL.out hc (by rw [HY.out]; exact HZ.out)]; simp⟩, rfl⟩
      · rw [Bool.not_eq_true] at hz
        have HZ := Lib.hid hz
        go_wp2
        go_round
        case rel =>
          refine ⟨i + 1, by go_num, by omega, fun j hj => ?_⟩
          rcases Nat.lt_or_eq_of_le (Nat.le_of_lt_succ hj) with h | rfl
          · exact HN.out j h
          · rw [HY.out]; exact HZ.out
        case measure => simp [intOf]; omega
    · go_wp2
      go_ret
      exact ⟨⟨_, rfl, by rw [any_none (p := (Lib.containsS ss)) HL.out (fun j hj => HN.out j (by omega))]; rfl⟩, rfl⟩

theorem asks_there (b : Nat) (a : Option Addr) (n c : Nat) (ss : List ByteArray) (w : World) (hb : w.cell? ⟨b, 0, none⟩ = some (.slice a n c)) (h : SReads w a n c ss) (a0 : Option Addr) (n0 c0 : Nat) (s0 : List ByteArray) (h0 : SReads w a0 n0 c0 s0) :
    Calls Tryz.prog 86 #[.slice a0 n0 c0, .func (.func 83) #[] #[.pointer (some ⟨b, 0, none⟩)]] w fun e w' => e = .returned (.bool (s0.any (Lib.containsS ss))) ∧ w' = w := by
  have HR := Lib.hid h
  have H0 := Lib.hid h0
  have HB := Lib.hid hb
  clear h h0 hb
  go_enter Tryz.func86, Tryz.ntmps86
  go_wp2_with (fail)
  refine (index_there b a n c ss w HB.out HR.out a0 n0 c0 s0 H0.out).mono ?_
  rintro e w1 ⟨⟨r, rfl, hr⟩, rfl⟩
  go_wp2
  go_ret
  exact ⟨rfl, rfl⟩

set_option maxHeartbeats 1600000 in
theorem index_missing (b b2 : Nat) (a : Option Addr) (n c : Nat) (ss : List ByteArray) (w : World) (hb : w.cell? ⟨b, 0, none⟩ = some (.slice a n c)) (h : SReads w a n c ss) (hb2 : w.cell? ⟨b2, 0, none⟩ = some (.func (.func 83) #[] #[.pointer (some ⟨b, 0, none⟩)])) (a0 : Option Addr) (n0 c0 : Nat) (s0 : List ByteArray) (h0 : SReads w a0 n0 c0 s0) :
    Calls Tryz.prog 122 #[.slice a0 n0 c0, .func (.func 85) #[] #[.pointer (some ⟨b2, 0, none⟩)]] w fun e w' => Found (s0.any (fun t => !Lib.containsS ss t)) e ∧ w' = w := by
  have HC := Lib.hid h0.cells
  have HL := Lib.hid h0.len
  have hsm := h0.small
  have HR := Lib.hid h
  have HB := Lib.hid hb
  have HB2 := Lib.hid hb2
  clear h0 h hb hb2
  go_enter Tryz.func122, Tryz.ntmps122
  go_wp2
  go_loop [8] (fun s8 => ∃ i : Nat, s8 = .int .i64 i ∧ i ≤ n0 ∧ Hid (∀ j, j < i → (fun t => !Lib.containsS ss t) (strAt s0 j) = false)) (fun s8 => n0 - (intOf s8).toNat)
  case atStart => exact ⟨0, rfl, Nat.zero_le _, fun j hj => by omega⟩
  case round =>
    obtain ⟨i, rfl, hi, HN⟩ := hrel
    by_cases hc : i < n0
    · rcases HC.out with h0 | ⟨bb, off, rfl, hlt, hcl⟩
      · omega
      obtain ⟨y, hy⟩ : ∃ y, strAt s0 i = y := ⟨_, rfl⟩
      have hcc := hcl i hc
      rw [hy] at hcc
      have HY := Lib.hid hy
      clear hy hcl
      go_wp2_with (fail)
      refine (missing_reads b b2 a n c ss y w HB.out HR.out HB2.out).mono ?_
      rintro e w1 ⟨rfl, rfl⟩
      by_cases hz : (fun t => !Lib.containsS ss t) y = true
      · have HZ := Lib.hid hz
        simp only [] at hz
        go_wp2
        go_ret
        exact ⟨⟨_, rfl, by rw [any_at (p := (fun t => !Lib.containsS ss t)) HL.out hc (by rw [HY.out]; exact HZ.out)]; simp⟩, rfl⟩
      · rw [Bool.not_eq_true] at hz
        have HZ := Lib.hid hz
        simp only [] at hz
        go_wp2
        go_round
        case rel =>
          refine ⟨i + 1, by go_num, by omega, fun j hj => ?_⟩
          rcases Nat.lt_or_eq_of_le (Nat.le_of_lt_succ hj) with h | rfl
          · exact HN.out j h
          · rw [HY.out]; exact HZ.out
        case measure => simp [intOf]; omega
    · go_wp2
      go_ret
      exact ⟨⟨_, rfl, by rw [any_none (p := (fun t => !Lib.containsS ss t)) HL.out (fun j hj => HN.out j (by omega))]; rfl⟩, rfl⟩

theorem asks_missing (b b2 : Nat) (a : Option Addr) (n c : Nat) (ss : List ByteArray) (w : World) (hb : w.cell? ⟨b, 0, none⟩ = some (.slice a n c)) (h : SReads w a n c ss) (hb2 : w.cell? ⟨b2, 0, none⟩ = some (.func (.func 83) #[] #[.pointer (some ⟨b, 0, none⟩)])) (a0 : Option Addr) (n0 c0 : Nat) (s0 : List ByteArray) (h0 : SReads w a0 n0 c0 s0) :
    Calls Tryz.prog 86 #[.slice a0 n0 c0, .func (.func 85) #[] #[.pointer (some ⟨b2, 0, none⟩)]] w fun e w' => e = .returned (.bool (s0.any (fun t => !Lib.containsS ss t))) ∧ w' = w := by
  have HR := Lib.hid h
  have H0 := Lib.hid h0
  have HB := Lib.hid hb
  have HB2 := Lib.hid hb2
  clear h h0 hb hb2
  go_enter Tryz.func86, Tryz.ntmps86
  go_wp2_with (fail)
  refine (index_missing b b2 a n c ss w HB.out HR.out HB2.out a0 n0 c0 s0 H0.out).mono ?_
  rintro e w1 ⟨⟨r, rfl, hr⟩, rfl⟩
  go_wp2
  go_ret
  exact ⟨rfl, rfl⟩

theorem match_eq (s0 s1 s2 ss : List ByteArray) : matchB ⟨s0, s1, s2⟩ ss = (!(s0.any (fun t => !Lib.containsS ss t)) && !s2.any (Lib.containsS ss) && (s1.isEmpty || s1.any (Lib.containsS ss))) := by
  have : s0.all (Lib.containsS ss) = !(s0.any (fun t => !Lib.containsS ss t)) := by
    rw [Bool.eq_iff_iff]
    simp
  rw [matchB, this]

theorem boxes (w : World) (f l g : Array Value) (t1 t2 t3 : TypeId) (x y : Value) (hl : l[0]? = some x) (hg : g[0]? = some y) :
    (((w.alloc (.cells f t1)).alloc (.cells l t2)).alloc (.cells g t3)).cell? ⟨w.heap.size + 1, 0, none⟩ = some x ∧ (((w.alloc (.cells f t1)).alloc (.cells l t2)).alloc (.cells g t3)).cell? ⟨w.heap.size + 1 + 1, 0, none⟩ = some y ∧
    Below w.heap.size w (((w.alloc (.cells f t1)).alloc (.cells l t2)).alloc (.cells g t3)) := by
  refine ⟨?_, ?_, (((Below.refl _ w).alloc (Nat.le_refl _) _).alloc (by simp) _).alloc (by simp; omega) _⟩
  · rw [World.cell?_alloc_past _ _ _ (by simp), World.cell?_alloc_at _ _ _ _ (by simp), hl]
  · rw [World.cell?_alloc_at _ _ _ _ (by simp), hg]

set_option maxHeartbeats 1600000 in
theorem match_reads (a0 a1 a2 a : Option Addr) (n0 c0 n1 c1 n2 c2 n c : Nat) (s0 s1 s2 ss : List ByteArray) (w : World) (h0 : SReads w a0 n0 c0 s0) (h1 : SReads w a1 n1 c1 s1) (h2 : SReads w a2 n2 c2 s2) (h : SReads w a n c ss) :
    Calls Tryz.prog 45 #[.agg #[.slice a0 n0 c0, .slice a1 n1 c1, .slice a2 n2 c2], .slice a n c] w fun e w' => e = .returned (.bool (matchB ⟨s0, s1, s2⟩ ss)) ∧ Below w.heap.size w w' := by
  have H0 := Lib.hid h0
  have H1 := Lib.hid h1
  have H2 := Lib.hid h2
  have HH := Lib.hid h
  have L1 := Lib.hid h1.len
  clear h0 h1 h2 h
  go_enter Tryz.func45, Tryz.ntmps45
  go_wp2_with (fail)
  have hbx := boxes w #[.slice a0 n0 c0, .slice a1 n1 c1, .slice a2 n2 c2] #[.slice a n c] #[.func (.func 83) #[] #[.pointer (some ⟨w.heap.size + 1, 0, none⟩)]] 33 29 140 _ _ rfl rfl
  obtain ⟨k1, k2, hB⟩ := hbx
  have K1 := Lib.hid k1
  have K2 := Lib.hid k2
  have HB := Lib.hid hB
  clear k1 k2 hB
  refine (asks_missing _ _ a n c ss _ K1.out (HH.out.on HB.out) K2.out a0 n0 c0 s0 (H0.out.on HB.out)).mono ?_
  rintro e w1 ⟨rfl, rfl⟩
  by_cases hA : (s0.any fun t => !Lib.containsS ss t) = true
  · have HA := Lib.hid hA
    go_wp2
    go_ret
    exact ⟨ret_bool (by rw [match_eq, HA.out]; rfl), HB.out⟩
  · rw [Bool.not_eq_true] at hA
    have HA := Lib.hid hA
    go_wp2_with (fail)
    refine (asks_there _ a n c ss _ K1.out (HH.out.on HB.out) a2 n2 c2 s2 (H2.out.on HB.out)).mono ?_
    rintro e w1 ⟨rfl, rfl⟩
    by_cases hC : s2.any (Lib.containsS ss) = true
    · have HC := Lib.hid hC
      go_wp2
      go_ret
      exact ⟨ret_bool (by rw [match_eq, HA.out, HC.out]; rfl), HB.out⟩
    · rw [Bool.not_eq_true] at hC
      have HC := Lib.hid hC
      by_cases h0 : n1 = 0
      · subst h0
        go_wp2
        go_ret
        refine ⟨ret_bool ?_, HB.out⟩
        have : s1 = [] := List.eq_nil_of_length_eq_zero L1.out
        rw [match_eq, HA.out, HC.out, this]
        rfl
      · have hne : s1.isEmpty = false := by
          cases s1 with
          | nil => exact absurd L1.out.symm h0
          | cons x l => rfl
        have HNE := Lib.hid hne
        clear hne
        go_wp2_with (fail)
        refine (asks_there _ a n c ss _ K1.out (HH.out.on HB.out) a1 n1 c1 s1 (H1.out.on HB.out)).mono ?_
        rintro e w1 ⟨rfl, rfl⟩
        go_wp2
        go_ret
        refine ⟨ret_bool ?_, HB.out⟩
        rw [match_eq, HA.out, HC.out, HNE.out]
        simp
        exact fun hh => absurd hh h0
end Go.Proofs.YtadkfedglkhgjaaGreat
