/-
  List; mathematics of heaps and of lists in order. (To, Hp, Hs merged.)
-/
import Derived.Test.YtadkfedglkhgjaaGreatTn1
import Derived.Laws.MakeOwn
namespace Go.Proofs.YtadkfedglkhgjaaGreat
open Go.RowKit

/-- What is told of a heap: its tops, taken out one behind the other, the last one first. -/
def drainL : Nat → List Hit → List Hit → List Hit
  | 0, _, acc => acc
  | _ + 1, [], acc => acc
  | n + 1, x :: xs, acc => drainL n (popL (x :: xs)) (x :: acc)

theorem swapL_take_len (xs : List Hit) (k : Nat) (h : k ≤ xs.length) : (xs.take k).length = k := by simp; omega
theorem sinkL_len (xs : List Hit) (i : Nat) : (sinkL xs i).length = xs.length := by
  fun_induction sinkL xs i with
  | case1 xs i h1 h2 ih => rw [ih, swapL_len]
  | case2 => rfl
  | case3 => rfl
theorem popL_len (x : Hit) (xs : List Hit) : (popL (x :: xs)).length = xs.length := by
  rw [popL, sinkL_len]; simp

/-- What the first statement of List leaves: a heap of its own. -/
def ListCut (w : World) (c : Nat) (xs : List Hit) (s3 : Value) (wx : World) : Prop :=
  ∃ (L : Nat) (v' : Value), s3 = .pointer (some ⟨L, 0, none⟩) ∧ HeapAt wx L 0 c 143 [] v' xs ∧ Below w.heap.size w wx ∧ w.heap.size ≤ L ∧ ∀ k, v'.ownBlock = some k → w.heap.size ≤ k

theorem cut_late {w w2 : World} {b c room n : Nat} {v : Value} {xs : List Hit} {a' : Option Addr} {cap' : Nat} (H : BestAt w b c room v xs) (ho : Own w2 51 (.slice a' n cap') xs) (hb : Below w.drew.heap.size w.drew w2) (hk : ∀ k, (Value.slice a' n cap').ownBlock = some k → w.drew.heap.size ≤ k) :
    ListCut w c xs (.pointer (some ⟨w2.heap.size, 0, none⟩)) (w2.alloc (.cells #[.slice a' n cap', .func (.func 131) #[] #[.pointer (some ⟨c, 0, none⟩)]] 143)) := by
  have hB : Below w.heap.size w w2 := (Below.refl _ _).drew.trans hb
  have H2 := H.grow hB
  exact ⟨_, _, rfl, ⟨rfl, .inl rfl, Blk.new w2 _ _, H2.fn.alloc _, World.ownsRow.alloc ho _⟩, hB.alloc hB.size _, hB.size, hk⟩

theorem cut_soon {w w2 : World} {b c room n : Nat} {v : Value} {xs : List Hit} {a' : Option Addr} {cap' : Nat} (H : BestAt w b c room v xs) (ho : Own w2 51 (.slice a' n cap') xs) (hb : Below (w.alloc (.cells #[.slice none 0 0, .nilFunc] 143)).drew.heap.size (w.alloc (.cells #[.slice none 0 0, .nilFunc] 143)).drew w2) (hk : ∀ k, (Value.slice a' n cap').ownBlock = some k → (w.alloc (.cells #[.slice none 0 0, .nilFunc] 143)).drew.heap.size ≤ k) :
    ListCut w c xs (.pointer (some ⟨w.heap.size, 0, none⟩)) ((w2.setCell ⟨w.heap.size, 0, none⟩ (.slice a' n cap')).setCell ⟨w.heap.size, 1, none⟩ (.func (.func 131) #[] #[.pointer (some ⟨c, 0, none⟩)])) := by
  have hA : Below w.heap.size w (w.alloc (.cells #[.slice none 0 0, .nilFunc] 143)).drew := ((Below.refl _ _).alloc (Nat.le_refl _) _).drew
  have hB : Below w.heap.size w w2 := hA.trans (hb.mono hA.size)
  have H2 := H.grow hB
  have hz : w.heap.size < (w.alloc (.cells #[.slice none 0 0, .nilFunc] 143)).drew.heap.size := by simp
  have hL : Blk w2 w.heap.size 143 [.slice none 0 0, .nilFunc] := (Blk.new w 143 #[.slice none 0 0, .nilFunc]).drew.of_eq (hb.block _ hz)
  have h1 := (hL.set 0 (.slice a' n cap')).set 1 (.func (.func 131) #[] #[.pointer (some ⟨c, 0, none⟩)])
  have hc := H.fn.lt
  refine ⟨_, _, rfl, ⟨rfl, .inl rfl, h1, (H2.fn.far (by simp; omega) _).far (by simp; omega) _, ?_⟩, (hB.setCell (by simp) _).setCell (by simp) _, Nat.le_refl _, fun k hk' => by have := hk k hk'; simp at this; omega⟩
  exact Kept.own (F := [w.heap.size]) (((Kept.refl _ _).setCell _ _ (by simp)).setCell _ _ (by simp)) ho (fun k hk' => by have := hk k hk'; simp at this ⊢; omega)

theorem split_two (l : List Value) (m : Nat) (h : l.length = (m + 1) * 2) : ∃ p a b, l = p ++ [a, b] ∧ p.length = m * 2 := by
  have h1 : (l.drop (m * 2)).length = 2 := by simp; omega
  match e : l.drop (m * 2), h1 with
  | [a, b], _ => exact ⟨l.take (m * 2), a, b, by rw [← e, List.take_append_drop], by simp; omega⟩
theorem set_two (p l : List Value) (a b x y : Value) (m : Nat) (h : p.length = m * 2) : (((p ++ [a, b]) ++ l).set (m * 2) x).set (m * 2 + 1) y = p ++ x :: y :: l := by
  rw [← h]
  simp

set_option maxHeartbeats 6400000 in
theorem list_any (b c room : Nat) (v : Value) (xs : List Hit) (w : World) (h : BestAt w b c room v xs) (hs : xs.length ≤ 1000000) :
    Calls Tryz.prog 47 #[.pointer (some ⟨b, 0, none⟩)] w fun e w' => ∃ g, e = .returned (.slice (some ⟨g, 0, none⟩) xs.length xs.length) ∧ Own w' 51 (.slice (some ⟨g, 0, none⟩) xs.length xs.length) (drainL xs.length xs []) ∧ Below w.heap.size w w' ∧ w.heap.size ≤ g := by
  have H := Lib.hid h
  have c1 := h.cell0
  have c2 := h.cell1
  have l0 := h.self.lt
  unfold fnV at c2
  have c3 : w.cell? ⟨b, 2, none⟩ = some (.func (.func 131) #[] #[.pointer (some ⟨c, 0, none⟩)]) := c2
  obtain ⟨i0, hi0, hz0, hz1, hz2⟩ := info_parts hit_info
  obtain ⟨mc, hmc, hmk⟩ : ∃ mc : Array Value, mc.size = xs.length * 2 ∧ ∀ w, (Instr.makeSlice 47 (.int .i64 (xs.length : Int)) (.int .i64 (xs.length : Int))).run Tryz.prog w = .ok (.slice (some ⟨w.heap.size, 0, none⟩) xs.length xs.length) (w.alloc (.cells mc 51)) := by
    refine ⟨madeCells #[.int .i64 0, .int .u32 0] (xs.length * 2), size_madeCells _ _, fun w => ?_⟩
    have := run_make (P := Tryz.prog) w 47 51 i0 _ Tryz.underlying47 hi0 hz0 .i64 .i64 xs.length xs.length (by omega) (by omega) (by rw [hz2]; omega) (by omega)
    rw [hz1] at this
    simpa [Value.cells] using this
  have HM := Lib.hid hmc
  clear h hmc hi0 hz0 hz1 hz2
  go_enter Tryz.func47, Tryz.ntmps47
  go_upto_region 1 with fail
  go_cut [3] (fun s3 wx => ListCut w c xs s3 wx)
  case first =>
    go_region_with (go_at_call 91; refine (clone_any v xs _ (Own.kept (HeapAt.own H.out) (show Kept [] w _ from by first | exact (Kept.refl [] _).drew | exact ((Kept.refl [] _).alloc _).drew) (by simp)) hs).mono ?_; rintro e w2 ⟨v', rfl, ho, hb, hk⟩; obtain ⟨a', cap', rfl⟩ := ho.size; obtain ⟨sc, sf, sz⟩ := seen hb; have k1 : w2.cell? ⟨b, 2, none⟩ = some (.func (.func 131) #[] #[.pointer (some ⟨c, 0, none⟩)]) := (by rw [sc b 2 (by simp; omega)]; first | (simp [go_sem, c3]; done) | simp [go_sem, c3, l0]); (try (have k2 : w2.cell? ⟨w.heap.size, 0, none⟩ = some (.slice none 0 0) := (by rw [sc _ 0 (by simp)]; simp [go_sem]); have k3 : w2.cell? ⟨w.heap.size, 1, none⟩ = some .nilFunc := (by rw [sc _ 1 (by simp)]; simp [go_sem]); have k4 : w2.frozen? ⟨w.heap.size, 0, none⟩ = false := (by rw [sf _ 0 (by simp)]; simp [go_sem]); have k5 : w2.frozen? ⟨w.heap.size, 1, none⟩ = false := (by rw [sf _ 1 (by simp)]; simp [go_sem]); have k6 : w.heap.size < w2.heap.size := by simp at sz; omega)); have k7 : b < w2.heap.size := (by simp at sz; omega); clear sc sf sz; replace ho := Lib.hid ho; replace hb := Lib.hid hb; replace hk := Lib.hid hk)
    all_goals (go_wp2_with (fail); go_meet; first | exact cut_late H.out ho.out hb.out hk.out | exact cut_soon H.out ho.out hb.out hk.out)
  case rest =>
    clear c1 c2 c3
    obtain ⟨L, v', rfl, hh, hB, hL, hrow⟩ := hcut
    have HH := Lib.hid hh
    have HB := Lib.hid hB
    have HB0 := Lib.hid (H.out.grow hB)
    have HR := Lib.hid hrow
    clear hh hB hrow H l0
    go_wp2_with (fail)
    refine (len_any b c room v xs _ HB0.out).mono ?_
    rintro e w3 ⟨rfl, rfl⟩
    clear HB0
    have l3 : w.heap.size ≤ wc.heap.size := HB.out.size
    have HH1 := Lib.hid (HH.out.kept ((Kept.refl [] _).alloc (.cells mc 51)) (by simp) (by simp) (by simp))
    have HG1 := Lib.hid (Blk.new wc 51 mc)
    have HB1 := Lib.hid (HB.out.alloc HB.out.size (.cells mc 51))
    have HR1 := Lib.hid (fun k hk => show k ≠ wc.heap.size from fun e => by have := HH.out.own.lt k hk; omega)
    clear HH HB
    go_wp2
    generalize wc.alloc (.cells mc 51) = w1 at *
    generalize wc.heap.size = G at *
    go_loopw [23] (fun s23 wr => ∃ (k : Nat) (hp done : List Hit) (v'' : Value) (pre : List Value), s23 = .int .i64 k ∧ k ≤ xs.length ∧ Hid (hp.length + k = xs.length) ∧ Hid (done.length = k) ∧ Hid (pre.length = hp.length * 2) ∧ Hid (drainL hp.length hp done = drainL xs.length xs []) ∧
        Hid (HeapAt wr L 0 c 143 [] v'' hp) ∧ Hid (Blk wr G 51 (pre ++ flat done)) ∧ Hid (Below w.heap.size w wr) ∧ Hid (∀ j, v''.ownBlock = some j → w.heap.size ≤ j ∧ j ≠ G)) (fun s23 _ => xs.length - (intOf s23).toNat)
    case atStart => exact ⟨0, xs, [], v', mc.toList, rfl, Nat.zero_le _, rfl, rfl, by have := HM.out; simpa [Hid] using this, rfl, HH1.out, by simpa [Hid, flat] using HG1.out, HB1.out, fun j hj => ⟨HR.out j hj, HR1.out j hj⟩⟩
    case round =>
      clear HH1 HG1 HB1 HR1 HR HM hmk
      obtain ⟨k, hp, done, v'', pre, rfl, hk, HN, HD, HP, HX, HH, HG, HB, HR⟩ := hrel
      by_cases hlt : k < xs.length
      · obtain ⟨m, hm⟩ : ∃ m, m = xs.length - 1 - k := ⟨_, rfl⟩
        have hm1 : (xs.length : Int) - 1 - (k : Int) = (m : Int) := by omega
        have hml : hp.length = m + 1 := by have := HN.out; omega
        obtain ⟨x, ys, rfl⟩ : ∃ x ys, hp = x :: ys := by
          cases hp with
          | nil => simp at hml
          | cons x ys => exact ⟨x, ys, rfl⟩
        have hym : ys.length = m := by simpa using hml
        obtain ⟨gr, cap, rfl⟩ : ∃ gr cap, v'' = .slice (some ⟨gr, 0, none⟩) (x :: ys).length cap := by
          rcases HH.out.own.form with ⟨_, e⟩ | ⟨gr, cap, _, e, _⟩
          · cases e
          · exact ⟨gr, cap, e⟩
        have hgr := HR.out gr rfl
        obtain ⟨hgr1, hgr2⟩ := hgr
        have hmx : m < xs.length := by omega
        have HM1 := Lib.hid hm1
        have HY := Lib.hid hym
        clear hm1 hml hym hm
        go_wp2_with (fail)
        rw [HM1.out]
        refine (pop_any L 0 c gr _ cap 143 [] x ys _ HH.out (by have := HY.out; omega)).mono ?_
        rintro e w3 ⟨rfl, h4, k4⟩
        have hLG := (HH.out.ne HG.out).1
        have G4 := k4.blk HG.out (by simp; omega)
        obtain ⟨p, u0, u1, rfl, hpl⟩ := split_two pre m (by have := HP.out; have := HY.out; simp at *; omega)
        have d0 := G4.cell (m * 2)
        have d1 := G4.cell (m * 2 + 1)
        rw [List.append_assoc, ← hpl, List.getElem?_append_right (Nat.le_refl _), hpl] at d0
        rw [List.append_assoc, List.getElem?_append_right (by omega), hpl] at d1
        simp at d0 d1
        have f0 := G4.frozen (m * 2)
        have f1 := G4.frozen (m * 2 + 1)
        have l4 := G4.lt
        have G5 := (G4.set (m * 2) (.int .i64 x.1)).set (m * 2 + 1) (.int .u32 x.2)
        rw [set_two p _ u0 u1 _ _ m hpl] at G5
        have hKG : Kept [G] w3 ((w3.setCell ⟨G, m * 2, none⟩ (.int .i64 x.1)).setCell ⟨G, m * 2 + 1, none⟩ (.int .u32 x.2)) := ((Kept.refl _ _).setCell _ _ (by simp)).setCell _ _ (by simp)
        have hcG := (HH.out.ne HG.out).2
        have H5 := Lib.hid (h4.kept hKG (by simp; omega) (by simp; omega) (by simp [Value.ownBlock]; omega))
        have B5 := Lib.hid (HB.out.trans ((k4.below (B := w.heap.size) (by simp; omega) HB.out.size).trans ((((Below.refl w.heap.size w3).setCell (p := ⟨G, m * 2, none⟩) l3 (.int .i64 x.1))).setCell (p := ⟨G, m * 2 + 1, none⟩) l3 (.int .u32 x.2))))
        have G6 := Lib.hid G5
        have HPL := Lib.hid hpl
        clear h4 k4 G4 hKG G5 hpl HH HG HB
        go_wp2
        go_roundw
        case rel =>
          have hy := HY.out
          exact ⟨k + 1, popL (x :: ys), x :: done, .slice (some ⟨gr, 0, none⟩) ys.length cap, p, by go_num, by omega, by have := HN.out; unfold Hid; rw [popL_len]; simp at this; omega, by have := HD.out; unfold Hid; simp; omega, by have := HPL.out; unfold Hid; rw [popL_len]; omega,
            by have := HX.out; unfold Hid; rw [popL_len]; simpa [drainL] using this, H5.out, by simpa [Hid, flat] using G6.out, B5.out, fun j hj => by simp [Value.ownBlock] at hj; subst hj; exact ⟨hgr1, hgr2⟩⟩
        case measure => simp [intOf]; omega
      · go_wp2
        go_ret
        have hkn : k = xs.length := by omega
        subst hkn
        have hp0 : hp = [] := by
          have := HN.out
          exact List.eq_nil_of_length_eq_zero (by omega)
        subst hp0
        have hpre : pre = [] := List.eq_nil_of_length_eq_zero (by have := HP.out; simpa using this)
        subst hpre
        have hd := HX.out
        simp only [List.length_nil, drainL] at hd
        refine ⟨G, rfl, ?_, HB.out, ?_⟩
        · rw [← hd]
          have hdl := HD.out
          have hf := flat_len done
          have := Own.mk (cap := xs.length) (xs := done) (rest := []) (by simpa using HG.out) (by omega) (by unfold maxLen; omega) (by simp; omega)
          rwa [hdl] at this
        · exact l3

theorem ltH_irrefl (a : Hit) : ltH a a = false := by simp [ltH, lessV]
theorem ltH_asymm {a b : Hit} (h : ltH a b = true) : ltH b a = false := by
  simp only [ltH, lessV, Bool.or_eq_true, Bool.and_eq_true, decide_eq_true_eq, Bool.or_eq_false_iff, Bool.and_eq_false_iff, decide_eq_false_iff_not] at *
  omega
theorem ge_trans {a b c : Hit} (h : ltH a b = false) (k : ltH b c = false) : ltH a c = false := by
  simp only [ltH, lessV, Bool.or_eq_false_iff, Bool.and_eq_false_iff, decide_eq_false_iff_not] at *
  omega
theorem ge_antisymm {a b : Hit} (h : ltH a b = false) (k : ltH b a = false) : a = b := by
  simp only [ltH, lessV, Bool.or_eq_false_iff, Bool.and_eq_false_iff, decide_eq_false_iff_not] at *
  exact Prod.ext (by omega) (by omega)
theorem ltH_trans {a b c : Hit} (h : ltH a b = true) (k : ltH c b = false) : ltH a c = true := by
  simp only [ltH, lessV, Bool.or_eq_true, Bool.and_eq_true, decide_eq_true_eq, Bool.or_eq_false_iff, Bool.and_eq_false_iff, decide_eq_false_iff_not] at *
  omega

/-- The hit at i. -/
abbrev at0 (xs : List Hit) (i : Nat) : Hit := xs.getD i (0, 0)

theorem swapL_at (xs : List Hit) (i j k : Nat) (hi : i < xs.length) (hj : j < xs.length) : at0 (swapL xs i j) k = if k = j then at0 xs i else if k = i then at0 xs j else at0 xs k := by
  unfold at0 swapL
  simp only [List.getD_eq_getElem?_getD, List.getElem?_set, List.length_set]
  by_cases h1 : k = j
  · subst h1
    simp [hj]
  · by_cases h2 : k = i
    · subst h2
      have h1' : ¬ j = k := fun e => h1 e.symm
      simp [h1, h1', hi]
    · have h1' : ¬ j = k := fun e => h1 e.symm
      have h2' : ¬ i = k := fun e => h2 e.symm
      simp [h1, h2, h1', h2']
theorem swapL_perm (xs : List Hit) (i j : Nat) (hi : i < xs.length) (hj : j < xs.length) : (swapL xs i j).Perm xs := by
  have := @List.set_set_perm _ xs i j hi hj
  simpa [swapL, List.getD_eq_getElem?_getD, hi, hj] using this

/-- No hit is below one that is less. -/
def HeapP (xs : List Hit) : Prop := ∀ i, 0 < i → i < xs.length → ltH (at0 xs ((i - 1) / 2)) (at0 xs i) = false

theorem riseL_perm (xs : List Hit) (i : Nat) (hi : i < xs.length) : (riseL xs i).Perm xs := by
  fun_induction riseL xs i with
  | case1 xs i h1 h2 ih => exact (ih (by rw [swapL_len]; omega)).trans (swapL_perm xs i _ hi (by omega))
  | case2 => exact .refl _
  | case3 => exact .refl _
theorem riseL_heap (xs : List Hit) (i : Nat) (hi : i < xs.length) (h : ∀ j, 0 < j → j < xs.length → j ≠ i → ltH (at0 xs ((j - 1) / 2)) (at0 xs j) = false)
    (hg : 0 < i → ∀ j, 0 < j → j < xs.length → (j - 1) / 2 = i → ltH (at0 xs ((i - 1) / 2)) (at0 xs j) = false) : HeapP (riseL xs i) := by
  fun_induction riseL xs i with
  | case1 xs i h1 h2 ih =>
    have hp : (i - 1) / 2 < xs.length := by omega
    refine ih (by rw [swapL_len]; exact hp) ?_ ?_
    · intro j hj hjl hne
      rw [swapL_len] at hjl
      rw [swapL_at _ _ _ _ hi hp, swapL_at _ _ _ _ hi hp]
      by_cases hji : j = i
      · subst hji
        rw [if_pos rfl, if_neg hne, if_pos rfl]
        exact ltH_asymm h2
      · rw [if_neg hne, if_neg hji]
        by_cases hpj : (j - 1) / 2 = (i - 1) / 2
        · rw [if_pos hpj]
          have := h j hj hjl hji
          rw [hpj] at this
          exact ge_trans (ltH_asymm h2) this
        · rw [if_neg hpj]
          by_cases hpi : (j - 1) / 2 = i
          · rw [if_pos hpi]
            exact hg h1 j hj hjl hpi
          · rw [if_neg hpi]
            exact h j hj hjl hji
    · intro hi0 j hj hjl hpj
      rw [swapL_len] at hjl
      rw [swapL_at _ _ _ _ hi hp, swapL_at _ _ _ _ hi hp]
      have e1 : ¬ ((i - 1) / 2 - 1) / 2 = (i - 1) / 2 := by omega
      have e2 : ¬ ((i - 1) / 2 - 1) / 2 = i := by omega
      rw [if_neg e1, if_neg e2]
      have hq := h ((i - 1) / 2) hi0 hp (by omega)
      by_cases hji : j = i
      · subst hji
        rw [if_neg (by omega), if_pos rfl]
        exact hq
      · rw [if_neg (by omega), if_neg hji]
        have := h j hj hjl hji
        rw [hpj] at this
        exact ge_trans hq this
  | case2 xs i h1 h2 =>
    intro j hj hjl
    by_cases hji : j = i
    · subst hji
      simpa using h2
    · exact h j hj hjl hji
  | case3 xs i h1 =>
    intro j hj hjl
    exact h j hj hjl (by omega)

theorem childL_ge (xs : List Hit) (i j : Nat) (hj : 0 < j) (hjl : j < xs.length) (hp : (j - 1) / 2 = i) : ltH (at0 xs (childL xs i)) (at0 xs j) = false := by
  unfold childL
  have : j = 2 * i + 1 ∨ j = 2 * i + 2 := by omega
  rcases this with rfl | rfl
  · split
    · next h => exact ltH_asymm h.2
    · exact ltH_irrefl _
  · split
    · exact ltH_irrefl _
    · next h =>
      cases e : ltH (at0 xs (2 * i + 1)) (at0 xs (2 * i + 2)) with
      | false => rfl
      | true => exact absurd ⟨hjl, e⟩ h
theorem sinkL_perm (xs : List Hit) (i : Nat) (hi : i < xs.length ∨ xs = []) : (sinkL xs i).Perm xs := by
  fun_induction sinkL xs i with
  | case1 xs i h1 h2 ih =>
    have hi' : i < xs.length := by rcases hi with h | h; exact h; subst h; simp at h1
    exact (ih (.inl (by rw [swapL_len]; exact h1))).trans (swapL_perm xs i _ hi' h1)
  | case2 => exact .refl _
  | case3 => exact .refl _
theorem sinkL_heap (xs : List Hit) (i : Nat) (hi : i < xs.length ∨ xs = []) (h : ∀ j, 0 < j → j < xs.length → (j - 1) / 2 ≠ i → ltH (at0 xs ((j - 1) / 2)) (at0 xs j) = false)
    (hg : 0 < i → ∀ j, 0 < j → j < xs.length → (j - 1) / 2 = i → ltH (at0 xs ((i - 1) / 2)) (at0 xs j) = false) : HeapP (sinkL xs i) := by
  fun_induction sinkL xs i with
  | case1 xs i h1 h2 ih =>
    have hi' : i < xs.length := by rcases hi with h | h; exact h; subst h; simp at h1
    have hc := childL_or xs i
    have hge := childL_ge xs i
    generalize childL xs i = m at *
    have hpm : (m - 1) / 2 = i := by omega
    refine ih (.inl (by rw [swapL_len]; exact h1)) ?_ ?_
    · intro j hj hjl hne
      rw [swapL_len] at hjl
      rw [swapL_at _ _ _ _ hi' h1, swapL_at _ _ _ _ hi' h1, if_neg hne]
      by_cases hpi : (j - 1) / 2 = i
      · rw [if_pos hpi, if_neg (show ¬ j = i by omega)]
        by_cases hjm : j = m
        · rw [if_pos hjm]
          exact ltH_asymm h2
        · rw [if_neg hjm]
          exact hge j hj hjl hpi
      · rw [if_neg hpi, if_neg (show ¬ j = m by omega)]
        by_cases hji : j = i
        · rw [if_pos hji]
          subst hji
          exact hg hj m (by omega) h1 hpm
        · rw [if_neg hji]
          exact h j hj hjl hpi
    · intro hm0 j hj hjl hpj
      rw [swapL_len] at hjl
      rw [swapL_at _ _ _ _ hi' h1, swapL_at _ _ _ _ hi' h1, hpm, if_neg (show ¬ i = m by omega), if_pos rfl, if_neg (show ¬ j = m by omega), if_neg (show ¬ j = i by omega)]
      have := h j hj hjl (by omega)
      rwa [hpj] at this
  | case2 xs i h1 h2 =>
    intro j hj hjl
    by_cases hpi : (j - 1) / 2 = i
    · rw [hpi]
      exact ge_trans (by simpa using h2) (childL_ge xs i j hj hjl hpi)
    · exact h j hj hjl hpi
  | case3 xs i h1 =>
    intro j hj hjl
    have hc := childL_or xs i
    refine h j hj hjl (fun hpi => ?_)
    have : j = 2 * i + 1 ∨ j = 2 * i + 2 := by omega
    rcases hc with hc | hc
    · rw [hc] at h1; omega
    · rw [hc] at h1
      unfold childL at hc
      split at hc
      · next hh => omega
      · omega

theorem heap_root (xs : List Hit) (h : HeapP xs) (i : Nat) (hi : i < xs.length) : ltH (at0 xs 0) (at0 xs i) = false := by
  induction i using Nat.strongRecOn with
  | ind i ih =>
    by_cases h0 : i = 0
    · subst h0; exact ltH_irrefl _
    · exact ge_trans (ih ((i - 1) / 2) (by omega) (by omega)) (h i (by omega) hi)

/-- In order, the least first. -/
def InOrder (l : List Hit) : Prop := l.Pairwise (fun a b => ltH b a = false)

/-- x is put into a list that is in order. -/
def ins (x : Hit) : List Hit → List Hit
  | [] => [x]
  | y :: l => if ltH x y = true then x :: y :: l else y :: ins x l
theorem ins_len (x : Hit) (l : List Hit) : (ins x l).length = l.length + 1 := by
  induction l with
  | nil => rfl
  | cons y l ih => unfold ins; split <;> simp [ih]
theorem ins_perm (x : Hit) (l : List Hit) : (ins x l).Perm (x :: l) := by
  induction l with
  | nil => exact .refl _
  | cons y l ih =>
    unfold ins
    split
    · exact .refl _
    · exact (ih.cons y).trans (.swap x y l)
theorem ins_order (x : Hit) (l : List Hit) (h : InOrder l) : InOrder (ins x l) := by
  induction l with
  | nil => simp [ins, InOrder]
  | cons y l ih =>
    unfold InOrder at h ih ⊢
    rw [List.pairwise_cons] at h
    unfold ins
    split
    · next hlt =>
      rw [List.pairwise_cons, List.pairwise_cons]
      refine ⟨fun z hz => ?_, h⟩
      rcases List.mem_cons.1 hz with rfl | hz
      · exact ltH_asymm hlt
      · exact ge_trans (h.1 z hz) (ltH_asymm hlt)
    · next hge =>
      rw [List.pairwise_cons]
      refine ⟨fun z hz => ?_, ih h.2⟩
      rcases List.mem_cons.1 ((ins_perm x l).mem_iff.1 hz) with rfl | hz
      · simpa using hge
      · exact h.1 z hz
theorem order_eq {l m : List Hit} (hl : InOrder l) (hm : InOrder m) (hp : l.Perm m) : l = m := by
  induction l generalizing m with
  | nil => exact (List.Perm.nil_eq hp)
  | cons x l ih =>
    cases m with
    | nil => exact absurd hp.symm (by simp)
    | cons y m =>
      unfold InOrder at hl hm
      rw [List.pairwise_cons] at hl hm
      have hxy : x = y := by
        have h1 : x ∈ y :: m := hp.mem_iff.1 (by simp)
        have h2 : y ∈ x :: l := hp.mem_iff.2 (by simp)
        rcases List.mem_cons.1 h1 with h1 | h1
        · exact h1
        rcases List.mem_cons.1 h2 with h2 | h2
        · exact h2.symm
        exact ge_antisymm (hm.1 x h1) (hl.1 y h2)
      subst hxy
      rw [ih hl.2 hm.2 (List.Perm.cons_inv hp)]

/-- A list put in order. -/
def sortL (l : List Hit) : List Hit := l.foldl (fun s x => ins x s) []
theorem fold_order (l s : List Hit) (h : InOrder s) : InOrder (l.foldl (fun s x => ins x s) s) := by
  induction l generalizing s with
  | nil => exact h
  | cons x l ih => exact ih _ (ins_order x s h)
theorem fold_perm (l s : List Hit) : (l.foldl (fun s x => ins x s) s).Perm (l ++ s) := by
  induction l generalizing s with
  | nil => exact .refl _
  | cons x l ih =>
    refine (ih _).trans ?_
    exact ((ins_perm x s).append_left l).trans (by simp)
theorem sortL_order (l : List Hit) : InOrder (sortL l) := fold_order l [] (by simp [InOrder])
theorem sortL_perm (l : List Hit) : (sortL l).Perm l := by simpa [sortL] using fold_perm l []
theorem sortL_len (l : List Hit) : (sortL l).length = l.length := (sortL_perm l).length_eq
theorem sortL_eq {l m : List Hit} (h : l.Perm m) : sortL l = sortL m := order_eq (sortL_order l) (sortL_order m) ((sortL_perm l).trans (h.trans (sortL_perm m).symm))
theorem sortL_snoc (l : List Hit) (x : Hit) : sortL (l ++ [x]) = ins x (sortL l) := by simp [sortL]

theorem ins_last (x s : Hit) (l : List Hit) (h : InOrder (l ++ [s])) : ins x (l ++ [s]) = if ltH x s = true then ins x l ++ [s] else l ++ [s, x] := by
  induction l with
  | nil => simp only [List.nil_append, ins]; split <;> simp
  | cons y l ih =>
    have h' : InOrder (l ++ [s]) := by unfold InOrder at h ⊢; rw [List.cons_append, List.pairwise_cons] at h; exact h.2
    have hys : ltH s y = false := by unfold InOrder at h; rw [List.cons_append, List.pairwise_cons] at h; exact h.1 s (by simp)
    simp only [List.cons_append, ins]
    rw [ih h']
    by_cases h1 : ltH x y = true
    · have : ltH x s = true := ltH_trans h1 hys
      simp [h1, this]
    · by_cases h2 : ltH x s = true
      · simp [h1, h2]
      · simp [h1, h2]

theorem take_ins (x : Hit) (s : List Hit) (k : Nat) : (ins x (s.take k)).take k = (ins x s).take k := by
  induction s generalizing k with
  | nil => simp
  | cons y s ih =>
    cases k with
    | zero => simp
    | succ k =>
      simp only [List.take_succ_cons, ins]
      split
      · cases k with
        | zero => simp
        | succ k => simp [List.take_take]
      · simp [ih]
theorem fold_take (l s : List Hit) (k : Nat) : l.foldl (fun s x => (ins x s).take k) (s.take k) = (l.foldl (fun s x => ins x s) s).take k := by
  induction l generalizing s with
  | nil => rfl
  | cons x l ih =>
    simp only [List.foldl_cons]
    rw [take_ins, ih]

/-- What a selector of k keeps of what was put. -/
def keepL (k : Nat) (l : List Hit) : List Hit := (sortL l).take k
theorem keepL_snoc (k : Nat) (l : List Hit) (x : Hit) : keepL k (l ++ [x]) = (ins x (keepL k l)).take k := by
  rw [keepL, keepL, sortL_snoc, take_ins]
theorem keepL_order (k : Nat) (l : List Hit) : InOrder (keepL k l) := (sortL_order l).sublist (List.take_sublist _ _)

/-- A heap keeps the list s that is in order. -/
structure Rep (xs s : List Hit) : Prop where
  heap : HeapP xs
  perm : xs.Perm s
  order : InOrder s

theorem Rep.nil : Rep [] [] := ⟨fun i _ h => by simp at h, .refl _, by simp [InOrder]⟩
theorem Rep.len {xs s : List Hit} (h : Rep xs s) : xs.length = s.length := h.perm.length_eq
theorem Rep.top {x : Hit} {xs s : List Hit} (h : Rep (x :: xs) s) : ∃ s', s = s' ++ [x] := by
  have hne : s ≠ [] := by
    intro e
    have := h.len
    rw [e] at this
    simp at this
  obtain ⟨s', y, hs⟩ : ∃ s' y, s = s' ++ [y] := ⟨s.dropLast, s.getLast hne, (List.dropLast_concat_getLast hne).symm⟩
  have e : x = y := by
    have h1 : x ∈ s' ++ [y] := by rw [← hs]; exact h.perm.mem_iff.1 (by simp)
    have h2 : y ∈ x :: xs := h.perm.mem_iff.2 (by rw [hs]; simp)
    have h3 : ltH x y = false := by
      obtain ⟨i, hi, e⟩ := List.getElem_of_mem h2
      have := heap_root _ h.heap i hi
      unfold at0 at this
      rw [List.getD_eq_getElem?_getD, List.getD_eq_getElem?_getD, List.getElem?_eq_getElem hi, e] at this
      exact this
    have ho := h.order
    rw [hs] at ho
    unfold InOrder at ho
    rw [List.pairwise_append] at ho
    rcases List.mem_append.1 h1 with h1 | h1
    · exact ge_antisymm h3 (ho.2.2 x h1 y (by simp))
    · simpa using h1
  exact ⟨s', by rw [hs, e]⟩
theorem Rep.order_init {s : List Hit} {x : Hit} (h : InOrder (s ++ [x])) : InOrder s := by
  unfold InOrder at h ⊢
  rw [List.pairwise_append] at h
  exact h.1
theorem perm_init {x : Hit} {xs s : List Hit} (h : (x :: xs).Perm (s ++ [x])) : xs.Perm s := by
  have : (x :: xs).Perm (x :: s) := h.trans (List.perm_append_comm.trans (by simp))
  exact List.Perm.cons_inv this

theorem Rep.pop {x : Hit} {xs s : List Hit} (h : Rep (x :: xs) (s ++ [x])) : Rep (popL (x :: xs)) s := by
  have hlen : (((x :: xs).set 0 ((x :: xs).getD ((x :: xs).length - 1) (0, 0))).take ((x :: xs).length - 1)).length = xs.length := by simp
  have hor : 0 < (((x :: xs).set 0 ((x :: xs).getD ((x :: xs).length - 1) (0, 0))).take ((x :: xs).length - 1)).length ∨ ((x :: xs).set 0 ((x :: xs).getD ((x :: xs).length - 1) (0, 0))).take ((x :: xs).length - 1) = [] := by
    cases xs with
    | nil => right; simp
    | cons y ys => left; rw [hlen]; simp
  refine ⟨?_, ?_, Rep.order_init h.order⟩
  · unfold popL
    refine sinkL_heap _ 0 hor ?_ (fun h0 => absurd h0 (by omega))
    intro j hj hjl hne
    rw [hlen] at hjl
    have hh := h.heap j hj (by simp; omega)
    have e1 : ∀ k, 0 < k → k < xs.length → at0 (((x :: xs).set 0 ((x :: xs).getD ((x :: xs).length - 1) (0, 0))).take ((x :: xs).length - 1)) k = at0 (x :: xs) k := by
      intro k hk hkl
      unfold at0
      simp only [List.getD_eq_getElem?_getD]
      rw [List.getElem?_take_of_lt (by simp; omega), List.getElem?_set_ne (by omega)]
    rw [e1 j hj hjl, e1 ((j - 1) / 2) (by omega) (by omega)]
    exact hh
  · unfold popL
    refine (sinkL_perm _ 0 hor).trans (List.Perm.trans ?_ (perm_init h.perm))
    cases hx : xs with
    | nil => simp
    | cons y ys =>
      have hne : y :: ys ≠ [] := by simp
      have e : (x :: y :: ys).getD ((x :: y :: ys).length - 1) (0, 0) = (y :: ys).getLast hne := by
        rw [List.getD_eq_getElem?_getD, List.getLast_eq_getElem]
        simp
      rw [e]
      have e2 : ((x :: y :: ys).set 0 ((y :: ys).getLast hne)).take ((x :: y :: ys).length - 1) = (y :: ys).getLast hne :: (y :: ys).dropLast := by
        simp [List.dropLast_eq_take]
      rw [e2]
      have := List.dropLast_concat_getLast hne
      refine (List.perm_append_comm (l₁ := [(y :: ys).getLast hne]) (l₂ := (y :: ys).dropLast)).trans ?_
      rw [this]

theorem drain_rep (n : Nat) (xs s acc : List Hit) (h : Rep xs s) (hn : xs.length = n) : drainL n xs acc = s ++ acc := by
  induction n generalizing xs s acc with
  | zero =>
    have : s = [] := List.eq_nil_of_length_eq_zero (by rw [← h.len]; exact hn)
    subst this
    rfl
  | succ n ih =>
    cases xs with
    | nil => simp at hn
    | cons x xs =>
      obtain ⟨s', rfl⟩ := h.top
      rw [drainL, ih _ s' (x :: acc) h.pop (by rw [popL_len]; simpa using hn)]
      simp

theorem put_rep (room : Nat) (xs s : List Hit) (x : Hit) (h : Rep xs s) (hr : xs.length ≤ room) : Rep (putH room xs x) ((ins x s).take room) := by
  unfold putH
  by_cases h1 : xs.length < room
  · rw [if_pos h1, List.take_of_length_le (by rw [ins_len, ← h.len]; omega)]
    refine ⟨riseL_heap _ _ (by simp) ?_ ?_, (riseL_perm _ _ (by simp)).trans ?_, ins_order x s h.order⟩
    · intro j hj hjl hne
      have hjx : j < xs.length := by simp at hjl; omega
      have e : ∀ k, k < xs.length → at0 (xs ++ [x]) k = at0 xs k := fun k hk => by simp [at0, List.getD_eq_getElem?_getD, List.getElem?_append_left hk]
      rw [e j hjx, e _ (by omega)]
      exact h.heap j hj hjx
    · intro h0 j hj hjl hp
      simp at hjl
      omega
    · exact (List.perm_append_comm.trans (by simpa using h.perm.cons x)).trans (ins_perm x s).symm
  · rw [if_neg h1]
    cases xs with
    | nil =>
      have : room = 0 := by simp at h1; exact h1
      subst this
      rw [if_neg (by simp)]
      exact Rep.nil
    | cons y ys =>
      obtain ⟨s', rfl⟩ := h.top
      have hroom : room = s'.length + 1 := by have := h.len; simp at this hr h1; omega
      have e0 : (y :: ys).getD 0 (0, 0) = y := rfl
      rw [e0, ins_last x y s' h.order]
      by_cases h2 : ltH x y = true
      · rw [if_pos ⟨h2, by omega⟩, if_pos h2, List.take_append_of_le_length (by rw [ins_len]; omega), List.take_of_length_le (by rw [ins_len]; omega)]
        have e1 : (y :: ys).set 0 x = x :: ys := rfl
        rw [e1]
        refine ⟨sinkL_heap _ 0 (.inl (by simp)) ?_ (fun h0 => absurd h0 (by omega)), (sinkL_perm _ 0 (.inl (by simp))).trans (((perm_init h.perm).cons x).trans (ins_perm x s').symm), ins_order x s' (Rep.order_init h.order)⟩
        intro j hj hjl hne
        have e : ∀ k, 0 < k → at0 (x :: ys) k = at0 (y :: ys) k := fun k hk => by
          cases k with
          | zero => omega
          | succ k => rfl
        rw [e j hj, e _ (by omega)]
        exact h.heap j hj (by simpa using hjl)
      · rw [if_neg (fun hh => h2 hh.1), if_neg h2, show s' ++ [y, x] = (s' ++ [y]) ++ [x] by simp, List.take_append_of_le_length (by simp; omega), List.take_of_length_le (by simp; omega)]
        exact h
end Go.Proofs.YtadkfedglkhgjaaGreat
