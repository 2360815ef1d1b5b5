/-
  Layer 14: what CursorGone needs: ops in a cell, numbers that are there, rows beside a table.
-/
import Derived.Test.YtadkfedglkhgjaaQrt
namespace Go.Proofs.Ytadkfedglkhgjaa
open Go.RowKit Go.ChangeShapes Go.WideShapes Go.ChangeAt Go.Maps

/-- A cell of an op is laid, and an op stored there. -/
theorem op_cell (w : World) (o : OpQ) : ∃ wz w', w.alloc (.cells #[.int .u8 0, .int .u8 0, .int .i64 0, .slice none 0 0, .slice none 0 0, .slice none 0 0, .slice none 0 0, .int .u32 0, .int .u32 0, .slice none 0 0, .bool false, .int .u32 0] 37) = wz ∧ ((((((((((((wz.setCell ⟨w.heap.size, 0, none⟩ (.int .u8 (o.kind : Int))).setCell ⟨w.heap.size, 1, none⟩ (.int .u8 (o.owner : Int))).setCell ⟨w.heap.size, 2, none⟩ (.int .i64 o.pin)).setCell ⟨w.heap.size, 3, none⟩ (.slice o.ql.pv.1 o.ql.pv.2.1 o.ql.pv.2.2)).setCell ⟨w.heap.size, 4, none⟩ (.slice o.ql.p0.1 o.ql.p0.2.1 o.ql.p0.2.2)).setCell ⟨w.heap.size, 5, none⟩ (.slice o.ql.p1.1 o.ql.p1.2.1 o.ql.p1.2.2)).setCell ⟨w.heap.size, 6, none⟩ (.slice o.ql.p2.1 o.ql.p2.2.1 o.ql.p2.2.2)).setCell ⟨w.heap.size, 7, none⟩ (.int .u32 (o.n : Int))).setCell ⟨w.heap.size, 8, none⟩ (.int .u32 (o.page : Int))).setCell ⟨w.heap.size, 9, none⟩ (.slice o.ha o.hn o.hc)).setCell ⟨w.heap.size, 10, none⟩ (.bool o.tell)).setCell ⟨w.heap.size, 11, none⟩ (.int .u32 (o.ahead : Int))) = w' ∧ (wz.cell? ⟨w.heap.size, 0, none⟩ = some (.int .u8 0) ∧ wz.cell? ⟨w.heap.size, 1, none⟩ = some (.int .u8 0) ∧ wz.cell? ⟨w.heap.size, 2, none⟩ = some (.int .i64 0) ∧ wz.cell? ⟨w.heap.size, 3, none⟩ = some (.slice none 0 0) ∧ wz.cell? ⟨w.heap.size, 4, none⟩ = some (.slice none 0 0) ∧ wz.cell? ⟨w.heap.size, 5, none⟩ = some (.slice none 0 0) ∧ wz.cell? ⟨w.heap.size, 6, none⟩ = some (.slice none 0 0) ∧ wz.cell? ⟨w.heap.size, 7, none⟩ = some (.int .u32 0) ∧ wz.cell? ⟨w.heap.size, 8, none⟩ = some (.int .u32 0) ∧ wz.cell? ⟨w.heap.size, 9, none⟩ = some (.slice none 0 0) ∧ wz.cell? ⟨w.heap.size, 10, none⟩ = some (.bool false) ∧ wz.cell? ⟨w.heap.size, 11, none⟩ = some (.int .u32 0) ∧ wz.frozen? ⟨w.heap.size, 0, none⟩ = false ∧ wz.frozen? ⟨w.heap.size, 1, none⟩ = false ∧ wz.frozen? ⟨w.heap.size, 2, none⟩ = false ∧ wz.frozen? ⟨w.heap.size, 3, none⟩ = false ∧ wz.frozen? ⟨w.heap.size, 4, none⟩ = false ∧ wz.frozen? ⟨w.heap.size, 5, none⟩ = false ∧ wz.frozen? ⟨w.heap.size, 6, none⟩ = false ∧ wz.frozen? ⟨w.heap.size, 7, none⟩ = false ∧ wz.frozen? ⟨w.heap.size, 8, none⟩ = false ∧ wz.frozen? ⟨w.heap.size, 9, none⟩ = false ∧ wz.frozen? ⟨w.heap.size, 10, none⟩ = false ∧ wz.frozen? ⟨w.heap.size, 11, none⟩ = false) ∧ Below w.heap.size w w' ∧ Blk w' w.heap.size 37 o.cells := by
  obtain ⟨wz, hwz⟩ : ∃ wz, w.alloc (.cells #[.int .u8 0, .int .u8 0, .int .i64 0, .slice none 0 0, .slice none 0 0, .slice none 0 0, .slice none 0 0, .int .u32 0, .int .u32 0, .slice none 0 0, .bool false, .int .u32 0] 37) = wz := ⟨_, rfl⟩
  have N : Blk wz w.heap.size 37 [.int .u8 0, .int .u8 0, .int .i64 0, .slice none 0 0, .slice none 0 0, .slice none 0 0, .slice none 0 0, .int .u32 0, .int .u32 0, .slice none 0 0, .bool false, .int .u32 0] := by rw [← hwz]; exact Blk.new _ _ _
  have hb : Below w.heap.size w wz := by rw [← hwz]; exact (Below.refl _ _).alloc (Nat.le_refl _) _
  have k9 : Kept [w.heap.size] wz ((((((((((((wz.setCell ⟨w.heap.size, 0, none⟩ (.int .u8 (o.kind : Int))).setCell ⟨w.heap.size, 1, none⟩ (.int .u8 (o.owner : Int))).setCell ⟨w.heap.size, 2, none⟩ (.int .i64 o.pin)).setCell ⟨w.heap.size, 3, none⟩ (.slice o.ql.pv.1 o.ql.pv.2.1 o.ql.pv.2.2)).setCell ⟨w.heap.size, 4, none⟩ (.slice o.ql.p0.1 o.ql.p0.2.1 o.ql.p0.2.2)).setCell ⟨w.heap.size, 5, none⟩ (.slice o.ql.p1.1 o.ql.p1.2.1 o.ql.p1.2.2)).setCell ⟨w.heap.size, 6, none⟩ (.slice o.ql.p2.1 o.ql.p2.2.1 o.ql.p2.2.2)).setCell ⟨w.heap.size, 7, none⟩ (.int .u32 (o.n : Int))).setCell ⟨w.heap.size, 8, none⟩ (.int .u32 (o.page : Int))).setCell ⟨w.heap.size, 9, none⟩ (.slice o.ha o.hn o.hc)).setCell ⟨w.heap.size, 10, none⟩ (.bool o.tell)).setCell ⟨w.heap.size, 11, none⟩ (.int .u32 (o.ahead : Int))) := (((((((((((((Kept.refl [w.heap.size] wz).setCell ⟨w.heap.size, 0, none⟩ (.int .u8 (o.kind : Int)) (.inl (by simp))).setCell ⟨w.heap.size, 1, none⟩ (.int .u8 (o.owner : Int)) (.inl (by simp))).setCell ⟨w.heap.size, 2, none⟩ (.int .i64 o.pin) (.inl (by simp))).setCell ⟨w.heap.size, 3, none⟩ (.slice o.ql.pv.1 o.ql.pv.2.1 o.ql.pv.2.2) (.inl (by simp))).setCell ⟨w.heap.size, 4, none⟩ (.slice o.ql.p0.1 o.ql.p0.2.1 o.ql.p0.2.2) (.inl (by simp))).setCell ⟨w.heap.size, 5, none⟩ (.slice o.ql.p1.1 o.ql.p1.2.1 o.ql.p1.2.2) (.inl (by simp))).setCell ⟨w.heap.size, 6, none⟩ (.slice o.ql.p2.1 o.ql.p2.2.1 o.ql.p2.2.2) (.inl (by simp))).setCell ⟨w.heap.size, 7, none⟩ (.int .u32 (o.n : Int)) (.inl (by simp))).setCell ⟨w.heap.size, 8, none⟩ (.int .u32 (o.page : Int)) (.inl (by simp))).setCell ⟨w.heap.size, 9, none⟩ (.slice o.ha o.hn o.hc) (.inl (by simp))).setCell ⟨w.heap.size, 10, none⟩ (.bool o.tell) (.inl (by simp))).setCell ⟨w.heap.size, 11, none⟩ (.int .u32 (o.ahead : Int)) (.inl (by simp)))
  exact ⟨wz, _, hwz, rfl, ⟨N.cell 0, N.cell 1, N.cell 2, N.cell 3, N.cell 4, N.cell 5, N.cell 6, N.cell 7, N.cell 8, N.cell 9, N.cell 10, N.cell 11, N.frozen 0, N.frozen 1, N.frozen 2, N.frozen 3, N.frozen 4, N.frozen 5, N.frozen 6, N.frozen 7, N.frozen 8, N.frozen 9, N.frozen 10, N.frozen 11⟩, hb.trans (k9.below (fun b hb => by rw [List.mem_singleton] at hb; omega) hb.size), ((((((((((((N.set 0 (.int .u8 (o.kind : Int))).set 1 (.int .u8 (o.owner : Int))).set 2 (.int .i64 o.pin)).set 3 (.slice o.ql.pv.1 o.ql.pv.2.1 o.ql.pv.2.2)).set 4 (.slice o.ql.p0.1 o.ql.p0.2.1 o.ql.p0.2.2)).set 5 (.slice o.ql.p1.1 o.ql.p1.2.1 o.ql.p1.2.2)).set 6 (.slice o.ql.p2.1 o.ql.p2.2.1 o.ql.p2.2.2)).set 7 (.int .u32 (o.n : Int))).set 8 (.int .u32 (o.page : Int))).set 9 (.slice o.ha o.hn o.hc)).set 10 (.bool o.tell)).set 11 (.int .u32 (o.ahead : Int)))⟩
/-- The text's one item of that vector. -/
theorem item_one (w : World) (p : Option Addr × Nat × Nat) (vec : List Int) (ok : Nat → Prop) (h : Rd ok w shVec [.slice p.1 p.2.1 p.2.2] vec) : Rd (fun _ => True) (w.alloc (.cells #[.int .u32 0, .slice p.1 p.2.1 p.2.2, .slice none 0 0] 40)) (.slice shItem 1) [.slice (some ⟨w.heap.size, 0, none⟩) 1 1] [((0 : Int), vec, ([] : List ByteArray), ())] := by
  have hb : Below w.heap.size w (w.alloc (.cells #[.int .u32 0, .slice p.1 p.2.1 p.2.2, .slice none 0 0] 40)) := (Below.refl _ _).alloc (Nat.le_refl _) _
  have hlt : w.heap.size < (w.alloc (.cells #[.int .u32 0, .slice p.1 p.2.1 p.2.2, .slice none 0 0] 40)).heap.size := (Blk.new w 40 #[.int .u32 0, .slice p.1 p.2.1 p.2.2, .slice none 0 0]).lt
  refine Rd.slice_mk (e := shItem) ⟨some ⟨w.heap.size, 0, none⟩, 1, 1, rfl, rfl, by decide, by decide, Nat.le_refl _, (fun h => by cases h), .inr ⟨w.heap.size, 0, rfl, trivial, hlt, fun i x hx => ?_⟩⟩
  match i, hx with
  | 0, hx =>
    obtain rfl := Option.some.inj hx
    refine ⟨[.int .u32 0, .slice p.1 p.2.1 p.2.2, .slice none 0 0], rfl, fun j hj => ?_, rd_item_mk (id := 0) (by decide) ((h.on hb).mono fun _ _ _ => trivial) (nil_strs _ _)⟩
    simp [shItem]
  | i + 1, hx => exact nomatch (show (none : Option shItem.T) = some x from hx)
theorem CIs.not_blk {w : World} {lo x b : Nat} {F : List Nat} {s : CTab} {t : TypeId} {cs : List Value} (h : CIs w lo x F s) (hb : Blk w b t cs) (h1 : t ≠ 76) (h2 : t ≠ 85) (h3 : t ≠ 21) (h4 : t ≠ 9) : b ∉ F := by
  intro hF
  obtain ⟨m, L, hT, -, rfl⟩ := h
  rcases mem_fpQ.1 hF with e | e | ⟨u, hu, e⟩
  · subst e
    exact hb.ne hT.blk h1 rfl
  · subst e
    exact hT.map.ne_blk hb rfl
  · rcases mem_fpC.1 e with e | e
    · subst e
      exact hb.ne (hT.each u hu).blk h2 rfl
    · exact (hT.each u hu).rows.not_blk hb (fun e => h3 e.symm) (fun e => h4 e.symm) e
theorem row1_blk {lo b : Nat} {w : World} {t : TypeId} {v : Value} {cs : List Value} (h : Row1 lo w t v cs) (hb : v.ownBlock = some b) : ∃ ds, Blk w b t ds := by
  rcases h.2.2 with ⟨rfl, _⟩ | ⟨a, cap, cur, rfl, _, hh, _⟩
  · cases hb
  · cases hb
    exact ⟨cur.toList, by simpa [Blk] using hh⟩
theorem CAt.kept_row {w0 w w' : World} {k x : Nat} {s : CTab} {t : TypeId} {v : Value} {cs : List Value} (h : CAt w0 k x s w) (hr : Row1 w0.heap.size w t v cs) (h1 : t ≠ 76) (h2 : t ≠ 85) (h3 : t ≠ 21) (h4 : t ≠ 9) (hk : Kept (ownB v) w w') : CAt w0 k x s w' := by
  obtain ⟨lo, F, c1, c2, c3, c4⟩ := h
  refine ⟨lo, F, c1.kept hk (fun b hb => ?_), c2, c3, c4.trans (hk.below (fun b hb => (RowC.lt hr b (mem_ownB.1 hb)).1) c4.size)⟩
  obtain ⟨ds, hd⟩ := row1_blk hr (mem_ownB.1 hb)
  exact c1.not_blk hd h1 h2 h3 h4
theorem Row1.kept_row {lo lo' : Nat} {w w' : World} {t t' : TypeId} {v v' : Value} {cs cs' : List Value} (h : Row1 lo w t v cs) (hr : Row1 lo' w t' v' cs') (hne : t' ≠ t) (hk : Kept (ownB v') w w') : Row1 lo w' t v cs :=
  RowC.kept h hk fun b hb hb' => by
    obtain ⟨ds, hd⟩ := row1_blk h hb
    obtain ⟨ds', hd'⟩ := row1_blk hr (mem_ownB.1 hb')
    exact hd'.ne hd hne rfl
/-- Is the cursor of the number k + 1 there? -/
def there14 (s : CTab) (k : Nat) : Bool := s.cs.any fun c => decide (c.n = k + 1)
def countT (s : CTab) (m : Nat) : Nat := ((List.range m).filter (there14 s)).length
theorem countT_succ (s : CTab) (m : Nat) : countT s (m + 1) = countT s m + if there14 s m = true then 1 else 0 := by
  unfold countT
  rw [List.range_succ, List.filter_append, List.length_append]
  congr 1
  by_cases h : there14 s m = true
  · rw [if_pos h, List.filter_cons_of_pos h]
    rfl
  · rw [if_neg h, List.filter_cons_of_neg h]
    rfl
theorem countT_le (s : CTab) (m : Nat) : countT s m ≤ m := by
  unfold countT
  have := List.length_filter_le (there14 s) (List.range m)
  rwa [List.length_range] at this
theorem countT_all {s : CTab} {k m : Nat} (h : s.Few k) (hl : s.last ≤ m) : countT s m = s.cs.length := by
  unfold countT
  have hp : ((List.range m).filter (there14 s)).Perm (s.cs.map fun c => c.n - 1) := by
    refine (List.perm_ext_iff_of_nodup (List.nodup_range.filter _) ?_).2 fun j => ?_
    · unfold List.Nodup
      rw [List.pairwise_map]
      refine List.Pairwise.imp_of_mem ?_ h.rising
      intro a b ha hb hab e
      have := h.low a ha
      have := h.low b hb
      omega
    · rw [List.mem_filter, List.mem_range, List.mem_map]
      unfold there14
      rw [List.any_eq_true]
      constructor
      · rintro ⟨_, c, hc, e⟩
        exact ⟨c, hc, by have := of_decide_eq_true e; omega⟩
      · rintro ⟨c, hc, rfl⟩
        have := h.low c hc
        exact ⟨by omega, c, hc, decide_eq_true (by omega)⟩
  rw [hp.length_eq, List.length_map]
/-- What numbers, owners and gone say of a table. -/
structure GOK (s : CTab) (ows : List Nat) (gs : List Bool) : Prop where
  last : s.last = ows.length
  len : gs.length = ows.length
  each : ∀ c ∈ s.cs, c.told = 0 ∧ ows[c.n - 1]? = some c.owner
  gone : ∀ k, gs[k]? = some true → there14 s k = false
  few : ∀ o ∈ ows, o < 3
theorem GOK.fewer {s : CTab} {ows : List Nat} {gs : List Bool} (h : GOK s ows gs) {s' : CTab} (hl : s'.last = s.last) (hs : ∀ c ∈ s'.cs, c ∈ s.cs) : GOK s' ows gs :=
  ⟨hl.trans h.last, h.len, fun c hc => h.each c (hs c hc), fun k hk => by
    rw [Bool.eq_false_iff]
    intro ht
    obtain ⟨c, hc, e⟩ := List.any_eq_true.1 ht
    have h2 := h.gone k hk
    unfold there14 at h2
    rw [List.any_eq_false] at h2
    exact h2 c (hs c hc) e, h.few⟩
theorem GOK.start {s : CTab} {ows : List Nat} {gs : List Bool} (h : GOK s ows gs) (owner now : Nat) (ho : owner < 3) (pin : Int) (q : QryV) : GOK (s.start owner pin q now) (ows ++ [owner]) (gs ++ [false]) := by
  refine ⟨by show s.last + 1 = _; rw [h.last]; simp, by simp [h.len], fun c hc => ?_, fun j hj => ?_, fun o hm => ?_⟩
  · rcases List.mem_append.1 hc with hc | hc
    · obtain ⟨h1, h2⟩ := h.each c hc
      exact ⟨h1, by rw [List.getElem?_append_left (List.getElem?_eq_some_iff.1 h2).1]; exact h2⟩
    · rw [List.mem_singleton.1 hc]
      refine ⟨rfl, ?_⟩
      show (ows ++ [owner])[s.last + 1 - 1]? = some owner
      rw [Nat.add_sub_cancel, h.last]
      simp
  · have hjl : j < gs.length := by
      have h1 := (List.getElem?_eq_some_iff.1 hj).1
      rw [List.length_append] at h1
      rcases Nat.lt_or_ge j gs.length with h2 | h2
      · exact h2
      · have h3 : j = gs.length := by simp at h1; omega
        rw [h3] at hj
        simp at hj
    rw [List.getElem?_append_left hjl] at hj
    have h2 := h.gone j hj
    rw [Bool.eq_false_iff] at h2 ⊢
    intro ht
    obtain ⟨c, hc, e⟩ := List.any_eq_true.1 ht
    rcases List.mem_append.1 hc with hc | hc
    · exact h2 (List.any_eq_true.2 ⟨c, hc, e⟩)
    · rw [List.mem_singleton.1 hc] at e
      have e1 : s.last + 1 = j + 1 := of_decide_eq_true e
      have := h.last
      have := h.len
      omega
  · rcases List.mem_append.1 hm with hm | hm
    · exact h.few o hm
    · rw [List.mem_singleton.1 hm]
      exact ho
theorem GOK.takeE {s : CTab} {ows : List Nat} {gs : List Bool} (h : GOK s ows gs) {f : Nat} (hF : s.Few f) {k o : Nat} (hk : ows[k]? = some o) : s.takeE o (k + 1) 3 = if there14 s k = true then 1 else 140 := by
  unfold CTab.takeE
  by_cases ht : there14 s k = true
  · rw [if_pos ht]
    obtain ⟨c, hc, e⟩ := List.any_eq_true.1 ht
    have e1 : c.n = k + 1 := of_decide_eq_true e
    obtain ⟨h1, h2⟩ := h.each c hc
    rw [e1, Nat.add_sub_cancel, hk] at h2
    obtain rfl := Option.some.inj h2
    have h3 := hF.own_of hc
    rw [e1] at h3
    rw [h3]
    have hm : c.may 3 = false := decide_eq_false (by rw [h1]; omega)
    simp [hm]
  · rw [if_neg ht]
    have h3 : s.own o (k + 1) = none := by
      unfold CTab.own
      rw [List.find?_eq_none]
      intro c hc e
      have e1 := (of_decide_eq_true e : c.n = k + 1 ∧ c.owner = o)
      exact ht (List.any_eq_true.2 ⟨c, hc, decide_eq_true e1.1⟩)
    rw [h3]
def goneL (s : CTab) (gs : List Bool) (k : Nat) : List Bool := ((List.range k).map fun j => !there14 s j) ++ gs.drop k
theorem goneL_len (s : CTab) (gs : List Bool) (k : Nat) (hk : k ≤ gs.length) : (goneL s gs k).length = gs.length := by
  unfold goneL
  rw [List.length_append, List.length_map, List.length_range, List.length_drop]
  omega
theorem goneL_at (s : CTab) (gs : List Bool) (k : Nat) : (goneL s gs k)[k]? = gs[k]? := by
  unfold goneL
  rw [List.getElem?_append_right (by simp), List.getElem?_drop]
  simp
theorem goneL_set (s : CTab) (gs : List Bool) (k : Nat) (hk : k < gs.length) : (goneL s gs k).set k (!there14 s k) = goneL s gs (k + 1) := by
  unfold goneL
  rw [List.set_append_right _ _ (by simp), List.length_map, List.length_range, Nat.sub_self, List.range_succ, List.map_append, List.drop_eq_getElem_cons hk, List.set_cons_zero, List.append_assoc]
  rfl
theorem goneL_zero (s : CTab) (gs : List Bool) : goneL s gs 0 = gs := by simp [goneL]
theorem GOK.after {s : CTab} {ows : List Nat} {gs : List Bool} (h : GOK s ows gs) : GOK s ows (goneL s gs gs.length) := by
  have he : goneL s gs gs.length = (List.range gs.length).map fun j => !there14 s j := by
    unfold goneL
    rw [List.drop_length, List.append_nil]
  refine ⟨h.last, by rw [goneL_len s gs _ (Nat.le_refl _)]; exact h.len, h.each, fun k hk => ?_, h.few⟩
  rw [he, List.getElem?_map] at hk
  cases e : (List.range gs.length)[k]? with
  | none => rw [e] at hk; cases hk
  | some j =>
    rw [e] at hk
    have hj : j = k := by
      have := List.getElem?_eq_some_iff.1 e
      obtain ⟨h1, h2⟩ := this
      simpa using h2.symm
    subst hj
    simpa using hk
def numsV (m : Nat) : List Value := (List.range m).map fun k => .int .u32 ((k + 1 : Nat) : Int)
theorem numsV_succ (m : Nat) : numsV m ++ [.int .u32 ((m + 1 : Nat) : Int)] = numsV (m + 1) := by
  unfold numsV
  rw [List.range_succ, List.map_append]
  rfl
theorem numsV_at (m k : Nat) (hk : k < m) : (numsV m)[k]? = some (.int .u32 ((k + 1 : Nat) : Int)) := by
  unfold numsV
  rw [List.getElem?_map, List.getElem?_range hk]
  rfl
def owsV (ows : List Nat) : List Value := ows.map fun o : Nat => .int .u64 (o : Int)
def gsV (gs : List Bool) : List Value := gs.map Value.bool
theorem gsV_set (gs : List Bool) (k : Nat) (b : Bool) : (gsV gs).set k (.bool b) = gsV (gs.set k b) := by
  unfold gsV
  rw [List.map_set]
theorem u32_info14 : (Try.prog.info? 22).map (fun i => (i.zero, i.size, i.bytes)) = some (some (.int .u32 0), 1, 4) := by kernel_rfl
theorem u64_info14 : (Try.prog.info? 42).map (fun i => (i.zero, i.size, i.bytes)) = some (some (.int .u64 0), 1, 8) := by kernel_rfl
theorem bool_info14 : (Try.prog.info? 4).map (fun i => (i.zero, i.size, i.bytes)) = some (some (.bool false), 1, 1) := by kernel_rfl
end Go.Proofs.Ytadkfedglkhgjaa
