/-
  Layer 14, the program's table: Told, Take, Close in plain words. (Made by tools/mkqrj.py.)
-/
import Derived.Test.YtadkfedglkhgjaaQri
namespace Go.Proofs.Ytadkfedglkhgjaa
open Go.RowKit Go.ChangeShapes Go.WideShapes Go.ChangeAt Go.Maps

theorem results_row_tmp14 {P : Program} {fn : Func} {p q : Tmp} {ty : TypeId} (h : fn.results = #[.cell p ty, .tmp q]) (tmps : Array Value) (w : World) (g : Nat) (t : TypeId) (cs : Array Value) (fr : Nat × Nat) (d : TypeDesc)
    (hp : tmps.getD p undef = .pointer (some ⟨g, 0, none⟩)) (hg : w.heap[g]? = some (.cells cs t fr))
    (hu : P.underlying ty = some d) (hd : (match d with | .struct _ | .array _ _ => true | _ => false) = true) (hi : (P.info? ty).map (·.size) = some cs.size) (v : Value) (hv : tmps.getD q undef = v) :
    (results fn tmps).run P w = .ok (.tuple #[.agg cs, v]) w := by
  have hp' : tmps[p]?.getD undef = .pointer (some ⟨g, 0, none⟩) := by simpa using hp
  have hv' : tmps[q]?.getD undef = v := by simpa using hv
  simp [results, h, hp', hv', asAddr, run_loadVar_row w g t ty cs fr d hg hu hd hi]
theorem cat_find {s : CTab} {L : List CurL} (h2 : s.cs = L.map (·.c)) {n : Nat} {c : CurV} (h : s.at n = some c) : ∃ t ∈ L, t.c = c ∧ t.c.n = n := by
  obtain ⟨h3, h4⟩ := CTab.at_some h
  rw [h2] at h3
  obtain ⟨t, ht, rfl⟩ := List.mem_map.1 h3
  exact ⟨t, ht, rfl, h4⟩
theorem cown_find {s : CTab} {L : List CurL} (h2 : s.cs = L.map (·.c)) {owner n : Nat} {c : CurV} (h : s.own owner n = some c) : ∃ t ∈ L, t.c = c ∧ t.c.n = n ∧ t.c.owner = owner := by
  obtain ⟨h3, h4, h5⟩ := CTab.own_some h
  rw [h2] at h3
  obtain ⟨t, ht, rfl⟩ := List.mem_map.1 h3
  exact ⟨t, ht, rfl, h4, h5⟩
theorem cown_lack {s : CTab} {L : List CurL} (h2 : s.cs = L.map (·.c)) {owner n : Nat} (h : s.own owner n = none) : ∀ t ∈ L, ¬ (t.c.n = n ∧ t.c.owner = owner) := fun t ht => CTab.own_none h t.c (by rw [h2]; exact List.mem_map.2 ⟨t, ht, rfl⟩)
theorem cat_lack {s : CTab} {L : List CurL} (h2 : s.cs = L.map (·.c)) {n : Nat} (h : s.at n = none) : ∀ t ∈ L, t.c.n ≠ n := fun t ht => CTab.at_none h t.c (by rw [h2]; exact List.mem_map.2 ⟨t, ht, rfl⟩)
theorem fpQ_turn {lo x m last idle : Nat} {w : World} {L : List CurL} {t t' : CurL} (h : TabQ w lo x m L last idle) (ht : t ∈ L) (hg : t'.g = t.g) (hl : t'.l = t.l) (hn : t'.c.n = t.c.n) : fpQ x m (turnC L t') = fpQ x m L := by
  unfold fpQ turnC
  congr 2
  rw [List.flatMap_map]
  simp only [List.flatMap_def]
  congr 1
  refine List.map_congr_left fun s hs => ?_
  split
  · rename_i e
    rw [h.uniq s hs t ht (e.trans hn)]
    unfold fpC
    rw [hg, hl]
  · rfl
theorem turn_c {lo x m last idle : Nat} {w : World} {L : List CurL} {t : CurL} {c' : CurV} {s : CTab} (_h : TabQ w lo x m L last idle) (h2 : s.cs = L.map (·.c)) (_ht : t ∈ L) : (s.turn c').cs = (turnC L ⟨t.g, t.l, c'⟩).map (·.c) := by
  unfold CTab.turn turnC
  simp only [h2, List.map_map]
  refine List.map_congr_left fun s _ => ?_
  simp only [Function.comp]
  split <;> rfl
/-- One cursor has turned. -/
theorem CIs.turned {w w' : World} {lo x m : Nat} {L : List CurL} {s : CTab} {t : CurL} {c' : CurV} (h1 : TabQ w lo x m L s.last s.idle) (h2 : s.cs = L.map (·.c)) (ht : t ∈ L) (hn : c'.n = t.c.n) (hq : c'.q = t.c.q) (ho : c'.owner = t.c.owner) (hb : Blk w' t.g 85 (CurL.cells ⟨t.g, t.l, c'⟩)) (hu : c'.used < 4294967296) (htd : c'.told < 4294967296) (hk : Kept [t.g] w w') :
    CIs w' lo x (fpQ x m L) (s.turn c') ∧ Kept (fpQ x m L) w w' := by
  have hA := h1.each t ht
  have hA' : CurL.At w' lo ⟨t.g, t.l, c'⟩ := ⟨hb, hA.glo, hA.rows.kept hk (fun g hg e => by
    rw [List.mem_singleton] at e
    subst e
    exact h1.g_not t ht t ht hg), hq.trans hA.hq, by rw [hn]; exact hA.n32, by rw [ho]; exact hA.o64, hu, htd⟩
  refine ⟨⟨m, turnC L ⟨t.g, t.l, c'⟩, h1.turned ht rfl hn hA' hk, turn_c h1 h2 ht, (fpQ_turn (t' := ⟨t.g, t.l, c'⟩) h1 ht rfl rfl hn).symm⟩, hk.mono fun b hb => ?_⟩
  rw [List.mem_singleton] at hb
  exact mem_fpQ.2 (.inr (.inr ⟨t, ht, mem_fpC.2 (.inl hb)⟩))
def ToldPost (lo x : Nat) (F : List Nat) (s' : CTab) (w : World) (e : Ending) (w' : World) : Prop := e = .returned (.tuple #[]) ∧ CIs w' lo x F s' ∧ Kept F w w'
set_option maxRecDepth 100000 in
set_option maxHeartbeats 3200000 in
theorem ctold_any (w : World) (lo x : Nat) (F : List Nat) (s : CTab) (h : CIs w lo x F s) (n page : Nat) (hn : n < 4294967296) (hp : page < 4294967296) (a : Option Addr) (hn' c : Nat) (l : List (Int × Int)) (hl : HitsQ w a hn' l) (hne : hn' ≠ 0 → ∀ b off, a = some ⟨b, off, none⟩ → b ∉ F) :
    Calls Try.prog 14 #[.pointer (some ⟨x, 0, none⟩), .int .u32 (n : Int), .int .u32 (page : Int), .slice a hn' c] w (ToldPost lo x F (s.told n page l) w) := by
  have h0 := h
  obtain ⟨m, L, h1, h2, rfl⟩ := h
  have c1 : w.cell? ⟨x, 1, none⟩ = some (.map (some m)) := h1.blk.cell 1
  have HM := Lib.hid h1.map
  have HN := Lib.hid hn
  cases ho : s.at n with
  | none =>
    have HE := Lib.hid (cuE_not (L := L) (n := n) (cat_lack h2 ho))
    have FIN := Lib.hid (show ToldPost lo x (fpQ x m L) (s.told n page l) w (.returned (.tuple #[])) w from ⟨rfl, by unfold CTab.told; rw [ho]; exact h0, Kept.refl _ _⟩)
    clear h1 h2 h0 hl hne ho hn hp
    go_enter Try.func14, Try.ntmps14
    go_wp2_with (first | (at_lookup; refine cu_none _ rfl _ _ rfl m _ rfl HM.out n HN.out rfl HE.out ?_) | fail)
    go_end0
    exact FIN.out
  | some cc =>
    obtain ⟨t, ht, rfl, rfl⟩ := cat_find h2 ho
    have HE := Lib.hid (cuE_mem ht)
    obtain ⟨tg, htg⟩ : ∃ tg, t.g = tg := ⟨_, rfl⟩
    have MA := Lib.hid (cmay_any w tg t (h1.each t ht).blk htg page hp)
    have hmay : ∀ z, t.c.may page = z → s.told t.c.n page l = if z then s.turn (t.c.tell page l) else s := fun z hz => by
      unfold CTab.told
      rw [ho]
      simp only [hz]
    have CT := Lib.hid (ctell_any w tg t (h1.each t ht).blk htg page a hn' c l hl (fun h0 b off e hb => hne h0 b off e (mem_fpQ.2 (.inr (.inr ⟨t, ht, mem_fpC.2 (.inl (hb.trans htg.symm))⟩)))))
    obtain ⟨z, hz⟩ : ∃ z, t.c.may page = z := ⟨_, rfl⟩
    rw [htg] at HE
    rw [hz] at MA
    rw [hmay z hz]
    have FIN := Lib.hid (fun (e : Ending) (w' : World) (hh : TellPost t tg page l w e w') => show ToldPost lo x (fpQ x m L) (s.turn (t.c.tell page l)) w e w' from by
      obtain ⟨rfl, hb, hkk⟩ := hh
      rw [← htg] at hb hkk
      have hA := h1.each t ht
      obtain ⟨r1, r2⟩ := CIs.turned h1 h2 ht (c' := t.c.tell page l) rfl rfl rfl hb hA.u32 hp hkk
      exact ⟨rfl, r1, r2⟩)
    have SAME := Lib.hid (show ToldPost lo x (fpQ x m L) s w (.returned (.tuple #[])) w from ⟨rfl, h0, Kept.refl _ _⟩)
    obtain ⟨tn, htn⟩ : ∃ tn, t.c.n = tn := ⟨_, rfl⟩
    rw [htn] at HE HN ⊢
    clear h1 h2 h0 hl hne ho hn hp ht hmay hz htg htn
    cases z
    · go_enter Try.func14, Try.ntmps14
      go_wp2_with (first | (at_lookup; refine cu_look _ rfl _ _ rfl m _ rfl HM.out tn HN.out rfl _ HE.out ?_) | fail)
      refine MA.out.mono ?_
      rintro e w2 ⟨rfl, rfl⟩
      clear CT FIN MA
      go_wp2
      go_end0
      exact SAME.out
    · go_enter Try.func14, Try.ntmps14
      go_wp2_with (first | (at_lookup; refine cu_look _ rfl _ _ rfl m _ rfl HM.out tn HN.out rfl _ HE.out ?_) | fail)
      refine MA.out.mono ?_
      rintro e w2 ⟨rfl, rfl⟩
      go_wp2_with (fail)
      refine CT.out.mono ?_
      intro e w3 hh
      have R := Lib.hid (FIN.out e w3 hh)
      obtain ⟨rfl, -, -⟩ := hh
      clear CT FIN MA SAME
      go_wp2
      go_end0
      exact R.out
def ClosePost (lo x : Nat) (F : List Nat) (s : CTab) (owner n : Nat) (w : World) (e : Ending) (w' : World) : Prop :=
  (s.own owner n = none ∧ e = .returned (.tuple #[.int .i64 0, .int .i64 140]) ∧ QPost lo x F s w w') ∨ (∃ c, s.own owner n = some c ∧ e = .returned (.tuple #[.int .i64 c.pin, .int .i64 0]) ∧ QPost lo x F (s.cut n) w w')
theorem QPost.cut {w w' : World} {lo x m : Nat} {L : List CurL} {s : CTab} {n : Nat} (h2 : s.cs = L.map (·.c)) (h : TabQ w' lo x m (L.filter fun t => decide (t.c.n ≠ n)) s.last s.idle) (hk : Kept [m] w w') : QPost lo x (fpQ x m L) (s.cut n) w w' := by
  refine ⟨fpQ x m (L.filter fun t => decide (t.c.n ≠ n)), ⟨m, _, h, ?_, rfl⟩, hk.mono (fun b hb => by rw [List.mem_singleton] at hb; exact mem_fpQ.2 (.inr (.inl hb))), fun b hb => .inl ?_⟩
  · show s.cs.filter (fun c => decide (c.n ≠ n)) = _
    rw [h2, filter_c L (fun c => decide (c.n ≠ n))]
  · rcases mem_fpQ.1 hb with e | e | ⟨t, ht, e⟩
    · exact mem_fpQ.2 (.inl e)
    · exact mem_fpQ.2 (.inr (.inl e))
    · exact mem_fpQ.2 (.inr (.inr ⟨t, (List.mem_filter.1 ht).1, e⟩))
set_option maxRecDepth 100000 in
set_option maxHeartbeats 3200000 in
theorem cclose_any (w : World) (lo x : Nat) (F : List Nat) (s : CTab) (h : CIs w lo x F s) (owner n : Nat) (hn : n < 4294967296) :
    Calls Try.prog 16 #[.pointer (some ⟨x, 0, none⟩), .int .u64 (owner : Int), .int .u32 (n : Int)] w (ClosePost lo x F s owner n w) := by
  have h0 := h
  obtain ⟨m, L, h1, h2, rfl⟩ := h
  cases ho : s.own owner n with
  | none =>
    have OC := Lib.hid (cown_no w lo x m s.last s.idle L h1 owner n hn (cown_lack h2 ho))
    have FIN := Lib.hid (show ClosePost lo x (fpQ x m L) s owner n w (.returned (.tuple #[.int .i64 0, .int .i64 140])) w from .inl ⟨ho, rfl, QPost.same h0⟩)
    clear h1 h2 h0 ho hn
    go_enter Try.func16, Try.ntmps16
    go_wp2_with (fail)
    refine OC.out.mono ?_
    rintro e w2 ⟨rfl, rfl⟩
    go_wp2
    go_ret2
    exact FIN.out
  | some cc =>
    obtain ⟨t, ht, rfl, rfl, rfl⟩ := cown_find h2 ho
    have OC := Lib.hid (cown_yes w lo x m s.last s.idle L h1 t ht)
    have CD := Lib.hid (cdrop_any w lo x m s.last s.idle L h1 t ht)
    have FIN := Lib.hid (fun (w' : World) (hT : TabQ w' lo x m (L.filter fun s => decide (s.c.n ≠ t.c.n)) s.last s.idle) (hk : Kept [m] w w') => show ClosePost lo x (fpQ x m L) s t.c.owner t.c.n w (.returned (.tuple #[.int .i64 t.c.pin, .int .i64 0])) w' from .inr ⟨t.c, ho, rfl, QPost.cut h2 hT hk⟩)
    clear h1 h2 h0 ho hn ht
    go_enter Try.func16, Try.ntmps16
    go_wp2_with (fail)
    refine OC.out.mono ?_
    rintro e w2 ⟨rfl, rfl⟩
    go_wp2_with (fail)
    refine CD.out.mono ?_
    rintro e w3 ⟨rfl, hT, hk⟩
    have R := Lib.hid (FIN.out w3 hT hk)
    clear FIN CD OC hT hk
    go_wp2
    go_ret2
    exact R.out
/-- What Take leaves. -/
def TakePost (lo x : Nat) (F : List Nat) (s : CTab) (owner n page now : Nat) (w : World) (e : Ending) (w' : World) : Prop :=
  (s.takeE owner n page ≠ 0 ∧ e = .returned (.tuple #[.agg #[.int .i64 0, .slice none 0 0, .slice none 0 0, .slice none 0 0, .slice none 0 0, .bool false, .int .i64 0, .int .u32 0], .int .i64 (s.takeE owner n page : Int)]) ∧ CIs w' lo x F s ∧ Kept F w w' ∧ Below w.heap.size w w') ∨
  (s.takeE owner n page = 0 ∧ ∃ (c : CurV) (y : QryL), s.own owner n = some c ∧ c.may page = true ∧ y.q = c.q ∧ e = .returned (.tuple #[askA c.pin y (c.behind page), .int .i64 0]) ∧ y.Own w.heap.size w' ∧ CIs w' lo x F (s.take owner n page now) ∧ Kept F w w')
set_option maxRecDepth 100000 in
set_option maxHeartbeats 3200000 in
theorem ctake_none (w : World) (lo x : Nat) (F : List Nat) (s : CTab) (h : CIs w lo x F s) (owner n page now : Nat) (hn : n < 4294967296) (ho : s.own owner n = none) :
    Calls Try.prog 11 #[.pointer (some ⟨x, 0, none⟩), .int .u64 (owner : Int), .int .u32 (n : Int), .int .u32 (page : Int), .int .u32 (now : Int)] w (TakePost lo x F s owner n page now w) := by
  have hE : s.takeE owner n page = 140 := by unfold CTab.takeE; rw [ho]
  obtain ⟨w1, hw1⟩ : ∃ w1, w.alloc (.cells #[.int .i64 0, .slice none 0 0, .slice none 0 0, .slice none 0 0, .slice none 0 0, .bool false, .int .i64 0, .int .u32 0] 49) = w1 := ⟨_, rfl⟩
  have b1 : Below w.heap.size w w1 := by rw [← hw1]; exact (Below.refl _ _).alloc (Nat.le_refl _) _
  have N1 : Blk w1 w.heap.size 49 [.int .i64 0, .slice none 0 0, .slice none 0 0, .slice none 0 0, .slice none 0 0, .bool false, .int .i64 0, .int .u32 0] := by rw [← hw1]; exact Blk.new _ _ _
  have z0 : w1.cell? ⟨w.heap.size, 0, none⟩ = some (.int .i64 0) := N1.cell 0
  have z1 : w1.cell? ⟨w.heap.size, 1, none⟩ = some (.slice none 0 0) := N1.cell 1
  have z2 : w1.cell? ⟨w.heap.size, 2, none⟩ = some (.slice none 0 0) := N1.cell 2
  have z3 : w1.cell? ⟨w.heap.size, 3, none⟩ = some (.slice none 0 0) := N1.cell 3
  have z4 : w1.cell? ⟨w.heap.size, 4, none⟩ = some (.slice none 0 0) := N1.cell 4
  have z5 : w1.cell? ⟨w.heap.size, 5, none⟩ = some (.bool false) := N1.cell 5
  have z6 : w1.cell? ⟨w.heap.size, 6, none⟩ = some (.int .i64 0) := N1.cell 6
  have z7 : w1.cell? ⟨w.heap.size, 7, none⟩ = some (.int .u32 0) := N1.cell 7
  have f0 := N1.frozen 0
  have f1 := N1.frozen 1
  have f2 := N1.frozen 2
  have f3 := N1.frozen 3
  have f4 := N1.frozen 4
  have f5 := N1.frozen 5
  have f6 := N1.frozen 6
  have f7 := N1.frozen 7
  have k9 : Kept [w.heap.size] w1 ((((((((w1.setCell ⟨w.heap.size, 0, none⟩ (.int .i64 0)).setCell ⟨w.heap.size, 1, none⟩ (.slice none 0 0)).setCell ⟨w.heap.size, 2, none⟩ (.slice none 0 0)).setCell ⟨w.heap.size, 3, none⟩ (.slice none 0 0)).setCell ⟨w.heap.size, 4, none⟩ (.slice none 0 0)).setCell ⟨w.heap.size, 5, none⟩ (.bool false)).setCell ⟨w.heap.size, 6, none⟩ (.int .i64 0)).setCell ⟨w.heap.size, 7, none⟩ (.int .u32 0)) := (((((((((Kept.refl [w.heap.size] w1).setCell ⟨w.heap.size, 0, none⟩ (.int .i64 0) (.inl (by simp))).setCell ⟨w.heap.size, 1, none⟩ (.slice none 0 0) (.inl (by simp))).setCell ⟨w.heap.size, 2, none⟩ (.slice none 0 0) (.inl (by simp))).setCell ⟨w.heap.size, 3, none⟩ (.slice none 0 0) (.inl (by simp))).setCell ⟨w.heap.size, 4, none⟩ (.slice none 0 0) (.inl (by simp))).setCell ⟨w.heap.size, 5, none⟩ (.bool false) (.inl (by simp))).setCell ⟨w.heap.size, 6, none⟩ (.int .i64 0) (.inl (by simp))).setCell ⟨w.heap.size, 7, none⟩ (.int .u32 0) (.inl (by simp)))
  have R1 := Lib.hid (((((((((N1.set 0 (.int .i64 0)).set 1 (.slice none 0 0)).set 2 (.slice none 0 0)).set 3 (.slice none 0 0)).set 4 (.slice none 0 0)).set 5 (.bool false)).set 6 (.int .i64 0)).set 7 (.int .u32 0)))
  have FIN := Lib.hid (show TakePost lo x F s owner n page now w (.returned (.tuple #[.agg #[.int .i64 0, .slice none 0 0, .slice none 0 0, .slice none 0 0, .slice none 0 0, .bool false, .int .i64 0, .int .u32 0], .int .i64 140])) ((((((((w1.setCell ⟨w.heap.size, 0, none⟩ (.int .i64 0)).setCell ⟨w.heap.size, 1, none⟩ (.slice none 0 0)).setCell ⟨w.heap.size, 2, none⟩ (.slice none 0 0)).setCell ⟨w.heap.size, 3, none⟩ (.slice none 0 0)).setCell ⟨w.heap.size, 4, none⟩ (.slice none 0 0)).setCell ⟨w.heap.size, 5, none⟩ (.bool false)).setCell ⟨w.heap.size, 6, none⟩ (.int .i64 0)).setCell ⟨w.heap.size, 7, none⟩ (.int .u32 0)) from by
    have hb2 : Below w.heap.size w ((((((((w1.setCell ⟨w.heap.size, 0, none⟩ (.int .i64 0)).setCell ⟨w.heap.size, 1, none⟩ (.slice none 0 0)).setCell ⟨w.heap.size, 2, none⟩ (.slice none 0 0)).setCell ⟨w.heap.size, 3, none⟩ (.slice none 0 0)).setCell ⟨w.heap.size, 4, none⟩ (.slice none 0 0)).setCell ⟨w.heap.size, 5, none⟩ (.bool false)).setCell ⟨w.heap.size, 6, none⟩ (.int .i64 0)).setCell ⟨w.heap.size, 7, none⟩ (.int .u32 0)) := b1.trans (k9.below (fun b hb => by rw [List.mem_singleton] at hb; omega) b1.size)
    exact .inl ⟨by rw [hE]; decide, by rw [hE]; rfl, h.on hb2, Kept.of_below hb2 (Nat.le_refl _), hb2⟩)
  obtain ⟨m, L, h1, h2, rfl⟩ := h
  have OC := Lib.hid (cown_no w1 lo x m s.last s.idle L (h1.on b1) owner n hn (cown_lack h2 ho))
  clear h1 h2 ho hn hE b1 N1 k9
  go_enter Try.func11, Try.ntmps11
  go_wp2_with (first | (rw [hw1]) | fail)
  try rw [hw1]
  refine OC.out.mono ?_
  rintro e w2 ⟨rfl, rfl⟩
  clear OC
  go_wp2
  refine bodyPost_ret (results_row_tmp14 (p := 10) (q := 11) (ty := 49) rfl _ _ w.heap.size 49 #[.int .i64 0, .slice none 0 0, .slice none 0 0, .slice none 0 0, .slice none 0 0, .bool false, .int .i64 0, .int .u32 0] (0, 0) _ rfl R1.out Try.underlying49 rfl ask_info (.int .i64 140) rfl) rfl ?_
  exact FIN.out
set_option maxRecDepth 100000 in
set_option maxHeartbeats 3200000 in
theorem ctake_page (w : World) (lo x m : Nat) (s : CTab) (L : List CurL) (h : CIs w lo x (fpQ x m L) s) (h1 : TabQ w lo x m L s.last s.idle) (t : CurL) (ht : t ∈ L) (ho : s.own t.c.owner t.c.n = some t.c) (page now : Nat) (hp : page < 4294967296) (hm : t.c.may page = false) :
    Calls Try.prog 11 #[.pointer (some ⟨x, 0, none⟩), .int .u64 (t.c.owner : Int), .int .u32 (t.c.n : Int), .int .u32 (page : Int), .int .u32 (now : Int)] w (TakePost lo x (fpQ x m L) s t.c.owner t.c.n page now w) := by
  have hE : s.takeE t.c.owner t.c.n page = 1 := by
    unfold CTab.takeE
    rw [ho]
    simp only [hm]
    rfl
  obtain ⟨w1, hw1⟩ : ∃ w1, w.alloc (.cells #[.int .i64 0, .slice none 0 0, .slice none 0 0, .slice none 0 0, .slice none 0 0, .bool false, .int .i64 0, .int .u32 0] 49) = w1 := ⟨_, rfl⟩
  have b1 : Below w.heap.size w w1 := by rw [← hw1]; exact (Below.refl _ _).alloc (Nat.le_refl _) _
  have N1 : Blk w1 w.heap.size 49 [.int .i64 0, .slice none 0 0, .slice none 0 0, .slice none 0 0, .slice none 0 0, .bool false, .int .i64 0, .int .u32 0] := by rw [← hw1]; exact Blk.new _ _ _
  have z0 : w1.cell? ⟨w.heap.size, 0, none⟩ = some (.int .i64 0) := N1.cell 0
  have z1 : w1.cell? ⟨w.heap.size, 1, none⟩ = some (.slice none 0 0) := N1.cell 1
  have z2 : w1.cell? ⟨w.heap.size, 2, none⟩ = some (.slice none 0 0) := N1.cell 2
  have z3 : w1.cell? ⟨w.heap.size, 3, none⟩ = some (.slice none 0 0) := N1.cell 3
  have z4 : w1.cell? ⟨w.heap.size, 4, none⟩ = some (.slice none 0 0) := N1.cell 4
  have z5 : w1.cell? ⟨w.heap.size, 5, none⟩ = some (.bool false) := N1.cell 5
  have z6 : w1.cell? ⟨w.heap.size, 6, none⟩ = some (.int .i64 0) := N1.cell 6
  have z7 : w1.cell? ⟨w.heap.size, 7, none⟩ = some (.int .u32 0) := N1.cell 7
  have f0 := N1.frozen 0
  have f1 := N1.frozen 1
  have f2 := N1.frozen 2
  have f3 := N1.frozen 3
  have f4 := N1.frozen 4
  have f5 := N1.frozen 5
  have f6 := N1.frozen 6
  have f7 := N1.frozen 7
  have k9 : Kept [w.heap.size] w1 ((((((((w1.setCell ⟨w.heap.size, 0, none⟩ (.int .i64 0)).setCell ⟨w.heap.size, 1, none⟩ (.slice none 0 0)).setCell ⟨w.heap.size, 2, none⟩ (.slice none 0 0)).setCell ⟨w.heap.size, 3, none⟩ (.slice none 0 0)).setCell ⟨w.heap.size, 4, none⟩ (.slice none 0 0)).setCell ⟨w.heap.size, 5, none⟩ (.bool false)).setCell ⟨w.heap.size, 6, none⟩ (.int .i64 0)).setCell ⟨w.heap.size, 7, none⟩ (.int .u32 0)) := (((((((((Kept.refl [w.heap.size] w1).setCell ⟨w.heap.size, 0, none⟩ (.int .i64 0) (.inl (by simp))).setCell ⟨w.heap.size, 1, none⟩ (.slice none 0 0) (.inl (by simp))).setCell ⟨w.heap.size, 2, none⟩ (.slice none 0 0) (.inl (by simp))).setCell ⟨w.heap.size, 3, none⟩ (.slice none 0 0) (.inl (by simp))).setCell ⟨w.heap.size, 4, none⟩ (.slice none 0 0) (.inl (by simp))).setCell ⟨w.heap.size, 5, none⟩ (.bool false) (.inl (by simp))).setCell ⟨w.heap.size, 6, none⟩ (.int .i64 0) (.inl (by simp))).setCell ⟨w.heap.size, 7, none⟩ (.int .u32 0) (.inl (by simp)))
  have R1 := Lib.hid (((((((((N1.set 0 (.int .i64 0)).set 1 (.slice none 0 0)).set 2 (.slice none 0 0)).set 3 (.slice none 0 0)).set 4 (.slice none 0 0)).set 5 (.bool false)).set 6 (.int .i64 0)).set 7 (.int .u32 0)))
  have FIN := Lib.hid (show TakePost lo x (fpQ x m L) s t.c.owner t.c.n page now w (.returned (.tuple #[.agg #[.int .i64 0, .slice none 0 0, .slice none 0 0, .slice none 0 0, .slice none 0 0, .bool false, .int .i64 0, .int .u32 0], .int .i64 1])) ((((((((w1.setCell ⟨w.heap.size, 0, none⟩ (.int .i64 0)).setCell ⟨w.heap.size, 1, none⟩ (.slice none 0 0)).setCell ⟨w.heap.size, 2, none⟩ (.slice none 0 0)).setCell ⟨w.heap.size, 3, none⟩ (.slice none 0 0)).setCell ⟨w.heap.size, 4, none⟩ (.slice none 0 0)).setCell ⟨w.heap.size, 5, none⟩ (.bool false)).setCell ⟨w.heap.size, 6, none⟩ (.int .i64 0)).setCell ⟨w.heap.size, 7, none⟩ (.int .u32 0)) from by
    have hb2 : Below w.heap.size w ((((((((w1.setCell ⟨w.heap.size, 0, none⟩ (.int .i64 0)).setCell ⟨w.heap.size, 1, none⟩ (.slice none 0 0)).setCell ⟨w.heap.size, 2, none⟩ (.slice none 0 0)).setCell ⟨w.heap.size, 3, none⟩ (.slice none 0 0)).setCell ⟨w.heap.size, 4, none⟩ (.slice none 0 0)).setCell ⟨w.heap.size, 5, none⟩ (.bool false)).setCell ⟨w.heap.size, 6, none⟩ (.int .i64 0)).setCell ⟨w.heap.size, 7, none⟩ (.int .u32 0)) := b1.trans (k9.below (fun b hb => by rw [List.mem_singleton] at hb; omega) b1.size)
    exact .inl ⟨by rw [hE]; decide, by rw [hE]; rfl, h.on hb2, Kept.of_below hb2 (Nat.le_refl _), hb2⟩)
  have OC := Lib.hid (cown_yes w1 lo x m s.last s.idle L (h1.on b1) t ht)
  obtain ⟨tg, htg⟩ : ∃ tg, t.g = tg := ⟨_, rfl⟩
  have MA := Lib.hid (cmay_any w1 tg t ((h1.on b1).each t ht).blk htg page hp)
  rw [hm] at MA
  rw [htg] at OC
  clear h h1 ho hE b1 N1 k9 ht hm hp htg
  go_enter Try.func11, Try.ntmps11
  go_wp2_with (first | (rw [hw1]) | fail)
  try rw [hw1]
  refine OC.out.mono ?_
  rintro e w2 ⟨rfl, rfl⟩
  clear OC
  go_wp2_with (fail)
  refine MA.out.mono ?_
  rintro e w2 ⟨rfl, rfl⟩
  clear MA
  go_wp2
  refine bodyPost_ret (results_row_tmp14 (p := 10) (q := 11) (ty := 49) rfl _ _ w.heap.size 49 #[.int .i64 0, .slice none 0 0, .slice none 0 0, .slice none 0 0, .slice none 0 0, .bool false, .int .i64 0, .int .u32 0] (0, 0) _ rfl R1.out Try.underlying49 rfl ask_info (.int .i64 1) rfl) rfl ?_
  exact FIN.out
set_option maxRecDepth 100000 in
set_option maxHeartbeats 3200000 in
theorem ctake_yes (w : World) (lo x m : Nat) (s : CTab) (L : List CurL) (h1 : TabQ w lo x m L s.last s.idle) (h2 : s.cs = L.map (·.c)) (t : CurL) (ht : t ∈ L) (ho : s.own t.c.owner t.c.n = some t.c) (page now : Nat) (hp : page < 4294967296) (hnw : now < 4294967296) (hm : t.c.may page = true) :
    Calls Try.prog 11 #[.pointer (some ⟨x, 0, none⟩), .int .u64 (t.c.owner : Int), .int .u32 (t.c.n : Int), .int .u32 (page : Int), .int .u32 (now : Int)] w (TakePost lo x (fpQ x m L) s t.c.owner t.c.n page now w) := by
  have hE : s.takeE t.c.owner t.c.n page = 0 := by
    unfold CTab.takeE
    rw [ho]
    simp only [hm]
    rfl
  have hT : s.take t.c.owner t.c.n page now = s.turn { t.c with used := now } := by
    unfold CTab.take
    rw [ho]
    simp only [hm]
    rfl
  obtain ⟨w1, hw1⟩ : ∃ w1, w.alloc (.cells #[.int .i64 0, .slice none 0 0, .slice none 0 0, .slice none 0 0, .slice none 0 0, .bool false, .int .i64 0, .int .u32 0] 49) = w1 := ⟨_, rfl⟩
  have b1 : Below w.heap.size w w1 := by rw [← hw1]; exact (Below.refl _ _).alloc (Nat.le_refl _) _
  have N1 : Blk w1 w.heap.size 49 [.int .i64 0, .slice none 0 0, .slice none 0 0, .slice none 0 0, .slice none 0 0, .bool false, .int .i64 0, .int .u32 0] := by rw [← hw1]; exact Blk.new _ _ _
  have hsz1 : w1.heap.size = w.heap.size + 1 := by rw [← hw1]; simp
  have h11 := h1.on b1
  have hA := h11.each t ht
  have OC := Lib.hid (cown_yes w1 lo x m s.last s.idle L h11 t ht)
  obtain ⟨tg, htg⟩ : ∃ tg, t.g = tg := ⟨_, rfl⟩
  have MA := Lib.hid (cmay_any w1 tg t hA.blk htg page hp)
  rw [hm] at MA
  rw [htg] at OC
  have hgl : tg < w.heap.size := by rw [← htg]; exact (h1.each t ht).blk.lt
  have hb1 : Blk w1 tg 85 t.cells := by rw [← htg]; exact hA.blk
  have c6 : w1.cell? ⟨tg, 6, none⟩ = some (.int .u32 (t.c.used : Int)) := hb1.cell 6
  have f6 := hb1.frozen 6
  obtain ⟨w2, hw2⟩ : ∃ w2, w1.setCell ⟨tg, 6, none⟩ (.int .u32 (now : Int)) = w2 := ⟨_, rfl⟩
  have hb2 : Blk w2 tg 85 (CurL.cells ⟨t.g, t.l, { t.c with used := now }⟩) := by
    rw [← hw2]
    exact hb1.set 6 (.int .u32 (now : Int))
  have k12 : Kept [tg] w1 w2 := by
    rw [← hw2]
    exact (Kept.refl [tg] w1).setCell _ _ (.inl (by simp))
  obtain ⟨r1, r2⟩ := CIs.turned (s := s) (w := w1) (w' := w2) h11 h2 ht (c' := { t.c with used := now }) rfl rfl rfl (by rw [htg]; exact hb2) hnw hA.t32 (by rw [htg]; exact k12)
  have hA2 : CurL.At w2 lo ⟨t.g, t.l, { t.c with used := now }⟩ := ⟨by rw [htg]; exact hb2, hA.glo, hA.rows.kept k12 (fun g hg e => by
    rw [List.mem_singleton] at e
    subst e
    exact h11.g_not t ht t ht (htg ▸ hg)), hA.hq, hA.n32, hA.o64, hnw, hA.t32⟩
  have CA := Lib.hid (cask_any w2 lo tg ⟨t.g, t.l, { t.c with used := now }⟩ hA2 htg page)
  have N2 : Blk w2 w.heap.size 49 [.int .i64 0, .slice none 0 0, .slice none 0 0, .slice none 0 0, .slice none 0 0, .bool false, .int .i64 0, .int .u32 0] := k12.blk N1 (by rw [List.mem_singleton]; omega)
  have hs2 : w2.heap.size = w1.heap.size := by rw [← hw2]; simp [World.setCell]
  have FIN := Lib.hid (fun (w3 : World) (y : QryL) (hq : y.q = t.l.q) (hb : Below w2.heap.size w2 w3) (hy : y.Own w2.heap.size w3) (wz : World) =>
    show ∀ (eh : Bool) (ed ei pn : Int), t.c.behind page = ⟨eh, ed, ei⟩ → t.c.pin = pn → ((((((((w3.setCell ⟨w.heap.size, 0, none⟩ (.int .i64 pn)).setCell ⟨w.heap.size, 1, none⟩ (.slice y.pv.1 y.pv.2.1 y.pv.2.2)).setCell ⟨w.heap.size, 2, none⟩ (.slice y.p0.1 y.p0.2.1 y.p0.2.2)).setCell ⟨w.heap.size, 3, none⟩ (.slice y.p1.1 y.p1.2.1 y.p1.2.2)).setCell ⟨w.heap.size, 4, none⟩ (.slice y.p2.1 y.p2.2.1 y.p2.2.2)).setCell ⟨w.heap.size, 5, none⟩ (.bool eh)).setCell ⟨w.heap.size, 6, none⟩ (.int .i64 ed)).setCell ⟨w.heap.size, 7, none⟩ (.int .u32 ei)) = wz → Blk wz w.heap.size 49 [.int .i64 pn, .slice y.pv.1 y.pv.2.1 y.pv.2.2, .slice y.p0.1 y.p0.2.1 y.p0.2.2, .slice y.p1.1 y.p1.2.1 y.p1.2.2, .slice y.p2.1 y.p2.2.1 y.p2.2.2, .bool eh, .int .i64 ed, .int .u32 ei] ∧ TakePost lo x (fpQ x m L) s t.c.owner t.c.n page now w (.returned (.tuple #[askA t.c.pin y (t.c.behind page), .int .i64 0])) wz from by
    intro eh ed ei pn hbe hpn hz
    have N3 := (Kept.of_below (F := []) hb (Nat.le_refl _)).blk N2 (by simp)
    have k9 : Kept [w.heap.size] w3 wz := by
      rw [← hz]
      exact (((((((((Kept.refl [w.heap.size] w3).setCell ⟨w.heap.size, 0, none⟩ (.int .i64 pn) (.inl (by simp))).setCell ⟨w.heap.size, 1, none⟩ (.slice y.pv.1 y.pv.2.1 y.pv.2.2) (.inl (by simp))).setCell ⟨w.heap.size, 2, none⟩ (.slice y.p0.1 y.p0.2.1 y.p0.2.2) (.inl (by simp))).setCell ⟨w.heap.size, 3, none⟩ (.slice y.p1.1 y.p1.2.1 y.p1.2.2) (.inl (by simp))).setCell ⟨w.heap.size, 4, none⟩ (.slice y.p2.1 y.p2.2.1 y.p2.2.2) (.inl (by simp))).setCell ⟨w.heap.size, 5, none⟩ (.bool eh) (.inl (by simp))).setCell ⟨w.heap.size, 6, none⟩ (.int .i64 ed) (.inl (by simp))).setCell ⟨w.heap.size, 7, none⟩ (.int .u32 ei) (.inl (by simp)))
    have hlt := hb.size
    refine ⟨by rw [← hz]; exact ((((((((N3.set 0 (.int .i64 pn)).set 1 (.slice y.pv.1 y.pv.2.1 y.pv.2.2)).set 2 (.slice y.p0.1 y.p0.2.1 y.p0.2.2)).set 3 (.slice y.p1.1 y.p1.2.1 y.p1.2.2)).set 4 (.slice y.p2.1 y.p2.2.1 y.p2.2.2)).set 5 (.bool eh)).set 6 (.int .i64 ed)).set 7 (.int .u32 ei)), .inr ⟨hE, t.c, y, ho, hm, hq.trans hA.hq.symm, rfl, ?_, ?_, ?_⟩⟩
    · have hy2 : y.Own w2.heap.size wz := hy.kept k9 fun g hg e => by
        have := (hy.lt g hg).1
        rw [List.mem_singleton] at e
        omega
      have hlo : w.heap.size ≤ w2.heap.size := by omega
      exact ⟨row_to hy2.vec hlo (Below.refl _ _), hy2.wv, hy2.lv, hy2.all.to hlo (Below.refl _ _), hy2.any.to hlo (Below.refl _ _), hy2.none.to hlo (Below.refl _ _)⟩
    · rw [hT]
      refine (r1.on hb).kept k9 fun b hb2 hF => ?_
      rw [List.mem_singleton] at hb2
      have := (h1.lt b hF).2
      omega
    · have k1 : Kept (fpQ x m L) w w2 := (Kept.of_below (F := fpQ x m L) b1 (Nat.le_refl _)).trans r2 (Grows.refl _ _)
      exact (k1.trans (Kept.of_below (F := fpQ x m L) hb (Nat.le_refl _)) (Grows.refl _ _)).trans k9 (fun b hb => .inr (by rw [List.mem_singleton] at hb; omega)))
  have HN2 := Lib.hid N2
  obtain ⟨⟨eh, ed, ei⟩, he⟩ : ∃ e, t.c.behind page = e := ⟨_, rfl⟩
  have HB9 := Lib.hid he
  have HE := Lib.hid (show CurV.behind { t.c with used := now } page = ⟨eh, ed, ei⟩ from he)
  obtain ⟨pn, hpn⟩ : ∃ pn, t.c.pin = pn := ⟨_, rfl⟩
  have HP := Lib.hid hpn
  clear h1 h2 ho hE hT b1 N1 ht hm hp hnw htg h11 hA hgl hb1 hb2 k12 r1 r2 hA2 N2 hs2 hsz1 he hpn
  go_enter Try.func11, Try.ntmps11
  go_wp2_with (first | (rw [hw1]) | fail)
  try rw [hw1]
  refine OC.out.mono ?_
  rintro e w2' ⟨rfl, rfl⟩
  clear OC
  go_wp2_with (fail)
  refine MA.out.mono ?_
  rintro e w2' ⟨rfl, rfl⟩
  clear MA
  go_wp2_with (first | (rw [hw2]) | fail)
  try rw [hw2]
  refine CA.out.mono ?_
  rintro e w3 ⟨y, hq, rfl, hb, hy⟩
  obtain ⟨wz, hz⟩ : ∃ wz, ((((((((w3.setCell ⟨w.heap.size, 0, none⟩ (.int .i64 pn)).setCell ⟨w.heap.size, 1, none⟩ (.slice y.pv.1 y.pv.2.1 y.pv.2.2)).setCell ⟨w.heap.size, 2, none⟩ (.slice y.p0.1 y.p0.2.1 y.p0.2.2)).setCell ⟨w.heap.size, 3, none⟩ (.slice y.p1.1 y.p1.2.1 y.p1.2.2)).setCell ⟨w.heap.size, 4, none⟩ (.slice y.p2.1 y.p2.2.1 y.p2.2.2)).setCell ⟨w.heap.size, 5, none⟩ (.bool eh)).setCell ⟨w.heap.size, 6, none⟩ (.int .i64 ed)).setCell ⟨w.heap.size, 7, none⟩ (.int .u32 ei)) = wz := ⟨_, rfl⟩
  have R := Lib.hid (FIN.out w3 y hq hb hy wz eh ed ei pn HB9.out HP.out hz)
  have N3 := (Kept.of_below (F := []) hb (Nat.le_refl _)).blk HN2.out (by simp)
  have nz0 : w3.cell? ⟨w.heap.size, 0, none⟩ = some (.int .i64 0) := N3.cell 0
  have nz1 : w3.cell? ⟨w.heap.size, 1, none⟩ = some (.slice none 0 0) := N3.cell 1
  have nz2 : w3.cell? ⟨w.heap.size, 2, none⟩ = some (.slice none 0 0) := N3.cell 2
  have nz3 : w3.cell? ⟨w.heap.size, 3, none⟩ = some (.slice none 0 0) := N3.cell 3
  have nz4 : w3.cell? ⟨w.heap.size, 4, none⟩ = some (.slice none 0 0) := N3.cell 4
  have nz5 : w3.cell? ⟨w.heap.size, 5, none⟩ = some (.bool false) := N3.cell 5
  have nz6 : w3.cell? ⟨w.heap.size, 6, none⟩ = some (.int .i64 0) := N3.cell 6
  have nz7 : w3.cell? ⟨w.heap.size, 7, none⟩ = some (.int .u32 0) := N3.cell 7
  have nf0 := N3.frozen 0
  have nf1 := N3.frozen 1
  have nf2 := N3.frozen 2
  have nf3 := N3.frozen 3
  have nf4 := N3.frozen 4
  have nf5 := N3.frozen 5
  have nf6 := N3.frozen 6
  have nf7 := N3.frozen 7
  rw [HE.out]
  rw [show CurV.pin { t.c with used := now } = pn from HP.out]
  unfold askA
  clear N3 FIN CA hq hb hy HN2 c6 f6 HE
  go_wp2_with (first | (rw [hz]) | fail)
  try rw [hz]
  refine bodyPost_ret (results_row_tmp14 (p := 10) (q := 11) (ty := 49) rfl _ _ w.heap.size 49 #[.int .i64 pn, .slice y.pv.1 y.pv.2.1 y.pv.2.2, .slice y.p0.1 y.p0.2.1 y.p0.2.2, .slice y.p1.1 y.p1.2.1 y.p1.2.2, .slice y.p2.1 y.p2.2.1 y.p2.2.2, .bool eh, .int .i64 ed, .int .u32 ei] (0, 0) _ rfl R.out.1 Try.underlying49 rfl ask_info (.int .i64 0) rfl) rfl ?_
  have R2 := R.out.2
  rw [HB9.out, HP.out] at R2
  exact R2
theorem ctake_any (w : World) (lo x : Nat) (F : List Nat) (s : CTab) (h : CIs w lo x F s) (owner n page now : Nat) (hn : n < 4294967296) (hp : page < 4294967296) (hnw : now < 4294967296) :
    Calls Try.prog 11 #[.pointer (some ⟨x, 0, none⟩), .int .u64 (owner : Int), .int .u32 (n : Int), .int .u32 (page : Int), .int .u32 (now : Int)] w (TakePost lo x F s owner n page now w) := by
  cases ho : s.own owner n with
  | none => exact ctake_none w lo x F s h owner n page now hn ho
  | some c =>
    have h0 := h
    obtain ⟨m, L, h1, h2, rfl⟩ := h
    obtain ⟨t, ht, rfl, rfl, rfl⟩ := cown_find h2 ho
    cases hm : t.c.may page with
    | false => exact ctake_page w lo x m s L h0 h1 t ht ho page now hp hm
    | true => exact ctake_yes w lo x m s L h1 h2 t ht ho page now hp hnw hm
end Go.Proofs.Ytadkfedglkhgjaa
