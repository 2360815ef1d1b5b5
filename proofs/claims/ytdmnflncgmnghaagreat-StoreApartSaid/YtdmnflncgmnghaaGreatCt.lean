/-
  The program's past: there: the item of an id at a version; mayLay, Last, Rows, New.
-/
import Derived.Test.YtdmnflncgmnghaaGreatCi
namespace Go.Proofs.YtdmnflncgmnghaaGreat
open Go.RowKit Go.Shelf

attribute [local go_sem] Oper.semAt_some

theorem blk_own {β : Type} (B : Nat) (t : TypeId) (f : β → List Value) : Go.Own (fun s W => Blk W B t (f s)) := fun s X Y row hs hg hrow =>
  hs.grown hg (fun e' => by obtain ⟨o, ho, hc⟩ := hrow B e'; rw [show X.heap[B]? = _ from hs] at ho; cases ho; cases hc)
theorem Blk.setO {w : World} {g b : Nat} {t : TypeId} {cs : List Value} (h : Blk w g t cs) (hne : g ≠ b) (i : Nat) (u : Value) : Blk (w.setCell ⟨b, i, none⟩ u) g t cs := h.far hne u
theorem Blk.putO {w : World} {g l : Nat} {t : TypeId} {cs : List Value} (h : Blk w g t cs) {o : Obj} (o' : Obj) (hl : w.heap[l]? = some o) (ho : o.isCells = false) : Blk (w.putObj l o') g t cs := h.of_eq (World.putObj_heap_other (by
  rintro rfl
  rw [show w.heap[g]? = _ from h] at hl
  cases hl
  cases ho))
/-- The row of an id at a version, as going backwards meets it. -/
def lastL (L : List RowL) (id v : Nat) : Option RowL := ((bk L v L.length).find? fun x => x.1.2.id == id).map fun x => x.1.2
/-- What there tells. -/
def thereV : Option RowL → Value
  | none => .tuple #[.agg #[.int .u32 0, .slice none 0 0, .slice none 0 0], .bool false]
  | some r => .tuple #[.agg #[.int .u32 (r.id : Int), .slice r.pv.1 r.pv.2.1 r.pv.2.2, .slice r.pt.1 r.pt.2.1 r.pt.2.2], .bool (!r.gone)]
theorem results_row_cell8 {P : Program} {fn : Func} {p q : Tmp} {ty ty2 : TypeId} (h : fn.results = #[.cell p ty, .cell q ty2]) (tmps : Array Value) (w : World) (g g2 : Nat) (t t2 : TypeId) (cs : Array Value) (fr : Nat × Nat) (d : TypeDesc) (v : Value)
    (hp : tmps.getD p undef = .pointer (some ⟨g, 0, none⟩)) (hg : w.heap[g]? = some (.cells cs t fr))
    (hu : P.underlying ty = some d) (hd : (match d with | .struct _ | .array _ _ => true | _ => false) = true) (hi : (P.info? ty).map (·.size) = some cs.size)
    (hq : tmps.getD q undef = .pointer (some ⟨g2, 0, none⟩)) (ha : ∀ w, (isAgg ty2).run P w = .ok false w) (hb : Blk w g2 t2 [v]) :
    (results fn tmps).run P w = .ok (.tuple #[.agg cs, v]) w := by
  have hp' : tmps[p]?.getD undef = .pointer (some ⟨g, 0, none⟩) := by simpa using hp
  have hq' : tmps[q]?.getD undef = .pointer (some ⟨g2, 0, none⟩) := by simpa using hq
  have hl : (loadVar ty2 ⟨g2, 0, none⟩).run P w = .ok v w := by
    have hc : w.cell? ⟨g2, 0, none⟩ = some v := hb.cell 0
    unfold loadVar
    simp [ha, hc, Result.andThen]
  simp [results, h, hp', hq', asAddr, run_loadVar_row w g t ty cs fr d hg hu hd hi, hl, Result.andThen]
theorem keeps_set4 (W : World) (a b c d : Addr) (u1 u2 u3 u4 : Value) : KeepsOthers W ((((W.setCell a u1).setCell b u2).setCell c u3).setCell d u4).drew :=
  ((((KeepsOthers.setCell _ _ _).trans (KeepsOthers.setCell _ _ _)).trans (KeepsOthers.setCell _ _ _)).trans (KeepsOthers.setCell _ _ _)).trans (KeepsOthers.drew _)
theorem below_set4 {n : Nat} {w W : World} (h : Below n w W) {a b c d : Addr} (ha : n ≤ a.block) (hb : n ≤ b.block) (hc : n ≤ c.block) (hd : n ≤ d.block) (u1 u2 u3 u4 : Value) : Below n w ((((W.setCell a u1).setCell b u2).setCell c u3).setCell d u4).drew :=
  ((((h.setCell ha u1).setCell hb u2).setCell hc u3).setCell hd u4).drew

set_option maxRecDepth 100000 in
set_option maxHeartbeats 3200000 in
theorem there_in (w : World) (lo g : Nat) (It : List Nat) (u k : Value) (L : List RowL) (last floor : Nat) (kept : List Nat) (id v : Nat) (hv : v < 18446744073709551616) (PC : PastC w lo g It u k L last floor kept) :
    CallsIn Fence.wide 9 Tryz.prog 88 #[.pointer (some ⟨g, 0, none⟩), .int .u32 (id : Int), .int .u64 (v : Int)] w fun e W' => e = .returned (thereV (lastL L id v)) ∧ Below w.heap.size w W' := by
  refine callsIn_of_wp_marks Tryz.func88 rfl trivial ?_ rfl
  simp only [Tryz.ntmps88, List.size_toArray, List.length_cons, List.length_nil, Nat.reduceAdd, Nat.reduceSub, Array.replicate_succ, Array.replicate_zero, List.push_toArray, List.append_toArray, List.nil_append, List.cons_append]
  gi_wp2_with (refine ⟨trivial, ?_⟩; gi_at_call 77; refine (back_in _ g v _).mono ?_; rintro e w' ⟨rfl, rfl⟩)
  obtain ⟨W0, hW0⟩ : ∃ W0, ((((w.alloc (.cells #[.int .u32 (id : Int)] 38)).alloc (.cells #[.int .u32 0, .slice none 0 0, .slice none 0 0] 73)).alloc (.cells #[.bool false] 4)).alloc (.cells #[.pointer (some ⟨g, 0, none⟩)] 102)).alloc (.cells #[.int .u64 (v : Int)] 27) = W0 := ⟨_, rfl⟩
  have hB0 : Below w.heap.size w W0 := by
    rw [← hW0]
    exact (((((Below.refl _ w).alloc (Nat.le_refl _) _).alloc (by simp) _).alloc (by simp; omega) _).alloc (by simp; omega) _).alloc (by simp; omega) _
  have hsz : W0.heap.size = w.heap.size + 5 := by rw [← hW0]; simp
  have b0 : Blk W0 w.heap.size 38 [.int .u32 (id : Int)] := by
    rw [← hW0]
    exact ((((Blk.new w _ _).alloc _).alloc _).alloc _).alloc _
  have b1 : Blk W0 (w.heap.size + 1) 73 [.int .u32 0, .slice none 0 0, .slice none 0 0] := by
    rw [← hW0]
    have := (((Blk.new (w.alloc (.cells #[.int .u32 (id : Int)] 38)) 73 #[.int .u32 0, .slice none 0 0, .slice none 0 0]).alloc (.cells #[.bool false] 4)).alloc (.cells #[.pointer (some ⟨g, 0, none⟩)] 102)).alloc (.cells #[.int .u64 (v : Int)] 27)
    simpa using this
  have b2 : Blk W0 (w.heap.size + 2) 4 [.bool false] := by
    rw [← hW0]
    have := ((Blk.new ((w.alloc (.cells #[.int .u32 (id : Int)] 38)).alloc (.cells #[.int .u32 0, .slice none 0 0, .slice none 0 0] 73)) 4 #[.bool false]).alloc (.cells #[.pointer (some ⟨g, 0, none⟩)] 102)).alloc (.cells #[.int .u64 (v : Int)] 27)
    simpa using this
  have b3 : Blk W0 (w.heap.size + 3) 102 [.pointer (some ⟨g, 0, none⟩)] := by
    rw [← hW0]
    have := (Blk.new (((w.alloc (.cells #[.int .u32 (id : Int)] 38)).alloc (.cells #[.int .u32 0, .slice none 0 0, .slice none 0 0] 73)).alloc (.cells #[.bool false] 4)) 102 #[.pointer (some ⟨g, 0, none⟩)]).alloc (.cells #[.int .u64 (v : Int)] 27)
    simpa using this
  have b4 : Blk W0 (w.heap.size + 4) 27 [.int .u64 (v : Int)] := by
    rw [← hW0]
    have := Blk.new ((((w.alloc (.cells #[.int .u32 (id : Int)] 38)).alloc (.cells #[.int .u32 0, .slice none 0 0, .slice none 0 0] 73)).alloc (.cells #[.bool false] 4)).alloc (.cells #[.pointer (some ⟨g, 0, none⟩)] 102)) 27 #[.int .u64 (v : Int)]
    simpa using this
  rw [hW0]
  clear hW0
  refine wpIn_rangeFunc_ownH rfl (by omega) (gf := 97) (lb := #[.pointer (some ⟨w.heap.size + 3, 0, none⟩), .pointer (some ⟨w.heap.size + 4, 0, none⟩)]) rfl trivial (enters_of Tryz.func97 (by kernel_rfl) rfl)
    (back_stops 8 (by omega) (w.heap.size + 3) (w.heap.size + 4) w lo g It u k L last floor kept PC v hv W0 hB0 b3 b4) kpB_t (kpB_b (by omega) (by omega) (by omega)) (Below.refl _ _) (fun _ => rfl)
    (fun pre W => ((((Blk W w.heap.size 38 [.int .u32 (id : Int)] ∧ Blk W (w.heap.size + 1) 73 [.int .u32 0, .slice none 0 0, .slice none 0 0]) ∧ Blk W (w.heap.size + 2) 4 [.bool false]) ∧ Blk W (w.heap.size + 3) 102 [.pointer (some ⟨g, 0, none⟩)] ∧ Blk W (w.heap.size + 4) 27 [.int .u64 (v : Int)]) ∧ Below w.heap.size w W) ∧ (∀ x ∈ pre, x.1.2.id ≠ id))
    (fun c pre W => c = .ret ∧ ∃ r : RowL, (∃ q x, pre = q ++ [x] ∧ (∀ y ∈ q, y.1.2.id ≠ id) ∧ x.1.2 = r ∧ r.id = id) ∧ Blk W (w.heap.size + 1) 73 [.int .u32 (r.id : Int), .slice r.pv.1 r.pv.2.1 r.pv.2.2, .slice r.pt.1 r.pt.2.1 r.pt.2.2] ∧ Blk W (w.heap.size + 2) 4 [.bool (!r.gone)] ∧ Below w.heap.size w W)
    (OwnFrom.and (OwnFrom.and (OwnFrom.and (OwnFrom.and (OwnFrom.and (Own.from (blk_own _ _ _) _) (Own.from (blk_own _ _ _) _)) (Own.from (blk_own _ _ _) _)) (OwnFrom.and (Own.from (blk_own _ _ _) _) (Own.from (blk_own _ _ _) _))) (ownFrom_below (Nat.le_refl _) (by omega))) (ownFrom_pure _ _))
    (fun c s X Y row hs hg hr => by
      obtain ⟨hc, r, hp, h1, h2, h3⟩ := hs
      exact ⟨hc, r, hp, blk_own _ _ (fun (_ : Unit) => _) () X Y row h1 hg (fun r e => (hr r e).2), blk_own _ _ (fun (_ : Unit) => _) () X Y row h2 hg (fun r e => (hr r e).2), ownFrom_below (Nat.le_refl _) (show w.heap.size ≤ W0.heap.size by omega) () X Y row h3 hg hr⟩)
    ⟨⟨⟨⟨⟨b0, b1⟩, b2⟩, b3, b4⟩, hB0⟩, by simp⟩
    (fun x a' W => ∃ Bx, w.heap.size + 4 < Bx ∧ Blk W Bx 157 x.1.2.cells ∧ a' = { tmps := #[.pointer (some ⟨g, 0, none⟩), .int .u32 (id : Int), .int .u64 (v : Int), undef, .pointer (some ⟨w.heap.size, 0, none⟩), undef, .pointer (some ⟨w.heap.size + 1, 0, none⟩), .pointer (some ⟨w.heap.size + 2, 0, none⟩), undef, .pointer (some ⟨Bx, 0, none⟩), .pointer (some ⟨g, 0, none⟩), .int .u64 (v : Int), .func (.func 97) #[] #[.pointer (some ⟨w.heap.size + 3, 0, none⟩), .pointer (some ⟨w.heap.size + 4, 0, none⟩)], .int .i64 (x.1.1 : Int), .agg #[.int .u64 (x.1.2.v : Int), .bool x.1.2.gone, .int .u32 (x.1.2.id : Int), .slice x.1.2.pv.1 x.1.2.pv.2.1 x.1.2.pv.2.2, .slice x.1.2.pt.1 x.1.2.pt.2.1 x.1.2.pt.2.2], undef, undef, undef, undef, undef, undef, undef, undef, undef, undef, undef], defers := [] })
    (fun x a' _ X Y row hs hg hr => by
      obtain ⟨Bx, h1, h2, h3⟩ := hs
      exact ⟨Bx, h1, blk_own _ _ (fun (_ : Unit) => _) () X Y row h2 hg (fun r e => (hr r e).2), h3⟩)
    ?assign ?body ?done ?stop
  case assign =>
    rintro l pre x W K ⟨⟨⟨⟨⟨d0, d1⟩, d2⟩, d3, d4⟩, hB⟩, hq⟩ hK
    dsimp only [backE]
    gi_wp2
    refine hK _ _ ((KeepsOthers.alloc _ _).from _) ⟨(Below.refl _ W).alloc hB.size _, Below.heap_alloc _ _ _ d3.lt, Below.heap_alloc _ _ _ d4.lt⟩ ⟨⟨⟨⟨⟨d0.alloc _, d1.alloc _⟩, d2.alloc _⟩, d3.alloc _, d4.alloc _⟩, hB.alloc hB.size _⟩, hq⟩ ⟨W.heap.size, d4.lt, ?_, rfl⟩
    exact Blk.new W _ _
  case body =>
    rintro l pre x a' W hl _ ⟨⟨⟨⟨⟨d0, d1⟩, d2⟩, d3, d4⟩, hB⟩, hq⟩ ⟨Bx, hBx, dx, rfl⟩ hlt
    have k0 : W.cell? ⟨w.heap.size, 0, none⟩ = some (.int .u32 (id : Int)) := d0.cell 0
    have x1 : W.cell? ⟨Bx, 1, none⟩ = some (.bool x.1.2.gone) := dx.cell 1
    have x2 : W.cell? ⟨Bx, 2, none⟩ = some (.int .u32 (x.1.2.id : Int)) := dx.cell 2
    have x3 : W.cell? ⟨Bx, 3, none⟩ = some (.slice x.1.2.pv.1 x.1.2.pv.2.1 x.1.2.pv.2.2) := dx.cell 3
    have x4 : W.cell? ⟨Bx, 4, none⟩ = some (.slice x.1.2.pt.1 x.1.2.pt.2.1 x.1.2.pt.2.2) := dx.cell 4
    have k10 : W.cell? ⟨w.heap.size + 1, 0, none⟩ = some (.int .u32 0) := d1.cell 0
    have k11 : W.cell? ⟨w.heap.size + 1, 1, none⟩ = some (.slice none 0 0) := d1.cell 1
    have k12 : W.cell? ⟨w.heap.size + 1, 2, none⟩ = some (.slice none 0 0) := d1.cell 2
    have k2 : W.cell? ⟨w.heap.size + 2, 0, none⟩ = some (.bool false) := d2.cell 0
    have f10 := d1.frozen 0
    have f11 := d1.frozen 1
    have f12 := d1.frozen 2
    have f2 := d2.frozen 0
    by_cases hid : x.1.2.id = id
    · have hidb : ((x.1.2.id : Int) == (id : Int)) = true := by simp [hid]
      have hmo : Tryz.prog.follows .mixedOrders = true := by kernel_rfl
      have PX : ∃ q y, pre ++ [x] = q ++ [y] ∧ (∀ z ∈ q, z.1.2.id ≠ id) ∧ y.1.2 = x.1.2 ∧ x.1.2.id = id := ⟨pre, x, rfl, hq, rfl, hid⟩
      have HPX := Lib.hid PX
      have D1 := Lib.hid d1
      have D2 := Lib.hid d2
      have HB := Lib.hid hB
      have HID := Lib.hid hid
      have EA1 := Lib.hid (show Blk (((((W.setCell ⟨w.heap.size + 1, 0, none⟩ (.int .u32 (id : Int))).setCell ⟨w.heap.size + 1, 1, none⟩ (.slice x.1.2.pv.1 x.1.2.pv.2.1 x.1.2.pv.2.2)).setCell ⟨w.heap.size + 1, 2, none⟩ (.slice x.1.2.pt.1 x.1.2.pt.2.1 x.1.2.pt.2.2)).setCell ⟨w.heap.size + 2, 0, none⟩ (.bool (!x.1.2.gone))).drew) (w.heap.size + 1) 73 [.int .u32 (id : Int), .slice x.1.2.pv.1 x.1.2.pv.2.1 x.1.2.pv.2.2, .slice x.1.2.pt.1 x.1.2.pt.2.1 x.1.2.pt.2.2] from (((d1.set 0 _).set 1 _).set 2 _).setO (by simp) 0 _)
      have EA2 := Lib.hid (show Blk (((((W.setCell ⟨w.heap.size + 1, 0, none⟩ (.int .u32 (id : Int))).setCell ⟨w.heap.size + 1, 1, none⟩ (.slice x.1.2.pv.1 x.1.2.pv.2.1 x.1.2.pv.2.2)).setCell ⟨w.heap.size + 1, 2, none⟩ (.slice x.1.2.pt.1 x.1.2.pt.2.1 x.1.2.pt.2.2)).setCell ⟨w.heap.size + 2, 0, none⟩ (.bool (!x.1.2.gone))).drew) (w.heap.size + 2) 4 [.bool (!x.1.2.gone)] from (((d2.setO (by simp) 0 _).setO (by simp) 1 _).setO (by simp) 2 _).set 0 _)
      have EB1 := Lib.hid (show Blk (((((W.setCell ⟨w.heap.size + 2, 0, none⟩ (.bool (!x.1.2.gone))).setCell ⟨w.heap.size + 1, 0, none⟩ (.int .u32 (id : Int))).setCell ⟨w.heap.size + 1, 1, none⟩ (.slice x.1.2.pv.1 x.1.2.pv.2.1 x.1.2.pv.2.2)).setCell ⟨w.heap.size + 1, 2, none⟩ (.slice x.1.2.pt.1 x.1.2.pt.2.1 x.1.2.pt.2.2)).drew) (w.heap.size + 1) 73 [.int .u32 (id : Int), .slice x.1.2.pv.1 x.1.2.pv.2.1 x.1.2.pv.2.2, .slice x.1.2.pt.1 x.1.2.pt.2.1 x.1.2.pt.2.2] from (((d1.setO (by simp) 0 _).set 0 _).set 1 _).set 2 _)
      have EB2 := Lib.hid (show Blk (((((W.setCell ⟨w.heap.size + 2, 0, none⟩ (.bool (!x.1.2.gone))).setCell ⟨w.heap.size + 1, 0, none⟩ (.int .u32 (id : Int))).setCell ⟨w.heap.size + 1, 1, none⟩ (.slice x.1.2.pv.1 x.1.2.pv.2.1 x.1.2.pv.2.2)).setCell ⟨w.heap.size + 1, 2, none⟩ (.slice x.1.2.pt.1 x.1.2.pt.2.1 x.1.2.pt.2.2)).drew) (w.heap.size + 2) 4 [.bool (!x.1.2.gone)] from (((d2.set 0 _).setO (by simp) 0 _).setO (by simp) 1 _).setO (by simp) 2 _)
      clear PX dx
      gi_wp2_with (gi_region_with_o (fail))
      all_goals (refine ⟨(keeps_set4 W _ _ _ _ _ _ _ _).from _, rfl, x.1.2, HPX.out, ?_, ?_, below_set4 HB.out (by simp) (by simp) (by simp) (by simp) _ _ _ _⟩)
      all_goals try rw [HID.out]
      all_goals first
        | with_reducible exact EA1.out
        | with_reducible exact EA2.out
        | with_reducible exact EB1.out
        | with_reducible exact EB2.out
    · have hidb : ((x.1.2.id : Int) == (id : Int)) = false := by simp; omega
      gi_wp2
      exact ⟨KeepsFrom.refl _ _, ⟨Below.refl _ _, rfl, rfl⟩, ⟨⟨⟨⟨d0, d1⟩, d2⟩, d3, d4⟩, hB⟩, fun y hy => by
        rcases List.mem_append.1 hy with h | h
        · exact hq y h
        · rw [List.mem_singleton.1 h]
          exact hid⟩
  case done =>
    rintro D ys W hD rfl ⟨⟨⟨⟨⟨d0, d1⟩, d2⟩, d3, d4⟩, hB⟩, hq⟩ hK
    have k10 : W.cell? ⟨w.heap.size + 1, 0, none⟩ = some (.int .u32 0) := d1.cell 0
    have k11 : W.cell? ⟨w.heap.size + 1, 1, none⟩ = some (.slice none 0 0) := d1.cell 1
    have k12 : W.cell? ⟨w.heap.size + 1, 2, none⟩ = some (.slice none 0 0) := d1.cell 2
    have k2 : W.cell? ⟨w.heap.size + 2, 0, none⟩ = some (.bool false) := d2.cell 0
    have f10 := d1.frozen 0
    have f11 := d1.frozen 1
    have f12 := d1.frozen 2
    have f2 := d2.frozen 0
    have E := Lib.hid (show lastL L id v = none from by
      unfold lastL
      rw [List.find?_eq_none.2 (fun x hx => by simpa using hq x hx)]
      rfl)
    have K1 : ((((W.setCell ⟨w.heap.size + 1, 0, none⟩ (.int .u32 0)).setCell ⟨w.heap.size + 1, 1, none⟩ (.slice none 0 0)).setCell ⟨w.heap.size + 1, 2, none⟩ (.slice none 0 0)).setCell ⟨w.heap.size + 2, 0, none⟩ (.bool false)).heap[D]? = some (.deferred (some [])) := (keeps_set4 W ⟨w.heap.size + 1, 0, none⟩ ⟨w.heap.size + 1, 1, none⟩ ⟨w.heap.size + 1, 2, none⟩ ⟨w.heap.size + 2, 0, none⟩ (.int .u32 0) (.slice none 0 0) (.slice none 0 0) (.bool false)).same D _ hK rfl
    have B1 := Lib.hid ((((hB.setCell (p := ⟨w.heap.size + 1, 0, none⟩) (by simp) (.int .u32 0)).setCell (p := ⟨w.heap.size + 1, 1, none⟩) (by simp) (.slice none 0 0)).setCell (p := ⟨w.heap.size + 1, 2, none⟩) (by simp) (.slice none 0 0)).setCell (p := ⟨w.heap.size + 2, 0, none⟩) (by simp) (.bool false))
    have E1 := Lib.hid ((((d1.set 0 (.int .u32 0)).set 1 (.slice none 0 0)).set 2 (.slice none 0 0)).setO (b := w.heap.size + 2) (by simp) 0 (.bool false))
    have E2 := Lib.hid ((((d2.setO (b := w.heap.size + 1) (by simp) 0 (.int .u32 0)).setO (b := w.heap.size + 1) (by simp) 1 (.slice none 0 0)).setO (b := w.heap.size + 1) (by simp) 2 (.slice none 0 0)).set 0 (.bool false))
    have KD := Lib.hid K1
    clear d0 d1 d2 d3 d4 K1 hq
    gi_wp2
    refine ⟨by simp, .inl ⟨_, _, rfl, run_takeDeferred KD.out, ?_⟩⟩
    refine ⟨_, results_row_cell8 (p := 6) (q := 7) (ty := 73) (ty2 := 4) rfl _ _ (w.heap.size + 1) (w.heap.size + 2) 73 4 #[.int .u32 0, .slice none 0 0, .slice none 0 0] (0, 0) _ (.bool false) rfl (E1.out.putO _ KD.out rfl) Tryz.underlying73 rfl item_info8 rfl (Tryz.isAgg4) (E2.out.putO _ KD.out rfl), ?_, ?_⟩
    · rw [E.out]
      rfl
    · exact B1.out.trans (belowK_b (w := w) (Nat.le_refl _) _ D _ _ (by omega) KD.out rfl rfl)
  case stop =>
    rintro D c pre W hD hp ⟨rfl, r, ⟨q, x, rfl, hq, rfl, hid⟩, d1, d2, hB⟩ hK
    have E := Lib.hid (show lastL L id v = some x.1.2 from by
      obtain ⟨rest, hr⟩ := hp
      unfold lastL
      rw [← hr, List.append_assoc, List.find?_append, List.find?_eq_none.2 (fun y hy => by simpa using hq y hy)]
      simp [hid])
    have KD := Lib.hid hK
    have E1 := Lib.hid d1
    have E2 := Lib.hid d2
    have B1 := Lib.hid hB
    clear d1 d2 hK hB
    gi_wp2
    refine ⟨by simp, .inl ⟨_, _, rfl, run_takeDeferred KD.out, ?_⟩⟩
    refine ⟨_, results_row_cell8 (p := 6) (q := 7) (ty := 73) (ty2 := 4) rfl _ _ (w.heap.size + 1) (w.heap.size + 2) 73 4 #[.int .u32 (x.1.2.id : Int), .slice x.1.2.pv.1 x.1.2.pv.2.1 x.1.2.pv.2.2, .slice x.1.2.pt.1 x.1.2.pt.2.1 x.1.2.pt.2.2] (0, 0) _ (.bool (!x.1.2.gone)) rfl (E1.out.putO _ KD.out rfl) Tryz.underlying73 rfl item_info8 rfl (Tryz.isAgg4) (E2.out.putO _ KD.out rfl), ?_, ?_⟩
    · rw [E.out]
      rfl
    · exact B1.out.trans (belowK_b (w := w) (Nat.le_refl _) _ D _ _ (by omega) KD.out rfl rfl)
theorem there_any (w : World) (lo g : Nat) (It : List Nat) (u k : Value) (L : List RowL) (last floor : Nat) (kept : List Nat) (id v : Nat) (hv : v < 18446744073709551616) (PC : PastC w lo g It u k L last floor kept) :
    Calls Tryz.prog 88 #[.pointer (some ⟨g, 0, none⟩), .int .u32 (id : Int), .int .u64 (v : Int)] w fun e W' => e = .returned (thereV (lastL L id v)) ∧ Below w.heap.size w W' :=
  callsIn_wide.1 (there_in w lo g It u k L last floor kept id v hv PC)
end Go.Proofs.YtdmnflncgmnghaaGreat
