/-
  Layer 14, the program's cursors: cloneFilter, ask. (Made by tools/mkqrg.py.)
-/
import Derived.Test.YtadkfedglkhgjaaQrf
namespace Go.Proofs.Ytadkfedglkhgjaa
open Go.RowKit Go.ChangeShapes Go.WideShapes Go.ChangeAt Go.Maps

theorem row_to {w w' : World} {lo lo' k n : Nat} {t : TypeId} {v : Value} {xs : List Value} (h : w.ownsRow lo t k v n xs) (hl : lo' ≤ lo) (hb : Below w.heap.size w w') : w'.ownsRow lo' t k v n xs := own_on h hl hb
theorem filt_info : (Try.prog.info? 34).map (·.size) = some 3 := by kernel_rfl
/-- What cloneFilter leaves: a filter of rows of its own. -/
def FiltPost (x : QryL) (w : World) (e : Ending) (w' : World) : Prop := ∃ q0 q1 q2 : Option Addr × Nat × Nat, e = .returned (.agg #[.slice q0.1 q0.2.1 q0.2.2, .slice q1.1 q1.2.1 q1.2.2, .slice q2.1 q2.2.1 q2.2.2]) ∧ Below w.heap.size w w' ∧ StrsOwn w.heap.size w' q0 x.q.all ∧ StrsOwn w.heap.size w' q1 x.q.any ∧ StrsOwn w.heap.size w' q2 x.q.none
set_option maxRecDepth 100000 in
set_option maxHeartbeats 3200000 in
theorem cfilter_any (w : World) (x : QryL) (h : x.In (fun _ => True) w) :
    Calls Try.prog 28 #[.agg #[.slice x.p0.1 x.p0.2.1 x.p0.2.2, .slice x.p1.1 x.p1.2.1 x.p1.2.2, .slice x.p2.1 x.p2.2.1 x.p2.2.2]] w (FiltPost x w) := by
  have t0 := rd_tags_wf h.all
  have t1 := rd_tags_wf h.any
  have t2 := rd_tags_wf h.none
  obtain ⟨⟨va, vn, vc⟩, ⟨a0, n0, c0⟩, ⟨a1, n1, c1⟩, ⟨a2, n2, c2⟩, ⟨vec, all, any, none⟩⟩ := x
  simp only at t0 t1 t2
  obtain ⟨w1, hw1⟩ : ∃ w1, w.alloc (.cells #[.slice a0 n0 c0, .slice a1 n1 c1, .slice a2 n2 c2] 34) = w1 := ⟨_, rfl⟩
  obtain ⟨w2, hw2⟩ : ∃ w2, w1.alloc (.cells #[.slice Option.none 0 0, .slice Option.none 0 0, .slice Option.none 0 0] 34) = w2 := ⟨_, rfl⟩
  have hs1 : w1.heap.size = w.heap.size + 1 := by rw [← hw1]; simp
  have hs2 : w2.heap.size = w.heap.size + 2 := by rw [← hw2]; simp [hs1]
  have b1 : Below w.heap.size w w1 := by rw [← hw1]; exact (Below.refl _ _).alloc (Nat.le_refl _) _
  have b2 : Below w1.heap.size w1 w2 := by rw [← hw2]; exact (Below.refl _ _).alloc (Nat.le_refl _) _
  have D0 : Blk w2 w.heap.size 34 [.slice a0 n0 c0, .slice a1 n1 c1, .slice a2 n2 c2] := (Kept.of_below (F := []) b2 (Nat.le_refl _)).blk (by rw [← hw1]; exact Blk.new _ _ _) (by simp)
  have D1 : Blk w2 w1.heap.size 34 [.slice Option.none 0 0, .slice Option.none 0 0, .slice Option.none 0 0] := by rw [← hw2]; exact Blk.new _ _ _
  have B2 := Lib.hid (below_on b1 b2)
  have HS := Lib.hid (fun (W : World) (hb : Below w2.heap.size w2 W) => show W.cell? ⟨w.heap.size, 0, Option.none⟩ = some (.slice a0 n0 c0) ∧ W.cell? ⟨w.heap.size, 1, Option.none⟩ = some (.slice a1 n1 c1) ∧ W.cell? ⟨w.heap.size, 2, Option.none⟩ = some (.slice a2 n2 c2) ∧
      W.cell? ⟨w1.heap.size, 0, Option.none⟩ = some (.slice Option.none 0 0) ∧ W.cell? ⟨w1.heap.size, 1, Option.none⟩ = some (.slice Option.none 0 0) ∧ W.cell? ⟨w1.heap.size, 2, Option.none⟩ = some (.slice Option.none 0 0) ∧ W.frozen? ⟨w1.heap.size, 0, Option.none⟩ = false ∧ W.frozen? ⟨w1.heap.size, 1, Option.none⟩ = false ∧ W.frozen? ⟨w1.heap.size, 2, Option.none⟩ = false ∧ Below w2.heap.size w2 W from
    have e0 := (Kept.of_below (F := []) hb (Nat.le_refl _)).blk D0 (by simp)
    have e1 := (Kept.of_below (F := []) hb (Nat.le_refl _)).blk D1 (by simp)
    ⟨e0.cell 0, e0.cell 1, e0.cell 2, e1.cell 0, e1.cell 1, e1.cell 2, e1.frozen 0, e1.frozen 1, e1.frozen 2, hb⟩)
  have C0 := Lib.hid (fun (W : World) (hb : Below w2.heap.size w2 W) => cloneS_any W a0 n0 c0 all ((h.all.on B2.out).on hb))
  have C1 := Lib.hid (fun (W : World) (hb : Below w2.heap.size w2 W) => cloneS_any W a1 n1 c1 any ((h.any.on B2.out).on hb))
  have C2 := Lib.hid (fun (W : World) (hb : Below w2.heap.size w2 W) => cloneS_any W a2 n2 c2 none ((h.none.on B2.out).on hb))
  have FIN := Lib.hid (fun (wk : World) (hk : Below w2.heap.size w2 wk) (v0 v1 v2 : Option Addr × Nat × Nat) (o0 : wk.ownsRow w2.heap.size 9 1 (.slice v0.1 v0.2.1 v0.2.2) all.length (all.map Value.string)) (o1 : wk.ownsRow w2.heap.size 9 1 (.slice v1.1 v1.2.1 v1.2.2) any.length (any.map Value.string)) (o2 : wk.ownsRow w2.heap.size 9 1 (.slice v2.1 v2.2.1 v2.2.2) none.length (none.map Value.string)) =>
    show Blk (((wk.setCell ⟨w1.heap.size, 0, Option.none⟩ (.slice v0.1 v0.2.1 v0.2.2)).setCell ⟨w1.heap.size, 1, Option.none⟩ (.slice v1.1 v1.2.1 v1.2.2)).setCell ⟨w1.heap.size, 2, Option.none⟩ (.slice v2.1 v2.2.1 v2.2.2)) w1.heap.size 34 [.slice v0.1 v0.2.1 v0.2.2, .slice v1.1 v1.2.1 v1.2.2, .slice v2.1 v2.2.1 v2.2.2] ∧
      Below w.heap.size w (((wk.setCell ⟨w1.heap.size, 0, Option.none⟩ (.slice v0.1 v0.2.1 v0.2.2)).setCell ⟨w1.heap.size, 1, Option.none⟩ (.slice v1.1 v1.2.1 v1.2.2)).setCell ⟨w1.heap.size, 2, Option.none⟩ (.slice v2.1 v2.2.1 v2.2.2)) ∧
      StrsOwn w.heap.size (((wk.setCell ⟨w1.heap.size, 0, Option.none⟩ (.slice v0.1 v0.2.1 v0.2.2)).setCell ⟨w1.heap.size, 1, Option.none⟩ (.slice v1.1 v1.2.1 v1.2.2)).setCell ⟨w1.heap.size, 2, Option.none⟩ (.slice v2.1 v2.2.1 v2.2.2)) v0 all ∧
      StrsOwn w.heap.size (((wk.setCell ⟨w1.heap.size, 0, Option.none⟩ (.slice v0.1 v0.2.1 v0.2.2)).setCell ⟨w1.heap.size, 1, Option.none⟩ (.slice v1.1 v1.2.1 v1.2.2)).setCell ⟨w1.heap.size, 2, Option.none⟩ (.slice v2.1 v2.2.1 v2.2.2)) v1 any ∧
      StrsOwn w.heap.size (((wk.setCell ⟨w1.heap.size, 0, Option.none⟩ (.slice v0.1 v0.2.1 v0.2.2)).setCell ⟨w1.heap.size, 1, Option.none⟩ (.slice v1.1 v1.2.1 v1.2.2)).setCell ⟨w1.heap.size, 2, Option.none⟩ (.slice v2.1 v2.2.1 v2.2.2)) v2 none from by
    have e1 := (Kept.of_below (F := []) hk (Nat.le_refl _)).blk D1 (by simp)
    have h3 := ((e1.set 0 (.slice v0.1 v0.2.1 v0.2.2)).set 1 (.slice v1.1 v1.2.1 v1.2.2)).set 2 (.slice v2.1 v2.2.1 v2.2.2)
    have k9 : Kept [w1.heap.size] wk (((wk.setCell ⟨w1.heap.size, 0, Option.none⟩ (.slice v0.1 v0.2.1 v0.2.2)).setCell ⟨w1.heap.size, 1, Option.none⟩ (.slice v1.1 v1.2.1 v1.2.2)).setCell ⟨w1.heap.size, 2, Option.none⟩ (.slice v2.1 v2.2.1 v2.2.2)) := (((Kept.refl [w1.heap.size] wk).setCell _ _ (.inl (by simp))).setCell _ _ (.inl (by simp))).setCell _ _ (.inl (by simp))
    have hbk : Below w.heap.size w wk := B2.out.trans (hk.mono (by omega))
    have hwk : w.heap.size ≤ wk.heap.size := hbk.size
    have st : ∀ (q : Option Addr × Nat × Nat) (l : List ByteArray), wk.ownsRow w2.heap.size 9 1 (.slice q.1 q.2.1 q.2.2) l.length (l.map Value.string) → ((∀ s ∈ l, s.size ≤ 140737488351232) ∧ l.length * 16 ≤ 140737488351232) → StrsOwn w.heap.size (((wk.setCell ⟨w1.heap.size, 0, Option.none⟩ (.slice v0.1 v0.2.1 v0.2.2)).setCell ⟨w1.heap.size, 1, Option.none⟩ (.slice v1.1 v1.2.1 v1.2.2)).setCell ⟨w1.heap.size, 2, Option.none⟩ (.slice v2.1 v2.2.1 v2.2.2)) q l :=
      fun q l ho hl => ⟨row_to (k9.own ho (fun g hg hh => by have := (World.ownsRow.lt ho g hg).1; simp at hh; omega)) (by omega) (Below.refl _ _), hl.1, hl.2⟩
    exact ⟨h3, hbk.trans (k9.below (fun b hb => by simp at hb; omega) hwk), st v0 all o0 t0, st v1 any o1 t1, st v2 none o2 t2⟩)
  clear h t0 t1 t2 D0 D1 b1 b2 hs1
  obtain ⟨s1, s2, s3, s4, s5, s6, s7, s8, s9, -⟩ := HS.out w2 (Below.refl _ _)
  show Calls _ _ #[.agg #[.slice a0 n0 c0, .slice a1 n1 c1, .slice a2 n2 c2]] _ _
  go_enter Try.func28, Try.ntmps28
  go_upto_region 1 with fail
  try rw [hw1]
  try rw [hw2]
  clear hw1 hw2
  have BX := Lib.hid ((Below.refl w2.heap.size w2).drew)
  go_wp2_with (fail)
  refine wp_mono (Q := fun e a wz => match e with | .normal => (∃ (b0 : Option Addr) (m0 k0 : Nat) (b1 : Option Addr) (m1 k1 : Nat) (b2 : Option Addr) (m2 k2 : Nat) (wk : World), a = ⟨#[.agg #[.slice a0 n0 c0, .slice a1 n1 c1, .slice a2 n2 c2], .pointer (some ⟨w.heap.size, 0, Option.none⟩), .pointer (some ⟨w1.heap.size, 0, Option.none⟩), .pointer (some ⟨w.heap.size, 0, Option.none⟩), .slice a0 n0 c0, .slice b0 m0 k0, .pointer (some ⟨w.heap.size, 1, Option.none⟩), .slice a1 n1 c1, .slice b1 m1 k1, .pointer (some ⟨w.heap.size, 2, Option.none⟩), .slice a2 n2 c2, .slice b2 m2 k2, .agg #[.slice b0 m0 k0, .slice b1 m1 k1, .slice b2 m2 k2]], []⟩ ∧ wz = (((wk.setCell ⟨w1.heap.size, 0, Option.none⟩ (.slice b0 m0 k0)).setCell ⟨w1.heap.size, 1, Option.none⟩ (.slice b1 m1 k1)).setCell ⟨w1.heap.size, 2, Option.none⟩ (.slice b2 m2 k2)) ∧ Below w2.heap.size w2 wk ∧ wk.ownsRow w2.heap.size 9 1 (.slice b0 m0 k0) all.length (all.map Value.string) ∧ wk.ownsRow w2.heap.size 9 1 (.slice b1 m1 k1) any.length (any.map Value.string) ∧ wk.ownsRow w2.heap.size 9 1 (.slice b2 m2 k2) none.length (none.map Value.string)) | _ => False) ?reg ?rest
  case reg =>
    go_region_law (first
      | (rw [if_pos (by rfl)]; go_simp; go_at_call 42; (with_reducible refine (C0.out _ BX.out).mono ?_); rintro e w' ⟨v, rfl, hbel, ho⟩; obtain ⟨b0, m0, k0, rfl, -⟩ := ownsRow_slice ho; have O0 := Lib.hid (row_to ho BX.out.size (Below.refl _ _)); (try have O1 := Lib.hid (row_to O1.out (Nat.le_refl _) hbel)); (try have O2 := Lib.hid (row_to O2.out (Nat.le_refl _) hbel)); have BX := Lib.hid (below_on BX.out hbel); obtain ⟨s1, s2, s3, s4, s5, s6, s7, s8, s9, -⟩ := HS.out _ BX.out; clear ho)
      | (rw [if_pos (by rfl)]; go_simp; go_at_call 42; (with_reducible refine (C1.out _ BX.out).mono ?_); rintro e w' ⟨v, rfl, hbel, ho⟩; obtain ⟨b1, m1, k1, rfl, -⟩ := ownsRow_slice ho; have O1 := Lib.hid (row_to ho BX.out.size (Below.refl _ _)); (try have O0 := Lib.hid (row_to O0.out (Nat.le_refl _) hbel)); (try have O2 := Lib.hid (row_to O2.out (Nat.le_refl _) hbel)); have BX := Lib.hid (below_on BX.out hbel); obtain ⟨s1, s2, s3, s4, s5, s6, s7, s8, s9, -⟩ := HS.out _ BX.out; clear ho)
      | (rw [if_pos (by rfl)]; go_simp; go_at_call 42; (with_reducible refine (C2.out _ BX.out).mono ?_); rintro e w' ⟨v, rfl, hbel, ho⟩; obtain ⟨b2, m2, k2, rfl, -⟩ := ownsRow_slice ho; have O2 := Lib.hid (row_to ho BX.out.size (Below.refl _ _)); (try have O0 := Lib.hid (row_to O0.out (Nat.le_refl _) hbel)); (try have O1 := Lib.hid (row_to O1.out (Nat.le_refl _) hbel)); have BX := Lib.hid (below_on BX.out hbel); obtain ⟨s1, s2, s3, s4, s5, s6, s7, s8, s9, -⟩ := HS.out _ BX.out; clear ho))
    all_goals exact ⟨b0, m0, k0, b1, m1, k1, b2, m2, k2, _, rfl, rfl, BX.out, O0.out, O1.out, O2.out⟩
  case rest =>
    intro e a wz hQ
    cases e <;> try exact hQ.elim
    obtain ⟨b0, m0, k0, b1, m1, k1, b2, m2, k2, wk, rfl, rfl, hb, o0, o1, o2⟩ := hQ
    have R := Lib.hid (FIN.out wk hb (b0, m0, k0) (b1, m1, k1) (b2, m2, k2) o0 o1 o2)
    clear FIN C0 C1 C2 HS s1 s2 s3 s4 s5 s6 s7 s8 s9 hb o0 o1 o2 BX
    go_wp2
    refine bodyPost_ret (results_cell_row rfl _ _ w1.heap.size 34 #[.slice b0 m0 k0, .slice b1 m1 k1, .slice b2 m2 k2] (0, 0) _ rfl R.out.1 Try.underlying34 rfl filt_info) rfl ?_
    exact (show FiltPost _ w _ _ from ⟨(b0, m0, k0), (b1, m1, k1), (b2, m2, k2), rfl, R.out.2⟩)
