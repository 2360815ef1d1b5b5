/-
  Layer 16: cloneFilter, cloneChange, cloneEach. (Made by tools/mkddc.py.)
-/
import Derived.Test.YtdgiellnklcioaaDdb
namespace Go.Proofs.Ytdgiellnklcioaa
open Go.RowKit Go.ChangeShapes Go.WideShapes Go.ChangeAt

def ChgPost (x : shChange.T) (w : World) (e : Ending) (w' : World) : Prop := ∃ (g : Bool) (id : Nat) (p q : SlL), e = .returned (.agg #[.bool g, .int .u32 (id : Int), .slice p.a p.n p.c, .slice q.a q.n q.c]) ∧ Below w.heap.size w w' ∧ Rd (w.heap.size ≤ ·) w' shChange [.bool g, .int .u32 (id : Int), .slice p.a p.n p.c, .slice q.a q.n q.c] x
theorem rd_change_mk {ok : Nat → Prop} {w : World} {g : Bool} {c0 c1 c2 : Value} {y : shItem.T} (h : Rd ok w shItem [c0, c1, c2] y) : Rd ok w shChange [.bool g, c0, c1, c2] (g, y, ()) :=
  Rd.pair_mk (c1 := [.bool g]) (c2 := [c0, c1, c2]) rfl (Rd.bool_mk rfl) (Rd.pair_mk (c1 := [c0, c1, c2]) (c2 := []) rfl h (Rd.unit_mk rfl))
theorem four_blk {w : World} {g : Nat} {t : TypeId} {z0 z1 z2 z3 : Value} (c0 c1 c2 c3 : Value) (h : Blk w g t [z0, z1, z2, z3]) : Blk ((((w.setCell ⟨g, 0, none⟩ c0).setCell ⟨g, 1, none⟩ c1).setCell ⟨g, 2, none⟩ c2).setCell ⟨g, 3, none⟩ c3) g t [c0, c1, c2, c3] :=
  (((h.set 0 c0).set 1 c1).set 2 c2).set 3 c3
theorem four_kept {w : World} {g : Nat} (c0 c1 c2 c3 : Value) : Kept [g] w ((((w.setCell ⟨g, 0, none⟩ c0).setCell ⟨g, 1, none⟩ c1).setCell ⟨g, 2, none⟩ c2).setCell ⟨g, 3, none⟩ c3) :=
  ((((Kept.refl [g] w).setCell _ _ (.inl (by simp))).setCell _ _ (.inl (by simp))).setCell _ _ (.inl (by simp))).setCell _ _ (.inl (by simp))
set_option maxRecDepth 100000 in
set_option maxHeartbeats 3200000 in
theorem cloneC_cp (w : World) (c0 c1 c2 c3 : Value) (x : shChange.T) (h : Rd (fun _ => True) w shChange [c0, c1, c2, c3] x) : Calls Try.prog 29 #[.agg #[c0, c1, c2, c3]] w (ChgPost x w) := by
  obtain ⟨gone, y, e0, e1, e2, rfl, hcs, hy⟩ := rd_change h
  simp only [List.cons.injEq, and_true] at hcs
  obtain ⟨rfl, rfl, rfl, rfl⟩ := hcs
  obtain ⟨w1, hw1⟩ : ∃ w1, w.alloc (.cells #[.bool gone, c1, c2, c3] 80) = w1 := ⟨_, rfl⟩
  obtain ⟨w2, hw2⟩ : ∃ w2, w1.alloc (.cells #[.bool false, .int .u32 0, .slice none 0 0, .slice none 0 0] 80) = w2 := ⟨_, rfl⟩
  have hs1 : w1.heap.size = w.heap.size + 1 := by rw [← hw1]; simp
  have hs2 : w2.heap.size = w.heap.size + 2 := by rw [← hw2]; simp [hs1]
  have b1 : Below w.heap.size w w1 := by rw [← hw1]; exact (Below.refl _ _).alloc (Nat.le_refl _) _
  have b2 : Below w1.heap.size w1 w2 := by rw [← hw2]; exact (Below.refl _ _).alloc (Nat.le_refl _) _
  have D0 : Blk w2 w.heap.size 80 [.bool gone, c1, c2, c3] := (Kept.of_below (F := []) b2 (Nat.le_refl _)).blk (by rw [← hw1]; exact Blk.new _ _ _) (by simp)
  have D1 : Blk w2 w1.heap.size 80 [.bool false, .int .u32 0, .slice none 0 0, .slice none 0 0] := by rw [← hw2]; exact Blk.new _ _ _
  have B2 := Lib.hid (below_on b1 b2)
  have HS := Lib.hid (fun (W : World) (hb : Below w2.heap.size w2 W) => show W.cell? ⟨w.heap.size, 0, none⟩ = some (.bool gone) ∧ W.cell? ⟨w.heap.size, 1, none⟩ = some c1 ∧ W.cell? ⟨w.heap.size, 2, none⟩ = some c2 ∧ W.cell? ⟨w.heap.size, 3, none⟩ = some c3 ∧
      W.cell? ⟨w1.heap.size, 0, none⟩ = some (.bool false) ∧ W.cell? ⟨w1.heap.size, 1, none⟩ = some (.int .u32 0) ∧ W.cell? ⟨w1.heap.size, 2, none⟩ = some (.slice none 0 0) ∧ W.cell? ⟨w1.heap.size, 3, none⟩ = some (.slice none 0 0) ∧
      W.frozen? ⟨w1.heap.size, 0, none⟩ = false ∧ W.frozen? ⟨w1.heap.size, 1, none⟩ = false ∧ W.frozen? ⟨w1.heap.size, 2, none⟩ = false ∧ W.frozen? ⟨w1.heap.size, 3, none⟩ = false ∧ Below w2.heap.size w2 W from
    have e0 := (Kept.of_below (F := []) hb (Nat.le_refl _)).blk D0 (by simp)
    have e1 := (Kept.of_below (F := []) hb (Nat.le_refl _)).blk D1 (by simp)
    ⟨e0.cell 0, e0.cell 1, e0.cell 2, e0.cell 3, e1.cell 0, e1.cell 1, e1.cell 2, e1.cell 3, e1.frozen 0, e1.frozen 1, e1.frozen 2, e1.frozen 3, hb⟩)
  have CI := Lib.hid (fun (W : World) (hb : Below w2.heap.size w2 W) => cloneI_cp W c1 c2 c3 y ((hy.on B2.out).on hb))
  have FIN := Lib.hid (fun (wk : World) (hk : Below w2.heap.size w2 wk) (d1 d2 d3 : Value) (ho : Rd (w2.heap.size ≤ ·) wk shItem [d1, d2, d3] y) =>
    show Blk ((((wk.setCell ⟨w1.heap.size, 0, none⟩ (.bool gone)).setCell ⟨w1.heap.size, 1, none⟩ d1).setCell ⟨w1.heap.size, 2, none⟩ d2).setCell ⟨w1.heap.size, 3, none⟩ d3) w1.heap.size 80 [.bool gone, d1, d2, d3] ∧
      Below w.heap.size w ((((wk.setCell ⟨w1.heap.size, 0, none⟩ (.bool gone)).setCell ⟨w1.heap.size, 1, none⟩ d1).setCell ⟨w1.heap.size, 2, none⟩ d2).setCell ⟨w1.heap.size, 3, none⟩ d3) ∧
      Rd (w.heap.size ≤ ·) ((((wk.setCell ⟨w1.heap.size, 0, none⟩ (.bool gone)).setCell ⟨w1.heap.size, 1, none⟩ d1).setCell ⟨w1.heap.size, 2, none⟩ d2).setCell ⟨w1.heap.size, 3, none⟩ d3) shChange [.bool gone, d1, d2, d3] (gone, y, ()) from by
    have e1 := (Kept.of_below (F := []) hk (Nat.le_refl _)).blk D1 (by simp)
    have hbk : Below w.heap.size w wk := B2.out.trans (hk.mono (by omega))
    have k9 := four_kept (w := wk) (g := w1.heap.size) (.bool gone) d1 d2 d3
    exact ⟨four_blk (.bool gone) d1 d2 d3 e1, hbk.trans (k9.below (fun b hb => by simp at hb; omega) hbk.size), rd_change_mk ((ho.kept k9 (fun k hk ho => by simp at hk; omega)).mono fun k hk _ => by omega)⟩)
  clear h hy D0 D1 b1 b2 hs1
  obtain ⟨s1, s2, s3, s4, s5, s6, s7, s8, s9, s10, s11, s12, -⟩ := HS.out w2 (Below.refl _ _)
  go_enter Try.func29, Try.ntmps29
  go_upto_region 1 with fail
  try rw [hw1]
  try rw [hw2]
  clear hw1 hw2
  go_wp2_with (fail)
  go_region_law (first
      | (rw [if_pos (by rfl)]; go_simp; go_at_call 35; (with_reducible refine (CI.out _ (Below.refl _ _).drew).mono ?_); rintro e w' ⟨id, ⟨pa, pn, pc⟩, ⟨qa, qn, qc⟩, rfl, hbel, ho⟩; have O0 := Lib.hid (ho.mono (ok' := (w2.heap.size ≤ ·)) fun k hk _ => hk); have BX := Lib.hid (below_on (Below.refl w2.heap.size w2).drew hbel); obtain ⟨s1, s2, s3, s4, s5, s6, s7, s8, s9, s10, s11, s12, -⟩ := HS.out _ BX.out; clear ho hbel))
  all_goals
    have R := Lib.hid (FIN.out _ BX.out (.int .u32 (id : Int)) (.slice pa pn pc) (.slice qa qn qc) O0.out)
    go_wp2
    refine bodyPost_ret (results_cell_row rfl _ _ w1.heap.size 80 #[.bool gone, .int .u32 (id : Int), .slice pa pn pc, .slice qa qn qc] (0, 0) _ rfl R.out.1 Try.underlying80 rfl chg_size16) rfl ?_
    exact ⟨gone, id, ⟨pa, pn, pc⟩, ⟨qa, qn, qc⟩, rfl, R.out.2⟩

def FiPost (x y z : List ByteArray) (w : World) (e : Ending) (w' : World) : Prop := ∃ p q r : SlL, e = .returned (.agg #[.slice p.a p.n p.c, .slice q.a q.n q.c, .slice r.a r.n r.c]) ∧ Below w.heap.size w w' ∧ Rd (w.heap.size ≤ ·) w' shTags [.slice p.a p.n p.c] x ∧ Rd (w.heap.size ≤ ·) w' shTags [.slice q.a q.n q.c] y ∧ Rd (w.heap.size ≤ ·) w' shTags [.slice r.a r.n r.c] z
set_option maxRecDepth 100000 in
set_option maxHeartbeats 3200000 in
theorem cloneF_cp (w : World) (p q r : SlL) (x y z : List ByteArray) (hx : Rd (fun _ => True) w shTags [.slice p.a p.n p.c] x) (hy : Rd (fun _ => True) w shTags [.slice q.a q.n q.c] y) (hz : Rd (fun _ => True) w shTags [.slice r.a r.n r.c] z) :
    Calls Try.prog 31 #[.agg #[.slice p.a p.n p.c, .slice q.a q.n q.c, .slice r.a r.n r.c]] w (FiPost x y z w) := by
  obtain ⟨w1, hw1⟩ : ∃ w1, w.alloc (.cells #[.slice p.a p.n p.c, .slice q.a q.n q.c, .slice r.a r.n r.c] 40) = w1 := ⟨_, rfl⟩
  obtain ⟨w2, hw2⟩ : ∃ w2, w1.alloc (.cells #[.slice none 0 0, .slice none 0 0, .slice none 0 0] 40) = w2 := ⟨_, rfl⟩
  have hs1 : w1.heap.size = w.heap.size + 1 := by rw [← hw1]; simp
  have hs2 : w2.heap.size = w.heap.size + 2 := by rw [← hw2]; simp [hs1]
  have b1 : Below w.heap.size w w1 := by rw [← hw1]; exact (Below.refl _ _).alloc (Nat.le_refl _) _
  have b2 : Below w1.heap.size w1 w2 := by rw [← hw2]; exact (Below.refl _ _).alloc (Nat.le_refl _) _
  have D0 : Blk w2 w.heap.size 40 [.slice p.a p.n p.c, .slice q.a q.n q.c, .slice r.a r.n r.c] := (Kept.of_below (F := []) b2 (Nat.le_refl _)).blk (by rw [← hw1]; exact Blk.new _ _ _) (by simp)
  have D1 : Blk w2 w1.heap.size 40 [.slice none 0 0, .slice none 0 0, .slice none 0 0] := by rw [← hw2]; exact Blk.new _ _ _
  have B2 := Lib.hid (below_on b1 b2)
  have HS := Lib.hid (fun (W : World) (hb : Below w2.heap.size w2 W) => show W.cell? ⟨w.heap.size, 0, none⟩ = some (.slice p.a p.n p.c) ∧ W.cell? ⟨w.heap.size, 1, none⟩ = some (.slice q.a q.n q.c) ∧ W.cell? ⟨w.heap.size, 2, none⟩ = some (.slice r.a r.n r.c) ∧
      W.cell? ⟨w1.heap.size, 0, none⟩ = some (.slice none 0 0) ∧ W.cell? ⟨w1.heap.size, 1, none⟩ = some (.slice none 0 0) ∧ W.cell? ⟨w1.heap.size, 2, none⟩ = some (.slice none 0 0) ∧ W.frozen? ⟨w1.heap.size, 0, none⟩ = false ∧ W.frozen? ⟨w1.heap.size, 1, none⟩ = false ∧ W.frozen? ⟨w1.heap.size, 2, none⟩ = false ∧ Below w2.heap.size w2 W from
    have e0 := (Kept.of_below (F := []) hb (Nat.le_refl _)).blk D0 (by simp)
    have e1 := (Kept.of_below (F := []) hb (Nat.le_refl _)).blk D1 (by simp)
    ⟨e0.cell 0, e0.cell 1, e0.cell 2, e1.cell 0, e1.cell 1, e1.cell 2, e1.frozen 0, e1.frozen 1, e1.frozen 2, hb⟩)
  have C0 := Lib.hid (fun (W : World) (hb : Below w2.heap.size w2 W) => cloneS_cp W p x ((hx.on B2.out).on hb))
  have C1 := Lib.hid (fun (W : World) (hb : Below w2.heap.size w2 W) => cloneS_cp W q y ((hy.on B2.out).on hb))
  have C2 := Lib.hid (fun (W : World) (hb : Below w2.heap.size w2 W) => cloneS_cp W r z ((hz.on B2.out).on hb))
  have FIN := Lib.hid (fun (wk : World) (hk : Below w2.heap.size w2 wk) (v0 v1 v2 : SlL) (o0 : Rd (w2.heap.size ≤ ·) wk shTags [.slice v0.a v0.n v0.c] x) (o1 : Rd (w2.heap.size ≤ ·) wk shTags [.slice v1.a v1.n v1.c] y) (o2 : Rd (w2.heap.size ≤ ·) wk shTags [.slice v2.a v2.n v2.c] z) =>
    show Blk (((wk.setCell ⟨w1.heap.size, 0, none⟩ (.slice v0.a v0.n v0.c)).setCell ⟨w1.heap.size, 1, none⟩ (.slice v1.a v1.n v1.c)).setCell ⟨w1.heap.size, 2, none⟩ (.slice v2.a v2.n v2.c)) w1.heap.size 40 [.slice v0.a v0.n v0.c, .slice v1.a v1.n v1.c, .slice v2.a v2.n v2.c] ∧
      FiPost x y z w (.returned (.agg #[.slice v0.a v0.n v0.c, .slice v1.a v1.n v1.c, .slice v2.a v2.n v2.c])) (((wk.setCell ⟨w1.heap.size, 0, none⟩ (.slice v0.a v0.n v0.c)).setCell ⟨w1.heap.size, 1, none⟩ (.slice v1.a v1.n v1.c)).setCell ⟨w1.heap.size, 2, none⟩ (.slice v2.a v2.n v2.c)) from by
    have e1 := (Kept.of_below (F := []) hk (Nat.le_refl _)).blk D1 (by simp)
    have h3 := ((e1.set 0 (.slice v0.a v0.n v0.c)).set 1 (.slice v1.a v1.n v1.c)).set 2 (.slice v2.a v2.n v2.c)
    have k9 : Kept [w1.heap.size] wk (((wk.setCell ⟨w1.heap.size, 0, none⟩ (.slice v0.a v0.n v0.c)).setCell ⟨w1.heap.size, 1, none⟩ (.slice v1.a v1.n v1.c)).setCell ⟨w1.heap.size, 2, none⟩ (.slice v2.a v2.n v2.c)) := (((Kept.refl [w1.heap.size] wk).setCell _ _ (.inl (by simp))).setCell _ _ (.inl (by simp))).setCell _ _ (.inl (by simp))
    have hbk : Below w.heap.size w wk := B2.out.trans (hk.mono (by omega))
    have st : ∀ (v : SlL) (l : List ByteArray), Rd (w2.heap.size ≤ ·) wk shTags [.slice v.a v.n v.c] l → Rd (w.heap.size ≤ ·) (((wk.setCell ⟨w1.heap.size, 0, none⟩ (.slice v0.a v0.n v0.c)).setCell ⟨w1.heap.size, 1, none⟩ (.slice v1.a v1.n v1.c)).setCell ⟨w1.heap.size, 2, none⟩ (.slice v2.a v2.n v2.c)) shTags [.slice v.a v.n v.c] l :=
      fun v l ho => (ho.kept k9 (fun k hk ho => by simp at hk; omega)).mono fun k hk _ => by omega
    exact ⟨h3, v0, v1, v2, rfl, hbk.trans (k9.below (fun b hb => by simp at hb; omega) hbk.size), st v0 x o0, st v1 y o1, st v2 z o2⟩)
  clear hx hy hz D0 D1 b1 b2 hs1
  obtain ⟨s1, s2, s3, s4, s5, s6, s7, s8, s9, -⟩ := HS.out w2 (Below.refl _ _)
  go_enter Try.func31, Try.ntmps31
  go_upto_region 1 with fail
  try rw [hw1]
  try rw [hw2]
  clear hw1 hw2
  have BX := Lib.hid ((Below.refl w2.heap.size w2).drew)
  go_wp2_with (fail)
  refine wp_mono (Q := fun e a wz => match e with | .normal => (∃ (b0 : Option Addr) (m0 k0 : Nat) (b1 : Option Addr) (m1 k1 : Nat) (b2 : Option Addr) (m2 k2 : Nat) (wk : World), a = ⟨#[.agg #[.slice p.a p.n p.c, .slice q.a q.n q.c, .slice r.a r.n r.c], .pointer (some ⟨w.heap.size, 0, none⟩), .pointer (some ⟨w1.heap.size, 0, none⟩), .pointer (some ⟨w.heap.size, 0, none⟩), .slice p.a p.n p.c, .slice b0 m0 k0, .pointer (some ⟨w.heap.size, 1, none⟩), .slice q.a q.n q.c, .slice b1 m1 k1, .pointer (some ⟨w.heap.size, 2, none⟩), .slice r.a r.n r.c, .slice b2 m2 k2, .agg #[.slice b0 m0 k0, .slice b1 m1 k1, .slice b2 m2 k2]], []⟩ ∧ wz = (((wk.setCell ⟨w1.heap.size, 0, none⟩ (.slice b0 m0 k0)).setCell ⟨w1.heap.size, 1, none⟩ (.slice b1 m1 k1)).setCell ⟨w1.heap.size, 2, none⟩ (.slice b2 m2 k2)) ∧ Below w2.heap.size w2 wk ∧ Rd (w2.heap.size ≤ ·) wk shTags [.slice b0 m0 k0] x ∧ Rd (w2.heap.size ≤ ·) wk shTags [.slice b1 m1 k1] y ∧ Rd (w2.heap.size ≤ ·) wk shTags [.slice b2 m2 k2] z) | _ => False) ?reg ?rest
  case reg =>
    go_region_law (first
      | (rw [if_pos (by rfl)]; go_simp; go_at_call 33; (with_reducible refine (C0.out _ BX.out).mono ?_); rintro e w' ⟨⟨b0, m0, k0⟩, rfl, hbel, ho⟩; have O0 := Lib.hid (ho.mono (ok' := (w2.heap.size ≤ ·)) fun k hk _ => Nat.le_trans BX.out.size hk); (try have O1 := Lib.hid (O1.out.on hbel)); (try have O2 := Lib.hid (O2.out.on hbel)); have BX := Lib.hid (below_on BX.out hbel); obtain ⟨s1, s2, s3, s4, s5, s6, s7, s8, s9, -⟩ := HS.out _ BX.out; clear ho hbel)
      | (rw [if_pos (by rfl)]; go_simp; go_at_call 33; (with_reducible refine (C1.out _ BX.out).mono ?_); rintro e w' ⟨⟨b1, m1, k1⟩, rfl, hbel, ho⟩; have O1 := Lib.hid (ho.mono (ok' := (w2.heap.size ≤ ·)) fun k hk _ => Nat.le_trans BX.out.size hk); (try have O0 := Lib.hid (O0.out.on hbel)); (try have O2 := Lib.hid (O2.out.on hbel)); have BX := Lib.hid (below_on BX.out hbel); obtain ⟨s1, s2, s3, s4, s5, s6, s7, s8, s9, -⟩ := HS.out _ BX.out; clear ho hbel)
      | (rw [if_pos (by rfl)]; go_simp; go_at_call 33; (with_reducible refine (C2.out _ BX.out).mono ?_); rintro e w' ⟨⟨b2, m2, k2⟩, rfl, hbel, ho⟩; have O2 := Lib.hid (ho.mono (ok' := (w2.heap.size ≤ ·)) fun k hk _ => Nat.le_trans BX.out.size hk); (try have O0 := Lib.hid (O0.out.on hbel)); (try have O1 := Lib.hid (O1.out.on hbel)); have BX := Lib.hid (below_on BX.out hbel); obtain ⟨s1, s2, s3, s4, s5, s6, s7, s8, s9, -⟩ := HS.out _ BX.out; clear ho hbel))
    all_goals exact ⟨b0, m0, k0, b1, m1, k1, b2, m2, k2, _, rfl, rfl, BX.out, O0.out, O1.out, O2.out⟩
  case rest =>
    intro e a wz hQ
    cases e <;> try exact hQ.elim
    obtain ⟨b0, m0, k0, b1, m1, k1, b2, m2, k2, wk, rfl, rfl, hb, o0, o1, o2⟩ := hQ
    have R := Lib.hid (FIN.out wk hb ⟨b0, m0, k0⟩ ⟨b1, m1, k1⟩ ⟨b2, m2, k2⟩ o0 o1 o2)
    clear FIN C0 C1 C2 HS s1 s2 s3 s4 s5 s6 s7 s8 s9 hb o0 o1 o2 BX
    go_wp2
    refine bodyPost_ret (results_cell_row rfl _ _ w1.heap.size 40 #[.slice b0 m0 k0, .slice b1 m1 k1, .slice b2 m2 k2] (0, 0) _ rfl R.out.1 Try.underlying40 rfl filt_info16) rfl ?_
    exact R.out.2
end Go.Proofs.Ytdgiellnklcioaa
