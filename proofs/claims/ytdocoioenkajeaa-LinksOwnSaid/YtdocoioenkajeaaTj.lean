/-
  The heap's push, replaceTop and pop, each by a walk over its text.
-/
import Derived.Test.YtdocoioenkajeaaTi
import Derived.Deep.AppendLies
import Derived.Deep.RegionLaw
import Derived.OwnWalk
namespace Go.Proofs.Ytdocoioenkajeaa
open Go.RowKit

theorem hit_info : (Try.prog.info? 58).map (fun i => (i.zero, i.size, i.bytes)) = some (some (.agg #[.int .i64 0, .int .u32 0]), 2, 16) := by kernel_rfl

set_option maxHeartbeats 3200000 in
theorem push_any (b o c : Nat) (t : TypeId) (pre : List Value) (v : Value) (xs : List Hit) (x : Hit) (w : World) (h : HeapAt w b o c t pre v xs) (hs : xs.length < 1000000) :
    Calls Try.prog 75 #[.pointer (some ⟨b, o, none⟩), .agg #[.int .i64 x.1, .int .u32 x.2]] w fun e w' => e = .returned (.tuple #[]) ∧
      ∃ g cap, HeapAt w' b o c t pre (.slice (some ⟨g, 0, none⟩) (xs.length + 1) cap) (riseL (xs ++ [x]) xs.length) ∧ Kept (b :: v.ownBlock.toList) w w' ∧ (v.ownBlock = some g ∨ w.heap.size ≤ g) := by
  obtain ⟨i0, hi0, hz0, hz1, hz2⟩ := info_parts hit_info
  have hown := h.own
  have c0 := h.cell0
  have f0 := h.self.frozen o
  have l0 := h.self.lt
  have H := Lib.hid h
  have HO := Lib.hid hown
  clear h hown
  go_enter Try.func75, Try.ntmps75
  go_wp2
  go_region_law
    (refine step_append_lies _ (by rfl) (.tmp 8) (.tmp 10) 48 (by rfl) 0 58 i0 _ 2 16 Try.underlying48 hi0 hz0 hz1 hz2 rfl (by omega) v xs.length (flat xs) (by rfl) ((HO.out.alloc _).alloc _)
        ⟨w.heap.size + 1, 0, none⟩ 1 1 [.int .i64 x.1, .int .u32 x.2] (by rfl) (by rfl) (World.news_of_block (cs := #[.int .i64 x.1, .int .u32 x.2]) (t := 58) (fr := (0, 0)) (news_two w _ _)) (by simp [Value.oneCell'])
        (by omega) (by unfold maxLen; omega) (by omega) (by simp) (w.heap.size + 2) (by simp) ?_; intro gg cap w1 hown1 hgrow hat hlt
     have self1 := (((H.out.self.alloc _).alloc _).drew).grown hgrow H.out.row.1
     have fn1 := (((H.out.fn.alloc _).alloc _).drew).grown hgrow H.out.row.2
     have K1 : Kept (b :: v.ownBlock.toList) w w1 := ((((Kept.refl _ _).alloc _).alloc _).drew).grown hgrow (fun k hk => by simp [hk])
     have k1 := self1.cell o
     rw [← H.out.self.cell o, H.out.cell0] at k1
     have e1 := self1.frozen o
     have l1 := self1.lt
     have HO1 := Lib.hid hown1
     have HK1 := Lib.hid K1
     have HA := Lib.hid hat
     have SF := Lib.hid self1
     have FN := Lib.hid fn1
     clear hgrow K1 hat self1 fn1 hown1)
  all_goals
    have hown2 : Own w1 58 (.slice (some ⟨gg, 0, none⟩) (xs.length + 1) cap) (xs ++ [x]) := by
      have := HO1.out
      unfold Own
      rw [flat_app]
      simpa [flat] using this
    have H2 := Lib.hid (HeapAt.lay H.out.off H.out.typ SF.out FN.out hown2)
    have HK2 := Lib.hid (HK1.out.setCell ⟨b, o, none⟩ (.slice (some ⟨gg, 0, none⟩) (xs.length + 1) cap) (by simp))
    have lw := hlt
    clear hown2 HO1 k1 e1 SF FN c0 f0 HO HK1 hlt l1 H lw
    generalize w1.setCell ⟨b, o, none⟩ (.slice (some ⟨gg, 0, none⟩) (xs.length + 1) cap) = w2 at *
    have c2 := H2.out.cell0
    have l2 := H2.out.self.lt
    go_wp2_with (fail)
    refine (rise_any b o c gg (xs.length + 1) cap xs.length t pre (xs ++ [x]) w2 H2.out (by simp)).mono ?_
    rintro e w3 ⟨rfl, h3, k3⟩
    have H3 := Lib.hid h3
    clear h3
    go_wp2
    go_end0
    have hat := HA.out
    refine ⟨rfl, gg, cap, H3.out, HK2.out.trans k3 ?_, ?_⟩
    · intro y hy
      simp at hy
      subst hy
      rcases hat with e | e
      · left; simp [e]
      · right; omega
    · rcases hat with e | e
      · left; exact e
      · right; omega

set_option maxHeartbeats 1600000 in
theorem replace_any (b o c g n cap : Nat) (t : TypeId) (pre : List Value) (xs : List Hit) (x : Hit) (w : World) (h : HeapAt w b o c t pre (.slice (some ⟨g, 0, none⟩) n cap) xs) (h0 : 0 < xs.length) (hs : xs.length ≤ 1000000) :
    Calls Try.prog 76 #[.pointer (some ⟨b, o, none⟩), .agg #[.int .i64 x.1, .int .u32 x.2]] w fun e w' => e = .returned (.tuple #[]) ∧
      HeapAt w' b o c t pre (.slice (some ⟨g, 0, none⟩) n cap) (sinkL (xs.set 0 x) 0) ∧ Kept [g] w w' := by
  obtain ⟨rest, rfl, hg, hn, hcap, _⟩ := h.own.blk
  have h1 := ((h.kept ((Kept.refl [] _).alloc (.cells #[.int .i64 x.1, .int .u32 x.2] 58)) (by simp) (by simp) (by simp)).set 0 h0 x)
  have c0 := h.cell0
  have l0 := h.self.lt
  have l1 := hg.lt
  have c2 := (h.hit 0 h0).1
  have c3 := (h.hit 0 h0).2
  simp only [Nat.zero_mul, Nat.zero_add] at c2 c3 h1
  rw [World.setCell_alloc_past _ _ _ _ l1, World.setCell_alloc_past _ _ _ _ (by simpa [World.setCell] using l1)] at h1
  have h1 := Lib.hid h1
  have f2 := hg.frozen 0
  have f3 := hg.frozen 1
  generalize xs.getD 0 (0, 0) = y at *
  clear h hg hn hcap
  go_enter Try.func76, Try.ntmps76
  go_wp2
  go_region
  have k1 : Kept [g] w (((w.setCell ⟨g, 0, none⟩ (.int .i64 x.1)).setCell ⟨g, 1, none⟩ (.int .u32 x.2)).alloc (.cells #[.int .i64 x.1, .int .u32 x.2] 58)).drew := ((((Kept.refl _ _).setCell _ _ (by simp)).setCell _ _ (by simp)).alloc _).drew
  have H1 := Lib.hid h1.out.drew
  clear h1 c0 l0 l1 c2 c3 f2 f3
  generalize (((w.setCell ⟨g, 0, none⟩ (.int .i64 x.1)).setCell ⟨g, 1, none⟩ (.int .u32 x.2)).alloc (.cells #[.int .i64 x.1, .int .u32 x.2] 58)).drew = w1 at *
  go_wp2_with (fail)
  refine (sink_any b o c g xs.length cap 0 t pre (xs.set 0 x) w1 H1.out (by simpa using hs) (by omega)).mono ?_
  rintro e w3 ⟨rfl, h3, k3⟩
  go_wp2
  go_end0
  exact ⟨rfl, h3, k1.trans k3 (Grows.refl _ _)⟩

/-- What is left in a heap when its top is taken out, the last one laid in its place. -/
def popL (xs : List Hit) : List Hit := sinkL ((xs.set 0 (xs.getD (xs.length - 1) (0, 0))).take (xs.length - 1)) 0

set_option maxHeartbeats 3200000 in
theorem pop_any (b o c g n cap : Nat) (t : TypeId) (pre : List Value) (x : Hit) (ys : List Hit) (w : World) (h : HeapAt w b o c t pre (.slice (some ⟨g, 0, none⟩) n cap) (x :: ys)) (hs : ys.length < 1000000) :
    Calls Try.prog 65 #[.pointer (some ⟨b, o, none⟩)] w fun e w' => e = .returned (.agg #[.int .i64 x.1, .int .u32 x.2]) ∧
      HeapAt w' b o c t pre (.slice (some ⟨g, 0, none⟩) ys.length cap) (popL (x :: ys)) ∧ Kept [b, g] w w' := by
  obtain ⟨rest, rfl, hg, hn, hcap, _⟩ := h.own.blk
  have h0 := Lib.hid (h.kept ((Kept.refl [] _).alloc (.cells #[.int .i64 0, .int .u32 0] 58)) (by simp) (by simp) (by simp))
  have hR0 := Lib.hid (Blk.new w 58 #[.int .i64 0, .int .u32 0])
  have lc : ys.length + 1 ≤ cap := by simpa using hn
  have lg := hg.lt
  have lb := h.self.lt
  have lcc := h.fn.lt
  have hbg := (h.ne hg).1
  clear h hg hn hcap
  go_enter Try.func65, Try.ntmps65
  go_wp2_with (fail)
  refine (top_any b o c t pre _ x ys _ h0.out).mono ?_
  rintro e w1 ⟨rfl, hb1⟩
  have H1 := Lib.hid (h0.out.grow hb1)
  have R1 := Lib.hid ((Kept.of_below (F := []) hb1 (Nat.le_refl _)).blk hR0.out (by simp))
  have K1 := Lib.hid (((Kept.refl [b, g] w).alloc (.cells #[.int .i64 0, .int .u32 0] 58)).trans (Kept.of_below (F := []) hb1 (Nat.le_refl _)) (by intro x hx; simp at hx))
  have c0 := H1.out.cell0
  have l0 := H1.out.self.lt
  have H2 := Lib.hid (H1.out.kept ((Kept.refl [] _).alloc (.cells #[.int .i64 x.1, .int .u32 x.2] 58)) (by simp) (by simp) (by simp))
  have R2 := Lib.hid (R1.out.alloc (.cells #[.int .i64 x.1, .int .u32 x.2] 58))
  have K2 := Lib.hid (K1.out.alloc (.cells #[.int .i64 x.1, .int .u32 x.2] 58))
  have T2 := Lib.hid (Blk.new w1 58 #[.int .i64 x.1, .int .u32 x.2])
  have hTR : w.heap.size < w1.heap.size := by have := R1.out.lt; exact this
  clear h0 hR0 hb1 R1 K1 H1
  go_wp2
  clear c0 l0
  generalize w1.alloc (.cells #[.int .i64 x.1, .int .u32 x.2] 58) = w2 at *
  generalize w1.heap.size = T at *
  obtain ⟨y, hy⟩ : ∃ y, (x :: ys).getD ys.length (0, 0) = y := ⟨_, rfl⟩
  generalize hR : w.heap.size = R at *
  have HR := Lib.hid hR
  have c0 := H2.out.cell0
  have l0 := H2.out.self.lt
  obtain ⟨_, _, hg2, _⟩ := H2.out.own.blk
  have l1 := hg2.lt
  have c2 := (H2.out.hit 0 (by simp)).1
  have c3 := (H2.out.hit 0 (by simp)).2
  have c4 := (H2.out.hit ys.length (by simp)).1
  have c5 := (H2.out.hit ys.length (by simp)).2
  simp only [Nat.zero_mul, Nat.zero_add] at c2 c3
  rw [hy] at c4 c5
  have f2 := hg2.frozen 0
  have f3 := hg2.frozen 1
  have H3 := (H2.out.set 0 (by simp) y).drew
  have R3 := ((R2.out.far (p := ⟨g, 0, none⟩) (by simp; omega) (.int .i64 y.1)).far (p := ⟨g, 1, none⟩) (by simp; omega) (.int .u32 y.2)).drew
  have T3 := ((T2.out.far (p := ⟨g, 0, none⟩) (by simp; omega) (.int .i64 y.1)).far (p := ⟨g, 1, none⟩) (by simp; omega) (.int .u32 y.2)).drew
  have K3 := ((K2.out.setCell ⟨g, 0, none⟩ (.int .i64 y.1) (by simp)).setCell ⟨g, 1, none⟩ (.int .u32 y.2) (by simp)).drew
  simp only [Nat.zero_mul, Nat.zero_add] at H3
  replace H3 := Lib.hid H3
  replace R3 := Lib.hid R3
  replace T3 := Lib.hid T3
  replace K3 := Lib.hid K3
  have HY := Lib.hid hy
  clear hg2 hR hy
  go_region
  clear c0 l0 l1 c2 c3 c4 c5 f2 f3 H2 R2 T2 K2
  generalize ((w2.setCell ⟨g, 0, none⟩ (.int .i64 y.1)).setCell ⟨g, 1, none⟩ (.int .u32 y.2)).drew = w3 at *
  have c0 := H3.out.cell0
  have f0 := H3.out.self.frozen o
  have l0 := H3.out.self.lt
  go_wp2_with (fail)
  have ho : Own w3 58 (.slice (some ⟨g, 0, none⟩) ys.length cap) (((x :: ys).set 0 y).take ys.length) := H3.out.own.take ys.length (by simp)
  have H4 := HeapAt.lay H3.out.off H3.out.typ H3.out.self H3.out.fn ho
  have R4 := R3.out.far (p := ⟨b, o, none⟩) (by simp; omega) (.slice (some ⟨g, 0, none⟩) ys.length cap)
  have T4 := T3.out.far (p := ⟨b, o, none⟩) (by simp; omega) (.slice (some ⟨g, 0, none⟩) ys.length cap)
  have K4 := K3.out.setCell ⟨b, o, none⟩ (.slice (some ⟨g, 0, none⟩) ys.length cap) (by simp)
  refine (sink_any b o c g ys.length cap 0 t pre _ _ H4 (by simp; omega) (by omega)).mono ?_
  rintro e w5 ⟨rfl, h5, k5⟩
  have R5 := k5.blk R4 (by simp; omega)
  have T5 := k5.blk T4 (by simp; omega)
  have K5 := K4.trans k5 (fun z hz => by simp at hz; simp [hz])
  have hpop : sinkL (((x :: ys).set 0 y).take ys.length) 0 = popL (x :: ys) := by
    rw [popL]
    simp only [List.length_cons, Nat.add_sub_cancel]
    rw [HY.out]
  rw [hpop] at h5
  have c0 := T5.cell 0
  have c1 := T5.cell 1
  have d0 := R5.cell 0
  have d1 := R5.cell 1
  have f0 := R5.frozen 0
  have f1 := R5.frozen 1
  have l5 := R5.lt
  simp only [List.getElem?_cons_zero, List.getElem?_cons_succ] at c0 c1 d0 d1
  have hlr := HR.out
  have K6 := (K5.setCell ⟨R, 0, none⟩ (.int .i64 x.1) (by simp; omega)).setCell ⟨R, 1, none⟩ (.int .u32 x.2) (by simp; omega)
  have hKR : Kept [R] w5 ((w5.setCell ⟨R, 0, none⟩ (.int .i64 x.1)).setCell ⟨R, 1, none⟩ (.int .u32 x.2)) := ((Kept.refl _ _).setCell _ _ (by simp)).setCell _ _ (by simp)
  have H6 := Lib.hid (h5.kept hKR (by simp; omega) (by simp; omega) (by simp [Value.ownBlock]; omega))
  have K6 := Lib.hid K6
  clear h5 k5 H4 R4 T4 K4 R5 T5 K5 ho hpop H3 R3 T3 K3 hlr hKR
  go_wp2
  refine bodyPost_ret (v := .agg #[.int .i64 x.1, .int .u32 x.2]) (by simp [results, Try.results65, go_sem, d0, d1]) rfl ?_
  exact ⟨rfl, H6.out, K6.out⟩
end Go.Proofs.Ytdocoioenkajeaa
