/-
  Layer 16: the document's table: Keep. (Made by tools/mkddp.py.)
-/
import Derived.Test.YtdgiellnklcioaaDdo
import Derived.Great.BuildSlice
namespace Go.Proofs.Ytdgiellnklcioaa
open Go.ChangeShapes Go.WideShapes Go.ChangeAt Go.RowKit Go.Maps

theorem any_cons {P : Program} {md : Region.Mode} {ops : Array Oper} {Q : Exit → Act → World → Prop} {fuel : Nat} {listed : Array Bool} {a : Act} {w : World} (is : List Nat) (hr : Region.ready md ops listed = is) (hne : is ≠ []) (h : ∀ i ∈ is, wpOp P ops Q i (wpAny P md ops Q fuel (listed.setIfInBounds i true)) a w) : wpAny P md ops Q (fuel + 1) listed a w := by
  refine ⟨fun h0 => absurd (hr.symm.trans h0) hne, ?_⟩
  rw [hr]
  exact h
theorem any_one {P : Program} {md : Region.Mode} {ops : Array Oper} {Q : Exit → Act → World → Prop} {fuel : Nat} {listed : Array Bool} {a : Act} {w : World} {i : Nat} (hr : Region.ready md ops listed = [i]) (h : wpOp P ops Q i (wpAny P md ops Q fuel (listed.setIfInBounds i true)) a w) : wpAny P md ops Q (fuel + 1) listed a w :=
  any_cons [i] hr (by simp) (fun j hj => by rw [List.mem_singleton.1 hj]; exact h)
theorem wp_load_midA {P : Program} {o : Oper} {act : Act} {K : Act → World → Prop} {Q : Exit → Act → World → Prop} (w : World) (ty : TypeId) (x : Operand) (hop : o.op = .load ty x) (g i : Nat) (cs : Array Value) (d : TypeDesc)
    (hx : act.eval x = .pointer (some ⟨g, i, none⟩)) (hc : w.rangeAt g i cs.toList) (hu : P.underlying ty = some d) (hd : d.isRow = true) (hi : (P.info? ty).map (·.size) = some cs.size)
    (h : K (act.put o.dst (.agg cs)) w) : o.wp P act w K Q := by
  have hl := run_loadVar_mid (P := P) w g i ty cs.toList d hc hu hd hi
  unfold Oper.wp execOp
  simp only [hop, hx, Instr.loadAt, Instr.sureAddr, Sem.run_bind, Sem.run_pure, Result.andThen_ok, hl]
  exact h
theorem wp_bsK {P : Program} {o : Oper} {act : Act} {K : Act → World → Prop} {Q : Exit → Act → World → Prop} (w : World) (t e : TypeId) (x : Operand) (ho : o.op = .buildSlice t 1 #[(0, x)]) (cells : Array Value)
    (hr : (Instr.buildSlice t 1 #[(0, .agg cells)]).run P w = .ok (.slice (some ⟨w.heap.size, 0, none⟩) 1 1) (w.alloc (.cells cells e))) (hx : act.eval x = .agg cells)
    (h : K (act.put o.dst (.slice (some ⟨w.heap.size, 0, none⟩) 1 1)) (w.alloc (.cells cells e))) : o.wp P act w K Q := by
  unfold Oper.wp execOp
  simp [ho, hx, hr, Result.andThen_ok]
  exact h
theorem msg_info28 : (Try.prog.info? 45).map (fun i => (i.zero, i.size, i.bytes)) = some (some (.agg (zeroL 0).cells.toArray), 28, 320) := by kernel_rfl
theorem bs_msg (w : World) (m : MsgL) {M : Array Value} (hM : m.cells.toArray = M) : (Instr.buildSlice 27 1 #[(0, .agg M)]).run Try.prog w = .ok (.slice (some ⟨w.heap.size, 0, none⟩) 1 1) (w.alloc (.cells M 45)) := by
  subst hM
  obtain ⟨i0, hi, hz0, hz1, hz2⟩ := info_parts msg_info28
  exact run_buildSlice w _ _ 1 _ _ i0 _ Try.underlying27 hi hz0 (by rw [hz1]; decide) (by rw [hz1]; decide) (by rw [hz1]; kernel_rfl)
theorem blk_range {w : World} {g : Nat} {t : TypeId} {cs : List Value} (h : Blk w g t cs) : w.rangeAt g 0 cs := fun j v hj => by
  rw [Nat.zero_add, cell_of_row w g j cs.toArray t (0, 0) h]
  simpa using hj
theorem DocT.app {w w1 w' : World} {lo y : Nat} {v v' : Value} {Ms : List MsgL} {t : TV} {m : MsgL} (h : DocT w lo y v Ms t) (hlo : lo ≤ w.heap.size) (b1 : Below w.heap.size w w1) (hm : m.In (· < lo) w) (hr : RowC lo w' 45 28 v' (Ms.map MsgL.cells ++ [m.cells])) (hk : Kept (ownB v) w1 w') (hg : Grows w1 (ownB v) (ownB v')) (hy : y ∉ ownB v) :
    DocT (w'.setCell ⟨y, 0, none⟩ v') lo y v' (Ms ++ [m]) ⟨t.L ++ [m.toM], t.acked⟩ ∧ Kept (y :: ownB v) w (w'.setCell ⟨y, 0, none⟩ v') ∧ Grows w (y :: ownB v) (y :: ownB v') := by
  have k1 : Kept [y] w' (w'.setCell ⟨y, 0, none⟩ v') := (Kept.refl _ _).setCell _ _ (.inl (by simp))
  have k0 : Kept (y :: ownB v) w w1 := Kept.of_below b1 (Nat.le_refl _)
  have hlt := h.blk.lt
  have hs1 := b1.size
  have hb1 : Blk w1 y 29 [v, .int .i64 (t.acked : Int)] := (Kept.of_below (F := []) b1 (Nat.le_refl _)).blk h.blk (by simp)
  have hb' := hk.blk hb1 hy
  have hy' : ∀ g, v'.ownBlock = some g → g ∉ [y] := fun g hg' hh => by
    simp at hh
    subst hh
    have := row_blk8 hr.2 hb' (by decide)
    exact this hg'
  have hB : Below lo w (w'.setCell ⟨y, 0, none⟩ v') := by
    have s1 : Below lo w w1 := b1.mono hlo
    have s2 : Below lo w1 w' := hk.below (fun b hb => (h.row.lt b (mem_ownB.1 hb)).1) (by omega)
    have s3 : Below lo w' (w'.setCell ⟨y, 0, none⟩ v') := k1.below (fun b hb => by simp at hb; rw [hb]; exact h.ly) (by have := hk.size; omega)
    exact (s1.trans s2).trans s3
  refine ⟨⟨hb'.set 0 v', ?_, fun x hx => ?_, by rw [List.map_append, h.toM]; rfl, h.ly⟩, ?_, fun g hgg => ?_⟩
  · rw [List.map_append]
    exact hr.kept k1 hy'
  · rcases List.mem_append.1 hx with hx | hx
    · exact (h.each x hx).under hB
    · rw [List.mem_singleton.1 hx]
      exact hm.under hB
  · have kk : Kept (y :: ownB v) w1 w' := ⟨hk.os, hk.tape, hk.output, hk.size, fun k hlt hn => hk.block k hlt (fun hx => hn (List.mem_cons_of_mem _ hx))⟩
    have k2 : Kept (y :: ownB v) w' (w'.setCell ⟨y, 0, none⟩ v') := (Kept.refl _ _).setCell _ _ (.inl (by simp))
    exact (k0.trans kk (Grows.refl _ _)).trans k2 (Grows.refl _ _)
  · rcases List.mem_cons.1 hgg with rfl | hgg
    · exact .inl (by simp)
    · rcases hg g hgg with h1 | h1
      · exact .inl (List.mem_cons_of_mem _ h1)
      · exact .inr (by omega)
set_option maxRecDepth 100000 in
set_option maxHeartbeats 3200000 in
theorem rkeep_any (w : World) (lo y : Nat) (v : Value) (Ms : List MsgL) (t : TV) (h : DocT w lo y v Ms t) (req : Nat) (m : MsgL) (hm : m.In (· < lo) w) (hsz : t.L.length ≤ 1000) (hak : t.acked ≤ t.L.length) : Calls Try.prog 14 #[.pointer (some ⟨y, 0, none⟩), .int .i64 (req : Int), .agg m.cells.toArray] w (RTabPost lo y v (t.keep req m.toM).2 (t.keep req m.toM).1 w) := by
  obtain ⟨va, vn, vc, rfl, hvn⟩ := h.form
  obtain ⟨M, hM⟩ : ∃ M, m.cells.toArray = M := ⟨_, rfl⟩
  have hM1 := msg_ne hM
  have hM2 := msg_28 hM
  have hinfoM : (Try.prog.info? 45).map (·.size) = some M.size := by rw [hM2]; exact msg_size16
  rw [hM]
  obtain ⟨w1, hw1⟩ : ∃ w1, w.alloc (.cells M 45) = w1 := ⟨_, rfl⟩
  have b1 : Below w.heap.size w w1 := by rw [← hw1]; exact (Below.refl _ _).alloc (Nat.le_refl _) _
  have hs1 : w1.heap.size = w.heap.size + 1 := by rw [← hw1]; simp
  have Y1 : Blk w1 w.heap.size 45 m.cells := by rw [← hw1, ← hM]; exact Blk.new w 45 m.cells.toArray
  have hlo : lo ≤ w.heap.size := by have := h.ly; have := h.blk.lt; omega
  have H1 := h.on b1
  obtain ⟨k, hk⟩ : ∃ k, t.acked = k := ⟨_, rfl⟩
  have HN := Lib.hid hvn.out
  have HK := Lib.hid hk
  have hv1000 : vn ≤ 1000 := by rw [← hvn.out]; exact hsz
  have c0 : w1.cell? ⟨y, 0, none⟩ = some (.slice va vn vc) := H1.blk.cell 0
  have c1 : w1.cell? ⟨y, 1, none⟩ = some (.int .i64 (k : Int)) := by have := H1.blk.cell 1; rw [hk] at this; exact this
  have SAMEF := Lib.hid (fun (j c : Nat) (hc : t.keep req m.toM = (c, t)) => show RTabPost lo y (.slice va vn vc) (t.keep req m.toM).2 (t.keep req m.toM).1 w (.returned (.int .i64 (c : Int))) (w1.drewN j) from by
    rw [hc]
    have hb : Below w.heap.size w (w1.drewN j) := below_draws b1 j
    exact ⟨rfl, _, Ms, h.on hb, Kept.of_below hb (Nat.le_refl _), Grows.refl _ _⟩)
  rw [hvn.out, hk] at hak
  by_cases hreq : req = vn + 1
  · have hq : ((req : Int) != (vn : Int) + 1) = false := by simp; omega
    by_cases hfull : 16 ≤ vn - k
    · have hwr : wrap64 ((vn : Int) - (k : Int)) = (vn : Int) - (k : Int) := by unfold wrap64; omega
      have hf : decide ((vn : Int) - (k : Int) ≥ 16) = true := decide_eq_true (by omega)
      have hf2 : decide ((16 : Int) ≤ (vn : Int) - (k : Int)) = true := decide_eq_true (by omega)
      have R := Lib.hid (fun j => SAMEF.out j 4 (keep_full (by rw [HN.out]; exact hreq) (by rw [HN.out]; omega) (by rw [HN.out, HK.out]; exact hfull)))
      clear h hm hsz hak hreq hfull SAMEF H1 b1 hlo hvn hk Y1 hM
      go_enter Try.func14, Try.ntmps14
      go_wp2_with (fail)
      go_quiet (fail)
      go_wp2
      go_ret
      exact R.out _
    · have hwr : wrap64 ((vn : Int) - (k : Int)) = (vn : Int) - (k : Int) := by unfold wrap64; omega
      have hf : decide ((vn : Int) - (k : Int) ≥ 16) = false := decide_eq_false (by omega)
      have hf2 : decide ((16 : Int) ≤ (vn : Int) - (k : Int)) = false := decide_eq_false (by omega)
      have HOK := Lib.hid (show t.keep req m.toM = (0, ⟨t.L ++ [m.toM], t.acked⟩) from keep_ok (by rw [HN.out]; exact hreq) (by rw [HN.out]; omega) (by rw [HN.out, HK.out]; omega))
      have FACTS := Lib.hid (fun (wx : World) (hb : Below w1.heap.size w1 wx) => show wx.rangeAt w.heap.size 0 M.toList ∧ wx.cell? ⟨y, 0, none⟩ = some (.slice va vn vc) ∧ wx.frozen? ⟨y, 0, none⟩ = false ∧ RowC lo wx 45 28 (.slice va vn vc) (Ms.map MsgL.cells) from by
        have e0 := (Kept.of_below (F := []) hb (Nat.le_refl _)).blk Y1 (by simp)
        have e1 := (Kept.of_below (F := []) hb (Nat.le_refl _)).blk H1.blk (by simp)
        exact ⟨by rw [← hM]; exact blk_range e0, e1.cell 0, e1.frozen 0, H1.row.on hb⟩)
      have hny : y ∉ ownB (.slice va vn vc) := fun hh => h.ne (mem_ownB.1 hh)
      have FIN := Lib.hid (fun (wx w' : World) (v' : Value) (hb : Below w1.heap.size w1 wx) (hr : RowC lo w' 45 28 v' (Ms.map MsgL.cells ++ [M.toList])) (hk' : Kept (ownB (.slice va vn vc)) wx w') (hg : Grows wx (ownB (.slice va vn vc)) (ownB v')) =>
        show RTabPost lo y (.slice va vn vc) (t.keep req m.toM).2 (t.keep req m.toM).1 w (.returned (.int .i64 0)) (w'.setCell ⟨y, 0, none⟩ v') ∧ w'.cell? ⟨y, 0, none⟩ = some (.slice va vn vc) ∧ w'.frozen? ⟨y, 0, none⟩ = false from by
          have hbx : Below w.heap.size w wx := below_on b1 hb
          have hr2 : RowC lo w' 45 28 v' (Ms.map MsgL.cells ++ [m.cells]) := by
            rw [show m.cells = M.toList from by rw [← hM]]
            exact hr
          obtain ⟨r1, r2, r3⟩ := h.app hlo hbx hm hr2 hk' hg hny
          have e1 := hk'.blk ((Kept.of_below (F := []) hb (Nat.le_refl _)).blk H1.blk (by simp)) hny
          rw [HOK.out]
          exact ⟨⟨rfl, v', _, r1, r2, r3⟩, e1.cell 0, e1.frozen 0⟩)
      have HMM := Lib.hid hM
      have HSZ := Lib.hid (show lo ≤ w1.heap.size ∧ (Ms.map MsgL.cells).length ≤ 1000 ∧ M.toList.length = 28 ∧ (∀ u ∈ M.toList, u.oneCell' = true) from ⟨by omega, by rw [List.length_map, h.len, HN.out]; exact hv1000, by simpa using hM2, by rw [← hM]; simp [MsgL.cells, Value.oneCell']⟩)
      clear h hm hsz hak hreq hfull SAMEF H1 b1 hlo hvn hk Y1 hM hny
      go_enter Try.func14, Try.ntmps14
      go_wp2_with (fail)
      go_quiet (fail)
      go_wp2_with (fail)
      refine wp_region_any (by kernel_rfl) ?_
      change wpAny _ _ _ _ _ _ _ (World.drew (w1.drewN nq))
      generalize hW : (w1.drewN nq).drew = W
      have BW := Lib.hid (show Below w1.heap.size w1 W from by rw [← hW]; exact (below_draws (Below.refl _ _) nq).drew)
      clear hW
      obtain ⟨r1, d0, d1, -⟩ := FACTS.out W BW.out
      refine wpAny_take (i := 0) (v := ?v0) rfl (by kernel_rfl) (by kernel_rfl) (by kernel_rfl) (fun _ _ _ h => h) (Or.inl ⟨by rfl, ?y0⟩) ?_
      case y0 => (intro w; go_simp) <;> with_reducible rfl
      go_simp
      refine wpAny_take (i := 1) (v := ?v1) rfl (by kernel_rfl) (by kernel_rfl) (by kernel_rfl) (fun _ _ _ h => h) (Or.inl ⟨by rfl, ?y1⟩) ?_
      case y1 => (intro w; go_simp) <;> with_reducible rfl
      go_simp
      refine wpAny_take (i := 2) (v := ?v2) rfl (by kernel_rfl) (by kernel_rfl) (by kernel_rfl) (fun _ _ _ h => h) (Or.inl ⟨by rfl, ?y2⟩) ?_
      case y2 => (intro w; go_simp) <;> with_reducible rfl
      go_simp
      refine wpAny_take (i := 3) (v := ?v3) rfl (by kernel_rfl) (by kernel_rfl) (by kernel_rfl) (fun _ _ _ h => h) (Or.inl ⟨by rfl, ?y3⟩) ?_
      case y3 => (intro w; go_simp) <;> with_reducible rfl
      go_simp
      have HRW := Lib.hid (FACTS.out W BW.out).2.2.2
      refine any_cons [4, 5] (by kernel_rfl) (by simp) ?_
      intro i hi
      rcases (by simpa using hi : i = 4 ∨ i = 5) with rfl | rfl
      · clear hi
        refine wpOp_step rfl fun K hK => ?_
        rw [if_pos (by rfl)]
        go_simp
        refine hK _ _ ?_
        clear hK K
        refine any_one (i := 5) (by kernel_rfl) ?_
        refine wpOp_step rfl fun K hK => ?_
        rw [if_pos (by rfl)]
        refine wp_load_midA W 45 (.tmp 5) rfl w.heap.size 0 M _ (by rfl) r1 Try.underlying45 rfl hinfoM ?_
        refine hK _ _ ?_
        clear hK K
        refine any_one (i := 6) (by kernel_rfl) ?_
        refine wpOp_step rfl fun K hK => ?_
        rw [if_pos (by rfl)]
        refine wp_bsK W 27 45 (.tmp 31) rfl M (bs_msg W m HMM.out) rfl ?_
        refine hK _ _ ?_
        clear hK K
        refine any_one (i := 7) (by kernel_rfl) ?_
        refine wpOp_step rfl fun K hK => ?_
        refine step_c (css := Ms.map MsgL.cells) W rfl (.tmp 30) (.tmp 32) 27 rfl Try.underlying27 (.agg (zeroL 0).cells.toArray) 320 msg_info28 rfl (by decide) M.toList rfl rfl HRW.out HSZ.out.2.2.1 HSZ.out.2.2.2 (Nat.le_trans HSZ.out.1 BW.out.size) (by have := HSZ.out.2.1; omega) (by have := HSZ.out.2.1; omega) ?_
        intro v' w' hr' hk' hg'
        obtain ⟨e1, e2, e3⟩ := FIN.out W w' v' BW.out hr' hk' hg'
        obtain ⟨pa, pn, pc, rfl, -⟩ := ownsRow_slice hr'.2
        have R := Lib.hid e1
        refine hK _ _ ?_
        clear hK K e1 hr' hk' hg' HRW
        refine wpAny_take (i := 8) (v := ?v8a) rfl (by kernel_rfl) (by kernel_rfl) (by kernel_rfl) (fun _ _ _ h => h) (Or.inl ⟨by rfl, ?y8a⟩) ?_
        case y8a => (intro w; go_simp) <;> with_reducible rfl
        go_simp
        refine wpAny_take (i := 9) (v := ?v9a) rfl (by kernel_rfl) (by kernel_rfl) (by kernel_rfl) (fun _ _ _ h => h) (Or.inl ⟨by rfl, ?y9a⟩) ?_
        case y9a => (intro w; go_simp) <;> with_reducible rfl
        go_simp
        refine any_one (i := 10) (by kernel_rfl) ?_
        refine wpOp_step rfl fun K hK => ?_
        rw [if_pos (by rfl)]
        go_simp
        refine hK _ _ ?_
        clear hK K
        refine wpAny_done (by kernel_rfl) ?_ _
        go_wp2
        go_ret
        exact R.out
      · clear hi
        refine wpOp_step rfl fun K hK => ?_
        rw [if_pos (by rfl)]
        refine wp_load_midA W 45 (.tmp 5) rfl w.heap.size 0 M _ (by rfl) r1 Try.underlying45 rfl hinfoM ?_
        refine hK _ _ ?_
        clear hK K
        refine any_cons [4, 6] (by kernel_rfl) (by simp) ?_
        intro i hi
        rcases (by simpa using hi : i = 4 ∨ i = 6) with rfl | rfl
        · clear hi
          refine wpOp_step rfl fun K hK => ?_
          rw [if_pos (by rfl)]
          go_simp
          refine hK _ _ ?_
          clear hK K
          refine any_one (i := 6) (by kernel_rfl) ?_
          refine wpOp_step rfl fun K hK => ?_
          rw [if_pos (by rfl)]
          refine wp_bsK W 27 45 (.tmp 31) rfl M (bs_msg W m HMM.out) rfl ?_
          refine hK _ _ ?_
          clear hK K
          refine any_one (i := 7) (by kernel_rfl) ?_
          refine wpOp_step rfl fun K hK => ?_
          refine step_c (css := Ms.map MsgL.cells) W rfl (.tmp 30) (.tmp 32) 27 rfl Try.underlying27 (.agg (zeroL 0).cells.toArray) 320 msg_info28 rfl (by decide) M.toList rfl rfl HRW.out HSZ.out.2.2.1 HSZ.out.2.2.2 (Nat.le_trans HSZ.out.1 BW.out.size) (by have := HSZ.out.2.1; omega) (by have := HSZ.out.2.1; omega) ?_
          intro v' w' hr' hk' hg'
          obtain ⟨e1, e2, e3⟩ := FIN.out W w' v' BW.out hr' hk' hg'
          obtain ⟨pa, pn, pc, rfl, -⟩ := ownsRow_slice hr'.2
          have R := Lib.hid e1
          refine hK _ _ ?_
          clear hK K e1 hr' hk' hg' HRW
          refine wpAny_take (i := 8) (v := ?v8b) rfl (by kernel_rfl) (by kernel_rfl) (by kernel_rfl) (fun _ _ _ h => h) (Or.inl ⟨by rfl, ?y8b⟩) ?_
          case y8b => (intro w; go_simp) <;> with_reducible rfl
          go_simp
          refine wpAny_take (i := 9) (v := ?v9b) rfl (by kernel_rfl) (by kernel_rfl) (by kernel_rfl) (fun _ _ _ h => h) (Or.inl ⟨by rfl, ?y9b⟩) ?_
          case y9b => (intro w; go_simp) <;> with_reducible rfl
          go_simp
          refine any_one (i := 10) (by kernel_rfl) ?_
          refine wpOp_step rfl fun K hK => ?_
          rw [if_pos (by rfl)]
          go_simp
          refine hK _ _ ?_
          clear hK K
          refine wpAny_done (by kernel_rfl) ?_ _
          go_wp2
          go_ret
          exact R.out
        · clear hi
          refine wpOp_step rfl fun K hK => ?_
          rw [if_pos (by rfl)]
          refine wp_bsK W 27 45 (.tmp 31) rfl M (bs_msg W m HMM.out) rfl ?_
          refine hK _ _ ?_
          clear hK K
          have d0 : (W.alloc (.cells M 45)).cell? ⟨y, 0, none⟩ = some (.slice va vn vc) := (FACTS.out _ (BW.out.alloc BW.out.size _)).2.1
          refine any_one (i := 4) (by kernel_rfl) ?_
          refine wpOp_step rfl fun K hK => ?_
          rw [if_pos (by rfl)]
          go_simp
          refine hK _ _ ?_
          clear hK K
          refine any_one (i := 7) (by kernel_rfl) ?_
          refine wpOp_step rfl fun K hK => ?_
          refine step_c (css := Ms.map MsgL.cells) W rfl (.tmp 30) (.tmp 32) 27 rfl Try.underlying27 (.agg (zeroL 0).cells.toArray) 320 msg_info28 rfl (by decide) M.toList rfl rfl HRW.out HSZ.out.2.2.1 HSZ.out.2.2.2 (Nat.le_trans HSZ.out.1 BW.out.size) (by have := HSZ.out.2.1; omega) (by have := HSZ.out.2.1; omega) ?_
          intro v' w' hr' hk' hg'
          obtain ⟨e1, e2, e3⟩ := FIN.out W w' v' BW.out hr' hk' hg'
          obtain ⟨pa, pn, pc, rfl, -⟩ := ownsRow_slice hr'.2
          have R := Lib.hid e1
          refine hK _ _ ?_
          clear hK K e1 hr' hk' hg' HRW
          refine wpAny_take (i := 8) (v := ?v8c) rfl (by kernel_rfl) (by kernel_rfl) (by kernel_rfl) (fun _ _ _ h => h) (Or.inl ⟨by rfl, ?y8c⟩) ?_
          case y8c => (intro w; go_simp) <;> with_reducible rfl
          go_simp
          refine wpAny_take (i := 9) (v := ?v9c) rfl (by kernel_rfl) (by kernel_rfl) (by kernel_rfl) (fun _ _ _ h => h) (Or.inl ⟨by rfl, ?y9c⟩) ?_
          case y9c => (intro w; go_simp) <;> with_reducible rfl
          go_simp
          refine any_one (i := 10) (by kernel_rfl) ?_
          refine wpOp_step rfl fun K hK => ?_
          rw [if_pos (by rfl)]
          go_simp
          refine hK _ _ ?_
          clear hK K
          refine wpAny_done (by kernel_rfl) ?_ _
          go_wp2
          go_ret
          exact R.out
  · have hq : ((req : Int) != (vn : Int) + 1) = true := by simp; omega
    have R := Lib.hid (SAMEF.out 0 1 (keep_arg (by rw [HN.out]; exact hreq)))
    clear h hm hsz hak hreq SAMEF H1 b1 hlo hvn hk Y1 hM
    go_enter Try.func14, Try.ntmps14
    go_wp2
    go_ret
    exact R.out
end Go.Proofs.Ytdgiellnklcioaa
