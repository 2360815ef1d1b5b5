/-
  Layer 16: the document's table: Ask, Ack. (Made by tools/mkddo.py.)
-/
import Derived.Test.YtdgiellnklcioaaDdl
import Derived.BigQuiet
import Derived.Deep.QuietTactic
namespace Go.Proofs.Ytdgiellnklcioaa
open Go.ChangeShapes Go.WideShapes Go.ChangeAt Go.RowKit Go.Maps

/-- The document's table: block y; its row v of answers. The answers' lists lie below lo. -/
structure DocT (w : World) (lo y : Nat) (v : Value) (Ms : List MsgL) (t : TV) : Prop where
  blk : Blk w y 29 [v, .int .i64 (t.acked : Int)]
  row : RowC lo w 45 28 v (Ms.map MsgL.cells)
  each : ∀ m ∈ Ms, m.In (· < lo) w
  toM : Ms.map MsgL.toM = t.L
  ly : lo ≤ y
section
variable {w w' : World} {lo y : Nat} {v : Value} {Ms : List MsgL} {t : TV}
theorem DocT.len (h : DocT w lo y v Ms t) : Ms.length = t.L.length := by rw [← h.toM, List.length_map]
theorem DocT.on (h : DocT w lo y v Ms t) (hb : Below w.heap.size w w') : DocT w' lo y v Ms t :=
  ⟨(Kept.of_below (F := []) hb (Nat.le_refl _)).blk h.blk (by simp), h.row.on hb, fun m hm => (h.each m hm).on hb, h.toM, h.ly⟩
theorem DocT.ne (h : DocT w lo y v Ms t) : v.ownBlock ≠ some y := row_blk8 h.row.2 h.blk (by decide)
/-- What the table keeps from writing: y and its row. -/
theorem DocT.same (h : DocT w lo y v Ms t) (hs : Below lo w w') (hg : ∀ k ∈ y :: ownB v, k < w.heap.size → w'.heap[k]? = w.heap[k]?) : DocT w' lo y v Ms t := by
  refine ⟨(hg y (by simp) h.blk.lt).trans h.blk, ⟨h.row.1, h.row.2.1, ?_⟩, fun m hm => (h.each m hm).under hs, h.toM, h.ly⟩
  rcases h.row.2.2 with h2 | ⟨g, cap, cur, e1, h3, h4, h5⟩
  · exact .inl h2
  · exact .inr ⟨g, cap, cur, e1, h3, (hg g (List.mem_cons_of_mem _ (mem_ownB.2 (by rw [e1]; rfl))) (Array.getElem?_eq_some_iff.1 h4).1).trans h4, h5⟩
theorem DocT.form (h : DocT w lo y v Ms t) : ∃ a n c, v = .slice a n c ∧ Hid (t.L.length = n) := by
  obtain ⟨a, c, e, _⟩ := h.row.form
  refine ⟨a, _, c, e, ?_⟩
  rw [List.length_map, h.len]
  exact rfl
theorem DocT.vlen {a : Option Addr} {n c : Nat} (h : DocT w lo y (.slice a n c) Ms t) : t.L.length = n := by
  obtain ⟨a', n', c', e, hn⟩ := h.form
  simp only [Value.slice.injEq] at e
  rw [e.2.1]
  exact hn
end
theorem wp_load_mA {P : Program} {ops : Array Oper} {rest : List Oper} {o : Oper} {act : Act} {Q : Exit → Act → World → Prop} (w : World) (hw : Region.wanted o (yielded ops act.tmps) = true) (ty : TypeId) (x : Operand) (hop : o.op = .load ty x) (g i : Nat) (M : Array Value) (d : TypeDesc)
    (hx : act.eval x = .pointer (some ⟨g, i, none⟩)) (hc : w.rangeAt g i M.toList) (hu : P.underlying ty = some d) (hd : d.isRow = true) (hi : (P.info? ty).map (·.size) = some M.size)
    (K : wpList P ops Q rest (act.put o.dst (.agg M)) w) : wpList P ops Q (o :: rest) act w :=
  wp_load_m w hw ty x hop g i M.toList d hx hc hu hd (by rw [hi]; simp) K
/-- What the document's Ask tells. -/
def RAskPost (t : TV) (req : Nat) (w : World) (e : Ending) (w' : World) : Prop := ∃ m : MsgL, e = .returned (.tuple #[.agg m.cells.toArray, .int .i64 ((t.ask req).2 : Int)]) ∧ Below w.heap.size w w' ∧ m.In (fun _ => True) w' ∧ m.toM = (t.ask req).1
set_option maxRecDepth 100000 in
set_option maxHeartbeats 3200000 in
theorem rask_any (w : World) (lo y : Nat) (v : Value) (Ms : List MsgL) (t : TV) (h : DocT w lo y v Ms t) (req : Nat) (hr : req < 4294967296) (hsz : t.L.length ≤ 1000) : Calls Try.prog 11 #[.pointer (some ⟨y, 0, none⟩), .int .i64 (req : Int)] w (RAskPost t req w) := by
  obtain ⟨va, vn, vc, rfl, hvn⟩ := h.form
  obtain ⟨Z, hZ⟩ : ∃ Z, (zeroL 0).cells.toArray = Z := ⟨_, rfl⟩
  have hz := msg_zero
  rw [hZ] at hz
  have hb1 := msg_ne hZ
  have hb4 := msg_28 hZ
  have hinfoZ : (Try.prog.info? 45).map (·.size) = some Z.size := by rw [hb4]; exact msg_size16
  obtain ⟨w1, hw1⟩ : ∃ w1, w.alloc (.cells Z 45) = w1 := ⟨_, rfl⟩
  have b1 : Below w.heap.size w w1 := by rw [← hw1]; exact (Below.refl _ _).alloc (Nat.le_refl _) _
  have hs1 : w1.heap.size = w.heap.size + 1 := by rw [← hw1]; simp
  have Y1 := Lib.hid (show Blk w1 w.heap.size 45 (zeroL 0).cells from by rw [← hw1, ← hZ]; exact Blk.new w 45 (zeroL 0).cells.toArray)
  have hst := msg_store w1 w.heap.size _ (zeroL 0) Y1.out rfl
  rw [hZ] at hst
  have H1 := Lib.hid (h.on b1)
  obtain ⟨k, hk⟩ : ∃ k, t.acked = k := ⟨_, rfl⟩
  have HN := Lib.hid hvn.out
  have HK := Lib.hid hk
  have hv1000 : vn ≤ 1000 := by rw [← hvn.out]; exact hsz
  have c0 : w1.cell? ⟨y, 0, none⟩ = some (.slice va vn vc) := H1.out.blk.cell 0
  have c1 : w1.cell? ⟨y, 1, none⟩ = some (.int .i64 (k : Int)) := by have := H1.out.blk.cell 1; rw [hk] at this; exact this
  have ZP := Lib.hid (fun (v : Nat) (hv : t.ask req = (zeroM 0, v)) => show (w1.setRow w.heap.size Z).heap[w.heap.size]? = some (.cells Z 45 (0, 0)) ∧ RAskPost t req w (.returned (.tuple #[.agg Z, .int .i64 (v : Int)])) (w1.setRow w.heap.size Z) from by
    have hk := setRow_kept w1 w.heap.size Z
    rw [← hZ] at hk ⊢
    exact ⟨setRow_blk Y1.out (zeroL 0), zeroL 0, by rw [hv], b1.trans (hk.below (fun b hb => by simp at hb; omega) b1.size), zeroL_in _ _ 0 (by decide), by rw [hv]; rfl⟩)
  have HLO := Lib.hid (show lo ≤ w.heap.size from by have := h.ly; have := h.blk.lt; omega)
  have B1 := Lib.hid b1
  have HZ := Lib.hid hZ
  clear h b1 hk hZ hvn hsz
  by_cases ha : req ≤ k
  · have R := Lib.hid (ZP.out 3 (by unfold TV.ask; rw [HK.out, if_pos ha]))
    clear ZP H1
    have ha' : decide ((req : Int) ≤ (k : Int)) = true := decide_eq_true (by omega)
    go_enter Try.func11, Try.ntmps11
    go_wp2
    (try simp only [Exit.inBlock, Exit.then])
    refine bodyPost_ret (results_row_tmp (p := 4) (q := 5) (ty := 45) rfl _ (w1.setRow w.heap.size Z) w.heap.size 45 Z (0, 0) _ rfl R.out.1 Try.underlying45 rfl hinfoZ (.int .i64 ((3 : Nat) : Int)) rfl) rfl ?_
    exact R.out.2
  · have ha' : decide ((req : Int) ≤ (k : Int)) = false := decide_eq_false (by omega)
    by_cases hd : req ≤ vn
    · have hd' : decide ((req : Int) ≤ (vn : Int)) = true := decide_eq_true (by omega)
      obtain ⟨q, hq⟩ : ∃ q, req = q + 1 := ⟨req - 1, by omega⟩
      have hqs : (req : Int) - 1 = (q : Int) := by omega
      have hqv : q < vn := by omega
      obtain ⟨m, hm⟩ : ∃ m, Ms[q]? = some m := ⟨_, List.getElem?_eq_getElem (by rw [H1.out.len, HN.out]; omega)⟩
      obtain ⟨M, hM⟩ : ∃ M, m.cells.toArray = M := ⟨_, rfl⟩
      obtain ⟨g, cc, hva, hgl, hgs, hrg⟩ := H1.out.row.at q m.cells (by rw [List.getElem?_map, hm]; rfl)
      simp only [Value.slice.injEq] at hva
      obtain ⟨rfl, -, -⟩ := hva
      have HRG := Lib.hid (show w1.rangeAt g (q * 28) M.toList from by rw [← hM]; exact hrg)
      have HV := Lib.hid (show m.toM = (t.ask req).1 ∧ (t.ask req).2 = 2 from by
        have h3 : (Ms.map MsgL.toM)[q]? = some m.toM := by rw [List.getElem?_map, hm]; rfl
        rw [H1.out.toM] at h3
        unfold TV.ask
        rw [HK.out, HN.out, if_neg ha, if_pos hd, hq, Nat.add_sub_cancel]
        refine ⟨?_, rfl⟩
        show m.toM = t.L.getD q (zeroM 0)
        rw [List.getD_eq_getElem?_getD, h3]
        rfl)
      have HMI := Lib.hid ((H1.out.each m (List.mem_of_getElem? hm)).under (B := lo) (w' := w1.setRow w.heap.size M) ((setRow_kept w1 w.heap.size M).below (fun b hb => by simp at hb; rw [hb]; exact HLO.out) (by have := HLO.out; omega)))
      have hM1 := msg_ne hM
      have hM2 := msg_28 hM
      have hinfoM : (Try.prog.info? 45).map (·.size) = some M.size := by rw [hM2]; exact msg_size16
      have hstM := msg_store w1 w.heap.size _ m Y1.out rfl
      rw [hM] at hstM
      have R := Lib.hid (show (w1.setRow w.heap.size M).heap[w.heap.size]? = some (.cells M 45 (0, 0)) ∧ RAskPost t req w (.returned (.tuple #[.agg M, .int .i64 2])) (w1.setRow w.heap.size M) from by
        have hk := setRow_kept w1 w.heap.size M
        have hin := HMI.out
        rw [← hM] at hk hin ⊢
        exact ⟨setRow_blk Y1.out m, m, by rw [HV.out.2]; rfl, B1.out.trans (hk.below (fun b hb => by simp at hb; omega) B1.out.size), hin.mono fun _ _ _ => trivial, HV.out.1⟩)
      clear ZP H1 hst HMI HV hm hM hq hrg hgl hgs
      go_enter Try.func11, Try.ntmps11
      go_wp2_with (first | (refine wp_load_mA w1 (by rfl) 45 (.tmp 26) rfl g (q * 28) M _ (by rfl) HRG.out Try.underlying45 rfl hinfoM ?_) | fail)
      (try simp only [Exit.inBlock, Exit.then])
      refine bodyPost_ret (results_row_tmp (p := 4) (q := 5) (ty := 45) rfl _ (w1.setRow w.heap.size M) w.heap.size 45 M (0, 0) _ rfl R.out.1 Try.underlying45 rfl hinfoM (.int .i64 2) rfl) rfl ?_
      exact R.out.2
    · have hd' : decide ((req : Int) ≤ (vn : Int)) = false := decide_eq_false (by omega)
      by_cases hf : req = vn + 1
      · have R := Lib.hid (ZP.out 1 (by unfold TV.ask; rw [HK.out, HN.out, if_neg ha, if_neg hd, if_pos hf]))
        have hf' : ((req : Int) == (vn : Int) + 1) = true := by rw [beq_iff_eq]; omega
        clear ZP hf H1
        go_enter Try.func11, Try.ntmps11
        go_wp2
        (try simp only [Exit.inBlock, Exit.then])
        refine bodyPost_ret (results_row_tmp (p := 4) (q := 5) (ty := 45) rfl _ (w1.setRow w.heap.size Z) w.heap.size 45 Z (0, 0) _ rfl R.out.1 Try.underlying45 rfl hinfoZ (.int .i64 ((1 : Nat) : Int)) rfl) rfl ?_
        exact R.out.2
      · have R := Lib.hid (ZP.out 4 (by unfold TV.ask; rw [HK.out, HN.out, if_neg ha, if_neg hd, if_neg hf]))
        have hf' : ((req : Int) == (vn : Int) + 1) = false := by rw [beq_eq_false_iff_ne]; omega
        clear ZP hf H1
        go_enter Try.func11, Try.ntmps11
        go_wp2
        (try simp only [Exit.inBlock, Exit.then])
        refine bodyPost_ret (results_row_tmp (p := 4) (q := 5) (ty := 45) rfl _ (w1.setRow w.heap.size Z) w.heap.size 45 Z (0, 0) _ rfl R.out.1 Try.underlying45 rfl hinfoZ (.int .i64 ((4 : Nat) : Int)) rfl) rfl ?_
        exact R.out.2
/-- What the document's Ack leaves. -/
def RTabPost (lo y : Nat) (v : Value) (t' : TV) (c : Nat) (w : World) (e : Ending) (w' : World) : Prop := e = .returned (.int .i64 (c : Int)) ∧ ∃ v' Ms', DocT w' lo y v' Ms' t' ∧ Kept (y :: ownB v) w w' ∧ Grows w (y :: ownB v) (y :: ownB v')
set_option maxRecDepth 100000 in
set_option maxHeartbeats 3200000 in
theorem rack_any (w : World) (lo y : Nat) (v : Value) (Ms : List MsgL) (t : TV) (h : DocT w lo y v Ms t) (n : Nat) : Calls Try.prog 16 #[.pointer (some ⟨y, 0, none⟩), .int .i64 (n : Int)] w (RTabPost lo y v (t.ack n).2 (t.ack n).1 w) := by
  obtain ⟨va, vn, vc, rfl, hvn⟩ := h.form
  obtain ⟨k, hk⟩ : ∃ k, t.acked = k := ⟨_, rfl⟩
  have HN := Lib.hid hvn.out
  have HK := Lib.hid hk
  have c0 : w.cell? ⟨y, 0, none⟩ = some (.slice va vn vc) := h.blk.cell 0
  have c1 : w.cell? ⟨y, 1, none⟩ = some (.int .i64 (k : Int)) := by have := h.blk.cell 1; rw [hk] at this; exact this
  have f1 := h.blk.frozen 1
  have HH := Lib.hid h
  clear h hk hvn
  by_cases hbig : vn < n
  · have hb : decide (vn < n) = true := decide_eq_true hbig
    have R := Lib.hid (show RTabPost lo y (.slice va vn vc) (t.ack n).2 (t.ack n).1 w (.returned (.int .i64 1)) w from by
      rw [ack_arg (by rw [HN.out]; exact hbig)]
      exact ⟨rfl, _, Ms, HH.out, Kept.refl _ _, Grows.refl _ _⟩)
    clear HH hbig
    go_enter Try.func16, Try.ntmps16
    go_wp2
    go_ret
    exact R.out
  · have hb : decide (vn < n) = false := decide_eq_false hbig
    obtain ⟨z, hz⟩ : ∃ z, max k n = z := ⟨_, rfl⟩
    have R := Lib.hid (show RTabPost lo y (.slice va vn vc) (t.ack n).2 (t.ack n).1 w (.returned (.int .i64 0)) (w.setCell ⟨y, 1, none⟩ (.int .i64 (z : Int))) from by
      rw [ack_ok (by rw [HN.out]; omega), HK.out, hz]
      have hk : Kept [y] w (w.setCell ⟨y, 1, none⟩ (.int .i64 (z : Int))) := (Kept.refl _ _).setCell _ _ (.inl (by simp))
      have hB : Below lo w (w.setCell ⟨y, 1, none⟩ (.int .i64 (z : Int))) := hk.below (fun b hb => by simp at hb; rw [hb]; exact HH.out.ly) (by have := HH.out.ly; have := HH.out.blk.lt; omega)
      have hne := HH.out.ne
      refine ⟨rfl, _, Ms, ⟨HH.out.blk.set 1 _, HH.out.row.kept hk (fun g hg hh => by simp at hh; rw [hh] at hg; exact hne hg), fun m hm => (HH.out.each m hm).under hB, HH.out.toM, HH.out.ly⟩, (Kept.refl _ _).setCell _ _ (.inl (by simp)), Grows.refl _ _⟩)
    clear HH hbig
    go_enter Try.func16, Try.ntmps16
    by_cases hkn : n ≤ k
    · have hz2 : z = k := by omega
      rw [hz2] at R
      clear hz2 hz
      go_wp2
      all_goals go_ret
      all_goals exact R.out
    · have hz2 : z = n := by omega
      rw [hz2] at R
      clear hz2 hz
      go_wp2
      all_goals go_ret
      all_goals exact R.out
end Go.Proofs.Ytdgiellnklcioaa
