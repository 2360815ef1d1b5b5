/-
  The program's past: needed: what of the rows that are seen a sweep leaves, by a walk over its text.
-/
import Derived.Test.YtdmnflncgmnghaaGreatCm
import Derived.Test.YtdmnflncgmnghaaGreatJs
namespace Go.Proofs.YtdmnflncgmnghaaGreat
open Go.RowKit

section
variable {ops : Array Oper} {rest : List Oper} {o : Oper} {a : Act} {Q : Exit → Act → World → Prop}
theorem set_look (w : World) (hg : o.guard = none) (m x : Operand) (t : TypeId) (hop : o.op = Op.lookup t m x true) (e : TypeId) (ht : Tryz.prog.underlying t = some (.map 38 e)) (hz : (zeroValue e).run Tryz.prog w = .ok (.agg #[]) w) (b : Nat) (ids : List Nat) (h : SetAt w b ids)
    (hm : a.eval m = .map (some b)) (id : Nat) (hid : id < 4294967296) (hx : a.eval x = .int .u32 (id : Int))
    (hK : wpList Tryz.prog ops Q rest (a.put o.dst (.tuple #[.agg #[], .bool (ids.contains id)])) w) : wpList Tryz.prog ops Q (o :: rest) a w := by
  obtain ⟨D, h1, h2, h3⟩ := h
  refine wpList_lookup_own_unit w hg m x t hop 38 e (Maps.int_keyed Tryz.underlying38) ht hz b _ D hm h1 _ _ hx (Maps.keyOf_int_mk Tryz.underlying38 (u32_lit hid)) ?_
  rw [h3 id]
  exact hK
theorem set_put (w : World) (hg : o.guard = none) (m x v : Operand) (t : TypeId) (hop : o.op = Op.mapUpdate t m x v) (e : TypeId) (ht : Tryz.prog.underlying t = some (.map 38 e)) (b : Nat) (ids : List Nat) (h : SetAt w b ids) (hn : ids.length ≤ 1000000)
    (hm : a.eval m = .map (some b)) (id : Nat) (hid : id < 4294967296) (hx : a.eval x = .int .u32 (id : Int)) (hv : a.eval v = .agg #[])
    (hK : ∀ w', SetAt w' b (ids ++ [id]) → w.grownBy w' (some b) → wpList Tryz.prog ops Q rest (a.put o.dst undef) w') : wpList Tryz.prog ops Q (o :: rest) a w := by
  obtain ⟨D, h1, h2, h3⟩ := h
  refine wpList_mapUpdate_own w hg m x v t hop 38 e (Maps.int_keyed Tryz.underlying38) ht unitElem b _ D hm h1 (by unfold maxLen; omega) _ _ _ hx hv (Maps.keyOf_int_mk Tryz.underlying38 (u32_lit hid)) (.agg []) [] unitElem_mk ?_
  intro w' h4 h5
  refine hK w' ⟨_, ?_, isMap_put h2 _ _, set_step h2 h3⟩ h5
  rw [List.length_append]
  exact h4
end
/-- A row of bools of the call's own. -/
def BoolsAt (lo : Nat) (w : World) (v : Value) (bs : List Bool) : Prop := RowC lo w 4 1 v (bs.map fun b => [.bool b])
theorem BoolsAt.at {lo : Nat} {w : World} {v : Value} {bs : List Bool} (h : BoolsAt lo w v bs) (i : Nat) (b : Bool) (hb : bs[i]? = some b) : ∃ g c, v = .slice (some ⟨g, 0, none⟩) bs.length c ∧ lo ≤ g ∧ g < w.heap.size ∧ w.cell? ⟨g, i, none⟩ = some (.bool b) := by
  obtain ⟨g, c, e, h1, h2, hrg⟩ := RowC.at h i [.bool b] (by rw [List.getElem?_map, hb]; rfl)
  rw [List.length_map] at e
  have h0 := hrg 0 _ rfl
  rw [Nat.mul_one] at h0
  exact ⟨g, c, e, h1, h2, h0⟩
theorem BoolsAt.form {lo : Nat} {w : World} {v : Value} {bs : List Bool} (h : BoolsAt lo w v bs) : ∃ a c, v = .slice a bs.length c ∧ bs.length ≤ c := by
  obtain ⟨a, c, e, h2⟩ := RowC.form h
  rw [List.length_map] at e h2
  exact ⟨a, c, e, h2⟩
theorem row_info8n : (Tryz.prog.info? 157).map (fun i => (i.zero, i.size, i.bytes)) = some (some (.agg #[.int .u64 0, .bool false, .int .u32 0, .slice none 0 0, .slice none 0 0]), 5, 72) := by kernel_rfl
theorem ids_any (acc : List RowL) (id : Nat) : (acc.map RowL.id).contains id = acc.any fun s => s.id == id := by
  induction acc with
  | nil => rfl
  | cons x acc ih =>
    rw [List.map_cons, List.contains_cons, ih, List.any_cons]
    congr 1
    rw [Bool.eq_iff_iff, beq_iff_eq, beq_iff_eq]
    exact eq_comm
/-- Between two rounds of needed. -/
structure NeedS (w wr : World) (s5 : Value) (L acc : List RowL) (last i : Nat) (ks : List Nat) : Prop where
  row : RowC (w.heap.size + 1) wr 157 5 s5 (acc.map RowL.cells)
  set : SetAt wr w.heap.size (acc.map RowL.id)
  below : Below w.heap.size w wr
  told : rowsV acc = sweepI (rowsV L) last ks i
  sub : acc.Sublist (L.take i)
theorem NeedS.len {w wr : World} {s5 : Value} {L acc : List RowL} {last i : Nat} {ks : List Nat} (h : NeedS w wr s5 L acc last i ks) : acc.length ≤ i := by
  have := h.sub.length_le
  rw [List.length_take] at this
  omega
theorem take_sub {L acc : List RowL} {i : Nat} (h : acc.Sublist (L.take i)) : acc.Sublist (L.take (i + 1)) := h.trans (by
  rw [List.take_add_one]
  exact List.sublist_append_left _ _)
theorem take_sub_snoc {L acc : List RowL} {i : Nat} {r : RowL} (h : acc.Sublist (L.take i)) (hr : L[i]? = some r) : (acc ++ [r]).Sublist (L.take (i + 1)) := by
  rw [List.take_add_one, hr]
  exact h.append (List.Sublist.refl _)
theorem NeedS.on {w wr wx : World} {s5 : Value} {L acc : List RowL} {last i : Nat} {ks : List Nat} (h : NeedS w wr s5 L acc last i ks) (hb : Below wr.heap.size wr wx) : NeedS w wx s5 L acc last i ks :=
  ⟨h.row.on hb, h.set.far (hb.block _ h.set.lt), h.below.trans (hb.mono h.below.size), h.told, h.sub⟩
/-- One more row is taken. -/
theorem NeedS.take {w wr w4 w5 w6 : World} {s5 v5 : Value} {L acc : List RowL} {r : RowL} {last i : Nat} {ks : List Nat} (h : NeedS w wr s5 L acc last i ks) (hb : Below wr.heap.size wr w4) (hr : L[i]? = some r) (hn : sweepI (rowsV L) last ks (i + 1) = rowsV (acc ++ [r])) (h5 : RowC (w.heap.size + 1) w5 157 5 v5 (acc.map RowL.cells ++ [r.cells])) (hk : Kept (ownB s5) w4 w5) (h6 : SetAt w6 w.heap.size (acc.map RowL.id ++ [r.id])) (hg : w5.grownBy w6 (some w.heap.size)) : NeedS w w6 v5 L (acc ++ [r]) last (i + 1) ks := by
  have k6 : Kept [w.heap.size] w5 w6 := (Kept.refl _ _).grown hg (fun k hk => by cases hk; exact .inl (by simp))
  have h4 := (h.on hb).below
  refine ⟨?_, by rw [List.map_append]; exact h6, ?_, hn.symm, take_sub_snoc h.sub hr⟩
  · rw [List.map_append]
    exact h5.kept k6 (fun g hg hh => by
      have := (h5.lt g hg).1
      simp at hh
      omega)
  · have hb5 : Below w.heap.size w w5 := h4.trans (hk.below (fun x hx => by have := (h.row.lt x (mem_ownB.1 hx)).1; omega) h4.size)
    exact hb5.grown hg hb5.size (fun k e => by cases e; exact Nat.le_refl _)

set_option maxRecDepth 100000 in
set_option maxHeartbeats 12800000 in
theorem needed_any (w : World) (lo : Nat) (a : Option Addr) (n c : Nat) (sa : Option Addr) (sc : Nat) (L : List RowL) (bs : List Bool) (last : Nat) (ks : List Nat) (hrow : RowC lo w 157 5 (.slice a n c) (L.map RowL.cells)) (hid : ∀ r ∈ L, r.id < 4294967296) (hn : L.length = n) (hL : n ≤ 1024)
    (hseen : BoolsAt lo w (.slice sa n sc) bs) (hbl : bs.length = n) (hb : ∀ i r, L[i]? = some r → bs[i]? = some (needP (rowsV L) last ks r.toR i)) :
    Calls Tryz.prog 103 #[.slice a n c, .slice sa n sc] w fun e w' => ∃ (v' : Value) (acc : List RowL), e = .returned v' ∧ Below w.heap.size w w' ∧ RowC w.heap.size w' 157 5 v' (acc.map RowL.cells) ∧ rowsV acc = sweepI (rowsV L) last ks L.length ∧ acc.Sublist L := by
  have hmm := @run_makeMap Tryz.prog
  obtain ⟨w1, hw1⟩ : ∃ w1, w.alloc (.map #[] 0) = w1 := ⟨_, rfl⟩
  have S0 := Lib.hid (show NeedS w w1 (.slice none 0 0) L [] last 0 ks from by
    rw [← hw1]
    exact ⟨RowC.nil _ _ _ _, SetAt.made w, (Below.refl _ w).alloc (Nat.le_refl _) _, rfl, by simp⟩)
  have HROW := Lib.hid hrow
  have HSEEN := Lib.hid hseen
  have HID := Lib.hid hid
  have HN := Lib.hid hn
  have HB := Lib.hid hb
  have HBL := Lib.hid hbl
  clear hrow hseen hid hb hbl
  go_enter Tryz.func103, Tryz.ntmps103
  go_upto_region 3 with fail
  try rw [hw1]
  clear hw1
  go_wp2_with (fail)
  go_loopw [5, 14] (fun s5 s14 wr => ∃ (i : Nat) (acc : List RowL), s14 = .int .i64 i ∧ i ≤ n ∧ Hid (NeedS w wr s5 L acc last i ks)) (fun _ s14 _ => n - (intOf s14).toNat)
  case atStart => exact ⟨0, [], rfl, by omega, S0.out⟩
  case round =>
    obtain ⟨i, acc, rfl, hi, HS⟩ := hrel
    obtain ⟨a5, c5, e5, h5⟩ := HS.out.row.form
    obtain ⟨q, hq⟩ : ∃ q, (acc.map RowL.cells).length = q := ⟨_, rfl⟩
    rw [hq] at e5 h5
    obtain rfl := e5
    have hql : q ≤ i := by
      have := HS.out.len
      rw [List.length_map] at hq
      omega
    have HQ := Lib.hid hq
    clear hq
    by_cases hin : i < n
    · obtain ⟨r, hr⟩ : ∃ r, L[i]? = some r := ⟨_, List.getElem?_eq_getElem (by rw [HN.out]; exact hin)⟩
      have RW := HROW.out.kept (Kept.of_below (F := []) HS.out.below (Nat.le_refl _)) (by simp)
      obtain ⟨gu, c', e, _, hgu, hrg⟩ := RW.at i r.cells (by rw [List.getElem?_map, hr]; rfl)
      rw [List.length_map, HN.out] at e
      simp only [Value.slice.injEq] at e
      obtain ⟨rfl, -, rfl⟩ := e
      have k0 : wr.cell? ⟨gu, i * 5, none⟩ = some (.int .u64 (r.v : Int)) := hrg 0 _ rfl
      have k1 : wr.cell? ⟨gu, i * 5 + 1, none⟩ = some (.bool r.gone) := hrg 1 _ rfl
      have k2 : wr.cell? ⟨gu, i * 5 + 2, none⟩ = some (.int .u32 (r.id : Int)) := hrg 2 _ rfl
      have k3 : wr.cell? ⟨gu, i * 5 + 3, none⟩ = some (.slice r.pv.1 r.pv.2.1 r.pv.2.2) := hrg 3 _ rfl
      have k4 : wr.cell? ⟨gu, i * 5 + 4, none⟩ = some (.slice r.pt.1 r.pt.2.1 r.pt.2.2) := hrg 4 _ rfl
      obtain ⟨nd, hnd⟩ : ∃ nd, needP (rowsV L) last ks r.toR i = nd := ⟨_, rfl⟩
      have hbi := HB.out i r hr
      rw [hnd] at hbi
      have SWN := HSEEN.out.kept (Kept.of_below (F := []) HS.out.below (Nat.le_refl _)) (by simp)
      obtain ⟨gs, sc', es, _, hgs, kb⟩ := BoolsAt.at SWN i nd hbi
      rw [HBL.out] at es
      simp only [Value.slice.injEq] at es
      obtain ⟨rfl, -, rfl⟩ := es
      have hidr := Lib.hid (HID.out r (List.mem_of_getElem? hr))
      obtain ⟨el, hel⟩ : ∃ el, (acc.map RowL.id).contains r.id = el := ⟨_, rfl⟩
      have NX := Lib.hid (sweepI_next hr HS.out.told hnd.symm (show el = acc.any fun s => s.id == r.id from by rw [← hel, ids_any]))
      have HR := Lib.hid hr
      have HEL := Lib.hid hel
      obtain ⟨w3, hw3⟩ : ∃ w3, wr.alloc (.cells #[.int .u64 (r.v : Int), .bool r.gone, .int .u32 (r.id : Int), .slice r.pv.1 r.pv.2.1 r.pv.2.2, .slice r.pt.1 r.pt.2.1 r.pt.2.2] 157) = w3 := ⟨_, rfl⟩
      have b3 : Below wr.heap.size wr w3 := by rw [← hw3]; exact (Below.refl _ _).alloc (Nat.le_refl _) _
      have b3' := b3
      have X3 := Lib.hid (show Blk w3 wr.heap.size 157 r.cells from by rw [← hw3]; exact Blk.new wr 157 r.cells.toArray)
      have S3 := Lib.hid (HS.out.on b3)
      have kb3 : w3.cell? ⟨gs, i, none⟩ = some (.bool nd) := (b3.cell (p := ⟨gs, i, none⟩) hgs).trans kb
      have hgs3 : gs < w3.heap.size := Nat.lt_of_lt_of_le hgs b3.size
      have d2 : w3.cell? ⟨wr.heap.size, 2, none⟩ = some (.int .u32 (r.id : Int)) := X3.out.cell 2
      have hx3 := X3.out.lt
      clear hnd hbi RW SWN hrg hel hr b3
      go_upto_region 6 with fail
      try rw [hw3]
      clear hw3 k0 k1 k2 k3 k4 kb
      obtain ⟨w4, hw4⟩ : ∃ w4, w3.alloc (.cells #[] 79) = w4 := ⟨_, rfl⟩
      have b4 : Below w3.heap.size w3 w4 := by rw [← hw4]; exact (Below.refl _ _).alloc (Nat.le_refl _) _
      have X4 := Lib.hid ((Kept.of_below (F := []) b4 (Nat.le_refl _)).blk X3.out (by simp))
      have S4 := Lib.hid (S3.out.on b4)
      have d1 : w4.cell? ⟨wr.heap.size, 1, none⟩ = some (.bool r.gone) := X4.out.cell 1
      have kb4 : w4.cell? ⟨gs, i, none⟩ = some (.bool nd) := (b4.cell (p := ⟨gs, i, none⟩) hgs3).trans kb3
      have hx4 := X4.out.lt
      have B34 := Lib.hid (below_on (show Below wr.heap.size wr w3 from b3') b4)
      clear b4
      cases nd
      · have NS := Lib.hid (show NeedS w w4 (.slice a5 q c5) L acc last (i + 1) ks from ⟨S4.out.row, S4.out.set, S4.out.below, (by rw [NX.out]; rfl), take_sub S4.out.sub⟩)
        go_wp2_with (at_lookup; refine set_look w3 rfl _ _ 153 rfl 79 Tryz.underlying153 (Tryz.zeroValue79 _) w.heap.size _ S3.out.set rfl r.id hidr.out rfl ?_; rw [HEL.out])
        go_roundw
        case rel => exact ⟨i + 1, acc, by go_num, by omega, NS.out⟩
        case measure => simp [intOf]; omega
      cases hgn : r.gone
      · have NT := Lib.hid (show sweepI (rowsV L) last ks (i + 1) = rowsV (acc ++ [r]) from by rw [NX.out, hgn]; rfl)
        rw [hgn] at d1
        have d0 : w4.cell? ⟨wr.heap.size, 0, none⟩ = some (.int .u64 (r.v : Int)) := X4.out.cell 0
        have d1' : w4.cell? ⟨wr.heap.size, 1, none⟩ = some (.bool r.gone) := X4.out.cell 1
        rw [hgn] at d1'
        have d2' : w4.cell? ⟨wr.heap.size, 2, none⟩ = some (.int .u32 (r.id : Int)) := X4.out.cell 2
        have d3 : w4.cell? ⟨wr.heap.size, 3, none⟩ = some (.slice r.pv.1 r.pv.2.1 r.pv.2.2) := X4.out.cell 3
        have d4 : w4.cell? ⟨wr.heap.size, 4, none⟩ = some (.slice r.pt.1 r.pt.2.1 r.pt.2.2) := X4.out.cell 4
        have hw4s : w.heap.size + 1 ≤ w4.heap.size := by have := S4.out.set.lt; omega
        have ROW := Lib.hid S4.out.row
        have BB := Lib.hid (show Below wr.heap.size wr w4 from B34.out)
        go_wp2_with (first
          | (at_lookup; refine set_look w3 rfl _ _ 153 rfl 79 Tryz.underlying153 (Tryz.zeroValue79 _) w.heap.size _ S3.out.set rfl r.id hidr.out rfl ?_; rw [HEL.out])
          | (at_builtin; go_must (refine app_c (k := 5) w4 rfl (.tmp 39) (.tmp 41) 137 rfl Tryz.underlying137 (.agg #[.int .u64 0, .bool false, .int .u32 0, .slice none 0 0, .slice none 0 0]) 72 row_info8n rfl (by decide) [.int .u64 (r.v : Int), .bool false, .int .u32 (r.id : Int), .slice r.pv.1 r.pv.2.1 r.pv.2.2, .slice r.pt.1 r.pt.2.1 r.pt.2.2] (by rfl) (by rfl) ROW.out rfl (by simp [Value.oneCell']) hw4s (by rw [HQ.out]; omega) (by rw [HQ.out]; omega) ?_)))
        intro v5 w5 hr5 hk5 _
        have X5 := hk5.blk X4.out (fun hh => by have := (HS.out.row.lt _ (mem_ownB.1 hh)).2; omega)
        have e2 : w5.cell? ⟨wr.heap.size, 2, none⟩ = some (.int .u32 (r.id : Int)) := X5.cell 2
        have S5 := Lib.hid (S4.out.set.far (hk5.block _ S4.out.set.lt (fun hh => by have := (HS.out.row.lt _ (mem_ownB.1 hh)).1; omega)))
        have hql2 : (acc.map RowL.id).length ≤ 1000000 := by rw [List.length_map]; have := HS.out.len; omega
        have H5 := Lib.hid (show RowC (w.heap.size + 1) w5 157 5 v5 (acc.map RowL.cells ++ [r.cells]) from by unfold RowL.cells; rw [hgn]; exact hr5)
        have K5 := Lib.hid hk5
        clear hr5 hk5 X5
        go_wp2_with (at_mapUpdate; refine set_put w5 rfl _ _ _ 153 rfl 79 Tryz.underlying153 w.heap.size _ S5.out hql2 rfl r.id hidr.out rfl rfl ?_)
        intro w6 hs6 hg6
        have NS := Lib.hid (HS.out.take BB.out HR.out NT.out H5.out K5.out hs6 hg6)
        clear hs6 hg6
        go_wp2
        go_roundw
        case rel => exact ⟨i + 1, acc ++ [r], by go_num, by omega, NS.out⟩
        case measure => simp [intOf]; omega
      have hgt : r.gone = true := hgn
      cases el
      · rw [hgn] at d1
        have NX2 := Lib.hid (show sweepI (rowsV L) last ks (i + 1) = rowsV acc from by rw [NX.out, hgn]; rfl)
        have NS := Lib.hid (show NeedS w w4 (.slice a5 q c5) L acc last (i + 1) ks from ⟨S4.out.row, S4.out.set, S4.out.below, NX2.out.symm, take_sub S4.out.sub⟩)
        go_wp2_with (at_lookup; refine set_look w3 rfl _ _ 153 rfl 79 Tryz.underlying153 (Tryz.zeroValue79 _) w.heap.size _ S3.out.set rfl r.id hidr.out rfl ?_; rw [HEL.out])
        go_roundw
        case rel => exact ⟨i + 1, acc, by go_num, by omega, NS.out⟩
        case measure => simp [intOf]; omega
      have NT := Lib.hid (show sweepI (rowsV L) last ks (i + 1) = rowsV (acc ++ [r]) from by rw [NX.out, hgt]; rfl)
      rw [hgt] at d1
      have d0 : w4.cell? ⟨wr.heap.size, 0, none⟩ = some (.int .u64 (r.v : Int)) := X4.out.cell 0
      have d1' : w4.cell? ⟨wr.heap.size, 1, none⟩ = some (.bool r.gone) := X4.out.cell 1
      rw [hgt] at d1'
      have d2' : w4.cell? ⟨wr.heap.size, 2, none⟩ = some (.int .u32 (r.id : Int)) := X4.out.cell 2
      have d3 : w4.cell? ⟨wr.heap.size, 3, none⟩ = some (.slice r.pv.1 r.pv.2.1 r.pv.2.2) := X4.out.cell 3
      have d4 : w4.cell? ⟨wr.heap.size, 4, none⟩ = some (.slice r.pt.1 r.pt.2.1 r.pt.2.2) := X4.out.cell 4
      have hw4s : w.heap.size + 1 ≤ w4.heap.size := by have := S4.out.set.lt; omega
      have ROW := Lib.hid S4.out.row
      have BB := Lib.hid (show Below wr.heap.size wr w4 from B34.out)
      go_wp2_with (first
        | (at_lookup; refine set_look w3 rfl _ _ 153 rfl 79 Tryz.underlying153 (Tryz.zeroValue79 _) w.heap.size _ S3.out.set rfl r.id hidr.out rfl ?_; rw [HEL.out])
        | (at_builtin; go_must (refine app_c (k := 5) w4 rfl (.tmp 39) (.tmp 41) 137 rfl Tryz.underlying137 (.agg #[.int .u64 0, .bool false, .int .u32 0, .slice none 0 0, .slice none 0 0]) 72 row_info8n rfl (by decide) [.int .u64 (r.v : Int), .bool true, .int .u32 (r.id : Int), .slice r.pv.1 r.pv.2.1 r.pv.2.2, .slice r.pt.1 r.pt.2.1 r.pt.2.2] (by rfl) (by rfl) ROW.out rfl (by simp [Value.oneCell']) hw4s (by rw [HQ.out]; omega) (by rw [HQ.out]; omega) ?_)))
      intro v5 w5 hr5 hk5 _
      have X5 := hk5.blk X4.out (fun hh => by have := (HS.out.row.lt _ (mem_ownB.1 hh)).2; omega)
      have e2 : w5.cell? ⟨wr.heap.size, 2, none⟩ = some (.int .u32 (r.id : Int)) := X5.cell 2
      have S5 := Lib.hid (S4.out.set.far (hk5.block _ S4.out.set.lt (fun hh => by have := (HS.out.row.lt _ (mem_ownB.1 hh)).1; omega)))
      have hql2 : (acc.map RowL.id).length ≤ 1000000 := by rw [List.length_map]; have := HS.out.len; omega
      have H5 := Lib.hid (show RowC (w.heap.size + 1) w5 157 5 v5 (acc.map RowL.cells ++ [r.cells]) from by unfold RowL.cells; rw [hgt]; exact hr5)
      have K5 := Lib.hid hk5
      clear hr5 hk5 X5
      go_wp2_with (at_mapUpdate; refine set_put w5 rfl _ _ _ 153 rfl 79 Tryz.underlying153 w.heap.size _ S5.out hql2 rfl r.id hidr.out rfl rfl ?_)
      intro w6 hs6 hg6
      have NS := Lib.hid (HS.out.take BB.out HR.out NT.out H5.out K5.out hs6 hg6)
      clear hs6 hg6
      go_wp2
      go_roundw
      case rel => exact ⟨i + 1, acc ++ [r], by go_num, by omega, NS.out⟩
      case measure => simp [intOf]; omega
    · have hin' : i = n := by omega
      subst hin'
      have R := Lib.hid (show ∃ (v' : Value) (acc : List RowL), Ending.returned (.slice a5 q c5) = .returned v' ∧ Below w.heap.size w wr ∧ RowC w.heap.size wr 157 5 v' (acc.map RowL.cells) ∧ rowsV acc = sweepI (rowsV L) last ks L.length ∧ acc.Sublist L from
        ⟨_, acc, rfl, HS.out.below, RowC.mono HS.out.row (by omega), by rw [HN.out]; exact HS.out.told, by
          have := HS.out.sub
          rwa [List.take_of_length_le (by rw [HN.out]; exact Nat.le_refl _)] at this⟩)
      go_wp2
      go_ret
      exact R.out
end Go.Proofs.YtdmnflncgmnghaaGreat
