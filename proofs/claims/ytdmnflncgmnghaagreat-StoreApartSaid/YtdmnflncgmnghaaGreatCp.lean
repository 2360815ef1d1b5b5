/-
  The program's past: Put, Cut, Get, by walks over their texts.
-/
import Derived.Test.YtdmnflncgmnghaaGreatCl
namespace Go.Proofs.YtdmnflncgmnghaaGreat
open Go.RowKit

theorem lay_arg {L : List RowL} {last floor : Nat} {kept : List Nat} {r : RowV} (h : r.v = 0 ∨ r.v < last) : (PastC.st L last floor kept).lay r = (PastC.st L last floor kept, 1) := by
  rw [PastV.lay, if_pos (show r.v = 0 ∨ r.v < (PastC.st L last floor kept).last from h)]
theorem lay_none {L : List RowL} {last floor : Nat} {kept : List Nat} {r : RowV} (h : ¬ (r.v = 0 ∨ r.v < last)) (hg : r.gone = true) (ht : thereP (rowsV L) r.item.id r.v = none) : (PastC.st L last floor kept).lay r = (PastC.st L last floor kept, 2) := by
  rw [PastV.lay, if_neg (show ¬ (r.v = 0 ∨ r.v < (PastC.st L last floor kept).last) from h), if_pos ⟨hg, ht⟩]
theorem lay_full {L : List RowL} {last floor : Nat} {kept : List Nat} {r : RowV} (h : ¬ (r.v = 0 ∨ r.v < last)) (ht : ¬ (r.gone = true ∧ thereP (rowsV L) r.item.id r.v = none)) (hf : 1024 ≤ L.length) : (PastC.st L last floor kept).lay r = (PastC.st L last floor kept, 4) := by
  rw [PastV.lay, if_neg (show ¬ (r.v = 0 ∨ r.v < (PastC.st L last floor kept).last) from h), if_neg (show ¬ (r.gone = true ∧ thereP (PastC.st L last floor kept).rows r.item.id r.v = none) from ht), if_pos (show 1024 ≤ (PastC.st L last floor kept).rows.length from by rw [show (PastC.st L last floor kept).rows = rowsV L from rfl, rowsV_len]; exact hf)]
theorem lay_done {L : List RowL} {last floor : Nat} {kept : List Nat} {r : RowV} {r' : RowL} (h : ¬ (r.v = 0 ∨ r.v < last)) (ht : ¬ (r.gone = true ∧ thereP (rowsV L) r.item.id r.v = none)) (hf : L.length < 1024) (he : r'.toR = r) : (PastC.st L last floor kept).lay r = (PastC.st (L ++ [r']) r.v floor kept, 0) := by
  rw [PastV.lay, if_neg (show ¬ (r.v = 0 ∨ r.v < (PastC.st L last floor kept).last) from h), if_neg (show ¬ (r.gone = true ∧ thereP (PastC.st L last floor kept).rows r.item.id r.v = none) from ht), if_neg (show ¬ 1024 ≤ (PastC.st L last floor kept).rows.length from by rw [show (PastC.st L last floor kept).rows = rowsV L from rfl, rowsV_len]; omega)]
  simp [PastC.st, rowsV, he]
/-- The lay of a past's state behind steps that kept it. -/
theorem LayPostC.after {lo g : Nat} {It : List Nat} {u k : Value} {L : List RowL} {last floor : Nat} {kept : List Nat} {r : RowV} {w w1 w' : World} {e : Ending} (hb : Below w.heap.size w w1) (h : LayPostC lo g It u k L last floor kept r w1 e w') : LayPostC lo g It u k L last floor kept r w e w' := by
  obtain ⟨u', It', L', last', code, h1, h2, h3, h4, h5⟩ := h
  exact ⟨u', It', L', last', code, h1, h2, h3, (Kept.of_below hb (Nat.le_refl _)).trans h4 (Grows.refl _ _), fun x hx => by
    rcases h5 x hx with h | h
    · exact .inl h
    · exact .inr (Nat.le_trans hb.size h)⟩

set_option maxRecDepth 100000 in
set_option maxHeartbeats 3200000 in
theorem put_past (w : World) (lo g : Nat) (It : List Nat) (u k : Value) (L : List RowL) (last floor : Nat) (kept : List Nat) (v : Nat) (x : ItL) (h : PastC w lo g It u k L last floor kept) (hv : v < 18446744073709551616) (hx : x.In (fun _ => True) w) :
    Calls Tryz.prog 73 #[.pointer (some ⟨g, 0, none⟩), .int .u64 (v : Int), .agg x.cells.toArray] w fun e w' => LayPostC lo g It u k L last floor kept ⟨v, false, x.toI⟩ w e w' := by
  show Calls _ _ #[_, _, .agg #[.int .u32 (x.id : Int), .slice x.pv.1 x.pv.2.1 x.pv.2.2, .slice x.pt.1 x.pt.2.1 x.pt.2.2]] _ _
  obtain ⟨w1, hw1⟩ : ∃ w1, w.alloc (.cells #[.int .u32 (x.id : Int), .slice x.pv.1 x.pv.2.1 x.pv.2.2, .slice x.pt.1 x.pt.2.1 x.pt.2.2] 73) = w1 := ⟨_, rfl⟩
  have hb1 : Below w.heap.size w w1 := by rw [← hw1]; exact (Below.refl _ _).alloc (Nat.le_refl _) _
  have d1 : Blk w1 w.heap.size 73 x.cells := by rw [← hw1]; exact Blk.new w 73 x.cells.toArray
  have k0 : w1.cell? ⟨w.heap.size, 0, none⟩ = some (.int .u32 (x.id : Int)) := d1.cell 0
  have k1 : w1.cell? ⟨w.heap.size, 1, none⟩ = some (.slice x.pv.1 x.pv.2.1 x.pv.2.2) := d1.cell 1
  have k2 : w1.cell? ⟨w.heap.size, 2, none⟩ = some (.slice x.pt.1 x.pt.2.1 x.pt.2.2) := d1.cell 2
  have P1 := Lib.hid (h.on hb1)
  have HP := Lib.hid h
  have HB1 := Lib.hid hb1
  have RI := Lib.hid (show (⟨v, false, x.id, x.pv, x.pt, x.vec, x.tags⟩ : RowL).In (fun _ => True) w1 from
    have h1 := hx.stay (ok' := fun _ => True) hb1.size (fun k _ hk => hb1.block k hk) (fun _ h _ => h)
    ⟨hv, h1.hid, h1.hvec, h1.htags⟩)
  clear h hx hb1 d1 hv
  go_enter Tryz.func73, Tryz.ntmps73
  go_upto_region 1 with fail
  try rw [hw1]
  clear hw1
  go_wp2_with (fail)
  refine (mayLay_any w1 g u k last floor v P1.out.blk).mono ?_
  rintro e w2 ⟨rfl, hw2⟩
  have hw2' := hw2.symm
  subst hw2'
  clear hw2
  by_cases ha : v = 0 ∨ v < last
  · have R := Lib.hid (LayPostC.same (code := 1) HP.out HB1.out (lay_arg (kept := kept) (floor := floor) (L := L) (r := ⟨v, false, x.toI⟩) ha))
    rw [decide_eq_true ha]
    go_wp2
    go_ret
    exact R.out
  · have hlv := Lib.hid (show last ≤ v by omega)
    have HA := Lib.hid ha
    rw [decide_eq_false ha]
    clear ha
    go_wp2_with (fail)
    refine (lay_any w1 lo g It u k L last floor kept ⟨v, false, x.id, x.pv, x.pt, x.vec, x.tags⟩ P1.out RI.out hlv.out).mono ?_
    rintro e w2 (⟨hf, rfl, hb2⟩ | ⟨hf, rfl, u', It', r', hp', hr', hk', hg'⟩)
    · have R := Lib.hid (LayPostC.same (code := 4) HP.out (HB1.out.trans (hb2.mono HB1.out.size)) (lay_full (kept := kept) (floor := floor) (L := L) (r := ⟨v, false, x.toI⟩) HA.out (by simp) hf))
      clear hb2
      go_wp2
      go_ret
      exact R.out
    · have R := Lib.hid (LayPostC.after HB1.out (show LayPostC lo g It u k L last floor kept ⟨v, false, x.toI⟩ w1 (.returned (.int .i64 0)) w2 from ⟨u', It', L ++ [r'], v, 0, rfl, hp', lay_done (r := ⟨v, false, x.toI⟩) HA.out (by simp) hf (by rw [hr']; rfl), hk', hg'⟩))
      clear hp' hk' hg'
      go_wp2
      go_ret
      exact R.out

theorem rd_nil_row (ok : Nat → Prop) (w : World) (v id : Nat) (hv : v < 18446744073709551616) (hid : id < 4294967296) : (⟨v, true, id, (none, 0, 0), (none, 0, 0), [], []⟩ : RowL).In ok w :=
  ⟨hv, hid, Rd.slice_mk ⟨none, 0, 0, rfl, rfl, by decide, by decide, by decide, fun _ => ⟨rfl, rfl⟩, .inl rfl⟩, Rd.slice_mk ⟨none, 0, 0, rfl, rfl, by decide, by decide, by decide, fun _ => ⟨rfl, rfl⟩, .inl rfl⟩⟩
set_option maxRecDepth 100000 in
set_option maxHeartbeats 3200000 in
theorem cut_past (w : World) (lo g : Nat) (It : List Nat) (u k : Value) (L : List RowL) (last floor : Nat) (kept : List Nat) (v id : Nat) (h : PastC w lo g It u k L last floor kept) (hv : v < 18446744073709551616) (hid : id < 4294967296) :
    Calls Tryz.prog 72 #[.pointer (some ⟨g, 0, none⟩), .int .u64 (v : Int), .int .u32 (id : Int)] w fun e w' => LayPostC lo g It u k L last floor kept ⟨v, true, ⟨id, [], []⟩⟩ w e w' := by
  have HP := Lib.hid h
  have HV := Lib.hid hv
  have HID := Lib.hid hid
  clear h hv hid
  go_enter Tryz.func72, Tryz.ntmps72
  go_wp2_with (fail)
  refine (mayLay_any w g u k last floor v HP.out.blk).mono ?_
  rintro e w2 ⟨rfl, hw2⟩
  have hw2' := hw2.symm
  subst hw2'
  clear hw2
  by_cases ha : v = 0 ∨ v < last
  · have R := Lib.hid (LayPostC.same (code := 1) HP.out (Below.refl _ _) (lay_arg (kept := kept) (floor := floor) (L := L) (r := ⟨v, true, ⟨id, [], []⟩⟩) ha))
    rw [decide_eq_true ha]
    go_wp2
    go_ret
    exact R.out
  · have hlv := Lib.hid (show last ≤ v by omega)
    have HA := Lib.hid ha
    rw [decide_eq_false ha]
    clear ha
    go_wp2_with (fail)
    refine (there_any w lo g It u k L last floor kept id v HV.out HP.out).mono ?_
    rintro e w2 ⟨rfl, hb2⟩
    have HB2 := Lib.hid hb2
    have T := Lib.hid (there_last L id v)
    cases ht : lastL L id v with
    | none =>
      rw [ht] at T
      have R := Lib.hid (LayPostC.same (code := 2) HP.out (HB2.out.alloc HB2.out.size (.cells #[.int .u32 0, .slice none 0 0, .slice none 0 0] 73)) (lay_none (kept := kept) (floor := floor) (L := L) (r := ⟨v, true, ⟨id, [], []⟩⟩) HA.out rfl (by rw [show thereP (rowsV L) id v = _ from T.out]; rfl)))
      clear hb2
      unfold thereV
      go_wp2
      go_ret
      exact R.out
    | some r =>
      rw [ht] at T
      unfold thereV
      cases hg : r.gone
      rotate_left
      · have R := Lib.hid (LayPostC.same (code := 2) HP.out (HB2.out.alloc HB2.out.size (.cells #[.int .u32 (r.id : Int), .slice r.pv.1 r.pv.2.1 r.pv.2.2, .slice r.pt.1 r.pt.2.1 r.pt.2.2] 73)) (lay_none (kept := kept) (floor := floor) (L := L) (r := ⟨v, true, ⟨id, [], []⟩⟩) HA.out rfl (by rw [show thereP (rowsV L) id v = _ from T.out]; simp [RowL.toR, hg])))
        clear hb2
        go_wp2
        go_ret
        exact R.out
      have NT := Lib.hid (show ¬ ((⟨v, true, ⟨id, [], []⟩⟩ : RowV).gone = true ∧ thereP (rowsV L) (⟨v, true, ⟨id, [], []⟩⟩ : RowV).item.id (⟨v, true, ⟨id, [], []⟩⟩ : RowV).v = none) from by
        rw [show thereP (rowsV L) (⟨v, true, ⟨id, [], []⟩⟩ : RowV).item.id (⟨v, true, ⟨id, [], []⟩⟩ : RowV).v = _ from T.out]
        simp [RowL.toR, hg])
      obtain ⟨w3, hw3⟩ : ∃ w3, w2.alloc (.cells #[.int .u32 (r.id : Int), .slice r.pv.1 r.pv.2.1 r.pv.2.2, .slice r.pt.1 r.pt.2.1 r.pt.2.2] 73) = w3 := ⟨_, rfl⟩
      have HB3 := Lib.hid (show Below w.heap.size w w3 from by rw [← hw3]; exact hb2.alloc hb2.size _)
      clear hb2 HB2
      go_upto_region 4 with fail
      try rw [hw3]
      clear hw3
      go_wp2_with (fail)
      refine (lay_any w3 lo g It u k L last floor kept ⟨v, true, id, (none, 0, 0), (none, 0, 0), [], []⟩ (HP.out.on HB3.out) (rd_nil_row _ _ v id HV.out HID.out) hlv.out).mono ?_
      rintro e w4 (⟨hf, rfl, hb4⟩ | ⟨hf, rfl, u', It', r', hp', hr', hk', hg'⟩)
      · have R := Lib.hid (LayPostC.same (code := 4) HP.out (HB3.out.trans (hb4.mono HB3.out.size)) (lay_full (kept := kept) (floor := floor) (L := L) (r := ⟨v, true, ⟨id, [], []⟩⟩) HA.out (fun h => NT.out (And.intro (by first | trivial | exact h.1) h.2)) hf))
        clear hb4
        go_wp2
        go_ret
        exact R.out
      · have R := Lib.hid (LayPostC.after HB3.out (show LayPostC lo g It u k L last floor kept ⟨v, true, ⟨id, [], []⟩⟩ w3 (.returned (.int .i64 0)) w4 from ⟨u', It', L ++ [r'], v, 0, rfl, hp', lay_done (r := ⟨v, true, ⟨id, [], []⟩⟩) HA.out (fun h => NT.out (And.intro (by first | trivial | exact h.1) h.2)) hf (by rw [hr']; rfl), hk', hg'⟩))
        clear hp' hk' hg'
        go_wp2
        go_ret
        exact R.out

/-- What Get tells: an item of the call's own. -/
def ItemPostC (r : ItemV × Nat) (w : World) (e : Ending) (w' : World) : Prop := Below w.heap.size w w' ∧ ∃ y : ItL, e = .returned (.tuple #[.agg #[.int .u32 (y.id : Int), .slice y.pv.1 y.pv.2.1 y.pv.2.2, .slice y.pt.1 y.pt.2.1 y.pt.2.2], .int .i64 (r.2 : Int)]) ∧ y.OwnI w.heap.size w' ∧ y.toI = r.1
def ItL.zero : ItL := ⟨0, (none, 0, 0), (none, 0, 0), [], []⟩
theorem ItL.zero_own (lo : Nat) (w : World) : ItL.zero.OwnI lo w := ⟨by decide, ⟨by simp, .inl ⟨rfl, rfl⟩⟩, ⟨by simp, .inl ⟨rfl, rfl⟩⟩, by simp [ItL.zero], by simp [ItL.zero], by decide, by decide⟩
set_option maxRecDepth 100000 in
set_option maxHeartbeats 3200000 in
theorem get_past (w : World) (lo g : Nat) (It : List Nat) (u k : Value) (L : List RowL) (last floor : Nat) (kept : List Nat) (id v : Nat) (h : PastC w lo g It u k L last floor kept) (hv : v < 18446744073709551616) :
    Calls Tryz.prog 62 #[.pointer (some ⟨g, 0, none⟩), .int .u32 (id : Int), .int .u64 (v : Int)] w fun e w' => ItemPostC ((PastC.st L last floor kept).get id v) w e w' := by
  obtain ⟨w1, hw1⟩ : ∃ w1, w.alloc (.cells #[.int .u32 0, .slice none 0 0, .slice none 0 0] 73) = w1 := ⟨_, rfl⟩
  have hb1 : Below w.heap.size w w1 := by rw [← hw1]; exact (Below.refl _ _).alloc (Nat.le_refl _) _
  have X1 := Lib.hid (show Blk w1 w.heap.size 73 [.int .u32 0, .slice none 0 0, .slice none 0 0] from by rw [← hw1]; exact Blk.new w 73 #[.int .u32 0, .slice none 0 0, .slice none 0 0])
  have hs1 : w.heap.size < w1.heap.size := X1.out.lt
  have P1 := Lib.hid (h.on hb1)
  have HP := Lib.hid h
  have HB1 := Lib.hid hb1
  have HV := Lib.hid hv
  have q0 : w1.cell? ⟨w.heap.size, 0, none⟩ = some (.int .u32 0) := X1.out.cell 0
  have q1 : w1.cell? ⟨w.heap.size, 1, none⟩ = some (.slice none 0 0) := X1.out.cell 1
  have q2 : w1.cell? ⟨w.heap.size, 2, none⟩ = some (.slice none 0 0) := X1.out.cell 2
  have f0 := X1.out.frozen 0
  have f1 := X1.out.frozen 1
  have f2 := X1.out.frozen 2
  clear h hb1 hv
  go_enter Tryz.func62, Tryz.ntmps62
  go_upto_region 1 with fail
  try rw [hw1]
  clear hw1
  go_wp2_with (fail)
  refine (known_any w1 lo g It u k L last floor kept v HV.out P1.out).mono ?_
  rintro e w2 ⟨rfl, hw2⟩
  have hw2' := hw2.symm
  subst hw2'
  clear hw2
  obtain ⟨z, hz0⟩ : ∃ z, (PastC.st L last floor kept).known v = z := ⟨_, rfl⟩
  have HZ := Lib.hid hz0
  rw [hz0]
  clear hz0
  cases z
  · have G := Lib.hid (show (PastC.st L last floor kept).get id v = (⟨0, [], []⟩, 80) from by rw [PastV.get, HZ.out]; rfl)
    have E := Lib.hid (three_set (.int .u32 0) (.slice none 0 0) (.slice none 0 0) X1.out HB1.out (Nat.le_refl _))
    go_wp2
    refine bodyPost_ret (results_row_tmp8 (p := 6) (q := 7) (ty := 73) rfl _ _ w.heap.size 73 #[.int .u32 0, .slice none 0 0, .slice none 0 0] (0, 0) _ rfl E.out.1 Tryz.underlying73 rfl item_info8 (.int .i64 80) rfl) rfl ?_
    exact ⟨E.out.2, ItL.zero, by rw [G.out]; rfl, ItL.zero_own _ _, by rw [G.out]; rfl⟩
  · go_wp2_with (fail)
    refine (there_any w1 lo g It u k L last floor kept id v HV.out P1.out).mono ?_
    rintro e w2 ⟨rfl, hb2⟩
    have hb2w := HB1.out.trans (hb2.mono HB1.out.size)
    have X2 := (Kept.of_below (F := []) hb2 (Nat.le_refl _)).blk X1.out (by simp)
    have T := Lib.hid (there_last L id v)
    cases ht : lastL L id v with
    | none =>
      rw [ht] at T
      have G := Lib.hid (show (PastC.st L last floor kept).get id v = (⟨0, [], []⟩, 2) from by
        rw [PastV.get, HZ.out]
        simp only [if_true]
        rw [show thereP (PastC.st L last floor kept).rows id v = _ from T.out]
        rfl)
      have X3 := X2.alloc (.cells #[.int .u32 0, .slice none 0 0, .slice none 0 0] 73)
      have r0 : (w2.alloc (.cells #[.int .u32 0, .slice none 0 0, .slice none 0 0] 73)).cell? ⟨w.heap.size, 0, none⟩ = some (.int .u32 0) := X3.cell 0
      have r1 : (w2.alloc (.cells #[.int .u32 0, .slice none 0 0, .slice none 0 0] 73)).cell? ⟨w.heap.size, 1, none⟩ = some (.slice none 0 0) := X3.cell 1
      have r2 : (w2.alloc (.cells #[.int .u32 0, .slice none 0 0, .slice none 0 0] 73)).cell? ⟨w.heap.size, 2, none⟩ = some (.slice none 0 0) := X3.cell 2
      have g0 := X3.frozen 0
      have g1 := X3.frozen 1
      have g2 := X3.frozen 2
      have E := Lib.hid (three_set (.int .u32 0) (.slice none 0 0) (.slice none 0 0) X3 (hb2w.alloc hb2w.size _) (Nat.le_refl _))
      clear hb2 hb2w X2 X3
      unfold thereV
      go_wp2
      refine bodyPost_ret (results_row_tmp8 (p := 6) (q := 7) (ty := 73) rfl _ _ w.heap.size 73 #[.int .u32 0, .slice none 0 0, .slice none 0 0] (0, 0) _ rfl E.out.1 Tryz.underlying73 rfl item_info8 (.int .i64 2) rfl) rfl ?_
      exact ⟨E.out.2, ItL.zero, by rw [G.out]; rfl, ItL.zero_own _ _, by rw [G.out]; rfl⟩
    | some r =>
      rw [ht] at T
      unfold thereV
      obtain ⟨w3, hw3⟩ : ∃ w3, w2.alloc (.cells #[.int .u32 (r.id : Int), .slice r.pv.1 r.pv.2.1 r.pv.2.2, .slice r.pt.1 r.pt.2.1 r.pt.2.2] 73) = w3 := ⟨_, rfl⟩
      have X3 : Blk w3 w.heap.size 73 [.int .u32 0, .slice none 0 0, .slice none 0 0] := by rw [← hw3]; exact X2.alloc _
      have Y3 : Blk w3 w2.heap.size 73 [.int .u32 (r.id : Int), .slice r.pv.1 r.pv.2.1 r.pv.2.2, .slice r.pt.1 r.pt.2.1 r.pt.2.2] := by rw [← hw3]; exact Blk.new w2 _ _
      have hb3 : Below w.heap.size w w3 := by rw [← hw3]; exact hb2w.alloc hb2w.size _
      have r0 : w3.cell? ⟨w.heap.size, 0, none⟩ = some (.int .u32 0) := X3.cell 0
      have r1 : w3.cell? ⟨w.heap.size, 1, none⟩ = some (.slice none 0 0) := X3.cell 1
      have r2 : w3.cell? ⟨w.heap.size, 2, none⟩ = some (.slice none 0 0) := X3.cell 2
      have g0 := X3.frozen 0
      have g1 := X3.frozen 1
      have g2 := X3.frozen 2
      have s0 : w3.cell? ⟨w2.heap.size, 0, none⟩ = some (.int .u32 (r.id : Int)) := Y3.cell 0
      have s1 : w3.cell? ⟨w2.heap.size, 1, none⟩ = some (.slice r.pv.1 r.pv.2.1 r.pv.2.2) := Y3.cell 1
      have s2 : w3.cell? ⟨w2.heap.size, 2, none⟩ = some (.slice r.pt.1 r.pt.2.1 r.pt.2.2) := Y3.cell 2
      have HX3 := Lib.hid X3
      have HB3 := Lib.hid hb3
      have RI := Lib.hid (show r.it.In (fun _ => True) w3 from
        ((HP.out.each r (lastL_mem ht).1).it.stay hb3.size (fun k hk hlt => hb3.block k hlt) (fun _ _ _ => trivial)))
      clear hb2 hb2w X2 X3 Y3 hb3 ht
      go_upto_region 4 with fail
      try rw [hw3]
      clear hw3
      cases hg : r.gone
      rotate_left
      · have G := Lib.hid (show (PastC.st L last floor kept).get id v = (⟨0, [], []⟩, 2) from by
          rw [PastV.get, HZ.out]
          simp only [if_true]
          rw [show thereP (PastC.st L last floor kept).rows id v = _ from T.out]
          simp [RowL.toR, hg, Option.filter])
        have E := Lib.hid (three_set (.int .u32 0) (.slice none 0 0) (.slice none 0 0) HX3.out HB3.out (Nat.le_refl _))
        go_wp2
        refine bodyPost_ret (results_row_tmp8 (p := 6) (q := 7) (ty := 73) rfl _ _ w.heap.size 73 #[.int .u32 0, .slice none 0 0, .slice none 0 0] (0, 0) _ rfl E.out.1 Tryz.underlying73 rfl item_info8 (.int .i64 2) rfl) rfl ?_
        exact ⟨E.out.2, ItL.zero, by rw [G.out]; rfl, ItL.zero_own _ _, by rw [G.out]; rfl⟩
      · have G := Lib.hid (show (PastC.st L last floor kept).get id v = (r.item, 0) from by
          rw [PastV.get, HZ.out]
          simp only [if_true]
          rw [show thereP (PastC.st L last floor kept).rows id v = _ from T.out]
          simp [RowL.toR, hg, Option.filter])
        go_wp2_with (fail)
        refine (cloneI_any w3 r.it RI.out).mono ?_
        rintro e w4 ⟨y, he, hb4, hy, hyi, -, -⟩
        obtain rfl : e = .returned (.agg #[.int .u32 (y.id : Int), .slice y.pv.1 y.pv.2.1 y.pv.2.2, .slice y.pt.1 y.pt.2.1 y.pt.2.2]) := he
        have X4 := (Kept.of_below (F := []) hb4 (Nat.le_refl _)).blk HX3.out (by simp)
        have t0 : w4.cell? ⟨w.heap.size, 0, none⟩ = some (.int .u32 0) := X4.cell 0
        have t1 : w4.cell? ⟨w.heap.size, 1, none⟩ = some (.slice none 0 0) := X4.cell 1
        have t2 : w4.cell? ⟨w.heap.size, 2, none⟩ = some (.slice none 0 0) := X4.cell 2
        have u0 := X4.frozen 0
        have u1 := X4.frozen 1
        have u2 := X4.frozen 2
        have E := Lib.hid (three_set (.int .u32 (y.id : Int)) (.slice y.pv.1 y.pv.2.1 y.pv.2.2) (.slice y.pt.1 y.pt.2.1 y.pt.2.2) X4 (HB3.out.trans (hb4.mono HB3.out.size)) (Nat.le_refl _))
        have k9 : Kept [w.heap.size] w4 (((w4.setCell ⟨w.heap.size, 0, none⟩ (.int .u32 (y.id : Int))).setCell ⟨w.heap.size, 1, none⟩ (.slice y.pv.1 y.pv.2.1 y.pv.2.2)).setCell ⟨w.heap.size, 2, none⟩ (.slice y.pt.1 y.pt.2.1 y.pt.2.2)) := (((Kept.refl [w.heap.size] w4).setCell _ _ (.inl (by simp))).setCell _ _ (.inl (by simp))).setCell _ _ (.inl (by simp))
        have hw3s : w.heap.size < w3.heap.size := HX3.out.lt
        have Y9 := Lib.hid (hy.kept k9 (fun x hx hh => by
          have h2 := (hy.lo x hx).1
          simp at hh
          omega))
        have YI := Lib.hid hyi
        clear hb4 hy hyi X4 k9
        go_wp2
        refine bodyPost_ret (results_row_tmp8 (p := 6) (q := 7) (ty := 73) rfl _ _ w.heap.size 73 #[.int .u32 (y.id : Int), .slice y.pv.1 y.pv.2.1 y.pv.2.2, .slice y.pt.1 y.pt.2.1 y.pt.2.2] (0, 0) _ rfl E.out.1 Tryz.underlying73 rfl item_info8 (.int .i64 0) rfl) rfl ?_
        refine ⟨E.out.2, y, by rw [G.out]; rfl, ?_, by rw [G.out, YI.out]; rfl⟩
        exact ⟨Y9.out.hid, own_on Y9.out.vec (by omega) (Below.refl _ _), own_on Y9.out.tags (by omega) (Below.refl _ _), Y9.out.wv, Y9.out.wt, Y9.out.lv, Y9.out.lt⟩
end Go.Proofs.YtdmnflncgmnghaaGreat
