/-
  The document's Only, by a walk over its text.
-/
import Derived.Test.YtemnmjfeljipjaaGreatMr
namespace Go.Proofs.YtemnmjfeljipjaaGreat
open Go.RowKit Go.ChangeShapes Go.WideShapes Go.ChangeAt

set_option maxRecDepth 100000 in
set_option maxHeartbeats 12800000 in
theorem only_any {ok : Nat → Prop} (m : MsgL) (w : World) (h : m.In ok w) :
    Calls Tryz.prog 24 #[.agg m.cells.toArray] w fun e w' => Below w.heap.size w w' ∧ ∃ y : MsgL, e = .returned (.agg y.cells.toArray) ∧ y.In ok w' ∧ y.toM = setF ((formM m.kind).getD []) (zeroM m.kind) m.toM := by
  have HM := Lib.hid h
  clear h
  obtain ⟨M, hM⟩ : ∃ M, m.cells.toArray = M := ⟨_, rfl⟩
  obtain ⟨Z, hZ⟩ : ∃ Z, (zeroL 0).cells.toArray = Z := ⟨_, rfl⟩
  obtain ⟨Y, hY⟩ : ∃ Y, (zeroL m.kind).cells.toArray = Y := ⟨_, rfl⟩
  have hz := msg_zero
  rw [hZ] at hz
  have hb1 : (Z = #[]) = False := by
    rw [← hZ]
    simp [MsgL.cells]
  have hb2 : Z.setIfInBounds 0 (.int .u8 (m.kind : Int)) = Y := by
    rw [← hZ, ← hY]
    rfl
  have hb3 : Y.size = 28 := by
    rw [← hY]
    rfl
  rw [hM]
  obtain ⟨w1, hw1⟩ : ∃ w1, w.alloc (.cells M 37) = w1 := ⟨_, rfl⟩
  have X1 := Lib.hid (show Blk w1 w.heap.size 37 m.cells from by rw [← hw1, ← hM]; exact Blk.new w 37 m.cells.toArray)
  have B1 := Lib.hid (show Below w.heap.size w w1 from by rw [← hw1]; exact (Below.refl _ _).alloc (Nat.le_refl _) _)
  obtain ⟨w2, hw2⟩ : ∃ w2, w1.alloc (.cells Z 37) = w2 := ⟨_, rfl⟩
  have hs2 : w2.heap.size = w1.heap.size + 1 := by rw [← hw2]; simp
  have X2 := Lib.hid (show Blk w2 w.heap.size 37 m.cells from by rw [← hw2]; exact X1.out.alloc _)
  have R2 := Lib.hid (show Blk w2 w1.heap.size 37 (zeroL 0).cells from by rw [← hw2, ← hZ]; exact Blk.new w1 37 (zeroL 0).cells.toArray)
  have hst : (storeCells ⟨w1.heap.size + 1, 0, none⟩ Y.toList 0).run Tryz.prog (w2.alloc (.cells Z 37)) = .ok () (w2.alloc (.cells Y 37)) := by
    rw [← hs2, ← hY]
    exact msg_store_new w2 Z (zeroL m.kind) (by rw [← hZ]; rfl)
  obtain ⟨w3, hw3⟩ : ∃ w3, w2.alloc (.cells Y 37) = w3 := ⟨_, rfl⟩
  have hs3 : w3.heap.size = w1.heap.size + 2 := by rw [← hw3]; simp; omega
  have B3 := Lib.hid (show Below w.heap.size w w3 from by rw [← hw3, ← hw2]; exact (B1.out.alloc B1.out.size _).alloc (by have := B1.out.size; simp; omega) _)
  have X3 := Lib.hid (show Blk w3 w.heap.size 37 m.cells from by rw [← hw3]; exact X2.out.alloc _)
  have R3 := Lib.hid (show Blk w3 w1.heap.size 37 (zeroL 0).cells from by rw [← hw3]; exact R2.out.alloc _)
  have Y3 := Lib.hid (show Blk w3 (w1.heap.size + 1) 37 (zeroL m.kind).cells from by rw [← hw3, ← hY, ← hs2]; exact Blk.new w2 37 (zeroL m.kind).cells.toArray)
  have hc0 : w2.cell? ⟨w.heap.size, 0, none⟩ = some (.int .u8 (m.kind : Int)) := X2.out.cell 0
  have hl2 : w.heap.size < w2.heap.size := X2.out.lt
  have hl : w.heap.size < w1.heap.size := X1.out.lt
  have hc3 : w3.cell? ⟨w.heap.size, 0, none⟩ = some (.int .u8 (m.kind : Int)) := X3.out.cell 0
  have hl3 : w.heap.size < w3.heap.size := X3.out.lt
  have HMM := Lib.hid hM
  have HZ := Lib.hid hZ
  have HY := Lib.hid hY
  clear hM hZ hY
  go_enter Tryz.func24, Tryz.ntmps24
  go_upto_region 2 with fail
  try rw [hw1]
  try rw [hw2]
  try rw [hw3]
  clear hw1 hw2 hw3 hst hc0 hb1 hb2 hb3 hz X1 B1 X2 R2
  go_wp2_with (fail)
  refine (form_any m.kind w3).mono ?_
  rintro e w4 hpost
  obtain ⟨hb4, fs, z, a, c, hfs, rfl, hr, hfl, hrb, _, _⟩ := hpost.all
  · have HFS := Lib.hid hfs
    have HR := Lib.hid hr
    have HRB := Lib.hid hrb
    have B4 := Lib.hid (below_on B3.out hb4)
    have k4 := Kept.of_below (F := []) hb4 (Nat.le_refl _)
    have X4 := Lib.hid (k4.blk X3.out (by simp))
    have R4 := Lib.hid (k4.blk R3.out (by simp))
    have Y4 := Lib.hid (k4.blk Y3.out (by simp))
    clear hfs hr hrb hb4 k4 hpost B3 X3 R3 Y3 hc3
    go_wp2_with (fail)
    go_loopw [6] (fun s6 wr => ∃ i : Nat, s6 = .int .i64 i ∧ i ≤ fs.length ∧ Hid (Below w.heap.size w wr) ∧ Hid (Kept [w1.heap.size + 1] w4 wr) ∧ Hid (Blk wr (w1.heap.size + 1) 37 (onlyL (fs.take i) (zeroL m.kind) m).cells)) (fun s6 _ => fs.length - (intOf s6).toNat)
    case atStart => exact ⟨0, rfl, by omega, B4.out, Kept.refl _ _, Y4.out⟩
    case round =>
      clear B4 Y4
      obtain ⟨i, rfl, hi, HB, HK, HYB⟩ := hrel
      by_cases hin : i < fs.length
      · rcases HR.out.cells with h0 | ⟨b, off, rfl, hlt, hcl⟩
        · omega
        obtain ⟨f, hf⟩ : ∃ f, fs[i]? = some f := ⟨_, List.getElem?_eq_getElem hin⟩
        obtain ⟨y, hy⟩ : ∃ y, onlyL (fs.take i) (zeroL m.kind) m = y := ⟨_, rfl⟩
        have hcell := (HK.out.cell (p := ⟨b, off + i, none⟩) hlt (by
          have := HRB.out b off rfl
          simp
          omega)).trans (hcl i hin)
        obtain ⟨S, hS0⟩ : ∃ S, strAt (fs.map Fld.s) i = S := ⟨_, rfl⟩
        rw [hS0] at hcell
        have hlr : b < wr.heap.size := Nat.lt_of_lt_of_le hlt HK.out.size
        have HT := Lib.hid (show onlyL (fs.take (i + 1)) (zeroL m.kind) m = f.setL y m from by rw [List.take_add_one, hf, Option.toList_some, onlyL_snoc, hy])
        have hS : f.s = S := by rw [← hS0]; simp [strAt, List.getD, hf]
        have XR := Lib.hid (HK.out.blk X4.out (by simp; omega))
        have HK0 := Lib.hid (show w.heap.size ≤ w1.heap.size + 1 by omega)
        rw [hy] at HYB
        clear hS0 hf hy hcl
        cases f
        case req =>
          have qreq : (S.toList == [114, 101, 113]) = true := by rw [← hS]; exact fld_q .req .req
          clear hS
          have x1 : wr.cell? ⟨w.heap.size, 1, none⟩ = some (.int .u32 (m.req : Int)) := XR.out.cell 1
          have y1 : wr.cell? ⟨w1.heap.size + 1, 1, none⟩ = some (.int .u32 (y.req : Int)) := HYB.out.cell 1
          have f1 := HYB.out.frozen 1
          have lx := XR.out.lt
          have ly := HYB.out.lt
          go_wp2
          go_roundw
          case rel => exact ⟨i + 1, by go_num, by omega, below_kept2 HB.out (Nat.le_refl _) HK0.out (((Kept.refl [w1.heap.size + 1] wr).setCell _ _ (.inl (by simp)))), (HK.out.setCell _ _ (.inl (by simp))), by rw [HT.out]; exact (HYB.out.set 1 (.int .u32 (m.req : Int)))⟩
          case measure => simp [intOf]; omega
        case caps =>
          have qreq : (S.toList == [114, 101, 113]) = false := by rw [← hS]; exact fld_q .caps .req
          have qcaps : (S.toList == [99, 97, 112, 115]) = true := by rw [← hS]; exact fld_q .caps .caps
          clear hS
          have x2 : wr.cell? ⟨w.heap.size, 2, none⟩ = some (.int .u32 (m.caps : Int)) := XR.out.cell 2
          have y2 : wr.cell? ⟨w1.heap.size + 1, 2, none⟩ = some (.int .u32 (y.caps : Int)) := HYB.out.cell 2
          have f2 := HYB.out.frozen 2
          have lx := XR.out.lt
          have ly := HYB.out.lt
          go_wp2
          go_roundw
          case rel => exact ⟨i + 1, by go_num, by omega, below_kept2 HB.out (Nat.le_refl _) HK0.out (((Kept.refl [w1.heap.size + 1] wr).setCell _ _ (.inl (by simp)))), (HK.out.setCell _ _ (.inl (by simp))), by rw [HT.out]; exact (HYB.out.set 2 (.int .u32 (m.caps : Int)))⟩
          case measure => simp [intOf]; omega
        case token =>
          have qreq : (S.toList == [114, 101, 113]) = false := by rw [← hS]; exact fld_q .token .req
          have qcaps : (S.toList == [99, 97, 112, 115]) = false := by rw [← hS]; exact fld_q .token .caps
          have qtoken : (S.toList == [116, 111, 107, 101, 110]) = true := by rw [← hS]; exact fld_q .token .token
          clear hS
          have x3 : wr.cell? ⟨w.heap.size, 3, none⟩ = some (.int .u64 (m.token : Int)) := XR.out.cell 3
          have y3 : wr.cell? ⟨w1.heap.size + 1, 3, none⟩ = some (.int .u64 (y.token : Int)) := HYB.out.cell 3
          have f3 := HYB.out.frozen 3
          have lx := XR.out.lt
          have ly := HYB.out.lt
          go_wp2
          go_roundw
          case rel => exact ⟨i + 1, by go_num, by omega, below_kept2 HB.out (Nat.le_refl _) HK0.out (((Kept.refl [w1.heap.size + 1] wr).setCell _ _ (.inl (by simp)))), (HK.out.setCell _ _ (.inl (by simp))), by rw [HT.out]; exact (HYB.out.set 3 (.int .u64 (m.token : Int)))⟩
          case measure => simp [intOf]; omega
        case code =>
          have qreq : (S.toList == [114, 101, 113]) = false := by rw [← hS]; exact fld_q .code .req
          have qcaps : (S.toList == [99, 97, 112, 115]) = false := by rw [← hS]; exact fld_q .code .caps
          have qtoken : (S.toList == [116, 111, 107, 101, 110]) = false := by rw [← hS]; exact fld_q .code .token
          have qcode : (S.toList == [99, 111, 100, 101]) = true := by rw [← hS]; exact fld_q .code .code
          clear hS
          have x4 : wr.cell? ⟨w.heap.size, 4, none⟩ = some (.int .u8 (m.code : Int)) := XR.out.cell 4
          have y4 : wr.cell? ⟨w1.heap.size + 1, 4, none⟩ = some (.int .u8 (y.code : Int)) := HYB.out.cell 4
          have f4 := HYB.out.frozen 4
          have lx := XR.out.lt
          have ly := HYB.out.lt
          go_wp2
          go_roundw
          case rel => exact ⟨i + 1, by go_num, by omega, below_kept2 HB.out (Nat.le_refl _) HK0.out (((Kept.refl [w1.heap.size + 1] wr).setCell _ _ (.inl (by simp)))), (HK.out.setCell _ _ (.inl (by simp))), by rw [HT.out]; exact (HYB.out.set 4 (.int .u8 (m.code : Int)))⟩
          case measure => simp [intOf]; omega
        case n =>
          have qreq : (S.toList == [114, 101, 113]) = false := by rw [← hS]; exact fld_q .n .req
          have qcaps : (S.toList == [99, 97, 112, 115]) = false := by rw [← hS]; exact fld_q .n .caps
          have qtoken : (S.toList == [116, 111, 107, 101, 110]) = false := by rw [← hS]; exact fld_q .n .token
          have qcode : (S.toList == [99, 111, 100, 101]) = false := by rw [← hS]; exact fld_q .n .code
          have qn : (S.toList == [110]) = true := by rw [← hS]; exact fld_q .n .n
          clear hS
          have x5 : wr.cell? ⟨w.heap.size, 5, none⟩ = some (.int .u32 (m.n : Int)) := XR.out.cell 5
          have y5 : wr.cell? ⟨w1.heap.size + 1, 5, none⟩ = some (.int .u32 (y.n : Int)) := HYB.out.cell 5
          have f5 := HYB.out.frozen 5
          have lx := XR.out.lt
          have ly := HYB.out.lt
          go_wp2
          go_roundw
          case rel => exact ⟨i + 1, by go_num, by omega, below_kept2 HB.out (Nat.le_refl _) HK0.out (((Kept.refl [w1.heap.size + 1] wr).setCell _ _ (.inl (by simp)))), (HK.out.setCell _ _ (.inl (by simp))), by rw [HT.out]; exact (HYB.out.set 5 (.int .u32 (m.n : Int)))⟩
          case measure => simp [intOf]; omega
        case name =>
          have qreq : (S.toList == [114, 101, 113]) = false := by rw [← hS]; exact fld_q .name .req
          have qcaps : (S.toList == [99, 97, 112, 115]) = false := by rw [← hS]; exact fld_q .name .caps
          have qtoken : (S.toList == [116, 111, 107, 101, 110]) = false := by rw [← hS]; exact fld_q .name .token
          have qcode : (S.toList == [99, 111, 100, 101]) = false := by rw [← hS]; exact fld_q .name .code
          have qn : (S.toList == [110]) = false := by rw [← hS]; exact fld_q .name .n
          have qname : (S.toList == [110, 97, 109, 101]) = true := by rw [← hS]; exact fld_q .name .name
          clear hS
          have x6 : wr.cell? ⟨w.heap.size, 6, none⟩ = some (.string m.name) := XR.out.cell 6
          have y6 : wr.cell? ⟨w1.heap.size + 1, 6, none⟩ = some (.string y.name) := HYB.out.cell 6
          have f6 := HYB.out.frozen 6
          have lx := XR.out.lt
          have ly := HYB.out.lt
          go_wp2
          go_roundw
          case rel => exact ⟨i + 1, by go_num, by omega, below_kept2 HB.out (Nat.le_refl _) HK0.out (((Kept.refl [w1.heap.size + 1] wr).setCell _ _ (.inl (by simp)))), (HK.out.setCell _ _ (.inl (by simp))), by rw [HT.out]; exact (HYB.out.set 6 (.string m.name))⟩
          case measure => simp [intOf]; omega
        case conf =>
          have qreq : (S.toList == [114, 101, 113]) = false := by rw [← hS]; exact fld_q .conf .req
          have qcaps : (S.toList == [99, 97, 112, 115]) = false := by rw [← hS]; exact fld_q .conf .caps
          have qtoken : (S.toList == [116, 111, 107, 101, 110]) = false := by rw [← hS]; exact fld_q .conf .token
          have qcode : (S.toList == [99, 111, 100, 101]) = false := by rw [← hS]; exact fld_q .conf .code
          have qn : (S.toList == [110]) = false := by rw [← hS]; exact fld_q .conf .n
          have qname : (S.toList == [110, 97, 109, 101]) = false := by rw [← hS]; exact fld_q .conf .name
          have qconf : (S.toList == [99, 111, 110, 102]) = true := by rw [← hS]; exact fld_q .conf .conf
          clear hS
          have x7 : wr.cell? ⟨w.heap.size, 7, none⟩ = some (.string m.cname) := XR.out.cell 7
          have y7 : wr.cell? ⟨w1.heap.size + 1, 7, none⟩ = some (.string y.cname) := HYB.out.cell 7
          have f7 := HYB.out.frozen 7
          have x8 : wr.cell? ⟨w.heap.size, 8, none⟩ = some (.int .u8 (m.dim : Int)) := XR.out.cell 8
          have y8 : wr.cell? ⟨w1.heap.size + 1, 8, none⟩ = some (.int .u8 (y.dim : Int)) := HYB.out.cell 8
          have f8 := HYB.out.frozen 8
          have x9 : wr.cell? ⟨w.heap.size, 9, none⟩ = some (.int .u8 (m.metric : Int)) := XR.out.cell 9
          have y9 : wr.cell? ⟨w1.heap.size + 1, 9, none⟩ = some (.int .u8 (y.metric : Int)) := HYB.out.cell 9
          have f9 := HYB.out.frozen 9
          have x10 : wr.cell? ⟨w.heap.size, 10, none⟩ = some (.bool m.graph) := XR.out.cell 10
          have y10 : wr.cell? ⟨w1.heap.size + 1, 10, none⟩ = some (.bool y.graph) := HYB.out.cell 10
          have f10 := HYB.out.frozen 10
          have x11 : wr.cell? ⟨w.heap.size, 11, none⟩ = some (.int .u8 (m.links : Int)) := XR.out.cell 11
          have y11 : wr.cell? ⟨w1.heap.size + 1, 11, none⟩ = some (.int .u8 (y.links : Int)) := HYB.out.cell 11
          have f11 := HYB.out.frozen 11
          have x12 : wr.cell? ⟨w.heap.size, 12, none⟩ = some (.int .u16 (m.cwidth : Int)) := XR.out.cell 12
          have y12 : wr.cell? ⟨w1.heap.size + 1, 12, none⟩ = some (.int .u16 (y.cwidth : Int)) := HYB.out.cell 12
          have f12 := HYB.out.frozen 12
          have lx := XR.out.lt
          have ly := HYB.out.lt
          go_wp2
          go_roundw
          case rel => exact ⟨i + 1, by go_num, by omega, below_kept2 HB.out (Nat.le_refl _) HK0.out ((((((((Kept.refl [w1.heap.size + 1] wr).setCell _ _ (.inl (by simp))).setCell _ _ (.inl (by simp))).setCell _ _ (.inl (by simp))).setCell _ _ (.inl (by simp))).setCell _ _ (.inl (by simp))).setCell _ _ (.inl (by simp)))), ((((((HK.out.setCell _ _ (.inl (by simp))).setCell _ _ (.inl (by simp))).setCell _ _ (.inl (by simp))).setCell _ _ (.inl (by simp))).setCell _ _ (.inl (by simp))).setCell _ _ (.inl (by simp))), by rw [HT.out]; exact ((((((HYB.out.set 7 (.string m.cname)).set 8 (.int .u8 (m.dim : Int))).set 9 (.int .u8 (m.metric : Int))).set 10 (.bool m.graph)).set 11 (.int .u8 (m.links : Int))).set 12 (.int .u16 (m.cwidth : Int)))⟩
          case measure => simp [intOf]; omega
        case changes =>
          have qreq : (S.toList == [114, 101, 113]) = false := by rw [← hS]; exact fld_q .changes .req
          have qcaps : (S.toList == [99, 97, 112, 115]) = false := by rw [← hS]; exact fld_q .changes .caps
          have qtoken : (S.toList == [116, 111, 107, 101, 110]) = false := by rw [← hS]; exact fld_q .changes .token
          have qcode : (S.toList == [99, 111, 100, 101]) = false := by rw [← hS]; exact fld_q .changes .code
          have qn : (S.toList == [110]) = false := by rw [← hS]; exact fld_q .changes .n
          have qname : (S.toList == [110, 97, 109, 101]) = false := by rw [← hS]; exact fld_q .changes .name
          have qconf : (S.toList == [99, 111, 110, 102]) = false := by rw [← hS]; exact fld_q .changes .conf
          have qchanges : (S.toList == [99, 104, 97, 110, 103, 101, 115]) = true := by rw [← hS]; exact fld_q .changes .changes
          clear hS
          have x13 : wr.cell? ⟨w.heap.size, 13, none⟩ = some (.slice m.pch.a m.pch.n m.pch.c) := XR.out.cell 13
          have y13 : wr.cell? ⟨w1.heap.size + 1, 13, none⟩ = some (.slice y.pch.a y.pch.n y.pch.c) := HYB.out.cell 13
          have f13 := HYB.out.frozen 13
          have lx := XR.out.lt
          have ly := HYB.out.lt
          go_wp2
          go_roundw
          case rel => exact ⟨i + 1, by go_num, by omega, below_kept2 HB.out (Nat.le_refl _) HK0.out (((Kept.refl [w1.heap.size + 1] wr).setCell _ _ (.inl (by simp)))), (HK.out.setCell _ _ (.inl (by simp))), by rw [HT.out]; exact (HYB.out.set 13 (.slice m.pch.a m.pch.n m.pch.c))⟩
          case measure => simp [intOf]; omega
        case id =>
          have qreq : (S.toList == [114, 101, 113]) = false := by rw [← hS]; exact fld_q .id .req
          have qcaps : (S.toList == [99, 97, 112, 115]) = false := by rw [← hS]; exact fld_q .id .caps
          have qtoken : (S.toList == [116, 111, 107, 101, 110]) = false := by rw [← hS]; exact fld_q .id .token
          have qcode : (S.toList == [99, 111, 100, 101]) = false := by rw [← hS]; exact fld_q .id .code
          have qn : (S.toList == [110]) = false := by rw [← hS]; exact fld_q .id .n
          have qname : (S.toList == [110, 97, 109, 101]) = false := by rw [← hS]; exact fld_q .id .name
          have qconf : (S.toList == [99, 111, 110, 102]) = false := by rw [← hS]; exact fld_q .id .conf
          have qchanges : (S.toList == [99, 104, 97, 110, 103, 101, 115]) = false := by rw [← hS]; exact fld_q .id .changes
          have qid : (S.toList == [105, 100]) = true := by rw [← hS]; exact fld_q .id .id
          clear hS
          have x14 : wr.cell? ⟨w.heap.size, 14, none⟩ = some (.int .u32 (m.id : Int)) := XR.out.cell 14
          have y14 : wr.cell? ⟨w1.heap.size + 1, 14, none⟩ = some (.int .u32 (y.id : Int)) := HYB.out.cell 14
          have f14 := HYB.out.frozen 14
          have lx := XR.out.lt
          have ly := HYB.out.lt
          go_wp2
          go_roundw
          case rel => exact ⟨i + 1, by go_num, by omega, below_kept2 HB.out (Nat.le_refl _) HK0.out (((Kept.refl [w1.heap.size + 1] wr).setCell _ _ (.inl (by simp)))), (HK.out.setCell _ _ (.inl (by simp))), by rw [HT.out]; exact (HYB.out.set 14 (.int .u32 (m.id : Int)))⟩
          case measure => simp [intOf]; omega
        case vec =>
          have qreq : (S.toList == [114, 101, 113]) = false := by rw [← hS]; exact fld_q .vec .req
          have qcaps : (S.toList == [99, 97, 112, 115]) = false := by rw [← hS]; exact fld_q .vec .caps
          have qtoken : (S.toList == [116, 111, 107, 101, 110]) = false := by rw [← hS]; exact fld_q .vec .token
          have qcode : (S.toList == [99, 111, 100, 101]) = false := by rw [← hS]; exact fld_q .vec .code
          have qn : (S.toList == [110]) = false := by rw [← hS]; exact fld_q .vec .n
          have qname : (S.toList == [110, 97, 109, 101]) = false := by rw [← hS]; exact fld_q .vec .name
          have qconf : (S.toList == [99, 111, 110, 102]) = false := by rw [← hS]; exact fld_q .vec .conf
          have qchanges : (S.toList == [99, 104, 97, 110, 103, 101, 115]) = false := by rw [← hS]; exact fld_q .vec .changes
          have qid : (S.toList == [105, 100]) = false := by rw [← hS]; exact fld_q .vec .id
          have qvec : (S.toList == [118, 101, 99]) = true := by rw [← hS]; exact fld_q .vec .vec
          clear hS
          have x15 : wr.cell? ⟨w.heap.size, 15, none⟩ = some (.slice m.pvec.a m.pvec.n m.pvec.c) := XR.out.cell 15
          have y15 : wr.cell? ⟨w1.heap.size + 1, 15, none⟩ = some (.slice y.pvec.a y.pvec.n y.pvec.c) := HYB.out.cell 15
          have f15 := HYB.out.frozen 15
          have lx := XR.out.lt
          have ly := HYB.out.lt
          go_wp2
          go_roundw
          case rel => exact ⟨i + 1, by go_num, by omega, below_kept2 HB.out (Nat.le_refl _) HK0.out (((Kept.refl [w1.heap.size + 1] wr).setCell _ _ (.inl (by simp)))), (HK.out.setCell _ _ (.inl (by simp))), by rw [HT.out]; exact (HYB.out.set 15 (.slice m.pvec.a m.pvec.n m.pvec.c))⟩
          case measure => simp [intOf]; omega
        case k =>
          have qreq : (S.toList == [114, 101, 113]) = false := by rw [← hS]; exact fld_q .k .req
          have qcaps : (S.toList == [99, 97, 112, 115]) = false := by rw [← hS]; exact fld_q .k .caps
          have qtoken : (S.toList == [116, 111, 107, 101, 110]) = false := by rw [← hS]; exact fld_q .k .token
          have qcode : (S.toList == [99, 111, 100, 101]) = false := by rw [← hS]; exact fld_q .k .code
          have qn : (S.toList == [110]) = false := by rw [← hS]; exact fld_q .k .n
          have qname : (S.toList == [110, 97, 109, 101]) = false := by rw [← hS]; exact fld_q .k .name
          have qconf : (S.toList == [99, 111, 110, 102]) = false := by rw [← hS]; exact fld_q .k .conf
          have qchanges : (S.toList == [99, 104, 97, 110, 103, 101, 115]) = false := by rw [← hS]; exact fld_q .k .changes
          have qid : (S.toList == [105, 100]) = false := by rw [← hS]; exact fld_q .k .id
          have qvec : (S.toList == [118, 101, 99]) = false := by rw [← hS]; exact fld_q .k .vec
          have qk : (S.toList == [107]) = true := by rw [← hS]; exact fld_q .k .k
          clear hS
          have x16 : wr.cell? ⟨w.heap.size, 16, none⟩ = some (.int .u16 (m.k : Int)) := XR.out.cell 16
          have y16 : wr.cell? ⟨w1.heap.size + 1, 16, none⟩ = some (.int .u16 (y.k : Int)) := HYB.out.cell 16
          have f16 := HYB.out.frozen 16
          have lx := XR.out.lt
          have ly := HYB.out.lt
          go_wp2
          go_roundw
          case rel => exact ⟨i + 1, by go_num, by omega, below_kept2 HB.out (Nat.le_refl _) HK0.out (((Kept.refl [w1.heap.size + 1] wr).setCell _ _ (.inl (by simp)))), (HK.out.setCell _ _ (.inl (by simp))), by rw [HT.out]; exact (HYB.out.set 16 (.int .u16 (m.k : Int)))⟩
          case measure => simp [intOf]; omega
        case width =>
          have qreq : (S.toList == [114, 101, 113]) = false := by rw [← hS]; exact fld_q .width .req
          have qcaps : (S.toList == [99, 97, 112, 115]) = false := by rw [← hS]; exact fld_q .width .caps
          have qtoken : (S.toList == [116, 111, 107, 101, 110]) = false := by rw [← hS]; exact fld_q .width .token
          have qcode : (S.toList == [99, 111, 100, 101]) = false := by rw [← hS]; exact fld_q .width .code
          have qn : (S.toList == [110]) = false := by rw [← hS]; exact fld_q .width .n
          have qname : (S.toList == [110, 97, 109, 101]) = false := by rw [← hS]; exact fld_q .width .name
          have qconf : (S.toList == [99, 111, 110, 102]) = false := by rw [← hS]; exact fld_q .width .conf
          have qchanges : (S.toList == [99, 104, 97, 110, 103, 101, 115]) = false := by rw [← hS]; exact fld_q .width .changes
          have qid : (S.toList == [105, 100]) = false := by rw [← hS]; exact fld_q .width .id
          have qvec : (S.toList == [118, 101, 99]) = false := by rw [← hS]; exact fld_q .width .vec
          have qk : (S.toList == [107]) = false := by rw [← hS]; exact fld_q .width .k
          have qwidth : (S.toList == [119, 105, 100, 116, 104]) = true := by rw [← hS]; exact fld_q .width .width
          clear hS
          have x17 : wr.cell? ⟨w.heap.size, 17, none⟩ = some (.int .u16 (m.width : Int)) := XR.out.cell 17
          have y17 : wr.cell? ⟨w1.heap.size + 1, 17, none⟩ = some (.int .u16 (y.width : Int)) := HYB.out.cell 17
          have f17 := HYB.out.frozen 17
          have lx := XR.out.lt
          have ly := HYB.out.lt
          go_wp2
          go_roundw
          case rel => exact ⟨i + 1, by go_num, by omega, below_kept2 HB.out (Nat.le_refl _) HK0.out (((Kept.refl [w1.heap.size + 1] wr).setCell _ _ (.inl (by simp)))), (HK.out.setCell _ _ (.inl (by simp))), by rw [HT.out]; exact (HYB.out.set 17 (.int .u16 (m.width : Int)))⟩
          case measure => simp [intOf]; omega
        case filter =>
          have qreq : (S.toList == [114, 101, 113]) = false := by rw [← hS]; exact fld_q .filter .req
          have qcaps : (S.toList == [99, 97, 112, 115]) = false := by rw [← hS]; exact fld_q .filter .caps
          have qtoken : (S.toList == [116, 111, 107, 101, 110]) = false := by rw [← hS]; exact fld_q .filter .token
          have qcode : (S.toList == [99, 111, 100, 101]) = false := by rw [← hS]; exact fld_q .filter .code
          have qn : (S.toList == [110]) = false := by rw [← hS]; exact fld_q .filter .n
          have qname : (S.toList == [110, 97, 109, 101]) = false := by rw [← hS]; exact fld_q .filter .name
          have qconf : (S.toList == [99, 111, 110, 102]) = false := by rw [← hS]; exact fld_q .filter .conf
          have qchanges : (S.toList == [99, 104, 97, 110, 103, 101, 115]) = false := by rw [← hS]; exact fld_q .filter .changes
          have qid : (S.toList == [105, 100]) = false := by rw [← hS]; exact fld_q .filter .id
          have qvec : (S.toList == [118, 101, 99]) = false := by rw [← hS]; exact fld_q .filter .vec
          have qk : (S.toList == [107]) = false := by rw [← hS]; exact fld_q .filter .k
          have qwidth : (S.toList == [119, 105, 100, 116, 104]) = false := by rw [← hS]; exact fld_q .filter .width
          have qfilter : (S.toList == [102, 105, 108, 116, 101, 114]) = true := by rw [← hS]; exact fld_q .filter .filter
          clear hS
          have x18 : wr.cell? ⟨w.heap.size, 18, none⟩ = some (.slice m.pall.a m.pall.n m.pall.c) := XR.out.cell 18
          have y18 : wr.cell? ⟨w1.heap.size + 1, 18, none⟩ = some (.slice y.pall.a y.pall.n y.pall.c) := HYB.out.cell 18
          have f18 := HYB.out.frozen 18
          have x19 : wr.cell? ⟨w.heap.size, 19, none⟩ = some (.slice m.pany.a m.pany.n m.pany.c) := XR.out.cell 19
          have y19 : wr.cell? ⟨w1.heap.size + 1, 19, none⟩ = some (.slice y.pany.a y.pany.n y.pany.c) := HYB.out.cell 19
          have f19 := HYB.out.frozen 19
          have x20 : wr.cell? ⟨w.heap.size, 20, none⟩ = some (.slice m.pno.a m.pno.n m.pno.c) := XR.out.cell 20
          have y20 : wr.cell? ⟨w1.heap.size + 1, 20, none⟩ = some (.slice y.pno.a y.pno.n y.pno.c) := HYB.out.cell 20
          have f20 := HYB.out.frozen 20
          have lx := XR.out.lt
          have ly := HYB.out.lt
          go_wp2
          go_roundw
          case rel => exact ⟨i + 1, by go_num, by omega, below_kept2 HB.out (Nat.le_refl _) HK0.out (((((Kept.refl [w1.heap.size + 1] wr).setCell _ _ (.inl (by simp))).setCell _ _ (.inl (by simp))).setCell _ _ (.inl (by simp)))), (((HK.out.setCell _ _ (.inl (by simp))).setCell _ _ (.inl (by simp))).setCell _ _ (.inl (by simp))), by rw [HT.out]; exact (((HYB.out.set 18 (.slice m.pall.a m.pall.n m.pall.c)).set 19 (.slice m.pany.a m.pany.n m.pany.c)).set 20 (.slice m.pno.a m.pno.n m.pno.c))⟩
          case measure => simp [intOf]; omega
        case num =>
          have qreq : (S.toList == [114, 101, 113]) = false := by rw [← hS]; exact fld_q .num .req
          have qcaps : (S.toList == [99, 97, 112, 115]) = false := by rw [← hS]; exact fld_q .num .caps
          have qtoken : (S.toList == [116, 111, 107, 101, 110]) = false := by rw [← hS]; exact fld_q .num .token
          have qcode : (S.toList == [99, 111, 100, 101]) = false := by rw [← hS]; exact fld_q .num .code
          have qn : (S.toList == [110]) = false := by rw [← hS]; exact fld_q .num .n
          have qname : (S.toList == [110, 97, 109, 101]) = false := by rw [← hS]; exact fld_q .num .name
          have qconf : (S.toList == [99, 111, 110, 102]) = false := by rw [← hS]; exact fld_q .num .conf
          have qchanges : (S.toList == [99, 104, 97, 110, 103, 101, 115]) = false := by rw [← hS]; exact fld_q .num .changes
          have qid : (S.toList == [105, 100]) = false := by rw [← hS]; exact fld_q .num .id
          have qvec : (S.toList == [118, 101, 99]) = false := by rw [← hS]; exact fld_q .num .vec
          have qk : (S.toList == [107]) = false := by rw [← hS]; exact fld_q .num .k
          have qwidth : (S.toList == [119, 105, 100, 116, 104]) = false := by rw [← hS]; exact fld_q .num .width
          have qfilter : (S.toList == [102, 105, 108, 116, 101, 114]) = false := by rw [← hS]; exact fld_q .num .filter
          have qnum : (S.toList == [110, 117, 109]) = true := by rw [← hS]; exact fld_q .num .num
          clear hS
          have x21 : wr.cell? ⟨w.heap.size, 21, none⟩ = some (.int .u32 (m.num : Int)) := XR.out.cell 21
          have y21 : wr.cell? ⟨w1.heap.size + 1, 21, none⟩ = some (.int .u32 (y.num : Int)) := HYB.out.cell 21
          have f21 := HYB.out.frozen 21
          have lx := XR.out.lt
          have ly := HYB.out.lt
          go_wp2
          go_roundw
          case rel => exact ⟨i + 1, by go_num, by omega, below_kept2 HB.out (Nat.le_refl _) HK0.out (((Kept.refl [w1.heap.size + 1] wr).setCell _ _ (.inl (by simp)))), (HK.out.setCell _ _ (.inl (by simp))), by rw [HT.out]; exact (HYB.out.set 21 (.int .u32 (m.num : Int)))⟩
          case measure => simp [intOf]; omega
        case page =>
          have qreq : (S.toList == [114, 101, 113]) = false := by rw [← hS]; exact fld_q .page .req
          have qcaps : (S.toList == [99, 97, 112, 115]) = false := by rw [← hS]; exact fld_q .page .caps
          have qtoken : (S.toList == [116, 111, 107, 101, 110]) = false := by rw [← hS]; exact fld_q .page .token
          have qcode : (S.toList == [99, 111, 100, 101]) = false := by rw [← hS]; exact fld_q .page .code
          have qn : (S.toList == [110]) = false := by rw [← hS]; exact fld_q .page .n
          have qname : (S.toList == [110, 97, 109, 101]) = false := by rw [← hS]; exact fld_q .page .name
          have qconf : (S.toList == [99, 111, 110, 102]) = false := by rw [← hS]; exact fld_q .page .conf
          have qchanges : (S.toList == [99, 104, 97, 110, 103, 101, 115]) = false := by rw [← hS]; exact fld_q .page .changes
          have qid : (S.toList == [105, 100]) = false := by rw [← hS]; exact fld_q .page .id
          have qvec : (S.toList == [118, 101, 99]) = false := by rw [← hS]; exact fld_q .page .vec
          have qk : (S.toList == [107]) = false := by rw [← hS]; exact fld_q .page .k
          have qwidth : (S.toList == [119, 105, 100, 116, 104]) = false := by rw [← hS]; exact fld_q .page .width
          have qfilter : (S.toList == [102, 105, 108, 116, 101, 114]) = false := by rw [← hS]; exact fld_q .page .filter
          have qnum : (S.toList == [110, 117, 109]) = false := by rw [← hS]; exact fld_q .page .num
          have qpage : (S.toList == [112, 97, 103, 101]) = true := by rw [← hS]; exact fld_q .page .page
          clear hS
          have x22 : wr.cell? ⟨w.heap.size, 22, none⟩ = some (.int .u32 (m.page : Int)) := XR.out.cell 22
          have y22 : wr.cell? ⟨w1.heap.size + 1, 22, none⟩ = some (.int .u32 (y.page : Int)) := HYB.out.cell 22
          have f22 := HYB.out.frozen 22
          have lx := XR.out.lt
          have ly := HYB.out.lt
          go_wp2
          go_roundw
          case rel => exact ⟨i + 1, by go_num, by omega, below_kept2 HB.out (Nat.le_refl _) HK0.out (((Kept.refl [w1.heap.size + 1] wr).setCell _ _ (.inl (by simp)))), (HK.out.setCell _ _ (.inl (by simp))), by rw [HT.out]; exact (HYB.out.set 22 (.int .u32 (m.page : Int)))⟩
          case measure => simp [intOf]; omega
        case bytes =>
          have qreq : (S.toList == [114, 101, 113]) = false := by rw [← hS]; exact fld_q .bytes .req
          have qcaps : (S.toList == [99, 97, 112, 115]) = false := by rw [← hS]; exact fld_q .bytes .caps
          have qtoken : (S.toList == [116, 111, 107, 101, 110]) = false := by rw [← hS]; exact fld_q .bytes .token
          have qcode : (S.toList == [99, 111, 100, 101]) = false := by rw [← hS]; exact fld_q .bytes .code
          have qn : (S.toList == [110]) = false := by rw [← hS]; exact fld_q .bytes .n
          have qname : (S.toList == [110, 97, 109, 101]) = false := by rw [← hS]; exact fld_q .bytes .name
          have qconf : (S.toList == [99, 111, 110, 102]) = false := by rw [← hS]; exact fld_q .bytes .conf
          have qchanges : (S.toList == [99, 104, 97, 110, 103, 101, 115]) = false := by rw [← hS]; exact fld_q .bytes .changes
          have qid : (S.toList == [105, 100]) = false := by rw [← hS]; exact fld_q .bytes .id
          have qvec : (S.toList == [118, 101, 99]) = false := by rw [← hS]; exact fld_q .bytes .vec
          have qk : (S.toList == [107]) = false := by rw [← hS]; exact fld_q .bytes .k
          have qwidth : (S.toList == [119, 105, 100, 116, 104]) = false := by rw [← hS]; exact fld_q .bytes .width
          have qfilter : (S.toList == [102, 105, 108, 116, 101, 114]) = false := by rw [← hS]; exact fld_q .bytes .filter
          have qnum : (S.toList == [110, 117, 109]) = false := by rw [← hS]; exact fld_q .bytes .num
          have qpage : (S.toList == [112, 97, 103, 101]) = false := by rw [← hS]; exact fld_q .bytes .page
          have qbytes : (S.toList == [98, 121, 116, 101, 115]) = true := by rw [← hS]; exact fld_q .bytes .bytes
          clear hS
          have x23 : wr.cell? ⟨w.heap.size, 23, none⟩ = some (.slice m.pbytes.a m.pbytes.n m.pbytes.c) := XR.out.cell 23
          have y23 : wr.cell? ⟨w1.heap.size + 1, 23, none⟩ = some (.slice y.pbytes.a y.pbytes.n y.pbytes.c) := HYB.out.cell 23
          have f23 := HYB.out.frozen 23
          have lx := XR.out.lt
          have ly := HYB.out.lt
          go_wp2
          go_roundw
          case rel => exact ⟨i + 1, by go_num, by omega, below_kept2 HB.out (Nat.le_refl _) HK0.out (((Kept.refl [w1.heap.size + 1] wr).setCell _ _ (.inl (by simp)))), (HK.out.setCell _ _ (.inl (by simp))), by rw [HT.out]; exact (HYB.out.set 23 (.slice m.pbytes.a m.pbytes.n m.pbytes.c))⟩
          case measure => simp [intOf]; omega
        case version =>
          have qreq : (S.toList == [114, 101, 113]) = false := by rw [← hS]; exact fld_q .version .req
          have qcaps : (S.toList == [99, 97, 112, 115]) = false := by rw [← hS]; exact fld_q .version .caps
          have qtoken : (S.toList == [116, 111, 107, 101, 110]) = false := by rw [← hS]; exact fld_q .version .token
          have qcode : (S.toList == [99, 111, 100, 101]) = false := by rw [← hS]; exact fld_q .version .code
          have qn : (S.toList == [110]) = false := by rw [← hS]; exact fld_q .version .n
          have qname : (S.toList == [110, 97, 109, 101]) = false := by rw [← hS]; exact fld_q .version .name
          have qconf : (S.toList == [99, 111, 110, 102]) = false := by rw [← hS]; exact fld_q .version .conf
          have qchanges : (S.toList == [99, 104, 97, 110, 103, 101, 115]) = false := by rw [← hS]; exact fld_q .version .changes
          have qid : (S.toList == [105, 100]) = false := by rw [← hS]; exact fld_q .version .id
          have qvec : (S.toList == [118, 101, 99]) = false := by rw [← hS]; exact fld_q .version .vec
          have qk : (S.toList == [107]) = false := by rw [← hS]; exact fld_q .version .k
          have qwidth : (S.toList == [119, 105, 100, 116, 104]) = false := by rw [← hS]; exact fld_q .version .width
          have qfilter : (S.toList == [102, 105, 108, 116, 101, 114]) = false := by rw [← hS]; exact fld_q .version .filter
          have qnum : (S.toList == [110, 117, 109]) = false := by rw [← hS]; exact fld_q .version .num
          have qpage : (S.toList == [112, 97, 103, 101]) = false := by rw [← hS]; exact fld_q .version .page
          have qbytes : (S.toList == [98, 121, 116, 101, 115]) = false := by rw [← hS]; exact fld_q .version .bytes
          have qversion : (S.toList == [118, 101, 114, 115, 105, 111, 110]) = true := by rw [← hS]; exact fld_q .version .version
          clear hS
          have x24 : wr.cell? ⟨w.heap.size, 24, none⟩ = some (.int .u64 (m.version : Int)) := XR.out.cell 24
          have y24 : wr.cell? ⟨w1.heap.size + 1, 24, none⟩ = some (.int .u64 (y.version : Int)) := HYB.out.cell 24
          have f24 := HYB.out.frozen 24
          have lx := XR.out.lt
          have ly := HYB.out.lt
          go_wp2
          go_roundw
          case rel => exact ⟨i + 1, by go_num, by omega, below_kept2 HB.out (Nat.le_refl _) HK0.out (((Kept.refl [w1.heap.size + 1] wr).setCell _ _ (.inl (by simp)))), (HK.out.setCell _ _ (.inl (by simp))), by rw [HT.out]; exact (HYB.out.set 24 (.int .u64 (m.version : Int)))⟩
          case measure => simp [intOf]; omega
        case names =>
          have qreq : (S.toList == [114, 101, 113]) = false := by rw [← hS]; exact fld_q .names .req
          have qcaps : (S.toList == [99, 97, 112, 115]) = false := by rw [← hS]; exact fld_q .names .caps
          have qtoken : (S.toList == [116, 111, 107, 101, 110]) = false := by rw [← hS]; exact fld_q .names .token
          have qcode : (S.toList == [99, 111, 100, 101]) = false := by rw [← hS]; exact fld_q .names .code
          have qn : (S.toList == [110]) = false := by rw [← hS]; exact fld_q .names .n
          have qname : (S.toList == [110, 97, 109, 101]) = false := by rw [← hS]; exact fld_q .names .name
          have qconf : (S.toList == [99, 111, 110, 102]) = false := by rw [← hS]; exact fld_q .names .conf
          have qchanges : (S.toList == [99, 104, 97, 110, 103, 101, 115]) = false := by rw [← hS]; exact fld_q .names .changes
          have qid : (S.toList == [105, 100]) = false := by rw [← hS]; exact fld_q .names .id
          have qvec : (S.toList == [118, 101, 99]) = false := by rw [← hS]; exact fld_q .names .vec
          have qk : (S.toList == [107]) = false := by rw [← hS]; exact fld_q .names .k
          have qwidth : (S.toList == [119, 105, 100, 116, 104]) = false := by rw [← hS]; exact fld_q .names .width
          have qfilter : (S.toList == [102, 105, 108, 116, 101, 114]) = false := by rw [← hS]; exact fld_q .names .filter
          have qnum : (S.toList == [110, 117, 109]) = false := by rw [← hS]; exact fld_q .names .num
          have qpage : (S.toList == [112, 97, 103, 101]) = false := by rw [← hS]; exact fld_q .names .page
          have qbytes : (S.toList == [98, 121, 116, 101, 115]) = false := by rw [← hS]; exact fld_q .names .bytes
          have qversion : (S.toList == [118, 101, 114, 115, 105, 111, 110]) = false := by rw [← hS]; exact fld_q .names .version
          have qnames : (S.toList == [110, 97, 109, 101, 115]) = true := by rw [← hS]; exact fld_q .names .names
          clear hS
          have x25 : wr.cell? ⟨w.heap.size, 25, none⟩ = some (.slice m.pnames.a m.pnames.n m.pnames.c) := XR.out.cell 25
          have y25 : wr.cell? ⟨w1.heap.size + 1, 25, none⟩ = some (.slice y.pnames.a y.pnames.n y.pnames.c) := HYB.out.cell 25
          have f25 := HYB.out.frozen 25
          have lx := XR.out.lt
          have ly := HYB.out.lt
          go_wp2
          go_roundw
          case rel => exact ⟨i + 1, by go_num, by omega, below_kept2 HB.out (Nat.le_refl _) HK0.out (((Kept.refl [w1.heap.size + 1] wr).setCell _ _ (.inl (by simp)))), (HK.out.setCell _ _ (.inl (by simp))), by rw [HT.out]; exact (HYB.out.set 25 (.slice m.pnames.a m.pnames.n m.pnames.c))⟩
          case measure => simp [intOf]; omega
        case items =>
          have qreq : (S.toList == [114, 101, 113]) = false := by rw [← hS]; exact fld_q .items .req
          have qcaps : (S.toList == [99, 97, 112, 115]) = false := by rw [← hS]; exact fld_q .items .caps
          have qtoken : (S.toList == [116, 111, 107, 101, 110]) = false := by rw [← hS]; exact fld_q .items .token
          have qcode : (S.toList == [99, 111, 100, 101]) = false := by rw [← hS]; exact fld_q .items .code
          have qn : (S.toList == [110]) = false := by rw [← hS]; exact fld_q .items .n
          have qname : (S.toList == [110, 97, 109, 101]) = false := by rw [← hS]; exact fld_q .items .name
          have qconf : (S.toList == [99, 111, 110, 102]) = false := by rw [← hS]; exact fld_q .items .conf
          have qchanges : (S.toList == [99, 104, 97, 110, 103, 101, 115]) = false := by rw [← hS]; exact fld_q .items .changes
          have qid : (S.toList == [105, 100]) = false := by rw [← hS]; exact fld_q .items .id
          have qvec : (S.toList == [118, 101, 99]) = false := by rw [← hS]; exact fld_q .items .vec
          have qk : (S.toList == [107]) = false := by rw [← hS]; exact fld_q .items .k
          have qwidth : (S.toList == [119, 105, 100, 116, 104]) = false := by rw [← hS]; exact fld_q .items .width
          have qfilter : (S.toList == [102, 105, 108, 116, 101, 114]) = false := by rw [← hS]; exact fld_q .items .filter
          have qnum : (S.toList == [110, 117, 109]) = false := by rw [← hS]; exact fld_q .items .num
          have qpage : (S.toList == [112, 97, 103, 101]) = false := by rw [← hS]; exact fld_q .items .page
          have qbytes : (S.toList == [98, 121, 116, 101, 115]) = false := by rw [← hS]; exact fld_q .items .bytes
          have qversion : (S.toList == [118, 101, 114, 115, 105, 111, 110]) = false := by rw [← hS]; exact fld_q .items .version
          have qnames : (S.toList == [110, 97, 109, 101, 115]) = false := by rw [← hS]; exact fld_q .items .names
          have qitems : (S.toList == [105, 116, 101, 109, 115]) = true := by rw [← hS]; exact fld_q .items .items
          clear hS
          have x26 : wr.cell? ⟨w.heap.size, 26, none⟩ = some (.slice m.pitems.a m.pitems.n m.pitems.c) := XR.out.cell 26
          have y26 : wr.cell? ⟨w1.heap.size + 1, 26, none⟩ = some (.slice y.pitems.a y.pitems.n y.pitems.c) := HYB.out.cell 26
          have f26 := HYB.out.frozen 26
          have lx := XR.out.lt
          have ly := HYB.out.lt
          go_wp2
          go_roundw
          case rel => exact ⟨i + 1, by go_num, by omega, below_kept2 HB.out (Nat.le_refl _) HK0.out (((Kept.refl [w1.heap.size + 1] wr).setCell _ _ (.inl (by simp)))), (HK.out.setCell _ _ (.inl (by simp))), by rw [HT.out]; exact (HYB.out.set 26 (.slice m.pitems.a m.pitems.n m.pitems.c))⟩
          case measure => simp [intOf]; omega
        case hits =>
          have qreq : (S.toList == [114, 101, 113]) = false := by rw [← hS]; exact fld_q .hits .req
          have qcaps : (S.toList == [99, 97, 112, 115]) = false := by rw [← hS]; exact fld_q .hits .caps
          have qtoken : (S.toList == [116, 111, 107, 101, 110]) = false := by rw [← hS]; exact fld_q .hits .token
          have qcode : (S.toList == [99, 111, 100, 101]) = false := by rw [← hS]; exact fld_q .hits .code
          have qn : (S.toList == [110]) = false := by rw [← hS]; exact fld_q .hits .n
          have qname : (S.toList == [110, 97, 109, 101]) = false := by rw [← hS]; exact fld_q .hits .name
          have qconf : (S.toList == [99, 111, 110, 102]) = false := by rw [← hS]; exact fld_q .hits .conf
          have qchanges : (S.toList == [99, 104, 97, 110, 103, 101, 115]) = false := by rw [← hS]; exact fld_q .hits .changes
          have qid : (S.toList == [105, 100]) = false := by rw [← hS]; exact fld_q .hits .id
          have qvec : (S.toList == [118, 101, 99]) = false := by rw [← hS]; exact fld_q .hits .vec
          have qk : (S.toList == [107]) = false := by rw [← hS]; exact fld_q .hits .k
          have qwidth : (S.toList == [119, 105, 100, 116, 104]) = false := by rw [← hS]; exact fld_q .hits .width
          have qfilter : (S.toList == [102, 105, 108, 116, 101, 114]) = false := by rw [← hS]; exact fld_q .hits .filter
          have qnum : (S.toList == [110, 117, 109]) = false := by rw [← hS]; exact fld_q .hits .num
          have qpage : (S.toList == [112, 97, 103, 101]) = false := by rw [← hS]; exact fld_q .hits .page
          have qbytes : (S.toList == [98, 121, 116, 101, 115]) = false := by rw [← hS]; exact fld_q .hits .bytes
          have qversion : (S.toList == [118, 101, 114, 115, 105, 111, 110]) = false := by rw [← hS]; exact fld_q .hits .version
          have qnames : (S.toList == [110, 97, 109, 101, 115]) = false := by rw [← hS]; exact fld_q .hits .names
          have qitems : (S.toList == [105, 116, 101, 109, 115]) = false := by rw [← hS]; exact fld_q .hits .items
          have qhits : (S.toList == [104, 105, 116, 115]) = true := by rw [← hS]; exact fld_q .hits .hits
          clear hS
          have x27 : wr.cell? ⟨w.heap.size, 27, none⟩ = some (.slice m.phits.a m.phits.n m.phits.c) := XR.out.cell 27
          have y27 : wr.cell? ⟨w1.heap.size + 1, 27, none⟩ = some (.slice y.phits.a y.phits.n y.phits.c) := HYB.out.cell 27
          have f27 := HYB.out.frozen 27
          have lx := XR.out.lt
          have ly := HYB.out.lt
          go_wp2
          go_roundw
          case rel => exact ⟨i + 1, by go_num, by omega, below_kept2 HB.out (Nat.le_refl _) HK0.out (((Kept.refl [w1.heap.size + 1] wr).setCell _ _ (.inl (by simp)))), (HK.out.setCell _ _ (.inl (by simp))), by rw [HT.out]; exact (HYB.out.set 27 (.slice m.phits.a m.phits.n m.phits.c))⟩
          case measure => simp [intOf]; omega
      · have hin' : i = fs.length := by omega
        subst hin'
        rw [List.take_length] at HYB
        obtain ⟨y, hy⟩ : ∃ y, onlyL fs (zeroL m.kind) m = y := ⟨_, rfl⟩
        have HYM := Lib.hid (show y.toM = setF ((formM m.kind).getD []) (zeroM m.kind) m.toM from by rw [← hy, HFS.out, onlyL_toM, zeroL_toM])
        have HYI := Lib.hid (show y.In ok w from by rw [← hy]; exact onlyL_in fs _ m (zeroL_in ok w m.kind HM.out.hkind) HM.out)
        rw [hy] at HYB
        clear hy
        have RR := Lib.hid (HK.out.blk R4.out (by simp))
        obtain ⟨F, hF⟩ : ∃ F, (y).cells.toArray = F := ⟨_, rfl⟩
        have hld : wr.heap[w1.heap.size + 1]? = some (.cells (y).cells.toArray 37 (0, 0)) := HYB.out
        have hst := msg_store wr w1.heap.size _ (y) RR.out rfl
        obtain ⟨w9, hw9⟩ : ∃ w9, wr.setRow w1.heap.size (y).cells.toArray = w9 := ⟨_, rfl⟩
        rw [hw9] at hst
        have HB9 : w9.heap[w1.heap.size]? = some (.cells (y).cells.toArray 37 (0, 0)) := by
          rw [← hw9]
          exact setRow_blk RR.out _
        have B9 := Lib.hid (show Below w.heap.size w w9 from by
          rw [← hw9]
          exact below_kept2 HB.out (Nat.le_refl _) (Nat.le_of_lt hl) (setRow_kept _ _ _))
        have hsz : F.size = 28 := by rw [← hF]; rfl
        have lF := HYB.out.lt
        have lR := RR.out.lt
        have l9 : w1.heap.size < w9.heap.size := by rw [← hw9]; exact Nat.lt_of_lt_of_le lR (setRow_kept _ _ _).size
        rw [hF] at hld hst HB9
        have HBF := hld
        have hinfo : (Tryz.prog.info? 37).map (·.size) = some F.size := by
          rw [hsz]
          kernel_rfl
        have HFF := Lib.hid hF
        clear hF hw9 HYB RR HB hld
        go_upto_region 47 with fail
        go_step
        refine wp_load_row wr rfl 37 (.tmp 3) rfl (w1.heap.size + 1) 37 F _ (by rfl) HBF Tryz.underlying37 rfl hinfo ?_
        go_wp2
        (try simp only [Exit.inBlock, Exit.then])
        refine bodyPost_ret (results_cell_row (p := 2) (ty := 37) rfl _ w9 w1.heap.size 37 F (0, 0) _ rfl HB9 Tryz.underlying37 rfl hinfo) rfl ?_
        exact ⟨B9.out, y, by rw [HFF.out], HYI.out.on B9.out, HYM.out⟩
end Go.Proofs.YtemnmjfeljipjaaGreat
