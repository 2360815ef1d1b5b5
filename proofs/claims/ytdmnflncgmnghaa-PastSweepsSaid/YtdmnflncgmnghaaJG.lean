/-
  The document's past: Get, by a walk over its text.
-/
import Derived.Test.YtdmnflncgmnghaaJg
namespace Go.Proofs.Ytdmnflncgmnghaa
open Go.RowKit
set_option maxRecDepth 100000 in
set_option maxHeartbeats 3200000 in
theorem rget_past (w : World) (B lo g : Nat) (u k : Value) (L : List RowL) (last floor : Nat) (kept : List Nat) (id v : Nat) (hv : v < 18446744073709551616) (h : PastR w B lo g u k L last floor kept) :
    Calls Try.prog 16 #[.pointer (some ⟨g, 0, none⟩), .int .u32 (id : Int), .int .u64 (v : Int)] w fun e w' => ItemPost B ((PastR.st L last floor kept).get id v) w e w' := by
  obtain ⟨a, c, rfl, hnc⟩ := h.u_form
  have hg := h.blk.lt
  have hBg : B ≤ w.heap.size := by have := h.hB; have := h.glo; omega
  have P1 := Lib.hid (h.on (show Below w.heap.size w (w.alloc (.cells #[.int .u32 0, .slice none 0 0, .slice none 0 0] 37)) from (Below.refl _ _).alloc (Nat.le_refl _) _))
  have B1 := Lib.hid (show Below w.heap.size w (w.alloc (.cells #[.int .u32 0, .slice none 0 0, .slice none 0 0] 37)) from (Below.refl _ _).alloc (Nat.le_refl _) _)
  have X1 := Lib.hid (Blk.new w 37 #[.int .u32 0, .slice none 0 0, .slice none 0 0])
  obtain ⟨w1, hw1⟩ : ∃ w1, w.alloc (.cells #[.int .u32 0, .slice none 0 0, .slice none 0 0] 37) = w1 := ⟨_, rfl⟩
  rw [hw1] at P1 B1 X1
  have hv2 := Lib.hid hv
  have hz := zero_item8
  have hL := h.hL
  have q0 : w1.cell? ⟨w.heap.size, 0, none⟩ = some (.int .u32 0) := X1.out.cell 0
  have q1 : w1.cell? ⟨w.heap.size, 1, none⟩ = some (.slice none 0 0) := X1.out.cell 1
  have q2 : w1.cell? ⟨w.heap.size, 2, none⟩ = some (.slice none 0 0) := X1.out.cell 2
  have f0 := X1.out.frozen 0
  have f1 := X1.out.frozen 1
  have f2 := X1.out.frozen 2
  have hs1 := X1.out.lt
  have HB := Lib.hid hBg
  have HP := Lib.hid h
  have FIN := Lib.hid (fun (c0 c1 c2 : Value) => three_set c0 c1 c2 X1.out B1.out (Nat.le_refl _))
  clear h hv hBg
  go_enter Try.func16, Try.ntmps16
  go_wp2_with (fail)
  try rw [hw1]
  refine (rknown_any w1 B lo g _ k L last floor kept v hv2.out P1.out).mono ?_
  rintro e w2 ⟨rfl, hw2⟩
  have hw2' := hw2.symm
  subst hw2'
  clear hw2
  obtain ⟨z, hz0⟩ : ∃ z, (PastR.st L last floor kept).known v = z := ⟨_, rfl⟩
  have HZ := Lib.hid hz0
  rw [hz0]
  clear hz0
  cases z
  · have G := Lib.hid (show (PastR.st L last floor kept).get id v = (⟨0, [], []⟩, 80) from by rw [PastV.get, HZ.out]; rfl)
    go_wp2
    obtain ⟨HBF, hbf⟩ := FIN.out (.int .u32 0) (.slice none 0 0) (.slice none 0 0)
    refine bodyPost_ret (results_row_tmp8 (p := 6) (q := 7) (ty := 37) rfl _ _ w.heap.size 37 #[.int .u32 0, .slice none 0 0, .slice none 0 0] (0, 0) _ rfl HBF Try.underlying37 rfl item_info8 (.int .i64 80) rfl) rfl ?_
    exact ⟨hbf, _, _, _, _, by rw [G.out]; rfl, rd_zero8 _ _, by rw [G.out]; rfl⟩
  · go_wp2_with (fail)
    refine (rat_any w1 B lo g _ k L last floor kept id v hv2.out P1.out).mono ?_
    rintro e w2 ⟨rfl, hw2⟩
    have hw2' := hw2.symm
    subst hw2'
    clear hw2
    obtain ⟨p, hp⟩ : ∃ p, atP (rowsV L) id v = p := ⟨_, rfl⟩
    have HPP := Lib.hid hp
    have hlt := atP_lt (rowsV L) id v
    rw [hp] at hlt ⊢
    rw [rowsV_len] at hlt
    have c0 : w1.cell? ⟨g, 0, none⟩ = some (.slice a L.length c) := P1.out.blk.cell 0
    clear hp
    by_cases hneg : p < 0
    · have G := Lib.hid (show (PastR.st L last floor kept).get id v = (⟨0, [], []⟩, 2) from by
        rw [PastV.get, HZ.out]
        simp only [if_true]
        rw [thereP_none (by rw [show (PastR.st L last floor kept).rows = rowsV L from rfl, HPP.out]; exact hneg)])
      go_wp2
      obtain ⟨HBF, hbf⟩ := FIN.out (.int .u32 0) (.slice none 0 0) (.slice none 0 0)
      refine bodyPost_ret (results_row_tmp8 (p := 6) (q := 7) (ty := 37) rfl _ _ w.heap.size 37 #[.int .u32 0, .slice none 0 0, .slice none 0 0] (0, 0) _ rfl HBF Try.underlying37 rfl item_info8 (.int .i64 2) rfl) rfl ?_
      exact ⟨hbf, _, _, _, _, by rw [G.out]; rfl, rd_zero8 _ _, by rw [G.out]; rfl⟩
    · obtain ⟨i, rfl⟩ := Int.eq_ofNat_of_zero_le (a := p) (by omega)
      have hil : i < L.length := by omega
      obtain ⟨r, gu, c', hr, hmem, e, _, k0, k1, k2, hrg⟩ := P1.out.rowAt i hil
      simp only [Value.slice.injEq] at e
      obtain ⟨rfl, -, rfl⟩ := e
      have hrv : (rowsV L)[i]? = some r.toR := by rw [rowsV, List.getElem?_map, hr]; rfl
      have HRV := Lib.hid hrv
      have RI := Lib.hid (HP.out.each r hmem)
      have HRG := Lib.hid (show w1.rangeAt gu (i * 5 + 2) [.int .u32 (r.id : Int), .slice r.pv.1 r.pv.2.1 r.pv.2.2, .slice r.pt.1 r.pt.2.1 r.pt.2.2] from fun j v hj => by
        have h1 := hrg (j + 2) v hj
        rw [show i * 5 + 2 + j = i * 5 + (j + 2) by omega]
        exact h1)
      clear hr hmem hrv hrg
      cases hgn : r.gone
      · have G := Lib.hid (show (PastR.st L last floor kept).get id v = (r.item, 0) from by
          rw [PastV.get, HZ.out]
          simp only [if_true]
          rw [thereP_some (L := (PastR.st L last floor kept).rows) HPP.out HRV.out hgn]
          rfl)
        rw [hgn] at k1
        go_wp2_with (refine wp_load_m w1 (by rfl) 37 (.tmp 37) rfl gu (i * 5 + 2) _ _ (by rfl) HRG.out Try.underlying37 rfl item_info8 ?_)
        obtain ⟨HBF, hbf⟩ := FIN.out (.int .u32 (r.id : Int)) (.slice r.pv.1 r.pv.2.1 r.pv.2.2) (.slice r.pt.1 r.pt.2.1 r.pt.2.2)
        refine bodyPost_ret (results_row_tmp8 (p := 6) (q := 7) (ty := 37) rfl _ _ w.heap.size 37 #[.int .u32 (r.id : Int), .slice r.pv.1 r.pv.2.1 r.pv.2.2, .slice r.pt.1 r.pt.2.1 r.pt.2.2] (0, 0) _ rfl HBF Try.underlying37 rfl item_info8 (.int .i64 0) rfl) rfl ?_
        have hi := RI.out.under (hbf.mono HB.out)
        exact ⟨hbf, _, _, _, _, by rw [G.out]; rfl, rd_item_mk hi.hid hi.hvec hi.htags, by rw [G.out]; simp [toItem, RowL.item]⟩
      · have G := Lib.hid (show (PastR.st L last floor kept).get id v = (⟨0, [], []⟩, 2) from by
          rw [PastV.get, HZ.out]
          simp only [if_true]
          rw [thereP_gone (L := (PastR.st L last floor kept).rows) HPP.out HRV.out hgn])
        rw [hgn] at k1
        go_wp2
        obtain ⟨HBF, hbf⟩ := FIN.out (.int .u32 0) (.slice none 0 0) (.slice none 0 0)
        refine bodyPost_ret (results_row_tmp8 (p := 6) (q := 7) (ty := 37) rfl _ _ w.heap.size 37 #[.int .u32 0, .slice none 0 0, .slice none 0 0] (0, 0) _ rfl HBF Try.underlying37 rfl item_info8 (.int .i64 2) rfl) rfl ?_
        exact ⟨hbf, _, _, _, _, by rw [G.out]; rfl, rd_zero8 _ _, by rw [G.out]; rfl⟩
end Go.Proofs.Ytdmnflncgmnghaa
