/-
  Layer 14, the program's cursors: tell; the table's Told, Take, Close in plain words. (Made by tools/mkqri.py.)
-/
import Derived.Test.YtadkfedglkhgjaaQrh
namespace Go.Proofs.Ytadkfedglkhgjaa
open Go.RowKit Go.ChangeShapes Go.WideShapes Go.ChangeAt Go.Maps

/-- A slice that reads as these hits. -/
structure HitsQ (w : World) (a : Option Addr) (n : Nat) (l : List (Int × Int)) : Prop where
  len : l.length = n
  small : n ≤ 140737488351232
  cells : n = 0 ∨ ∃ b off, a = some ⟨b, off, none⟩ ∧ b < w.heap.size ∧ ∀ i x, l[i]? = some x → w.cell? ⟨b, off + i * 2, none⟩ = some (.int .i64 x.1) ∧ w.cell? ⟨b, off + i * 2 + 1, none⟩ = some (.int .u32 x.2)
theorem HitsQ.on {w w' : World} {a : Option Addr} {n : Nat} {l : List (Int × Int)} (h : HitsQ w a n l) (hb : Below w.heap.size w w') : HitsQ w' a n l := by
  refine ⟨h.len, h.small, ?_⟩
  rcases h.cells with h0 | ⟨b, off, e, hlt, hc⟩
  · exact .inl h0
  · exact .inr ⟨b, off, e, Nat.lt_of_lt_of_le hlt hb.size, fun i x hx => ⟨(hb.cell (p := ⟨b, _, none⟩) hlt).trans (hc i x hx).1, (hb.cell (p := ⟨b, _, none⟩) hlt).trans (hc i x hx).2⟩⟩
theorem last_of {l : List (Int × Int)} {n : Nat} (hn : l.length = n + 1) : ∃ x, l[n]? = some x ∧ l.getLast? = some x := by
  refine ⟨l[n]'(by omega), List.getElem?_eq_getElem _, ?_⟩
  rw [List.getLast?_eq_getElem?, show l.length - 1 = n by omega]
  exact List.getElem?_eq_getElem _
def TellPost (t : CurL) (g page : Nat) (l : List (Int × Int)) (w : World) (e : Ending) (w' : World) : Prop := e = .returned (.tuple #[]) ∧ Blk w' g 85 (CurL.cells ⟨t.g, t.l, t.c.tell page l⟩) ∧ Kept [g] w w'
set_option maxRecDepth 100000 in
set_option maxHeartbeats 3200000 in
theorem ctell_any (w : World) (g : Nat) (t : CurL) (h : Blk w t.g 85 t.cells) (hg : t.g = g) (page : Nat) (a : Option Addr) (n c : Nat) (l : List (Int × Int)) (hl : HitsQ w a n l) (hne : n ≠ 0 → ∀ b off, a = some ⟨b, off, none⟩ → b ≠ g) :
    Calls Try.prog 36 #[.pointer (some ⟨g, 0, none⟩), .int .u32 (page : Int), .slice a n c] w (TellPost t g page l w) := by
  have CE := Lib.hid (cend_any w g t h hg page)
  rw [hg] at h
  obtain ⟨⟨eh, ed, ei⟩, he⟩ : ∃ e, t.c.behind page = e := ⟨_, rfl⟩
  rw [he] at CE
  have HH := Lib.hid h
  have HL := Lib.hid hl
  have HE := Lib.hid he
  have HNE := Lib.hid hne
  have hglt := Lib.hid h.lt
  have hsm := hl.small
  clear h hl hg he hne
  go_enter Try.func36, Try.ntmps36
  go_wp2_with (fail)
  refine CE.out.mono ?_
  rintro e w1 ⟨rfl, hb1⟩
  unfold EndV.agg
  have H1 := Lib.hid (show Blk w1 g 85 t.cells from (Kept.of_below (F := []) hb1 (Nat.le_refl _)).blk HH.out (by simp))
  have HL1 := Lib.hid (HL.out.on hb1)
  have K1 := Lib.hid (show Kept [g] w w1 from Kept.of_below hb1 (Nat.le_refl _))
  have c7 : w1.cell? ⟨g, 7, none⟩ = some (.int .u32 (t.c.told : Int)) := H1.out.cell 7
  have c8 : w1.cell? ⟨g, 8, none⟩ = some (.bool t.c.ahead.has) := H1.out.cell 8
  have c9 : w1.cell? ⟨g, 9, none⟩ = some (.int .i64 t.c.ahead.dist) := H1.out.cell 9
  have c10 : w1.cell? ⟨g, 10, none⟩ = some (.int .u32 t.c.ahead.id) := H1.out.cell 10
  have c11 : w1.cell? ⟨g, 11, none⟩ = some (.bool t.c.last.has) := H1.out.cell 11
  have c12 : w1.cell? ⟨g, 12, none⟩ = some (.int .i64 t.c.last.dist) := H1.out.cell 12
  have c13 : w1.cell? ⟨g, 13, none⟩ = some (.int .u32 t.c.last.id) := H1.out.cell 13
  have f7 := H1.out.frozen 7
  have f8 := H1.out.frozen 8
  have f9 := H1.out.frozen 9
  have f10 := H1.out.frozen 10
  have f11 := H1.out.frozen 11
  have f12 := H1.out.frozen 12
  have f13 := H1.out.frozen 13
  clear hb1 CE HL
  by_cases hn : n = 0
  · subst hn
    have FIN := Lib.hid (show TellPost t g page l w (.returned (.tuple #[])) (((((((w1.setCell ⟨g, 8, none⟩ (.bool eh)).setCell ⟨g, 9, none⟩ (.int .i64 ed)).setCell ⟨g, 10, none⟩ (.int .u32 ei)).setCell ⟨g, 11, none⟩ (.bool eh)).setCell ⟨g, 12, none⟩ (.int .i64 ed)).setCell ⟨g, 13, none⟩ (.int .u32 ei)).setCell ⟨g, 7, none⟩ (.int .u32 (page : Int))) from by
      have hl0 : l = [] := List.eq_nil_of_length_eq_zero HL1.out.len
      refine ⟨rfl, ?_, (((((((K1.out.setCell ⟨g, 8, none⟩ (.bool eh) (.inl (by simp))).setCell ⟨g, 9, none⟩ (.int .i64 ed) (.inl (by simp))).setCell ⟨g, 10, none⟩ (.int .u32 ei) (.inl (by simp))).setCell ⟨g, 11, none⟩ (.bool eh) (.inl (by simp))).setCell ⟨g, 12, none⟩ (.int .i64 ed) (.inl (by simp))).setCell ⟨g, 13, none⟩ (.int .u32 ei) (.inl (by simp))).setCell ⟨g, 7, none⟩ (.int .u32 (page : Int)) (.inl (by simp)))⟩
      have h9 : Blk (((((((w1.setCell ⟨g, 8, none⟩ (.bool eh)).setCell ⟨g, 9, none⟩ (.int .i64 ed)).setCell ⟨g, 10, none⟩ (.int .u32 ei)).setCell ⟨g, 11, none⟩ (.bool eh)).setCell ⟨g, 12, none⟩ (.int .i64 ed)).setCell ⟨g, 13, none⟩ (.int .u32 ei)).setCell ⟨g, 7, none⟩ (.int .u32 (page : Int))) g 85 _ := (((((((H1.out.set 8 (.bool eh)).set 9 (.int .i64 ed)).set 10 (.int .u32 ei)).set 11 (.bool eh)).set 12 (.int .i64 ed)).set 13 (.int .u32 ei)).set 7 (.int .u32 (page : Int)))
      have e9 : CurL.cells ⟨t.g, t.l, t.c.tell page l⟩ = _ := (show CurL.cells ⟨t.g, t.l, t.c.tell page l⟩ = (((((((t.cells.set 8 (.bool eh)).set 9 (.int .i64 ed)).set 10 (.int .u32 ei)).set 11 (.bool eh)).set 12 (.int .i64 ed)).set 13 (.int .u32 ei)).set 7 (.int .u32 (page : Int))) from by
        unfold CurV.tell endOf
        rw [HE.out, hl0]
        rfl)
      rw [e9]
      exact h9)
    clear HL1 H1 K1
    go_wp2
    go_end0
    exact FIN.out
  · obtain ⟨m, hm⟩ : ∃ m, n = m + 1 := ⟨n - 1, by omega⟩
    obtain ⟨x, hx, hlast⟩ := last_of (HL1.out.len.trans hm)
    have HX := HL1.out.cells
    rcases HX with h0 | ⟨b, off, rfl, hblt, hcc⟩
    · exact absurd h0 hn
    have hbg : ¬ b = g := HNE.out hn b off rfl
    obtain ⟨x0, x1⟩ := hcc m x hx
    have hnm : IntKind.i64.wrap ((n : Int) - 1) = (m : Int) := by rw [IntKind.wrap_i64]; omega
    have hmn : m < n := by omega
    have FIN := Lib.hid (show TellPost t g page l w (.returned (.tuple #[])) ((((((((((w1.setCell ⟨g, 8, none⟩ (.bool eh)).setCell ⟨g, 9, none⟩ (.int .i64 ed)).setCell ⟨g, 10, none⟩ (.int .u32 ei)).setCell ⟨g, 11, none⟩ (.bool eh)).setCell ⟨g, 12, none⟩ (.int .i64 ed)).setCell ⟨g, 13, none⟩ (.int .u32 ei)).setCell ⟨g, 11, none⟩ (.bool true)).setCell ⟨g, 12, none⟩ (.int .i64 x.1)).setCell ⟨g, 13, none⟩ (.int .u32 x.2)).setCell ⟨g, 7, none⟩ (.int .u32 (page : Int))) from by
      refine ⟨rfl, ?_, ((((((((((K1.out.setCell ⟨g, 8, none⟩ (.bool eh) (.inl (by simp))).setCell ⟨g, 9, none⟩ (.int .i64 ed) (.inl (by simp))).setCell ⟨g, 10, none⟩ (.int .u32 ei) (.inl (by simp))).setCell ⟨g, 11, none⟩ (.bool eh) (.inl (by simp))).setCell ⟨g, 12, none⟩ (.int .i64 ed) (.inl (by simp))).setCell ⟨g, 13, none⟩ (.int .u32 ei) (.inl (by simp))).setCell ⟨g, 11, none⟩ (.bool true) (.inl (by simp))).setCell ⟨g, 12, none⟩ (.int .i64 x.1) (.inl (by simp))).setCell ⟨g, 13, none⟩ (.int .u32 x.2) (.inl (by simp))).setCell ⟨g, 7, none⟩ (.int .u32 (page : Int)) (.inl (by simp)))⟩
      have h9 : Blk ((((((((((w1.setCell ⟨g, 8, none⟩ (.bool eh)).setCell ⟨g, 9, none⟩ (.int .i64 ed)).setCell ⟨g, 10, none⟩ (.int .u32 ei)).setCell ⟨g, 11, none⟩ (.bool eh)).setCell ⟨g, 12, none⟩ (.int .i64 ed)).setCell ⟨g, 13, none⟩ (.int .u32 ei)).setCell ⟨g, 11, none⟩ (.bool true)).setCell ⟨g, 12, none⟩ (.int .i64 x.1)).setCell ⟨g, 13, none⟩ (.int .u32 x.2)).setCell ⟨g, 7, none⟩ (.int .u32 (page : Int))) g 85 _ := ((((((((((H1.out.set 8 (.bool eh)).set 9 (.int .i64 ed)).set 10 (.int .u32 ei)).set 11 (.bool eh)).set 12 (.int .i64 ed)).set 13 (.int .u32 ei)).set 11 (.bool true)).set 12 (.int .i64 x.1)).set 13 (.int .u32 x.2)).set 7 (.int .u32 (page : Int)))
      have e9 : CurL.cells ⟨t.g, t.l, t.c.tell page l⟩ = ((((((((((t.cells.set 8 (.bool eh)).set 9 (.int .i64 ed)).set 10 (.int .u32 ei)).set 11 (.bool eh)).set 12 (.int .i64 ed)).set 13 (.int .u32 ei)).set 11 (.bool true)).set 12 (.int .i64 x.1)).set 13 (.int .u32 x.2)).set 7 (.int .u32 (page : Int))) := by
        unfold CurV.tell endOf
        rw [HE.out, hlast]
        rfl
      rw [e9]
      exact h9)
    clear HL1 H1 K1 hcc hlast hx hm
    go_wp2
    go_end0
    exact FIN.out
end Go.Proofs.Ytadkfedglkhgjaa
