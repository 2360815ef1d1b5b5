/-
  SameNode: two nodes that are the same are told so. (Out of IM9, which holds the text of LinksOwn too.)
-/
import Derived.Test.YtdfpfgkfmjehiaaIM8
import Derived.Test.YtdfpfgkfmjehiaaSn1
import Derived.StillTailTactics
namespace Go.Proofs.Ytdfpfgkfmjehiaa
open Go.RowKit

theorem own_form {w : World} {lo n : Nat} {t : TypeId} {v : Value} {xs : List Value} (h : w.ownsRow lo t 1 v n xs) : ∃ a c, v = .slice a n c := by
  rcases h.2 with ⟨rfl, rfl⟩ | ⟨g, cap, cur, rfl, _⟩
  · exact ⟨none, 0, rfl⟩
  · exact ⟨_, cap, rfl⟩
/-- A node that reads, whoever it is. -/
structure NodeR (w : World) (y : NodeL) : Prop where
  it : y.it.In (fun _ => True) w
  few : y.links.length ≤ 1000000
  pl : ∃ a c, y.pl = .slice a y.links.length c ∧ (y.links = [] ∨ ∃ b off, a = some ⟨b, off, none⟩ ∧ b < w.heap.size ∧ ∀ (k : Nat) (l : List Nat), y.links[k]? = some l → ∃ ka kn kc, w.cell? ⟨b, off + k, none⟩ = some (.slice ka kn kc) ∧ Reads .i64 w ka kn (natsI l))
theorem NodeR.on {w w' : World} {y : NodeL} (h : NodeR w y) (hb : Below w.heap.size w w') : NodeR w' y := by
  obtain ⟨a, c, e, h2⟩ := h.pl
  refine ⟨⟨h.it.hid, Rd.on h.it.hvec hb, Rd.on h.it.htags hb⟩, h.few, a, c, e, ?_⟩
  rcases h2 with h2 | ⟨b, off, e2, hlt, h2⟩
  · exact .inl h2
  · refine .inr ⟨b, off, e2, Nat.lt_of_lt_of_le hlt hb.size, fun k l hl => ?_⟩
    obtain ⟨ka, kn, kc, h3, h4⟩ := h2 k l hl
    exact ⟨ka, kn, kc, (hb.cell (p := ⟨b, off + k, none⟩) hlt).trans h3, h4.below (Nat.le_refl _) hb⟩
set_option maxRecDepth 100000 in
set_option maxHeartbeats 3200000 in
theorem samenode_any (w : World) (y z : NodeL) (hy : NodeR w y) (hz : NodeR w z) (he : y.toV = z.toV) :
    Calls Try.prog 12 #[.agg y.cells.toArray, .agg z.cells.toArray] w fun e w' => e = .returned (.bool true) ∧ Below w.heap.size w w' := by
  obtain ⟨⟨id, pv, pt, vec, tags⟩, frm, til, pl, ls, links⟩ := y
  obtain ⟨⟨id', pv', pt', vec', tags'⟩, frm', til', pl', ls', links'⟩ := z
  simp only [NodeL.toV, NodeV.mk.injEq] at he
  obtain ⟨rfl, rfl, rfl, rfl, rfl, rfl⟩ := he
  obtain ⟨a, c, e, hpl⟩ := hy.pl
  obtain ⟨a', c', e', hpl'⟩ := hz.pl
  simp only at e e' hpl hpl'
  subst e e'
  show Calls _ _ #[.agg #[.int .u32 (id : Int), .slice pv.1 pv.2.1 pv.2.2, .slice pt.1 pt.2.1 pt.2.2, .int .u64 (frm : Int), .int .u64 (til : Int), .slice a links.length c], .agg #[.int .u32 (id : Int), .slice pv'.1 pv'.2.1 pv'.2.2, .slice pt'.1 pt'.2.1 pt'.2.2, .int .u64 (frm : Int), .int .u64 (til : Int), .slice a' links.length c']] _ _
  obtain ⟨w2, hw2⟩ : ∃ w2, (w.alloc (.cells #[.int .u32 (id : Int), .slice pv.1 pv.2.1 pv.2.2, .slice pt.1 pt.2.1 pt.2.2, .int .u64 (frm : Int), .int .u64 (til : Int), .slice a links.length c] 40)).alloc (.cells #[.int .u32 (id : Int), .slice pv'.1 pv'.2.1 pv'.2.2, .slice pt'.1 pt'.2.1 pt'.2.2, .int .u64 (frm : Int), .int .u64 (til : Int), .slice a' links.length c'] 40) = w2 := ⟨_, rfl⟩
  have B2 : Below w.heap.size w w2 := by rw [← hw2]; exact ((Below.refl _ w).alloc (Nat.le_refl _) _).alloc (by simp) _
  have X2 : Blk w2 w.heap.size 40 [.int .u32 (id : Int), .slice pv.1 pv.2.1 pv.2.2, .slice pt.1 pt.2.1 pt.2.2, .int .u64 (frm : Int), .int .u64 (til : Int), .slice a links.length c] := by
    rw [← hw2]
    exact (Blk.new w _ _).alloc _
  have Y2 : Blk w2 (w.heap.size + 1) 40 [.int .u32 (id : Int), .slice pv'.1 pv'.2.1 pv'.2.2, .slice pt'.1 pt'.2.1 pt'.2.2, .int .u64 (frm : Int), .int .u64 (til : Int), .slice a' links.length c'] := by
    rw [← hw2]
    have := Blk.new (w.alloc (.cells #[.int .u32 (id : Int), .slice pv.1 pv.2.1 pv.2.2, .slice pt.1 pt.2.1 pt.2.2, .int .u64 (frm : Int), .int .u64 (til : Int), .slice a links.length c] 40)) 40 #[.int .u32 (id : Int), .slice pv'.1 pv'.2.1 pv'.2.2, .slice pt'.1 pt'.2.1 pt'.2.2, .int .u64 (frm : Int), .int .u64 (til : Int), .slice a' links.length c']
    simpa using this
  obtain ⟨x0, x1, x2, x3, x4, x5, -⟩ := six_load _ _ _ _ _ _ _ _ _ X2
  obtain ⟨y0, y1, y2, y3, y4, y5, -⟩ := six_load _ _ _ _ _ _ _ _ _ Y2
  have HY := hy.on B2
  have HZ := hz.on B2
  have SI := Lib.hid (sameItem _ _ _ _ _ _ _ _ w2 (rd_item_mk HY.it.hid HY.it.hvec HY.it.htags) (rd_item_mk HZ.it.hid HZ.it.hvec HZ.it.htags))
  obtain ⟨N, hN⟩ : ∃ N, links.length = N := ⟨_, rfl⟩
  have hfew := hy.few
  simp only at hfew
  have HPL := Lib.hid hpl
  have HPL' := Lib.hid hpl'
  have HB2 := Lib.hid B2
  have HXY := Lib.hid (And.intro X2 Y2)
  rw [hN] at x5 y5 hfew hw2
  have HN := Lib.hid hN
  have n3 : ((frm : Int) != (frm : Int)) = false := by simp
  have n4 : ((til : Int) != (til : Int)) = false := by simp
  have n5 : ((N : Int) != (N : Int)) = false := by simp
  rw [hN]
  clear hy hz B2 X2 Y2 HY HZ hpl hpl' hN
  go_enter Try.func12, Try.ntmps12
  go_wp2_with (first | (rw [hw2]) | fail)
  refine SI.out.mono ?_
  rintro e w3 ⟨zz, rfl, hzz, hb3⟩
  obtain rfl : zz = true := hzz.2 trivial
  obtain ⟨h1, h2⟩ := HXY.out
  have X3 := (Kept.of_below (F := []) hb3 (Nat.le_refl _)).blk h1 (by simp)
  have Y3 := (Kept.of_below (F := []) hb3 (Nat.le_refl _)).blk h2 (by simp)
  obtain ⟨x0, x1, x2, x3, x4, x5, -⟩ := six_load _ _ _ _ _ _ _ _ _ X3
  obtain ⟨y0, y1, y2, y3, y4, y5, -⟩ := six_load _ _ _ _ _ _ _ _ _ Y3
  rw [HN.out] at x5 y5
  have B3 := Lib.hid (HB2.out.trans (hb3.mono HB2.out.size))
  have HXY3 := Lib.hid (And.intro X3 Y3)
  have HS2 := Lib.hid HB2.out.size
  have hl2 : w.heap.size + 1 < w3.heap.size := Y3.lt
  have HP := Lib.hid (fun (W : World) (hb : Below w.heap.size w W) (k : Nat) (l : List Nat) (hl : links[k]? = some l) => show ∃ b off ka kn kc b' off' ka' kn' kc', a = some ⟨b, off, none⟩ ∧ a' = some ⟨b', off', none⟩ ∧ W.cell? ⟨b, off + k, none⟩ = some (.slice ka kn kc) ∧ W.cell? ⟨b', off' + k, none⟩ = some (.slice ka' kn' kc') ∧ Reads .i64 W ka kn (natsI l) ∧ Reads .i64 W ka' kn' (natsI l) from by
    have hne : links ≠ [] := fun e => by rw [e] at hl; simp at hl
    rcases HPL.out with h0 | ⟨b, off, e1, g1, g2⟩
    · exact absurd h0 hne
    rcases HPL'.out with h0 | ⟨b', off', e2, g3, g4⟩
    · exact absurd h0 hne
    obtain ⟨ka, kn, kc, q1, q2⟩ := g2 k l hl
    obtain ⟨ka', kn', kc', q3, q4⟩ := g4 k l hl
    exact ⟨b, off, ka, kn, kc, b', off', ka', kn', kc', e1, e2, (hb.cell (p := ⟨b, off + k, none⟩) g1).trans q1, (hb.cell (p := ⟨b', off' + k, none⟩) g3).trans q3, q2.below (Nat.le_refl _) hb, q4.below (Nat.le_refl _) hb⟩)
  clear hzz hb3 h1 h2 X3 Y3 SI HXY HPL HPL'
  go_wp2_with (fail)
  go_loopw [5] (fun s5 wr => ∃ i : Nat, s5 = .int .i64 i ∧ i ≤ N ∧ Hid (Below w.heap.size w wr) ∧ Hid (Blk wr w.heap.size 40 [.int .u32 (id : Int), .slice pv.1 pv.2.1 pv.2.2, .slice pt.1 pt.2.1 pt.2.2, .int .u64 (frm : Int), .int .u64 (til : Int), .slice a links.length c] ∧ Blk wr (w.heap.size + 1) 40 [.int .u32 (id : Int), .slice pv'.1 pv'.2.1 pv'.2.2, .slice pt'.1 pt'.2.1 pt'.2.2, .int .u64 (frm : Int), .int .u64 (til : Int), .slice a' links.length c'])) (fun s5 _ => N - (intOf s5).toNat)
  case atStart => exact ⟨0, rfl, Nat.zero_le _, B3, HXY3⟩
  case round =>
    clear B3 HXY3 hw2 hl2
    obtain ⟨i, rfl, hi, HB, HXY⟩ := hrel
    obtain ⟨h1, h2⟩ := HXY.out
    have x5 : wr.cell? ⟨w.heap.size, 5, none⟩ = some (.slice a N c) := by rw [← HN.out]; exact h1.cell 5
    have y5 : wr.cell? ⟨w.heap.size + 1, 5, none⟩ = some (.slice a' N c') := by rw [← HN.out]; exact h2.cell 5
    have l1 := h1.lt
    have l2 := h2.lt
    clear h1 h2
    by_cases hiN : i < N
    · obtain ⟨l, hl⟩ : ∃ l, links[i]? = some l := ⟨_, List.getElem?_eq_getElem (by rw [HN.out]; exact hiN)⟩
      obtain ⟨b, off, ka, kn, kc, b', off', ka', kn', kc', rfl, rfl, q1, q2, q3, q4⟩ := HP.out wr HB.out i l hl
      have CI := Lib.hid (ints_any wr.drew ka kn kc _ (q3.below (Nat.le_refl _) (Below.refl _ _).drew) ka' kn' kc' _ (q4.below (Nat.le_refl _) (Below.refl _ _).drew) true (by simp))
      clear q3 q4 hl HP
      go_wp2
      go_still_tail 10, (by kernel_rfl)
      change wpList _ _ _ _ _ wr.drew
      go_wp2_with (fail)
      refine CI.out.mono ?_
      rintro e w4 ⟨rfl, hb4⟩
      have bb := (Below.refl wr.heap.size wr).drew.trans hb4
      have HB4 := Lib.hid (HB.out.trans (bb.mono HB.out.size))
      have HXY4 := Lib.hid (And.intro ((Kept.of_below (F := []) bb (Nat.le_refl _)).blk HXY.out.1 (by simp)) ((Kept.of_below (F := []) bb (Nat.le_refl _)).blk HXY.out.2 (by simp)))
      clear bb hb4 CI HB HXY
      go_wp2
      go_roundw
      case rel => exact ⟨i + 1, by go_num, by omega, HB4, HXY4⟩
      case measure => simp [intOf]; omega
    · obtain rfl : i = N := by omega
      go_wp2
      go_ret
      exact ⟨rfl, HB.out⟩

theorem NodeL.Own.reads {lo : Nat} {w : World} {y : NodeL} (h : y.Own lo w) (h1 : y.links.length ≤ 1000000) (h2 : ∀ l ∈ y.links, l.length ≤ 1000000 ∧ ∀ j ∈ l, j ≤ 1000000) : NodeR w y := by
  refine ⟨h.it.inn fun _ _ => trivial, h1, ?_⟩
  rcases own_cells1 (by have := h.lrow; exact this) with ⟨e, e2⟩ | ⟨b, c, e, _, _, hlt, hcell⟩
  · have e3 : y.links = [] := List.length_eq_zero_iff.1 (by rw [← h.lens, e2]; rfl)
    exact ⟨none, 0, by rw [e, e3]; rfl, .inl e3⟩
  · refine ⟨some ⟨b, 0, none⟩, c, by rw [e, h.lens], .inr ⟨b, 0, rfl, hlt, fun k l hl => ?_⟩⟩
    have hk := (List.getElem?_eq_some_iff.1 hl).1
    have hk2 : k < y.ls.length := by rw [h.lens]; exact hk
    have hv : y.ls[k]? = some y.ls[k] := List.getElem?_eq_getElem hk2
    have hi := h.list k _ l hv hl
    obtain ⟨a, n, c2, e4, -⟩ := hi.parts
    have hm := h2 l (List.mem_of_getElem? hl)
    rw [e4] at hi
    refine ⟨a, n, c2, ?_, hi.reads hm.1 hm.2⟩
    rw [Nat.zero_add, hcell k hk2, hv, e4]
theorem NodeL.Own.cells6 {lo : Nat} {w : World} {y : NodeL} (h : y.Own lo w) : ∃ ap cp, y.pl = .slice ap y.ls.length cp ∧ y.cells = [.int .u32 (y.it.id : Int), .slice y.it.pv.1 y.it.pv.2.1 y.it.pv.2.2, .slice y.it.pt.1 y.it.pt.2.1 y.it.pt.2.2, .int .u64 (y.frm : Int), .int .u64 (y.til : Int), .slice ap y.ls.length cp] := by
  obtain ⟨a, c, e⟩ := own_form h.lrow
  exact ⟨a, c, e, by unfold NodeL.cells; rw [e]⟩
end Go.Proofs.Ytdfpfgkfmjehiaa
