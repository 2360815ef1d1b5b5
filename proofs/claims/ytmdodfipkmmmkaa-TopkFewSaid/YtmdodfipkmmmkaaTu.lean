/-
  TopkOwn holds: a list that a selector told may be written over; the selector, and another list that it told, stay as they were.
-/
import Derived.Test.YtmdodfipkmmmkaaTt
namespace Go.Proofs.Ytmdodfipkmmmkaa
open Go.ChangeShapes Go.WideShapes Go.ChangeAt Go.RowKit

theorem Own.set1 {w : World} {t : TypeId} {g n cap : Nat} {xs : List Hit} (h : Own w t (.slice (some ⟨g, 0, none⟩) n cap) xs) (i : Nat) (hi : i < xs.length) (a : Int) :
    Own (w.setCell ⟨g, i * 2, none⟩ (.int .i64 a)) t (.slice (some ⟨g, 0, none⟩) n cap) (xs.set i (a, (xs.getD i (0, 0)).2)) := by
  have h1 := h.set i hi (a, (xs.getD i (0, 0)).2)
  obtain ⟨rest, rfl, hb, _⟩ := h.blk
  have hf := flat_len xs
  have e : ((w.setCell ⟨g, i * 2, none⟩ (.int .i64 a)).setCell ⟨g, i * 2 + 1, none⟩ (.int .u32 (xs.getD i (0, 0)).2)).heap[g]? = (w.setCell ⟨g, i * 2, none⟩ (.int .i64 a)).heap[g]? := by
    have b1 := hb.set (i * 2) (.int .i64 a)
    have b2 := b1.set (i * 2 + 1) (.int .u32 (xs.getD i (0, 0)).2)
    have hs := flat_snd xs i hi
    have e2 : ((flat xs ++ rest).set (i * 2) (.int .i64 a)).set (i * 2 + 1) (.int .u32 (xs.getD i (0, 0)).2) = (flat xs ++ rest).set (i * 2) (.int .i64 a) := by
      apply List.ext_getElem?
      intro j
      by_cases hj : j = i * 2 + 1
      · subst hj
        rw [List.getElem?_set_self (by simp; omega), List.getElem?_set_ne (by omega), List.getElem?_append_left (by omega), hs]
      · rw [List.getElem?_set_ne (by omega)]
    rw [e2] at b2
    unfold Blk at b1 b2
    rw [b1, b2]
  obtain ⟨h2, h3⟩ := h1
  refine ⟨h2, ?_⟩
  rcases h3 with h3 | ⟨g', cap', cur, hv, hg, hh, r⟩
  · exact .inl h3
  · refine .inr ⟨g', cap', cur, hv, hg, ?_, r⟩
    have : g' = g := by simp at hv; exact hv.1.symm
    subst this
    rw [← e]
    exact hh

theorem Own.cells {w : World} {t : TypeId} {g n cap : Nat} {xs : List Hit} (h : Own w t (.slice (some ⟨g, 0, none⟩) n cap) xs) (i : Nat) (hi : i < xs.length) :
    w.cell? ⟨g, i * 2, none⟩ = some (.int .i64 (xs.getD i (0, 0)).1) ∧ w.cell? ⟨g, i * 2 + 1, none⟩ = some (.int .u32 (xs.getD i (0, 0)).2) ∧ (∀ k, w.frozen? ⟨g, k, none⟩ = false) ∧ g < w.heap.size := by
  obtain ⟨rest, rfl, hb, _⟩ := h.blk
  have hf := flat_len xs
  exact ⟨by rw [hb.cell, List.getElem?_append_left (by omega), flat_fst xs i hi], by rw [hb.cell, List.getElem?_append_left (by omega), flat_snd xs i hi], hb.frozen, hb.lt⟩

/-- What the first loop of a law leaves: a selector that keeps what it should of the first hits. -/
def Filled (w : World) (b room : Nat) (l : List Hit) (wr : World) : Prop := ∃ F, SelF wr F b room (putAll room [] l) ∧ Below w.heap.size w wr ∧ ∀ x ∈ F, w.heap.size ≤ x

/-- One hit more is put. -/
theorem filled_put {w wr : World} {b room : Nat} {l : List Hit} (i : Nat) (h : Filled w b room (l.take i) wr) (p : Hit) (hp : Hid (l.getD i (0, 0) = p)) (hi : i < l.length) (hs : i ≤ 500000) :
    Calls Try.prog 12 #[.pointer (some ⟨b, 0, none⟩), .agg #[.int .i64 p.1, .int .u32 p.2]] wr fun e w' => e = .returned (.tuple #[]) ∧ Filled w b room (l.take (i + 1)) w' := by
  obtain ⟨F, hS, hB, hF⟩ := h
  have hl := putAll_len room [] (l.take i)
  refine (sel_put F b room _ p wr hS (by simp at hl; omega)).mono ?_
  rintro e w2 ⟨rfl, F', h', k', g'⟩
  refine ⟨rfl, F', ?_, hB.trans (k'.below hF hB.size), fun x hx => ?_⟩
  · rw [take_snoc' l i hi, hp.out, putAll_snoc]
    exact h'
  · rcases g' x hx with h | h
    · exact hF x h
    · have := hB.size; omega

theorem list_m (F : List Nat) (b room m : Nat) (s : List Hit) (w : World) (h : SelF w F b room s) (hm : Hid (s.length = m)) (hs : m ≤ 1000000) :
    Calls Try.prog 17 #[.pointer (some ⟨b, 0, none⟩)] w fun e w' => ∃ g, e = .returned (.slice (some ⟨g, 0, none⟩) m m) ∧ Own w' 29 (.slice (some ⟨g, 0, none⟩) m m) s ∧ Below w.heap.size w w' ∧ w.heap.size ≤ g := by
  rw [← hm.out] at hs ⊢
  exact sel_list F b room s w h hs

set_option maxHeartbeats 3200000 in
theorem own_walk (a : Option Addr) (n cap : Nat) (l : List Hit) (w : World) (h : HReads w a n l) :
    Calls Try.prog 6 #[.slice a n cap] w fun e w' => e = .returned (.bool true) ∧ Below w.heap.size w w' := by
  have HC := Lib.hid h.cells
  have HL := Lib.hid h.len
  have hsm := h.small
  clear h
  go_enter Try.func6, Try.ntmps6
  go_wp2_with (fail)
  refine (alive2 w).mono ?_
  rintro e w1 ⟨rfl, hb1⟩
  have B1 := Lib.hid hb1
  clear hb1
  go_wp2_with (fail)
  refine (sel_new 8 w1 8 rfl).mono ?_
  rintro e w2 ⟨rfl, h1, hb1⟩
  have FI := Lib.hid (show Filled w (w1.heap.size + 1) 8 (l.take 0) w2 from ⟨_, h1, B1.out.trans (hb1.mono B1.out.size), fun x hx => by have := B1.out.size; simp at hx; omega⟩)
  generalize w1.heap.size + 1 = bb at *
  clear h1 hb1 B1
  go_wp2
  go_loopw [4] (fun s4 wr => ∃ (i : Nat), s4 = .int .i64 i ∧ i ≤ n ∧ i ≤ 50 ∧ Hid (Filled w bb 8 (l.take i) wr)) (fun s4 _ => 50 - (intOf s4).toNat)
  case atStart => exact ⟨0, rfl, Nat.zero_le _, Nat.zero_le _, FI.out⟩
  case round =>
    clear FI
    obtain ⟨i, rfl, hi, hi2, HF⟩ := hrel
    by_cases hc : i < n ∧ i < 50
    · obtain ⟨h1, h2⟩ := hc
      rcases HC.out with h0 | ⟨ba, off, rfl, hlt, hcl⟩
      · omega
      obtain ⟨p, hp⟩ : ∃ p, l.getD i (0, 0) = p := ⟨_, rfl⟩
      have hcc := hcl i h1
      rw [hp] at hcc
      have HP := Lib.hid hp
      have hB : Below w.heap.size w wr := HF.out.choose_spec.2.1
      have t3 := (hB.cell (p := ⟨ba, off + i * 2, none⟩) hlt).trans hcc.1
      have t4 := (hB.cell (p := ⟨ba, off + i * 2 + 1, none⟩) hlt).trans hcc.2
      have t6 : ba < wr.heap.size := Nat.lt_of_lt_of_le hlt hB.size
      clear hp hcl hcc hB
      go_wp2_with (fail)
      refine (filled_put i HF.out p HP (by have := HL.out; omega) (by omega)).mono ?_
      rintro e w3 ⟨rfl, hf⟩
      have HF' := Lib.hid hf
      clear hf t3 t4 t6
      go_wp2
      go_roundw
      case rel => exact ⟨i + 1, by go_num, by omega, by omega, HF'.out⟩
      case measure => simp [intOf]; omega
    · have hcase : ¬ i < n ∨ (i < n ∧ ¬ i < 50) := by omega
      clear hc
      obtain ⟨s, hs⟩ : ∃ s, putAll 8 [] (l.take i) = s := ⟨_, rfl⟩
      obtain ⟨F, hS, hB, hF⟩ := HF.out
      rw [hs] at hS
      have hsl : s.length ≤ 8 := hS.room_le
      have HS := Lib.hid hS
      have hwo := hB.size
      have HB := Lib.hid hB
      have HFF := Lib.hid hF
      obtain ⟨m, hm⟩ : ∃ m, s.length = m := ⟨_, rfl⟩
      have HM := Lib.hid hm
      have hm8 : m ≤ 8 := by omega
      clear hs hS hB hF HF hsl hm
      obtain ⟨wo, rfl⟩ : ∃ wo : World, wo = wr := ⟨_, rfl⟩
      rcases hcase with h1 | ⟨h1, h2⟩
      all_goals
        go_wp2_with (fail)
        refine (list_m F bb 8 m s _ HS.out HM (by omega)).mono ?_
        rintro e wa ⟨gx, rfl, ox, bx, hgx⟩
        have hgx1 : gx < wa.heap.size := ox.lt gx rfl
        have HSa := Lib.hid (HS.out.grow bx)
        have HBa := Lib.hid (HB.out.trans (bx.mono HB.out.size))
        have OX := Lib.hid ox
        have hxF := Lib.hid (show gx ∉ F from fun hx => by have := HS.out.lt gx hx; omega)
        clear ox bx HB HS
        go_wp2_with (fail)
        refine (list_m F bb 8 m s _ HSa.out HM (by omega)).mono ?_
        rintro e wb ⟨gy, rfl, oy, bY, hgy⟩
        have HSb := Lib.hid (HSa.out.grow bY)
        have HBb := Lib.hid (HBa.out.trans (bY.mono HBa.out.size))
        have OXb := Lib.hid (OX.out.kept (Kept.of_below (F := []) bY (Nat.le_refl _)) (by simp))
        have OY := Lib.hid oy
        have hxw : w.heap.size ≤ gx := Nat.le_trans hwo hgx
        have hxy : gx ≠ gy := by omega
        clear oy bY HSa HBa OX
        go_wp2
        go_loopw [7] (fun s7 wr => ∃ (j : Nat) (zs : List Hit), s7 = .int .i64 j ∧ j ≤ m ∧ Hid (zs.length = m) ∧ Hid (Own wr 29 (.slice (some ⟨gx, 0, none⟩) m m) zs) ∧ Hid (Own wr 29 (.slice (some ⟨gy, 0, none⟩) m m) s) ∧ Hid (SelF wr F bb 8 s) ∧ Hid (Below w.heap.size w wr)) (fun s7 _ => m - (intOf s7).toNat)
        case atStart => exact ⟨0, s, rfl, Nat.zero_le _, HM.out, OXb.out, OY.out, HSb.out, HBb.out⟩
        case round =>
          clear HSb HBb OXb OY
          obtain ⟨j, zs, rfl, hj, HZ, OX, OY, HS, HB⟩ := hrel
          by_cases hjm : j < m
          · have hjz : j < zs.length := by have := HZ.out; omega
            obtain ⟨c1, c2, c3, c4⟩ := OX.out.cells j hjz
            have c5 := c3 (j * 2)
            generalize hq : zs.getD j (0, 0) = q at *
            have HQ := Lib.hid hq
            clear c3 hq
            go_wp2
            go_roundw
            case rel =>
              have hk : Kept [gx] wr (wr.setCell ⟨gx, j * 2, none⟩ (.int .i64 (wrap64 (q.1 - 1)))) := (Kept.refl _ _).setCell _ _ (by simp)
              exact ⟨j + 1, zs.set j (wrap64 (q.1 - 1), (zs.getD j (0, 0)).2), by go_num, by omega, by have := HZ.out; simpa [Hid] using this, OX.out.set1 j hjz _, OY.out.kept hk (by simp [Value.ownBlock]; omega), HS.out.kept hk (by intro x hx; simp; rintro rfl; exact hxF.out hx), HB.out.setCell hxw _⟩
            case measure => simp [intOf]; omega
          · go_wp2_with (fail)
            refine (list_m F bb 8 m s _ HS.out HM (by omega)).mono ?_
            rintro e wc ⟨gz, rfl, oz, bz, _⟩
            have OZ := Lib.hid (HReads.of_own oz (by have := HM.out; omega))
            have OY2 := Lib.hid (HReads.of_own (OY.out.kept (Kept.of_below (F := []) bz (Nat.le_refl _)) (by simp)) (by have := HM.out; omega))
            have HBc := Lib.hid (HB.out.trans (bz.mono HB.out.size))
            clear oz bz OX OY HS HB
            go_wp2_with (fail)
            refine (same_any _ _ _ _ _ _ s s _ OZ.out OY2.out).mono ?_
            rintro e wd ⟨rfl, bd⟩
            have HBd := Lib.hid (HBc.out.trans (bd.mono HBc.out.size))
            clear bd HBc
            go_wp2
            go_ret
            exact ⟨ret_bool (by simp), HBd.out⟩

theorem own_row : Rows.TopkOwnSaid :=
  OpenClaim.holds_of_wide 6 Try.f6 rfl rfl rfl rfl rfl rfl rfl ⟨rfl, rfl, rfl, rfl, rfl⟩ rfl rfl rfl rfl rfl (by kernel_rfl) Try.func6 (by kernel_rfl)
    (of_decide_eq_true (by kernel_rfl)) (by unfold Func.isWrapper; rw [if_neg (of_decide_eq_false (by kernel_rfl))]; exact ⟨rfl, rfl⟩)
    (fun os started H enc _ => lift (C := Try.checked) (s := Rows.topkOwnSpec) (conds := Rows.topkOwnRow.domain) os started H enc prog_own (by kernel_rfl) Try.func6 prog_laid rfl Try.underlying4 rfl
      (fun ds hl => by
        have hl : ds.length = 1 := hl
        match ds, hl with
        | [_], _ => rfl)
      (of_decide_eq_true (by kernel_rfl))
      (ChangeSpec.witness6 (enc := enc) (C := Try.checked) false ⟨#[], #[.slice none 0 0], []⟩ 8 (by kernel_rfl) (by kernel_rfl) (by kernel_rfl) (by kernel_rfl))
      (fun W base args ds p g => by
        rw [Try.params6] at g
        obtain ⟨a1, n1, cap1, l1, e0, h1, m1, _⟩ := g.hits 0 rfl
        rw [args1 g.count e0]
        exact own_walk a1 n1 cap1 l1 W h1))
end Go.Proofs.Ytmdodfipkmmmkaa
