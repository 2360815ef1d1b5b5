/-
  The heap's upperChild and sink, each by a walk over its text.
-/
import Derived.Test.YtdocoioenkajeaaTh
namespace Go.Proofs.Ytdocoioenkajeaa
open Go.RowKit

set_option maxHeartbeats 1600000 in
theorem child_yes (b o c g n cap k : Nat) (t : TypeId) (pre : List Value) (xs : List Hit) (w : World) (h : HeapAt w b o c t pre (.slice (some ⟨g, 0, none⟩) n cap) xs) (hs : xs.length ≤ 1000000) (hk : 2 * k + 2 < xs.length) :
    Calls Try.prog 88 #[.pointer (some ⟨b, o, none⟩), .int .i64 k] w fun e w' => e = .returned (.int .i64 (childL xs k)) ∧ Below w.heap.size w w' := by
  obtain ⟨rest, rfl, _, hn, hcap, _⟩ := h.own.blk
  obtain ⟨l, hl⟩ : ∃ l, l = 2 * k + 1 := ⟨_, rfl⟩
  obtain ⟨r, hr⟩ : ∃ r, r = 2 * k + 2 := ⟨_, rfl⟩
  have hl1 : 2 * (k : Int) + 1 = (l : Int) := by omega
  have hr1 : 2 * (k : Int) + 2 = (r : Int) := by omega
  have hln : l < xs.length := by omega
  have hrn : r < xs.length := by omega
  obtain ⟨x, hx⟩ : ∃ x, xs.getD r (0, 0) = x := ⟨_, rfl⟩
  obtain ⟨y, hy⟩ : ∃ y, xs.getD l (0, 0) = y := ⟨_, rfl⟩
  obtain ⟨z, hz⟩ : ∃ z, ltH y x = z := ⟨_, rfl⟩
  have hc : childL xs k = if z = true then r else l := by
    unfold childL
    rw [← hl, ← hr, hx, hy, hz]
    cases z <;> simp [hrn]
  have HX := Lib.hid hx
  have HY := Lib.hid hy
  have HZ := Lib.hid hz
  have HC := Lib.hid hc
  have H := Lib.hid h
  have HS := Lib.hid (fun (w' : World) (hB : Below w.heap.size w w') => HeapAt.see H r l x y hrn hln HX HY hB)
  have S0 := HS.out w (Below.refl _ _)
  have hdec : decide (r < xs.length) = true := by simpa using hrn
  have HL1 := Lib.hid hl1
  have HR1 := Lib.hid hr1
  have hb1 : (k : Int) ≤ 1000000 := by omega
  clear hx hy hz hc hl hr h hl1 hr1 hcap hn
  go_enter Try.func88, Try.ntmps88
  go_wp2
  rw [HL1.out, HR1.out]
  obtain ⟨s1, s2, s3, s4, s5, s6, s7, s8, s9, s10, s11⟩ := S0
  go_region_held3 (fun w' => w'.cell? ⟨b, o, none⟩ = some (.slice (some ⟨g, 0, none⟩) xs.length cap) ∧ w'.cell? ⟨b, o + 1, none⟩ = some (.func (.func 92) #[] #[.pointer (some ⟨c, 0, none⟩)]) ∧
      w'.cell? ⟨g, r * 2, none⟩ = some (.int .i64 x.1) ∧ w'.cell? ⟨g, r * 2 + 1, none⟩ = some (.int .u32 x.2) ∧ w'.cell? ⟨g, l * 2, none⟩ = some (.int .i64 y.1) ∧ w'.cell? ⟨g, l * 2 + 1, none⟩ = some (.int .u32 y.2) ∧
      w'.cell? ⟨c, 0, none⟩ = some (.func (.func 38) #[] #[]) ∧ b < w'.heap.size ∧ g < w'.heap.size ∧ c < w'.heap.size ∧ Below w.heap.size w w')
    (first
      | (go_keep; done)
      | exact HS.out _ (Below.refl _ _)
      | exact HS.out _ (Below.refl _ _).drew
      | (go_split_ands; exact HS.out _ (below_on (by assumption) hbel)))
    (first
      | (go_at_call 92; refine (above_eq x y c z HZ _ (by assumption) (by assumption)).mono ?_; rintro e w' ⟨rfl, hbel⟩))
  rename_i hH
  have hB := hH.2.2.2.2.2.2.2.2.2.2
  clear s1 s2 s3 s4 s5 s6 s7 s8 s9 s10 s11 hH hbel HS
  cases z
  · go_wp2
    go_ret
    exact ⟨ret_int (by rw [HC.out]; simp), hB⟩
  · go_wp2
    go_ret
    exact ⟨ret_int (by rw [HC.out]; simp), hB⟩

set_option maxHeartbeats 1600000 in
theorem child_no (b o c g n cap k : Nat) (t : TypeId) (pre : List Value) (xs : List Hit) (w : World) (h : HeapAt w b o c t pre (.slice (some ⟨g, 0, none⟩) n cap) xs) (_ : xs.length ≤ 1000000) (hk : xs.length ≤ 2 * k + 2) (hk' : k ≤ 1000000) :
    Calls Try.prog 88 #[.pointer (some ⟨b, o, none⟩), .int .i64 k] w fun e w' => e = .returned (.int .i64 (childL xs k)) ∧ Below w.heap.size w w' := by
  obtain ⟨rest, rfl, _, hn, hcap, _⟩ := h.own.blk
  have hc : childL xs k = 2 * k + 1 := by
    unfold childL
    rw [if_neg (by omega)]
  obtain ⟨r, hr⟩ : ∃ r, r = 2 * k + 2 := ⟨_, rfl⟩
  have hr1 : 2 * (k : Int) + 2 = (r : Int) := by omega
  have hdec : decide (r < xs.length) = false := by simp; omega
  have HC := Lib.hid hc
  have HR1 := Lib.hid hr1
  have c0 := h.cell0
  have l0 := h.self.lt
  clear hc hr hr1 hcap hn h
  go_enter Try.func88, Try.ntmps88
  go_wp2
  rw [HR1.out]
  go_quiet (fail)
  go_wp2
  go_ret
  exact ⟨ret_int (by rw [HC.out]; omega), below_draws (Below.refl _ _) _⟩

theorem child_any (b o c g n cap k : Nat) (t : TypeId) (pre : List Value) (xs : List Hit) (w : World) (h : HeapAt w b o c t pre (.slice (some ⟨g, 0, none⟩) n cap) xs) (hs : xs.length ≤ 1000000) (hk : k ≤ 1000000) (r : Nat) (hr : Hid (childL xs k = r)) :
    Calls Try.prog 88 #[.pointer (some ⟨b, o, none⟩), .int .i64 k] w fun e w' => e = .returned (.int .i64 r) ∧ Below w.heap.size w w' := by
  rw [← hr.out]
  by_cases h1 : 2 * k + 2 < xs.length
  · exact child_yes b o c g n cap k t pre xs w h hs h1
  · exact child_no b o c g n cap k t pre xs w h hs (by omega) hk

set_option maxHeartbeats 3200000 in
theorem sink_any (b o c g n cap i : Nat) (t : TypeId) (pre : List Value) (xs : List Hit) (w : World) (h : HeapAt w b o c t pre (.slice (some ⟨g, 0, none⟩) n cap) xs) (hs : xs.length ≤ 1000000) (hi : i ≤ 1000000) :
    Calls Try.prog 80 #[.pointer (some ⟨b, o, none⟩), .int .i64 i] w fun e w' => e = .returned (.tuple #[]) ∧ HeapAt w' b o c t pre (.slice (some ⟨g, 0, none⟩) n cap) (sinkL xs i) ∧ Kept [g] w w' := by
  obtain ⟨rest, rfl, _, hn, hcap, _⟩ := h.own.blk
  clear hn hcap
  go_enter Try.func80, Try.ntmps80
  go_wp2
  go_loopw [1] (fun i' wr => ∃ (k : Nat) (ys : List Hit), k ≤ 1000000 ∧ i' = .int .i64 k ∧ Hid (ys.length = xs.length) ∧ Hid (HeapAt wr b o c t pre (.slice (some ⟨g, 0, none⟩) xs.length cap) ys) ∧ Hid (sinkL ys k = sinkL xs i) ∧ Kept [g] w wr) (fun i' _ => 1000001 - (intOf i').toNat)
  case atStart => exact ⟨i, xs, hi, rfl, rfl, h, rfl, Kept.refl _ _⟩
  case round =>
    obtain ⟨k, ys, hk, rfl, HL, H, HR, hK⟩ := hrel
    obtain ⟨m, hm⟩ : ∃ m, childL ys k = m := ⟨_, rfl⟩
    have HM := Lib.hid hm
    have hmk : k < m := by have := childL_or ys k; omega
    have hmk2 : m ≤ 2000002 := by have := childL_or ys k; omega
    have hK := Lib.hid hK
    clear hm
    by_cases hlt : m < xs.length
    · obtain ⟨x, hx⟩ : ∃ x, ys.getD m (0, 0) = x := ⟨_, rfl⟩
      obtain ⟨y, hy⟩ : ∃ y, ys.getD k (0, 0) = y := ⟨_, rfl⟩
      obtain ⟨z, hz⟩ : ∃ z, ltH y x = z := ⟨_, rfl⟩
      have hr := HR.out
      have hl := HL.out
      rw [sinkL, HM.out, dif_pos (by omega), hy, hx, hz] at hr
      have HR' := Lib.hid hr
      have hky : k < ys.length := by omega
      have hmy : m < ys.length := by omega
      have hkx : k < xs.length := by omega
      have HX := Lib.hid hx
      have HY := Lib.hid hy
      have HZ := Lib.hid hz
      have hdec : decide (xs.length ≤ m) = false := by simpa using hlt
      clear hx hy hz hr hl
      go_wp2_with (fail)
      refine (child_any b o c g xs.length cap k t pre ys wr H.out (by have := HL.out; omega) hk m HM).mono ?_
      rintro e wr1 ⟨rfl, hb1⟩
      have H1 := Lib.hid (H.out.grow hb1)
      have hK1 := Lib.hid (hK.out.trans (Kept.of_below (F := [g]) hb1 (Nat.le_refl _)) (Grows.refl _ _))
      have HS := Lib.hid (fun (w' : World) (hB : Below wr1.heap.size wr1 w') => HeapAt.see H1 m k x y hmy hky HX HY hB)
      have S0 := HS.out wr1 (Below.refl _ _)
      clear hb1 hK H HR HM HX HY
      go_wp2
      obtain ⟨s1, s2, s3, s4, s5, s6, s7, s8, s9, s10, s11⟩ := S0
      go_region_held3 (fun w' => w'.cell? ⟨b, o, none⟩ = some (.slice (some ⟨g, 0, none⟩) xs.length cap) ∧ w'.cell? ⟨b, o + 1, none⟩ = some (.func (.func 92) #[] #[.pointer (some ⟨c, 0, none⟩)]) ∧
          w'.cell? ⟨g, m * 2, none⟩ = some (.int .i64 x.1) ∧ w'.cell? ⟨g, m * 2 + 1, none⟩ = some (.int .u32 x.2) ∧ w'.cell? ⟨g, k * 2, none⟩ = some (.int .i64 y.1) ∧ w'.cell? ⟨g, k * 2 + 1, none⟩ = some (.int .u32 y.2) ∧
          w'.cell? ⟨c, 0, none⟩ = some (.func (.func 38) #[] #[]) ∧ b < w'.heap.size ∧ g < w'.heap.size ∧ c < w'.heap.size ∧ Below wr1.heap.size wr1 w')
        (first
          | (go_keep; done)
          | exact HS.out _ (Below.refl _ _)
          | exact HS.out _ (Below.refl _ _).drew
          | (go_split_ands; exact HS.out _ (below_on (by assumption) hbel)))
        (first
          | (go_at_call 92; refine (above_eq x y c z HZ _ (by assumption) (by assumption)).mono ?_; rintro e w' ⟨rfl, hbel⟩))
      rename_i hH
      have hB := hH.2.2.2.2.2.2.2.2.2.2
      clear s1 s2 s3 s4 s5 s6 s7 s8 s9 s10 s11 hH hbel HS
      have hgb : Kept [g] w w' := hK1.out.trans (Kept.of_below (F := [g]) hB (Nat.le_refl _)) (Grows.refl _ _)
      have H2 := Lib.hid (H1.out.grow hB)
      clear hB H1 hK1
      cases z
      · have e0 : (!false) = true := rfl
        go_wp2
        have e := HR'.out
        rw [if_neg (by simp)] at e
        refine bodyPost_ret (v := .tuple #[]) (results_none rfl _ _ _) rfl ?_
        exact ⟨rfl, by rw [← e]; exact H2.out, hgb⟩
      · go_wp2_with (fail)
        refine (swap_any b o c g xs.length cap k m t pre ys w' H2.out hky hmy (by omega)).mono ?_
        rintro e w2 ⟨rfl, h2, k2⟩
        have H3 := Lib.hid h2
        clear h2
        go_wp2
        go_roundw
        case rel =>
          have e := HR'.out
          rw [if_pos (by trivial)] at e
          exact ⟨m, swapL ys k m, by omega, rfl, by have := HL.out; unfold Hid; rw [swapL_len]; exact this, H3.out, e, hgb.trans k2 (Grows.refl _ _)⟩
        case measure => simp [intOf]; omega
    · have hdec : decide (xs.length ≤ m) = true := by simp; omega
      have hr := HR.out
      have hl := HL.out
      rw [sinkL, HM.out, dif_neg (by omega)] at hr
      have HR' := Lib.hid hr
      clear hr hl
      go_wp2_with (fail)
      refine (child_any b o c g xs.length cap k t pre ys wr H.out (by have := HL.out; omega) hk m HM).mono ?_
      rintro e wr1 ⟨rfl, hb1⟩
      have H1 := Lib.hid (H.out.grow hb1)
      have hK1 := Lib.hid (hK.out.trans (Kept.of_below (F := [g]) hb1 (Nat.le_refl _)) (Grows.refl _ _))
      have c0 := H1.out.cell0
      have l0 := H1.out.self.lt
      clear hb1 hK H HR HM
      go_wp2
      go_quiet (fail)
      go_wp2
      refine bodyPost_ret (v := .tuple #[]) (results_none rfl _ _ _) rfl ?_
      exact ⟨rfl, by rw [← HR'.out]; exact H1.out.kept ((Kept.refl [] _).drewN _) (by simp) (by simp) (by simp), hK1.out.drewN _⟩
end Go.Proofs.Ytdocoioenkajeaa
