/-
  CrcOnce holds: the table is made just if something was asked; what one summer has made no other one has.
-/
import Derived.Test.YtaecaanepomkdaaRows
import Derived.Test.YtaecaanepomkdaaWn
import Derived.Test.YtaecaanepomkdaaPr
import Derived.Deep.RegionWith
namespace Go.Proofs.Ytaecaanepomkdaa
open Go.ChangeShapes Go.WideShapes Go.ChangeAt Go.RowKit

theorem lt_add {a b : Nat} (h : a ≤ b) : a < b + 1 := by omega
set_option maxRecDepth 100000 in
set_option maxHeartbeats 3200000 in
theorem once_walk (a : Option Addr) (n c : Nat) (bs : List Nat) (w : World) (h : BReads w a n c bs) :
    Calls Try.prog 6 #[.slice a n c] w fun e w' => e = .returned (.bool true) ∧ Below w.heap.size w w' := by
  have hnot : ∀ (x : Bool) (w : World), (Op.unary .not (.bool x)).run Try.prog w = .ok (.bool (!x)) w := fun _ _ => rfl
  have HC := Lib.hid h.cells
  have HA := Lib.hid h.at_lt
  have hsm := h.small
  clear h
  go_enter Try.func6, Try.ntmps6
  go_wp2_with (fail)
  refine (alive5 w).mono ?_
  rintro e w1 ⟨rfl, hb1⟩
  have B1 := Lib.hid hb1
  clear hb1
  go_wp2_with (fail)
  refine (new_any5 w1).mono ?_
  rintro e w2 ⟨rfl, hs2, hb2⟩
  have S2 := Lib.hid hs2
  have B2 := Lib.hid (below_on B1.out hb2)
  clear hs2 hb2
  go_wp2_with (fail)
  refine (new_any5 w2).mono ?_
  rintro e w3 ⟨rfl, hs3, hb3⟩
  have S3 := Lib.hid (S2.out.on hb3)
  have T3 := Lib.hid hs3
  have B3 := Lib.hid (below_on B2.out hb3)
  have hg1 := B1.out.size
  have hg2 := S2.out.lt
  clear hs3 hb3 S2 B2
  obtain ⟨g, hgq⟩ : ∃ g, w1.heap.size = g := ⟨_, rfl⟩
  obtain ⟨g', hgq'⟩ : ∃ g', w2.heap.size = g' := ⟨_, rfl⟩
  rw [hgq] at S3 hg1 hg2 ⊢
  rw [hgq'] at T3 hg2 ⊢
  clear hgq hgq' B1
  go_wp2_with (fail)
  go_loopw [5, 6] (fun s5 s6 wr => ∃ (i : Nat) (t : Bool), s6 = .int .i64 i ∧ i ≤ n ∧ i ≤ 60 ∧ s5 = .bool t ∧ Hid (SumAt wr g t) ∧ Hid (SumAt wr g' false) ∧ Hid (Below w.heap.size w wr)) (fun _ s6 _ => n - (intOf s6).toNat)
  case atStart => exact ⟨0, false, rfl, by omega, by omega, rfl, S3.out, T3.out, B3.out⟩
  case round =>
    clear S3 T3 B3
    obtain ⟨i, t, rfl, hin, hi60, rfl, HS, HT, HB⟩ := hrel
    by_cases hc : i < n ∧ i < 60
    · obtain ⟨hc1, hc2⟩ := hc
      rcases HC.out with h0 | ⟨b, off, rfl, hlt, hcl⟩
      · omega
      obtain ⟨p, hp⟩ : ∃ p, byteAt bs i = p := ⟨_, rfl⟩
      have hcell := (HB.out.cell (p := ⟨b, off + i, none⟩) hlt).trans (hcl i hc1)
      have hblt : b < wr.heap.size := Nat.lt_of_lt_of_le hlt HB.out.size
      have hp256 := HA.out i
      rw [hp] at hcell hp256
      clear hcl hp
      have hr : p % 4 = 0 ∨ p % 4 = 1 ∨ p % 4 = 2 ∨ p % 4 = 3 := by omega
      rcases hr with hr | hr | hr | hr
      · have hri : (p : Int) % (4 : Int) = 0 := by omega
        clear hr
        go_wp2_with (fail)
        refine (made_any g t wr HS.out).mono ?_
        rintro e w' ⟨rfl, rfl⟩
        go_wp2_with (fail)
        refine (made_any g' false wr HT.out).mono ?_
        rintro e w' ⟨rfl, rfl⟩
        go_wp2_with (fail)
        refine (of_any g t none 0 0 [] wr HS.out (BReads.nil wr) (by omega)).mono ?_
        rintro e w4 ⟨rfl, hs4, hk4⟩
        have S4 := Lib.hid hs4
        have T4 := Lib.hid (HT.out.kept hk4 (by simp; omega))
        have B4 := Lib.hid (below_kept HB.out hk4 hg1)
        clear hs4 hk4 hcell hblt HS HT HB
        go_wp2
        go_roundw
        case rel => exact ⟨i + 1, true, by go_num, by omega, by omega, rfl, S4.out, T4.out, B4.out⟩
        case measure => simp [intOf]; omega
      · have hri : (p : Int) % (4 : Int) = 1 := by omega
        clear hr
        go_wp2_with (fail)
        refine (made_any g t wr HS.out).mono ?_
        rintro e w' ⟨rfl, rfl⟩
        go_wp2_with (fail)
        refine (made_any g' false wr HT.out).mono ?_
        rintro e w' ⟨rfl, rfl⟩
        have HX := Lib.hid (show (BitVec.ofNat 32 p).toNat = p by simp; omega)
        have hwp : IntKind.u32.wrap (p : Int) = (p : Int) := by rw [IntKind.wrap_u32]; omega
        have HBW := Lib.hid ((Below.refl wr.heap.size wr).alloc (Nat.le_refl _) (.cells #[.int .u8 (p : Int)] 5)).drew
        have HRW := Lib.hid (BReads.built wr [p] 5 (by simp) (by simpa using hp256)).drew
        have hgw := HS.out.lt
        have hgw' := HT.out.lt
        go_wp2
        go_region_with (go_at_call 13; refine (more_at g t (BitVec.ofNat 32 p) (some ⟨wr.heap.size, 0, none⟩) p 1 1 _ [p] _ (HS.out.on HBW.out) HRW.out (by intro _ ad h; cases h; simp only; omega) HX.out rfl).mono ?_; rintro e w4 ⟨rfl, hs4, hk4⟩; have S4 := Lib.hid hs4; have T4 := Lib.hid ((HT.out.on HBW.out).kept hk4 (by simp; omega)); have B4 := Lib.hid (below_kept (below_on HB.out HBW.out) hk4 hg1); clear hs4 hk4)
        all_goals
          clear hcell hblt HS HT HB HBW HRW
          go_wp2
          go_roundw
          case rel => exact ⟨i + 1, true, by go_num, by omega, by omega, rfl, S4.out, T4.out, B4.out⟩
          case measure => simp [intOf]; omega
      all_goals
        first
        | have hri : (p : Int) % (4 : Int) = 2 := by omega
        | have hri : (p : Int) % (4 : Int) = 3 := by omega
        clear hr
        go_wp2_with (fail)
        refine (made_any g t wr HS.out).mono ?_
        rintro e w' ⟨rfl, rfl⟩
        go_wp2_with (fail)
        refine (made_any g' false wr HT.out).mono ?_
        rintro e w' ⟨rfl, rfl⟩
        go_wp2
        go_roundw
        case rel => exact ⟨i + 1, t, by go_num, by omega, by omega, rfl, HS.out, HT.out, HB.out⟩
        case measure => simp [intOf]; omega
    · have hnx : (¬ i < n) ∨ (i < n ∧ ¬ i < 60) := by omega
      clear hc
      rcases hnx with hnx | ⟨hnx, hny⟩
      all_goals
        go_wp2_with (fail)
        refine (made_any g t wr HS.out).mono ?_
        rintro e w' ⟨rfl, rfl⟩
        go_wp2_with (fail)
        refine (made_any g' false wr HT.out).mono ?_
        rintro e w' ⟨rfl, rfl⟩
        go_wp2
        go_ret
        exact ⟨rfl, HB.out⟩

theorem once_row : Rows.CrcOnceSaid :=
  OpenClaim.holds_of_wide 6 Try.f6 rfl rfl rfl rfl rfl rfl rfl ⟨rfl, rfl, rfl, rfl, rfl⟩ rfl rfl rfl rfl rfl (by kernel_rfl) Try.func6 (by kernel_rfl)
    (of_decide_eq_true (by kernel_rfl)) (by unfold Func.isWrapper; rw [if_neg (of_decide_eq_false (by kernel_rfl))]; exact ⟨rfl, rfl⟩)
    (fun os started H enc _ => lift (C := Try.checked) (s := Rows.crcOnceSpec) (conds := Rows.crcOnceRow.domain) os started H enc prog_own (by kernel_rfl) Try.func6 prog_laid rfl Try.underlying4 rfl
      (fun ds hl => by
        have hl : ds.length = 1 := hl
        match ds, hl with
        | [_], _ => rfl)
      (of_decide_eq_true (by kernel_rfl))
      (ChangeSpec.witness6 (enc := enc) (C := Try.checked) false ⟨#[], #[.slice none 0 0], []⟩ 8 (by kernel_rfl) (by kernel_rfl) (by kernel_rfl) (by kernel_rfl))
      (fun W base args ds p g => by
        rw [Try.params6] at g
        obtain ⟨a, n, c, bs, e0, h0, _⟩ := g.bytes 0 rfl Try.underlying23 Try.underlying5 (by kernel_rfl) (by kernel_rfl)
        rw [args1 g.count e0]
        exact once_walk a n c bs W h0))
end Go.Proofs.Ytaecaanepomkdaa
