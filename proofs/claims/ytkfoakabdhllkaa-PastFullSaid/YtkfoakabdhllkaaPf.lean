/-
  PastFull holds: so many rows at most; a sweep of one item leaves one.
-/
import Derived.Test.YtkfoakabdhllkaaRows
import Derived.Test.YtkfoakabdhllkaaPr
import Derived.Test.YtkfoakabdhllkaaCx
namespace Go.Proofs.Ytkfoakabdhllkaa
open Go.ChangeShapes Go.WideShapes Go.ChangeAt Go.RowKit

def rowF (id j : Nat) : RowV := ⟨1 + j / 2, false, ⟨id, [], []⟩⟩
/-- So many rows of one item, two at each version. -/
def fullS (id i : Nat) : PastV := ⟨(List.range i).map (rowF id), (i + 1) / 2, 0, []⟩
theorem full_len (id i : Nat) : (fullS id i).rows.length = i := by simp [fullS]
theorem full_at {id i j : Nat} (h : j < i) : (fullS id i).rows[j]? = some (rowF id j) := by simp [fullS, List.getElem?_map, List.getElem?_range h]
theorem full_step {id i : Nat} (h : i < 1024) : (fullS id i).lay (rowF id i) = (fullS id (i + 1), 0) := by
  unfold PastV.lay
  rw [if_neg (by simp only [rowF, fullS]; omega), if_neg (by simp [rowF]), if_neg (by rw [full_len]; omega)]
  have e : (i + 1 + 1) / 2 = 1 + i / 2 := by omega
  simp [fullS, List.range_succ, rowF, e]
theorem full_there (id v : Nat) (hv : 512 ≤ v) : thereP (fullS id 1024).rows id v = some (rowF id 1023) := by
  have e : (fullS id 1024).rows = (fullS id 1023).rows ++ [rowF id 1023] := by simp only [fullS, List.range_succ (n := 1023), List.map_append, List.map_cons, List.map_nil]
  rw [e, thereP_snoc]
  rw [show (rowF id 1023).hit id v = true from by simp [RowV.hit, rowF, hv]]
  rfl
theorem full_put (id : Nat) : ((fullS id 1024).lay ⟨2000, false, ⟨id, [], []⟩⟩) = (fullS id 1024, 4) := by
  unfold PastV.lay
  rw [if_neg (by simp [fullS]), if_neg (by simp), if_pos (by rw [full_len]; exact Nat.le_refl _)]
theorem full_cut (id : Nat) : ((fullS id 1024).lay ⟨2000, true, ⟨id, [], []⟩⟩) = (fullS id 1024, 4) := by
  unfold PastV.lay
  rw [if_neg (by simp [fullS]), if_neg (by rw [full_there id 2000 (by decide)]; simp), if_pos (by rw [full_len]; exact Nat.le_refl _)]
def oneF (id : Nat) : PastV := ⟨[rowF id 1023], 512, 512, []⟩
theorem full_none (id : Nat) : ∀ i, i ≤ 1023 → sweepI (fullS id 1024).rows 512 [] i = [] := by
  intro i
  induction i with
  | zero => exact fun _ => rfl
  | succ i ih =>
    intro h
    rw [sweepI_succ _ _ _ (full_at (show i < 1024 by omega)), ih (by omega)]
    have hn : needP (fullS id 1024).rows 512 [] (rowF id i) i = false := by
      unfold needP
      rw [List.any_nil, Bool.or_false, decide_eq_false_iff_not]
      intro hh
      have h2 := ((atP_is (full_at (show i < 1024 by omega))).1 hh).2 1023 _ (by omega) (full_at (by decide))
      simp [RowV.hit, rowF] at h2
    rw [hn]
    rfl
theorem full_sweep (id : Nat) : (fullS id 1024).sweep [] = (oneF id, 1023) := by
  unfold PastV.sweep
  simp only [List.filter_nil, full_len]
  have hl : (fullS id 1024).last = 512 := by simp [fullS]
  have hs : sweepI (fullS id 1024).rows 512 [] 1024 = [rowF id 1023] := by
    rw [show (1024 : Nat) = 1023 + 1 from rfl, sweepI_succ _ _ _ (full_at (show 1023 < 1023 + 1 by decide)), full_none id 1023 (Nat.le_refl _)]
    have hn : needP (fullS id (1023 + 1)).rows 512 [] (rowF id 1023) 1023 = true := by
      unfold needP
      rw [List.any_nil, Bool.or_false, decide_eq_true_eq]
      refine (atP_is (full_at (show 1023 < 1023 + 1 by decide))).2 ⟨by simp [RowV.hit, rowF], fun j s hj hs => ?_⟩
      have := (List.getElem?_eq_some_iff.1 hs).1
      rw [full_len] at this
      omega
    rw [hn]
    rfl
  rw [hl, hs]
  rfl
theorem one_put (id : Nat) : ((oneF id).lay ⟨2000, false, ⟨id, [], []⟩⟩).2 = 0 := by
  unfold PastV.lay
  rw [if_neg (by simp [oneF]), if_neg (by simp), if_neg (by simp [oneF])]
theorem bare_in {id : Nat} (hid : id < 4294967296) (w : World) : (⟨id, (none, 0, 0), (none, 0, 0), [], []⟩ : ItL).In (fun _ => True) w := ItL.OwnI.in (lo := 0) ⟨hid, ⟨rfl, .inl ⟨rfl, rfl⟩⟩, ⟨rfl, .inl ⟨rfl, rfl⟩⟩, by simp, by simp, by simp, by simp⟩

set_option maxRecDepth 100000 in
set_option maxHeartbeats 12800000 in
theorem full_walk (m id : Nat) (w : World) (hm : m ≤ 255) (hid : id < 4294967296) :
    Calls Try.prog 5 #[.int .u8 (m : Int), .int .u32 (id : Int)] w fun e w' => e = .returned (.bool true) ∧ Below w.heap.size w w' := by
  go_enter Try.func5, Try.ntmps5
  go_wp2_with (fail)
  refine (alive8 w).mono ?_
  rintro e w1 ⟨rfl, hb1⟩
  go_wp2_with (fail)
  refine (new_is w1).mono ?_
  rintro e w2 ⟨F2, rfl, hb2, h2⟩
  have B2 := Lib.hid (below_on hb1 hb2)
  have H2 := Lib.hid h2
  have hs1 := hb1.size
  have hs2 := hb2.size
  clear hb1 hb2 h2
  go_wp2_with (fail)
  go_loopw [6] (fun s6 wr => ∃ i : Nat, s6 = .int .i64 i ∧ i ≤ 1024 ∧ ∃ F, Hid (PastIs wr w1.heap.size w1.heap.size F (fullS id i)) ∧ Hid (Below w.heap.size w wr)) (fun s6 _ => 1024 - (intOf s6).toNat)
  case atStart => exact ⟨0, rfl, by omega, F2, H2.out, B2.out⟩
  case round =>
    obtain ⟨i, rfl, hi, F, HP, HB⟩ := hrel
    by_cases hin : i < 1024
    · have h1 : decide ((i : Int) < 1024) = true := decide_eq_true (by omega)
      go_wp2_with (fail)
      rw [show (1 + (i : Int) / 2) = ((1 + i / 2 : Nat) : Int) from by omega]
      refine (put_is wr _ _ F _ (1 + i / 2) ⟨id, (none, 0, 0), (none, 0, 0), [], []⟩ HP.out (by omega) (bare_in hid wr)).mono ?_
      rintro e w3 ⟨F3, rfl, h3, k3, -⟩
      have b3 := HP.out.below k3 (show Below w1.heap.size wr wr from Below.refl _ _) HP.out.size1
      rw [show ((fullS id i).lay ⟨1 + i / 2, false, (⟨id, (none, 0, 0), (none, 0, 0), [], []⟩ : ItL).toI⟩) = (fullS id (i + 1), 0) from full_step hin] at h3 ⊢
      have H3 := Lib.hid h3
      have B3 := Lib.hid (HB.out.trans (b3.mono hs1))
      clear h3 k3 b3
      go_wp2
      go_roundw
      case rel => exact ⟨i + 1, by go_num, by omega, F3, H3.out, B3.out⟩
      case measure => simp [intOf]; omega
    · have hi4 : i = 1024 := by omega
      have h0 : decide ((i : Int) < 1024) = false := decide_eq_false (by omega)
      have HP1 := Lib.hid HP.out
      rw [hi4] at HP1
      clear hi4
      have HB1 := Lib.hid HB.out
      have hm5 : m % 5 < 5 := Nat.mod_lt _ (by decide)
      go_wp2_with (fail)
      go_loopw [7] (fun s7 wr => ∃ j : Nat, s7 = .int .i64 j ∧ j ≤ m % 5 ∧ ∃ F, Hid (PastIs wr w1.heap.size w1.heap.size F (fullS id 1024)) ∧ Hid (Below w.heap.size w wr)) (fun s7 _ => 5 - (intOf s7).toNat)
      case atStart => exact ⟨0, rfl, by omega, F, HP1.out, HB1.out⟩
      case round =>
        clear HP HB HP1 HB1 hi hin
        obtain ⟨j, rfl, hj, F, HP, HB⟩ := hrel
        by_cases hjn : j < m % 5
        · have h1 : decide ((j : Int) < (m : Int) % 5) = true := decide_eq_true (by omega)
          go_wp2_with (fail)
          refine (put_is wr _ _ F _ 2000 ⟨id, (none, 0, 0), (none, 0, 0), [], []⟩ HP.out (by decide) (bare_in hid wr)).mono ?_
          rintro e w3 ⟨F3, rfl, h3, k3, -⟩
          have b3 := HP.out.below k3 (show Below w1.heap.size wr wr from Below.refl _ _) HP.out.size1
          rw [show ((fullS id 1024).lay ⟨2000, false, (⟨id, (none, 0, 0), (none, 0, 0), [], []⟩ : ItL).toI⟩) = (fullS id 1024, 4) from full_put id] at h3 ⊢
          have H3 := Lib.hid h3
          have B3 := Lib.hid (HB.out.trans (b3.mono hs1))
          clear h3 k3 b3
          go_wp2_with (fail)
          refine (cut_is w3 _ _ F3 _ 2000 id H3.out (by decide) hid).mono ?_
          rintro e w4 ⟨F4, rfl, h4, k4, -⟩
          have b4 := H3.out.below k4 (show Below w1.heap.size w3 w3 from Below.refl _ _) H3.out.size1
          rw [full_cut id] at h4 ⊢
          have H4 := Lib.hid h4
          have B4 := Lib.hid (B3.out.trans (b4.mono hs1))
          clear h4 k4 b4
          go_wp2
          go_roundw
          case rel => exact ⟨j + 1, by go_num, by omega, F4, H4.out, B4.out⟩
          case measure => simp [intOf]; omega
        · have h1 : decide ((j : Int) < (m : Int) % 5) = false := decide_eq_false (by omega)
          have hla : (fullS id 1024).last = 512 := by simp [fullS]
          go_wp2_with (fail)
          refine (last_is wr _ _ F _ HP.out).mono ?_
          rintro e w3 ⟨rfl, hw3⟩
          have hw3' := hw3.symm
          subst hw3'
          clear hw3
          rw [hla]
          go_wp2_with (fail)
          refine (sweep_is _ _ _ F _ none 0 0 [] (fun lo w v xs h hl => sort_small lo w v xs h (Nat.le_trans hl (by decide))) HP.out (vers_none _ _)).mono ?_
          rintro e w4 ⟨F4, rfl, h4, k4, -⟩
          have b4 := HP.out.below k4 (show Below w1.heap.size _ _ from Below.refl _ _) HP.out.size1
          rw [full_sweep id] at h4 ⊢
          have H4 := Lib.hid h4
          have B4 := Lib.hid (HB.out.trans (b4.mono hs1))
          clear h4 k4 b4
          go_wp2_with (fail)
          refine (rows_is w4 _ _ F4 _ H4.out).mono ?_
          rintro e w5 ⟨rfl, hw5⟩
          have hw5' := hw5.symm
          subst hw5'
          clear hw5
          rw [show (oneF id, 1023).1.rows.length = 1 from rfl]
          go_wp2_with (fail)
          refine (put_is _ _ _ F4 _ 2000 ⟨id, (none, 0, 0), (none, 0, 0), [], []⟩ H4.out (by decide) (bare_in hid _)).mono ?_
          rintro e w6 ⟨F6, rfl, h6, k6, -⟩
          have b6 := H4.out.below k6 (show Below w1.heap.size _ _ from Below.refl _ _) H4.out.size1
          rw [show (((oneF id, 1023).1.lay ⟨2000, false, (⟨id, (none, 0, 0), (none, 0, 0), [], []⟩ : ItL).toI⟩).2) = 0 from one_put id]
          have B6 := Lib.hid (B4.out.trans (b6.mono hs1))
          clear h6 k6 b6
          go_wp2
          go_ret
          exact ⟨rfl, B6.out⟩

theorem full_row : Rows.PastFullSaid :=
  OpenClaim.holds_of_wide 5 Try.f5 rfl rfl rfl rfl rfl rfl rfl ⟨rfl, rfl, rfl, rfl, rfl⟩ rfl rfl rfl rfl rfl (by kernel_rfl) Try.func5 (by kernel_rfl)
    (of_decide_eq_true (by kernel_rfl)) (by unfold Func.isWrapper; rw [if_neg (of_decide_eq_false (by kernel_rfl))]; exact ⟨rfl, rfl⟩)
    (fun os started H enc _ => lift (C := Try.checked) (s := Rows.pastFullSpec) (conds := Rows.pastFullRow.domain) os started H enc prog_own (by kernel_rfl) Try.func5 prog_laid rfl Try.underlying4 rfl
      (fun ds hl => by
        have hl : ds.length = 2 := hl
        match ds, hl with
        | [_, _], _ => rfl)
      (of_decide_eq_true (by kernel_rfl))
      (ChangeSpec.witness6 (enc := enc) (C := Try.checked) false ⟨#[], #[.int .u8 0, .int .u32 0], []⟩ 8 (by kernel_rfl) (by kernel_rfl) (by kernel_rfl) (by kernel_rfl))
      (fun W base args ds p g => by
        rw [Try.params5] at g
        obtain ⟨m, e0, hm⟩ := g.u8 0 rfl Try.underlying5
        obtain ⟨id, e1, hid⟩ := g.u32 1 rfl Try.underlying33
        rw [args2 g.count e0 e1]
        exact full_walk m id W (by omega) (by omega)))
end Go.Proofs.Ytkfoakabdhllkaa
