/-
  TopkWorst holds: the worst one that is kept is the last of the list; nothing that was put and isn't kept is less than it.
-/
import Derived.Test.YtmdodfipkmmmkaaTx
namespace Go.Proofs.Ytmdodfipkmmmkaa
open Go.ChangeShapes Go.WideShapes Go.ChangeAt Go.RowKit

/-- How many hits of l are less than y. -/
def below (y : Hit) (l : List Hit) : Nat := l.countP (fun x => ltH x y)
theorem below_snoc (y : Hit) (l : List Hit) (x : Hit) : below y (l ++ [x]) = below y l + if ltH x y = true then 1 else 0 := by
  simp [below, List.countP_append, List.countP_singleton]
theorem below_le (y : Hit) (l : List Hit) : below y l ≤ l.length := List.countP_le_length
theorem below_last (k : Nat) (l : List Hit) (h : 0 < (keepL k l).length) : below (lastL (keepL k l)) l < (keepL k l).length := by
  have hp : below (lastL (keepL k l)) l = below (lastL (keepL k l)) (sortL l) := ((sortL_perm l).countP_eq _).symm
  have hne : keepL k l ≠ [] := by intro e; rw [e] at h; simp at h
  obtain ⟨s, y, hs⟩ : ∃ s y, keepL k l = s ++ [y] := ⟨_, _, (List.dropLast_concat_getLast hne).symm⟩
  have hy : lastL (keepL k l) = y := by rw [hs]; simp [lastL]
  have hsp : sortL l = (s ++ [y]) ++ (sortL l).drop k := by rw [← hs, keepL, List.take_append_drop]
  have ho := sortL_order l
  rw [hsp] at ho
  unfold InOrder at ho
  rw [List.pairwise_append] at ho
  rw [hp, hy, hs, hsp]
  have h1 : below y ((sortL l).drop k) = 0 := by
    unfold below
    rw [List.countP_eq_zero]
    intro x hx
    have := ho.2.2 y (by simp) x hx
    simpa using this
  have h2 : below y (s ++ [y] ++ (sortL l).drop k) = below y s := by
    have e : ∀ a b, below y (a ++ b) = below y a + below y b := fun a b => List.countP_append
    rw [e, e, h1]
    simp [below, ltH_irrefl]
  rw [← hsp] at h2 ⊢
  have h3 := below_le y s
  simp
  rw [hsp] at h2 ⊢
  omega

set_option maxHeartbeats 3200000 in
theorem worst_walk (k : Int) (r N : Nat) (hr : Hid ((r : Int) = min (max k 0) 256)) (a : Option Addr) (n cap : Nat) (l : List Hit) (w : World) (h : HReads w a n l) (hN : N ≤ n ∧ N ≤ 200 ∧ (N = n ∨ N = 200)) :
    Calls Try.prog 8 #[.int .i64 k, .slice a n cap] w fun e w' => e = .returned (.bool true) ∧ Below w.heap.size w w' := by
  have HC := Lib.hid h.cells
  have HL := Lib.hid h.len
  have hsm := h.small
  have HN := Lib.hid hN
  clear h hN
  go_enter Try.func8, Try.ntmps8
  go_wp2_with (fail)
  refine (alive2 w).mono ?_
  rintro e w1 ⟨rfl, hb1⟩
  have B1 := Lib.hid hb1
  clear hb1
  go_wp2_with (fail)
  refine (sel_new k w1 r hr).mono ?_
  rintro e w2 ⟨rfl, h1, hb1⟩
  have FI := Lib.hid (show Filled w (w1.heap.size + 1) r (l.take 0) w2 from ⟨_, h1, B1.out.trans (hb1.mono B1.out.size), fun x hx => by have := B1.out.size; simp at hx; omega⟩)
  generalize w1.heap.size + 1 = bb at *
  clear h1 hb1 B1
  go_upto_region 4 with fail
  go_cut [6] (fun s6 wx => s6 = .int .i64 (N : Int) ∧ w2 = wx)
  case first =>
    obtain ⟨n1, n2, n3⟩ := HN.out
    rcases n3 with rfl | rfl
    · go_wp2_with (fail)
      all_goals (go_meet; first | exact ⟨rfl, rfl⟩ | exact ⟨by rw [show N = 200 by omega]; rfl, rfl⟩)
    · go_wp2_with (fail)
      all_goals (go_meet; first | exact ⟨rfl, rfl⟩ | exact ⟨by rw [show n = 200 by omega], rfl⟩)
  case rest =>
    obtain ⟨rfl, rfl⟩ := hcut
    obtain ⟨n1, n2, n3⟩ := HN.out
    go_wp2
    go_loopw [7] (fun s7 wr => ∃ (i : Nat), s7 = .int .i64 i ∧ i ≤ N ∧ Hid (Filled w bb r (l.take i) wr)) (fun s7 _ => N - (intOf s7).toNat)
    case atStart => exact ⟨0, rfl, Nat.zero_le _, FI.out⟩
    case round =>
      clear FI
      obtain ⟨i, rfl, hi, HF⟩ := hrel
      by_cases h1 : i < N
      · rcases HC.out with h0 | ⟨ba, off, rfl, hlt, hcl⟩
        · omega
        obtain ⟨p, hp⟩ : ∃ p, l.getD i (0, 0) = p := ⟨_, rfl⟩
        have hcc := hcl i (by omega)
        rw [hp] at hcc
        have HP := Lib.hid hp
        have hB : Below w.heap.size w wr := HF.out.choose_spec.2.1
        have t3 := (hB.cell (p := ⟨ba, off + i * 2, none⟩) hlt).trans hcc.1
        have t4 := (hB.cell (p := ⟨ba, off + i * 2 + 1, none⟩) hlt).trans hcc.2
        have t6 : ba < wr.heap.size := Nat.lt_of_lt_of_le hlt hB.size
        have hin : i < n := by omega
        clear hp hcl hcc hB
        go_wp2_with (fail)
        refine (filled_put i HF.out p HP (by have := HL.out; omega) (by omega)).mono ?_
        rintro e w3 ⟨rfl, hf⟩
        have HF' := Lib.hid hf
        clear hf t3 t4 t6
        go_wp2
        go_roundw
        case rel => exact ⟨i + 1, by go_num, by omega, HF'.out⟩
        case measure => simp [intOf]; omega
      · have hiN : i = N := by omega
        subst hiN
        obtain ⟨F, hS, hB, hF⟩ := HF.out
        rw [putAll_nil] at hS
        obtain ⟨m, hm⟩ : ∃ m, (keepL r (l.take i)).length = m := ⟨_, rfl⟩
        have HM := Lib.hid hm
        have hml : m ≤ 200 := by
          rw [← hm, keepL, List.length_take, sortL_len]
          simp
          omega
        obtain ⟨y, hy⟩ : ∃ y, lastL (keepL r (l.take i)) = y := ⟨_, rfl⟩
        have HY := Lib.hid hy
        obtain ⟨f, hf⟩ : ∃ f, decide ((keepL r (l.take i)).length = r) = f := ⟨_, rfl⟩
        have HFf := Lib.hid hf
        have HS := Lib.hid hS
        have HB := Lib.hid hB
        have HBL := Lib.hid (below_last r (l.take i))
        generalize keepL r (l.take i) = S at *
        clear hm hy hf hS hB hF HF
        obtain ⟨wo, rfl⟩ : ∃ wo : World, wo = wr := ⟨_, rfl⟩
        go_wp2_with (fail)
        refine (list_m F bb r m S _ HS.out HM (by omega)).mono ?_
        rintro e w5 ⟨g5, rfl, o5, b5, _⟩
        have S5 := Lib.hid (HS.out.grow b5)
        have B5 := Lib.hid (HB.out.trans (b5.mono HB.out.size))
        have O5 := Lib.hid o5
        clear o5 b5 HS HB
        go_wp2_with (fail)
        refine (sel_worst F bb r S _ S5.out f HFf y HY).mono ?_
        rintro e w6 ⟨rfl, b6⟩
        have B6 := Lib.hid (B5.out.trans (b6.mono B5.out.size))
        have O6 := Lib.hid (O5.out.kept (Kept.of_below (F := []) b6 (Nat.le_refl _)) (by simp))
        clear b6 B5 O5 S5
        have B7 := Lib.hid (B6.out.alloc B6.out.size (.cells #[.int .i64 y.1, .int .u32 y.2] 29))
        have O7 := Lib.hid (O6.out.kept ((Kept.refl [] _).alloc (.cells #[.int .i64 y.1, .int .u32 y.2] 29)) (by simp))
        have R7 := Lib.hid (Blk.new w6 29 #[.int .i64 y.1, .int .u32 y.2])
        cases m with
        | zero =>
          have hn0 : S = [] := List.eq_nil_of_length_eq_zero HM.out
          obtain rfl : y = (0, 0) := by rw [← HY.out, hn0]; rfl
          have hne := fun w => run_eql_hit (0, 0) (0, 0) w true (by simp)
          clear hn0 HFf HY HBL HM O6 O7 R7
          go_wp2
          go_ret
          exact ⟨rfl, B7.out⟩
        | succ q =>
          have hez : ((q : Int) + 1 == 0) = false := by rw [beq_eq_false_iff_ne]; omega
          have hq : S.getD q (0, 0) = y := by
            rw [← HY.out, lastL, List.getLast?_eq_getElem?, HM.out, List.getD_eq_getElem?_getD]
            simp
          have HQ := Lib.hid hq
          clear hq B6 O6 HFf
          go_wp2
          generalize w6.alloc (.cells #[.int .i64 y.1, .int .u32 y.2] 29) = w7 at *
          generalize w6.heap.size = R at *
          go_loopw [11, 12] (fun s11 s12 wr => ∃ (j c : Nat), s12 = .int .i64 j ∧ s11 = .int .i64 c ∧ j ≤ i ∧ c ≤ j ∧ Hid (below y (l.take j) = c) ∧ Hid (Below w7.heap.size w7 wr)) (fun _ s12 _ => i - (intOf s12).toNat)
          case atStart => exact ⟨0, 0, rfl, rfl, Nat.zero_le _, Nat.le_refl _, rfl, Below.refl _ _⟩
          case round =>
            obtain ⟨j, c, rfl, rfl, hj, hc, HCt, HW⟩ := hrel
            by_cases hjN : j < i
            · rcases HC.out with h0 | ⟨ba, off, rfl, hlt, hcl⟩
              · omega
              obtain ⟨p, hp⟩ : ∃ p, l.getD j (0, 0) = p := ⟨_, rfl⟩
              obtain ⟨z, hz⟩ : ∃ z, ltH p y = z := ⟨_, rfl⟩
              have hcc := hcl j (by omega)
              rw [hp] at hcc
              have HCC := Lib.hid hcc
              have HZ := Lib.hid hz
              have hsn : below y (l.take (j + 1)) = c + if z = true then 1 else 0 := by
                rw [take_snoc' l j (by have := HL.out; omega), below_snoc, HCt.out, hp, hz]
              have HSN := Lib.hid hsn
              have HS1 := Lib.hid (fun (w' : World) (hb : Below wr.heap.size wr w') => show w'.cell? ⟨R, 0, none⟩ = some (.int .i64 y.1) ∧ w'.cell? ⟨R, 1, none⟩ = some (.int .u32 y.2) ∧ w'.cell? ⟨ba, off + j * 2, none⟩ = some (.int .i64 p.1) ∧ w'.cell? ⟨ba, off + j * 2 + 1, none⟩ = some (.int .u32 p.2) ∧ R < w'.heap.size ∧ ba < w'.heap.size ∧ Below wr.heap.size wr w' from by
                have hW := HW.out.trans (hb.mono HW.out.size)
                have h3 := (Kept.of_below (F := []) hW (Nat.le_refl _)).blk R7.out (by simp)
                have hBB := B7.out.trans (hW.mono B7.out.size)
                exact ⟨by rw [h3.cell]; rfl, by rw [h3.cell]; rfl, (hBB.cell (p := ⟨ba, off + j * 2, none⟩) hlt).trans HCC.out.1, (hBB.cell (p := ⟨ba, off + j * 2 + 1, none⟩) hlt).trans HCC.out.2, h3.lt, Nat.lt_of_lt_of_le hlt hBB.size, hb⟩)
              obtain ⟨s1, s2, s3, s4, s5, s6, s7⟩ := HS1.out wr (Below.refl _ _)
              have hjn : j < n := by omega
              clear hp hz hcl hcc hsn
              go_wp2
              go_region_held3 (fun w' => w'.cell? ⟨R, 0, none⟩ = some (.int .i64 y.1) ∧ w'.cell? ⟨R, 1, none⟩ = some (.int .u32 y.2) ∧ w'.cell? ⟨ba, off + j * 2, none⟩ = some (.int .i64 p.1) ∧ w'.cell? ⟨ba, off + j * 2 + 1, none⟩ = some (.int .u32 p.2) ∧ R < w'.heap.size ∧ ba < w'.heap.size ∧ Below wr.heap.size wr w')
                (first
                  | (go_keep; done)
                  | exact HS1.out _ (Below.refl _ _)
                  | exact HS1.out _ (Below.refl _ _).drew
                  | (go_split_ands; exact HS1.out _ (below_on (by assumption) hbel)))
                (first
                  | (go_at_call 21; refine (rless_eq p y z HZ _).mono ?_; rintro e w' ⟨rfl, hbel⟩))
              rename_i hH
              have hb := hH.2.2.2.2.2.2
              have HW1 := Lib.hid (HW.out.trans (hb.mono HW.out.size))
              clear hH hb hbel s1 s2 s3 s4 s5 s6 s7 HS1 HW
              cases z
              · go_wp2
                go_roundw
                case rel => exact ⟨j + 1, c, by go_num, rfl, by omega, by omega, by rw [HSN.out]; rfl, HW1.out⟩
                case measure => simp [intOf]; omega
              · go_wp2
                go_roundw
                case rel => exact ⟨j + 1, c + 1, by go_num, by go_num, by omega, by omega, by rw [HSN.out]; rfl, HW1.out⟩
                case measure => simp [intOf]; omega
            · have hji : j = i := by omega
              subst hji
              have O8 := O7.out.kept (Kept.of_below (F := []) HW.out (Nat.le_refl _)) (by simp)
              have R8 := (Kept.of_below (F := []) HW.out (Nat.le_refl _)).blk R7.out (by simp)
              have B8 := Lib.hid (B7.out.trans (HW.out.mono B7.out.size))
              obtain ⟨d1, d2, _, d4⟩ := O8.cells q (by have := HM.out; omega)
              rw [HQ.out] at d1 d2
              have d5 := R8.cell 0
              have d6 := R8.cell 1
              have d7 := R8.lt
              simp only [List.getElem?_cons_zero, List.getElem?_cons_succ] at d5 d6
              have hne := fun w => run_eql_hit y y w true (by simp)
              have hcq : c < q + 1 := by
                have := HBL.out (by have := HM.out; omega)
                rw [HY.out, HCt.out, HM.out] at this
                exact this
              have hcd : decide ((c : Int) < (q : Int) + 1) = true := by rw [decide_eq_true_iff]; omega
              have hcd2 : decide (c < q + 1) = true := by rw [decide_eq_true_iff]; omega
              clear O8 R8 O7 R7 B7 HW HBL HY HQ
              go_wp2
              go_quiet (fail)
              go_wp2
              go_ret
              exact ⟨rfl, below_draws B8.out _⟩

theorem worst_row : Rows.TopkWorstSaid :=
  OpenClaim.holds_of_wide 8 Try.f8 rfl rfl rfl rfl rfl rfl rfl ⟨rfl, rfl, rfl, rfl, rfl⟩ rfl rfl rfl rfl rfl (by kernel_rfl) Try.func8 (by kernel_rfl)
    (of_decide_eq_true (by kernel_rfl)) (by unfold Func.isWrapper; rw [if_neg (of_decide_eq_false (by kernel_rfl))]; exact ⟨rfl, rfl⟩)
    (fun os started H enc _ => lift (C := Try.checked) (s := Rows.topkWorstSpec) (conds := Rows.topkWorstRow.domain) os started H enc prog_own (by kernel_rfl) Try.func8 prog_laid rfl Try.underlying4 rfl
      (fun ds hl => by
        have hl : ds.length = 2 := hl
        match ds, hl with
        | [_, _], _ => rfl)
      (of_decide_eq_true (by kernel_rfl))
      (ChangeSpec.witness6 (enc := enc) (C := Try.checked) false ⟨#[], #[.int .i64 0, .slice none 0 0], []⟩ 8 (by kernel_rfl) (by kernel_rfl) (by kernel_rfl) (by kernel_rfl))
      (fun W base args ds p g => by
        rw [Try.params8] at g
        obtain ⟨k, e0, _⟩ := g.int 0 rfl Try.underlying3
        obtain ⟨a1, n1, cap1, l1, e1, h1, m1, _⟩ := g.hits 1 rfl
        rw [args2 g.count e0 e1]
        exact worst_walk k (min (max k 0) 256).toNat (min n1 200) (show _ = _ from by omega) a1 n1 cap1 l1 W h1 (by omega)))
end Go.Proofs.Ytmdodfipkmmmkaa
