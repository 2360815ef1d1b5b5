/-
  TopkKeeps holds: what a selector keeps, of whatever is put, at each moment, is the document's.
-/
import Derived.Test.YtmdodfipkmmmkaaTu
namespace Go.Proofs.Ytmdodfipkmmmkaa
open Go.ChangeShapes Go.WideShapes Go.ChangeAt Go.RowKit

theorem len_m (F : List Nat) (b room m : Nat) (s : List Hit) (w : World) (h : SelF w F b room s) (hm : Hid (s.length = m)) :
    Calls Try.prog 15 #[.pointer (some ⟨b, 0, none⟩)] w fun e w' => e = .returned (.int .i64 m) ∧ w = w' := by
  rw [← hm.out]
  exact sel_len F b room s w h
theorem same_yes (a c : Option Addr) (n n' cap cap' : Nat) (xs : List Hit) (w : World) (h : HReads w a n xs) (h' : HReads w c n' xs) :
    Calls Try.prog 16 #[.slice a n cap, .slice c n' cap'] w fun e w' => e = .returned (.bool true) ∧ Below w.heap.size w w' := by
  refine (same_any a c n n' cap cap' xs xs w h h').mono ?_
  rintro e w' ⟨rfl, hb⟩
  exact ⟨ret_bool (by simp), hb⟩

set_option maxRecDepth 100000 in
set_option maxHeartbeats 3200000 in
theorem keeps_walk (k : Int) (r : Nat) (hr : Hid ((r : Int) = min (max k 0) 256)) (a : Option Addr) (n cap : Nat) (l : List Hit) (w : World) (h : HReads w a n l) :
    Calls Try.prog 3 #[.int .i64 k, .slice a n cap] w fun e w' => e = .returned (.bool true) ∧ Below w.heap.size w w' := by
  have HC := Lib.hid h.cells
  have HL := Lib.hid h.len
  have hsm := h.small
  clear h
  go_enter Try.func3, Try.ntmps3
  go_wp2_with (fail)
  refine (alive2 w).mono ?_
  rintro e w1 ⟨rfl, hb1⟩
  have B1 := Lib.hid hb1
  clear hb1
  go_wp2_with (fail)
  refine (sel_new k w1 r hr).mono ?_
  rintro e w2 ⟨rfl, h1, hb1⟩
  have FI := Lib.hid (show Filled w (w1.heap.size + 1) r (l.take 0) w2 from ⟨_, h1, B1.out.trans (hb1.mono B1.out.size), fun x hx => by have := B1.out.size; simp at hx; omega⟩)
  generalize w1.heap.size + 1 = bb at *
  clear h1 hb1 B1
  go_upto_region 4 with fail
  go_cut [0] (fun s0 wx => s0 = .int .i64 (r : Int) ∧ w2 = wx)
  case first =>
    have hr' := hr.out
    by_cases g1 : k < 0
    · obtain rfl : r = 0 := by omega
      clear hr' FI
      go_wp2_with (fail)
      all_goals (go_meet; exact ⟨rfl, rfl⟩)
    · by_cases g2 : 256 < k
      · obtain rfl : r = 256 := by omega
        clear hr' FI
        go_wp2_with (fail)
        all_goals (go_meet; exact ⟨rfl, rfl⟩)
      · obtain rfl : k = (r : Int) := by omega
        clear hr' FI
        go_wp2_with (fail)
        all_goals (go_meet; first | exact ⟨rfl, rfl⟩ | exact ⟨by rw [show (r : Int) = 0 by omega], rfl⟩)
  case rest =>
    obtain ⟨rfl, rfl⟩ := hcut
    go_wp2
    go_loopw [6, 7] (fun s6 s7 wr => ∃ (i m : Nat) (F : List Nat) (a' : Option Addr) (c' : Nat), s7 = .int .i64 i ∧ s6 = .slice a' m c' ∧ i ≤ n ∧ i ≤ 400 ∧ Hid ((putAll r [] (l.take i)).length = m) ∧ Hid (SelF wr F bb r (putAll r [] (l.take i))) ∧
        Hid (OwnB wr w.heap.size (.slice a' m c') (putAll r [] (l.take i))) ∧ Hid (∀ k, (Value.slice a' m c').ownBlock = some k → k ∉ F) ∧ Hid (Below w.heap.size w wr) ∧ Hid (∀ x ∈ F, w.heap.size ≤ x)) (fun _ s7 _ => 400 - (intOf s7).toNat)
    case atStart =>
      obtain ⟨F, hS, hB, hF⟩ := FI.out
      exact ⟨0, 0, F, none, 0, rfl, rfl, Nat.zero_le _, Nat.zero_le _, rfl, hS, OwnB.nil _ _, by simp [Hid, Value.ownBlock], hB, hF⟩
    case round =>
      clear FI
      obtain ⟨i, m, F, a', c', rfl, rfl, hi, hi2, HM, HS, HO, HX, HB, HF⟩ := hrel
      by_cases hc : i < n ∧ i < 400
      · obtain ⟨h1, h2⟩ := hc
        rcases HC.out with h0 | ⟨ba, off, rfl, hlt, hcl⟩
        · omega
        obtain ⟨p, hp⟩ : ∃ p, l.getD i (0, 0) = p := ⟨_, rfl⟩
        have hcc := hcl i h1
        rw [hp] at hcc
        have HCC := Lib.hid hcc
        have hsn : putAll r [] (l.take (i + 1)) = (ins p (putAll r [] (l.take i))).take r := by
          rw [take_snoc' l i (by have := HL.out; omega), hp, putAll_snoc]
        have hml : m ≤ 400 := by
          have h3 := putAll_len r [] (l.take i)
          have := HM.out
          simp at h3
          omega
        have t3 := (HB.out.cell (p := ⟨ba, off + i * 2, none⟩) hlt).trans hcc.1
        have t4 := (HB.out.cell (p := ⟨ba, off + i * 2 + 1, none⟩) hlt).trans hcc.2
        have t6 : ba < wr.heap.size := Nat.lt_of_lt_of_le hlt HB.out.size
        generalize putAll r [] (l.take i) = S at *
        generalize hS' : (ins p S).take r = S' at *
        have HSN := Lib.hid hsn
        have HS' := Lib.hid hS'
        clear hp hcl hcc hsn hS'
        go_wp2_with (fail)
        refine (sel_put F bb r S p wr HS.out (by have := HM.out; omega)).mono ?_
        rintro e w3 ⟨rfl, F', q1, q2, q3⟩
        have B3 := Lib.hid (HB.out.trans (q2.below HF.out HB.out.size))
        have O3 := Lib.hid (HO.out.kept q2 HX.out)
        have S3 := Lib.hid (show SelF w3 F' bb r S' from by rw [← HS'.out]; exact q1)
        have F3 := Lib.hid (show ∀ x ∈ F', w.heap.size ≤ x from fun x hx => by
          rcases q3 x hx with h | h
          · exact HF.out x h
          · have := HB.out.size; omega)
        clear q1 q2 q3 t3 t4 t6 HB HS HO HX HF
        have t3 := (B3.out.cell (p := ⟨ba, off + i * 2, none⟩) hlt).trans HCC.out.1
        have t4 := (B3.out.cell (p := ⟨ba, off + i * 2 + 1, none⟩) hlt).trans HCC.out.2
        have t6 : ba < w3.heap.size := Nat.lt_of_lt_of_le hlt B3.out.size
        go_wp2_with (fail)
        refine (into_any a' m c' S p w3 (HReads.of_own O3.out.own (by have := HM.out; omega)) (by omega)).mono ?_
        rintro e w4 ⟨v4, rfl, o4, b4⟩
        obtain ⟨a4, n4, c4, rfl, hn4⟩ := o4.parts
        have B4 := Lib.hid (B3.out.trans (b4.mono B3.out.size))
        have S4 := Lib.hid (S3.out.grow b4)
        have O4 := Lib.hid (HReads.of_own o4.own (by rw [ins_len]; have := HM.out; omega))
        clear o4 b4 B3 S3 O3 t3 t4 t6
        go_wp2_with (fail)
        refine (first_any a4 n4 c4 r (ins p S) w4 O4.out).mono ?_
        rintro e w5 ⟨v5, rfl, o5, b5⟩
        rw [Int.toNat_natCast, HS'.out] at o5
        obtain ⟨a5, m5, c5, rfl, hm5⟩ := o5.parts
        have B5 := Lib.hid (B4.out.trans (b5.mono B4.out.size))
        have S5 := Lib.hid (S4.out.grow b5)
        have O5 := Lib.hid (OwnB.mono o5 B4.out.size)
        have X5 := Lib.hid (show ∀ k, (Value.slice a5 m5 c5).ownBlock = some k → k ∉ F' from fun k hk hx => by
          have := o5.new k hk
          have := S4.out.lt k hx
          omega)
        have hm5r : m5 ≤ 500 := by
          have := hm5.out
          rw [← HS'.out] at this
          have h5 := HM.out
          have h6 := ins_len p S
          simp at this
          omega
        clear o5 b5 B4 S4 O4 hn4
        by_cases hmod : i % 16 = 0
        · have hmd : ((i : Int) % 16 == 0) = true := by simp; omega
          go_wp2_with (fail)
          refine (len_m F' bb r m5 S' w5 S5.out hm5).mono ?_
          rintro e w6 ⟨rfl, rfl⟩
          go_wp2_with (fail)
          refine (list_m F' bb r m5 S' w5 S5.out hm5 (by omega)).mono ?_
          rintro e w6 ⟨g6, rfl, o6, b6, _⟩
          have B6 := Lib.hid (B5.out.trans (b6.mono B5.out.size))
          have S6 := Lib.hid (S5.out.grow b6)
          have O6 := Lib.hid (O5.out.kept (Kept.of_below (F := []) b6 (Nat.le_refl _)) (by simp))
          have R6 := Lib.hid (HReads.of_own o6 (by have := hm5.out; omega))
          clear o6 b6 B5 S5 O5
          go_wp2_with (fail)
          refine (same_yes _ _ _ _ _ _ S' w6 R6.out (HReads.of_own O6.out.own (by have := hm5.out; omega))).mono ?_
          rintro e w8 ⟨rfl, b8⟩
          have B8 := Lib.hid (B6.out.trans (b8.mono B6.out.size))
          have S8 := Lib.hid (S6.out.grow b8)
          have O8 := Lib.hid (O6.out.kept (Kept.of_below (F := []) b8 (Nat.le_refl _)) (by simp))
          clear b8 B6 S6 O6 R6
          obtain ⟨y, hy⟩ : ∃ y, lastL S' = y := ⟨_, rfl⟩
          obtain ⟨f, hf⟩ : ∃ f, decide (S'.length = r) = f := ⟨_, rfl⟩
          have HY := Lib.hid hy
          have HFf := Lib.hid hf
          clear hy hf
          go_wp2_with (fail)
          refine (sel_worst F' bb r S' _ S8.out f HFf y HY).mono ?_
          rintro e w9 ⟨rfl, b9⟩
          have B9 := Lib.hid (B8.out.trans (b9.mono B8.out.size))
          have S9 := Lib.hid (S8.out.grow b9)
          have O9 := Lib.hid (O8.out.kept (Kept.of_below (F := []) b9 (Nat.le_refl _)) (by simp))
          clear b9 B8 S8 O8
          have hff : (f != f) = false := by simp
          have B10 := Lib.hid (B9.out.alloc B9.out.size (.cells #[.int .i64 y.1, .int .u32 y.2] 29))
          have S10 := Lib.hid (S9.out.kept ((Kept.refl [] _).alloc (.cells #[.int .i64 y.1, .int .u32 y.2] 29)) (by intro x _ hx; simp at hx))
          have O10 := Lib.hid (O9.out.kept ((Kept.refl [] _).alloc (.cells #[.int .i64 y.1, .int .u32 y.2] 29)) (by simp))
          clear B9 S9
          cases m5 with
          | zero =>
            have hn0 : S' = [] := List.eq_nil_of_length_eq_zero hm5.out
            obtain rfl : y = (0, 0) := by rw [← HY.out, hn0]; rfl
            have hE : ((0 : Int) == (r : Int)) = f := by
              rw [← HFf.out, hm5.out, Bool.eq_iff_iff]
              simp
              omega
            have hne := fun w => run_neq_hit (0, 0) (0, 0) w false (by simp)
            have HN0 := Lib.hid hn0
            clear hn0 HFf HY O9
            go_wp2
            go_quiet (fail)
            go_wp2
            go_roundw
            case rel => exact ⟨i + 1, 0, F', a5, c5, by go_num, rfl, by omega, by omega, by rw [HSN.out]; exact hm5.out, by rw [HSN.out]; exact S10.out.kept ((Kept.refl [] _).drewN _) (by intro x _ hx; simp at hx), by rw [HSN.out]; exact O10.out.kept ((Kept.refl [] _).drewN _) (by simp), X5.out, below_draws B10.out _, F3.out⟩
            case measure => simp [intOf]; omega
          | succ q =>
            obtain ⟨g5, rfl⟩ : ∃ g5, a5 = some ⟨g5, 0, none⟩ := by
              rcases O10.out.own.form with ⟨e, _⟩ | ⟨g5, _, _, e, _⟩
              · simp at e
              · simp at e
                exact ⟨g5, e.1⟩
            have hq : S'.getD q (0, 0) = y := by
              rw [← HY.out, lastL, List.getLast?_eq_getElem?, hm5.out, List.getD_eq_getElem?_getD]
              simp
            obtain ⟨d1, d2, _, d4⟩ := O9.out.own.cells q (by have := hm5.out; omega)
            rw [hq] at d1 d2
            have hE : ((q : Int) + 1 == (r : Int)) = f := by
              rw [← HFf.out, hm5.out, Bool.eq_iff_iff]
              simp
              omega
            have hne := fun w => run_neq_hit y y w false (by simp)
            have hgt : decide ((0 : Int) < (q : Int) + 1) = true := by rw [decide_eq_true_iff]; omega
            have hez : ((q : Int) + 1 == 0) = false := by rw [beq_eq_false_iff_ne]; omega
            clear hq HFf HY O9
            go_wp2
            go_quiet (fail)
            go_wp2
            go_roundw
            case rel => exact ⟨i + 1, q + 1, F', some ⟨g5, 0, none⟩, c5, by go_num, rfl, by omega, by omega, by rw [HSN.out]; exact hm5.out, by rw [HSN.out]; exact S10.out.kept ((Kept.refl [] _).drewN _) (by intro x _ hx; simp at hx), by rw [HSN.out]; exact O10.out.kept ((Kept.refl [] _).drewN _) (by simp), X5.out, below_draws B10.out _, F3.out⟩
            case measure => simp [intOf]; omega
        · have hmd : ((i : Int) % 16 == 0) = false := by simp; omega
          go_wp2_with (fail)
          refine (len_m F' bb r m5 S' w5 S5.out hm5).mono ?_
          rintro e w8 ⟨rfl, rfl⟩
          have B8 := B5
          have S8 := S5
          have O8 := O5
          clear B5 S5 O5
          obtain ⟨y, hy⟩ : ∃ y, lastL S' = y := ⟨_, rfl⟩
          obtain ⟨f, hf⟩ : ∃ f, decide (S'.length = r) = f := ⟨_, rfl⟩
          have HY := Lib.hid hy
          have HFf := Lib.hid hf
          clear hy hf
          go_wp2_with (fail)
          refine (sel_worst F' bb r S' _ S8.out f HFf y HY).mono ?_
          rintro e w9 ⟨rfl, b9⟩
          have B9 := Lib.hid (B8.out.trans (b9.mono B8.out.size))
          have S9 := Lib.hid (S8.out.grow b9)
          have O9 := Lib.hid (O8.out.kept (Kept.of_below (F := []) b9 (Nat.le_refl _)) (by simp))
          clear b9 B8 S8 O8
          have hff : (f != f) = false := by simp
          have B10 := Lib.hid (B9.out.alloc B9.out.size (.cells #[.int .i64 y.1, .int .u32 y.2] 29))
          have S10 := Lib.hid (S9.out.kept ((Kept.refl [] _).alloc (.cells #[.int .i64 y.1, .int .u32 y.2] 29)) (by intro x _ hx; simp at hx))
          have O10 := Lib.hid (O9.out.kept ((Kept.refl [] _).alloc (.cells #[.int .i64 y.1, .int .u32 y.2] 29)) (by simp))
          clear B9 S9
          cases m5 with
          | zero =>
            have hn0 : S' = [] := List.eq_nil_of_length_eq_zero hm5.out
            obtain rfl : y = (0, 0) := by rw [← HY.out, hn0]; rfl
            have hE : ((0 : Int) == (r : Int)) = f := by
              rw [← HFf.out, hm5.out, Bool.eq_iff_iff]
              simp
              omega
            have hne := fun w => run_neq_hit (0, 0) (0, 0) w false (by simp)
            have HN0 := Lib.hid hn0
            clear hn0 HFf HY O9
            go_wp2
            go_quiet (fail)
            go_wp2
            go_roundw
            case rel => exact ⟨i + 1, 0, F', a5, c5, by go_num, rfl, by omega, by omega, by rw [HSN.out]; exact hm5.out, by rw [HSN.out]; exact S10.out.kept ((Kept.refl [] _).drewN _) (by intro x _ hx; simp at hx), by rw [HSN.out]; exact O10.out.kept ((Kept.refl [] _).drewN _) (by simp), X5.out, below_draws B10.out _, F3.out⟩
            case measure => simp [intOf]; omega
          | succ q =>
            obtain ⟨g5, rfl⟩ : ∃ g5, a5 = some ⟨g5, 0, none⟩ := by
              rcases O10.out.own.form with ⟨e, _⟩ | ⟨g5, _, _, e, _⟩
              · simp at e
              · simp at e
                exact ⟨g5, e.1⟩
            have hq : S'.getD q (0, 0) = y := by
              rw [← HY.out, lastL, List.getLast?_eq_getElem?, hm5.out, List.getD_eq_getElem?_getD]
              simp
            obtain ⟨d1, d2, _, d4⟩ := O9.out.own.cells q (by have := hm5.out; omega)
            rw [hq] at d1 d2
            have hE : ((q : Int) + 1 == (r : Int)) = f := by
              rw [← HFf.out, hm5.out, Bool.eq_iff_iff]
              simp
              omega
            have hne := fun w => run_neq_hit y y w false (by simp)
            have hgt : decide ((0 : Int) < (q : Int) + 1) = true := by rw [decide_eq_true_iff]; omega
            have hez : ((q : Int) + 1 == 0) = false := by rw [beq_eq_false_iff_ne]; omega
            clear hq HFf HY O9
            go_wp2
            go_quiet (fail)
            go_wp2
            go_roundw
            case rel => exact ⟨i + 1, q + 1, F', some ⟨g5, 0, none⟩, c5, by go_num, rfl, by omega, by omega, by rw [HSN.out]; exact hm5.out, by rw [HSN.out]; exact S10.out.kept ((Kept.refl [] _).drewN _) (by intro x _ hx; simp at hx), by rw [HSN.out]; exact O10.out.kept ((Kept.refl [] _).drewN _) (by simp), X5.out, below_draws B10.out _, F3.out⟩
            case measure => simp [intOf]; omega
      · have hcase : ¬ i < n ∨ (i < n ∧ ¬ i < 400) := by omega
        have hfin : m ≤ 400 := by
          have h3 := putAll_len r [] (l.take i)
          have := HM.out
          simp at h3
          omega
        clear hc
        rcases hcase with h1 | ⟨h1, h2⟩
        all_goals
          go_wp2_with (fail)
          refine (list_m F bb r m _ wr HS.out HM (by omega)).mono ?_
          rintro e w6 ⟨g6, rfl, o6, b6, _⟩
          have B6 := Lib.hid (HB.out.trans (b6.mono HB.out.size))
          have O6 := Lib.hid (HO.out.kept (Kept.of_below (F := []) b6 (Nat.le_refl _)) (by simp))
          have R6 := Lib.hid (HReads.of_own o6 (by have := HM.out; omega))
          clear o6 b6
          go_wp2_with (fail)
          refine (same_yes _ _ _ _ _ _ _ w6 R6.out (HReads.of_own O6.out.own (by have := HM.out; omega))).mono ?_
          rintro e w8 ⟨rfl, b8⟩
          have B8 := Lib.hid (B6.out.trans (b8.mono B6.out.size))
          clear b8 R6 O6
          go_wp2
          go_ret
          exact ⟨rfl, B8.out⟩

theorem keeps_row : Rows.TopkKeepsSaid :=
  OpenClaim.holds_of_wide 3 Try.f3 rfl rfl rfl rfl rfl rfl rfl ⟨rfl, rfl, rfl, rfl, rfl⟩ rfl rfl rfl rfl rfl (by kernel_rfl) Try.func3 (by kernel_rfl)
    (of_decide_eq_true (by kernel_rfl)) (by unfold Func.isWrapper; rw [if_neg (of_decide_eq_false (by kernel_rfl))]; exact ⟨rfl, rfl⟩)
    (fun os started H enc _ => lift (C := Try.checked) (s := Rows.topkKeepsSpec) (conds := Rows.topkKeepsRow.domain) os started H enc prog_own (by kernel_rfl) Try.func3 prog_laid rfl Try.underlying4 rfl
      (fun ds hl => by
        have hl : ds.length = 2 := hl
        match ds, hl with
        | [_, _], _ => rfl)
      (of_decide_eq_true (by kernel_rfl))
      (ChangeSpec.witness6 (enc := enc) (C := Try.checked) false ⟨#[], #[.int .i64 0, .slice none 0 0], []⟩ 8 (by kernel_rfl) (by kernel_rfl) (by kernel_rfl) (by kernel_rfl))
      (fun W base args ds p g => by
        rw [Try.params3] at g
        obtain ⟨k, e0, _⟩ := g.int 0 rfl Try.underlying3
        obtain ⟨a1, n1, cap1, l1, e1, h1, m1, _⟩ := g.hits 1 rfl
        rw [args2 g.count e0 e1]
        exact keeps_walk k (min (max k 0) 256).toNat (show _ = _ from by omega) a1 n1 cap1 l1 W h1))
end Go.Proofs.Ytmdodfipkmmmkaa
