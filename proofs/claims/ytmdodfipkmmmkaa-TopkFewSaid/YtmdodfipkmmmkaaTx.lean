/-
  TopkTwo holds: what two selectors keep, merged, is what one keeps to which all was put.
-/
import Derived.Test.YtmdodfipkmmmkaaTw
namespace Go.Proofs.Ytmdodfipkmmmkaa
open Go.ChangeShapes Go.WideShapes Go.ChangeAt Go.RowKit

theorem keepL_keepL (k : Nat) (l : List Hit) : keepL k (keepL k l) = keepL k l := by
  have h : sortL (keepL k l) = keepL k l := order_eq (sortL_order _) (keepL_order k l) (sortL_perm _)
  rw [keepL, h, keepL, List.take_take, Nat.min_self]
theorem keepL_left (k : Nat) (u v : List Hit) : keepL k (keepL k u ++ v) = keepL k (u ++ v) := by
  have e1 := putAll_app k [] (keepL k u) v
  have e2 := putAll_app k [] u v
  rw [putAll_nil, putAll_nil, keepL_keepL] at e1
  rw [putAll_nil, putAll_nil] at e2
  rw [e1, e2]
theorem keepL_swap (k : Nat) (u v : List Hit) : keepL k (u ++ v) = keepL k (v ++ u) := by
  rw [keepL, keepL, sortL_eq List.perm_append_comm]
theorem keepL_two (k : Nat) (u v : List Hit) : keepL k (keepL k u ++ keepL k v) = keepL k (u ++ v) := by
  rw [keepL_left, keepL_swap, keepL_left, keepL_swap]

set_option maxHeartbeats 3200000 in
theorem two_walk (r : Nat) (hr : r ≤ 256) (a1 a2 : Option Addr) (n1 n2 cap1 cap2 : Nat) (l1 l2 : List Hit) (w : World) (h1 : HReads w a1 n1 l1) (h2 : HReads w a2 n2 l2) (hn1 : n1 ≤ 200) (hn2 : n2 ≤ 200) :
    Calls Try.prog 9 #[.int .i64 (r : Int), .slice a1 n1 cap1, .slice a2 n2 cap2] w fun e w' => e = .returned (.bool true) ∧ Below w.heap.size w w' := by
  have HC1 := Lib.hid h1.cells
  have HL1 := Lib.hid h1.len
  have HC2 := Lib.hid h2.cells
  have HL2 := Lib.hid h2.len
  clear h1 h2
  go_enter Try.func9, Try.ntmps9
  go_wp2_with (fail)
  refine (alive2 w).mono ?_
  rintro e w1 ⟨rfl, hb1⟩
  have B1 := Lib.hid hb1
  clear hb1
  go_wp2_with (fail)
  refine (sel_new r w1 r (show _ = _ from by omega)).mono ?_
  rintro e w2 ⟨rfl, h1, k1⟩
  have H1 := Lib.hid h1
  have K1 := Lib.hid k1
  clear h1 k1
  go_wp2_with (fail)
  refine (sel_new r w2 r (show _ = _ from by omega)).mono ?_
  rintro e w3 ⟨rfl, h1, k1⟩
  have H2 := Lib.hid h1
  have K2 := Lib.hid k1
  clear h1 k1
  go_wp2_with (fail)
  refine (sel_new r w3 r (show _ = _ from by omega)).mono ?_
  rintro e w4 ⟨rfl, h1, k1⟩
  have T := Lib.hid (three_new w w1 w2 w3 w4 r r r B1.out H1.out K1.out H2.out K2.out h1 k1)
  clear h1 k1 H1 K1 H2 K2 B1
  generalize w1.heap.size + 1 = ba at *
  generalize w2.heap.size + 1 = bb at *
  generalize w3.heap.size + 1 = bc at *
  go_wp2
  go_loopw [10] (fun s10 wr => ∃ (i : Nat), s10 = .int .i64 i ∧ i ≤ n1 ∧ Hid (Three w ba bb bc r r r (putAll r [] (l1.take i)) [] (putAll r [] (l1.take i)) wr)) (fun s10 _ => n1 - (intOf s10).toNat)
  case atStart => exact ⟨0, rfl, Nat.zero_le _, T.out⟩
  case round =>
    clear T
    obtain ⟨i, rfl, hi, HT⟩ := hrel
    by_cases h1 : i < n1
    · rcases HC1.out with h0 | ⟨bl, off, rfl, hlt, hcl⟩
      · omega
      obtain ⟨p, hp⟩ : ∃ p, l1.getD i (0, 0) = p := ⟨_, rfl⟩
      have hcc := hcl i h1
      rw [hp] at hcc
      have HCC := Lib.hid hcc
      have e1 := Lib.hid (show putAll r [] (l1.take (i + 1)) = (ins p (putAll r [] (l1.take i))).take r from by
        rw [take_snoc' l1 i (by have := HL1.out; omega), hp, putAll_snoc])
      have hs1 := Lib.hid (show (putAll r [] (l1.take i)).length < 1000000 from by have := putAll_len r [] (l1.take i); simp at this; omega)
      have t3 := (HT.out.below.cell (p := ⟨bl, off + i * 2, none⟩) hlt).trans hcc.1
      have t4 := (HT.out.below.cell (p := ⟨bl, off + i * 2 + 1, none⟩) hlt).trans hcc.2
      have t6 : bl < wr.heap.size := Nat.lt_of_lt_of_le hlt HT.out.below.size
      clear hp hcl hcc
      go_wp2_with (fail)
      refine (three_put w wr ba bb bc r r r _ _ _ p HT.out hs1.out).mono ?_
      rintro e w5 ⟨rfl, h5⟩
      rw [← e1.out] at h5
      have T5 := Lib.hid h5.turn.turn
      clear h5 t3 t4 t6 HT
      have t3 := (T5.out.below.cell (p := ⟨bl, off + i * 2, none⟩) hlt).trans HCC.out.1
      have t4 := (T5.out.below.cell (p := ⟨bl, off + i * 2 + 1, none⟩) hlt).trans HCC.out.2
      have t6 : bl < w5.heap.size := Nat.lt_of_lt_of_le hlt T5.out.below.size
      go_wp2_with (fail)
      refine (three_put w w5 bc ba bb r r r _ _ _ p T5.out hs1.out).mono ?_
      rintro e w6 ⟨rfl, h5⟩
      rw [← e1.out] at h5
      have T6 := Lib.hid h5.turn
      clear h5 t3 t4 t6 T5
      go_wp2
      go_roundw
      case rel => exact ⟨i + 1, by go_num, by omega, T6.out⟩
      case measure => simp [intOf]; omega
    · have ht : l1.take i = l1 := List.take_of_length_le (by have := HL1.out; omega)
      rw [ht] at HT
      have hs1 := Lib.hid (show (putAll r [] l1).length ≤ 200 from by have := putAll_len r [] l1; have := HL1.out; simp only [List.length_nil] at *; omega)
      clear ht
      obtain ⟨wo, rfl⟩ : ∃ wo : World, wo = wr := ⟨_, rfl⟩
      go_wp2
      go_loopw [11] (fun s11 wr => ∃ (i : Nat), s11 = .int .i64 i ∧ i ≤ n2 ∧ Hid (Three w ba bb bc r r r (putAll r [] l1) (putAll r [] (l2.take i)) (putAll r (putAll r [] l1) (l2.take i)) wr)) (fun s11 _ => n2 - (intOf s11).toNat)
      case atStart => exact ⟨0, rfl, Nat.zero_le _, HT.out⟩
      case round =>
        clear HT
        obtain ⟨i, rfl, hi, HT⟩ := hrel
        by_cases h1 : i < n2
        · rcases HC2.out with h0 | ⟨bl, off, rfl, hlt, hcl⟩
          · omega
          obtain ⟨p, hp⟩ : ∃ p, l2.getD i (0, 0) = p := ⟨_, rfl⟩
          have hcc := hcl i h1
          rw [hp] at hcc
          have HCC := Lib.hid hcc
          have e1 := Lib.hid (show ∀ s, putAll r s (l2.take (i + 1)) = (ins p (putAll r s (l2.take i))).take r from fun s => by
            rw [take_snoc' l2 i (by have := HL2.out; omega), hp, putAll_snoc])
          have hs2 := Lib.hid (show (putAll r [] (l2.take i)).length < 1000000 from by have := putAll_len r [] (l2.take i); simp at this; omega)
          have hs3 := Lib.hid (show (putAll r (putAll r [] l1) (l2.take i)).length < 1000000 from by have := putAll_len r (putAll r [] l1) (l2.take i); have := hs1.out; simp at *; omega)
          have t3 := (HT.out.below.cell (p := ⟨bl, off + i * 2, none⟩) hlt).trans hcc.1
          have t4 := (HT.out.below.cell (p := ⟨bl, off + i * 2 + 1, none⟩) hlt).trans hcc.2
          have t6 : bl < wr.heap.size := Nat.lt_of_lt_of_le hlt HT.out.below.size
          have HT1 := Lib.hid HT.out.turn
          clear hp hcl hcc HT
          go_wp2_with (fail)
          refine (three_put w wr bb bc ba r r r _ _ _ p HT1.out hs2.out).mono ?_
          rintro e w5 ⟨rfl, h5⟩
          rw [← e1.out] at h5
          have T5 := Lib.hid h5.turn
          clear h5 t3 t4 t6 HT1
          have t3 := (T5.out.below.cell (p := ⟨bl, off + i * 2, none⟩) hlt).trans HCC.out.1
          have t4 := (T5.out.below.cell (p := ⟨bl, off + i * 2 + 1, none⟩) hlt).trans HCC.out.2
          have t6 : bl < w5.heap.size := Nat.lt_of_lt_of_le hlt T5.out.below.size
          go_wp2_with (fail)
          refine (three_put w w5 bc ba bb r r r _ _ _ p T5.out hs3.out).mono ?_
          rintro e w6 ⟨rfl, h5⟩
          rw [← e1.out] at h5
          have T6 := Lib.hid h5.turn
          clear h5 t3 t4 t6 T5
          go_wp2
          go_roundw
          case rel => exact ⟨i + 1, by go_num, by omega, T6.out⟩
          case measure => simp [intOf]; omega
        · have ht : l2.take i = l2 := List.take_of_length_le (by have := HL2.out; omega)
          rw [ht] at HT
          have hs2 := Lib.hid (show (putAll r [] l2).length ≤ 200 from by have := putAll_len r [] l2; have := HL2.out; simp only [List.length_nil] at *; omega)
          have hs3 := Lib.hid (show (putAll r (putAll r [] l1) l2).length ≤ 400 from by have := putAll_len r (putAll r [] l1) l2; have := HL2.out; have := hs1.out; omega)
          have eE : keepL r (putAll r [] l1 ++ putAll r [] l2) = putAll r (putAll r [] l1) l2 := by
            rw [putAll_nil r l2, ← putAll_app, putAll_nil, putAll_nil, keepL_two]
          have EE := Lib.hid eE
          generalize putAll r (putAll r [] l1) l2 = Z at *
          generalize putAll r [] l1 = X at *
          generalize putAll r [] l2 = Y at *
          clear ht eE
          go_wp2_with (fail)
          refine (three_list w wr ba bb bc r r r X Y Z HT.out (by have := hs1.out; omega)).mono ?_
          rintro e w5 ⟨a3, m1, c1, rfl, r1, b1, h1'⟩
          have T2 := Lib.hid h1'.turn
          have R1 := Lib.hid r1
          have M1 := Lib.hid (show m1 ≤ 200 from by have := r1.len; have := hs1.out; omega)
          clear r1 b1 h1' HT
          go_wp2_with (fail)
          refine (three_list w w5 bb bc ba r r r Y Z X T2.out (by have := hs2.out; omega)).mono ?_
          rintro e w6 ⟨a4, m2, c2, rfl, r2, b2, h2'⟩
          have T3 := Lib.hid h2'.turn
          have R1' := Lib.hid (R1.out.below (Nat.le_refl _) b2)
          have R2 := Lib.hid r2
          have M2 := Lib.hid (show m2 ≤ 200 from by have := r2.len; have := hs2.out; omega)
          clear r2 b2 h2' T2 R1
          go_wp2_with (fail)
          refine (merge_any a3 a4 m1 m2 c1 c2 r X Y r (show _ = _ from by omega) w6 R1'.out R2.out (by have := M1.out; omega) (by have := M2.out; omega)).mono ?_
          rintro e w7 ⟨g7, m7, rfl, o7, b7, _⟩
          rw [EE.out] at o7
          have T4 := Lib.hid (T3.out.grow b7)
          have R7 := Lib.hid (HReads.of_own o7 (by have := hs3.out; omega))
          clear o7 b7 T3 R1' R2
          go_wp2_with (fail)
          refine (three_list w w7 bc ba bb r r r Z X Y T4.out (by have := hs3.out; omega)).mono ?_
          rintro e w8 ⟨a8, m8, c8, rfl, r8, b8, h8⟩
          have B8 := Lib.hid h8.below
          have R8 := Lib.hid r8
          have R7' := Lib.hid (R7.out.below (Nat.le_refl _) b8)
          clear r8 b8 h8 T4 R7
          go_wp2_with (fail)
          refine (same_yes _ a8 _ m8 _ c8 Z w8 R7'.out R8.out).mono ?_
          rintro e w9 ⟨rfl, b9⟩
          have B9 := Lib.hid (B8.out.trans (b9.mono B8.out.size))
          clear b9 B8 R7' R8
          go_wp2
          go_ret
          exact ⟨rfl, B9.out⟩

set_option maxHeartbeats 1600000 in
theorem two_out (k : Int) (a1 a2 : Option Addr) (n1 n2 cap1 cap2 : Nat) (w : World) (hn1 : n1 ≤ 140737488351232) (hn2 : n2 ≤ 140737488351232) (h : k < 0 ∨ (0 ≤ k ∧ 256 < k) ∨ (0 ≤ k ∧ k ≤ 256 ∧ 200 < n1) ∨ (0 ≤ k ∧ k ≤ 256 ∧ n1 ≤ 200 ∧ 200 < n2)) :
    Calls Try.prog 9 #[.int .i64 k, .slice a1 n1 cap1, .slice a2 n2 cap2] w fun e w' => e = .returned (.bool true) ∧ Below w.heap.size w w' := by
  rcases h with h1 | ⟨h1, h2⟩ | ⟨h1, h2, h3⟩ | ⟨h1, h2, h3, h4⟩
  all_goals
    go_enter Try.func9, Try.ntmps9
    go_wp2_with (fail)
    refine (alive2 w).mono ?_
    rintro e w1 ⟨rfl, hb1⟩
    go_wp2
    go_ret
    exact ⟨rfl, hb1⟩

theorem two_row : Rows.TopkTwoSaid :=
  OpenClaim.holds_of_wide 9 Try.f9 rfl rfl rfl rfl rfl rfl rfl ⟨rfl, rfl, rfl, rfl, rfl⟩ rfl rfl rfl rfl rfl (by kernel_rfl) Try.func9 (by kernel_rfl)
    (of_decide_eq_true (by kernel_rfl)) (by unfold Func.isWrapper; rw [if_neg (of_decide_eq_false (by kernel_rfl))]; exact ⟨rfl, rfl⟩)
    (fun os started H enc _ => lift (C := Try.checked) (s := Rows.topkTwoSpec) (conds := Rows.topkTwoRow.domain) os started H enc prog_own (by kernel_rfl) Try.func9 prog_laid rfl Try.underlying4 rfl
      (fun ds hl => by
        have hl : ds.length = 3 := hl
        match ds, hl with
        | [_, _, _], _ => rfl)
      (of_decide_eq_true (by kernel_rfl))
      (ChangeSpec.witness6 (enc := enc) (C := Try.checked) false ⟨#[], #[.int .i64 0, .slice none 0 0, .slice none 0 0], []⟩ 8 (by kernel_rfl) (by kernel_rfl) (by kernel_rfl) (by kernel_rfl))
      (fun W base args ds p g => by
        rw [Try.params9] at g
        obtain ⟨k, e0, _⟩ := g.int 0 rfl Try.underlying3
        obtain ⟨a1, n1, cap1, l1, e1, h1, m1, _⟩ := g.hits 1 rfl
        obtain ⟨a2, n2, cap2, l2, e2, h2, m2, _⟩ := g.hits 2 rfl
        rw [args3 g.count e0 e1 e2]
        by_cases hin : 0 ≤ k ∧ k ≤ 256 ∧ n1 ≤ 200 ∧ n2 ≤ 200
        · obtain ⟨r, rfl⟩ := Int.eq_ofNat_of_zero_le hin.1
          exact two_walk r (by omega) a1 a2 n1 n2 cap1 cap2 l1 l2 W h1 h2 hin.2.2.1 hin.2.2.2
        · exact two_out k a1 a2 n1 n2 cap1 cap2 W (by have := h1.small; omega) (by have := h2.small; omega) (by omega)))
end Go.Proofs.Ytmdodfipkmmmkaa
