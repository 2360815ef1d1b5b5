/-
  TopkOrder holds: in what order hits are put makes no difference; a lesser selector keeps the beginning of what a greater one does.
-/
import Derived.Test.YtmdodfipkmmmkaaTv
namespace Go.Proofs.Ytmdodfipkmmmkaa
open Go.ChangeShapes Go.WideShapes Go.ChangeAt Go.RowKit

theorem reverse_snoc (l : List Hit) (N i : Nat) (hN : N ≤ l.length) (hi : i < N) : (l.take N).reverse.take (i + 1) = (l.take N).reverse.take i ++ [l.getD (N - 1 - i) (0, 0)] := by
  have h1 : (l.take N).reverse.length = N := by simp; omega
  rw [take_snoc' _ i (by omega)]
  congr 2
  rw [List.getD_eq_getElem?_getD, List.getD_eq_getElem?_getD, List.getElem?_reverse (by simp; omega), List.getElem?_take_of_lt (by simp; omega)]
  congr 2
  simp
  omega

/-- Three selectors, each in memory of its own. -/
structure Three (w : World) (b1 b2 b3 r1 r2 r3 : Nat) (s1 s2 s3 : List Hit) (wr : World) : Prop where
  ex : ∃ F1 F2 F3, SelF wr F1 b1 r1 s1 ∧ SelF wr F2 b2 r2 s2 ∧ SelF wr F3 b3 r3 s3 ∧ Apart F1 F2 ∧ Apart F1 F3 ∧ Apart F2 F3 ∧ (∀ x ∈ F1, w.heap.size ≤ x) ∧ (∀ x ∈ F2, w.heap.size ≤ x) ∧ (∀ x ∈ F3, w.heap.size ≤ x)
  below : Below w.heap.size w wr

theorem Three.grow {w wr w' : World} {b1 b2 b3 r1 r2 r3 : Nat} {s1 s2 s3 : List Hit} (h : Three w b1 b2 b3 r1 r2 r3 s1 s2 s3 wr) (hb : Below wr.heap.size wr w') : Three w b1 b2 b3 r1 r2 r3 s1 s2 s3 w' := by
  obtain ⟨⟨F1, F2, F3, h1, h2, h3, r⟩, hB⟩ := h
  exact ⟨⟨F1, F2, F3, h1.grow hb, h2.grow hb, h3.grow hb, r⟩, hB.trans (hb.mono hB.size)⟩
theorem Three.turn {w wr : World} {b1 b2 b3 r1 r2 r3 : Nat} {s1 s2 s3 : List Hit} (h : Three w b1 b2 b3 r1 r2 r3 s1 s2 s3 wr) : Three w b2 b3 b1 r2 r3 r1 s2 s3 s1 wr := by
  obtain ⟨⟨F1, F2, F3, h1, h2, h3, a12, a13, a23, g1, g2, g3⟩, hB⟩ := h
  exact ⟨⟨F2, F3, F1, h2, h3, h1, a23, a12.symm, a13.symm, g2, g3, g1⟩, hB⟩

theorem three_put (w wr : World) (b1 b2 b3 r1 r2 r3 : Nat) (s1 s2 s3 : List Hit) (p : Hit) (h : Three w b1 b2 b3 r1 r2 r3 s1 s2 s3 wr) (hs : s1.length < 1000000) :
    Calls Try.prog 12 #[.pointer (some ⟨b1, 0, none⟩), .agg #[.int .i64 p.1, .int .u32 p.2]] wr fun e w' => e = .returned (.tuple #[]) ∧ Three w b1 b2 b3 r1 r2 r3 ((ins p s1).take r1) s2 s3 w' := by
  obtain ⟨⟨F1, F2, F3, h1, h2, h3, a12, a13, a23, g1, g2, g3⟩, hB⟩ := h
  refine (sel_put F1 b1 r1 s1 p wr h1 hs).mono ?_
  rintro e w2 ⟨rfl, F', h', k', g'⟩
  refine ⟨rfl, ⟨F', F2, F3, h', h2.kept k' a12.symm, h3.kept k' a13.symm, a12.grows g' h2.lt, a13.grows g' h3.lt, a23, fun x hx => ?_, g2, g3⟩, hB.trans (k'.below g1 hB.size)⟩
  rcases g' x hx with h | h
  · exact g1 x h
  · have := hB.size; omega
theorem three_list (w wr : World) (b1 b2 b3 r1 r2 r3 : Nat) (s1 s2 s3 : List Hit) (h : Three w b1 b2 b3 r1 r2 r3 s1 s2 s3 wr) (hs : s1.length ≤ 1000000) :
    Calls Try.prog 17 #[.pointer (some ⟨b1, 0, none⟩)] wr fun e w' => ∃ a n c, e = .returned (.slice a n c) ∧ HReads w' a n s1 ∧ Below wr.heap.size wr w' ∧ Three w b1 b2 b3 r1 r2 r3 s1 s2 s3 w' := by
  obtain ⟨F1, F2, F3, h1, _⟩ := h.ex
  refine (sel_list F1 b1 r1 s1 wr h1 hs).mono ?_
  rintro e w2 ⟨g, rfl, ho, hb, _⟩
  exact ⟨_, _, _, rfl, HReads.of_own ho hs, hb, h.grow hb⟩

theorem three_new (w w1 w2 w3 w4 : World) (r1 r2 r3 : Nat) (hB : Below w.heap.size w w1) (h1 : SelF w2 [w1.heap.size, w1.heap.size + 1] (w1.heap.size + 1) r1 []) (b1 : Below w1.heap.size w1 w2)
    (h2 : SelF w3 [w2.heap.size, w2.heap.size + 1] (w2.heap.size + 1) r2 []) (b2 : Below w2.heap.size w2 w3) (h3 : SelF w4 [w3.heap.size, w3.heap.size + 1] (w3.heap.size + 1) r3 []) (b3 : Below w3.heap.size w3 w4) :
    Three w (w1.heap.size + 1) (w2.heap.size + 1) (w3.heap.size + 1) r1 r2 r3 [] [] [] w4 := by
  have l1 := h1.lt
  have l2 := h2.lt
  have z1 := hB.size
  have z2 := b1.size
  have z3 := b2.size
  have y1 := l1 (w1.heap.size + 1) (by simp)
  have y2 := l2 (w2.heap.size + 1) (by simp)
  refine ⟨⟨_, _, _, (h1.grow b2).grow b3, h2.grow b3, h3, ?_, ?_, ?_, ?_, ?_, ?_⟩, hB.trans ((b1.mono z1).trans ((b2.mono (by omega)).trans (b3.mono (by omega))))⟩
  all_goals (intro x hx; simp at hx; (try simp); omega)

set_option maxHeartbeats 3200000 in
theorem order_walk (r q N : Nat) (hr : r ≤ 256) (hq : q ≤ r) (a : Option Addr) (n cap : Nat) (l : List Hit) (w : World) (h : HReads w a n l) (hN : N ≤ n ∧ N ≤ 300 ∧ (N = n ∨ N = 300)) :
    Calls Try.prog 4 #[.int .i64 (r : Int), .int .i64 (q : Int), .slice a n cap] w fun e w' => e = .returned (.bool true) ∧ Below w.heap.size w w' := by
  have HC := Lib.hid h.cells
  have HL := Lib.hid h.len
  have hsm := h.small
  have HN := Lib.hid hN
  clear h hN
  go_enter Try.func4, Try.ntmps4
  go_wp2_with (fail)
  refine (alive2 w).mono ?_
  rintro e w1 ⟨rfl, hb1⟩
  have B1 := Lib.hid hb1
  clear hb1
  go_wp2_with (fail)
  refine (sel_new r w1 r (show _ = _ from by omega)).mono ?_
  rintro e w2 ⟨rfl, h1, k1⟩
  have H1 := Lib.hid h1
  have K1 := Lib.hid k1
  clear h1 k1
  go_wp2_with (fail)
  refine (sel_new r w2 r (show _ = _ from by omega)).mono ?_
  rintro e w3 ⟨rfl, h1, k1⟩
  have H2 := Lib.hid h1
  have K2 := Lib.hid k1
  clear h1 k1
  go_wp2_with (fail)
  refine (sel_new q w3 q (show _ = _ from by omega)).mono ?_
  rintro e w4 ⟨rfl, h1, k1⟩
  have T := Lib.hid (three_new w w1 w2 w3 w4 r r q B1.out H1.out K1.out H2.out K2.out h1 k1)
  clear h1 k1 H1 K1 H2 K2 B1
  generalize w1.heap.size + 1 = ba at *
  generalize w2.heap.size + 1 = bb at *
  generalize w3.heap.size + 1 = bc at *
  go_upto_region 6 with fail
  go_cut [10] (fun s10 wx => s10 = .int .i64 (N : Int) ∧ w4 = wx)
  case first =>
    obtain ⟨n1, n2, n3⟩ := HN.out
    rcases n3 with rfl | rfl
    · go_wp2_with (fail)
      all_goals (go_meet; first | exact ⟨rfl, rfl⟩ | exact ⟨by rw [show N = 300 by omega]; rfl, rfl⟩)
    · go_wp2_with (fail)
      all_goals (go_meet; first | exact ⟨rfl, rfl⟩ | exact ⟨by rw [show n = 300 by omega], rfl⟩)
  case rest =>
    obtain ⟨rfl, rfl⟩ := hcut
    go_wp2
    go_loopw [11] (fun s11 wr => ∃ (i : Nat), s11 = .int .i64 i ∧ i ≤ N ∧ Hid (Three w ba bb bc r r q (putAll r [] (l.take i)) (putAll r [] ((l.take N).reverse.take i)) (putAll q [] (l.take i)) wr)) (fun s11 _ => N - (intOf s11).toNat)
    case atStart => exact ⟨0, rfl, Nat.zero_le _, T.out⟩
    case round =>
      clear T
      obtain ⟨i, rfl, hi, HT⟩ := hrel
      obtain ⟨n1, n2, n3⟩ := HN.out
      by_cases h1 : i < N
      · rcases HC.out with h0 | ⟨bl, off, rfl, hlt, hcl⟩
        · omega
        obtain ⟨p, hp⟩ : ∃ p, l.getD i (0, 0) = p := ⟨_, rfl⟩
        obtain ⟨p', hp'⟩ : ∃ p', l.getD (N - 1 - i) (0, 0) = p' := ⟨_, rfl⟩
        have hcc := hcl i (by omega)
        have hcd := hcl (N - 1 - i) (by omega)
        rw [hp] at hcc
        rw [hp'] at hcd
        have HCC := Lib.hid hcc
        have HCD := Lib.hid hcd
        have hlen := HL.out
        have e1 := Lib.hid (show ∀ k, putAll k [] (l.take (i + 1)) = (ins p (putAll k [] (l.take i))).take k from fun k => by
          rw [take_snoc' l i (by omega), hp, putAll_snoc])
        have e2 := Lib.hid (show putAll r [] ((l.take N).reverse.take (i + 1)) = (ins p' (putAll r [] ((l.take N).reverse.take i))).take r from by
          rw [reverse_snoc l N i (by omega) h1, hp', putAll_snoc])
        have hjn : N - 1 - i < n := by omega
        have hin : i < n := by omega
        have hs1 := Lib.hid (show ∀ k, (putAll k [] (l.take i)).length < 1000000 from fun k => by have := putAll_len k [] (l.take i); simp at this; omega)
        have hs2 := Lib.hid (show (putAll r [] ((l.take N).reverse.take i)).length < 1000000 from by have := putAll_len r [] ((l.take N).reverse.take i); simp at this; omega)
        have t3 := (HT.out.below.cell (p := ⟨bl, off + i * 2, none⟩) hlt).trans hcc.1
        have t4 := (HT.out.below.cell (p := ⟨bl, off + i * 2 + 1, none⟩) hlt).trans hcc.2
        have t6 : bl < wr.heap.size := Nat.lt_of_lt_of_le hlt HT.out.below.size
        clear hp hp' hcl hcc hcd hlen
        go_wp2_with (fail)
        refine (three_put w wr ba bb bc r r q _ _ _ p HT.out (hs1.out r)).mono ?_
        rintro e w5 ⟨rfl, h5⟩
        rw [← e1.out] at h5
        have T5 := Lib.hid h5.turn
        clear h5 t3 t4 t6 HT
        have t3 := (T5.out.below.cell (p := ⟨bl, off + (N - 1 - i) * 2, none⟩) hlt).trans HCD.out.1
        have t4 := (T5.out.below.cell (p := ⟨bl, off + (N - 1 - i) * 2 + 1, none⟩) hlt).trans HCD.out.2
        have t6 : bl < w5.heap.size := Nat.lt_of_lt_of_le hlt T5.out.below.size
        go_wp2_with (fail)
        refine (three_put w w5 bb bc ba r q r _ _ _ p' T5.out hs2.out).mono ?_
        rintro e w6 ⟨rfl, h5⟩
        rw [← e2.out] at h5
        have T6 := Lib.hid h5.turn
        clear h5 t3 t4 t6 T5
        have t3 := (T6.out.below.cell (p := ⟨bl, off + i * 2, none⟩) hlt).trans HCC.out.1
        have t4 := (T6.out.below.cell (p := ⟨bl, off + i * 2 + 1, none⟩) hlt).trans HCC.out.2
        have t6 : bl < w6.heap.size := Nat.lt_of_lt_of_le hlt T6.out.below.size
        go_wp2_with (fail)
        refine (three_put w w6 bc ba bb q r r _ _ _ p T6.out (hs1.out q)).mono ?_
        rintro e w7 ⟨rfl, h5⟩
        rw [← e1.out] at h5
        have T7 := Lib.hid h5.turn
        clear h5 t3 t4 t6 T6
        go_wp2
        go_roundw
        case rel => exact ⟨i + 1, by go_num, by omega, T7.out⟩
        case measure => simp [intOf]; omega
      · have hiN : i = N := by omega
        have hlen := HL.out
        have eS : putAll r [] ((l.take N).reverse.take i) = putAll r [] (l.take i) := by
          rw [List.take_of_length_le (by simp; omega), putAll_nil, putAll_nil, keepL, keepL, sortL_eq (List.reverse_perm _), hiN]
        have eQ : putAll q [] (l.take i) = (putAll r [] (l.take i)).take q := by
          rw [putAll_nil, putAll_nil, keepL, keepL, List.take_take, Nat.min_eq_left hq]
        have hs0 := putAll_len r [] (l.take i)
        have hs1 := putAll_len q [] (l.take i)
        simp at hs0 hs1
        have hT := HT.out
        rw [eS] at hT
        generalize putAll r [] (l.take i) = S at *
        generalize putAll q [] (l.take i) = Q at *
        have T1 := Lib.hid hT
        have EQ := Lib.hid eQ
        have HSl := Lib.hid (show S.length ≤ 1000000 from by omega)
        have HQl := Lib.hid (show Q.length ≤ 1000000 from by omega)
        clear hT eS eQ HT hs0 hs1 hlen hiN
        go_wp2_with (fail)
        refine (three_list w wr ba bb bc r r q S S Q T1.out HSl.out).mono ?_
        rintro e w5 ⟨a1, m1, c1, rfl, r1, b1, h1'⟩
        have T2 := Lib.hid h1'.turn
        have R1 := Lib.hid r1
        clear r1 b1 h1' T1
        go_wp2_with (fail)
        refine (three_list w w5 bb bc ba r q r S Q S T2.out HSl.out).mono ?_
        rintro e w6 ⟨a2, m2, c2, rfl, r2, b2, h2'⟩
        have T3 := Lib.hid h2'.turn
        have R1' := Lib.hid (R1.out.below (Nat.le_refl _) b2)
        have R2 := Lib.hid r2
        clear r2 b2 h2' T2 R1
        go_wp2_with (fail)
        refine (same_yes a1 a2 m1 m2 c1 c2 S w6 R1'.out R2.out).mono ?_
        rintro e w7 ⟨rfl, b3⟩
        have T4 := Lib.hid (T3.out.grow b3)
        clear b3 T3 R1' R2
        go_wp2_with (fail)
        refine (three_list w w7 bc ba bb q r r Q S S T4.out HQl.out).mono ?_
        rintro e w8 ⟨a4, m4, c4, rfl, r4, b4, h4'⟩
        have T5 := Lib.hid h4'.turn
        have R4 := Lib.hid r4
        clear r4 b4 h4' T4
        go_wp2_with (fail)
        refine (three_list w w8 ba bb bc r r q S S Q T5.out HSl.out).mono ?_
        rintro e w9 ⟨a5, m5, c5, rfl, r5, b5, h5'⟩
        have B5 := Lib.hid h5'.below
        have R4' := Lib.hid (R4.out.below (Nat.le_refl _) b5)
        have R5 := Lib.hid r5
        clear r5 b5 h5' T5 R4
        go_wp2_with (fail)
        refine (first_any a5 m5 c5 q S w9 R5.out).mono ?_
        rintro e w10 ⟨v6, rfl, o6, b6⟩
        rw [Int.toNat_natCast, ← EQ.out] at o6
        obtain ⟨a6, m6, c6, rfl, hm6⟩ := o6.parts
        have B6 := Lib.hid (B5.out.trans (b6.mono B5.out.size))
        have R6 := Lib.hid (R4'.out.below (Nat.le_refl _) b6)
        have R7 := Lib.hid (HReads.of_own o6.own HQl.out)
        clear o6 b6 B5 R4' R5 hm6
        go_wp2_with (fail)
        refine (same_yes a4 a6 m4 m6 c4 c6 Q w10 R6.out R7.out).mono ?_
        rintro e w11 ⟨rfl, b7⟩
        have B7 := Lib.hid (B6.out.trans (b7.mono B6.out.size))
        clear b7 B6 R6 R7
        go_wp2
        go_ret
        exact ⟨rfl, B7.out⟩

set_option maxHeartbeats 1600000 in
theorem order_out (k q : Int) (a : Option Addr) (n cap : Nat) (w : World) (h : k < 0 ∨ (0 ≤ k ∧ 256 < k) ∨ (0 ≤ k ∧ k ≤ 256 ∧ q < 0) ∨ (0 ≤ k ∧ k ≤ 256 ∧ 0 ≤ q ∧ k < q)) :
    Calls Try.prog 4 #[.int .i64 k, .int .i64 q, .slice a n cap] w fun e w' => e = .returned (.bool true) ∧ Below w.heap.size w w' := by
  rcases h with h1 | ⟨h1, h2⟩ | ⟨h1, h2, h3⟩ | ⟨h1, h2, h3, h4⟩
  all_goals
    go_enter Try.func4, Try.ntmps4
    go_wp2_with (fail)
    refine (alive2 w).mono ?_
    rintro e w1 ⟨rfl, hb1⟩
    go_wp2
    go_ret
    exact ⟨rfl, hb1⟩

theorem order_row : Rows.TopkOrderSaid :=
  OpenClaim.holds_of_wide 4 Try.f4 rfl rfl rfl rfl rfl rfl rfl ⟨rfl, rfl, rfl, rfl, rfl⟩ rfl rfl rfl rfl rfl (by kernel_rfl) Try.func4 (by kernel_rfl)
    (of_decide_eq_true (by kernel_rfl)) (by unfold Func.isWrapper; rw [if_neg (of_decide_eq_false (by kernel_rfl))]; exact ⟨rfl, rfl⟩)
    (fun os started H enc _ => lift (C := Try.checked) (s := Rows.topkOrderSpec) (conds := Rows.topkOrderRow.domain) os started H enc prog_own (by kernel_rfl) Try.func4 prog_laid rfl Try.underlying4 rfl
      (fun ds hl => by
        have hl : ds.length = 3 := hl
        match ds, hl with
        | [_, _, _], _ => rfl)
      (of_decide_eq_true (by kernel_rfl))
      (ChangeSpec.witness6 (enc := enc) (C := Try.checked) false ⟨#[], #[.int .i64 0, .int .i64 0, .slice none 0 0], []⟩ 8 (by kernel_rfl) (by kernel_rfl) (by kernel_rfl) (by kernel_rfl))
      (fun W base args ds p g => by
        rw [Try.params4] at g
        obtain ⟨k, e0, _⟩ := g.int 0 rfl Try.underlying3
        obtain ⟨q, e1, _⟩ := g.int 1 rfl Try.underlying3
        obtain ⟨a1, n1, cap1, l1, e2, h1, m1, _⟩ := g.hits 2 rfl
        rw [args3 g.count e0 e1 e2]
        by_cases hin : 0 ≤ k ∧ k ≤ 256 ∧ 0 ≤ q ∧ q ≤ k
        · obtain ⟨r, rfl⟩ := Int.eq_ofNat_of_zero_le hin.1
          obtain ⟨q', rfl⟩ := Int.eq_ofNat_of_zero_le hin.2.2.1
          exact order_walk r q' (min n1 300) (by omega) (by omega) a1 n1 cap1 l1 W h1 (by omega)
        · exact order_out k q a1 n1 cap1 W (by omega)))
end Go.Proofs.Ytmdodfipkmmmkaa
