/-
  TopkFew holds: a selector of none keeps none; one of as many as are put keeps all, in order.
-/
import Derived.Test.YtmdodfipkmmmkaaTy
namespace Go.Proofs.Ytmdodfipkmmmkaa
open Go.ChangeShapes Go.WideShapes Go.ChangeAt Go.RowKit

/-- Two selectors, each in memory of its own. -/
structure Two (w : World) (b1 b2 r1 r2 : Nat) (s1 s2 : List Hit) (wr : World) : Prop where
  ex : ∃ F1 F2, SelF wr F1 b1 r1 s1 ∧ SelF wr F2 b2 r2 s2 ∧ Apart F1 F2 ∧ (∀ x ∈ F1, w.heap.size ≤ x) ∧ (∀ x ∈ F2, w.heap.size ≤ x)
  below : Below w.heap.size w wr
theorem Two.grow {w wr w' : World} {b1 b2 r1 r2 : Nat} {s1 s2 : List Hit} (h : Two w b1 b2 r1 r2 s1 s2 wr) (hb : Below wr.heap.size wr w') : Two w b1 b2 r1 r2 s1 s2 w' := by
  obtain ⟨⟨F1, F2, h1, h2, r⟩, hB⟩ := h
  exact ⟨⟨F1, F2, h1.grow hb, h2.grow hb, r⟩, hB.trans (hb.mono hB.size)⟩
theorem Two.turn {w wr : World} {b1 b2 r1 r2 : Nat} {s1 s2 : List Hit} (h : Two w b1 b2 r1 r2 s1 s2 wr) : Two w b2 b1 r2 r1 s2 s1 wr := by
  obtain ⟨⟨F1, F2, h1, h2, a12, g1, g2⟩, hB⟩ := h
  exact ⟨⟨F2, F1, h2, h1, a12.symm, g2, g1⟩, hB⟩
theorem two_put (w wr : World) (b1 b2 r1 r2 : Nat) (s1 s2 : List Hit) (p : Hit) (h : Two w b1 b2 r1 r2 s1 s2 wr) (hs : s1.length < 1000000) :
    Calls Try.prog 12 #[.pointer (some ⟨b1, 0, none⟩), .agg #[.int .i64 p.1, .int .u32 p.2]] wr fun e w' => e = .returned (.tuple #[]) ∧ Two w b1 b2 r1 r2 ((ins p s1).take r1) s2 w' := by
  obtain ⟨⟨F1, F2, h1, h2, a12, g1, g2⟩, hB⟩ := h
  refine (sel_put F1 b1 r1 s1 p wr h1 hs).mono ?_
  rintro e w2 ⟨rfl, F', h', k', g'⟩
  refine ⟨rfl, ⟨F', F2, h', h2.kept k' a12.symm, a12.grows g' h2.lt, fun x hx => ?_, g2⟩, hB.trans (k'.below g1 hB.size)⟩
  rcases g' x hx with h | h
  · exact g1 x h
  · have := hB.size; omega
theorem two_list (w wr : World) (b1 b2 r1 r2 m : Nat) (s1 s2 : List Hit) (h : Two w b1 b2 r1 r2 s1 s2 wr) (hm : Hid (s1.length = m)) (hs : m ≤ 1000000) :
    Calls Try.prog 17 #[.pointer (some ⟨b1, 0, none⟩)] wr fun e w' => ∃ g, e = .returned (.slice (some ⟨g, 0, none⟩) m m) ∧ HReads w' (some ⟨g, 0, none⟩) m s1 ∧ Below wr.heap.size wr w' := by
  obtain ⟨F1, F2, h1, _⟩ := h.ex
  refine (list_m F1 b1 r1 m s1 wr h1 hm hs).mono ?_
  rintro e w2 ⟨g, rfl, ho, hb, _⟩
  exact ⟨g, rfl, HReads.of_own ho (by have := hm.out; omega), hb⟩
theorem two_len (w wr : World) (b1 b2 r1 r2 m : Nat) (s1 s2 : List Hit) (h : Two w b1 b2 r1 r2 s1 s2 wr) (hm : Hid (s1.length = m)) :
    Calls Try.prog 15 #[.pointer (some ⟨b1, 0, none⟩)] wr fun e w' => e = .returned (.int .i64 m) ∧ wr = w' := by
  obtain ⟨F1, F2, h1, _⟩ := h.ex
  exact len_m F1 b1 r1 m s1 wr h1 hm
theorem HReads.cut {w : World} {a : Option Addr} {n : Nat} {xs : List Hit} (h : HReads w a n xs) (m : Nat) (hm : m ≤ n) : HReads w a m (xs.take m) := by
  have hl := h.len
  refine ⟨by simp; omega, by have := h.small; omega, ?_⟩
  rcases h.cells with h0 | ⟨b, off, e, hlt, hc⟩
  · exact .inl (by omega)
  · refine .inr ⟨b, off, e, hlt, fun i hi => ?_⟩
    have := hc i (by omega)
    rw [List.getD_eq_getElem?_getD] at this ⊢
    rw [List.getElem?_take_of_lt hi]
    exact this
theorem keepL_all (N : Nat) (l : List Hit) (h : l.length ≤ N) : keepL N l = sortL l := by
  rw [keepL, List.take_of_length_le (by rw [sortL_len]; exact h)]
theorem putAll_zero (l : List Hit) : putAll 0 [] l = [] := by rw [putAll_nil, keepL]; simp
theorem two_new (w w1 w2 w3 : World) (r1 r2 : Nat) (hB : Below w.heap.size w w1) (h1 : SelF w2 [w1.heap.size, w1.heap.size + 1] (w1.heap.size + 1) r1 []) (b1 : Below w1.heap.size w1 w2)
    (h2 : SelF w3 [w2.heap.size, w2.heap.size + 1] (w2.heap.size + 1) r2 []) (b2 : Below w2.heap.size w2 w3) : Two w (w1.heap.size + 1) (w2.heap.size + 1) r1 r2 [] [] w3 := by
  have l1 := h1.lt
  have z1 := hB.size
  have z2 := b1.size
  have y1 := l1 (w1.heap.size + 1) (by simp)
  refine ⟨⟨_, _, h1.grow b2, h2, ?_, ?_, ?_⟩, hB.trans ((b1.mono z1).trans (b2.mono (by omega)))⟩
  all_goals (intro x hx; simp at hx; (try simp); omega)

set_option maxHeartbeats 1500000 in
theorem few_walk (k : Int) (N : Nat) (a : Option Addr) (n cap : Nat) (l : List Hit) (w : World) (h : HReads w a n l) (hN : N ≤ n ∧ N ≤ 200 ∧ (N = n ∨ N = 200)) (hcap : n ≤ cap) (hnil : a = none → n = 0 ∧ cap = 0) :
    Calls Try.prog 7 #[.int .i64 k, .slice a n cap] w fun e w' => e = .returned (.bool true) ∧ Below w.heap.size w w' := by
  have HC := Lib.hid h.cells
  have HL := Lib.hid h.len
  have HR := Lib.hid h
  have hsm := h.small
  have HN := Lib.hid hN
  clear h hN
  go_enter Try.func7, Try.ntmps7
  go_wp2_with (fail)
  refine (alive2 w).mono ?_
  rintro e w1 ⟨rfl, hb1⟩
  have B1 := Lib.hid hb1
  clear hb1
  go_upto_region 3 with fail
  go_cut [5] (fun s5 wx => s5 = .int .i64 (N : Int) ∧ w1 = wx)
  case first =>
    obtain ⟨n1, n2, n3⟩ := HN.out
    rcases n3 with rfl | rfl
    · go_wp2_with (fail)
      all_goals (go_meet; first | exact ⟨rfl, rfl⟩ | exact ⟨by rw [show N = 200 by omega]; rfl, rfl⟩)
    · go_wp2_with (fail)
      all_goals (go_meet; first | exact ⟨rfl, rfl⟩ | exact ⟨by rw [show n = 200 by omega], rfl⟩)
  case rest =>
    obtain ⟨rfl, rfl⟩ := hcut
    obtain ⟨n1, n2, n3⟩ := HN.out
    go_upto_region 4 with fail
    go_cut [6, 7] (fun s6 s7 wx => ∃ ba bb : Nat, s6 = .pointer (some ⟨ba, 0, none⟩) ∧ s7 = .pointer (some ⟨bb, 0, none⟩) ∧ Hid (Two w ba bb 0 N [] [] wx))
    case first =>
      by_cases hk : k < 0
      all_goals
        go_wp2_with (fail)
        all_goals
          refine (sel_new _ w1 0 (show (_ : Int) = _ from by omega)).mono ?_
          rintro e w2 ⟨rfl, h1, k1⟩
          have H1 := Lib.hid h1
          have K1 := Lib.hid k1
          clear h1 k1
          go_wp2_with (fail)
          refine (sel_new N w2 N (show _ = _ from by omega)).mono ?_
          rintro e w3 ⟨rfl, h1, k1⟩
          have T := Lib.hid (two_new w w1 w2 w3 0 N B1.out H1.out K1.out h1 k1)
          clear h1 k1 H1 K1
          go_wp2_with (fail)
          go_meet
          exact ⟨_, _, rfl, rfl, T.out⟩
    case rest =>
      obtain ⟨ba, bb, rfl, rfl, HT0⟩ := hcut
      go_wp2
      go_loopw [8] (fun s8 wr => ∃ (i : Nat), s8 = .int .i64 i ∧ i ≤ N ∧ Hid (Two w ba bb 0 N [] (putAll N [] (l.take i)) wr)) (fun s8 _ => N - (intOf s8).toNat)
      case atStart => exact ⟨0, rfl, Nat.zero_le _, HT0.out⟩
      case round =>
        clear HT0
        obtain ⟨i, rfl, hi, HT⟩ := hrel
        by_cases h1 : i < N
        · rcases HC.out with h0 | ⟨bl, off, rfl, hlt, hcl⟩
          · omega
          obtain ⟨p, hp⟩ : ∃ p, l.getD i (0, 0) = p := ⟨_, rfl⟩
          have hcc := hcl i (by omega)
          rw [hp] at hcc
          have HCC := Lib.hid hcc
          have e1 := Lib.hid (show putAll N [] (l.take (i + 1)) = (ins p (putAll N [] (l.take i))).take N from by
            rw [take_snoc' l i (by have := HL.out; omega), hp, putAll_snoc])
          have hs1 := Lib.hid (show (putAll N [] (l.take i)).length < 1000000 from by have := putAll_len N [] (l.take i); simp at this; omega)
          have t3 := (HT.out.below.cell (p := ⟨bl, off + i * 2, none⟩) hlt).trans hcc.1
          have t4 := (HT.out.below.cell (p := ⟨bl, off + i * 2 + 1, none⟩) hlt).trans hcc.2
          have t6 : bl < wr.heap.size := Nat.lt_of_lt_of_le hlt HT.out.below.size
          have hin : i < n := by omega
          clear hp hcl hcc
          go_wp2_with (fail)
          refine (two_put w wr ba bb 0 N [] _ p HT.out (by simp)).mono ?_
          rintro e w5 ⟨rfl, h5⟩
          rw [List.take_zero] at h5
          have T5 := Lib.hid h5.turn
          clear h5 t3 t4 t6 HT
          have t3 := (T5.out.below.cell (p := ⟨bl, off + i * 2, none⟩) hlt).trans HCC.out.1
          have t4 := (T5.out.below.cell (p := ⟨bl, off + i * 2 + 1, none⟩) hlt).trans HCC.out.2
          have t6 : bl < w5.heap.size := Nat.lt_of_lt_of_le hlt T5.out.below.size
          go_wp2_with (fail)
          refine (two_put w w5 bb ba N 0 _ [] p T5.out hs1.out).mono ?_
          rintro e w6 ⟨rfl, h5⟩
          rw [← e1.out] at h5
          have T6 := Lib.hid h5.turn
          clear h5 t3 t4 t6 T5
          go_wp2
          go_roundw
          case rel => exact ⟨i + 1, by go_num, by omega, T6.out⟩
          case measure => simp [intOf]; omega
        · have hiN : i = N := by omega
          subst hiN
          have hS : putAll i [] (l.take i) = sortL (l.take i) := by rw [putAll_nil, keepL_all _ _ (by simp; omega)]
          rw [hS] at HT
          have HSl := Lib.hid (show (sortL (l.take i)).length = i from by rw [sortL_len]; have := HL.out; simp; omega)
          have HRi := Lib.hid ((HR.out.below (Nat.le_refl _) HT.out.below).cut i n1)
          clear hS
          obtain ⟨wo, rfl⟩ : ∃ wo : World, wo = wr := ⟨_, rfl⟩
          have HT1 := HT.out
          obtain ⟨F1, F2, hs1, hs2, _⟩ := HT1.ex
          have HS1 := Lib.hid hs1
          clear hs1 hs2 HT1
          go_wp2_with (fail)
          refine (sel_worst F1 ba 0 [] _ HS1.out true rfl (0, 0) rfl).mono ?_
          rintro e w5 ⟨rfl, b5⟩
          have T5 := (HT.out.grow b5).grow ((Below.refl _ _).alloc (Nat.le_refl _) (.cells #[.int .i64 0, .int .u32 0] 29))
          have R5 := (HRi.out.below (Nat.le_refl _) b5).below (Nat.le_refl _) ((Below.refl _ _).alloc (Nat.le_refl _) (.cells #[.int .i64 0, .int .u32 0] 29))
          have T5' := Lib.hid T5
          have R5' := Lib.hid R5
          clear T5 R5 b5 HT HRi HS1
          go_wp2
          generalize w5.alloc (.cells #[.int .i64 0, .int .u32 0] 29) = w6 at *
          have TT := T5'.out.grow (Below.refl _ _).drew
          have RR := R5'.out.below (Nat.le_refl _) (Below.refl _ _).drew
          have hic : (i : Int) ≤ (cap : Int) := by omega
          have BB := Lib.hid T5'.out.below
          clear T5' R5'
          have hnl := Lib.hid hnil
          clear hnil
          cases a with
          | none =>
            obtain ⟨z1, z2⟩ := hnl.out rfl
            subst z1 z2
            obtain rfl : i = 0 := by omega
            clear hnl
            go_region_held3 (fun w' => Below w6.heap.size w6 w')
              (first
                | (go_keep; done)
                | exact Below.refl _ _
                | exact (Below.refl _ _).drew
                | assumption
                | exact below_on (by assumption) hbel)
              (first
              | (go_at_call_of 15 (Value.pointer (some ⟨ba, 0, none⟩)); refine (two_len w _ ba bb 0 0 0 [] _ TT rfl).mono ?_; rintro e w' ⟨rfl, rfl⟩)
              | (go_at_call_of 17 (Value.pointer (some ⟨ba, 0, none⟩)); refine (two_list w _ ba bb 0 0 0 [] _ TT rfl (by omega)).mono ?_; rintro e w' ⟨g, rfl, hg, hbel⟩; replace TT := TT.grow hbel; replace RR := RR.below (Nat.le_refl _) hbel; (try replace RS := HReads.below RS (Nat.le_refl _) hbel); (try replace RB := HReads.below RB (Nat.le_refl _) hbel); clear hg)
              | (go_at_call_of 17 (Value.pointer (some ⟨bb, 0, none⟩)); refine (two_list w _ bb ba 0 0 0 _ [] TT.turn HSl (by omega)).mono ?_; rintro e w' ⟨g, rfl, RB, hbel⟩; replace TT := TT.grow hbel; replace RR := RR.below (Nat.le_refl _) hbel; (try replace RS := HReads.below RS (Nat.le_refl _) hbel))
              | (go_at_call 19; refine (sort_any _ 0 0 _ _ RR (by omega)).mono ?_; rintro e w' ⟨v, rfl, ho, hbel⟩; obtain ⟨sa, sn, sc, rfl, hns⟩ := ho.parts; have RS := HReads.of_own ho.own (by have := HSl.out; omega); replace TT := TT.grow hbel; replace RR := RR.below (Nat.le_refl _) hbel; (try replace RB := HReads.below RB (Nat.le_refl _) hbel); clear ho)
              | (go_at_call 16; refine (same_yes _ _ _ _ _ _ _ _ RB RS).mono ?_; rintro e w' ⟨rfl, hbel⟩; replace TT := TT.grow hbel))
            rename_i hH
            have BF := BB.out.trans (hH.mono BB.out.size)
            clear hH TT RR
            go_wp2
            go_ret
            exact ⟨rfl, BF⟩
          | some ad =>
            go_region_held3 (fun w' => Below w6.heap.size w6 w')
              (first
                | (go_keep; done)
                | exact Below.refl _ _
                | exact (Below.refl _ _).drew
                | assumption
                | exact below_on (by assumption) hbel)
              (first
              | (go_at_call_of 15 (Value.pointer (some ⟨ba, 0, none⟩)); refine (two_len w _ ba bb 0 i 0 [] _ TT rfl).mono ?_; rintro e w' ⟨rfl, rfl⟩)
              | (go_at_call_of 17 (Value.pointer (some ⟨ba, 0, none⟩)); refine (two_list w _ ba bb 0 i 0 [] _ TT rfl (by omega)).mono ?_; rintro e w' ⟨g, rfl, hg, hbel⟩; replace TT := TT.grow hbel; replace RR := RR.below (Nat.le_refl _) hbel; (try replace RS := HReads.below RS (Nat.le_refl _) hbel); (try replace RB := HReads.below RB (Nat.le_refl _) hbel); clear hg)
              | (go_at_call_of 17 (Value.pointer (some ⟨bb, 0, none⟩)); refine (two_list w _ bb ba i 0 i _ [] TT.turn HSl (by omega)).mono ?_; rintro e w' ⟨g, rfl, RB, hbel⟩; replace TT := TT.grow hbel; replace RR := RR.below (Nat.le_refl _) hbel; (try replace RS := HReads.below RS (Nat.le_refl _) hbel))
              | (go_at_call 19; refine (sort_any _ i cap _ _ RR (by omega)).mono ?_; rintro e w' ⟨v, rfl, ho, hbel⟩; obtain ⟨sa, sn, sc, rfl, hns⟩ := ho.parts; have RS := HReads.of_own ho.own (by have := HSl.out; omega); replace TT := TT.grow hbel; replace RR := RR.below (Nat.le_refl _) hbel; (try replace RB := HReads.below RB (Nat.le_refl _) hbel); clear ho)
              | (go_at_call 16; refine (same_yes _ _ _ _ _ _ _ _ RB RS).mono ?_; rintro e w' ⟨rfl, hbel⟩; replace TT := TT.grow hbel))
            rename_i hH
            have BF := BB.out.trans (hH.mono BB.out.size)
            clear hH TT RR
            go_wp2
            go_ret
            exact ⟨rfl, BF⟩

theorem few_row : Rows.TopkFewSaid :=
  OpenClaim.holds_of_wide 7 Try.f7 rfl rfl rfl rfl rfl rfl rfl ⟨rfl, rfl, rfl, rfl, rfl⟩ rfl rfl rfl rfl rfl (by kernel_rfl) Try.func7 (by kernel_rfl)
    (of_decide_eq_true (by kernel_rfl)) (by unfold Func.isWrapper; rw [if_neg (of_decide_eq_false (by kernel_rfl))]; exact ⟨rfl, rfl⟩)
    (fun os started H enc _ => lift (C := Try.checked) (s := Rows.topkFewSpec) (conds := Rows.topkFewRow.domain) os started H enc prog_own (by kernel_rfl) Try.func7 prog_laid rfl Try.underlying4 rfl
      (fun ds hl => by
        have hl : ds.length = 2 := hl
        match ds, hl with
        | [_, _], _ => rfl)
      (of_decide_eq_true (by kernel_rfl))
      (ChangeSpec.witness6 (enc := enc) (C := Try.checked) false ⟨#[], #[.int .i64 0, .slice none 0 0], []⟩ 8 (by kernel_rfl) (by kernel_rfl) (by kernel_rfl) (by kernel_rfl))
      (fun W base args ds p g => by
        rw [Try.params7] at g
        obtain ⟨k, e0, _⟩ := g.int 0 rfl Try.underlying3
        obtain ⟨a1, n1, cap1, l1, e1, h1, m1, hc⟩ := g.hits 1 rfl
        rw [args2 g.count e0 e1]
        exact few_walk k (min n1 200) a1 n1 cap1 l1 W h1 (by omega) hc m1))
end Go.Proofs.Ytmdodfipkmmmkaa
