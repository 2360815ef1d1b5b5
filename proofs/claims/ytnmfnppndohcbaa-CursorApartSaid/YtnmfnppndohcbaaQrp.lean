/-
  CursorApart holds: nobody but its owner takes from a cursor, or closes it.
-/
import Derived.Test.YtnmfnppndohcbaaRows
import Derived.Test.YtnmfnppndohcbaaQro
namespace Go.Proofs.Ytnmfnppndohcbaa
open Go.ChangeShapes Go.WideShapes Go.ChangeAt Go.RowKit

def cuP (owner told : Nat) (l : List (Int × Int)) : CurV := ⟨1, owner, 3, ⟨[1], [], [], []⟩, 0, told, EndV.nil, if told = 0 then EndV.nil else endOf EndV.nil l⟩
theorem reads_one (w : World) (z : Int) (hz : (Lit.int .i64 z).wf = true) : Reads .i64 (w.alloc (.cells #[.int .i64 z] 3)) (some ⟨w.heap.size, 0, none⟩) 1 [z] := by
  have h := Reads.built (k := .i64) w [z] 3 (by simp) (by simpa using hz)
  simpa using h
theorem endOf_has (l : List (Int × Int)) (n : Nat) (h : l.length = n) : (endOf EndV.nil l).has = decide (0 < n) := by
  unfold endOf
  cases e : l.getLast? with
  | none =>
    rw [List.getLast?_eq_none_iff] at e
    subst e
    simp at h
    subst h
    rfl
  | some x =>
    have : l ≠ [] := by
      intro hh
      rw [hh] at e
      cases e
    have h2 := List.length_pos_iff.2 this
    simp only
    exact (decide_eq_true (by omega)).symm
theorem cuP_other {owner other : Nat} (hne : owner ≠ other) (l : List (Int × Int)) (page : Nat) : (⟨[cuP owner 1 l], 1, 5⟩ : CTab).own other 1 = none ∧ (⟨[cuP owner 1 l], 1, 5⟩ : CTab).takeE other 1 page = 140 ∧ (⟨[cuP owner 1 l], 1, 5⟩ : CTab).pins (isOwner other) = [] ∧ (⟨[cuP owner 1 l], 1, 5⟩ : CTab).less (isOwner other) = ⟨[cuP owner 1 l], 1, 5⟩ := by
  have h1 : (⟨[cuP owner 1 l], 1, 5⟩ : CTab).own other 1 = none := by
    unfold CTab.own
    rw [List.find?_cons_of_neg (by simp [cuP, hne])]
    rfl
  have h3 : isOwner other (cuP owner 1 l) = false := decide_eq_false hne
  refine ⟨h1, by unfold CTab.takeE; rw [h1], ?_, ?_⟩
  · unfold CTab.pins
    simp [h3]
  · unfold CTab.less
    simp [h3]
theorem cuP_own (owner : Nat) (l : List (Int × Int)) : (⟨[cuP owner 1 l], 1, 5⟩ : CTab).own owner 1 = some (cuP owner 1 l) ∧ (⟨[cuP owner 1 l], 1, 5⟩ : CTab).pins (isOwner owner) = [3] := by
  have h3 : isOwner owner (cuP owner 1 l) = true := decide_eq_true rfl
  refine ⟨?_, ?_⟩
  · unfold CTab.own
    rw [List.find?_cons_of_pos (by simp [cuP])]
  · unfold CTab.pins
    simp [h3]
    rfl
theorem cuP_told (owner : Nat) (l : List (Int × Int)) : (⟨[cuP owner 0 l], 1, 5⟩ : CTab).told 1 1 l = ⟨[cuP owner 1 l], 1, 5⟩ := rfl
set_option maxRecDepth 100000 in
set_option maxHeartbeats 12800000 in
theorem apart_walk (owner other page : Nat) (ho : owner < 18446744073709551616) (hp : page < 4294967296) (a : Option Addr) (n c : Nat) (l : List (Int × Int)) (w : World) (hl : HitsQ w a n l) (hne0 : n ≠ 0 → ∀ b off, a = some ⟨b, off, none⟩ → b < w.heap.size) :
    Calls Try.prog 6 #[.int .u64 (owner : Int), .int .u64 (other : Int), .int .u32 (page : Int), .slice a n c] w fun e w' => e = .returned (.bool true) ∧ Below w.heap.size w w' := by
  have HL := Lib.hid hl
  have HNE := Lib.hid hne0
  have hnsm := hl.small
  clear hl hne0
  go_enter Try.func6, Try.ntmps6
  go_wp2_with (fail)
  refine (alive14 w).mono ?_
  rintro e w1 ⟨rfl, hb1⟩
  by_cases hoo : owner = other
  · subst hoo
    have B1 := Lib.hid hb1
    clear hb1
    go_wp2
    go_ret
    exact ⟨rfl, B1.out⟩
  · have hbo : ((owner : Int) == (other : Int)) = false := by rw [beq_eq_false_iff_ne]; omega
    go_wp2_with (fail)
    refine (c_new w w1 hb1 5 (by decide)).mono ?_
    rintro e w2 ⟨x, rfl, h2⟩
    have H2 := Lib.hid h2
    clear hb1 h2
    go_wp2_with (fail)
    refine (c_open H2.out ((Below.refl _ w2).alloc (Nat.le_refl _) _) (by decide) owner 0 3 ho (by decide) (oneQ w2.heap.size 1) (oneQ_in w.heap.size w2 1 rfl)).mono ?_
    rintro e w3 ⟨s0, gone, hs, rfl, h3, -⟩
    rcases hs with ⟨-, rfl, rfl⟩ | ⟨hl, -⟩
    rotate_left
    · exact absurd hl (show ¬ 8 ≤ 0 by decide)
    have H3 := Lib.hid (show CAt w 1 x ⟨[cuP owner 0 l], 1, 5⟩ w3 from h3)
    clear h3 H2
    rw [show (({ cs := [], last := 0, idle := 5 } : CTab).last + 1) = 1 from rfl]
    go_wp2_with (fail)
    refine (c_told H3.out (Below.refl _ w3) 1 1 (by decide) (by decide) a n c l (HL.out.on H3.out.below) (fun h0 b off e => .inl (HNE.out h0 b off e))).mono ?_
    rintro e w4 ⟨rfl, h4, -⟩
    have H4 := Lib.hid (show CAt w 2 x ⟨[cuP owner 1 l], 1, 5⟩ w4 from cuP_told owner l ▸ h4)
    obtain ⟨f1, f2, f3, f4⟩ := cuP_other hoo l page
    clear h4 H3
    go_wp2_with (fail)
    refine (c_take_err H4.out other 1 page 0 (by decide) hp (by decide) 140 f2 (by decide)).mono ?_
    rintro e w5 ⟨rfl, h5, -⟩
    obtain ⟨wz, w6, hwz, hwn, ⟨qz0, qz1, qz2, qz3, qz4, qz5, qz6, qz7, qf0, qf1, qf2, qf3, qf4, qf5, qf6, qf7⟩, b6, -⟩ := ask_cell w5 0 ⟨(none, 0, 0), (none, 0, 0), (none, 0, 0), (none, 0, 0), ⟨[], [], [], []⟩⟩ false 0 0
    have H6 := Lib.hid (h5.on b6)
    clear h5 b6 H4
    go_wp2_with (first | (rw [hwz]) | (rw [hwn]) | fail)
    try rw [hwz]
    try rw [hwn]
    clear hwz hwn qz0 qz1 qz2 qz3 qz4 qz5 qz6 qz7 qf0 qf1 qf2 qf3 qf4 qf5 qf6 qf7
    refine (c_close H6.out other 1 (by decide)).mono ?_
    rintro e w7 (⟨-, rfl, h7, -⟩ | ⟨c', hc', -⟩)
    rotate_left
    · rw [f1] at hc'
      cases hc'
    have CL7 := Lib.hid (c_leave h7 other)
    rw [f3, f4] at CL7
    clear h7 H6 f1 f2 f3 f4
    go_wp2_with (fail)
    refine CL7.out.mono ?_
    rintro e w8 ⟨v, rfl, hv, h8, -⟩
    obtain ⟨va, vn, vc, rfl, hvn⟩ := hv.parts
    have hvn0 : vn = 0 := hvn.out.symm
    subst hvn0
    have H8 := Lib.hid h8
    have CN := Lib.hid (c_len H8.out)
    clear hv h8 CL7 hvn
    go_wp2_with (fail)
    refine CN.out.mono ?_
    rintro e w9 ⟨rfl, rfl⟩
    rw [show (⟨[cuP owner 1 l], 1, 5⟩ : CTab).cs.length = 1 from rfl]
    obtain ⟨g1, g2⟩ := cuP_own owner l
    clear CN
    go_wp2_with (fail)
    refine (c_take_ok H8.out owner 1 2 0 (by decide) (by decide) (by decide) (cuP owner 1 l) g1 rfl).mono ?_
    rintro e w10 ⟨y, -, rfl, -, h10, -⟩
    unfold askA
    obtain ⟨⟨eh, ed, ei⟩, he⟩ : ∃ e, (cuP owner 1 l).behind 2 = e := ⟨_, rfl⟩
    have heh : eh = decide (0 < n) := by
      have h1 := endOf_has l n HL.out.len
      have h2 : (cuP owner 1 l).behind 2 = endOf EndV.nil l := rfl
      rw [← h2, he] at h1
      exact h1
    rw [he, show (cuP owner 1 l).pin = 3 from rfl]
    clear he
    subst heh
    obtain ⟨wz, w11, hwz, hwn, ⟨qz0, qz1, qz2, qz3, qz4, qz5, qz6, qz7, qf0, qf1, qf2, qf3, qf4, qf5, qf6, qf7⟩, b11, a11⟩ := ask_cell w10 3 y (decide (0 < n)) ed ei
    have H11 := Lib.hid (show CAt w 2 x ⟨[cuP owner 1 l], 1, 5⟩ w11 from h10.on b11)
    have a5 : w11.cell? ⟨w10.heap.size, 5, none⟩ = some (.bool (decide (0 < n))) := a11.cell 5
    have CL11 := Lib.hid (c_leave H11.out owner)
    rw [g2] at CL11
    clear h10 b11 a11 H8 g1 g2
    go_wp2_with (first | (rw [hwz]) | (rw [hwn]) | fail)
    try rw [hwz]
    try rw [hwn]
    clear hwz hwn qz0 qz1 qz2 qz3 qz4 qz5 qz6 qz7 qf0 qf1 qf2 qf3 qf4 qf5 qf6 qf7
    refine CL11.out.mono ?_
    rintro e w12 ⟨v, rfl, hv, h12, -⟩
    obtain ⟨va, vn, vc, rfl, hvn⟩ := hv.parts
    have RV := Lib.hid ((hv.reads (by decide) (by intro z hz; rw [List.mem_singleton] at hz; rw [hz]; rfl)).alloc (.cells #[.int .i64 3] 3))
    have B12 := Lib.hid h12.below
    clear hv h12 CL11 hvn H11 a5
    go_wp2_with (fail)
    refine (ints_any _ va vn vc [3] RV.out (some ⟨w12.heap.size, 0, none⟩) 1 1 [3] (reads_one w12 3 rfl) true (by decide)).mono ?_
    rintro e w13 ⟨rfl, b13⟩
    have BF := Lib.hid (B12.out.trans ((((Below.refl _ w12).alloc (Nat.le_refl _) (.cells #[.int .i64 3] 3)).trans (b13.mono (by simp))).mono B12.out.size))
    clear b13 RV B12
    go_wp2
    go_ret
    exact ⟨rfl, BF.out⟩
theorem apart_row : Rows.CursorApartSaid :=
  OpenClaim.holds_of_wide 6 Try.f6 rfl rfl rfl rfl rfl rfl rfl ⟨rfl, rfl, rfl, rfl, rfl⟩ rfl rfl rfl rfl rfl (by kernel_rfl) Try.func6 (by kernel_rfl)
    (of_decide_eq_true (by kernel_rfl)) (by unfold Func.isWrapper; rw [if_neg (of_decide_eq_false (by kernel_rfl))]; exact ⟨rfl, rfl⟩)
    (fun os started H enc _ => lift (C := Try.checked) (s := Rows.cursorApartSpec) (conds := Rows.cursorApartRow.domain) os started H enc prog_own (by kernel_rfl) Try.func6 prog_laid rfl Try.underlying4 rfl
      (fun ds hl => by
        have hl : ds.length = 4 := hl
        match ds, hl with
        | [_, _, _, _], _ => rfl)
      (of_decide_eq_true (by kernel_rfl))
      (ChangeSpec.witness6 (enc := enc) (C := Try.checked) false ⟨#[], #[.int .u64 0, .int .u64 0, .int .u32 0, .slice none 0 0], []⟩ 8 (by kernel_rfl) (by kernel_rfl) (by kernel_rfl) (by kernel_rfl))
      (fun W base args ds p g => by
        rw [Try.params6] at g
        obtain ⟨owner, e0, ho⟩ := g.u64 0 rfl Try.underlying42
        obtain ⟨other, e1, _⟩ := g.u64 1 rfl Try.underlying42
        obtain ⟨page, e2, hp⟩ := g.u32 2 rfl Try.underlying22
        obtain ⟨a, n, c, l, e3, hl, hne⟩ := g.hits14 3 rfl
        rw [args4 g.count e0 e1 e2 e3]
        exact apart_walk owner other page ho hp a n c l W hl hne))
end Go.Proofs.Ytnmfnppndohcbaa
