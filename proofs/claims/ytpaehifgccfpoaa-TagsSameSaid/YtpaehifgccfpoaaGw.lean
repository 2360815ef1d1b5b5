/-
  TagsSame: tags in order stay as they are when they are put in order; in what order they were, and how often each was there, makes no difference; what came in reads as before.
-/
import Derived.Test.YtpaehifgccfpoaaGv
import Derived.Deep.AppendLies
import Derived.Deep.RegionLaw
namespace Go.Proofs.Ytpaehifgccfpoaa
open Go.ChangeShapes Go.WideShapes Go.ChangeAt Go.RowKit

/-- The list that the law's loop has built when the places from k on are in it. -/
def Dbl (ss zs : List ByteArray) (n k : Nat) : Prop := zs.length + 2 * k = 2 * n ∧ ∀ x, x ∈ zs ↔ x ∈ ss.drop k
theorem dbl_start (ss : List ByteArray) (n : Nat) (h : ss.length = n) : Dbl ss [] n n := ⟨by simp, fun x => by simp [List.drop_eq_nil_of_le, h]⟩
theorem dbl_step {ss zs : List ByteArray} {n i : Nat} (hl : ss.length = n) (hi : i < n) (h : Dbl ss zs n (i + 1)) : Dbl ss (zs ++ [strAt ss i, strAt ss i]) n i := by
  obtain ⟨h1, h2⟩ := h
  refine ⟨by simp; omega, fun x => ?_⟩
  have hi' : i < ss.length := by omega
  have e : strAt ss i = ss[i] := by simp [strAt, List.getD, hi']
  rw [List.drop_eq_getElem_cons hi', e]
  simp only [List.mem_append, h2, List.mem_cons, List.not_mem_nil, or_false]
  constructor
  · rintro (h | h | h)
    · exact .inr h
    · exact .inl h
    · exact .inl h
  · rintro (h | h)
    · exact .inr (.inl h)
    · exact .inl h

theorem own_reads' {w : World} {B n c : Nat} {a : Option Addr} {t : TypeId} {ss : List ByteArray} (h : OwnS w B t (.slice a n c) ss) (hl : Hid (ss.length = n)) (hn : n ≤ 1000000) : SReads w a n c ss := by
  have hl' := hl.out
  obtain ⟨a', c', e, r, _⟩ := h.reads (by omega)
  injection e with e1 e2 e3
  subst e1; subst e3
  rw [hl'] at r
  exact r

set_option maxHeartbeats 6400000 in
theorem same_law (a : Option Addr) (n c : Nat) (ss : List ByteArray) (w : World) (h : SReads w a n c ss) (z : ∀ s ∈ ss, s.size ≤ maxLen) :
    Calls Try.prog 7 #[.slice a n c] w fun e w' => e = .returned (.bool true) ∧ Below w.heap.size w w' := by
  have RN := Lib.hid h
  have ZZ := Lib.hid z
  clear h z
  go_enter Try.func7, Try.ntmps7
  go_wp2_with (fail)
  refine (alive3 _).mono ?_
  rintro e w1 ⟨rfl, hb1⟩
  have RR := Lib.hid (RN.out.on hb1)
  have HB := Lib.hid hb1
  clear hb1 RN
  go_wp2_with (fail)
  refine (great_reads a n c ss _ RR.out ZZ.out).mono ?_
  rintro e w2 ⟨⟨g, rfl, hg⟩, rfl⟩
  have q := Lib.hid hg
  clear hg
  by_cases hg : g = true
  · subst hg
    go_wp2
    go_ret
    exact ⟨rfl, HB.out⟩
  rw [Bool.not_eq_true] at hg
  subst hg
  have hn : n ≤ 300 := q.out rfl
  clear q
  have HC := Lib.hid RR.out.cells
  have HL := Lib.hid RR.out.len
  go_wp2
  go_loopw [3, 4] (fun s3 s4 wr => ∃ (x : Int) (zs : List ByteArray), s4 = .int .i64 x ∧ -1 ≤ x ∧ x < n ∧ Hid (Dbl ss zs n (x + 1).toNat) ∧ Hid (OwnS wr w2.heap.size 9 s3 zs) ∧ Hid (Below w2.heap.size w2 wr)) (fun _ s4 _ => (intOf s4 + 1).toNat)
  case atStart => exact ⟨(n : Int) - 1, [], by go_num, by omega, by omega, by rw [show ((n : Int) - 1 + 1).toNat = n by omega]; exact dbl_start ss n HL.out, OwnS.nil _ _ _, Below.refl _ _⟩
  case round =>
    obtain ⟨x, zs, rfl, hx1, hx2, HD, HO, HW⟩ := hrel
    by_cases hx : 0 ≤ x
    · obtain ⟨i, rfl⟩ : ∃ i : Nat, x = i := ⟨x.toNat, by omega⟩
      have hi : i < n := by omega
      rcases HC.out with h0 | ⟨b, off, rfl, hlt, hcl⟩
      · omega
      obtain ⟨y, hy⟩ : ∃ y, strAt ss i = y := ⟨_, rfl⟩
      have hcc := (HW.out.cell (p := ⟨b, off + i, none⟩) hlt).trans (hcl i hi)
      rw [hy] at hcc
      have HY := Lib.hid hy
      have hlt' : b < wr.heap.size := Nat.lt_of_lt_of_le hlt HW.out.size
      clear hy hcl
      obtain ⟨i0, hi0, hz0, hz1, hz2⟩ := info_parts string_info
      have hzl : zs.length ≤ 600 := by have := HD.out.1; omega
      go_wp2
      go_region_law
        (refine step_append_lies _ (by rfl) (.tmp 22) (.tmp 31) 22 (by rfl) w2.heap.size 9 i0 _ 1 16 Try.underlying22 hi0 hz0 hz1 hz2 rfl (by omega) _ zs.length (zs.map Value.string) (by rfl) (World.ownsRow.alloc HO.out _)
            ⟨wr.heap.size, 0, none⟩ 2 2 [.string y, .string y] (by rfl) (by rfl) (World.news_of_block (cs := #[.string y, .string y]) (t := 9) (fr := (0, 0)) (news_one wr _)) (by simp [Value.oneCell'])
            (by omega) (by unfold maxLen; omega) (by omega) (by have := HW.out.size; simp; omega) (wr.heap.size + 1) (by simp) ?_; intro gg cap w3 hown hgrow hat hl3
         have hb : Below w2.heap.size w2 w3 := ((HW.out.alloc HW.out.size _).drew).grown hgrow (by have := HW.out.size; simp; omega) (fun k hk => (OwnS.lt HO.out k hk).1)
         have HW3 := Lib.hid hb
         have HO3 := Lib.hid (show OwnS w3 w2.heap.size 9 (.slice (some ⟨gg, 0, none⟩) (zs.length + 2) cap) (zs ++ [y, y]) from by
           unfold OwnS
           rw [List.length_append, List.map_append]
           exact hown)
         clear hown hgrow hat hl3 hb)
      all_goals
        clear HO HW hcc
        go_wp2
        go_roundw
        case rel => exact ⟨(i : Int) - 1, zs ++ [y, y], by go_num, by omega, by omega, by rw [← HY.out, show ((i : Int) - 1 + 1).toNat = i by omega]; exact dbl_step HL.out hi (by have := HD.out; rwa [show ((i : Int) + 1).toNat = i + 1 by omega] at this), HO3.out, HW3.out⟩
        case measure => simp [intOf]
    · have hxm : x = -1 := by omega
      subst hxm
      obtain ⟨ao, no, co, rfl, hno⟩ := HO.out.parts
      have hno2 : no ≤ 600 := by have := hno.out; have := HD.out.1; omega
      have HOR := Lib.hid (show SReads wr ao no co zs from own_reads' HO.out hno (by omega))
      have HMEM := Lib.hid (show ∀ x, x ∈ zs ↔ x ∈ ss from fun x => by have := HD.out.2 x; simpa using this)
      have ZO := Lib.hid (show ∀ s ∈ zs, s.size ≤ maxLen from fun s hs => ZZ.out s ((HMEM.out s).1 hs))
      have HSO := Lib.hid (show sortU zs = sortU ss from sortU_same HMEM.out)
      have RRr := Lib.hid (RR.out.on HW.out)
      have HBr := Lib.hid (HB.out.trans (HW.out.mono HB.out.size))
      obtain ⟨m, hm⟩ : ∃ m, (sortU ss).length = m := ⟨_, rfl⟩
      have HM := Lib.hid hm
      clear hm HO HW HD hno RR HB
      go_wp2_with (fail)
      refine (sort_reads a n c ss _ RRr.out ZZ.out).mono ?_
      rintro e w3 hs
      by_cases hf : fineB (sortU ss) = true
      · have HF := Lib.hid hf
        obtain ⟨hb3, a1, c1, rfl, r1⟩ := hs.fine hf m HM.out
        have R1 := Lib.hid r1
        have HO3 := Lib.hid (HOR.out.on hb3)
        have HB3 := Lib.hid (HBr.out.trans (hb3.mono HBr.out.size))
        clear hs r1 hb3 hf HBr HOR RRr
        go_wp2_with (fail)
        refine (sort_reads ao no co zs _ HO3.out ZO.out).mono ?_
        rintro e w4 hs
        obtain ⟨hb4, a2, c2, rfl, r2⟩ := hs.yes (sortU ss) m HSO.out HF.out HM.out
        have R2 := Lib.hid r2
        have R14 := Lib.hid (R1.out.on hb4)
        have HB4 := Lib.hid (HB3.out.trans (hb4.mono HB3.out.size))
        clear hs r2 hb4 HB3 HO3 R1
        go_wp2_with (fail)
        refine (sort_reads a1 m c1 (sortU ss) _ R14.out (sortU_size ZZ.out)).mono ?_
        rintro e w5 hs
        obtain ⟨hb5, a3, c3, rfl, r3⟩ := hs.yes (sortU ss) m (sortU_rising (rising_sortU ss)) HF.out HM.out
        have R3 := Lib.hid r3
        have R15 := Lib.hid (R14.out.on hb5)
        have R25 := Lib.hid (R2.out.on hb5)
        have HB5 := Lib.hid (HB4.out.trans (hb5.mono HB4.out.size))
        clear hs r3 hb5 HB4 R14 R2
        go_wp2_with (fail)
        refine (same_at true a1 a2 m m c1 c2 (sortU ss) (sortU ss) _ R15.out R25.out (by simp)).mono ?_
        rintro e w6 ⟨rfl, hb6⟩
        have R16 := Lib.hid (R15.out.on hb6)
        have R36 := Lib.hid (R3.out.on hb6)
        have HB6 := Lib.hid (HB5.out.trans (hb6.mono HB5.out.size))
        clear hb6 HB5 R15 R25 R3
        go_wp2_with (fail)
        refine (same_at true a1 a3 m m c1 c3 (sortU ss) (sortU ss) _ R16.out R36.out (by simp)).mono ?_
        rintro e w7 ⟨rfl, hb7⟩
        have HB7 := Lib.hid (HB6.out.trans (hb7.mono HB6.out.size))
        clear hb7 HB6
        go_wp2
        go_ret
        exact ⟨rfl, HB7.out⟩
      · rw [Bool.not_eq_true] at hf
        have HF := Lib.hid hf
        obtain ⟨hb3, rfl⟩ := hs.no hf
        have HO3 := Lib.hid (HOR.out.on hb3)
        have HB3 := Lib.hid (HBr.out.trans (hb3.mono HBr.out.size))
        clear hs hb3 hf HBr HOR RRr
        go_wp2_with (fail)
        refine (sort_reads ao no co zs _ HO3.out ZO.out).mono ?_
        rintro e w4 hs
        obtain ⟨hb4, rfl⟩ := hs.no (by rw [HSO.out]; exact HF.out)
        have HB4 := Lib.hid (HB3.out.trans (hb4.mono HB3.out.size))
        clear hs hb4 HB3 HO3
        go_wp2_with (fail)
        refine (sort_reads none 0 0 [] _ (SReads.nil _) (by simp)).mono ?_
        rintro e w5 hs
        obtain ⟨hb5, a3, c3, rfl, r3⟩ := hs.yes [] 0 rfl rfl rfl
        have HB5 := Lib.hid (HB4.out.trans (hb5.mono HB4.out.size))
        clear hs r3 hb5 HB4
        go_wp2_with (fail)
        refine (same_at true none none 0 0 0 0 [] [] _ (SReads.nil _) (SReads.nil _) (by simp)).mono ?_
        rintro e w6 ⟨rfl, hb6⟩
        have HB6 := Lib.hid (HB5.out.trans (hb6.mono HB5.out.size))
        clear hb6 HB5
        go_wp2
        go_ret
        exact ⟨rfl, HB6.out⟩

theorem same_row : Rows.TagsSameSaid :=
  OpenClaim.holds_of_wide 7 Try.f7 rfl rfl rfl rfl rfl rfl rfl ⟨rfl, rfl, rfl, rfl, rfl⟩ rfl rfl rfl rfl rfl (by kernel_rfl) Try.func7 (by kernel_rfl)
    (of_decide_eq_true (by kernel_rfl)) (by unfold Func.isWrapper; rw [if_neg (of_decide_eq_false (by kernel_rfl))]; exact ⟨rfl, rfl⟩)
    (fun os started H enc _ => lift (C := Try.checked) (s := Rows.tagsSameSpec) (conds := Rows.tagsSameRow.domain) os started H enc prog_own (by kernel_rfl) Try.func7 prog_laid rfl Try.underlying4 rfl
      (fun ds hl => by
        have hl : ds.length = 1 := hl
        match ds, hl with
        | [_], _ => rfl)
      (of_decide_eq_true (by kernel_rfl))
      (ChangeSpec.witness6 (enc := enc) (C := Try.checked) false ⟨#[], #[.slice none 0 0], []⟩ 8 (by kernel_rfl) (by kernel_rfl) (by kernel_rfl) (by kernel_rfl))
      (fun W base args ds p g => by
        rw [Try.params7] at g
        obtain ⟨a, n, c, ss, e0, h, z⟩ := g.tags 0 rfl
        rw [args1 g.count e0]
        exact same_law a n c ss W h z))
end Go.Proofs.Ytpaehifgccfpoaa
