/-
  VarintBack holds: every number is read back, as a number and as a whole one, whatever stands behind it; what is cut off is not.
-/
import Derived.Test.YtaadbnaofafgkaaRows
import Derived.Test.YtaadbnaofafgkaaVn
import Derived.Test.YtaadbnaofafgkaaVt
namespace Go.Proofs.Ytaadbnaofafgkaa
open Go.ChangeShapes Go.WideShapes Go.ChangeAt Go.RowKit

theorem getint_back (a : Option Addr) (n c : Nat) (bs : List Nat) (w : World) (r1 r2 r3 : Nat) (x : Int) (h : BReads w a n c bs) (hr : vget 0 0 bs = (r1, r2, r3)) (hx : vopen r1 = x) :
    Calls Try.prog 17 #[.slice a n c] w fun e w' => e = .returned (.tuple #[.int .i64 x, .int .i64 r2, .int .i64 r3]) ∧ w = w' := by
  have := getint_any a n c bs w h
  rw [hr] at this
  rw [← hx]
  exact this
/-- A row of bytes of the call's own as a slice of so many. -/
theorem OwnV.at {w : World} {B : Nat} {t : TypeId} {v : Value} {bs : List Nat} (h : OwnV w B t v bs) (hs : bs.length ≤ 140737488355328) : ∃ a m c, v = .slice a m c ∧ Hid (bs.length = m) ∧ BReads w a m c bs := by
  obtain ⟨a, c, e, hr, _⟩ := h.reads hs
  exact ⟨a, bs.length, c, e, rfl, hr⟩

set_option maxRecDepth 100000 in
set_option maxHeartbeats 6400000 in
theorem back_walk (n : Nat) (a0 : Option Addr) (n0 c0 : Nat) (xs : List Nat) (w : World) (hn : n < 18446744073709551616) (h : BReads w a0 n0 c0 xs) (h0 : n0 ≤ 140737488351232) :
    Calls Try.prog 5 #[.int .u64 n, .slice a0 n0 c0] w fun e w' => e = .returned (.bool true) ∧ Below w.heap.size w w' := by
  obtain ⟨x, hx⟩ : ∃ x, IntKind.i64.wrap (n : Int) = x := ⟨_, rfl⟩
  have hxb := wrap_bounds n
  rw [hx] at hxb
  obtain ⟨m, hm⟩ : ∃ m, (vput n).length = m := ⟨_, rfl⟩
  obtain ⟨k, hk⟩ : ∃ k, (vput (vfold x)).length = k := ⟨_, rfl⟩
  have hm10 : m ≤ 10 := by rw [← hm]; exact vput_len10 hn
  have hm1 : 1 ≤ m := by rw [← hm]; exact vput_pos n
  have hk10 : k ≤ 10 := by rw [← hk]; exact vput_len10 (vfold_lt hxb.1 hxb.2)
  have HM := Lib.hid hm
  have HK := Lib.hid hk
  have HN := Lib.hid hn
  have HXB := Lib.hid hxb
  have HL := Lib.hid h.len
  have HR := Lib.hid h
  have HG := Lib.hid (show vget 0 0 (vput n ++ xs) = (n, m, 0) from by rw [vget_put0 n xs hn, hm])
  have HI := Lib.hid (show vget 0 0 (vput (vfold x) ++ xs) = (vfold x, k, 0) from by rw [vget_put0 _ xs (vfold_lt hxb.1 hxb.2), hk])
  have HF := Lib.hid (vopen_fold x)
  clear hm hk hn hxb h
  go_enter Try.func5, Try.ntmps5
  go_wp2_with (fail)
  refine (alive4 w).mono ?_
  rintro e w1 ⟨rfl, hb1⟩
  have B1 := Lib.hid hb1
  clear hb1
  go_wp2_with (fail)
  refine (put_any n w1 HN.out).mono ?_
  rintro e w2 ⟨v, rfl, ho, hb2⟩
  obtain ⟨a, c, rfl, hr, -⟩ := ho.reads (by rw [HM.out]; omega)
  rw [HM.out] at hr
  rw [HM.out]
  have B2 := Lib.hid (below_on B1.out hb2)
  have R2 := Lib.hid hr
  have X2 := Lib.hid (HR.out.on B2.out)
  clear ho hb2 hr
  have O2 := Lib.hid (OwnV.lit w2 5 [] (by simp) (by simp))
  go_wp2_with (at_builtin; refine app_bytes _ rfl (.tmp 21) (.tmp 22) 24 5 rfl Try.underlying24 byte_info w2.heap.size _ [] (by rfl) O2.out _ _ _ (vput n) (by rfl) (R2.out.alloc _) (by simp; omega) (by simp) ?_)
  intro v3 w3 hown hg _
  have O3 := Lib.hid hown
  have D3 := Lib.hid (((Below.refl w2.heap.size w2).alloc (Nat.le_refl _) _).grown hg (by simp) (fun k hk => (O2.out.lt k hk).1))
  have X3 := Lib.hid (X2.out.on D3.out)
  have hs3 := D3.out.size
  clear hown hg O2
  go_wp2_with (at_builtin; refine app_bytes _ rfl (.tmp 23) (.tmp 24) 24 5 rfl Try.underlying24 byte_info w2.heap.size _ ([] ++ vput n) (by rfl) O3.out _ _ _ xs (by rfl) X3.out (by simp [HM.out]; omega) hs3 ?_)
  intro v4 w4 hown hg _
  have O4 := Lib.hid (show OwnV w4 w2.heap.size 5 v4 (vput n ++ xs) from hown)
  have D4 := Lib.hid (D3.out.grown hg hs3 (fun k hk => (O3.out.lt k hk).1))
  clear hown hg O3 D3 X3 hs3
  obtain ⟨a4, m4, c4, rfl, hm4, R4⟩ := O4.out.at (by rw [List.length_append, HM.out, HL.out]; omega)
  have R4 := Lib.hid R4
  have B4 := Lib.hid (below_on B2.out D4.out)
  have Y4 := Lib.hid (R2.out.on D4.out)
  have X4 := Lib.hid (X2.out.on D4.out)
  clear O4 R2 X2 D4 B2
  go_wp2_with (fail)
  refine (get_eq a4 m4 c4 _ w4 n m 0 R4.out HG.out).mono ?_
  rintro e w' ⟨rfl, rfl⟩
  clear R4
  go_wp2_with (fail)
  refine (putint_any x w4 HXB.out.1 HXB.out.2).mono ?_
  rintro e w5 ⟨v5, rfl, ho, hb5⟩
  have O5 := Lib.hid ho
  have D5 := Lib.hid hb5
  have hs5 := hb5.size
  have X5 := Lib.hid (X4.out.on hb5)
  clear ho hb5
  go_wp2_with (at_builtin; refine app_bytes _ rfl (.tmp 35) (.tmp 36) 24 5 rfl Try.underlying24 byte_info w4.heap.size _ (vput (vfold x)) (by rfl) O5.out _ _ _ xs (by rfl) X5.out (by rw [HK.out]; omega) hs5 ?_)
  intro v6 w6 hown hg _
  have O6 := Lib.hid hown
  have D6 := Lib.hid (D5.out.grown hg hs5 (fun k hk => (O5.out.lt k hk).1))
  clear hown hg O5 D5 X5 hs5
  obtain ⟨a6, m6, c6, rfl, hm6, R6⟩ := O6.out.at (by rw [List.length_append, HK.out, HL.out]; omega)
  have R6 := Lib.hid R6
  have B6 := Lib.hid (below_on B4.out D6.out)
  have Y6 := Lib.hid (Y4.out.on D6.out)
  clear O6 Y4 X4 D6 B4
  go_wp2_with (fail)
  refine (getint_back a6 m6 c6 _ w6 (vfold x) k 0 x R6.out HI.out HF.out).mono ?_
  rintro e w' ⟨rfl, rfl⟩
  clear R6
  go_wp2_with (fail)
  refine (putint_any x w6 HXB.out.1 HXB.out.2).mono ?_
  rintro e w7 ⟨v7, rfl, ho, hb7⟩
  obtain ⟨a7, c7, rfl, hr, -⟩ := ho.reads (by rw [HK.out]; omega)
  rw [HK.out]
  have B7 := Lib.hid (below_on B6.out hb7)
  have Y7 := Lib.hid (Y6.out.on hb7)
  clear ho hr hb7 Y6 B6
  rcases Y7.out.cells with h1 | ⟨b, off, rfl, -, -⟩
  · omega
  have hroom := Y7.out.room
  go_wp2_with (fail)
  go_loop [13] (fun s13 => ∃ i : Nat, s13 = .int .i64 i ∧ i ≤ m) (fun s13 => m - (intOf s13).toNat)
  case atStart => exact ⟨0, rfl, by omega⟩
  case round =>
    obtain ⟨i, rfl, hi⟩ := hrel
    by_cases hc : i < m
    · have HT := Lib.hid (Y7.out.take (k := i) (by omega))
      have HV := Lib.hid (vget_cut0 n i HN.out (by rw [HM.out]; exact hc))
      go_wp2_with (fail)
      refine (get_eq _ i c _ w7 0 0 40 HT.out HV.out).mono ?_
      rintro e w' ⟨rfl, rfl⟩
      go_wp2
      go_round
      case rel => exact ⟨i + 1, by go_num, by omega⟩
      case measure => simp [intOf]; omega
    · go_wp2
      go_ret
      exact ⟨rfl, B7.out⟩

theorem back_row : Rows.VarintBackSaid :=
  OpenClaim.holds_of_wide 5 Try.f5 rfl rfl rfl rfl rfl rfl rfl ⟨rfl, rfl, rfl, rfl, rfl⟩ rfl rfl rfl rfl rfl (by kernel_rfl) Try.func5 (by kernel_rfl)
    (of_decide_eq_true (by kernel_rfl)) (by unfold Func.isWrapper; rw [if_neg (of_decide_eq_false (by kernel_rfl))]; exact ⟨rfl, rfl⟩)
    (fun os started H enc _ => lift (C := Try.checked) (s := Rows.varintBackSpec) (conds := Rows.varintBackRow.domain) os started H enc prog_own (by kernel_rfl) Try.func5 prog_laid rfl Try.underlying4 rfl
      (fun ds hl => by
        have hl : ds.length = 2 := hl
        match ds, hl with
        | [_, _], _ => rfl)
      (of_decide_eq_true (by kernel_rfl))
      (ChangeSpec.witness6 (enc := enc) (C := Try.checked) false ⟨#[], #[.int .u64 0, .slice none 0 0], []⟩ 8 (by kernel_rfl) (by kernel_rfl) (by kernel_rfl) (by kernel_rfl))
      (fun W base args ds p g => by
        rw [Try.params5] at g
        obtain ⟨n, e0, h0⟩ := g.u64 0 rfl Try.underlying22
        obtain ⟨a, m, c, bs, e1, h1, h2⟩ := g.bytes 1 rfl Try.underlying24 Try.underlying5 (by kernel_rfl) (by kernel_rfl)
        rw [args2 g.count e0 e1]
        exact back_walk n a m c bs W h0 h1 h2))
end Go.Proofs.Ytaadbnaofafgkaa
