/-
  The document's reader of messages, field by field, by walks over its texts.
-/
import Derived.Test.YtdlpifcfgfhagaaWv
import Derived.Test.YtdlpifcfgfhagaaVt
import Derived.Test.YtdlpifcfgfhagaaMl
import Derived.Test.YtdlpifcfgfhagaaMq
import Derived.Test.YtdlpifcfgfhagaaGs
import Derived.Handy
import Derived.Deep.DeepMust
namespace Go.Proofs.Ytdlpifcfgfhagaa
open Go.RowKit

/-- A reader lies in block g: the bytes that are left; no error. -/
def RAt (w : World) (g : Nat) (l : List Nat) : Prop :=
  ∃ a n c, Blk w g 74 [.slice a n c, .int .i64 0] ∧ BReads w a n c l ∧ (0 < n → ∀ ad, a = some ad → ad.block < g)
/-- A reader lies in block g that has told an error. -/
def RBad (w : World) (g k : Nat) : Prop := ∃ v, Blk w g 74 [v, .int .i64 k] ∧ k ≠ 0
theorem BReads.kept1 {g : Nat} {w w' : World} {a : Option Addr} {n c : Nat} {bs : List Nat} (h : BReads w a n c bs) (hk : Kept [g] w w') (hF : 0 < n → ∀ ad, a = some ad → ad.block ≠ g) : BReads w' a n c bs := by
  refine ⟨h.len, h.small, h.byte, h.nilOk, h.room, ?_⟩
  rcases h.cells with h4 | ⟨b, off, ha, hlt, hc⟩
  · exact .inl h4
  · refine .inr ⟨b, off, ha, Nat.lt_of_lt_of_le hlt hk.size, fun i hi => ?_⟩
    have hb := hF (by omega) ⟨b, off, none⟩ ha
    rw [hk.cell (p := ⟨b, off + i, none⟩) hlt (by simpa using hb)]
    exact hc i hi

/-- What a number that is read leaves. -/
def NumPost (most : Nat) (g : Nat) (l : List Nat) (w : World) (e : Ending) (w' : World) : Prop :=
  Kept [g] w w' ∧ ((∃ n r, vget 0 0 l = (n, l.length - r.length, 0) ∧ n ≤ most ∧ l.drop (l.length - r.length) = r ∧ e = .returned (.int .u64 (n : Int)) ∧ RAt w' g r) ∨
    (∃ k, (k = (vget 0 0 l).2.2 ∧ k ≠ 0 ∨ k = 62 ∧ (vget 0 0 l).2.2 = 0 ∧ most < (vget 0 0 l).1) ∧ e = .returned (.int .u64 0) ∧ RBad w' g k))

set_option maxRecDepth 100000 in
set_option maxHeartbeats 3200000 in
theorem rnum_any (most g : Nat) (l : List Nat) (w : World) (h : RAt w g l) (hm : most < 18446744073709551616) :
    Calls Try.prog 40 #[.pointer (some ⟨g, 0, none⟩), .int .u64 most] w fun e w' => NumPost most g l w e w' := by
  obtain ⟨a, n, c, hb, hr, hne⟩ := h
  obtain ⟨r1, r2, r3, hv⟩ : ∃ r1 r2 r3, vget 0 0 l = (r1, r2, r3) := ⟨_, _, _, rfl⟩
  have HV := Lib.hid hv
  have HR := Lib.hid hr
  have HB := Lib.hid hb
  have HN := Lib.hid hne
  have c0 : w.cell? ⟨g, 0, none⟩ = some (.slice a n c) := hb.cell 0
  have c1 : w.cell? ⟨g, 1, none⟩ = some (.int .i64 0) := hb.cell 1
  have hlt := hb.lt
  have HM := Lib.hid hm
  have herr := vget_err l 0 0
  rw [hv] at herr
  simp only at herr
  have HERR := Lib.hid herr
  clear hb hr hne hv hm herr
  go_enter Try.func40, Try.ntmps40
  go_wp2_with (fail)
  refine (rget_eq a n c l w r1 r2 r3 HR.out HV.out).mono ?_
  rintro e w2 ⟨rfl, hb2⟩
  have B2 := Lib.hid ((Kept.of_below (F := []) hb2 (Nat.le_refl _)).blk HB.out (by simp))
  have K2 := Lib.hid (Kept.of_below (F := [g]) hb2 (Nat.le_refl _))
  have R2 := Lib.hid (HR.out.on hb2)
  have d0 : w2.cell? ⟨g, 0, none⟩ = some (.slice a n c) := B2.out.cell 0
  have d1 : w2.cell? ⟨g, 1, none⟩ = some (.int .i64 0) := B2.out.cell 1
  have f0 := B2.out.frozen 0
  have f1 := B2.out.frozen 1
  have hlt2 := B2.out.lt
  clear hb2 c0 c1 hlt HB HR
  by_cases h3 : r3 = 0
  · subst h3
    by_cases hgt : most < r1
    · have hlt' : (most : Int) < (r1 : Int) := by omega
      go_wp2
      go_ret
      refine ⟨K2.out.setCell _ _ (.inl (by simp)), .inr ⟨62, .inr ⟨rfl, by rw [HV.out], by rw [HV.out]; exact hgt⟩, rfl, .slice a n c, ?_, by decide⟩⟩
      exact B2.out.set 1 (.int .i64 62)
    · have hlt' : ¬ (most : Int) < (r1 : Int) := by omega
      have hle : r2 ≤ n := by
        have hl := R2.out.len
        rcases HERR.out with ⟨_, h⟩ | h | h
        · omega
        · simp at h
        · simp at h
      obtain ⟨a', hs1, hs2, hs3⟩ := cut_bytes3 (P := Try.prog) 31 5 Try.underlying31 (by kernel_rfl) byte_info a n c r2 r2 rfl hle
      have HS := Lib.hid (hs2 _ _ R2.out)
      obtain ⟨n', hn'⟩ : ∃ n', n - r2 = n' := ⟨_, rfl⟩
      obtain ⟨c', hc'⟩ : ∃ c', c - r2 = c' := ⟨_, rfl⟩
      rw [hn', hc'] at hs1 HS
      have HNN := Lib.hid hn'
      have HA := Lib.hid (show 0 < n' → ∀ ad, a' = some ad → ad.block < g from by
        intro h0 ad had
        obtain ⟨ad0, h1, h2⟩ := hs3 ad had
        rw [← h2]
        exact HN.out (by omega) ad0 h1)
      clear hs2 hs3 hn' hc'
      go_wp2
      go_ret
      refine ⟨K2.out.setCell _ _ (.inl (by simp)), .inl ⟨r1, l.drop r2, ?_, by omega, ?_, rfl, a', n', c', ?_, ?_, HA.out⟩⟩
      · have hl := R2.out.len
        rw [HV.out, List.length_drop]
        simp only [Prod.mk.injEq, true_and, and_true]
        omega
      · have hl := R2.out.len
        rw [List.length_drop]
        congr 1
        omega
      · exact B2.out.set 0 (.slice a' n' c')
      · refine BReads.kept1 HS.out ((Kept.refl [g] w2).setCell _ _ (.inl (by simp))) fun h0 ad had => Nat.ne_of_lt (HA.out h0 ad had)
  · have h3b : ((r3 : Int) == 0) = false := by simp; omega
    have h3c : ((r3 : Int) != 0) = true := by simp; omega
    go_wp2
    go_ret
    refine ⟨K2.out.setCell _ _ (.inl (by simp)), .inr ⟨r3, .inl ⟨by rw [HV.out], h3⟩, rfl, .slice a n c, ?_, h3⟩⟩
    exact B2.out.set 1 (.int .i64 r3)

/-- A reader's state: what is left, or the error. -/
def RState (w : World) (g : Nat) : List Nat ⊕ Nat → Prop
  | .inl l => RAt w g l
  | .inr k => RBad w g k
/-- What is read: the thing, as V says it of the value; or the error's number, and a value as Z says. -/
def RdPost {α : Type} (C : Cod α) (V : World → Value → α → Prop) (Z : Value → Prop) (g : Nat) (s : List Nat ⊕ Nat) (w : World) (e : Ending) (w' : World) : Prop :=
  Kept [g] w w' ∧ ((∃ l a r v, s = .inl l ∧ C.dec l = .inl (a, r) ∧ e = .returned v ∧ V w' v a ∧ RAt w' g r) ∨
    (∃ k z, (s = .inr k ∨ ∃ l, s = .inl l ∧ C.dec l = .inr k) ∧ e = .returned z ∧ Z z ∧ RBad w' g k))
def IsU64 (_ : World) (v : Value) (n : Nat) : Prop := v = .int .u64 (n : Int)

theorem NumPost.rd {most g : Nat} {l : List Nat} {w w' : World} {e : Ending} (hm : most < 18446744073709551616) (h : NumPost most g l w e w') : RdPost (cNum most hm) IsU64 (· = .int .u64 0) g (.inl l) w e w' := by
  obtain ⟨hk, ⟨n, r, h1, h2, h3, h4, h5⟩ | ⟨k, h1, h2, h3⟩⟩ := h
  · refine ⟨hk, .inl ⟨l, n, r, _, rfl, ?_, h4, rfl, h5⟩⟩
    show (if (vget 0 0 l).2.2 ≠ 0 then Sum.inr (vget 0 0 l).2.2 else if most < (vget 0 0 l).1 then Sum.inr 62 else Sum.inl ((vget 0 0 l).1, l.drop (vget 0 0 l).2.1)) = _
    rw [h1]
    simp only [ne_eq, not_true_eq_false, if_false]
    rw [if_neg (by omega), h3]
  · refine ⟨hk, .inr ⟨k, _, .inr ⟨l, rfl, ?_⟩, h2, rfl, h3⟩⟩
    show (if (vget 0 0 l).2.2 ≠ 0 then Sum.inr (vget 0 0 l).2.2 else if most < (vget 0 0 l).1 then Sum.inr 62 else Sum.inl ((vget 0 0 l).1, l.drop (vget 0 0 l).2.1)) = _
    rcases h1 with ⟨h1, h4⟩ | ⟨h1, h4, h5⟩
    · rw [if_pos (by rw [← h1]; exact h4), h1]
    · rw [if_neg (by simp [h4]), if_pos h5, h1]

set_option maxRecDepth 100000 in
theorem rnum_bad (most g k : Nat) (w : World) (h : RBad w g k) :
    Calls Try.prog 40 #[.pointer (some ⟨g, 0, none⟩), .int .u64 most] w fun e w' => e = .returned (.int .u64 0) ∧ w = w' := by
  obtain ⟨v, hb, hk⟩ := h
  have c1 : w.cell? ⟨g, 1, none⟩ = some (.int .i64 k) := hb.cell 1
  have hlt := hb.lt
  have hkb : ((k : Int) != 0) = true := by simp; omega
  clear hb hk
  go_enter Try.func40, Try.ntmps40
  go_wp2
  go_ret
  exact ⟨rfl, rfl⟩
/-- Num, whatever the reader's state. -/
theorem rnum_st (most g : Nat) (s : List Nat ⊕ Nat) (w : World) (h : RState w g s) (hm : most < 18446744073709551616) :
    Calls Try.prog 40 #[.pointer (some ⟨g, 0, none⟩), .int .u64 most] w fun e w' => RdPost (cNum most hm) IsU64 (· = .int .u64 0) g s w e w' := by
  rcases s with l | k
  · exact (rnum_any most g l w h hm).mono fun e w' hp => hp.rd hm
  · refine (rnum_bad most g k w h).mono ?_
    rintro e w' ⟨rfl, rfl⟩
    exact ⟨Kept.refl _ _, .inr ⟨k, _, .inl rfl, rfl, rfl, h⟩⟩
/-- What a whole number that is read leaves. -/
def IsI64 (_ : World) (v : Value) (n : Int) : Prop := v = .int .i64 n

theorem RBad.cells {w : World} {g k : Nat} (h : RBad w g k) : w.cell? ⟨g, 1, none⟩ = some (.int .i64 k) ∧ g < w.heap.size ∧ ((k : Int) != 0) = true ∧ ((k : Int) == 0) = false := by
  obtain ⟨v, hb, hk⟩ := h
  exact ⟨hb.cell 1, hb.lt, by simp; omega, by simp; omega⟩
theorem RAt.cells {w : World} {g : Nat} {l : List Nat} (h : RAt w g l) : ∃ a n c, w.cell? ⟨g, 0, none⟩ = some (.slice a n c) ∧ w.cell? ⟨g, 1, none⟩ = some (.int .i64 0) ∧ w.frozen? ⟨g, 0, none⟩ = false ∧ w.frozen? ⟨g, 1, none⟩ = false ∧ g < w.heap.size ∧
    Hid (Blk w g 74 [.slice a n c, .int .i64 0]) ∧ Hid (BReads w a n c l) ∧ Hid (0 < n → ∀ ad, a = some ad → ad.block < g) := by
  obtain ⟨a, n, c, hb, hr, hn⟩ := h
  exact ⟨a, n, c, hb.cell 0, hb.cell 1, hb.frozen 0, hb.frozen 1, hb.lt, hb, hr, hn⟩

set_option maxRecDepth 100000 in
set_option maxHeartbeats 3200000 in
theorem rtext_st (g : Nat) (s : List Nat ⊕ Nat) (w : World) (h : RState w g s) :
    Calls Try.prog 63 #[.pointer (some ⟨g, 0, none⟩)] w fun e w' => RdPost cStr IsStr (· = .string ⟨#[]⟩) g s w e w' := by
  have HS := Lib.hid h
  clear h
  go_enter Try.func63, Try.ntmps63
  go_wp2_with (fail)
  refine (rnum_st 4096 g s w HS.out (by decide)).mono ?_
  rintro e w2 ⟨hk, ⟨l, n, r, v, hl, hd, rfl, hv, hr⟩ | ⟨k, z, hl, rfl, hz, hbad⟩⟩
  · have hn := cNum_le hd
    rw [IsU64] at hv
    subst hv
    have HD := Lib.hid (cText_dec (most := 4096) (hm := by decide) l)
    rw [hd] at HD
    have HK := Lib.hid hk
    have HL := Lib.hid hl
    obtain ⟨a, m, c, d0, d1, f0, f1, lt, B2, R2, N2⟩ := hr.cells
    have HLEN := Lib.hid R2.out.len
    have hwn : IntKind.i64.wrap (n : Int) = (n : Int) := by rw [IntKind.wrap_i64]; omega
    have hmc := R2.out.room
    have hms := R2.out.small
    clear hd hk hl hr
    by_cases hlt : m < n
    · have hlt' : (m : Int) < (n : Int) := by omega
      have HE := Lib.hid (show cStr.dec l = .inr 40 from by
        have := HD.out
        simp only at this
        rw [if_pos (by rw [HLEN.out]; exact hlt)] at this
        exact this)
      go_wp2
      go_ret
      refine ⟨HK.out.trans ((Kept.refl [g] w2).setCell _ _ (.inl (by simp))) (Grows.refl _ _), .inr ⟨40, _, .inr ⟨l, HL.out, HE.out⟩, rfl, rfl, .slice a m c, ?_, by decide⟩⟩
      exact B2.out.set 1 (.int .i64 40)
    · have hle : n ≤ m := by omega
      have hnlt : ¬ (m : Int) < (n : Int) := by omega
      obtain ⟨a0, hh1, rfl⟩ := head_bytes (P := Try.prog) 31 5 Try.underlying31 (by kernel_rfl) byte_info a m c n n rfl (by omega)
      obtain ⟨a', hs1, hs2, hs3⟩ := cut_bytes3 (P := Try.prog) 31 5 Try.underlying31 (by kernel_rfl) byte_info a0 m c n n rfl hle
      have HS2 := Lib.hid (hs2 _ _ R2.out)
      obtain ⟨m', hm'⟩ : ∃ m', m - n = m' := ⟨_, rfl⟩
      obtain ⟨c', hc'⟩ : ∃ c', c - n = c' := ⟨_, rfl⟩
      rw [hm', hc'] at hs1 HS2
      have HA := Lib.hid (show 0 < m' → ∀ ad, a' = some ad → ad.block < g from by
        intro h0 ad had
        obtain ⟨ad0, h1, h2⟩ := hs3 ad had
        rw [← h2]
        exact N2.out (by omega) ad0 h1)
      have HT := Lib.hid (R2.out.take hle)
      obtain ⟨str, hstr⟩ : ∃ str, strOfB (r.take n) = str := ⟨_, rfl⟩
      have kc : (convert 31 9 (.slice a0 n c)).run Try.prog w2 = .ok (.string str) w2 := by
        rw [← hstr]
        exact HT.out.str 31 5 Try.underlying31 Try.underlying5 9 Try.underlying9
      have HB := Lib.hid (show strB str = r.take n from by rw [← hstr]; exact strB_of _ HT.out.byte)
      have HE := Lib.hid (show cStr.dec l = .inl (r.take n, r.drop n) from by
        have := HD.out
        simp only at this
        rw [if_neg (by rw [HLEN.out]; exact hlt)] at this
        exact this)
      clear hs2 hs3 hm' hc' hstr
      go_wp2
      go_ret
      refine ⟨HK.out.trans ((Kept.refl [g] w2).setCell _ _ (.inl (by simp))) (Grows.refl _ _), .inl ⟨l, r.take n, r.drop n, _, HL.out, HE.out, rfl, ⟨str, rfl, HB.out⟩, a', m', c', ?_, ?_, HA.out⟩⟩
      · exact B2.out.set 0 (.slice a' m' c')
      · exact BReads.kept1 HS2.out ((Kept.refl [g] w2).setCell _ _ (.inl (by simp))) fun h0 ad had => Nat.ne_of_lt (HA.out h0 ad had)
  · subst hz
    have HK := Lib.hid hk
    have HBAD := Lib.hid hbad
    obtain ⟨d1, lt, e1, e2⟩ := hbad.cells
    have HL := Lib.hid (show s = .inr k ∨ ∃ l, s = .inl l ∧ cStr.dec l = .inr k from by
      rcases hl with hl | ⟨l, hl, hd⟩
      · exact .inl hl
      · refine .inr ⟨l, hl, ?_⟩
        have := cText_dec (most := 4096) (hm := by decide) l
        rw [hd] at this
        exact this)
    clear hk hbad hl
    go_wp2
    go_ret
    exact ⟨HK.out, .inr ⟨k, _, HL.out, rfl, rfl, HBAD.out⟩⟩

theorem rgetint_at (a : Option Addr) (n c : Nat) (bs : List Nat) (w : World) (r1 r2 r3 : Nat) (x : Int) (h : BReads w a n c bs) (hr : vget 0 0 bs = (r1, r2, r3)) (hx : vopen r1 = x) :
    Calls Try.prog 75 #[.slice a n c] w fun e w' => e = .returned (.tuple #[.int .i64 x, .int .i64 r2, .int .i64 r3]) ∧ Below w.heap.size w w' := by
  have := rgetint_any a n c bs w h
  unfold GotIV at this
  rw [hr] at this
  rw [← hx]
  exact this

set_option maxRecDepth 100000 in
set_option maxHeartbeats 6400000 in
theorem rwhole_st (low high : Int) (g : Nat) (s : List Nat ⊕ Nat) (w : World) (h : RState w g s) :
    Calls Try.prog 62 #[.pointer (some ⟨g, 0, none⟩), .int .i64 low, .int .i64 high] w fun e w' => RdPost (cInt low high) IsI64 (· = .int .i64 0) g s w e w' := by
  rcases s with l | k
  · have hat : RAt w g l := h
    clear h
    obtain ⟨a, n, c, c0, c1, _, _, hlt, HB, HR, HN⟩ := hat.cells
    obtain ⟨r1, r2, r3, hv⟩ : ∃ r1 r2 r3, vget 0 0 l = (r1, r2, r3) := ⟨_, _, _, rfl⟩
    obtain ⟨x, hx⟩ : ∃ x, vopen r1 = x := ⟨_, rfl⟩
    have HD := Lib.hid (cInt_dec low high l r1 r2 r3 hv)
    rw [hx] at HD
    have HV := Lib.hid hv
    have HX := Lib.hid hx
    have herr := vget_err l 0 0
    rw [hv] at herr
    simp only at herr
    have HERR := Lib.hid herr
    clear hat hv hx herr
    go_enter Try.func62, Try.ntmps62
    go_wp2_with (fail)
    refine (rgetint_at a n c l w r1 r2 r3 x HR.out HV.out HX.out).mono ?_
    rintro e w2 ⟨rfl, hb2⟩
    have B2 := Lib.hid ((Kept.of_below (F := []) hb2 (Nat.le_refl _)).blk HB.out (by simp))
    have K2 := Lib.hid (Kept.of_below (F := [g]) hb2 (Nat.le_refl _))
    have R2 := Lib.hid (HR.out.on hb2)
    have d0 : w2.cell? ⟨g, 0, none⟩ = some (.slice a n c) := B2.out.cell 0
    have d1 : w2.cell? ⟨g, 1, none⟩ = some (.int .i64 0) := B2.out.cell 1
    have f0 := B2.out.frozen 0
    have f1 := B2.out.frozen 1
    have hlt2 := B2.out.lt
    clear hb2 c0 c1 hlt HB HR
    by_cases h3 : r3 = 0
    · subst h3
      by_cases hlo : x < low
      · have HE := Lib.hid (show (cInt low high).dec l = .inr 62 from by rw [HD.out, if_neg (by simp), if_neg (by omega)])
        go_wp2
        go_ret
        refine ⟨K2.out.setCell _ _ (.inl (by simp)), .inr ⟨62, _, .inr ⟨l, rfl, HE.out⟩, rfl, rfl, .slice a n c, ?_, by decide⟩⟩
        exact B2.out.set 1 (.int .i64 62)
      by_cases hhi : high < x
      · have HE := Lib.hid (show (cInt low high).dec l = .inr 62 from by rw [HD.out, if_neg (by simp), if_neg (by omega)])
        go_wp2
        go_ret
        refine ⟨K2.out.setCell _ _ (.inl (by simp)), .inr ⟨62, _, .inr ⟨l, rfl, HE.out⟩, rfl, rfl, .slice a n c, ?_, by decide⟩⟩
        exact B2.out.set 1 (.int .i64 62)
      have HE := Lib.hid (show (cInt low high).dec l = .inl (x, l.drop r2) from by rw [HD.out, if_neg (by simp), if_pos (by omega)])
      have hle : r2 ≤ n := by
        have hl := R2.out.len
        rcases HERR.out with ⟨_, h⟩ | h | h
        · omega
        · simp at h
        · simp at h
      obtain ⟨a', hs1, hs2, hs3⟩ := cut_bytes3 (P := Try.prog) 31 5 Try.underlying31 (by kernel_rfl) byte_info a n c r2 r2 rfl hle
      have HS := Lib.hid (hs2 _ _ R2.out)
      obtain ⟨n', hn'⟩ : ∃ n', n - r2 = n' := ⟨_, rfl⟩
      obtain ⟨c', hc'⟩ : ∃ c', c - r2 = c' := ⟨_, rfl⟩
      rw [hn', hc'] at hs1 HS
      have HA := Lib.hid (show 0 < n' → ∀ ad, a' = some ad → ad.block < g from by
        intro h0 ad had
        obtain ⟨ad0, h1, h2⟩ := hs3 ad had
        rw [← h2]
        exact HN.out (by omega) ad0 h1)
      clear hs2 hs3 hn' hc'
      go_wp2
      go_ret
      refine ⟨K2.out.setCell _ _ (.inl (by simp)), .inl ⟨l, x, l.drop r2, _, rfl, HE.out, rfl, rfl, a', n', c', ?_, ?_, HA.out⟩⟩
      · exact B2.out.set 0 (.slice a' n' c')
      · exact BReads.kept1 HS.out ((Kept.refl [g] w2).setCell _ _ (.inl (by simp))) fun h0 ad had => Nat.ne_of_lt (HA.out h0 ad had)
    · have h3b : ((r3 : Int) == 0) = false := by simp; omega
      have h3c : ((r3 : Int) != 0) = true := by simp; omega
      have HE := Lib.hid (show (cInt low high).dec l = .inr r3 from by rw [HD.out, if_pos h3])
      go_wp2
      go_ret
      refine ⟨K2.out.setCell _ _ (.inl (by simp)), .inr ⟨r3, _, .inr ⟨l, rfl, HE.out⟩, rfl, rfl, .slice a n c, ?_, h3⟩⟩
      exact B2.out.set 1 (.int .i64 r3)
  · have hbad : RBad w g k := h
    have HBAD := Lib.hid hbad
    obtain ⟨c1, hlt, e1, e2⟩ := hbad.cells
    clear h hbad
    go_enter Try.func62, Try.ntmps62
    go_wp2
    go_ret
    exact ⟨Kept.refl _ _, .inr ⟨k, _, .inl rfl, rfl, rfl, HBAD.out⟩⟩

/-- The end: nothing may be left. -/
def EndPost (s : List Nat ⊕ Nat) (e : Ending) : Prop :=
  match s with
  | .inr k => e = .returned (.int .i64 (k : Int))
  | .inl l => e = .returned (.int .i64 (if l = [] then 0 else 60 : Nat))
set_option maxRecDepth 100000 in
set_option maxHeartbeats 3200000 in
theorem rend_st (g : Nat) (s : List Nat ⊕ Nat) (w : World) (h : RState w g s) :
    Calls Try.prog 31 #[.pointer (some ⟨g, 0, none⟩)] w fun e w' => EndPost s e ∧ Kept [g] w w' := by
  rcases s with l | k
  · have hat : RAt w g l := h
    clear h
    obtain ⟨a, n, c, c0, c1, f0, f1, hlt, HB, HR, HN⟩ := hat.cells
    have HL := Lib.hid HR.out.len
    have hsm := HR.out.small
    clear hat f0
    by_cases h0 : 0 < n
    · have HE := Lib.hid (show l ≠ [] from by rintro rfl; have := HL.out; simp at this; omega)
      have c1' : (w.setCell ⟨g, 1, none⟩ (.int .i64 60)).cell? ⟨g, 1, none⟩ = some (.int .i64 60) := World.cell?_setCell_same w _ _ c1
      go_enter Try.func31, Try.ntmps31
      go_wp2
      go_ret
      refine ⟨?_, (Kept.refl [g] w).setCell _ _ (.inl (by simp))⟩
      simp only [EndPost]
      rw [if_neg HE.out]
      rfl
    · have hn : n = 0 := by omega
      subst hn
      have HE := Lib.hid (show l = [] from List.eq_nil_of_length_eq_zero HL.out)
      go_enter Try.func31, Try.ntmps31
      go_wp2
      go_ret
      refine ⟨?_, Kept.refl _ _⟩
      simp only [EndPost]
      rw [if_pos HE.out]
      rfl
  · have hbad : RBad w g k := h
    obtain ⟨c1, hlt, e1, e2⟩ := hbad.cells
    clear h hbad
    go_enter Try.func31, Try.ntmps31
    go_wp2
    go_ret
    exact ⟨rfl, Kept.refl _ _⟩

theorem OwnS.kept1 {F : List Nat} {w w' : World} {B : Nat} {t : TypeId} {v : Value} {ss : List ByteArray} (h : OwnS w B t v ss) (hk : Kept F w w') (hF : ∀ k, v.ownBlock = some k → k ∉ F) : OwnS w' B t v ss := hk.own h hF
/-- append(v, p), v a row of strings of the call's own. -/
theorem app_str1 {ops : Array Oper} {rest : List Oper} {o : Oper} {act : Act} {Q : Exit → Act → World → Prop} (w : World) (hg : o.guard = none) (s x : Operand)
    (hop : o.op = .call { callee := .builtin .append, args := #[s, x], argTypes := #[77, 77] }) (B : Nat) (v : Value) (zs : List ByteArray) (p : ByteArray) (hs : act.eval s = v)
    (hx : act.eval x = .slice (some ⟨w.heap.size, 0, none⟩) 1 1) (hown : OwnS w B 9 v zs) (hB : B ≤ w.heap.size) (hl : zs.length ≤ 2000000)
    (K : ∀ v' w', OwnS w' B 9 v' (zs ++ [p]) → (∀ w1, Below B w1 w → Below B w1 w') → (∀ F w1, Kept F w1 w → w1.heap.size ≤ B → Kept F w1 w') → (∀ k, k < w.heap.size → some k ≠ v.ownBlock → w'.heap[k]? = w.heap[k]?) → wpList Try.prog ops Q rest (act.put o.dst v') w') :
    wpList Try.prog ops Q (o :: rest) act (w.alloc (.cells #[.string p] 9)) := by
  have hr := SReads.built w [p] 9 (by simp)
  refine app_strs _ hg s x 77 9 hop Try.underlying77 string_info B v zs hs (World.ownsRow.alloc hown _) _ 1 1 [p] hx hr (by omega) (by simp; omega) ?_
  intro v' w' h1 h2
  refine K v' w' h1 (fun w1 hb => (hb.alloc hB _).grown h2 (by simp; omega) (fun k hk => (hown.lt k hk).1)) (fun F w1 hk hw => (hk.alloc _).grown h2 (fun k hk2 => .inr (by have := (hown.lt k hk2).1; omega))) fun k hk hne => ?_
  rw [h2.block k (by simp; omega) hne, Below.heap_alloc _ _ _ hk]
def IsStrs (B : Nat) (w : World) (v : Value) (a : List (List Nat)) : Prop := ∃ ss, OwnS w B 9 v ss ∧ ss.map strB = a ∧ ∀ s ∈ ss, s.size ≤ maxLen

set_option maxRecDepth 100000 in
set_option maxHeartbeats 6400000 in
theorem rtexts_st (g : Nat) (s : List Nat ⊕ Nat) (w : World) (h : RState w g s) (hgl : g < w.heap.size) :
    Calls Try.prog 53 #[.pointer (some ⟨g, 0, none⟩)] w fun e w' => RdPost cStrs (IsStrs w.heap.size) (fun _ => True) g s w e w' := by
  have HS := Lib.hid h
  clear h
  go_enter Try.func53, Try.ntmps53
  go_wp2_with (fail)
  refine (rnum_st 128 g s w HS.out (by decide)).mono ?_
  rintro e w2 ⟨hk, ⟨l, n, r, v, hl, hd, rfl, hv, hr⟩ | ⟨k, z, hl, rfl, hz, hbad⟩⟩
  · have hn := cNum_le hd
    rw [IsU64] at hv
    subst hv
    have HD := Lib.hid (cMany_dec cStr l)
    rw [hd] at HD
    have HL := Lib.hid hl
    have HK := Lib.hid hk
    have HR := Lib.hid hr
    have hwn : IntKind.i64.wrap (n : Int) = (n : Int) := by rw [IntKind.wrap_i64]; omega
    clear hd hk hl hr
    go_wp2_with (fail)
    go_loopw [3, 5] (fun s3 s5 wr => ∃ (i : Nat) (st : List Nat ⊕ Nat) (ss : List ByteArray), s5 = .int .i64 i ∧ i ≤ n ∧ Hid (RState wr g st) ∧ Hid (ManyR cStr n i r (ss.map strB) st) ∧ Hid (OwnS wr w.heap.size 9 s3 ss) ∧ Hid (ss.length ≤ i) ∧ Hid (∀ x ∈ ss, x.size ≤ maxLen) ∧ Hid (Kept [g] w wr)) (fun _ s5 _ => n - (intOf s5).toNat)
    case atStart => exact ⟨0, .inl r, [], rfl, by omega, HR.out, ManyR.start cStr n r, OwnS.nil _ _ _, by simp [Hid], by simp [Hid], HK.out⟩
    case round =>
      clear HK HR
      obtain ⟨i, st, ss, rfl, hi, HST, HM, HO, HLN, HZ, HK⟩ := hrel
      have hwr := HK.out.size
      rcases st with q | k
      · have hat : RAt wr g q := HST.out
        obtain ⟨a, m, c, c0, c1, f0, f1, hlt, _, _, _⟩ := hat.cells
        clear hat f0 f1 c0
        by_cases hin : i < n
        · go_wp2_with (fail)
          refine (rtext_st g (.inl q) wr HST.out).mono ?_
          rintro e w4 ⟨hk4, ⟨l4, tx, r4, v4, hl4, hd4, rfl, ⟨x, rfl, hx⟩, hr4⟩ | ⟨k, z, hl4, rfl, rfl, hbad⟩⟩
          · have hq : l4 = q := by injection hl4 with h; exact h.symm
            subst hq
            have O4 := Lib.hid (HO.out.kept1 hk4 (fun k hk => by have := (OwnS.lt HO.out k hk).1; simp; omega))
            have K4 := Lib.hid (HK.out.trans hk4 (Grows.refl _ _))
            have h4s := K4.out.size
            have M4 := Lib.hid (show ManyR cStr n (i + 1) r ((ss ++ [x]).map strB) (.inl r4) from by
              rw [List.map_append]
              have := HM.out.ok hin hd4
              rw [← hx] at this
              exact this)
            have hxs : x.size ≤ maxLen := by
              have hf := (cStr.only l4 tx r4 (by obtain ⟨_, _, _, _, hb, _⟩ := HST.out; exact hb.byte) hd4).1
              have h1 : tx.length ≤ 4096 := hf.1.1
              have h2 := strB_len x
              rw [hx] at h2
              unfold maxLen
              omega
            have Z4 := Lib.hid (show ∀ y ∈ ss ++ [x], y.size ≤ maxLen from by
              intro y hy
              rcases List.mem_append.1 hy with hy | hy
              · exact HZ.out y hy
              · simp at hy; rw [hy]; exact hxs)
            have R4 := Lib.hid hr4
            have hln := HLN.out
            clear hk4 hl4 hd4 hx hr4 hxs HO HM HST HK HZ c1
            go_wp2_with (at_builtin; refine app_str1 w4 rfl (.tmp 21) (.tmp 24) rfl w.heap.size _ ss x (by rfl) (by rfl) O4.out h4s (by omega) ?_)
            intro v5 w5 ho5 _ hkk hbl
            have O5 := Lib.hid ho5
            have K5 := Lib.hid (show Kept [g] w w5 from hkk [g] w K4.out (Nat.le_refl _))
            have R5 := Lib.hid (show RAt w5 g r4 from by
              obtain ⟨a', m', c', hb, hr, hn'⟩ := R4.out
              have hg4 := hb.lt
              have hne : ∀ b, b < w.heap.size → some b ≠ Value.ownBlock _ := fun b hb' e => by
                have := (OwnS.lt O4.out b e.symm).1
                omega
              refine ⟨a', m', c', hb.of_eq (hbl g hg4 (hne g hgl)), ?_, hn'⟩
              refine ⟨hr.len, hr.small, hr.byte, hr.nilOk, hr.room, ?_⟩
              rcases hr.cells with h0 | ⟨b, off, rfl, hlt', hc'⟩
              · exact .inl h0
              · by_cases hm0 : m' = 0
                · exact .inl hm0
                · have hbg := hn' (by omega) _ rfl
                  simp only at hbg
                  have hsame := hbl b hlt' (hne b (by omega))
                  refine .inr ⟨b, off, rfl, ?_, fun j hj => (World.cell?_of_block (a := ⟨b, off + j, none⟩) hsame).trans (hc' j hj)⟩
                  have := K5.out.size
                  omega)
            clear ho5 hkk hbl O4 K4 R4
            go_wp2
            go_roundw
            case rel => exact ⟨i + 1, .inl r4, ss ++ [x], by go_num, by omega, R5.out, M4.out, O5.out, by simp [Hid]; omega, Z4.out, K5.out⟩
            case measure => simp [intOf]; omega
          · have hdk : cStr.dec q = .inr k := by
              rcases hl4 with h | ⟨l4, h, hd4⟩
              · cases h
              · injection h with h
                rw [h]
                exact hd4
            have O4 := Lib.hid (HO.out.kept1 hk4 (fun k hk => by have := (OwnS.lt HO.out k hk).1; simp; omega))
            have K4 := Lib.hid (HK.out.trans hk4 (Grows.refl _ _))
            have h4s := K4.out.size
            have M4 := Lib.hid (show ManyR cStr n (i + 1) r ((ss ++ [(⟨#[]⟩ : ByteArray)]).map strB) (.inr k) from HM.out.bad hin hdk)
            have Z4 := Lib.hid (show ∀ y ∈ ss ++ [(⟨#[]⟩ : ByteArray)], y.size ≤ maxLen from by
              intro y hy
              rcases List.mem_append.1 hy with hy | hy
              · exact HZ.out y hy
              · simp at hy; rw [hy]; decide)
            have R4 := Lib.hid hbad
            have hln := HLN.out
            clear hk4 hl4 hdk hbad HO HM HST HK HZ c1
            go_wp2_with (at_builtin; refine app_str1 w4 rfl (.tmp 21) (.tmp 24) rfl w.heap.size _ ss ⟨#[]⟩ (by rfl) (by rfl) O4.out h4s (by omega) ?_)
            intro v5 w5 ho5 _ hkk hbl
            have O5 := Lib.hid ho5
            have K5 := Lib.hid (show Kept [g] w w5 from hkk [g] w K4.out (Nat.le_refl _))
            have R5 := Lib.hid (show RBad w5 g k from by
              obtain ⟨z, hb, hk0⟩ := R4.out
              exact ⟨z, hb.of_eq (hbl g hb.lt (fun e => by have := (OwnS.lt O4.out g e.symm).1; omega)), hk0⟩)
            clear ho5 hkk hbl O4 K4 R4
            go_wp2
            go_roundw
            case rel => exact ⟨i + 1, .inr k, ss ++ [(⟨#[]⟩ : ByteArray)], by go_num, by omega, R5.out, M4.out, O5.out, by simp [Hid]; omega, Z4.out, K5.out⟩
            case measure => simp [intOf]; omega
        · have hin' : i = n := by omega
          subst hin'
          have HE := Lib.hid (show cStrs.dec l = .inl (ss.map strB, q) from HD.out.trans HM.out.fin)
          go_wp2
          go_ret
          exact ⟨HK.out, .inl ⟨l, _, q, _, HL.out, HE.out, rfl, ⟨ss, HO.out, rfl, HZ.out⟩, HST.out⟩⟩
      · have hbad : RBad wr g k := HST.out
        obtain ⟨c1, hlt, e1, e2⟩ := hbad.cells
        have HE := Lib.hid (show cStrs.dec l = .inr k from HD.out.trans HM.out)
        clear hbad
        by_cases hin : i < n
        all_goals
          go_wp2
          go_ret
          exact ⟨HK.out, .inr ⟨k, _, .inr ⟨l, HL.out, HE.out⟩, rfl, trivial, HST.out⟩⟩
  · subst hz
    have HK := Lib.hid hk
    have HBAD := Lib.hid hbad
    have HL := Lib.hid (show s = .inr k ∨ ∃ l, s = .inl l ∧ cStrs.dec l = .inr k from by
      rcases hl with hl | ⟨l, hl, hd⟩
      · exact .inl hl
      · refine .inr ⟨l, hl, ?_⟩
        have := cMany_dec cStr l
        rw [hd] at this
        exact this)
    clear hk hbad hl
    go_wp2
    go_rounds 1
    go_wp2
    go_ret
    exact ⟨HK.out, .inr ⟨k, _, HL.out, rfl, trivial, HBAD.out⟩⟩

/-- What is read: the thing, as V says it of the value; or the error's number, and some thing. -/
def RdS {α : Type} (C : Cod α) (V : World → Value → α → Prop) (g : Nat) (s : List Nat ⊕ Nat) (w : World) (e : Ending) (w' : World) : Prop :=
  Kept [g] w w' ∧ ((∃ l a r v, s = .inl l ∧ C.dec l = .inl (a, r) ∧ e = .returned v ∧ V w' v a ∧ RAt w' g r) ∨
    (∃ k z a, (s = .inr k ∨ ∃ l, s = .inl l ∧ C.dec l = .inr k) ∧ e = .returned z ∧ V w' z a ∧ RBad w' g k))
theorem RState.kept {g : Nat} {s : List Nat ⊕ Nat} {F : List Nat} {w w' : World} (h : RState w g s) (hk : Kept F w w') (hF : ∀ k ∈ F, g < k) : RState w' g s := by
  have hg : g ∉ F := fun hx => by have := hF g hx; omega
  rcases s with l | k
  · obtain ⟨a, n, c, hb, hr, hn⟩ := h
    refine ⟨a, n, c, hk.blk hb hg, ⟨hr.len, hr.small, hr.byte, hr.nilOk, hr.room, ?_⟩, hn⟩
    rcases hr.cells with h0 | ⟨b, off, ha, hlt, hc⟩
    · exact .inl h0
    · by_cases h0 : n = 0
      · exact .inl h0
      · have hbg := hn (by omega) _ ha
        refine .inr ⟨b, off, ha, Nat.lt_of_lt_of_le hlt hk.size, fun i hi => ?_⟩
        rw [hk.cell (p := ⟨b, off + i, none⟩) hlt (fun hx => by have := hF b hx; simp only at hbg; omega)]
        exact hc i hi
  · obtain ⟨v, hb, hk0⟩ := h
    exact ⟨v, hk.blk hb hg, hk0⟩
theorem RAt.byte {w : World} {g : Nat} {l : List Nat} (h : RAt w g l) : ∀ b ∈ l, b < 256 := by
  obtain ⟨_, _, _, _, hr, _⟩ := h
  exact hr.byte

set_option maxRecDepth 100000 in
set_option maxHeartbeats 6400000 in
theorem rvec_sh (g : Nat) (s : List Nat ⊕ Nat) (w : World) (h : RState w g s) (hgl : g < w.heap.size) :
    Calls Try.prog 52 #[.pointer (some ⟨g, 0, none⟩)] w fun e w' => RdS cVec (IsSl w.heap.size (.int .i32) 4 (fun xs => xs)) g s w e w' := by
  have HS := Lib.hid h
  clear h
  go_enter Try.func52, Try.ntmps52
  go_wp2_with (fail)
  refine (rnum_st 128 g s w HS.out (by decide)).mono ?_
  rintro e w2 ⟨hk, ⟨l, n, r, v, hl, hd, rfl, hv, hr⟩ | ⟨k, z, hl, rfl, hz, hbad⟩⟩
  · have hn := cNum_le hd
    rw [IsU64] at hv
    subst hv
    have HD := Lib.hid (cMany_dec (cInt (-2147483648) 2147483647) l)
    rw [hd] at HD
    have HL := Lib.hid hl
    have HK := Lib.hid hk
    have HR := Lib.hid hr
    have hwn : IntKind.i64.wrap (n : Int) = (n : Int) := by rw [IntKind.wrap_i64]; omega
    clear hd hk hl hr
    go_wp2_with (fail)
    go_loopw [3, 5] (fun s3 s5 wr => ∃ (i : Nat) (st : List Nat ⊕ Nat) (xs : List Int), s5 = .int .i64 i ∧ i ≤ n ∧ Hid (RState wr g st) ∧ Hid (ManyR (cInt (-2147483648) 2147483647) n i r xs st) ∧ Hid (OwnR w.heap.size wr 21 (.int .i32) s3 xs) ∧ Hid (xs.length ≤ i) ∧ Hid (Kept [g] w wr)) (fun _ s5 _ => n - (intOf s5).toNat)
    case atStart => exact ⟨0, .inl r, [], rfl, by omega, HR.out, ManyR.start _ n r, OwnR.nil _ _ _ _, by simp [Hid], HK.out⟩
    case round =>
      clear HK HR
      obtain ⟨i, st, xs, rfl, hi, HST, HM, HO, HLN, HK⟩ := hrel
      have hwr := HK.out.size
      rcases st with q | k
      · have hat : RAt wr g q := HST.out
        obtain ⟨a, m, c, c0, c1, f0, f1, hlt, _, _, _⟩ := hat.cells
        clear hat f0 f1 c0
        by_cases hin : i < n
        · go_wp2_with (fail)
          refine (rwhole_st (-2147483648) 2147483647 g (.inl q) wr HST.out).mono ?_
          rintro e w4 ⟨hk4, ⟨l4, x, r4, v4, hl4, hd4, rfl, hx, hr4⟩ | ⟨k, z, hl4, rfl, rfl, hbad⟩⟩
          · have hq : l4 = q := by injection hl4 with h; exact h.symm
            subst hq
            rw [IsI64] at hx
            subst hx
            have hrg := cInt_range (RAt.byte HST.out) hd4
            have O4 := Lib.hid (HO.out.kept hk4 (by simp; omega))
            have K4 := Lib.hid (HK.out.trans hk4 (Grows.refl _ _))
            have h4s := K4.out.size
            have M4 := Lib.hid (HM.out.ok hin hd4)
            have R4 := Lib.hid (show RState w4 g (.inl r4) from hr4)
            have hln := HLN.out
            have X4 := Lib.hid (show Rd (fun k => w.heap.size ≤ k ∧ Value.ownBlock u3 ≠ some k) w4 (.int .i32) [.int .i32 x] x from Rd.int_mk rfl (i32_mk hrg))
            have hwx : IntKind.i32.wrap x = x := by rw [IntKind.wrap_i32]; omega
            clear hk4 hl4 hd4 hr4 HO HM HST HK c1
            go_wp2_with (at_builtin; go_must (refine app_row (e := .int .i32) w4 rfl (.tmp 21) (.tmp 25) 76 rfl Try.underlying76 (.int .i32 0) 4 i32_info rfl (by decide) x [.int .i32 x] (by rfl) (by rfl) O4.out X4.out h4s (show (List.length (α := Int) xs + 1) * 4 ≤ 140737488355328 by omega) (show List.length (α := Int) xs ≤ 2000000 by omega) ?_))
            intro v5 w5 ho5 hk5 hg5
            have O5 := Lib.hid ho5
            have hown := fun k (hk : k ∈ ownB u3) => (O4.out.lt k (mem_ownB.1 hk)).1
            have K5 := Lib.hid (K4.out.trans hk5 (fun k hk => .inr (hown k hk)))
            have R5 := Lib.hid (R4.out.kept hk5 (fun k hk => by have := hown k hk; omega))
            clear ho5 hk5 hg5 hown O4 K4 R4
            go_wp2
            go_roundw
            case rel => exact ⟨i + 1, .inl r4, xs ++ [x], by go_num, by omega, R5.out, M4.out, O5.out, by simp [Hid]; omega, K5.out⟩
            case measure => simp [intOf]; omega
          · have hdk : (cInt (-2147483648) 2147483647).dec q = .inr k := by
              rcases hl4 with h | ⟨l4, h, hd4⟩
              · cases h
              · injection h with h
                rw [h]
                exact hd4
            have O4 := Lib.hid (HO.out.kept hk4 (by simp; omega))
            have K4 := Lib.hid (HK.out.trans hk4 (Grows.refl _ _))
            have h4s := K4.out.size
            have M4 := Lib.hid (show ManyR (cInt (-2147483648) 2147483647) n (i + 1) r (xs ++ [0]) (.inr k) from HM.out.bad hin hdk)
            have R4 := Lib.hid (show RState w4 g (.inr k) from hbad)
            have hln := HLN.out
            have X4 := Lib.hid (show Rd (fun k => w.heap.size ≤ k ∧ Value.ownBlock u3 ≠ some k) w4 (.int .i32) [.int .i32 0] (0 : Int) from Rd.int_mk rfl (i32_mk (by decide)))
            clear hk4 hl4 hdk hbad HO HM HST HK c1
            go_wp2_with (at_builtin; go_must (refine app_row (e := .int .i32) w4 rfl (.tmp 21) (.tmp 25) 76 rfl Try.underlying76 (.int .i32 0) 4 i32_info rfl (by decide) (0 : Int) [.int .i32 0] (by rfl) (by rfl) O4.out X4.out h4s (show (List.length (α := Int) xs + 1) * 4 ≤ 140737488355328 by omega) (show List.length (α := Int) xs ≤ 2000000 by omega) ?_))
            intro v5 w5 ho5 hk5 hg5
            have O5 := Lib.hid ho5
            have hown := fun k (hk : k ∈ ownB u3) => (O4.out.lt k (mem_ownB.1 hk)).1
            have K5 := Lib.hid (K4.out.trans hk5 (fun k hk => .inr (hown k hk)))
            have R5 := Lib.hid (R4.out.kept hk5 (fun k hk => by have := hown k hk; omega))
            clear ho5 hk5 hg5 hown O4 K4 R4
            go_wp2
            go_roundw
            case rel => exact ⟨i + 1, .inr k, xs ++ [0], by go_num, by omega, R5.out, M4.out, O5.out, by simp [Hid]; omega, K5.out⟩
            case measure => simp [intOf]; omega
        · have hin' : i = n := by omega
          subst hin'
          have HE := Lib.hid (show cVec.dec l = .inl (xs, q) from HD.out.trans HM.out.fin)
          have HR := Lib.hid (HO.out.rd 4 (by decide) (show List.length (α := Int) xs * 4 ≤ 140737488351232 by have := HLN.out; omega))
          go_wp2
          go_ret
          exact ⟨HK.out, .inl ⟨l, _, q, _, HL.out, HE.out, rfl, ⟨xs, HR.out, rfl⟩, HST.out⟩⟩
      · have hbad : RBad wr g k := HST.out
        obtain ⟨c1, hlt, e1, e2⟩ := hbad.cells
        have HE := Lib.hid (show cVec.dec l = .inr k from HD.out.trans HM.out)
        have HR := Lib.hid (HO.out.rd 4 (by decide) (show List.length (α := Int) xs * 4 ≤ 140737488351232 by have := HLN.out; omega))
        clear hbad
        by_cases hin : i < n
        all_goals
          go_wp2
          go_ret
          exact ⟨HK.out, .inr ⟨k, _, xs, .inr ⟨l, HL.out, HE.out⟩, rfl, ⟨xs, HR.out, rfl⟩, HST.out⟩⟩
  · subst hz
    have HK := Lib.hid hk
    have HBAD := Lib.hid hbad
    have HL := Lib.hid (show s = .inr k ∨ ∃ l, s = .inl l ∧ cVec.dec l = .inr k from by
      rcases hl with hl | ⟨l, hl, hd⟩
      · exact .inl hl
      · refine .inr ⟨l, hl, ?_⟩
        have := cMany_dec (cInt (-2147483648) 2147483647) l
        rw [hd] at this
        exact this)
    have HR := Lib.hid ((OwnR.nil w.heap.size w2 21 (.int .i32)).rd 4 (by decide) (by simp))
    clear hk hbad hl
    go_wp2
    go_rounds 1
    go_wp2
    go_ret
    exact ⟨HK.out, .inr ⟨k, _, [], HL.out, rfl, ⟨[], HR.out, rfl⟩, HBAD.out⟩⟩
set_option maxRecDepth 100000 in
set_option maxHeartbeats 6400000 in
theorem rtexts_sh (g : Nat) (s : List Nat ⊕ Nat) (w : World) (h : RState w g s) (hgl : g < w.heap.size) :
    Calls Try.prog 53 #[.pointer (some ⟨g, 0, none⟩)] w fun e w' => RdS cStrs (IsSl w.heap.size .str 16 toTags) g s w e w' := by
  have HS := Lib.hid h
  clear h
  go_enter Try.func53, Try.ntmps53
  go_wp2_with (fail)
  refine (rnum_st 128 g s w HS.out (by decide)).mono ?_
  rintro e w2 ⟨hk, ⟨l, n, r, v, hl, hd, rfl, hv, hr⟩ | ⟨k, z, hl, rfl, hz, hbad⟩⟩
  · have hn := cNum_le hd
    rw [IsU64] at hv
    subst hv
    have HD := Lib.hid (cMany_dec cStr l)
    rw [hd] at HD
    have HL := Lib.hid hl
    have HK := Lib.hid hk
    have HR := Lib.hid hr
    have hwn : IntKind.i64.wrap (n : Int) = (n : Int) := by rw [IntKind.wrap_i64]; omega
    clear hd hk hl hr
    go_wp2_with (fail)
    go_loopw [3, 5] (fun s3 s5 wr => ∃ (i : Nat) (st : List Nat ⊕ Nat) (xs : List ByteArray), s5 = .int .i64 i ∧ i ≤ n ∧ Hid (RState wr g st) ∧ Hid (ManyR cStr n i r (toTags xs) st) ∧ Hid (OwnR w.heap.size wr 9 .str s3 xs) ∧ Hid (xs.length ≤ i) ∧ Hid (Kept [g] w wr)) (fun _ s5 _ => n - (intOf s5).toNat)
    case atStart => exact ⟨0, .inl r, [], rfl, by omega, HR.out, ManyR.start _ n r, OwnR.nil _ _ _ _, by simp [Hid], HK.out⟩
    case round =>
      clear HK HR
      obtain ⟨i, st, xs, rfl, hi, HST, HM, HO, HLN, HK⟩ := hrel
      have hwr := HK.out.size
      rcases st with q | k
      · have hat : RAt wr g q := HST.out
        obtain ⟨a, m, c, c0, c1, f0, f1, hlt, _, _, _⟩ := hat.cells
        clear hat f0 f1 c0
        by_cases hin : i < n
        · go_wp2_with (fail)
          refine (rtext_st g (.inl q) wr HST.out).mono ?_
          rintro e w4 ⟨hk4, ⟨l4, tx, r4, v4, hl4, hd4, rfl, ⟨x, rfl, hx⟩, hr4⟩ | ⟨k, z, hl4, rfl, rfl, hbad⟩⟩
          · have hq : l4 = q := by injection hl4 with h; exact h.symm
            subst hq
            have hxs : x.size ≤ 140737488351232 := by
              have hf := (cStr.only l4 tx r4 (RAt.byte HST.out) hd4).1
              have h1 : tx.length ≤ 4096 := hf.1.1
              have h2 := strB_len x
              rw [hx] at h2
              omega
            have O4 := Lib.hid (HO.out.kept hk4 (by simp; omega))
            have K4 := Lib.hid (HK.out.trans hk4 (Grows.refl _ _))
            have h4s := K4.out.size
            have M4 := Lib.hid (show ManyR cStr n (i + 1) r (toTags (xs ++ [x])) (.inl r4) from by
              have := HM.out.ok hin hd4
              rw [← hx] at this
              simpa [toTags] using this)
            have R4 := Lib.hid (show RState w4 g (.inl r4) from hr4)
            have hln := HLN.out
            have X4 := Lib.hid (show Rd (fun k => w.heap.size ≤ k ∧ Value.ownBlock u3 ≠ some k) w4 .str [.string x] x from Rd.str_mk rfl hxs)
            clear hk4 hl4 hd4 hr4 hx HO HM HST HK c1
            go_wp2_with (at_builtin; go_must (refine app_row (e := .str) w4 rfl (.tmp 21) (.tmp 24) 77 rfl Try.underlying77 (.string ⟨#[]⟩) 16 string_info rfl (by decide) x [.string x] (by rfl) (by rfl) O4.out X4.out h4s (show (List.length (α := ByteArray) xs + 1) * 16 ≤ 140737488355328 by omega) (show List.length (α := ByteArray) xs ≤ 2000000 by omega) ?_))
            intro v5 w5 ho5 hk5 hg5
            have O5 := Lib.hid ho5
            have hown := fun k (hk : k ∈ ownB u3) => (O4.out.lt k (mem_ownB.1 hk)).1
            have K5 := Lib.hid (K4.out.trans hk5 (fun k hk => .inr (hown k hk)))
            have R5 := Lib.hid (R4.out.kept hk5 (fun k hk => by have := hown k hk; omega))
            clear ho5 hk5 hg5 hown O4 K4 R4
            go_wp2
            go_roundw
            case rel => exact ⟨i + 1, .inl r4, xs ++ [x], by go_num, by omega, R5.out, M4.out, O5.out, by simp [Hid]; omega, K5.out⟩
            case measure => simp [intOf]; omega
          · have hdk : cStr.dec q = .inr k := by
              rcases hl4 with h | ⟨l4, h, hd4⟩
              · cases h
              · injection h with h
                rw [h]
                exact hd4
            have O4 := Lib.hid (HO.out.kept hk4 (by simp; omega))
            have K4 := Lib.hid (HK.out.trans hk4 (Grows.refl _ _))
            have h4s := K4.out.size
            have M4 := Lib.hid (show ManyR cStr n (i + 1) r (toTags (xs ++ [(⟨#[]⟩ : ByteArray)])) (.inr k) from HM.out.bad hin hdk)
            have R4 := Lib.hid (show RState w4 g (.inr k) from hbad)
            have hln := HLN.out
            have X4 := Lib.hid (show Rd (fun k => w.heap.size ≤ k ∧ Value.ownBlock u3 ≠ some k) w4 .str [.string ⟨#[]⟩] (⟨#[]⟩ : ByteArray) from Rd.str_mk rfl (by decide))
            clear hk4 hl4 hdk hbad HO HM HST HK c1
            go_wp2_with (at_builtin; go_must (refine app_row (e := .str) w4 rfl (.tmp 21) (.tmp 24) 77 rfl Try.underlying77 (.string ⟨#[]⟩) 16 string_info rfl (by decide) (⟨#[]⟩ : ByteArray) [.string ⟨#[]⟩] (by rfl) (by rfl) O4.out X4.out h4s (show (List.length (α := ByteArray) xs + 1) * 16 ≤ 140737488355328 by omega) (show List.length (α := ByteArray) xs ≤ 2000000 by omega) ?_))
            intro v5 w5 ho5 hk5 hg5
            have O5 := Lib.hid ho5
            have hown := fun k (hk : k ∈ ownB u3) => (O4.out.lt k (mem_ownB.1 hk)).1
            have K5 := Lib.hid (K4.out.trans hk5 (fun k hk => .inr (hown k hk)))
            have R5 := Lib.hid (R4.out.kept hk5 (fun k hk => by have := hown k hk; omega))
            clear ho5 hk5 hg5 hown O4 K4 R4
            go_wp2
            go_roundw
            case rel => exact ⟨i + 1, .inr k, xs ++ [(⟨#[]⟩ : ByteArray)], by go_num, by omega, R5.out, M4.out, O5.out, by simp [Hid]; omega, K5.out⟩
            case measure => simp [intOf]; omega
        · have hin' : i = n := by omega
          subst hin'
          have HE := Lib.hid (show cStrs.dec l = .inl (toTags xs, q) from HD.out.trans HM.out.fin)
          have HR := Lib.hid (HO.out.rd 16 (by decide) (show List.length (α := ByteArray) xs * 16 ≤ 140737488351232 by have := HLN.out; omega))
          go_wp2
          go_ret
          exact ⟨HK.out, .inl ⟨l, _, q, _, HL.out, HE.out, rfl, ⟨xs, HR.out, rfl⟩, HST.out⟩⟩
      · have hbad : RBad wr g k := HST.out
        obtain ⟨c1, hlt, e1, e2⟩ := hbad.cells
        have HE := Lib.hid (show cStrs.dec l = .inr k from HD.out.trans HM.out)
        have HR := Lib.hid (HO.out.rd 16 (by decide) (show List.length (α := ByteArray) xs * 16 ≤ 140737488351232 by have := HLN.out; omega))
        clear hbad
        by_cases hin : i < n
        all_goals
          go_wp2
          go_ret
          exact ⟨HK.out, .inr ⟨k, _, _, .inr ⟨l, HL.out, HE.out⟩, rfl, ⟨xs, HR.out, rfl⟩, HST.out⟩⟩
  · subst hz
    have HK := Lib.hid hk
    have HBAD := Lib.hid hbad
    have HL := Lib.hid (show s = .inr k ∨ ∃ l, s = .inl l ∧ cStrs.dec l = .inr k from by
      rcases hl with hl | ⟨l, hl, hd⟩
      · exact .inl hl
      · refine .inr ⟨l, hl, ?_⟩
        have := cMany_dec cStr l
        rw [hd] at this
        exact this)
    have HR := Lib.hid ((OwnR.nil w.heap.size w2 9 .str).rd 16 (by decide) (by simp))
    clear hk hbad hl
    go_wp2
    go_rounds 1
    go_wp2
    go_ret
    exact ⟨HK.out, .inr ⟨k, _, _, HL.out, rfl, ⟨[], HR.out, rfl⟩, HBAD.out⟩⟩

/-- What is read: some thing, as V says it of the value, and the reader's next state. -/
def RdU {α : Type} (C : Cod α) (V : World → Value → α → Prop) (g : Nat) (s : List Nat ⊕ Nat) (w : World) (e : Ending) (w' : World) : Prop :=
  Kept [g] w w' ∧ ∃ v a st, e = .returned v ∧ V w' v a ∧ RState w' g st ∧ Step C s a st
theorem RdS.u {α : Type} {C : Cod α} {V : World → Value → α → Prop} {g : Nat} {s : List Nat ⊕ Nat} {w w' : World} {e : Ending} (h : RdS C V g s w e w') : RdU C V g s w e w' := by
  obtain ⟨hk, ⟨l, a, r, v, rfl, hd, he, hv, hr⟩ | ⟨k, z, a, hs, he, hv, hr⟩⟩ := h
  · exact ⟨hk, v, a, .inl r, he, hv, hr, hd⟩
  · refine ⟨hk, z, a, .inr k, he, hv, hr, ?_⟩
    rcases hs with rfl | ⟨l, rfl, hd⟩
    · rfl
    · exact hd
theorem RdPost.u {α : Type} {C : Cod α} {V V' : World → Value → α → Prop} {Z : Value → Prop} {g : Nat} {s : List Nat ⊕ Nat} {w w' : World} {e : Ending} (h : RdPost C V Z g s w e w') (z0 : α) (hz : ∀ v, Z v → V' w' v z0) (hv' : ∀ l v a r, s = .inl l → C.dec l = .inl (a, r) → V w' v a → V' w' v a) : RdU C V' g s w e w' := by
  obtain ⟨hk, ⟨l, a, r, v, rfl, hd, he, hv, hr⟩ | ⟨k, z, hs, he, hv, hr⟩⟩ := h
  · exact ⟨hk, v, a, .inl r, he, hv' l v a r rfl hd hv, hr, hd⟩
  · refine ⟨hk, z, z0, .inr k, he, hz z hv, hr, ?_⟩
    rcases hs with rfl | ⟨l, rfl, hd⟩
    · rfl
    · exact hd
theorem rnum_u (most g : Nat) (s : List Nat ⊕ Nat) (w : World) (h : RState w g s) (hm : most < 18446744073709551616) :
    Calls Try.prog 40 #[.pointer (some ⟨g, 0, none⟩), .int .u64 most] w fun e w' => RdU (cNum most hm) (IsNum most) g s w e w' :=
  (rnum_st most g s w h hm).mono fun _ _ hp => hp.u 0 (fun _ hv => ⟨hv, Nat.zero_le _⟩) (fun _ _ _ _ _ hd hv => ⟨hv, cNum_le hd⟩)
theorem rtext_u (g : Nat) (s : List Nat ⊕ Nat) (w : World) (h : RState w g s) :
    Calls Try.prog 63 #[.pointer (some ⟨g, 0, none⟩)] w fun e w' => RdU cStr IsTx g s w e w' := by
  refine (rtext_st g s w h).mono fun _ _ hp => hp.u [] (fun _ hv => ⟨⟨#[]⟩, hv, rfl, by decide⟩) ?_
  rintro l v a r rfl hd ⟨x, rfl, hx⟩
  refine ⟨x, rfl, hx, ?_⟩
  have h1 : a.length ≤ 4096 := (cStr.only l a r (RAt.byte h) hd).1.1.1
  have h2 := strB_len x
  rw [hx] at h2
  omega
theorem rwhole_u (low high : Int) (h0 : low ≤ 0) (h1 : 0 ≤ high) (g : Nat) (s : List Nat ⊕ Nat) (w : World) (h : RState w g s) :
    Calls Try.prog 62 #[.pointer (some ⟨g, 0, none⟩), .int .i64 low, .int .i64 high] w fun e w' => RdU (cInt low high) (IsInt low high) g s w e w' := by
  refine (rwhole_st low high g s w h).mono fun _ _ hp => hp.u 0 (fun _ hv => ⟨hv, h0, h1⟩) ?_
  rintro l v a r rfl hd hv
  exact ⟨hv, cInt_range (RAt.byte h) hd⟩

set_option maxRecDepth 100000 in
set_option maxHeartbeats 3200000 in
theorem ritem_u (g : Nat) (s : List Nat ⊕ Nat) (w : World) (h : RState w g s) (hgl : g < w.heap.size) :
    Calls Try.prog 41 #[.pointer (some ⟨g, 0, none⟩)] w fun e w' => RdU cItem (IsSt w.heap.size shItem toItem) g s w e w' := by
  have HS := Lib.hid h
  clear h
  obtain ⟨w1, hw1⟩ : ∃ w1, w.alloc (.cells #[.int .u32 0, .slice none 0 0, .slice none 0 0] 79) = w1 := ⟨_, rfl⟩
  have K1 := Lib.hid (show Kept [g] w w1 from by rw [← hw1]; exact (Kept.refl _ _).alloc _)
  have X1 := Lib.hid (show Blk w1 w.heap.size 79 [.int .u32 0, .slice none 0 0, .slice none 0 0] from by rw [← hw1]; exact Blk.new w _ _)
  have S1 := Lib.hid (show RState w1 g s from by rw [← hw1]; exact HS.out.kept (F := []) ((Kept.refl _ _).alloc _) (by simp))
  go_enter Try.func41, Try.ntmps41
  go_wp2_with (fail)
  try rw [hw1]
  clear hw1
  refine (rnum_u 4294967295 g s w1 S1.out (by decide)).mono ?_
  rintro e w2 ⟨hk2, v2, id, s2, rfl, ⟨rfl, hid⟩, hs2, st2⟩
  have hwid : IntKind.u32.wrap (id : Int) = (id : Int) := by rw [IntKind.wrap_u32]; omega
  have S2 := Lib.hid hs2
  have T2 := Lib.hid st2
  have K2 := Lib.hid (K1.out.trans hk2 (Grows.refl _ _))
  have X2 := Lib.hid (hk2.blk X1.out (by simp; omega))
  clear hk2 hs2 st2 S1
  go_wp2_with (fail)
  obtain ⟨w3, hw3⟩ : ∃ w3, w2.alloc (.cells #[.int .u32 (id : Int), .slice none 0 0, .slice none 0 0] 79) = w3 := ⟨_, rfl⟩
  have K3 := Lib.hid (show Kept [g] w w3 from by rw [← hw3]; exact K2.out.alloc _)
  have X3 := Lib.hid (show Blk w3 w.heap.size 79 [.int .u32 0, .slice none 0 0, .slice none 0 0] from by rw [← hw3]; exact X2.out.alloc _)
  have Y3 := Lib.hid (show Blk w3 w2.heap.size 79 [.int .u32 (id : Int), .slice none 0 0, .slice none 0 0] from by rw [← hw3]; exact Blk.new w2 _ _)
  have S3 := Lib.hid (show RState w3 g s2 from by rw [← hw3]; exact S2.out.kept (F := []) ((Kept.refl _ _).alloc _) (by simp))
  rw [hw3]
  clear hw3
  have hws : w.heap.size ≤ w2.heap.size := K2.out.size
  have hwlt := X2.out.lt
  clear S2 K2 X2
  refine (rvec_sh g s2 w3 S3.out (by have := K3.out.size; omega)).mono ?_
  rintro e w4 hu
  obtain ⟨hk4, v4, vec, s4, rfl, hv4, hs4, st4⟩ := hu.u
  obtain ⟨p, n, c, vec, rfl, rv, rfl⟩ := hv4.one
  have V4 := Lib.hid (show Rd (w3.heap.size ≤ ·) w4 shVec [.slice p n c] vec from rv)
  have S4 := Lib.hid hs4
  have T4 := Lib.hid st4
  have K4 := Lib.hid (K3.out.trans hk4 (Grows.refl _ _))
  have hk4s := hk4.size
  have X4 := Lib.hid (hk4.blk X3.out (by simp; omega))
  have Y4 := Lib.hid (hk4.blk Y3.out (by simp; omega))
  have y1 : w4.cell? ⟨w2.heap.size, 1, none⟩ = some (.slice none 0 0) := Y4.out.cell 1
  have f1 := Y4.out.frozen 1
  have l4 := Y4.out.lt
  have hw23 : w2.heap.size < w3.heap.size := Y3.out.lt
  clear hu hk4 hv4 rv hs4 st4 S3 K3 X3 Y3
  go_wp2_with (fail)
  obtain ⟨w5, hw5⟩ : ∃ w5, w4.setCell ⟨w2.heap.size, 1, none⟩ (.slice p n c) = w5 := ⟨_, rfl⟩
  have k45 : Kept [w2.heap.size] w4 w5 := by rw [← hw5]; exact (Kept.refl _ _).setCell _ _ (.inl (by simp))
  have K5 := Lib.hid (show Kept [g] w w5 from K4.out.trans k45 (fun k hk => .inr (by simp at hk; omega)))
  have X5 := Lib.hid (show Blk w5 w.heap.size 79 [.int .u32 0, .slice none 0 0, .slice none 0 0] from k45.blk X4.out (by simp; omega))
  have Y5 := Lib.hid (show Blk w5 w2.heap.size 79 [.int .u32 (id : Int), .slice p n c, .slice none 0 0] from by rw [← hw5]; exact Y4.out.set 1 (.slice p n c))
  have S5 := Lib.hid (S4.out.kept k45 (by simp; omega))
  have V5 := Lib.hid (V4.out.kept k45 (fun k hk ho => by simp at hk; omega))
  have h5s := k45.size
  try rw [hw5]
  clear hw5 k45 S4 V4 K4 X4 Y4 y1 f1 l4
  refine (rtexts_sh g s4 w5 S5.out (by omega)).mono ?_
  rintro e w6 hu
  obtain ⟨hk6, v6, tags, s6, rfl, hv6, hs6, st6⟩ := hu.u
  obtain ⟨p', n', c', tags, rfl, rt, rfl⟩ := hv6.one
  have V6 := Lib.hid (V5.out.kept hk6 (fun k hk ho => by simp at hk; omega))
  have W6 := Lib.hid (show Rd (w5.heap.size ≤ ·) w6 shTags [.slice p' n' c'] tags from rt)
  have S6 := Lib.hid hs6
  have T6 := Lib.hid st6
  have K6 := Lib.hid (K5.out.trans hk6 (Grows.refl _ _))
  have X6 := Lib.hid (hk6.blk X5.out (by simp; omega))
  have Y6 := Lib.hid (hk6.blk Y5.out (by simp; omega))
  have y0 : w6.cell? ⟨w2.heap.size, 0, none⟩ = some (.int .u32 (id : Int)) := Y6.out.cell 0
  have y1 : w6.cell? ⟨w2.heap.size, 1, none⟩ = some (.slice p n c) := Y6.out.cell 1
  have y2 : w6.cell? ⟨w2.heap.size, 2, none⟩ = some (.slice none 0 0) := Y6.out.cell 2
  have f2 := Y6.out.frozen 2
  have l6 := Y6.out.lt
  have x0 : w6.cell? ⟨w.heap.size, 0, none⟩ = some (.int .u32 0) := X6.out.cell 0
  have x1 : w6.cell? ⟨w.heap.size, 1, none⟩ = some (.slice none 0 0) := X6.out.cell 1
  have x2 : w6.cell? ⟨w.heap.size, 2, none⟩ = some (.slice none 0 0) := X6.out.cell 2
  have g0 := X6.out.frozen 0
  have g1 := X6.out.frozen 1
  have g2 := X6.out.frozen 2
  have lx := X6.out.lt
  have hne : w2.heap.size ≠ w.heap.size := by omega
  clear hu hk6 hv6 rt hs6 st6 S5 V5 K5 X5 Y5
  go_wp2_with (fail)
  obtain ⟨w7, hw7⟩ : ∃ w7, (((w6.setCell ⟨w2.heap.size, 2, none⟩ (.slice p' n' c')).setCell ⟨w.heap.size, 0, none⟩ (.int .u32 (id : Int))).setCell ⟨w.heap.size, 1, none⟩ (.slice p n c)).setCell ⟨w.heap.size, 2, none⟩ (.slice p' n' c') = w7 := ⟨_, rfl⟩
  have k67 : Kept [w2.heap.size, w.heap.size] w6 w7 := by
    rw [← hw7]
    exact ((((Kept.refl _ _).setCell _ _ (.inl (by simp))).setCell _ _ (.inl (by simp))).setCell _ _ (.inl (by simp))).setCell _ _ (.inl (by simp))
  have K7 := Lib.hid (show Kept [g] w w7 from K6.out.trans k67 (fun k hk => .inr (by simp at hk; omega)))
  have X7 := Lib.hid (show Blk w7 w.heap.size 79 [.int .u32 (id : Int), .slice p n c, .slice p' n' c'] from by
    rw [← hw7]
    exact (((X6.out.far (p := ⟨w2.heap.size, 2, none⟩) (fun h => hne h.symm) (.slice p' n' c')).set 0 (.int .u32 (id : Int))).set 1 (.slice p n c)).set 2 (.slice p' n' c'))
  have S7 := Lib.hid (S6.out.kept k67 (by simp; omega))
  have V7 := Lib.hid (V6.out.kept k67 (fun k hk ho => by simp at hk; omega))
  have W7 := Lib.hid (W6.out.kept k67 (fun k hk ho => by simp at hk; omega))
  have z0 : w7.cell? ⟨w.heap.size, 0, none⟩ = some (.int .u32 (id : Int)) := X7.out.cell 0
  have z1 : w7.cell? ⟨w.heap.size, 1, none⟩ = some (.slice p n c) := X7.out.cell 1
  have z2 : w7.cell? ⟨w.heap.size, 2, none⟩ = some (.slice p' n' c') := X7.out.cell 2
  have l7 := X7.out.lt
  rw [hw7]
  clear hw7 k67 S6 V6 W6 K6 X6 Y6 y0 y1 y2 f2 l6 x0 x1 x2 g0 g1 g2 lx
  have FIN := Lib.hid (show RdU cItem (IsSt w.heap.size shItem toItem) g s w (.returned (.agg #[.int .u32 (id : Int), .slice p n c, .slice p' n' c'])) w7 from
    ⟨K7.out, _, ⟨id, vec, toTags tags⟩, s6, rfl, ⟨[.int .u32 (id : Int), .slice p n c, .slice p' n' c'], ((id : Int), vec, tags, ()), rfl, item_mk hid (V7.out.mono (fun k hk _ => by omega)) (W7.out.mono (fun k hk _ => by omega)), rfl⟩, S7.out, Step.map (T2.out.pair (T4.out.pair T6.out))⟩)
  refine bodyPost_ret (v := .agg #[.int .u32 (id : Int), .slice p n c, .slice p' n' c']) (by simp [results, Try.results41, go_sem, z0, z1, z2]) rfl ?_
  exact FIN.out

set_option maxRecDepth 100000 in
set_option maxHeartbeats 12800000 in
theorem rchanges_u (g : Nat) (s : List Nat ⊕ Nat) (w : World) (h : RState w g s) (hgl : g < w.heap.size) :
    Calls Try.prog 30 #[.pointer (some ⟨g, 0, none⟩)] w fun e w' => RdU (cMany cChange) (IsSl w.heap.size shChange 64 (fun xs => xs.map toChange)) g s w e w' := by
  have HS := Lib.hid h
  clear h
  go_enter Try.func30, Try.ntmps30
  go_wp2_with (fail)
  refine (rnum_u 128 g s w HS.out (by decide)).mono ?_
  rintro e w2 ⟨hk2, v2, n, s2, rfl, ⟨rfl, hn⟩, hs2, st2⟩
  have K2 := Lib.hid hk2
  have S2 := Lib.hid hs2
  have T2 := Lib.hid st2
  have hwn : IntKind.i64.wrap (n : Int) = (n : Int) := by rw [IntKind.wrap_i64]; omega
  clear hk2 hs2 st2
  go_wp2_with (fail)
  go_loopw [3, 5] (fun s3 s5 wr => ∃ (i : Nat) (st : List Nat ⊕ Nat) (xs : List shChange.T), s5 = .int .i64 i ∧ i ≤ n ∧ Hid (RState wr g st) ∧ Hid (∀ r, s2 = .inl r → ManyR cChange n i r (xs.map toChange) st) ∧ Hid (∀ k, s2 = .inr k → st = .inr k) ∧ Hid (OwnR w.heap.size wr 81 shChange s3 xs) ∧ Hid (xs.length ≤ i) ∧ Hid (Kept [g] w wr)) (fun _ s5 _ => n - (intOf s5).toNat)
  case atStart => exact ⟨0, s2, [], rfl, by omega, S2.out, fun r h => by subst h; exact ManyR.start cChange n r, fun k h => h, OwnR.nil _ _ _ _, by simp [Hid], K2.out⟩
  case round =>
    clear K2 S2
    obtain ⟨i, st, xs, rfl, hi, HST, HM, HB, HO, HLN, HK⟩ := hrel
    have hwr := HK.out.size
    rcases st with q | k
    · have hat : RAt wr g q := HST.out
      obtain ⟨a, m, c, c0, c1, f0, f1, hlt, _, _, _⟩ := hat.cells
      have HM2 := Lib.hid (show ∃ r, s2 = .inl r ∧ ManyR cChange n i r (xs.map toChange) (.inl q) from by
        rcases s2 with r | k
        · exact ⟨r, rfl, HM.out r rfl⟩
        · exact nomatch HB.out k rfl)
      clear hat f0 f1 c0 HM HB
      by_cases hin : i < n
      · go_wp2_with (fail)
        refine (rnum_u 1 g (.inl q) wr HST.out (by decide)).mono ?_
        rintro e w4 ⟨hk4, v4, f, s4, rfl, ⟨rfl, hf⟩, hs4, st4⟩
        have O4 := Lib.hid (HO.out.kept hk4 (by simp; omega))
        have K4 := Lib.hid (HK.out.trans hk4 (Grows.refl _ _))
        have h4s := K4.out.size
        have S4 := Lib.hid hs4
        have T4 := Lib.hid (show Step cFlag (.inl q) (f == 1) s4 from Step.map st4)
        have hln := HLN.out
        clear hk4 hs4 st4 HO HST HK c1
        have hf01 : f = 0 ∨ f = 1 := by omega
        rcases hf01 with rfl | rfl
        · go_wp2_with (fail)
          obtain ⟨w5, hw5⟩ : ∃ w5, w4.alloc (.cells #[.bool false, .int .u32 0, .slice none 0 0, .slice none 0 0] 81) = w5 := ⟨_, rfl⟩
          have k45 : Kept [] w4 w5 := by rw [← hw5]; exact (Kept.refl _ _).alloc _
          have KK5 := Lib.hid (show Kept [g] w4 w5 from k45.mono (by simp))
          have X5 := Lib.hid (show Blk w5 w4.heap.size 81 [.bool false, .int .u32 0, .slice none 0 0, .slice none 0 0] from by rw [← hw5]; exact Blk.new w4 _ _)
          have S5 := Lib.hid (S4.out.kept k45 (by simp))
          have hown4 := Lib.hid (fun k (hk : Value.ownBlock u3 = some k) => (O4.out.lt k hk).2)
          rw [hw5]
          have h5s := k45.size
          clear hw5 k45 S4
          have l5 := X5.out.lt
          refine (ritem_u g s4 w5 S5.out (by omega)).mono ?_
          rintro e w6 ⟨hk6, v6, it, s6, rfl, ⟨cs, y, rfl, hy, hto⟩, hs6, st6⟩
          obtain ⟨id, vec, tags, p, n1, c1, p', n2, c2, rfl, rfl, hid, _⟩ := rd_item hy
          have V6 := Lib.hid hy
          have S6 := Lib.hid hs6
          subst hto
          have T6 := Lib.hid st6
          have KK6 := Lib.hid (KK5.out.trans hk6 (Grows.refl _ _))
          have X6 := Lib.hid (hk6.blk X5.out (by simp; omega))
          have h6s := hk6.size
          have x0 : w6.cell? ⟨w4.heap.size, 0, none⟩ = some (.bool false) := X6.out.cell 0
          have x1 : w6.cell? ⟨w4.heap.size, 1, none⟩ = some (.int .u32 0) := X6.out.cell 1
          have x2 : w6.cell? ⟨w4.heap.size, 2, none⟩ = some (.slice none 0 0) := X6.out.cell 2
          have x3 : w6.cell? ⟨w4.heap.size, 3, none⟩ = some (.slice none 0 0) := X6.out.cell 3
          have g1 := X6.out.frozen 1
          have g2 := X6.out.frozen 2
          have g3 := X6.out.frozen 3
          have l6 := X6.out.lt
          obtain ⟨w7, hw7⟩ : ∃ w7, ((w6.setCell ⟨w4.heap.size, 1, none⟩ (.int .u32 (id : Int))).setCell ⟨w4.heap.size, 2, none⟩ (.slice p n1 c1)).setCell ⟨w4.heap.size, 3, none⟩ (.slice p' n2 c2) = w7 := ⟨_, rfl⟩
          have k67 : Kept [w4.heap.size] w6 w7 := by
            rw [← hw7]
            exact (((Kept.refl _ _).setCell _ _ (.inl (by simp))).setCell _ _ (.inl (by simp))).setCell _ _ (.inl (by simp))
          have KK7 := Lib.hid (show Kept [g] w4 w7 from KK6.out.trans k67 (fun k hk => .inr (by simp at hk; omega)))
          have K7 := Lib.hid (K4.out.trans KK7.out (Grows.refl _ _))
          have X7 := Lib.hid (show Blk w7 w4.heap.size 81 [.bool false, .int .u32 (id : Int), .slice p n1 c1, .slice p' n2 c2] from by
            rw [← hw7]
            exact ((X6.out.set 1 (.int .u32 (id : Int))).set 2 (.slice p n1 c1)).set 3 (.slice p' n2 c2))
          have S7 := Lib.hid (S6.out.kept k67 (by simp; omega))
          have O7 := Lib.hid (O4.out.kept KK7.out (by simp; omega))
          have V7 := Lib.hid ((V6.out.kept k67 (fun k hk ho => by simp at hk; omega)).mono (ok' := fun k => w.heap.size ≤ k ∧ Value.ownBlock u3 ≠ some k) (fun k hk _ => ⟨by omega, fun hv => by have := hown4.out k hv; omega⟩))
          have z0 : w7.cell? ⟨w4.heap.size, 0, none⟩ = some (.bool false) := X7.out.cell 0
          have z1 : w7.cell? ⟨w4.heap.size, 1, none⟩ = some (.int .u32 (id : Int)) := X7.out.cell 1
          have z2 : w7.cell? ⟨w4.heap.size, 2, none⟩ = some (.slice p n1 c1) := X7.out.cell 2
          have z3 : w7.cell? ⟨w4.heap.size, 3, none⟩ = some (.slice p' n2 c2) := X7.out.cell 3
          have l7 := X7.out.lt
          clear hk6 hy hs6 st6 S5 KK5 X5 S6 V6 KK6 X6 k67 O4 K4 KK7
          have hlo := (K7.out).size
          obtain ⟨el, hel⟩ : ∃ el : shChange.T, el = (false, ((id : Int), vec, tags, ()), ()) := ⟨_, rfl⟩
          have R7 := Lib.hid (show Rd (fun k => w.heap.size ≤ k ∧ Value.ownBlock u3 ≠ some k) w7 shChange [.bool false, .int .u32 (id : Int), .slice p n1 c1, .slice p' n2 c2] el from by rw [hel]; exact change_mk V7.out)
          have M7 := Lib.hid (show Step cChange (.inl q) (toChange el) s6 from by rw [hel]; exact step_change (g := false) T4.out T6.out)
          clear hel
          go_wp2_with (at_builtin; go_must (refine app_row (e := shChange) w7 rfl (.tmp 36) (.tmp 38) 45 rfl Try.underlying45 (.agg #[.bool false, .int .u32 0, .slice none 0 0, .slice none 0 0]) 64 change_info rfl (by decide) el [.bool false, .int .u32 (id : Int), .slice p n1 c1, .slice p' n2 c2] (by rfl) (by rfl) O7.out R7.out hlo (by omega) (by omega) ?_))
          intro v8 w8 ho8 hk8 hg8
          have O8 := Lib.hid ho8
          have hown := fun k (hk : k ∈ ownB u3) => (O7.out.lt k (mem_ownB.1 hk)).1
          have K8 := Lib.hid (K7.out.trans hk8 (fun k hk => .inr (hown k hk)))
          have R8 := Lib.hid (S7.out.kept hk8 (fun k hk => by have := hown k hk; omega))
          have A8 := Lib.hid (show (∀ r, s2 = .inl r → ManyR cChange n (i + 1) r ((xs ++ [el]).map toChange) s6) ∧ ∀ k, s2 = .inr k → s6 = .inr k from by
            obtain ⟨r, hr, hm⟩ := HM2.out
            refine ⟨fun r' hr' => ?_, fun k hk => by rw [hr] at hk; cases hk⟩
            rw [hr] at hr'
            cases hr'
            have := hm.step hin M7.out
            simpa using this)
          clear ho8 hk8 hg8 hown O7 K7 S7 V7 R7 M7
          go_wp2
          go_roundw
          case rel => exact ⟨i + 1, s6, xs ++ [el], by go_num, by omega, R8.out, A8.out.1, A8.out.2, O8.out, by simp [Hid]; omega, K8.out⟩
          case measure => simp [intOf]; omega
        · go_wp2_with (fail)
          obtain ⟨w5, hw5⟩ : ∃ w5, w4.alloc (.cells #[.bool true, .int .u32 0, .slice none 0 0, .slice none 0 0] 81) = w5 := ⟨_, rfl⟩
          have k45 : Kept [] w4 w5 := by rw [← hw5]; exact (Kept.refl _ _).alloc _
          have KK5 := Lib.hid (show Kept [g] w4 w5 from k45.mono (by simp))
          have X5 := Lib.hid (show Blk w5 w4.heap.size 81 [.bool true, .int .u32 0, .slice none 0 0, .slice none 0 0] from by rw [← hw5]; exact Blk.new w4 _ _)
          have S5 := Lib.hid (S4.out.kept k45 (by simp))
          have hown4 := Lib.hid (fun k (hk : Value.ownBlock u3 = some k) => (O4.out.lt k hk).2)
          rw [hw5]
          have h5s := k45.size
          clear hw5 k45 S4
          have l5 := X5.out.lt
          refine (rnum_u 4294967295 g s4 w5 S5.out (by decide)).mono ?_
          rintro e w6 ⟨hk6, v6, id, s6, rfl, ⟨rfl, hid⟩, hs6, st6⟩
          have hwid : IntKind.u32.wrap (id : Int) = (id : Int) := by rw [IntKind.wrap_u32]; omega
          have S6 := Lib.hid hs6
          have T6 := Lib.hid (show Step cBare s4 (toItem ((id : Int), [], [], ())) s6 from Step.map st6)
          have KK6 := Lib.hid (KK5.out.trans hk6 (Grows.refl _ _))
          have X6 := Lib.hid (hk6.blk X5.out (by simp; omega))
          have h6s := hk6.size
          have x0 : w6.cell? ⟨w4.heap.size, 0, none⟩ = some (.bool true) := X6.out.cell 0
          have x1 : w6.cell? ⟨w4.heap.size, 1, none⟩ = some (.int .u32 0) := X6.out.cell 1
          have x2 : w6.cell? ⟨w4.heap.size, 2, none⟩ = some (.slice none 0 0) := X6.out.cell 2
          have x3 : w6.cell? ⟨w4.heap.size, 3, none⟩ = some (.slice none 0 0) := X6.out.cell 3
          have g1 := X6.out.frozen 1
          have l6 := X6.out.lt
          obtain ⟨w7, hw7⟩ : ∃ w7, w6.setCell ⟨w4.heap.size, 1, none⟩ (.int .u32 (id : Int)) = w7 := ⟨_, rfl⟩
          have k67 : Kept [w4.heap.size] w6 w7 := by
            rw [← hw7]
            exact (Kept.refl _ _).setCell _ _ (.inl (by simp))
          have KK7 := Lib.hid (show Kept [g] w4 w7 from KK6.out.trans k67 (fun k hk => .inr (by simp at hk; omega)))
          have K7 := Lib.hid (K4.out.trans KK7.out (Grows.refl _ _))
          have X7 := Lib.hid (show Blk w7 w4.heap.size 81 [.bool true, .int .u32 (id : Int), .slice none 0 0, .slice none 0 0] from by
            rw [← hw7]
            exact X6.out.set 1 (.int .u32 (id : Int)))
          have S7 := Lib.hid (S6.out.kept k67 (by simp; omega))
          have O7 := Lib.hid (O4.out.kept KK7.out (by simp; omega))
          have V7 := Lib.hid (show Rd (fun k => w.heap.size ≤ k ∧ Value.ownBlock u3 ≠ some k) w7 shItem [.int .u32 (id : Int), .slice none 0 0, .slice none 0 0] ((id : Int), [], [], ()) from bare_mk hid)
          have z0 : w7.cell? ⟨w4.heap.size, 0, none⟩ = some (.bool true) := X7.out.cell 0
          have z1 : w7.cell? ⟨w4.heap.size, 1, none⟩ = some (.int .u32 (id : Int)) := X7.out.cell 1
          have z2 : w7.cell? ⟨w4.heap.size, 2, none⟩ = some (.slice none 0 0) := X7.out.cell 2
          have z3 : w7.cell? ⟨w4.heap.size, 3, none⟩ = some (.slice none 0 0) := X7.out.cell 3
          have l7 := X7.out.lt
          clear hk6 hs6 st6 S5 KK5 X5 S6 KK6 X6 k67 O4 K4 KK7
          have hlo := (K7.out).size
          obtain ⟨el, hel⟩ : ∃ el : shChange.T, el = (true, ((id : Int), [], [], ()), ()) := ⟨_, rfl⟩
          have R7 := Lib.hid (show Rd (fun k => w.heap.size ≤ k ∧ Value.ownBlock u3 ≠ some k) w7 shChange [.bool true, .int .u32 (id : Int), .slice none 0 0, .slice none 0 0] el from by rw [hel]; exact change_mk V7.out)
          have M7 := Lib.hid (show Step cChange (.inl q) (toChange el) s6 from by rw [hel]; exact step_change (g := true) T4.out T6.out)
          clear hel
          go_wp2_with (at_builtin; go_must (refine app_row (e := shChange) w7 rfl (.tmp 36) (.tmp 38) 45 rfl Try.underlying45 (.agg #[.bool false, .int .u32 0, .slice none 0 0, .slice none 0 0]) 64 change_info rfl (by decide) el [.bool true, .int .u32 (id : Int), .slice none 0 0, .slice none 0 0] (by rfl) (by rfl) O7.out R7.out hlo (by omega) (by omega) ?_))
          intro v8 w8 ho8 hk8 hg8
          have O8 := Lib.hid ho8
          have hown := fun k (hk : k ∈ ownB u3) => (O7.out.lt k (mem_ownB.1 hk)).1
          have K8 := Lib.hid (K7.out.trans hk8 (fun k hk => .inr (hown k hk)))
          have R8 := Lib.hid (S7.out.kept hk8 (fun k hk => by have := hown k hk; omega))
          have A8 := Lib.hid (show (∀ r, s2 = .inl r → ManyR cChange n (i + 1) r ((xs ++ [el]).map toChange) s6) ∧ ∀ k, s2 = .inr k → s6 = .inr k from by
            obtain ⟨r, hr, hm⟩ := HM2.out
            refine ⟨fun r' hr' => ?_, fun k hk => by rw [hr] at hk; cases hk⟩
            rw [hr] at hr'
            cases hr'
            have := hm.step hin M7.out
            simpa using this)
          clear ho8 hk8 hg8 hown O7 K7 S7 V7 R7 M7
          go_wp2
          go_roundw
          case rel => exact ⟨i + 1, s6, xs ++ [el], by go_num, by omega, R8.out, A8.out.1, A8.out.2, O8.out, by simp [Hid]; omega, K8.out⟩
          case measure => simp [intOf]; omega
      · have hin' : i = n := by omega
        subst hin'
        obtain ⟨r, hr, hm⟩ := HM2.out
        have HE := Lib.hid (show Step (cMany cChange) s (xs.map toChange) (.inl q) from by
          have h1 := T2.out
          rw [hr] at h1
          rcases s with l | k
          · show (cMany cChange).dec l = .inl (xs.map toChange, q)
            rw [cMany_dec]
            have h2 : (cNum 128 (by decide)).dec l = .inl (i, r) := h1
            rw [h2]
            exact hm.fin
          · exact h1.elim)
        have HR := Lib.hid (HO.out.rd 64 (by decide) (by have := HLN.out; omega))
        clear hr hm HM2
        go_wp2
        go_ret
        exact ⟨HK.out, _, _, .inl q, rfl, ⟨xs, HR.out, rfl⟩, HST.out, HE.out⟩
    · have hbad : RBad wr g k := HST.out
      obtain ⟨c1, hlt, e1, e2⟩ := hbad.cells
      have HE := Lib.hid (show Step (cMany cChange) s (xs.map toChange) (.inr k) from by
        have h1 := T2.out
        rcases s2 with r | k2
        · have h3 := HM.out r rfl
          rcases s with l | k3
          · show (cMany cChange).dec l = .inr k
            rw [cMany_dec]
            have h2 : (cNum 128 (by decide)).dec l = .inl (n, r) := h1
            rw [h2]
            exact h3
          · exact h1.elim
        · have h3 := HB.out k2 rfl
          cases h3
          rcases s with l | k3
          · show (cMany cChange).dec l = .inr k
            rw [cMany_dec]
            have h2 : (cNum 128 (by decide)).dec l = .inr k := h1
            rw [h2]
          · exact h1)
      have HR := Lib.hid (HO.out.rd 64 (by decide) (by have := HLN.out; omega))
      clear hbad
      by_cases hin : i < n
      all_goals
        go_wp2
        go_ret
        exact ⟨HK.out, _, _, .inr k, rfl, ⟨xs, HR.out, rfl⟩, HST.out, HE.out⟩
end Go.Proofs.Ytdlpifcfgfhagaa
