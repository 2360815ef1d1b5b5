/-
  The document's reader of bytes: numbers, whole numbers, texts, by walks over their texts.
-/
import Derived.Test.YtkhcoinpplpomaaGreatVi
import Derived.Test.YtkhcoinpplpomaaGreatVt
import Derived.Test.YtkhcoinpplpomaaGreatMl
namespace Go.Proofs.YtkhcoinpplpomaaGreat
open Go.RowKit

/-- A reader lies in block g: the bytes that are left; no error. -/
def RAt (w : World) (g : Nat) (l : List Nat) : Prop :=
  ∃ a n c, Blk w g 54 [.slice a n c, .int .i64 0] ∧ BReads w a n c l ∧ (0 < n → ∀ ad, a = some ad → ad.block < g)
/-- A reader lies in block g that has told an error. -/
def RBad (w : World) (g k : Nat) : Prop := ∃ v, Blk w g 54 [v, .int .i64 k] ∧ k ≠ 0
theorem BReads.kept1 {g : Nat} {w w' : World} {a : Option Addr} {n c : Nat} {bs : List Nat} (h : BReads w a n c bs) (hk : Kept [g] w w') (hF : 0 < n → ∀ ad, a = some ad → ad.block ≠ g) : BReads w' a n c bs := by
  refine ⟨h.len, h.small, h.byte, h.nilOk, h.room, ?_⟩
  rcases h.cells with h4 | ⟨b, off, ha, hlt, hc⟩
  · exact .inl h4
  · refine .inr ⟨b, off, ha, Nat.lt_of_lt_of_le hlt hk.size, fun i hi => ?_⟩
    have hb := hF (by omega) ⟨b, off, none⟩ ha
    rw [hk.cell (p := ⟨b, off + i, none⟩) hlt (by simpa using hb)]
    exact hc i hi

/-- What a number that is read leaves. -/
def NumPost (most : Nat) (g : Nat) (l : List Nat) (w : World) (e : Ending) (w' : World) : Prop :=
  Kept [g] w w' ∧ ((∃ n r, vget 0 0 l = (n, l.length - r.length, 0) ∧ n ≤ most ∧ l.drop (l.length - r.length) = r ∧ e = .returned (.int .u64 (n : Int)) ∧ RAt w' g r) ∨
    (∃ k, (k = (vget 0 0 l).2.2 ∧ k ≠ 0 ∨ k = 62 ∧ (vget 0 0 l).2.2 = 0 ∧ most < (vget 0 0 l).1) ∧ e = .returned (.int .u64 0) ∧ RBad w' g k))

set_option maxRecDepth 100000 in
set_option maxHeartbeats 3200000 in
theorem rnum_any (most g : Nat) (l : List Nat) (w : World) (h : RAt w g l) (hm : most < 18446744073709551616) :
    Calls Tryz.prog 44 #[.pointer (some ⟨g, 0, none⟩), .int .u64 most] w fun e w' => NumPost most g l w e w' := by
  obtain ⟨a, n, c, hb, hr, hne⟩ := h
  obtain ⟨r1, r2, r3, hv⟩ : ∃ r1 r2 r3, vget 0 0 l = (r1, r2, r3) := ⟨_, _, _, rfl⟩
  have HV := Lib.hid hv
  have HR := Lib.hid hr
  have HB := Lib.hid hb
  have HN := Lib.hid hne
  have c0 : w.cell? ⟨g, 0, none⟩ = some (.slice a n c) := hb.cell 0
  have c1 : w.cell? ⟨g, 1, none⟩ = some (.int .i64 0) := hb.cell 1
  have hlt := hb.lt
  have HM := Lib.hid hm
  have herr := vget_err l 0 0
  rw [hv] at herr
  simp only at herr
  have HERR := Lib.hid herr
  clear hb hr hne hv hm herr
  go_enter Tryz.func44, Tryz.ntmps44
  go_wp2_with (fail)
  refine (rget_eq a n c l w r1 r2 r3 HR.out HV.out).mono ?_
  rintro e w2 ⟨rfl, hb2⟩
  have B2 := Lib.hid ((Kept.of_below (F := []) hb2 (Nat.le_refl _)).blk HB.out (by simp))
  have K2 := Lib.hid (Kept.of_below (F := [g]) hb2 (Nat.le_refl _))
  have R2 := Lib.hid (HR.out.on hb2)
  have d0 : w2.cell? ⟨g, 0, none⟩ = some (.slice a n c) := B2.out.cell 0
  have d1 : w2.cell? ⟨g, 1, none⟩ = some (.int .i64 0) := B2.out.cell 1
  have f0 := B2.out.frozen 0
  have f1 := B2.out.frozen 1
  have hlt2 := B2.out.lt
  clear hb2 c0 c1 hlt HB HR
  by_cases h3 : r3 = 0
  · subst h3
    by_cases hgt : most < r1
    · have hlt' : (most : Int) < (r1 : Int) := by omega
      go_wp2
      go_ret
      refine ⟨K2.out.setCell _ _ (.inl (by simp)), .inr ⟨62, .inr ⟨rfl, by rw [HV.out], by rw [HV.out]; exact hgt⟩, rfl, .slice a n c, ?_, by decide⟩⟩
      exact B2.out.set 1 (.int .i64 62)
    · have hlt' : ¬ (most : Int) < (r1 : Int) := by omega
      have hle : r2 ≤ n := by
        have hl := R2.out.len
        rcases HERR.out with ⟨_, h⟩ | h | h
        · omega
        · simp at h
        · simp at h
      obtain ⟨a', hs1, hs2, hs3⟩ := cut_bytes3 (P := Tryz.prog) 33 5 Tryz.underlying33 (by kernel_rfl) byte_info a n c r2 r2 rfl hle
      have HS := Lib.hid (hs2 _ _ R2.out)
      obtain ⟨n', hn'⟩ : ∃ n', n - r2 = n' := ⟨_, rfl⟩
      obtain ⟨c', hc'⟩ : ∃ c', c - r2 = c' := ⟨_, rfl⟩
      rw [hn', hc'] at hs1 HS
      have HNN := Lib.hid hn'
      have HA := Lib.hid (show 0 < n' → ∀ ad, a' = some ad → ad.block < g from by
        intro h0 ad had
        obtain ⟨ad0, h1, h2⟩ := hs3 ad had
        rw [← h2]
        exact HN.out (by omega) ad0 h1)
      clear hs2 hs3 hn' hc'
      go_wp2
      go_ret
      refine ⟨K2.out.setCell _ _ (.inl (by simp)), .inl ⟨r1, l.drop r2, ?_, by omega, ?_, rfl, a', n', c', ?_, ?_, HA.out⟩⟩
      · have hl := R2.out.len
        rw [HV.out, List.length_drop]
        simp only [Prod.mk.injEq, true_and, and_true]
        omega
      · have hl := R2.out.len
        rw [List.length_drop]
        congr 1
        omega
      · exact B2.out.set 0 (.slice a' n' c')
      · refine BReads.kept1 HS.out ((Kept.refl [g] w2).setCell _ _ (.inl (by simp))) fun h0 ad had => Nat.ne_of_lt (HA.out h0 ad had)
  · have h3b : ((r3 : Int) == 0) = false := by simp; omega
    have h3c : ((r3 : Int) != 0) = true := by simp; omega
    go_wp2
    go_ret
    refine ⟨K2.out.setCell _ _ (.inl (by simp)), .inr ⟨r3, .inl ⟨by rw [HV.out], h3⟩, rfl, .slice a n c, ?_, h3⟩⟩
    exact B2.out.set 1 (.int .i64 r3)

/-- A reader's state: what is left, or the error. -/
def RState (w : World) (g : Nat) : List Nat ⊕ Nat → Prop
  | .inl l => RAt w g l
  | .inr k => RBad w g k
/-- What is read: the thing, as V says it of the value; or the error's number, and a value as Z says. -/
def RdPost {α : Type} (C : Cod α) (V : World → Value → α → Prop) (Z : Value → Prop) (g : Nat) (s : List Nat ⊕ Nat) (w : World) (e : Ending) (w' : World) : Prop :=
  Kept [g] w w' ∧ ((∃ l a r v, s = .inl l ∧ C.dec l = .inl (a, r) ∧ e = .returned v ∧ V w' v a ∧ RAt w' g r) ∨
    (∃ k z, (s = .inr k ∨ ∃ l, s = .inl l ∧ C.dec l = .inr k) ∧ e = .returned z ∧ Z z ∧ RBad w' g k))
def IsU64 (_ : World) (v : Value) (n : Nat) : Prop := v = .int .u64 (n : Int)

theorem NumPost.rd {most g : Nat} {l : List Nat} {w w' : World} {e : Ending} (hm : most < 18446744073709551616) (h : NumPost most g l w e w') : RdPost (cNum most hm) IsU64 (· = .int .u64 0) g (.inl l) w e w' := by
  obtain ⟨hk, ⟨n, r, h1, h2, h3, h4, h5⟩ | ⟨k, h1, h2, h3⟩⟩ := h
  · refine ⟨hk, .inl ⟨l, n, r, _, rfl, ?_, h4, rfl, h5⟩⟩
    show (if (vget 0 0 l).2.2 ≠ 0 then Sum.inr (vget 0 0 l).2.2 else if most < (vget 0 0 l).1 then Sum.inr 62 else Sum.inl ((vget 0 0 l).1, l.drop (vget 0 0 l).2.1)) = _
    rw [h1]
    simp only [ne_eq, not_true_eq_false, if_false]
    rw [if_neg (by omega), h3]
  · refine ⟨hk, .inr ⟨k, _, .inr ⟨l, rfl, ?_⟩, h2, rfl, h3⟩⟩
    show (if (vget 0 0 l).2.2 ≠ 0 then Sum.inr (vget 0 0 l).2.2 else if most < (vget 0 0 l).1 then Sum.inr 62 else Sum.inl ((vget 0 0 l).1, l.drop (vget 0 0 l).2.1)) = _
    rcases h1 with ⟨h1, h4⟩ | ⟨h1, h4, h5⟩
    · rw [if_pos (by rw [← h1]; exact h4), h1]
    · rw [if_neg (by simp [h4]), if_pos h5, h1]

set_option maxRecDepth 100000 in
theorem rnum_bad (most g k : Nat) (w : World) (h : RBad w g k) :
    Calls Tryz.prog 44 #[.pointer (some ⟨g, 0, none⟩), .int .u64 most] w fun e w' => e = .returned (.int .u64 0) ∧ w = w' := by
  obtain ⟨v, hb, hk⟩ := h
  have c1 : w.cell? ⟨g, 1, none⟩ = some (.int .i64 k) := hb.cell 1
  have hlt := hb.lt
  have hkb : ((k : Int) != 0) = true := by simp; omega
  clear hb hk
  go_enter Tryz.func44, Tryz.ntmps44
  go_wp2
  go_ret
  exact ⟨rfl, rfl⟩
/-- Num, whatever the reader's state. -/
theorem rnum_st (most g : Nat) (s : List Nat ⊕ Nat) (w : World) (h : RState w g s) (hm : most < 18446744073709551616) :
    Calls Tryz.prog 44 #[.pointer (some ⟨g, 0, none⟩), .int .u64 most] w fun e w' => RdPost (cNum most hm) IsU64 (· = .int .u64 0) g s w e w' := by
  rcases s with l | k
  · exact (rnum_any most g l w h hm).mono fun e w' hp => hp.rd hm
  · refine (rnum_bad most g k w h).mono ?_
    rintro e w' ⟨rfl, rfl⟩
    exact ⟨Kept.refl _ _, .inr ⟨k, _, .inl rfl, rfl, rfl, h⟩⟩
/-- What a whole number that is read leaves. -/
def IsI64 (_ : World) (v : Value) (n : Int) : Prop := v = .int .i64 n

theorem RBad.cells {w : World} {g k : Nat} (h : RBad w g k) : w.cell? ⟨g, 1, none⟩ = some (.int .i64 k) ∧ g < w.heap.size ∧ ((k : Int) != 0) = true ∧ ((k : Int) == 0) = false := by
  obtain ⟨v, hb, hk⟩ := h
  exact ⟨hb.cell 1, hb.lt, by simp; omega, by simp; omega⟩
theorem RAt.cells {w : World} {g : Nat} {l : List Nat} (h : RAt w g l) : ∃ a n c, w.cell? ⟨g, 0, none⟩ = some (.slice a n c) ∧ w.cell? ⟨g, 1, none⟩ = some (.int .i64 0) ∧ w.frozen? ⟨g, 0, none⟩ = false ∧ w.frozen? ⟨g, 1, none⟩ = false ∧ g < w.heap.size ∧
    Hid (Blk w g 54 [.slice a n c, .int .i64 0]) ∧ Hid (BReads w a n c l) ∧ Hid (0 < n → ∀ ad, a = some ad → ad.block < g) := by
  obtain ⟨a, n, c, hb, hr, hn⟩ := h
  exact ⟨a, n, c, hb.cell 0, hb.cell 1, hb.frozen 0, hb.frozen 1, hb.lt, hb, hr, hn⟩
end Go.Proofs.YtkhcoinpplpomaaGreat
