/-
  The document's reader of bytes: whole numbers, and the end, by walks over their texts.
-/
import Derived.Test.YtkhcoinpplpomaaGreatMd
namespace Go.Proofs.YtkhcoinpplpomaaGreat
open Go.RowKit
theorem rgetint_at (a : Option Addr) (n c : Nat) (bs : List Nat) (w : World) (r1 r2 r3 : Nat) (x : Int) (h : BReads w a n c bs) (hr : vget 0 0 bs = (r1, r2, r3)) (hx : vopen r1 = x) :
    Calls Tryz.prog 116 #[.slice a n c] w fun e w' => e = .returned (.tuple #[.int .i64 x, .int .i64 r2, .int .i64 r3]) ∧ Below w.heap.size w w' := by
  have := rgetint_any a n c bs w h
  unfold GotIV at this
  rw [hr] at this
  rw [← hx]
  exact this

set_option maxRecDepth 100000 in
set_option maxHeartbeats 6400000 in
theorem rwhole_st (low high : Int) (g : Nat) (s : List Nat ⊕ Nat) (w : World) (h : RState w g s) :
    Calls Tryz.prog 111 #[.pointer (some ⟨g, 0, none⟩), .int .i64 low, .int .i64 high] w fun e w' => RdPost (cInt low high) IsI64 (· = .int .i64 0) g s w e w' := by
  rcases s with l | k
  · have hat : RAt w g l := h
    clear h
    obtain ⟨a, n, c, c0, c1, _, _, hlt, HB, HR, HN⟩ := hat.cells
    obtain ⟨r1, r2, r3, hv⟩ : ∃ r1 r2 r3, vget 0 0 l = (r1, r2, r3) := ⟨_, _, _, rfl⟩
    obtain ⟨x, hx⟩ : ∃ x, vopen r1 = x := ⟨_, rfl⟩
    have HD := Lib.hid (cInt_dec low high l r1 r2 r3 hv)
    rw [hx] at HD
    have HV := Lib.hid hv
    have HX := Lib.hid hx
    have herr := vget_err l 0 0
    rw [hv] at herr
    simp only at herr
    have HERR := Lib.hid herr
    clear hat hv hx herr
    go_enter Tryz.func111, Tryz.ntmps111
    go_wp2_with (fail)
    refine (rgetint_at a n c l w r1 r2 r3 x HR.out HV.out HX.out).mono ?_
    rintro e w2 ⟨rfl, hb2⟩
    have B2 := Lib.hid ((Kept.of_below (F := []) hb2 (Nat.le_refl _)).blk HB.out (by simp))
    have K2 := Lib.hid (Kept.of_below (F := [g]) hb2 (Nat.le_refl _))
    have R2 := Lib.hid (HR.out.on hb2)
    have d0 : w2.cell? ⟨g, 0, none⟩ = some (.slice a n c) := B2.out.cell 0
    have d1 : w2.cell? ⟨g, 1, none⟩ = some (.int .i64 0) := B2.out.cell 1
    have f0 := B2.out.frozen 0
    have f1 := B2.out.frozen 1
    have hlt2 := B2.out.lt
    clear hb2 c0 c1 hlt HB HR
    by_cases h3 : r3 = 0
    · subst h3
      by_cases hlo : x < low
      · have HE := Lib.hid (show (cInt low high).dec l = .inr 62 from by rw [HD.out, if_neg (by simp), if_neg (by omega)])
        go_wp2
        go_ret
        refine ⟨K2.out.setCell _ _ (.inl (by simp)), .inr ⟨62, _, .inr ⟨l, rfl, HE.out⟩, rfl, rfl, .slice a n c, ?_, by decide⟩⟩
        exact B2.out.set 1 (.int .i64 62)
      by_cases hhi : high < x
      · have HE := Lib.hid (show (cInt low high).dec l = .inr 62 from by rw [HD.out, if_neg (by simp), if_neg (by omega)])
        go_wp2
        go_ret
        refine ⟨K2.out.setCell _ _ (.inl (by simp)), .inr ⟨62, _, .inr ⟨l, rfl, HE.out⟩, rfl, rfl, .slice a n c, ?_, by decide⟩⟩
        exact B2.out.set 1 (.int .i64 62)
      have HE := Lib.hid (show (cInt low high).dec l = .inl (x, l.drop r2) from by rw [HD.out, if_neg (by simp), if_pos (by omega)])
      have hle : r2 ≤ n := by
        have hl := R2.out.len
        rcases HERR.out with ⟨_, h⟩ | h | h
        · omega
        · simp at h
        · simp at h
      obtain ⟨a', hs1, hs2, hs3⟩ := cut_bytes3 (P := Tryz.prog) 33 5 Tryz.underlying33 (by kernel_rfl) byte_info a n c r2 r2 rfl hle
      have HS := Lib.hid (hs2 _ _ R2.out)
      obtain ⟨n', hn'⟩ : ∃ n', n - r2 = n' := ⟨_, rfl⟩
      obtain ⟨c', hc'⟩ : ∃ c', c - r2 = c' := ⟨_, rfl⟩
      rw [hn', hc'] at hs1 HS
      have HA := Lib.hid (show 0 < n' → ∀ ad, a' = some ad → ad.block < g from by
        intro h0 ad had
        obtain ⟨ad0, h1, h2⟩ := hs3 ad had
        rw [← h2]
        exact HN.out (by omega) ad0 h1)
      clear hs2 hs3 hn' hc'
      go_wp2
      go_ret
      refine ⟨K2.out.setCell _ _ (.inl (by simp)), .inl ⟨l, x, l.drop r2, _, rfl, HE.out, rfl, rfl, a', n', c', ?_, ?_, HA.out⟩⟩
      · exact B2.out.set 0 (.slice a' n' c')
      · exact BReads.kept1 HS.out ((Kept.refl [g] w2).setCell _ _ (.inl (by simp))) fun h0 ad had => Nat.ne_of_lt (HA.out h0 ad had)
    · have h3b : ((r3 : Int) == 0) = false := by simp; omega
      have h3c : ((r3 : Int) != 0) = true := by simp; omega
      have HE := Lib.hid (show (cInt low high).dec l = .inr r3 from by rw [HD.out, if_pos h3])
      go_wp2
      go_ret
      refine ⟨K2.out.setCell _ _ (.inl (by simp)), .inr ⟨r3, _, .inr ⟨l, rfl, HE.out⟩, rfl, rfl, .slice a n c, ?_, h3⟩⟩
      exact B2.out.set 1 (.int .i64 r3)
  · have hbad : RBad w g k := h
    have HBAD := Lib.hid hbad
    obtain ⟨c1, hlt, e1, e2⟩ := hbad.cells
    clear h hbad
    go_enter Tryz.func111, Tryz.ntmps111
    go_wp2
    go_ret
    exact ⟨Kept.refl _ _, .inr ⟨k, _, .inl rfl, rfl, rfl, HBAD.out⟩⟩

/-- The end: nothing may be left. -/
def EndPost (s : List Nat ⊕ Nat) (e : Ending) : Prop :=
  match s with
  | .inr k => e = .returned (.int .i64 (k : Int))
  | .inl l => e = .returned (.int .i64 (if l = [] then 0 else 60 : Nat))
set_option maxRecDepth 100000 in
set_option maxHeartbeats 3200000 in
theorem rend_st (g : Nat) (s : List Nat ⊕ Nat) (w : World) (h : RState w g s) :
    Calls Tryz.prog 18 #[.pointer (some ⟨g, 0, none⟩)] w fun e w' => EndPost s e ∧ Kept [g] w w' := by
  rcases s with l | k
  · have hat : RAt w g l := h
    clear h
    obtain ⟨a, n, c, c0, c1, f0, f1, hlt, HB, HR, HN⟩ := hat.cells
    have HL := Lib.hid HR.out.len
    have hsm := HR.out.small
    clear hat f0
    by_cases h0 : 0 < n
    · have HE := Lib.hid (show l ≠ [] from by rintro rfl; have := HL.out; simp at this; omega)
      have c1' : (w.setCell ⟨g, 1, none⟩ (.int .i64 60)).cell? ⟨g, 1, none⟩ = some (.int .i64 60) := World.cell?_setCell_same w _ _ c1
      go_enter Tryz.func18, Tryz.ntmps18
      go_wp2
      go_ret
      refine ⟨?_, (Kept.refl [g] w).setCell _ _ (.inl (by simp))⟩
      simp only [EndPost]
      rw [if_neg HE.out]
      rfl
    · have hn : n = 0 := by omega
      subst hn
      have HE := Lib.hid (show l = [] from List.eq_nil_of_length_eq_zero HL.out)
      go_enter Tryz.func18, Tryz.ntmps18
      go_wp2
      go_ret
      refine ⟨?_, Kept.refl _ _⟩
      simp only [EndPost]
      rw [if_pos HE.out]
      rfl
  · have hbad : RBad w g k := h
    obtain ⟨c1, hlt, e1, e2⟩ := hbad.cells
    clear h hbad
    go_enter Tryz.func18, Tryz.ntmps18
    go_wp2
    go_ret
    exact ⟨rfl, Kept.refl _ _⟩
end Go.Proofs.YtkhcoinpplpomaaGreat
