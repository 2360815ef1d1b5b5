/-
  The document's reader of bytes: texts, by a walk over its text.
-/
import Derived.Test.YtkhcoinpplpomaaGreatMc
import Derived.Test.YtkhcoinpplpomaaGreatMq
namespace Go.Proofs.YtkhcoinpplpomaaGreat
open Go.RowKit

set_option maxRecDepth 100000 in
set_option maxHeartbeats 3200000 in
theorem rtext_st (g : Nat) (s : List Nat ⊕ Nat) (w : World) (h : RState w g s) :
    Calls Tryz.prog 112 #[.pointer (some ⟨g, 0, none⟩)] w fun e w' => RdPost cStr IsStr (· = .string ⟨#[]⟩) g s w e w' := by
  have HS := Lib.hid h
  clear h
  go_enter Tryz.func112, Tryz.ntmps112
  go_wp2_with (fail)
  refine (rnum_st 4096 g s w HS.out (by decide)).mono ?_
  rintro e w2 ⟨hk, ⟨l, n, r, v, hl, hd, rfl, hv, hr⟩ | ⟨k, z, hl, rfl, hz, hbad⟩⟩
  · have hn := cNum_le hd
    rw [IsU64] at hv
    subst hv
    have HD := Lib.hid (cText_dec (most := 4096) (hm := by decide) l)
    rw [hd] at HD
    have HK := Lib.hid hk
    have HL := Lib.hid hl
    obtain ⟨a, m, c, d0, d1, f0, f1, lt, B2, R2, N2⟩ := hr.cells
    have HLEN := Lib.hid R2.out.len
    have hwn : IntKind.i64.wrap (n : Int) = (n : Int) := by rw [IntKind.wrap_i64]; omega
    have hmc := R2.out.room
    have hms := R2.out.small
    clear hd hk hl hr
    by_cases hlt : m < n
    · have hlt' : (m : Int) < (n : Int) := by omega
      have HE := Lib.hid (show cStr.dec l = .inr 40 from by
        have := HD.out
        simp only at this
        rw [if_pos (by rw [HLEN.out]; exact hlt)] at this
        exact this)
      go_wp2
      go_ret
      refine ⟨HK.out.trans ((Kept.refl [g] w2).setCell _ _ (.inl (by simp))) (Grows.refl _ _), .inr ⟨40, _, .inr ⟨l, HL.out, HE.out⟩, rfl, rfl, .slice a m c, ?_, by decide⟩⟩
      exact B2.out.set 1 (.int .i64 40)
    · have hle : n ≤ m := by omega
      have hnlt : ¬ (m : Int) < (n : Int) := by omega
      obtain ⟨a0, hh1, rfl⟩ := head_bytes (P := Tryz.prog) 33 5 Tryz.underlying33 (by kernel_rfl) byte_info a m c n n rfl (by omega)
      obtain ⟨a', hs1, hs2, hs3⟩ := cut_bytes3 (P := Tryz.prog) 33 5 Tryz.underlying33 (by kernel_rfl) byte_info a0 m c n n rfl hle
      have HS2 := Lib.hid (hs2 _ _ R2.out)
      obtain ⟨m', hm'⟩ : ∃ m', m - n = m' := ⟨_, rfl⟩
      obtain ⟨c', hc'⟩ : ∃ c', c - n = c' := ⟨_, rfl⟩
      rw [hm', hc'] at hs1 HS2
      have HA := Lib.hid (show 0 < m' → ∀ ad, a' = some ad → ad.block < g from by
        intro h0 ad had
        obtain ⟨ad0, h1, h2⟩ := hs3 ad had
        rw [← h2]
        exact N2.out (by omega) ad0 h1)
      have HT := Lib.hid (R2.out.take hle)
      obtain ⟨str, hstr⟩ : ∃ str, strOfB (r.take n) = str := ⟨_, rfl⟩
      have kc : (convert 33 9 (.slice a0 n c)).run Tryz.prog w2 = .ok (.string str) w2 := by
        rw [← hstr]
        exact HT.out.str 33 5 Tryz.underlying33 Tryz.underlying5 9 Tryz.underlying9
      have HB := Lib.hid (show strB str = r.take n from by rw [← hstr]; exact strB_of _ HT.out.byte)
      have HE := Lib.hid (show cStr.dec l = .inl (r.take n, r.drop n) from by
        have := HD.out
        simp only at this
        rw [if_neg (by rw [HLEN.out]; exact hlt)] at this
        exact this)
      clear hs2 hs3 hm' hc' hstr
      go_wp2
      go_ret
      refine ⟨HK.out.trans ((Kept.refl [g] w2).setCell _ _ (.inl (by simp))) (Grows.refl _ _), .inl ⟨l, r.take n, r.drop n, _, HL.out, HE.out, rfl, ⟨str, rfl, HB.out⟩, a', m', c', ?_, ?_, HA.out⟩⟩
      · exact B2.out.set 0 (.slice a' m' c')
      · exact BReads.kept1 HS2.out ((Kept.refl [g] w2).setCell _ _ (.inl (by simp))) fun h0 ad had => Nat.ne_of_lt (HA.out h0 ad had)
  · subst hz
    have HK := Lib.hid hk
    have HBAD := Lib.hid hbad
    obtain ⟨d1, lt, e1, e2⟩ := hbad.cells
    have HL := Lib.hid (show s = .inr k ∨ ∃ l, s = .inl l ∧ cStr.dec l = .inr k from by
      rcases hl with hl | ⟨l, hl, hd⟩
      · exact .inl hl
      · refine .inr ⟨l, hl, ?_⟩
        have := cText_dec (most := 4096) (hm := by decide) l
        rw [hd] at this
        exact this)
    clear hk hbad hl
    go_wp2
    go_ret
    exact ⟨HK.out, .inr ⟨k, _, HL.out, rfl, rfl, HBAD.out⟩⟩
end Go.Proofs.YtkhcoinpplpomaaGreat
