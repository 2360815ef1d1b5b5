/-
  The document's Put of a number, by a walk over its text.
-/
import Derived.Test.YtdlpifcfgfhagaaVp
namespace Go.Proofs.Ytdlpifcfgfhagaa
open Go.RowKit

set_option maxRecDepth 100000 in
set_option maxHeartbeats 1600000 in
theorem rput_small (n : Nat) (w : World) (hn : n < 128) :
    Calls Try.prog 61 #[.int .u64 n] w fun e w' => PutsV (vput n) w e w' := by
  have HP := Lib.hid (vput_small hn)
  go_enter Try.func61, Try.ntmps61
  go_wp2
  go_ret
  refine ⟨_, rfl, ?_, (Below.refl _ _).alloc (Nat.le_refl _) _⟩
  rw [HP.out]
  exact OwnV.lit w 5 [n] (by simp) (by simp; omega)

set_option maxRecDepth 100000 in
set_option maxHeartbeats 1600000 in
theorem rput_any (n : Nat) : ∀ (w : World), n < 18446744073709551616 →
    Calls Try.prog 61 #[.int .u64 n] w fun e w' => PutsV (vput n) w e w' := by
  induction n using Nat.strongRecOn with
  | ind n ih =>
    intro w hn
    by_cases hc : n < 128
    · exact rput_small n w hc
    · obtain ⟨k, hk⟩ : ∃ k, n / 128 = k := ⟨_, rfl⟩
      obtain ⟨p, hp⟩ : ∃ p, n % 128 + 128 = p := ⟨_, rfl⟩
      have IH := Lib.hid (fun w => ih k (by omega) w (by omega))
      have HN := Lib.hid (vput_len10 (n := k) (by omega))
      have HE := Lib.hid (show vput n = p :: vput k from by rw [← hp, ← hk]; exact vput_big (by omega))
      have hp256 : p < 256 := by omega
      have hadd : (n : Int) % 128 + 128 = (p : Int) := by omega
      have hquo : IntKind.u64.wrap ((n : Int) / 128) = (k : Int) := by
        rw [IntKind.wrap_u64]
        omega
      clear ih hn hp hk
      go_enter Try.func61, Try.ntmps61
      go_wp2_with (fail)
      refine (IH.out _).mono ?_
      rintro e w2 ⟨v, rfl, ho, hb⟩
      obtain ⟨a, c, rfl, hr, _⟩ := ho.reads (by have := HN.out; omega)
      have HL := Lib.hid (OwnV.lit w 5 [p] (by simp) (by simpa using hp256))
      have HO := Lib.hid (HL.out.on hb)
      have HR := Lib.hid hr
      have HB := Lib.hid (((Below.refl w.heap.size w).alloc (Nat.le_refl _) (.cells #[.int .u8 (p : Int)] 5)).trans (hb.mono (by simp)))
      have hwb := HB.out.size
      have HNk := HN
      clear ho hb hr HL IH hadd hquo
      go_wp2_with (at_builtin; refine app_bytes _ rfl (.tmp 14) (.tmp 17) 31 5 rfl Try.underlying31 byte_info w.heap.size _ [p] (by rfl) HO.out _ _ _ (vput k) (by rfl) HR.out (by have := HN.out; simp; omega) hwb ?_)
      intro v' w3 hown hg _
      have N1 := Lib.hid hown
      have N2 := Lib.hid (HB.out.grown hg hwb (fun k hk => (HO.out.lt k hk).1))
      clear hown hg
      go_wp2
      go_ret
      exact ⟨_, rfl, by rw [HE.out]; exact N1.out, N2.out⟩
end Go.Proofs.Ytdlpifcfgfhagaa
