/-
  The program's Put of a number, by a walk over its text.
-/
import Derived.Test.YtdlpifcfgfhagaaVp
namespace Go.Proofs.Ytdlpifcfgfhagaa
open Go.RowKit

theorem byte_more (m : Nat) : bits .or .u8 ((m : Int) % 256) 128 = ((m % 128 + 128 : Nat) : Int) := by
  rw [Lib.u8_or128_any _ (by omega) (by omega)]
  omega

set_option maxRecDepth 100000 in
set_option maxHeartbeats 1600000 in
theorem put_any (n : Nat) (w : World) (hn : n < 18446744073709551616) :
    Calls Try.prog 66 #[.int .u64 n] w fun e w' => PutsV (vput n) w e w' := by
  have HN := Lib.hid (vput_len10 hn)
  have HN0 := Lib.hid hn
  clear hn
  have hmake : ∀ w : World, (Instr.makeSlice 31 (.int .i64 0) (.int .i64 10)).run Try.prog w = .ok (.slice (some ⟨w.heap.size, 0, none⟩) 0 10) (w.alloc (.cells (madeCells #[.int .u8 0] 10) 5)) := by
    intro w
    obtain ⟨i, hi, h0, h1, h2⟩ := info_parts byte_info
    have := run_make (P := Try.prog) w 31 5 i _ Try.underlying31 hi h0 .i64 .i64 0 10 (by decide) (by decide) (by rw [h2]; decide) (by decide)
    rw [h1] at this
    exact this
  go_enter Try.func66, Try.ntmps66
  go_wp2
  have HO := Lib.hid (show OwnV (w.alloc (.cells (madeCells #[.int .u8 0] 10) 5)) w.heap.size 5 (.slice (some ⟨w.heap.size, 0, none⟩) 0 10) [] from
    ⟨World.ownsRow_made w _ 10 (Nat.le_refl _) (by decide) (size_madeCells _ _), by simp⟩)
  have HB := Lib.hid ((Below.refl w.heap.size w).alloc (Nat.le_refl _) (.cells (madeCells #[.int .u8 0] 10) 5))
  clear hmake
  generalize w.alloc (.cells (madeCells #[.int .u8 0] 10) 5) = w1 at *
  go_loopw [0, 3] (fun s0 s3 wr => ∃ (m : Nat) (pre : List Nat), s0 = .int .u64 m ∧ Hid (m < 18446744073709551616) ∧ Hid (vput n = pre ++ vput m) ∧ Hid (OwnV wr w.heap.size 5 s3 pre) ∧ Hid (Below w.heap.size w wr)) (fun s0 _ _ => (intOf s0).toNat)
  case atStart => exact ⟨n, [], rfl, HN0.out, rfl, HO.out, HB.out⟩
  case round =>
    clear HO HB
    obtain ⟨m, pre, rfl, HM, HE, HO, HB⟩ := hrel
    have hpl : pre.length ≤ 9 := by
      have h1 := congrArg List.length HE.out
      have h2 := vput_pos m
      have h3 := HN.out
      rw [List.length_append] at h1
      omega
    have hwb := HB.out.size
    by_cases hc : 128 ≤ m
    · obtain ⟨p, hp⟩ : ∃ p, m % 128 + 128 = p := ⟨_, rfl⟩
      have hbyte := byte_more m
      rw [hp] at hbyte
      have HP := Lib.hid hp
      have hp256 : p < 256 := by omega
      clear hp
      go_wp2_with (at_builtin; refine app_byte _ rfl (.tmp 7) (.tmp 11) 31 5 rfl Try.underlying31 byte_info w.heap.size _ pre p hp256 (by rfl) (by rfl) HO.out hwb (by omega) ?_)
      intro v' w2 hown hbel
      have N1 := Lib.hid hown
      have N2 := Lib.hid (hbel _ HB.out)
      clear hown hbel HO HB hbyte
      go_wp2
      go_roundw
      case rel => exact ⟨m / 128, pre ++ [p], by go_num, by have := HM.out; unfold Hid; omega, by rw [HE.out, vput_big hc, HP.out]; simp [Hid], N1.out, N2.out⟩
      case measure => simp [intOf]; omega
    · go_wp2_with (at_builtin; refine app_byte _ rfl (.tmp 15) (.tmp 18) 31 5 rfl Try.underlying31 byte_info w.heap.size _ pre m (by omega) (by rfl) (by rfl) HO.out hwb (by omega) ?_)
      intro v' w2 hown hbel
      have N1 := Lib.hid hown
      have N2 := Lib.hid (hbel _ HB.out)
      clear hown hbel HO HB
      go_wp2
      go_ret
      exact ⟨_, rfl, by rw [HE.out, vput_small (by omega)]; exact N1.out, N2.out⟩
end Go.Proofs.Ytdlpifcfgfhagaa
