/-
  FrameEncodes holds: a message's frame is the document's, or its error.
-/
import Derived.Test.YtemnmjfeljipjaaGreatRows
import Derived.Test.YtemnmjfeljipjaaGreatRe
import Derived.Test.YtemnmjfeljipjaaGreatEo
import Derived.Test.YtemnmjfeljipjaaGreatMy
import Derived.Test.YtemnmjfeljipjaaGreatMz
namespace Go.Proofs.YtemnmjfeljipjaaGreat
open Go.ChangeShapes Go.WideShapes Go.ChangeAt Go.RowKit

set_option maxRecDepth 100000 in
set_option maxHeartbeats 12800000 in
theorem encodes_walk (m : MsgL) (w : World) (hm : m.In (· < w.heap.size) w) :
    Calls Tryz.prog 6 #[.agg m.cells.toArray] w fun e w' => e = .returned (.bool true) ∧ Below w.heap.size w w' := by
  obtain ⟨M, hM⟩ : ∃ M, m.cells.toArray = M := ⟨_, rfl⟩
  obtain ⟨Z, hZ⟩ : ∃ Z, (zeroL 0).cells.toArray = Z := ⟨_, rfl⟩
  have hz := msg_zero
  rw [hZ] at hz
  have hb1 : (Z = #[]) = False := by
    rw [← hZ]
    simp [MsgL.cells]
  have hb4 : Z.size = 28 := by
    rw [← hZ]
    rfl
  have hM28 : M.size = 28 := by
    rw [← hM]
    rfl
  have hinfoM : (Tryz.prog.info? 37).map (·.size) = some M.size := by
    rw [hM28]
    kernel_rfl
  have hinfoZ : (Tryz.prog.info? 37).map (·.size) = some Z.size := by
    rw [hb4]
    kernel_rfl
  rw [hM]
  obtain ⟨w1, hw1⟩ : ∃ w1, w.alloc (.cells M 37) = w1 := ⟨_, rfl⟩
  have X1 := Lib.hid (show Blk w1 w.heap.size 37 m.cells from by rw [← hw1, ← hM]; exact Blk.new w 37 m.cells.toArray)
  have B1 := Lib.hid (show Below w.heap.size w w1 from by rw [← hw1]; exact (Below.refl _ _).alloc (Nat.le_refl _) _)
  have HMM := Lib.hid hM
  have HZ := Lib.hid hZ
  have hl1 := X1.out.lt
  have HM := Lib.hid hm
  clear hM hZ hm
  have hk255 := HM.out.hkind
  go_enter Tryz.func6, Tryz.ntmps6
  go_wp2_with (fail)
  try rw [hw1]
  clear hw1
  refine (alive7 w1).mono ?_
  rintro e w2 ⟨rfl, hb⟩
  have X2 := Lib.hid ((Kept.of_below (F := []) hb (Nat.le_refl _)).blk X1.out (by simp))
  have B2 := Lib.hid (below_on B1.out hb)
  have hs2 := hb.size
  have HB2 : w2.heap[w.heap.size]? = some (.cells M 37 (0, 0)) := by
    rw [← HMM.out]
    exact X2.out
  clear hb X1 B1
  go_wp2_with (refine wp_load_e w2 (by rfl) 37 (.tmp 1) rfl w.heap.size 37 M _ (by rfl) HB2 Tryz.underlying37 rfl hinfoM ?_)
  rw [← HMM.out]
  refine (great_msg m w2 (HM.out.under B2.out)).mono ?_
  rintro e w3 ⟨⟨g, rfl⟩, hb3⟩
  rw [HMM.out]
  have X3 := Lib.hid ((Kept.of_below (F := []) hb3 (Nat.le_refl _)).blk X2.out (by simp))
  have B3 := Lib.hid (below_on B2.out hb3)
  have hs3 := hb3.size
  have HB3 : w3.heap[w.heap.size]? = some (.cells M 37 (0, 0)) := by
    rw [← HMM.out]
    exact X3.out
  clear hb3 X2 B2 HB2
  cases g
  rotate_left
  · go_wp2
    go_ret
    exact ⟨rfl, B3.out⟩
  go_wp2_with (refine wp_load_e w3 (by rfl) 37 (.tmp 1) rfl w.heap.size 37 M _ (by rfl) HB3 Tryz.underlying37 rfl hinfoM ?_)
  rw [← HMM.out]
  refine (enc_any m w3 (HM.out.under B3.out)).mono ?_
  rintro e w4 ⟨hb4', hp⟩
  rw [HMM.out]
  have X4 := Lib.hid ((Kept.of_below (F := []) hb4' (Nat.le_refl _)).blk X3.out (by simp))
  have B4 := Lib.hid (below_on B3.out hb4')
  have hs4 := hb4'.size
  have HB4 : w4.heap[w.heap.size]? = some (.cells M 37 (0, 0)) := by
    rw [← HMM.out]
    exact X4.out
  clear hb4' X3 B3 HB3
  have HP := Lib.hid hp
  rcases hp with ⟨hf, hle, v, rfl, ho⟩ | ⟨hf, rfl⟩ | ⟨hf, hle, rfl⟩
  · have HF := Lib.hid hf
    obtain ⟨fr, hfr⟩ : ∃ fr, frameF m.toM.kind (bytesM m.toM) = fr := ⟨_, rfl⟩
    have hlen : fr.length ≤ 5000 := by
      rw [← hfr]
      unfold frameF openF
      have := vput_len10 (n := (bytesM m.toM).length) (by omega)
      simp only [List.length_append, sumL_len, List.length_cons, List.length_nil]
      omega
    rw [hfr] at ho
    have HFR := Lib.hid hfr
    obtain ⟨S, hS⟩ : ∃ S, strOfB fr = S := ⟨_, rfl⟩
    have HS := Lib.hid hS
    obtain ⟨va, vc, rfl, hvr, _⟩ := ho.reads (by omega)
    obtain ⟨L, hL⟩ : ∃ L, fr.length = L := ⟨_, rfl⟩
    rw [hL] at hvr hlen ⊢
    have VR := Lib.hid hvr
    have HLE := Lib.hid hle
    clear HP ho hvr hS hL hf hfr hle
    go_wp2_with (refine wp_load_e w4 (by rfl) 37 (.tmp 1) rfl w.heap.size 37 M _ (by rfl) HB4 Tryz.underlying37 rfl hinfoM ?_)
    rw [← HMM.out]
    refine (renc_any m w4 (HM.out.under B4.out)).mono ?_
    rintro e w5 ⟨hb5, ⟨_, _, v5, rfl, ho5⟩ | ⟨hn, _⟩ | ⟨_, hn, _⟩⟩
    rotate_left
    · exact absurd HF.out hn
    · exact absurd hn (by have := HLE.out; omega)
    rw [HMM.out]
    rw [HFR.out] at ho5
    obtain ⟨va5, vc5, rfl, hvr5, _⟩ := ho5.reads (by have := VR.out.len; omega)
    rw [VR.out.len] at hvr5 ⊢
    have B5 := Lib.hid (below_on B4.out hb5)
    have V5 := Lib.hid (VR.out.on hb5)
    have kc : (convert 33 9 (.slice va L vc)).run Tryz.prog w5 = .ok (.string S) w5 := by
      rw [← HS.out]
      exact V5.out.str 33 5 Tryz.underlying33 Tryz.underlying5 9 Tryz.underlying9
    have kd : (convert 33 9 (.slice va5 L vc5)).run Tryz.prog w5 = .ok (.string S) w5 := by
      rw [← HS.out]
      exact hvr5.str 33 5 Tryz.underlying33 Tryz.underlying5 9 Tryz.underlying9
    clear ho5 hvr5 hb5 X4 B4 HB4 VR
    go_wp2
    go_ret
    exact ⟨rfl, B5.out⟩
  · have HF := Lib.hid hf
    clear HP
    have kc : ∀ w5, (convert 33 9 (.slice none 0 0)).run Tryz.prog w5 = .ok (.string (strOfB [])) w5 := fun w5 => (BReads.nil w5).str 33 5 Tryz.underlying33 Tryz.underlying5 9 Tryz.underlying9
    obtain ⟨S, hS⟩ : ∃ S, strOfB [] = S := ⟨_, rfl⟩
    rw [hS] at kc
    clear hf hS
    go_wp2_with (refine wp_load_e w4 (by rfl) 37 (.tmp 1) rfl w.heap.size 37 M _ (by rfl) HB4 Tryz.underlying37 rfl hinfoM ?_)
    rw [← HMM.out]
    refine (renc_any m w4 (HM.out.under B4.out)).mono ?_
    rintro e w5 ⟨hb5, ⟨hy, hn, _⟩ | ⟨hy, rfl⟩ | ⟨hy, hn, rfl⟩⟩
    · exact absurd hy HF.out
    rotate_left
    · exact absurd hy HF.out
    rw [HMM.out]
    have B5 := Lib.hid (below_on B4.out hb5)
    clear hb5 X4 B4 HB4
    go_wp2
    go_ret
    exact ⟨rfl, B5.out⟩
  · have HF := Lib.hid hf
    have HLE := Lib.hid hle
    have kc : ∀ w5, (convert 33 9 (.slice none 0 0)).run Tryz.prog w5 = .ok (.string (strOfB [])) w5 := fun w5 => (BReads.nil w5).str 33 5 Tryz.underlying33 Tryz.underlying5 9 Tryz.underlying9
    obtain ⟨S, hS⟩ : ∃ S, strOfB [] = S := ⟨_, rfl⟩
    rw [hS] at kc
    clear hf hS hle HP
    go_wp2_with (refine wp_load_e w4 (by rfl) 37 (.tmp 1) rfl w.heap.size 37 M _ (by rfl) HB4 Tryz.underlying37 rfl hinfoM ?_)
    rw [← HMM.out]
    refine (renc_any m w4 (HM.out.under B4.out)).mono ?_
    rintro e w5 ⟨hb5, ⟨hy, hn, _⟩ | ⟨hy, rfl⟩ | ⟨hy, hn, rfl⟩⟩
    · exact absurd HLE.out (by omega)
    · exact absurd HF.out hy
    rw [HMM.out]
    have B5 := Lib.hid (below_on B4.out hb5)
    clear hb5 X4 B4 HB4
    go_wp2
    go_ret
    exact ⟨rfl, B5.out⟩

theorem encodes_row : Rows.FrameEncodesSaid :=
  OpenClaim.holds_of_wide 6 Tryz.f6 rfl rfl rfl rfl rfl rfl rfl ⟨rfl, rfl, rfl, rfl, rfl⟩ rfl rfl rfl rfl rfl (by kernel_rfl) Tryz.func6 (by kernel_rfl)
    (of_decide_eq_true (by kernel_rfl)) (by unfold Func.isWrapper; rw [if_neg (of_decide_eq_false (by kernel_rfl))]; exact ⟨rfl, rfl⟩)
    (fun os started H enc _ => lift (C := Tryz.checked) (s := Rows.frameEncodesSpec) (conds := Rows.frameEncodesRow.domain) os started H enc prog_own (by kernel_rfl) Tryz.func6 prog_laid rfl Tryz.underlying4 rfl
      (fun ds hl => by
        have hl : ds.length = 1 := hl
        match ds, hl with
        | [_], _ => rfl)
      (of_decide_eq_true (by kernel_rfl))
      (ChangeSpec.witness6 (enc := enc) (C := Tryz.checked) false ⟨#[], #[.agg #[.int .u8 0, .int .u32 0, .int .u32 0, .int .u64 0, .int .u8 0, .int .u32 0, .string ⟨#[]⟩, .string ⟨#[]⟩, .int .u8 0, .int .u8 0, .bool false, .int .u8 0, .int .u16 0, .slice none 0 0, .int .u32 0, .slice none 0 0, .int .u16 0, .int .u16 0, .slice none 0 0, .slice none 0 0, .slice none 0 0, .int .u32 0, .int .u32 0, .slice none 0 0, .int .u64 0, .slice none 0 0, .slice none 0 0, .slice none 0 0]], []⟩ 8 (by kernel_rfl) (by kernel_rfl) (by kernel_rfl) (by kernel_rfl))
      (fun W base args ds p g => by
        rw [Tryz.params6] at g
        obtain ⟨m, e0, hm⟩ := g.msg 0 rfl
        rw [args1 g.count e0]
        exact encodes_walk m W hm))
end Go.Proofs.YtemnmjfeljipjaaGreat
