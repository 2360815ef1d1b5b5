/-
  FrameSizes holds: a frame has eight bytes more than its message's, and those of their number.
-/
import Derived.Test.YtemnmjfeljipjaaGreatRows
import Derived.Test.YtemnmjfeljipjaaGreatRe
import Derived.Test.YtemnmjfeljipjaaGreatEo
import Derived.Test.YtemnmjfeljipjaaGreatMy
import Derived.Test.YtemnmjfeljipjaaGreatMz
namespace Go.Proofs.YtemnmjfeljipjaaGreat
open Go.ChangeShapes Go.WideShapes Go.ChangeAt Go.RowKit

set_option maxRecDepth 100000 in
set_option maxHeartbeats 12800000 in
theorem sizes_walk (m : MsgL) (w : World) (hm : m.In (· < w.heap.size) w) :
    Calls Tryz.prog 10 #[.agg m.cells.toArray] w fun e w' => e = .returned (.bool true) ∧ Below w.heap.size w w' := by
  obtain ⟨M, hM⟩ : ∃ M, m.cells.toArray = M := ⟨_, rfl⟩
  obtain ⟨Z, hZ⟩ : ∃ Z, (zeroL 0).cells.toArray = Z := ⟨_, rfl⟩
  have hz := msg_zero
  rw [hZ] at hz
  have hb1 : (Z = #[]) = False := by
    rw [← hZ]
    simp [MsgL.cells]
  have hb4 : Z.size = 28 := by
    rw [← hZ]
    rfl
  have hM28 : M.size = 28 := by
    rw [← hM]
    rfl
  have hinfoM : (Tryz.prog.info? 37).map (·.size) = some M.size := by
    rw [hM28]
    kernel_rfl
  have hinfoZ : (Tryz.prog.info? 37).map (·.size) = some Z.size := by
    rw [hb4]
    kernel_rfl
  rw [hM]
  obtain ⟨w1, hw1⟩ : ∃ w1, w.alloc (.cells M 37) = w1 := ⟨_, rfl⟩
  have X1 := Lib.hid (show Blk w1 w.heap.size 37 m.cells from by rw [← hw1, ← hM]; exact Blk.new w 37 m.cells.toArray)
  have B1 := Lib.hid (show Below w.heap.size w w1 from by rw [← hw1]; exact (Below.refl _ _).alloc (Nat.le_refl _) _)
  have HMM := Lib.hid hM
  have HZ := Lib.hid hZ
  have hl1 := X1.out.lt
  have HM := Lib.hid hm
  clear hM hZ hm
  have hk255 := HM.out.hkind
  go_enter Tryz.func10, Tryz.ntmps10
  go_wp2_with (fail)
  try rw [hw1]
  clear hw1
  refine (alive7 w1).mono ?_
  rintro e w2 ⟨rfl, hb⟩
  have X2 := Lib.hid ((Kept.of_below (F := []) hb (Nat.le_refl _)).blk X1.out (by simp))
  have B2 := Lib.hid (below_on B1.out hb)
  have hs2 := hb.size
  have HB2 : w2.heap[w.heap.size]? = some (.cells M 37 (0, 0)) := by
    rw [← HMM.out]
    exact X2.out
  clear hb X1 B1
  go_wp2_with (refine wp_load_e w2 (by rfl) 37 (.tmp 1) rfl w.heap.size 37 M _ (by rfl) HB2 Tryz.underlying37 rfl hinfoM ?_)
  rw [← HMM.out]
  refine (great_msg m w2 (HM.out.under B2.out)).mono ?_
  rintro e w3 ⟨⟨g, rfl⟩, hb3⟩
  rw [HMM.out]
  have X3 := Lib.hid ((Kept.of_below (F := []) hb3 (Nat.le_refl _)).blk X2.out (by simp))
  have B3 := Lib.hid (below_on B2.out hb3)
  have hs3 := hb3.size
  have HB3 : w3.heap[w.heap.size]? = some (.cells M 37 (0, 0)) := by
    rw [← HMM.out]
    exact X3.out
  clear hb3 X2 B2 HB2
  cases g
  rotate_left
  · go_wp2
    go_ret
    exact ⟨rfl, B3.out⟩
  go_wp2_with (refine wp_load_e w3 (by rfl) 37 (.tmp 1) rfl w.heap.size 37 M _ (by rfl) HB3 Tryz.underlying37 rfl hinfoM ?_)
  rw [← HMM.out]
  refine (rput_msg m w3 ((HM.out.under B3.out).mono (fun k hk _ => by have := B3.out.size; omega))).mono ?_
  rintro e w4 ⟨hb4', hp⟩
  rw [HMM.out]
  have X4 := Lib.hid ((Kept.of_below (F := []) hb4' (Nat.le_refl _)).blk X3.out (by simp))
  have B4 := Lib.hid (below_on B3.out hb4')
  have hs4 := hb4'.size
  have HB4 : w4.heap[w.heap.size]? = some (.cells M 37 (0, 0)) := by
    rw [← HMM.out]
    exact X4.out
  clear hb4' X3 B3 HB3
  rcases hp with ⟨hf, v, rfl, ho⟩ | ⟨hf, rfl⟩
  · have HF := Lib.hid hf
    have hbl := bytesM_small _ hf
    obtain ⟨bs, hbs⟩ : ∃ bs, bytesM m.toM = bs := ⟨_, rfl⟩
    rw [hbs] at ho hbl
    obtain ⟨L, hL⟩ : ∃ L, bs.length = L := ⟨_, rfl⟩
    obtain ⟨va, vc, rfl, hvr, _⟩ := ho.reads (by omega)
    rw [hL] at hvr hbl ⊢
    have HBS := Lib.hid hbs
    have HL := Lib.hid hL
    clear ho hvr hf hbs hL
    go_wp2_with (refine wp_load_e w4 (by rfl) 37 (.tmp 1) rfl w.heap.size 37 M _ (by rfl) HB4 Tryz.underlying37 rfl hinfoM ?_)
    rw [← HMM.out]
    refine (enc_any m w4 (HM.out.under B4.out)).mono ?_
    rintro e w5 ⟨hb5, ⟨_, hle, v5, rfl, ho5⟩ | ⟨hn, _⟩ | ⟨_, hn, rfl⟩⟩
    · rw [HMM.out]
      rw [HBS.out] at ho5
      have B5 := Lib.hid (below_on B4.out hb5)
      obtain ⟨P, hP⟩ : ∃ P, (vput L).length = P := ⟨_, rfl⟩
      have hP10 : P ≤ 10 := by rw [← hP]; exact vput_len10 (by omega)
      have hfl : (frameF m.toM.kind bs).length = 8 + P + L := by
        unfold frameF openF
        rw [HL.out]
        simp only [List.length_append, sumL_len, List.length_cons, List.length_nil, hP, HL.out]
        omega
      obtain ⟨va5, vc5, rfl, _, _⟩ := ho5.reads (by rw [hfl]; omega)
      obtain ⟨T, hT⟩ : ∃ T, (frameF m.toM.kind bs).length = T := ⟨_, rfl⟩
      rw [hT] at hfl ⊢
      have hTP : ((T : Int) == 8 + (P : Int) + (L : Int)) = true := by simp; omega
      have HPP := Lib.hid hP
      have hTL : T ≤ 900000000 := by omega
      clear ho5 hT hfl hP hb5 X4 B4 HB4 hle
      go_wp2_with (fail)
      refine (rput_any L w5 (by omega)).mono ?_
      rintro e w6 ⟨v6, rfl, ho6, hb6⟩
      obtain ⟨va6, vc6, rfl, _, _⟩ := ho6.reads (by have := HPP.out; omega)
      rw [HPP.out]
      have B6 := Lib.hid (below_on B5.out hb6)
      clear ho6 hb6
      go_wp2
      go_ret
      exact ⟨rfl, B6.out⟩
    · exact absurd HF.out hn
    · rw [HMM.out]
      rw [HBS.out, HL.out] at hn
      have hLb : decide ((4096 : Int) < (L : Int)) = true := decide_eq_true (by omega)
      have B5 := Lib.hid (below_on B4.out hb5)
      clear hb5 X4 B4 HB4
      go_wp2
      go_ret
      exact ⟨rfl, B5.out⟩
  · have HF := Lib.hid hf
    clear hf
    go_wp2_with (refine wp_load_e w4 (by rfl) 37 (.tmp 1) rfl w.heap.size 37 M _ (by rfl) HB4 Tryz.underlying37 rfl hinfoM ?_)
    rw [← HMM.out]
    refine (enc_any m w4 (HM.out.under B4.out)).mono ?_
    rintro e w5 ⟨hb5, ⟨hy, _⟩ | ⟨_, rfl⟩ | ⟨hy, _⟩⟩
    · exact absurd hy HF.out
    rotate_left
    · exact absurd hy HF.out
    rw [HMM.out]
    have B5 := Lib.hid (below_on B4.out hb5)
    clear hb5 X4 B4 HB4
    go_wp2
    go_ret
    exact ⟨rfl, B5.out⟩

theorem sizes_row : Rows.FrameSizesSaid :=
  OpenClaim.holds_of_wide 10 Tryz.f10 rfl rfl rfl rfl rfl rfl rfl ⟨rfl, rfl, rfl, rfl, rfl⟩ rfl rfl rfl rfl rfl (by kernel_rfl) Tryz.func10 (by kernel_rfl)
    (of_decide_eq_true (by kernel_rfl)) (by unfold Func.isWrapper; rw [if_neg (of_decide_eq_false (by kernel_rfl))]; exact ⟨rfl, rfl⟩)
    (fun os started H enc _ => lift (C := Tryz.checked) (s := Rows.frameSizesSpec) (conds := Rows.frameSizesRow.domain) os started H enc prog_own (by kernel_rfl) Tryz.func10 prog_laid rfl Tryz.underlying4 rfl
      (fun ds hl => by
        have hl : ds.length = 1 := hl
        match ds, hl with
        | [_], _ => rfl)
      (of_decide_eq_true (by kernel_rfl))
      (ChangeSpec.witness6 (enc := enc) (C := Tryz.checked) false ⟨#[], #[.agg #[.int .u8 0, .int .u32 0, .int .u32 0, .int .u64 0, .int .u8 0, .int .u32 0, .string ⟨#[]⟩, .string ⟨#[]⟩, .int .u8 0, .int .u8 0, .bool false, .int .u8 0, .int .u16 0, .slice none 0 0, .int .u32 0, .slice none 0 0, .int .u16 0, .int .u16 0, .slice none 0 0, .slice none 0 0, .slice none 0 0, .int .u32 0, .int .u32 0, .slice none 0 0, .int .u64 0, .slice none 0 0, .slice none 0 0, .slice none 0 0]], []⟩ 8 (by kernel_rfl) (by kernel_rfl) (by kernel_rfl) (by kernel_rfl))
      (fun W base args ds p g => by
        rw [Tryz.params10] at g
        obtain ⟨m, e0, hm⟩ := g.msg 0 rfl
        rw [args1 g.count e0]
        exact sizes_walk m W hm))
end Go.Proofs.YtemnmjfeljipjaaGreat
