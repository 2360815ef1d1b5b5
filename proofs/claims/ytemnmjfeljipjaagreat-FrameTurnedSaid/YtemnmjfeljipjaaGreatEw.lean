/-
  FrameTurned holds: a frame in which one byte is another one is never read as a message without an error, but where its length is.
-/
import Derived.Test.YtemnmjfeljipjaaGreatRows
import Derived.Test.YtemnmjfeljipjaaGreatRe
import Derived.Test.YtemnmjfeljipjaaGreatMy
import Derived.Test.YtemnmjfeljipjaaGreatMz
import Derived.Test.YtemnmjfeljipjaaGreatEv
namespace Go.Proofs.YtemnmjfeljipjaaGreat
open Go.ChangeShapes Go.WideShapes Go.ChangeAt Go.RowKit

theorem xor_u8n (p d : Nat) (hp : p < 256) (hd : d < 256) : bits .xor .u8 (p : Int) (d : Int) = ((p ^^^ d : Nat) : Int) ∧ p ^^^ d < 256 := ⟨u8_xor_nat p d hp hd, Nat.xor_lt_two_pow (n := 8) hp hd⟩
theorem frameF_len {x : MsgV} (h : (bytesM x).length ≤ 4096) : (frameF x.kind (bytesM x)).length ≤ 5000 := by
  have := vput_short h
  unfold frameF openF
  simp only [List.length_append, sumL_len, List.length_cons, List.length_nil]
  omega

theorem frame_turnedL {x : MsgV} (hm : (bytesM x).length ≤ 4096) (L : List Nat) (hL : frameF x.kind (bytesM x) = L) : ∀ (j d : Nat) (hj : j < L.length), d < 256 → d ≠ 0 → ∀ (y : MsgV) (n : Nat), firstF (L.set j (L[j] ^^^ d)) = .got y n → j = 4 ∨ j = 5 := by
  subst hL
  exact fun j d hj hd h0 y n hg => frame_turned hm j d hj hd h0 y n hg
set_option maxRecDepth 100000 in
set_option maxHeartbeats 12800000 in
theorem turned_walk (m : MsgL) (i : Int) (d : Nat) (w : World) (hd : d < 256) (hm : m.In (· < w.heap.size) w) :
    Calls Tryz.prog 9 #[.agg m.cells.toArray, .int .i64 i, .int .u8 (d : Int)] w fun e w' => e = .returned (.bool true) ∧ Below w.heap.size w w' := by
  obtain ⟨M, hM⟩ : ∃ M, m.cells.toArray = M := ⟨_, rfl⟩
  obtain ⟨Z, hZ⟩ : ∃ Z, (zeroL 0).cells.toArray = Z := ⟨_, rfl⟩
  have hz := msg_zero
  rw [hZ] at hz
  have hb1 : (Z = #[]) = False := by
    rw [← hZ]
    simp [MsgL.cells]
  have hb4 : Z.size = 28 := by
    rw [← hZ]
    rfl
  have hM28 : M.size = 28 := by
    rw [← hM]
    rfl
  have hinfoM : (Tryz.prog.info? 37).map (·.size) = some M.size := by
    rw [hM28]
    kernel_rfl
  rw [hM]
  obtain ⟨w1, hw1⟩ : ∃ w1, w.alloc (.cells M 37) = w1 := ⟨_, rfl⟩
  have X1 := Lib.hid (show Blk w1 w.heap.size 37 m.cells from by rw [← hw1, ← hM]; exact Blk.new w 37 m.cells.toArray)
  have B1 := Lib.hid (show Below w.heap.size w w1 from by rw [← hw1]; exact (Below.refl _ _).alloc (Nat.le_refl _) _)
  have HMM := Lib.hid hM
  have HZ := Lib.hid hZ
  have hl1 := X1.out.lt
  have HM := Lib.hid hm
  clear hM hZ hm
  go_enter Tryz.func9, Tryz.ntmps9
  go_wp2_with (fail)
  try rw [hw1]
  clear hw1
  refine (alive7 w1).mono ?_
  rintro e w2 ⟨rfl, hb⟩
  have X2 := Lib.hid ((Kept.of_below (F := []) hb (Nat.le_refl _)).blk X1.out (by simp))
  have B2 := Lib.hid (below_on B1.out hb)
  have hs2 := hb.size
  have HB2 : w2.heap[w.heap.size]? = some (.cells M 37 (0, 0)) := by
    rw [← HMM.out]
    exact X2.out
  clear hb X1 B1
  go_wp2_with (refine wp_load_e w2 (by rfl) 37 (.tmp 3) rfl w.heap.size 37 M _ (by rfl) HB2 Tryz.underlying37 rfl hinfoM ?_)
  rw [← HMM.out]
  refine (great_msg m w2 (HM.out.under B2.out)).mono ?_
  rintro e w3 ⟨⟨g, rfl⟩, hb3⟩
  rw [HMM.out]
  have X3 := Lib.hid ((Kept.of_below (F := []) hb3 (Nat.le_refl _)).blk X2.out (by simp))
  have B3 := Lib.hid (below_on B2.out hb3)
  have hs3 := hb3.size
  have HB3 : w3.heap[w.heap.size]? = some (.cells M 37 (0, 0)) := by
    rw [← HMM.out]
    exact X3.out
  clear hb3 X2 B2 HB2
  cases g
  rotate_left
  · go_wp2
    go_ret
    exact ⟨rfl, B3.out⟩
  go_wp2_with (refine wp_load_e w3 (by rfl) 37 (.tmp 3) rfl w.heap.size 37 M _ (by rfl) HB3 Tryz.underlying37 rfl hinfoM ?_)
  rw [← HMM.out]
  refine (enc_any m w3 (HM.out.under B3.out)).mono ?_
  rintro e w4 ⟨hb4', ⟨hf, hle, v, rfl, ho⟩ | ⟨_, rfl⟩ | ⟨_, _, rfl⟩⟩
  rotate_left
  · rw [HMM.out]
    have B4 := Lib.hid (below_on B3.out hb4')
    clear hb4' X3 B3 HB3
    go_wp2
    go_ret
    exact ⟨rfl, B4.out⟩
  · rw [HMM.out]
    have B4 := Lib.hid (below_on B3.out hb4')
    clear hb4' X3 B3 HB3
    go_wp2
    go_ret
    exact ⟨rfl, B4.out⟩
  rw [HMM.out]
  have B4 := Lib.hid (below_on B3.out hb4')
  have hfl := frameF_len hle
  obtain ⟨fr, hfr⟩ : ∃ fr, frameF m.toM.kind (bytesM m.toM) = fr := ⟨_, rfl⟩
  have TURN := Lib.hid (frame_turnedL hle fr hfr)
  simp only [hfr] at ho hfl
  obtain ⟨n, hn⟩ : ∃ n, fr.length = n := ⟨_, rfl⟩
  have HL := Lib.hid hn
  have O4 := Lib.hid ho
  obtain ⟨va, vc, rfl, hvr, _⟩ := ho.reads (by omega)
  rw [hn] at hvr hfl O4 ⊢
  have hs4 := hb4'.size
  clear hb4' X3 B3 HB3 hf hle hfr hn ho
  by_cases h1 : i < 0
  · clear hvr
    go_wp2
    go_ret
    exact ⟨rfl, B4.out⟩
  by_cases h2 : (n : Int) ≤ i
  · clear hvr
    go_wp2
    go_ret
    exact ⟨rfl, B4.out⟩
  by_cases h4 : d = 0
  · subst h4
    clear hvr
    go_wp2
    all_goals
      go_ret
      exact ⟨rfl, B4.out⟩
  obtain ⟨j, rfl⟩ := Int.eq_ofNat_of_zero_le (a := i) (by omega)
  have hj : j < n := by omega
  obtain ⟨p, hp⟩ : ∃ p, byteAt fr j = p := ⟨_, rfl⟩
  have hp256 := hvr.at_lt j
  rw [hp] at hp256
  obtain ⟨q, hq⟩ : ∃ q, p ^^^ d = q := ⟨_, rfl⟩
  obtain ⟨hxor, hq256⟩ := xor_u8n p d hp256 hd
  rw [hq] at hxor hq256
  obtain ⟨fs, hfs⟩ : ∃ fs, fr.set j q = fs := ⟨_, rfl⟩
  have NOT := Lib.hid (show ∀ y k, firstF fs = .got y k → j = 4 ∨ j = 5 from by
    intro y k hg
    have hjl : j < fr.length := by rw [HL.out]; exact hj
    have e2 : fr[j] = p := by rw [← hp]; simp [byteAt, List.getD, hjl]
    refine TURN.out j d hjl hd h4 y k ?_
    rw [e2, hq, hfs]
    exact hg)
  have h4b : ((d : Int) == 0) = false := by simp; omega
  obtain ⟨g, cap, e5, hg1, hg2⟩ := O4.out.head (by rw [HL.out]; omega)
  rw [HL.out] at e5
  simp only [Value.slice.injEq] at e5
  obtain ⟨rfl, -, rfl⟩ := e5
  obtain ⟨hcell, hfro⟩ := O4.out.cellAt j (by rw [HL.out]; exact hj)
  rw [hp] at hcell
  have O5 := Lib.hid (show OwnV (w4.setCell ⟨g, j, none⟩ (.int .u8 (q : Int))) w3.heap.size 5 (.slice (some ⟨g, 0, none⟩) n vc) fs from by
    rw [← hfs]
    exact O4.out.set j q hq256)
  have B5 := Lib.hid (show Below w.heap.size w (w4.setCell ⟨g, j, none⟩ (.int .u8 (q : Int))) from B4.out.setCell (p := ⟨g, j, none⟩) (show w.heap.size ≤ g by omega) _)
  have HLS := Lib.hid (show fs.length = n from by rw [← hfs, List.length_set]; exact HL.out)
  clear hp hq hfs TURN O4 B4 hvr h1 h2 h4
  go_wp2_with (fail)
  clear hcell hfro
  generalize w4.setCell ⟨g, j, none⟩ (.int .u8 (q : Int)) = w5 at *
  refine (fnew_any w5).mono ?_
  rintro e w6 ⟨r, F, rfl, hrd, hFl, hb6⟩
  have D6 := Lib.hid hrd
  have B6 := Lib.hid (below_on B5.out hb6)
  have O6 := Lib.hid (O5.out.on hb6)
  obtain ⟨a6, c6, e6, hr6, _⟩ := O6.out.reads (by rw [HLS.out]; omega)
  rw [HLS.out] at e6 hr6
  simp only [Value.slice.injEq] at e6
  obtain ⟨rfl, -, rfl⟩ := e6
  have R6 := Lib.hid hr6
  have hs5 := B5.out.size
  have hs6 := hb6.size
  have hg6 := (O5.out.lt g rfl).2
  clear hrd hFl hb6 hr6 B5 O5
  go_wp2_with (fail)
  refine (ffeed_alive w5.heap.size r F 0 [] _ n vc fs w6 D6.out R6.out (by simp; omega) hs6).mono ?_
  rintro e w7 ⟨rfl, F7, hrd, hk, hgr⟩
  have D7 := Lib.hid (show RdrAt w7 w5.heap.size r F7 (.alive 0 fs) from hrd)
  have hF6 := fun k hk => (D6.out.lt k hk).1
  have B7 := Lib.hid (show Below w.heap.size w w7 from B6.out.trans (hk.below (fun k hk => by have := hF6 k hk; omega) (by omega)))
  have O7 := Lib.hid (O6.out.kept hk (fun k hk hh => by have := hF6 k hh; simp [Value.ownBlock] at hk; omega))
  have hs7 := hk.size
  have HG7 := Lib.hid (show ∀ k ∈ F7, k ≠ g from fun k hk' hh => by
    have := (D7.out.lt k hk').1
    omega)
  clear hrd hk hgr D6 R6 O6 B6 hF6
  go_wp2_with (fail)
  refine (fnext_alive w5.heap.size r F7 0 fs w7 D7.out (by rw [HLS.out]; omega) (by omega)).mono ?_
  rintro e w8 hp
  obtain ⟨hk, y, hy⟩ : Kept F7 w7 w8 ∧ ∃ y : MsgL, e = .returned (.tuple #[.agg y.cells.toArray, .int .i64 (whyF fs : Int)]) := by
    refine ⟨hp.1, ?_⟩
    unfold whyF
    cases hf : firstF fs with
    | more => exact ⟨zeroL 0, (hp.more hf).2.1⟩
    | bad e => exact ⟨zeroL 0, (hp.bad hf).2.1⟩
    | got x k =>
      obtain ⟨_, y, _, h, _⟩ := hp.got hf
      exact ⟨y, h⟩
  subst hy
  have B8 := Lib.hid (show Below w.heap.size w w8 from B7.out.trans (hk.below (fun k hk => by have := (D7.out.lt k hk).1; omega) (by omega)))
  have O8 := Lib.hid (O7.out.kept hk (fun k hk hh => by simp [Value.ownBlock] at hk; exact HG7.out k hh hk.symm))
  obtain ⟨a8, c8, e8, hr8, _⟩ := O8.out.reads (by rw [HLS.out]; omega)
  rw [HLS.out] at e8 hr8
  simp only [Value.slice.injEq] at e8
  obtain ⟨rfl, -, rfl⟩ := e8
  obtain ⟨U, hU⟩ : ∃ U, y.cells.toArray = U := ⟨_, rfl⟩
  have hst := msg_store_new w8 Z y hb4
  rw [hU] at hst ⊢
  have hU28 : U.size = 28 := by
    rw [← hU]
    rfl
  obtain ⟨z, hz0⟩ : ∃ z, whyF fs = z := ⟨_, rfl⟩
  have HW := Lib.hid hz0
  rw [hz0]
  obtain ⟨w9, hw9⟩ : ∃ w9, w8.alloc (.cells U 37) = w9 := ⟨_, rfl⟩
  have RW := Lib.hid (show BReads w9 (some ⟨g, 0, none⟩) n vc fs from by
    rw [← hw9]
    exact hr8.alloc _)
  have B9 := Lib.hid (show Below w.heap.size w w9 from by
    rw [← hw9]
    exact B8.out.alloc B8.out.size _)
  clear hp hk hU hz0 hr8 D7 B7 O7 O8 HG7 B8
  go_wp2_with (fail)
  try rw [hw9]
  clear hw9 hst
  refine (rfirst_any _ n vc fs _ RW.out (by omega)).mono ?_
  rintro e w10 ⟨hb10, hf⟩
  obtain ⟨y2, k2, rfl⟩ : ∃ (y2 : MsgL) (k2 : Nat), e = .returned (.tuple #[.agg y2.cells.toArray, .int .i64 (k2 : Int), .int .i64 (z : Int)]) := by
    have hw := HW.out
    unfold whyF at hw
    cases hff : firstF fs with
    | more =>
      rw [hff] at hf hw
      simp only at hf hw
      exact ⟨zeroL 0, 0, by rw [hf, ← hw]; rfl⟩
    | bad er =>
      rw [hff] at hf hw
      simp only at hf hw
      exact ⟨zeroL 0, 0, by rw [hf.2, ← hw]; rfl⟩
    | got x k =>
      rw [hff] at hf hw
      obtain ⟨y2, h, _⟩ := hf
      simp only at hw
      exact ⟨y2, k, by rw [h, ← hw]; rfl⟩
  have FINAL := Lib.hid (show z = 0 → j = 4 ∨ j = 5 from fun hz0 => by
    have hw := HW.out
    rw [hz0] at hw
    unfold whyF at hw
    cases hff : firstF fs with
    | more =>
      rw [hff] at hw
      cases hw
    | bad er =>
      rw [hff] at hf hw
      simp only at hf hw
      exact absurd hw hf.1
    | got x k => exact NOT.out x k hff)
  obtain ⟨V, hV⟩ : ∃ V, y2.cells.toArray = V := ⟨_, rfl⟩
  have hst2 := msg_store_new w10 Z y2 hb4
  rw [hV] at hst2 ⊢
  have hV28 : V.size = 28 := by
    rw [← hV]
    rfl
  obtain ⟨w11, hw11⟩ : ∃ w11, w10.alloc (.cells V 37) = w11 := ⟨_, rfl⟩
  have B11 := Lib.hid (show Below w.heap.size w w11 from by
    rw [← hw11]
    exact (below_on B9.out hb10).alloc (below_on B9.out hb10).size _)
  clear hb10 hf hV RW HW NOT B9
  by_cases hz0 : z = 0
  · have hjj := FINAL.out hz0
    subst hz0
    by_cases hj4 : j = 4
    · subst hj4
      go_wp2
      go_ret
      exact ⟨rfl, by (try rw [hw11]); exact B11.out⟩
    · obtain rfl : j = 5 := by omega
      go_wp2
      go_ret
      exact ⟨rfl, by (try rw [hw11]); exact B11.out⟩
  · have hzb : ((z : Int) != 0) = true := by simp; omega
    go_wp2
    go_ret
    exact ⟨rfl, by (try rw [hw11]); exact B11.out⟩

theorem turned_row : Rows.FrameTurnedSaid :=
  OpenClaim.holds_of_wide 9 Tryz.f9 rfl rfl rfl rfl rfl rfl rfl ⟨rfl, rfl, rfl, rfl, rfl⟩ rfl rfl rfl rfl rfl (by kernel_rfl) Tryz.func9 (by kernel_rfl)
    (of_decide_eq_true (by kernel_rfl)) (by unfold Func.isWrapper; rw [if_neg (of_decide_eq_false (by kernel_rfl))]; exact ⟨rfl, rfl⟩)
    (fun os started H enc _ => lift (C := Tryz.checked) (s := Rows.frameTurnedSpec) (conds := Rows.frameTurnedRow.domain) os started H enc prog_own (by kernel_rfl) Tryz.func9 prog_laid rfl Tryz.underlying4 rfl
      (fun ds hl => by
        have hl : ds.length = 3 := hl
        match ds, hl with
        | [_, _, _], _ => rfl)
      (of_decide_eq_true (by kernel_rfl))
      (ChangeSpec.witness6 (enc := enc) (C := Tryz.checked) false ⟨#[], #[.agg #[.int .u8 0, .int .u32 0, .int .u32 0, .int .u64 0, .int .u8 0, .int .u32 0, .string ⟨#[]⟩, .string ⟨#[]⟩, .int .u8 0, .int .u8 0, .bool false, .int .u8 0, .int .u16 0, .slice none 0 0, .int .u32 0, .slice none 0 0, .int .u16 0, .int .u16 0, .slice none 0 0, .slice none 0 0, .slice none 0 0, .int .u32 0, .int .u32 0, .slice none 0 0, .int .u64 0, .slice none 0 0, .slice none 0 0, .slice none 0 0], .int .i64 0, .int .u8 0], []⟩ 8 (by kernel_rfl) (by kernel_rfl) (by kernel_rfl) (by kernel_rfl))
      (fun W base args ds p g => by
        rw [Tryz.params9] at g
        obtain ⟨m, e0, hm⟩ := g.msg 0 rfl
        obtain ⟨i, e1, _⟩ := g.i64 1 rfl Tryz.underlying3
        obtain ⟨d, e2, hd⟩ := g.u8 2 rfl Tryz.underlying5
        rw [args3 g.count e0 e1 e2]
        exact turned_walk m i d W hd hm))
end Go.Proofs.YtemnmjfeljipjaaGreat
