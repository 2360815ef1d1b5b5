/-
  MessagePuts holds: a message's bytes are the document's, or it can't be written; they are read back as it.
-/
import Derived.Test.YtemnmjfeljipjaaGreatRows
import Derived.Test.YtemnmjfeljipjaaGreatNu
import Derived.Test.YtemnmjfeljipjaaGreatMy
import Derived.Test.YtemnmjfeljipjaaGreatSp
import Derived.Test.YtemnmjfeljipjaaGreatMz
import Derived.Test.YtemnmjfeljipjaaGreatMx
namespace Go.Proofs.YtemnmjfeljipjaaGreat
open Go.ChangeShapes Go.WideShapes Go.ChangeAt Go.RowKit

theorem wp_load_any {P : Program} {ops : Array Oper} {rest : List Oper} {o : Oper} {act : Act} {Q : Exit → Act → World → Prop} (w : World) (hw : Region.wanted o (yielded ops act.tmps) = true) (ty : TypeId) (x : Operand) (hop : o.op = .load ty x) (g : Nat) (t : TypeId) (cs : Array Value) (d : TypeDesc)
    (hx : act.eval x = .pointer (some ⟨g, 0, none⟩)) (hb : w.heap[g]? = some (.cells cs t (0, 0))) (hu : P.underlying ty = some d) (hd : (match d with | .struct _ | .array _ _ => true | _ => false) = true) (hi : (P.info? ty).map (·.size) = some cs.size)
    (K : wpList P ops Q rest (act.put o.dst (.agg cs)) w) : wpList P ops Q (o :: rest) act w := by
  refine BigFrame.wpList_want hw fun K' hK => ?_
  have hl := run_loadVar_row (P := P) w g t ty cs (0, 0) d hb hu hd hi
  unfold Oper.wp execOp
  simp only [hop, hx, Instr.loadAt, Instr.sureAddr, Sem.run_bind, Sem.run_pure, Result.andThen_ok, hl]
  exact hK _ _ K
theorem bytesM_len (x : MsgV) (h : fitM x) : (bytesM x).length ≤ 800000000 := by
  obtain ⟨fs, h1, h2, h3⟩ := h
  have h4 := encF_len fs x h3
  have h5 := (form_some _ fs h1).2
  unfold bytesM
  rw [h1]
  show (encF fs x).length ≤ _
  omega

set_option maxRecDepth 100000 in
set_option maxHeartbeats 12800000 in
theorem puts_walk (m : MsgL) (w : World) (hm : m.In (· < w.heap.size) w) :
    Calls Tryz.prog 3 #[.agg m.cells.toArray] w fun e w' => e = .returned (.bool true) ∧ Below w.heap.size w w' := by
  obtain ⟨M, hM⟩ : ∃ M, m.cells.toArray = M := ⟨_, rfl⟩
  obtain ⟨Z, hZ⟩ : ∃ Z, (zeroL 0).cells.toArray = Z := ⟨_, rfl⟩
  have hz := msg_zero
  rw [hZ] at hz
  have hb1 : (Z = #[]) = False := by
    rw [← hZ]
    simp [MsgL.cells]
  have hb4 : Z.size = 28 := by
    rw [← hZ]
    rfl
  have hM28 : M.size = 28 := by
    rw [← hM]
    rfl
  have hinfoM : (Tryz.prog.info? 37).map (·.size) = some M.size := by
    rw [hM28]
    kernel_rfl
  have hinfoZ : (Tryz.prog.info? 37).map (·.size) = some Z.size := by
    rw [hb4]
    kernel_rfl
  rw [hM]
  obtain ⟨w1, hw1⟩ : ∃ w1, w.alloc (.cells M 37) = w1 := ⟨_, rfl⟩
  have X1 := Lib.hid (show Blk w1 w.heap.size 37 m.cells from by rw [← hw1, ← hM]; exact Blk.new w 37 m.cells.toArray)
  have B1 := Lib.hid (show Below w.heap.size w w1 from by rw [← hw1]; exact (Below.refl _ _).alloc (Nat.le_refl _) _)
  have HMM := Lib.hid hM
  have HZ := Lib.hid hZ
  have hl1 := X1.out.lt
  have HM := Lib.hid hm
  clear hM hZ hm
  have hk255 := HM.out.hkind
  go_enter Tryz.func3, Tryz.ntmps3
  go_wp2_with (fail)
  try rw [hw1]
  clear hw1
  refine (alive6 w1).mono ?_
  rintro e w2 ⟨rfl, hb⟩
  have X2 := Lib.hid ((Kept.of_below (F := []) hb (Nat.le_refl _)).blk X1.out (by simp))
  have B2 := Lib.hid (below_on B1.out hb)
  have hs2 := hb.size
  have HB2 : w2.heap[w.heap.size]? = some (.cells M 37 (0, 0)) := by
    rw [← HMM.out]
    exact X2.out
  clear hb X1 B1
  go_wp2_with (refine wp_load_any w2 (by rfl) 37 (.tmp 1) rfl w.heap.size 37 M _ (by rfl) HB2 Tryz.underlying37 rfl hinfoM ?_)
  rw [← HMM.out]
  refine (great_msg m w2 (HM.out.under B2.out)).mono ?_
  rintro e w3 ⟨⟨g, rfl⟩, hb3⟩
  rw [HMM.out]
  have X3 := Lib.hid ((Kept.of_below (F := []) hb3 (Nat.le_refl _)).blk X2.out (by simp))
  have B3 := Lib.hid (below_on B2.out hb3)
  have hs3 := hb3.size
  have HB3 : w3.heap[w.heap.size]? = some (.cells M 37 (0, 0)) := by
    rw [← HMM.out]
    exact X3.out
  clear hb3 X2 B2 HB2
  cases g
  rotate_left
  · go_wp2
    go_ret
    exact ⟨rfl, B3.out⟩
  go_wp2_with (refine wp_load_any w3 (by rfl) 37 (.tmp 1) rfl w.heap.size 37 M _ (by rfl) HB3 Tryz.underlying37 rfl hinfoM ?_)
  rw [← HMM.out]
  refine (mput_any m w3 (HM.out.under B3.out)).mono ?_
  rintro e w4 hp
  rw [HMM.out]
  by_cases hf : fitM m.toM
  · obtain ⟨hb4, v, rfl, ho⟩ := hp.good hf
    have HF := Lib.hid hf
    have hbl := bytesM_len _ hf
    obtain ⟨S, hS⟩ : ∃ S, strOfB (bytesM m.toM) = S := ⟨_, rfl⟩
    have HS := Lib.hid hS
    obtain ⟨va, vc, rfl, hvr, _⟩ := ho.reads (by omega)
    obtain ⟨L, hL⟩ : ∃ L, (bytesM m.toM).length = L := ⟨_, rfl⟩
    rw [hL] at hvr hbl ⊢
    have VR := Lib.hid hvr
    have X4 := Lib.hid ((Kept.of_below (F := []) hb4 (Nat.le_refl _)).blk X3.out (by simp))
    have B4 := Lib.hid (below_on B3.out hb4)
    have hs4 := hb4.size
    have HB4 : w4.heap[w.heap.size]? = some (.cells M 37 (0, 0)) := by
      rw [← HMM.out]
      exact X4.out
    clear hp ho hvr hS hL hf hb4 X3 B3 HB3
    go_wp2_with (refine wp_load_any w4 (by rfl) 37 (.tmp 1) rfl w.heap.size 37 M _ (by rfl) HB4 Tryz.underlying37 rfl hinfoM ?_)
    rw [← HMM.out]
    refine (rput_msg m w4 ((HM.out.under B4.out).mono (fun k hk _ => by have := B4.out.size; omega))).mono ?_
    rintro e w5 ⟨hb5, ⟨_, v5, rfl, ho5⟩ | ⟨hn, _⟩⟩
    rotate_left
    · exact absurd HF.out hn
    rw [HMM.out]
    obtain ⟨va5, vc5, rfl, hvr5, _⟩ := ho5.reads (by have := bytesM_len _ HF.out; omega)
    obtain ⟨L5, hL5⟩ : ∃ L5, (bytesM m.toM).length = L5 := ⟨_, rfl⟩
    rw [hL5] at hvr5 ⊢
    have X5 := Lib.hid ((Kept.of_below (F := []) hb5 (Nat.le_refl _)).blk X4.out (by simp))
    have B5 := Lib.hid (below_on B4.out hb5)
    have hs5 := hb5.size
    have HB5 : w5.heap[w.heap.size]? = some (.cells M 37 (0, 0)) := by
      rw [← HMM.out]
      exact X5.out
    have V5 := Lib.hid (VR.out.on hb5)
    have kc : (convert 33 9 (.slice va L vc)).run Tryz.prog w5 = .ok (.string S) w5 := by
      rw [← HS.out]
      exact V5.out.str 33 5 Tryz.underlying33 Tryz.underlying5 9 Tryz.underlying9
    have kd : (convert 33 9 (.slice va5 L5 vc5)).run Tryz.prog w5 = .ok (.string S) w5 := by
      rw [← HS.out]
      exact hvr5.str 33 5 Tryz.underlying33 Tryz.underlying5 9 Tryz.underlying9
    have c0 : w5.cell? ⟨w.heap.size, 0, none⟩ = some (.int .u8 (m.kind : Int)) := X5.out.cell 0
    have hl5 := X5.out.lt
    clear ho5 hvr5 hL5 hb5 X4 B4 HB4 VR
    go_wp2_with (fail)
    refine (mget_any m.kind hk255 va L vc (bytesM m.toM) w5 V5.out).mono ?_
    rintro e w6 hp
    obtain ⟨hb6, y, rfl, hyi, hym⟩ := hp.good (readM_back m.toM HF.out)
    obtain ⟨F, hF⟩ : ∃ F, y.cells.toArray = F := ⟨_, rfl⟩
    have hst := msg_store_new w6 Z y (by rw [← HZ.out]; rfl)
    rw [hF] at hst ⊢
    have hF28 : F.size = 28 := by rw [← hF]; rfl
    have hinfoF : (Tryz.prog.info? 37).map (·.size) = some F.size := by
      rw [hF28]
      kernel_rfl
    obtain ⟨w7, hw7⟩ : ∃ wz, w6.alloc (.cells F 37) = wz := ⟨_, rfl⟩
    have k67 : Below w6.heap.size w6 w7 := by rw [← hw7]; exact (Below.refl _ _).alloc (Nat.le_refl _) _
    have k57 := below_on hb6 k67
    have X7 := Lib.hid ((Kept.of_below (F := []) k57 (Nat.le_refl _)).blk X5.out (by simp))
    have B7 := Lib.hid (below_on B5.out k57)
    have HB7 : w7.heap[w.heap.size]? = some (.cells M 37 (0, 0)) := by
      rw [← HMM.out]
      exact X7.out
    have HBF : w7.heap[w6.heap.size]? = some (.cells F 37 (0, 0)) := by
      rw [← hw7]
      exact heap_alloc_new w6 _
    have Y7 := Lib.hid (hyi.lt.under k67)
    have YM := Lib.hid hym
    have HFF := Lib.hid hF
    have hl7 : w6.heap.size < w7.heap.size := by rw [← hw7]; simp
    clear hp hb6 hyi hym hF k67 k57 X5 B5 HB5 c0 kc kd
    go_wp2_with (first | (refine wp_load_any w7 (by rfl) 37 (.tmp 1) rfl w.heap.size 37 M _ (by rfl) HB7 Tryz.underlying37 rfl hinfoM ?_) | (refine wp_load_any w7 (by rfl) 37 (.tmp 7) rfl w6.heap.size 37 F _ (by rfl) HBF Tryz.underlying37 rfl hinfoF ?_))
    try rw [hw7]
    try rw [← HMM.out]
    try rw [← HFF.out]
    refine (sameMsg m y w7 (HM.out.under B7.out) Y7.out).mono ?_
    rintro e w8 ⟨z, rfl, hz8, hb8⟩
    obtain rfl : z = true := hz8.2 YM.out.symm
    have B8 := Lib.hid (below_on B7.out hb8)
    clear hz8 hb8
    go_wp2
    go_ret
    exact ⟨rfl, B8.out⟩
  · obtain ⟨hb4, rfl⟩ := hp.bad hf
    have HF := Lib.hid hf
    have X4 := Lib.hid ((Kept.of_below (F := []) hb4 (Nat.le_refl _)).blk X3.out (by simp))
    have B4 := Lib.hid (below_on B3.out hb4)
    have hs4 := hb4.size
    have HB4 : w4.heap[w.heap.size]? = some (.cells M 37 (0, 0)) := by
      rw [← HMM.out]
      exact X4.out
    clear hp hf hb4 X3 B3 HB3
    go_wp2_with (refine wp_load_any w4 (by rfl) 37 (.tmp 1) rfl w.heap.size 37 M _ (by rfl) HB4 Tryz.underlying37 rfl hinfoM ?_)
    rw [← HMM.out]
    refine (rput_msg m w4 ((HM.out.under B4.out).mono (fun k hk _ => by have := B4.out.size; omega))).mono ?_
    rintro e w5 ⟨hb5, ⟨hy, _⟩ | ⟨_, rfl⟩⟩
    · exact absurd hy HF.out
    rw [HMM.out]
    have X5 := Lib.hid ((Kept.of_below (F := []) hb5 (Nat.le_refl _)).blk X4.out (by simp))
    have B5 := Lib.hid (below_on B4.out hb5)
    have hs5 := hb5.size
    have HB5 : w5.heap[w.heap.size]? = some (.cells M 37 (0, 0)) := by
      rw [← HMM.out]
      exact X5.out
    have kc : (convert 33 9 (.slice none 0 0)).run Tryz.prog w5 = .ok (.string (strOfB [])) w5 := (BReads.nil w5).str 33 5 Tryz.underlying33 Tryz.underlying5 9 Tryz.underlying9
    obtain ⟨S, hS⟩ : ∃ S, strOfB [] = S := ⟨_, rfl⟩
    rw [hS] at kc
    have c0 : w5.cell? ⟨w.heap.size, 0, none⟩ = some (.int .u8 (m.kind : Int)) := X5.out.cell 0
    have hl5 := X5.out.lt
    clear hb5 X4 B4 HB4 hS
    go_wp2_with (fail)
    refine (mget_any m.kind hk255 none 0 0 [] w5 (BReads.nil _)).mono ?_
    rintro e w6 ⟨hb6, y, er, rfl, _, _⟩
    obtain ⟨F, hF⟩ : ∃ F, y.cells.toArray = F := ⟨_, rfl⟩
    have hst := msg_store_new w6 Z y (by rw [← HZ.out]; rfl)
    rw [hF] at hst ⊢
    have hF28 : F.size = 28 := by rw [← hF]; rfl
    obtain ⟨w7, hw7⟩ : ∃ wz, w6.alloc (.cells F 37) = wz := ⟨_, rfl⟩
    have B7 := Lib.hid (show Below w.heap.size w w7 from by rw [← hw7]; exact (below_on B5.out hb6).alloc (below_on B5.out hb6).size _)
    clear hb6 hF X5 B5 HB5 c0 kc
    go_wp2
    try rw [hw7]
    go_ret
    exact ⟨rfl, B7.out⟩

theorem puts_row : Rows.MessagePutsSaid :=
  OpenClaim.holds_of_wide 3 Tryz.f3 rfl rfl rfl rfl rfl rfl rfl ⟨rfl, rfl, rfl, rfl, rfl⟩ rfl rfl rfl rfl rfl (by kernel_rfl) Tryz.func3 (by kernel_rfl)
    (of_decide_eq_true (by kernel_rfl)) (by unfold Func.isWrapper; rw [if_neg (of_decide_eq_false (by kernel_rfl))]; exact ⟨rfl, rfl⟩)
    (fun os started H enc _ => lift (C := Tryz.checked) (s := Rows.messagePutsSpec) (conds := Rows.messagePutsRow.domain) os started H enc prog_own (by kernel_rfl) Tryz.func3 prog_laid rfl Tryz.underlying4 rfl
      (fun ds hl => by
        have hl : ds.length = 1 := hl
        match ds, hl with
        | [_], _ => rfl)
      (of_decide_eq_true (by kernel_rfl))
      (ChangeSpec.witness6 (enc := enc) (C := Tryz.checked) false ⟨#[], #[.agg #[.int .u8 0, .int .u32 0, .int .u32 0, .int .u64 0, .int .u8 0, .int .u32 0, .string ⟨#[]⟩, .string ⟨#[]⟩, .int .u8 0, .int .u8 0, .bool false, .int .u8 0, .int .u16 0, .slice none 0 0, .int .u32 0, .slice none 0 0, .int .u16 0, .int .u16 0, .slice none 0 0, .slice none 0 0, .slice none 0 0, .int .u32 0, .int .u32 0, .slice none 0 0, .int .u64 0, .slice none 0 0, .slice none 0 0, .slice none 0 0]], []⟩ 8 (by kernel_rfl) (by kernel_rfl) (by kernel_rfl) (by kernel_rfl))
      (fun W base args ds p g => by
        rw [Tryz.params3] at g
        obtain ⟨m, e0, hm⟩ := g.msg 0 rfl
        rw [args1 g.count e0]
        exact puts_walk m W hm))
end Go.Proofs.YtemnmjfeljipjaaGreat
