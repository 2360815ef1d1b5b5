/-
  MessageKinds holds: of a kind that isn't there nothing is written, and nothing read.
-/
import Derived.Test.YtkhcoinpplpomaaRows
import Derived.Test.YtkhcoinpplpomaaNu
import Derived.Test.YtkhcoinpplpomaaMy
import Derived.Test.YtkhcoinpplpomaaSp
import Derived.Test.YtkhcoinpplpomaaMz
namespace Go.Proofs.Ytkhcoinpplpomaa
open Go.ChangeShapes Go.WideShapes Go.ChangeAt Go.RowKit

theorem wp_load_any {P : Program} {ops : Array Oper} {rest : List Oper} {o : Oper} {act : Act} {Q : Exit → Act → World → Prop} (w : World) (hw : Region.wanted o (yielded ops act.tmps) = true) (ty : TypeId) (x : Operand) (hop : o.op = .load ty x) (g : Nat) (t : TypeId) (cs : Array Value) (d : TypeDesc)
    (hx : act.eval x = .pointer (some ⟨g, 0, none⟩)) (hb : w.heap[g]? = some (.cells cs t (0, 0))) (hu : P.underlying ty = some d) (hd : (match d with | .struct _ | .array _ _ => true | _ => false) = true) (hi : (P.info? ty).map (·.size) = some cs.size)
    (K : wpList P ops Q rest (act.put o.dst (.agg cs)) w) : wpList P ops Q (o :: rest) act w := by
  refine BigFrame.wpList_want hw fun K' hK => ?_
  have hl := run_loadVar_row (P := P) w g t ty cs (0, 0) d hb hu hd hi
  unfold Oper.wp execOp
  simp only [hop, hx, Instr.loadAt, Instr.sureAddr, Sem.run_bind, Sem.run_pure, Result.andThen_ok, hl]
  exact hK _ _ K

set_option maxRecDepth 100000 in
set_option maxHeartbeats 6400000 in
theorem kinds_walk (m : MsgL) (a : Option Addr) (n c : Nat) (bs : List Nat) (w : World) (hm : m.In (· < w.heap.size) w) (hb : BReads w a n c bs) :
    Calls Try.prog 5 #[.agg m.cells.toArray, .slice a n c] w fun e w' => e = .returned (.bool true) ∧ Below w.heap.size w w' := by
  obtain ⟨M, hM⟩ : ∃ M, m.cells.toArray = M := ⟨_, rfl⟩
  obtain ⟨Z, hZ⟩ : ∃ Z, (zeroL 0).cells.toArray = Z := ⟨_, rfl⟩
  have hz := msg_zero
  rw [hZ] at hz
  have hb1 : (Z = #[]) = False := by
    rw [← hZ]
    simp [MsgL.cells]
  have hb4 : Z.size = 28 := by
    rw [← hZ]
    rfl
  have hM28 : M.size = 28 := by
    rw [← hM]
    rfl
  have hinfoM : (Try.prog.info? 38).map (·.size) = some M.size := by
    rw [hM28]
    kernel_rfl
  have hinfoZ : (Try.prog.info? 38).map (·.size) = some Z.size := by
    rw [hb4]
    kernel_rfl
  rw [hM]
  obtain ⟨w1, hw1⟩ : ∃ w1, w.alloc (.cells M 38) = w1 := ⟨_, rfl⟩
  have X1 := Lib.hid (show Blk w1 w.heap.size 38 m.cells from by rw [← hw1, ← hM]; exact Blk.new w 38 m.cells.toArray)
  have B1 := Lib.hid (show Below w.heap.size w w1 from by rw [← hw1]; exact (Below.refl _ _).alloc (Nat.le_refl _) _)
  have HMM := Lib.hid hM
  have HZ := Lib.hid hZ
  have hl1 := X1.out.lt
  have HM := Lib.hid hm
  clear hM hZ hm
  have HBB := Lib.hid hb
  have hk255 := HM.out.hkind
  clear hb
  go_enter Try.func5, Try.ntmps5
  go_wp2_with (fail)
  try rw [hw1]
  clear hw1
  refine (alive6 w1).mono ?_
  rintro e w2 ⟨rfl, hb⟩
  have X2 := Lib.hid ((Kept.of_below (F := []) hb (Nat.le_refl _)).blk X1.out (by simp))
  have B2 := Lib.hid (below_on B1.out hb)
  have hs2 := hb.size
  have HB2 : w2.heap[w.heap.size]? = some (.cells M 38 (0, 0)) := by
    rw [← HMM.out]
    exact X2.out
  clear hb X1 B1
  go_wp2_with (refine wp_load_any w2 (by rfl) 38 (.tmp 2) rfl w.heap.size 38 M _ (by rfl) HB2 Try.underlying38 rfl hinfoM ?_)
  rw [← HMM.out]
  refine (great_msg m w2 (HM.out.under B2.out)).mono ?_
  rintro e w3 ⟨⟨g, rfl⟩, hb3⟩
  rw [HMM.out]
  have X3 := Lib.hid ((Kept.of_below (F := []) hb3 (Nat.le_refl _)).blk X2.out (by simp))
  have B3 := Lib.hid (below_on B2.out hb3)
  have hs3 := hb3.size
  have HB3 : w3.heap[w.heap.size]? = some (.cells M 38 (0, 0)) := by
    rw [← HMM.out]
    exact X3.out
  have c0 : w3.cell? ⟨w.heap.size, 0, none⟩ = some (.int .u8 (m.kind : Int)) := X3.out.cell 0
  have hl3 := X3.out.lt
  clear hb3 X2 B2 HB2
  cases g
  · by_cases h1 : 1 ≤ m.kind
    · have h1' : (1 : Int) ≤ (m.kind : Int) := by omega
      by_cases h2 : m.kind ≤ 24
      · have h2' : (m.kind : Int) ≤ 24 := by omega
        go_wp2
        go_ret
        exact ⟨rfl, B3.out⟩
      · have h2' : ¬ (m.kind : Int) ≤ 24 := by omega
        have HK := Lib.hid (show m.kind = 0 ∨ 24 < m.kind from by omega)
        have hf0 : (fldsM m.kind).length = 0 := by rw [fldsM, form_none2 _ HK.out]; rfl
        have NOFIT := Lib.hid (show ¬ fitM m.toM from fun hh => ((fitM_iff _).1 hh).1 hf0)
        have NOREAD := Lib.hid (readM_none m.kind bs hf0)
        clear hf0
        go_wp2_with (refine wp_load_any w3 (by rfl) 38 (.tmp 2) rfl w.heap.size 38 M _ (by rfl) HB3 Try.underlying38 rfl hinfoM ?_)
        rw [← HMM.out]
        refine (mput_any m w3 (HM.out.under B3.out)).mono ?_
        rintro e w4 hp
        obtain ⟨hb4, rfl⟩ := hp.bad NOFIT.out
        rw [HMM.out]
        have X4 := Lib.hid ((Kept.of_below (F := []) hb4 (Nat.le_refl _)).blk X3.out (by simp))
        have B4 := Lib.hid (below_on B3.out hb4)
        have hs4 := hb4.size
        have c4 : w4.cell? ⟨w.heap.size, 0, none⟩ = some (.int .u8 (m.kind : Int)) := X4.out.cell 0
        have hl4 := X4.out.lt
        clear hp hb4 X3 B3 HB3 c0
        go_wp2_with (fail)
        refine (mget_any m.kind hk255 a n c bs w4 (HBB.out.below (Nat.le_refl _) B4.out)).mono ?_
        rintro e w5 hp
        obtain ⟨hb5, _, rfl⟩ := hp.bad NOREAD.out
        have B5 := Lib.hid (below_on B4.out hb5)
        have hs5 := hb5.size
        have hst5 := msg_store_new w5 Z (zeroL 0) (by rw [← HZ.out]; rfl)
        rw [HZ.out] at hst5 ⊢
        obtain ⟨w6, hw6⟩ : ∃ w6, w5.alloc (.cells Z 38) = w6 := ⟨_, rfl⟩
        rw [hw6] at hst5
        have B6 := Lib.hid (show Below w.heap.size w w6 from by rw [← hw6]; exact B5.out.alloc B5.out.size _)
        have HB6 : w6.heap[w5.heap.size]? = some (.cells Z 38 (0, 0)) := by
          rw [← hw6]
          exact heap_alloc_new w5 _
        have hl6 : w5.heap.size < w6.heap.size := by rw [← hw6]; simp
        clear hp hb5 X4 B4 B5 c4
        go_wp2_with (refine wp_load_any w6 (by rfl) 38 (.tmp 7) rfl w5.heap.size 38 Z _ (by rfl) HB6 Try.underlying38 rfl hinfoZ ?_)
        try rw [← HZ.out]
        refine (sameMsg (zeroL 0) (zeroL 0) w6 (zeroL_in (· < w6.heap.size) w6 0 (by decide)) (zeroL_in (· < w6.heap.size) w6 0 (by decide))).mono ?_
        rintro e w7 ⟨z, rfl, hz7, hb7⟩
        obtain rfl : z = true := hz7.2 rfl
        have B7 := Lib.hid (below_on B6.out hb7)
        clear hz7 hb7
        go_wp2
        go_ret
        exact ⟨rfl, B7.out⟩
    · have h1' : ¬ (1 : Int) ≤ (m.kind : Int) := by omega
      have HK := Lib.hid (show m.kind = 0 ∨ 24 < m.kind from by omega)
      have hf0 : (fldsM m.kind).length = 0 := by rw [fldsM, form_none2 _ HK.out]; rfl
      have NOFIT := Lib.hid (show ¬ fitM m.toM from fun hh => ((fitM_iff _).1 hh).1 hf0)
      have NOREAD := Lib.hid (readM_none m.kind bs hf0)
      clear hf0
      go_wp2_with (refine wp_load_any w3 (by rfl) 38 (.tmp 2) rfl w.heap.size 38 M _ (by rfl) HB3 Try.underlying38 rfl hinfoM ?_)
      rw [← HMM.out]
      refine (mput_any m w3 (HM.out.under B3.out)).mono ?_
      rintro e w4 hp
      obtain ⟨hb4, rfl⟩ := hp.bad NOFIT.out
      rw [HMM.out]
      have X4 := Lib.hid ((Kept.of_below (F := []) hb4 (Nat.le_refl _)).blk X3.out (by simp))
      have B4 := Lib.hid (below_on B3.out hb4)
      have hs4 := hb4.size
      have c4 : w4.cell? ⟨w.heap.size, 0, none⟩ = some (.int .u8 (m.kind : Int)) := X4.out.cell 0
      have hl4 := X4.out.lt
      clear hp hb4 X3 B3 HB3 c0
      go_wp2_with (fail)
      refine (mget_any m.kind hk255 a n c bs w4 (HBB.out.below (Nat.le_refl _) B4.out)).mono ?_
      rintro e w5 hp
      obtain ⟨hb5, _, rfl⟩ := hp.bad NOREAD.out
      have B5 := Lib.hid (below_on B4.out hb5)
      have hs5 := hb5.size
      have hst5 := msg_store_new w5 Z (zeroL 0) (by rw [← HZ.out]; rfl)
      rw [HZ.out] at hst5 ⊢
      obtain ⟨w6, hw6⟩ : ∃ w6, w5.alloc (.cells Z 38) = w6 := ⟨_, rfl⟩
      rw [hw6] at hst5
      have B6 := Lib.hid (show Below w.heap.size w w6 from by rw [← hw6]; exact B5.out.alloc B5.out.size _)
      have HB6 : w6.heap[w5.heap.size]? = some (.cells Z 38 (0, 0)) := by
        rw [← hw6]
        exact heap_alloc_new w5 _
      have hl6 : w5.heap.size < w6.heap.size := by rw [← hw6]; simp
      clear hp hb5 X4 B4 B5 c4
      go_wp2_with (refine wp_load_any w6 (by rfl) 38 (.tmp 7) rfl w5.heap.size 38 Z _ (by rfl) HB6 Try.underlying38 rfl hinfoZ ?_)
      try rw [← HZ.out]
      refine (sameMsg (zeroL 0) (zeroL 0) w6 (zeroL_in (· < w6.heap.size) w6 0 (by decide)) (zeroL_in (· < w6.heap.size) w6 0 (by decide))).mono ?_
      rintro e w7 ⟨z, rfl, hz7, hb7⟩
      obtain rfl : z = true := hz7.2 rfl
      have B7 := Lib.hid (below_on B6.out hb7)
      clear hz7 hb7
      go_wp2
      go_ret
      exact ⟨rfl, B7.out⟩
  · go_wp2
    go_ret
    exact ⟨rfl, B3.out⟩

theorem kinds_row : Rows.MessageKindsSaid :=
  OpenClaim.holds_of_wide 5 Try.f5 rfl rfl rfl rfl rfl rfl rfl ⟨rfl, rfl, rfl, rfl, rfl⟩ rfl rfl rfl rfl rfl (by kernel_rfl) Try.func5 (by kernel_rfl)
    (of_decide_eq_true (by kernel_rfl)) (by unfold Func.isWrapper; rw [if_neg (of_decide_eq_false (by kernel_rfl))]; exact ⟨rfl, rfl⟩)
    (fun os started H enc _ => lift (C := Try.checked) (s := Rows.messageKindsSpec) (conds := Rows.messageKindsRow.domain) os started H enc prog_own (by kernel_rfl) Try.func5 prog_laid rfl Try.underlying4 rfl
      (fun ds hl => by
        have hl : ds.length = 2 := hl
        match ds, hl with
        | [_, _], _ => rfl)
      (of_decide_eq_true (by kernel_rfl))
      (ChangeSpec.witness6 (enc := enc) (C := Try.checked) false ⟨#[], #[.agg #[.int .u8 0, .int .u32 0, .int .u32 0, .int .u64 0, .int .u8 0, .int .u32 0, .string ⟨#[]⟩, .string ⟨#[]⟩, .int .u8 0, .int .u8 0, .bool false, .int .u8 0, .int .u16 0, .slice none 0 0, .int .u32 0, .slice none 0 0, .int .u16 0, .int .u16 0, .slice none 0 0, .slice none 0 0, .slice none 0 0, .int .u32 0, .int .u32 0, .slice none 0 0, .int .u64 0, .slice none 0 0, .slice none 0 0, .slice none 0 0], .slice none 0 0], []⟩ 8 (by kernel_rfl) (by kernel_rfl) (by kernel_rfl) (by kernel_rfl))
      (fun W base args ds p g => by
        rw [Try.params5] at g
        obtain ⟨m, e0, hm⟩ := g.msg 0 rfl
        obtain ⟨a, n, c, bs, e1, hb, _⟩ := g.bytes 1 rfl Try.underlying22 Try.underlying5 (by kernel_rfl) (by kernel_rfl)
        rw [args2 g.count e0 e1]
        exact kinds_walk m a n c bs W hm hb))
end Go.Proofs.Ytkhcoinpplpomaa
