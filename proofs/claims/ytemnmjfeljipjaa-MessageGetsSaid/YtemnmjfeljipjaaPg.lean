/-
  MessageGets holds: what any bytes are read as, as a message of any kind, is the document's, with its error; what was taken is written as just these bytes.
-/
import Derived.Test.YtemnmjfeljipjaaRows
import Derived.Test.YtemnmjfeljipjaaNu
import Derived.Test.YtemnmjfeljipjaaSp
import Derived.Test.YtemnmjfeljipjaaMz
import Derived.Test.YtemnmjfeljipjaaKr
namespace Go.Proofs.Ytemnmjfeljipjaa
open Go.ChangeShapes Go.WideShapes Go.ChangeAt Go.RowKit

theorem wp_load_g {P : Program} {ops : Array Oper} {rest : List Oper} {o : Oper} {act : Act} {Q : Exit → Act → World → Prop} (w : World) (hw : Region.wanted o (yielded ops act.tmps) = true) (ty : TypeId) (x : Operand) (hop : o.op = .load ty x) (g : Nat) (t : TypeId) (cs : Array Value) (d : TypeDesc)
    (hx : act.eval x = .pointer (some ⟨g, 0, none⟩)) (hb : w.heap[g]? = some (.cells cs t (0, 0))) (hu : P.underlying ty = some d) (hd : (match d with | .struct _ | .array _ _ => true | _ => false) = true) (hi : (P.info? ty).map (·.size) = some cs.size)
    (K : wpList P ops Q rest (act.put o.dst (.agg cs)) w) : wpList P ops Q (o :: rest) act w := by
  refine BigFrame.wpList_want hw fun K' hK => ?_
  have hl := run_loadVar_row (P := P) w g t ty cs (0, 0) d hb hu hd hi
  unfold Oper.wp execOp
  simp only [hop, hx, Instr.loadAt, Instr.sureAddr, Sem.run_bind, Sem.run_pure, Result.andThen_ok, hl]
  exact hK _ _ K
theorem zero_unfit : ¬ fitM (zeroL 0).toM := fun h => by
  have := ((fitM_iff _).1 h).1
  exact this (by
    show ((formM 0).getD []).length = 0
    rw [form_none2 _ (.inl rfl)]
    rfl)

set_option maxRecDepth 100000 in
set_option maxHeartbeats 12800000 in
theorem gets_walk (k : Nat) (hk : k ≤ 255) (a : Option Addr) (n c : Nat) (bs : List Nat) (w : World) (hb : BReads w a n c bs) :
    Calls Try.prog 3 #[.int .u8 (k : Int), .slice a n c] w fun e w' => e = .returned (.bool true) ∧ Below w.heap.size w w' := by
  obtain ⟨Z, hZ⟩ : ∃ Z, (zeroL 0).cells.toArray = Z := ⟨_, rfl⟩
  have hz := msg_zero
  rw [hZ] at hz
  have hb1 : (Z = #[]) = False := by
    rw [← hZ]
    simp [MsgL.cells]
  have hb4 : Z.size = 28 := by
    rw [← hZ]
    rfl
  clear hZ
  have HBB := Lib.hid hb
  clear hb
  go_enter Try.func3, Try.ntmps3
  go_wp2_with (fail)
  refine (alive6 w).mono ?_
  rintro e w2 ⟨rfl, hb⟩
  have B2 := Lib.hid hb
  have hs2 := hb.size
  clear hb
  by_cases h1 : 20000 < n
  · have hnb : decide ((20000 : Int) < (n : Int)) = true := decide_eq_true (by omega)
    go_wp2
    go_ret
    exact ⟨rfl, B2.out⟩
  have hnb : decide ((20000 : Int) < (n : Int)) = false := decide_eq_false (by omega)
  have R2 := Lib.hid (HBB.out.on B2.out)
  go_wp2_with (fail)
  refine (mget_any k hk a n c bs w2 R2.out).mono ?_
  rintro e w3 ⟨hb3, y, er, rfl, hyi, hre⟩
  have Y3 := Lib.hid hyi.lt
  have B3 := Lib.hid (below_on B2.out hb3)
  have R3 := Lib.hid (R2.out.on hb3)
  have RE := Lib.hid hre
  obtain ⟨F, hF⟩ : ∃ F, y.cells.toArray = F := ⟨_, rfl⟩
  have hst := msg_store_new w3 Z y hb4
  rw [hF] at hst ⊢
  have hF28 : F.size = 28 := by rw [← hF]; rfl
  have hinfoF : (Try.prog.info? 38).map (·.size) = some F.size := by
    rw [hF28]
    kernel_rfl
  have HFF := Lib.hid hF
  obtain ⟨w4, hw4⟩ : ∃ wz, w3.alloc (.cells F 38) = wz := ⟨_, rfl⟩
  have k34 : Below w3.heap.size w3 w4 := by rw [← hw4]; exact (Below.refl _ _).alloc (Nat.le_refl _) _
  have X4 := Lib.hid (show Blk w4 w3.heap.size 38 y.cells from by rw [← hw4, ← hF]; exact Blk.new w3 38 y.cells.toArray)
  have B4 := Lib.hid (below_on B3.out k34)
  have R4 := Lib.hid (R3.out.on k34)
  have Y4 := Lib.hid (Y3.out.under k34)
  have hs4 := X4.out.lt
  clear hb3 hyi hre hF k34 B3 R3 Y3 R2 B2
  go_wp2_with (fail)
  try rw [hw4]
  clear hw4 hst
  refine (rread_any k hk a n c bs w4 R4.out).mono ?_
  rintro e w5 ⟨hb5, y2, er2, rfl, hyi2, hre2⟩
  obtain ⟨rfl, HSAME⟩ : er2 = er ∧ Hid (y.toM = y2.toM) := by
    rcases RE.out with ⟨h1, h2⟩ | ⟨h1, h2, rfl⟩ <;> rcases hre2 with ⟨h3, h4⟩ | ⟨h3, h4, rfl⟩
    · rw [h2] at h4
      exact ⟨by omega, Sum.inl.inj h4⟩
    · rw [h2] at h4
      cases h4
    · rw [h2] at h4
      cases h4
    · rw [h2] at h4
      exact ⟨(Sum.inr.inj h4).symm, rfl⟩
  have Y5 := Lib.hid hyi2.lt
  obtain ⟨G, hG⟩ : ∃ G, y2.cells.toArray = G := ⟨_, rfl⟩
  have hst5 := msg_store_new w5 Z y2 hb4
  rw [hG] at hst5 ⊢
  have hG28 : G.size = 28 := by rw [← hG]; rfl
  have hinfoG : (Try.prog.info? 38).map (·.size) = some G.size := by
    rw [hG28]
    kernel_rfl
  have HGG := Lib.hid hG
  obtain ⟨w6, hw6⟩ : ∃ wz, w5.alloc (.cells G 38) = wz := ⟨_, rfl⟩
  have k56 : Below w5.heap.size w5 w6 := by rw [← hw6]; exact (Below.refl _ _).alloc (Nat.le_refl _) _
  have k46 := below_on hb5 k56
  have X6 := Lib.hid ((Kept.of_below (F := []) k46 (Nat.le_refl _)).blk X4.out (by simp))
  have HBG : w6.heap[w5.heap.size]? = some (.cells G 38 (0, 0)) := by
    rw [← hw6]
    exact heap_alloc_new w5 _
  have HBF : w6.heap[w3.heap.size]? = some (.cells F 38 (0, 0)) := by
    rw [← HFF.out]
    exact X6.out
  have B6 := Lib.hid (below_on B4.out k46)
  have R6 := Lib.hid (R4.out.on k46)
  have Y6 := Lib.hid (Y4.out.under (k46.mono (Nat.le_of_lt hs4)))
  have V6 := Lib.hid (Y5.out.under k56)
  have hs5 := hb5.size
  have hs6 : w5.heap.size < w6.heap.size := by rw [← hw6]; simp
  clear hb5 hyi2 hre2 hG k56 k46 B4 R4 Y4 Y5 X4
  go_wp2_with (first | (refine wp_load_g w6 (by rfl) 38 (.tmp 5) rfl w3.heap.size 38 F _ (by rfl) HBF Try.underlying38 rfl hinfoF ?_) | (refine wp_load_g w6 (by rfl) 38 (.tmp 7) rfl w5.heap.size 38 G _ (by rfl) HBG Try.underlying38 rfl hinfoG ?_))
  try rw [hw6]
  clear hst5 hw6
  rw [← HFF.out, ← HGG.out]
  refine (sameMsg y y2 w6 Y6.out V6.out).mono ?_
  rintro e w7 ⟨z, rfl, hz7, hb7⟩
  obtain rfl : z = true := hz7.2 HSAME.out
  rw [HFF.out]
  have X7 := Lib.hid ((Kept.of_below (F := []) hb7 (Nat.le_refl _)).blk X6.out (by simp))
  have HBF7 : w7.heap[w3.heap.size]? = some (.cells F 38 (0, 0)) := by
    rw [← HFF.out]
    exact X7.out
  have B7 := Lib.hid (below_on B6.out hb7)
  have R7 := Lib.hid (R6.out.on hb7)
  have Y7 := Lib.hid (Y6.out.under (hb7.mono (by omega)))
  clear hz7 hb7 HBG HBF B6 R6 Y6 V6 X6
  go_wp2_with (refine wp_load_g w7 (by rfl) 38 (.tmp 5) rfl w3.heap.size 38 F _ (by rfl) HBF7 Try.underlying38 rfl hinfoF ?_)
  rw [← HFF.out]
  refine (mput_any y w7 Y7.out).mono ?_
  rintro e w8 hp
  rw [HFF.out]
  by_cases he0 : er2 = 0
  · subst he0
    have OK := Lib.hid (show readM k bs = .inl y.toM from by
      rcases RE.out with ⟨_, h⟩ | ⟨h, _⟩
      · exact h
      · exact absurd rfl h)
    obtain ⟨_, hfit, hbm⟩ := readM_only k bs y.toM HBB.out.byte OK.out
    obtain ⟨hb8, v, rfl, ho⟩ := hp.good hfit
    rw [hbm] at ho
    have hnl := HBB.out.len
    obtain ⟨va, vc, rfl, hvr, _⟩ := ho.reads (by omega)
    rw [hnl] at hvr ⊢
    obtain ⟨S, hS⟩ : ∃ S, strOfB bs = S := ⟨_, rfl⟩
    have B8 := Lib.hid (below_on B7.out hb8)
    have R8 := Lib.hid (R7.out.on hb8)
    have kc : (convert 22 9 (.slice va n vc)).run Try.prog w8 = .ok (.string S) w8 := by
      rw [← hS]
      exact hvr.str 22 5 Try.underlying22 Try.underlying5 9 Try.underlying9
    have kd : (convert 22 9 (.slice a n c)).run Try.prog w8 = .ok (.string S) w8 := by
      rw [← hS]
      exact R8.out.str 22 5 Try.underlying22 Try.underlying5 9 Try.underlying9
    clear hp ho hvr hb8 hfit hbm hnl hS B7 R7 Y7 X7 HBF7
    go_wp2
    go_ret
    exact ⟨rfl, B8.out⟩
  · have he0b : ((er2 : Int) != 0) = true := by simp; omega
    have NOFIT := Lib.hid (show ¬ fitM y.toM from by
      rcases RE.out with ⟨h, _⟩ | ⟨_, _, rfl⟩
      · exact absurd h he0
      · exact zero_unfit)
    obtain ⟨hB8, rfl⟩ := hp.bad NOFIT.out
    have B8 := Lib.hid (below_on B7.out hB8)
    clear hp hB8 B7 R7 Y7 X7 HBF7
    go_wp2
    go_ret
    exact ⟨rfl, B8.out⟩

theorem gets_row : Rows.MessageGetsSaid :=
  OpenClaim.holds_of_wide 3 Try.f3 rfl rfl rfl rfl rfl rfl rfl ⟨rfl, rfl, rfl, rfl, rfl⟩ rfl rfl rfl rfl rfl (by kernel_rfl) Try.func3 (by kernel_rfl)
    (of_decide_eq_true (by kernel_rfl)) (by unfold Func.isWrapper; rw [if_neg (of_decide_eq_false (by kernel_rfl))]; exact ⟨rfl, rfl⟩)
    (fun os started H enc _ => lift (C := Try.checked) (s := Rows.messageGetsSpec) (conds := Rows.messageGetsRow.domain) os started H enc prog_own (by kernel_rfl) Try.func3 prog_laid rfl Try.underlying4 rfl
      (fun ds hl => by
        have hl : ds.length = 2 := hl
        match ds, hl with
        | [_, _], _ => rfl)
      (of_decide_eq_true (by kernel_rfl))
      (ChangeSpec.witness6 (enc := enc) (C := Try.checked) false ⟨#[], #[.int .u8 0, .slice none 0 0], []⟩ 8 (by kernel_rfl) (by kernel_rfl) (by kernel_rfl) (by kernel_rfl))
      (fun W base args ds p g => by
        rw [Try.params3] at g
        obtain ⟨k, e0, hk⟩ := g.u8 0 rfl Try.underlying5
        obtain ⟨a, n, c, bs, e1, hb, _⟩ := g.bytes 1 rfl Try.underlying22 Try.underlying5 (by kernel_rfl) (by kernel_rfl)
        rw [args2 g.count e0 e1]
        exact gets_walk k (by omega) a n c bs W hb))
end Go.Proofs.Ytemnmjfeljipjaa
