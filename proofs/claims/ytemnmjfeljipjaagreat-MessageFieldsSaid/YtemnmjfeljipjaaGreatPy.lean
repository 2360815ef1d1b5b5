/-
  MessageFields holds: a message that has more than its kind's fields isn't written; with just these it is, if they are small enough.
-/
import Derived.Test.YtemnmjfeljipjaaGreatRows
import Derived.Test.YtemnmjfeljipjaaGreatNu
import Derived.Test.YtemnmjfeljipjaaGreatMy
import Derived.Test.YtemnmjfeljipjaaGreatMw
import Derived.Test.YtemnmjfeljipjaaGreatMz
import Derived.Test.YtemnmjfeljipjaaGreatMx
namespace Go.Proofs.YtemnmjfeljipjaaGreat
open Go.ChangeShapes Go.WideShapes Go.ChangeAt Go.RowKit

theorem wp_load_f {P : Program} {ops : Array Oper} {rest : List Oper} {o : Oper} {act : Act} {Q : Exit → Act → World → Prop} (w : World) (hw : Region.wanted o (yielded ops act.tmps) = true) (ty : TypeId) (x : Operand) (hop : o.op = .load ty x) (g : Nat) (t : TypeId) (cs : Array Value) (d : TypeDesc)
    (hx : act.eval x = .pointer (some ⟨g, 0, none⟩)) (hb : w.heap[g]? = some (.cells cs t (0, 0))) (hu : P.underlying ty = some d) (hd : (match d with | .struct _ | .array _ _ => true | _ => false) = true) (hi : (P.info? ty).map (·.size) = some cs.size)
    (K : wpList P ops Q rest (act.put o.dst (.agg cs)) w) : wpList P ops Q (o :: rest) act w := by
  refine BigFrame.wpList_want hw fun K' hK => ?_
  have hl := run_loadVar_row (P := P) w g t ty cs (0, 0) d hb hu hd hi
  unfold Oper.wp execOp
  simp only [hop, hx, Instr.loadAt, Instr.sureAddr, Sem.run_bind, Sem.run_pure, Result.andThen_ok, hl]
  exact hK _ _ K
theorem only_req (k : Nat) (h : k = 7) (m : MsgV) : (setF ((formM k).getD []) (zeroM k) m).req = 0 := by
  subst h
  rfl
theorem only_caps (k : Nat) (h : 11 ≤ k ∧ k ≤ 24) (m : MsgV) : (setF ((formM k).getD []) (zeroM k) m).caps = 0 := by
  rcases (by omega : k = 11 ∨ k = 12 ∨ k = 13 ∨ k = 14 ∨ k = 15 ∨ k = 16 ∨ k = 17 ∨ k = 18 ∨ k = 19 ∨ k = 20 ∨ k = 21 ∨ k = 22 ∨ k = 23 ∨ k = 24) with rfl | rfl | rfl | rfl | rfl | rfl | rfl | rfl | rfl | rfl | rfl | rfl | rfl | rfl <;> rfl
theorem only_page (k : Nat) (h : 1 ≤ k ∧ k ≤ 10) (m : MsgV) : (setF ((formM k).getD []) (zeroM k) m).page = 0 := by
  rcases (by omega : k = 1 ∨ k = 2 ∨ k = 3 ∨ k = 4 ∨ k = 5 ∨ k = 6 ∨ k = 7 ∨ k = 8 ∨ k = 9 ∨ k = 10) with rfl | rfl | rfl | rfl | rfl | rfl | rfl | rfl | rfl | rfl <;> rfl
/-- One field more, which is none of the kind's. -/
theorem fit_one_more (get : MsgV → Nat) (y z : MsgL) (k n : Nat) (h0 : ∀ m, get (setF ((formM k).getD []) (zeroM k) m) = 0) (he : n = 0 → z = y) (hz : get z.toM = n) (hk : z.toM.kind = k) : fitM z.toM ↔ fitM y.toM ∧ n = 0 := by
  constructor
  · rintro ⟨fs, h1, h2, h3⟩
    rw [hk] at h1 h2
    have h4 := h0 z.toM
    rw [h1] at h4
    have h5 : get z.toM = get (setF fs (zeroM k) z.toM) := congrArg get h2
    have hn : n = 0 := by
      rw [← hz, h5]
      exact h4
    have := he hn
    rw [← this]
    exact ⟨⟨fs, by rw [hk]; exact h1, by rw [hk]; exact h2, h3⟩, hn⟩
  · rintro ⟨h1, h2⟩
    rw [he h2]
    exact h1

set_option maxRecDepth 100000 in
set_option maxHeartbeats 25600000 in
theorem fields_walk (m : MsgL) (n : Nat) (hn : n ≤ 4294967295) (w : World) (hm : m.In (· < w.heap.size) w) :
    Calls Tryz.prog 5 #[.agg m.cells.toArray, .int .u32 (n : Int)] w fun e w' => e = .returned (.bool true) ∧ Below w.heap.size w w' := by
  obtain ⟨M, hM⟩ : ∃ M, m.cells.toArray = M := ⟨_, rfl⟩
  obtain ⟨Z, hZ⟩ : ∃ Z, (zeroL 0).cells.toArray = Z := ⟨_, rfl⟩
  have hz := msg_zero
  rw [hZ] at hz
  have hb1 : (Z = #[]) = False := by
    rw [← hZ]
    simp [MsgL.cells]
  have hb4 : Z.size = 28 := by
    rw [← hZ]
    rfl
  have hM28 : M.size = 28 := by
    rw [← hM]
    rfl
  have hinfoM : (Tryz.prog.info? 37).map (·.size) = some M.size := by
    rw [hM28]
    kernel_rfl
  have hinfoZ : (Tryz.prog.info? 37).map (·.size) = some Z.size := by
    rw [hb4]
    kernel_rfl
  rw [hM]
  obtain ⟨w1, hw1⟩ : ∃ w1, w.alloc (.cells M 37) = w1 := ⟨_, rfl⟩
  have X1 := Lib.hid (show Blk w1 w.heap.size 37 m.cells from by rw [← hw1, ← hM]; exact Blk.new w 37 m.cells.toArray)
  have B1 := Lib.hid (show Below w.heap.size w w1 from by rw [← hw1]; exact (Below.refl _ _).alloc (Nat.le_refl _) _)
  have HMM := Lib.hid hM
  have HZ := Lib.hid hZ
  have hl1 := X1.out.lt
  have HM := Lib.hid hm
  clear hM hZ hm
  have hk255 := HM.out.hkind
  go_enter Tryz.func5, Tryz.ntmps5
  go_wp2_with (fail)
  try rw [hw1]
  clear hw1
  refine (alive6 w1).mono ?_
  rintro e w2 ⟨rfl, hb⟩
  have X2 := Lib.hid ((Kept.of_below (F := []) hb (Nat.le_refl _)).blk X1.out (by simp))
  have B2 := Lib.hid (below_on B1.out hb)
  have hs2 := hb.size
  have HB2 : w2.heap[w.heap.size]? = some (.cells M 37 (0, 0)) := by
    rw [← HMM.out]
    exact X2.out
  clear hb X1 B1
  go_wp2_with (refine wp_load_f w2 (by rfl) 37 (.tmp 2) rfl w.heap.size 37 M _ (by rfl) HB2 Tryz.underlying37 rfl hinfoM ?_)
  rw [← HMM.out]
  refine (great_msg m w2 (HM.out.under B2.out)).mono ?_
  rintro e w3 ⟨⟨g, rfl⟩, hb3⟩
  rw [HMM.out]
  have X3 := Lib.hid ((Kept.of_below (F := []) hb3 (Nat.le_refl _)).blk X2.out (by simp))
  have B3 := Lib.hid (below_on B2.out hb3)
  have hs3 := hb3.size
  have HB3 : w3.heap[w.heap.size]? = some (.cells M 37 (0, 0)) := by
    rw [← HMM.out]
    exact X3.out
  clear hb3 X2 B2 HB2
  obtain ⟨k, hk⟩ : ∃ k, m.kind = k := ⟨_, rfl⟩
  have HK := Lib.hid hk
  have d0 : w3.cell? ⟨w.heap.size, 0, none⟩ = some (.int .u8 (k : Int)) := by
    rw [← hk]
    exact X3.out.cell 0
  rw [hk] at hk255
  clear hk
  cases g
  rotate_left
  · go_wp2
    go_ret
    exact ⟨rfl, B3.out⟩
  by_cases hr : 1 ≤ k ∧ k ≤ 24
  rotate_left
  · by_cases hr1 : k < 1
    · have hkb : decide ((k : Int) < 1) = true := decide_eq_true (by omega)
      go_wp2
      go_ret
      exact ⟨rfl, B3.out⟩
    · have hkb : decide ((k : Int) < 1) = false := decide_eq_false (by omega)
      have hkc : decide ((24 : Int) < (k : Int)) = true := decide_eq_true (by omega)
      go_wp2
      go_ret
      exact ⟨rfl, B3.out⟩
  have hkb : decide ((k : Int) < 1) = false := decide_eq_false (by omega)
  have hkc : decide ((24 : Int) < (k : Int)) = false := decide_eq_false (by omega)
  go_wp2_with (refine wp_load_f w3 (by rfl) 37 (.tmp 2) rfl w.heap.size 37 M _ (by rfl) HB3 Tryz.underlying37 rfl hinfoM ?_)
  rw [← HMM.out]
  refine (only_any m w3 (HM.out.under B3.out)).mono ?_
  rintro e w4 ⟨hb4', y, rfl, hyi, hym⟩
  rw [HMM.out]
  have HYM := Lib.hid (show y.toM = setF ((formM k).getD []) (zeroM k) m.toM from by rw [hym, show m.kind = k from HK.out])
  obtain ⟨Y, hY⟩ : ∃ Y, y.cells.toArray = Y := ⟨_, rfl⟩
  have hst := msg_store_new w4 Z y (by rw [← HZ.out]; rfl)
  rw [hY] at hst ⊢
  have HY := Lib.hid hY
  have hY28 : Y.size = 28 := by
    rw [← hY]
    rfl
  have hinfoY : (Tryz.prog.info? 37).map (·.size) = some Y.size := by
    rw [hY28]
    kernel_rfl
  obtain ⟨w5, hw5⟩ : ∃ w5, w4.alloc (.cells Y 37) = w5 := ⟨_, rfl⟩
  have k45 : Below w4.heap.size w4 w5 := by rw [← hw5]; exact (Below.refl _ _).alloc (Nat.le_refl _) _
  have k35 := below_on hb4' k45
  have X5 := Lib.hid ((Kept.of_below (F := []) k35 (Nat.le_refl _)).blk X3.out (by simp))
  have B5 := Lib.hid (below_on B3.out k35)
  have hs5 := k35.size
  have y5 : Blk w5 w4.heap.size 37 y.cells := by rw [← hw5, ← hY]; exact Blk.new w4 37 y.cells.toArray
  have Y5 := Lib.hid y5
  have hyl := y5.lt
  have hw4s := hb4'.size
  have I5 := Lib.hid (hyi.lt.under k45)
  have HB5 : w5.heap[w4.heap.size]? = some (.cells Y 37 (0, 0)) := by
    rw [← HY.out]
    exact y5
  clear hym hY hyi k45 k35 y5 X3 B3 HB3 d0
  go_wp2_with (refine wp_load_f w5 (by rfl) 37 (.tmp 5) rfl w4.heap.size 37 Y _ (by rfl) HB5 Tryz.underlying37 rfl hinfoY ?_)
  try rw [hw5]
  clear hw5 hst
  rw [← HY.out]
  refine (mput_any y w5 I5.out).mono ?_
  rintro e w6 hp
  rw [HY.out]
  obtain ⟨one, v6, hone, rfl, hb6⟩ : ∃ (one : Bool) (v6 : Value), (one = true ↔ fitM y.toM) ∧ e = .returned (.tuple #[v6, .bool one]) ∧ Below w5.heap.size w5 w6 := by
    obtain ⟨hb, ⟨hf, v, rfl, _⟩ | ⟨hf, rfl⟩⟩ := hp
    · exact ⟨true, v, by simp [hf], rfl, hb⟩
    · exact ⟨false, _, by simp [hf], rfl, hb⟩
  have HONE := Lib.hid hone
  have X6 := Lib.hid ((Kept.of_below (F := []) hb6 (Nat.le_refl _)).blk X5.out (by simp))
  have B6 := Lib.hid (below_on B5.out hb6)
  have hs6 := hb6.size
  have Y6 := Lib.hid ((Kept.of_below (F := []) hb6 (Nat.le_refl _)).blk Y5.out (by simp))
  have I6 := Lib.hid (I5.out.under (hb6.mono (by omega)))
  have HB6 : w6.heap[w4.heap.size]? = some (.cells Y 37 (0, 0)) := by
    rw [← HY.out]
    exact Y6.out
  clear hp hone hb6 X5 B5 HB5 Y5 I5
  go_wp2_with (refine wp_load_f w6 (by rfl) 37 (.tmp 5) rfl w4.heap.size 37 Y _ (by rfl) HB6 Tryz.underlying37 rfl hinfoY ?_)
  rw [← HY.out]
  refine (rput_msg y w6 (I6.out.mono (fun k hk _ => by omega))).mono ?_
  rintro e w7 hp
  rw [HY.out]
  obtain ⟨v7, rfl, hb7⟩ : ∃ (v7 : Value), e = .returned (.tuple #[v7, .bool one]) ∧ Below w6.heap.size w6 w7 := by
    obtain ⟨hb, ⟨hf, v, rfl, _⟩ | ⟨hf, rfl⟩⟩ := hp
    · exact ⟨v, by rw [HONE.out.2 hf], hb⟩
    · have : one = false := by
        cases one
        · rfl
        · exact absurd (HONE.out.1 rfl) hf
      exact ⟨_, by rw [this], hb⟩
  have X7 := Lib.hid ((Kept.of_below (F := []) hb7 (Nat.le_refl _)).blk X6.out (by simp))
  have B7 := Lib.hid (below_on B6.out hb7)
  have hs7 := hb7.size
  have Y7 := Lib.hid ((Kept.of_below (F := []) hb7 (Nat.le_refl _)).blk Y6.out (by simp))
  have I7 := Lib.hid (I6.out.under (hb7.mono (by omega)))
  have HB7 : w7.heap[w4.heap.size]? = some (.cells Y 37 (0, 0)) := by
    rw [← HY.out]
    exact Y7.out
  have hst := msg_store_new w7 Z y (by rw [← HZ.out]; rfl)
  rw [HY.out] at hst
  obtain ⟨w8, hw8⟩ : ∃ w8, w7.alloc (.cells Y 37) = w8 := ⟨_, rfl⟩
  have k78 : Below w7.heap.size w7 w8 := by rw [← hw8]; exact (Below.refl _ _).alloc (Nat.le_refl _) _
  have X8 := Lib.hid ((Kept.of_below (F := []) k78 (Nat.le_refl _)).blk X7.out (by simp))
  have B8 := Lib.hid (below_on B7.out k78)
  have hs8 := k78.size
  have z8 : Blk w8 w7.heap.size 37 y.cells := by rw [← hw8, ← HY.out]; exact Blk.new w7 37 y.cells.toArray
  have I8 := Lib.hid (I7.out.under (k78.mono (by omega)))
  have Z8 := Lib.hid z8
  have hzl := z8.lt
  have hz28 : y.cells.length = 28 := rfl
  have e0 : w8.cell? ⟨w.heap.size, 0, none⟩ = some (.int .u8 (k : Int)) := by
    rw [← HK.out]
    exact X8.out.cell 0
  have e1 : w8.cell? ⟨w7.heap.size, 1, none⟩ = some (.int .u32 (y.req : Int)) := z8.cell 1
  have e2 : w8.cell? ⟨w7.heap.size, 2, none⟩ = some (.int .u32 (y.caps : Int)) := z8.cell 2
  have e15 : w8.cell? ⟨w7.heap.size, 22, none⟩ = some (.int .u32 (y.page : Int)) := z8.cell 22
  have g1 := z8.frozen 1
  have g2 := z8.frozen 2
  have g15 := z8.frozen 22
  have hwlt : w.heap.size < w8.heap.size := by omega
  clear hp hb7 k78 z8 X6 B6 HB6 Y6 I6 X7 B7 Y7 I7
  by_cases k7 : k = 7
  · have k7b : ((k : Int) == 7) = true := by simp; omega
    obtain ⟨w9, hw9⟩ : ∃ w9, w8.setCell ⟨w7.heap.size, 1, none⟩ (.int .u32 (n : Int)) = w9 := ⟨_, rfl⟩
    have z9 : Blk w9 w7.heap.size 37 ({ y with req := n } : MsgL).cells := by rw [← hw9]; exact Z8.out.set 1 _
    have k9 : Kept [w7.heap.size] w8 w9 := by rw [← hw9]; exact (Kept.refl _ _).setCell _ _ (.inl (by simp))
    have b9 : Below w7.heap.size w8 w9 := k9.below (by simp) (by omega)
    have I9 := Lib.hid (show ({ y with req := n } : MsgL).In (· < w4.heap.size) w9 from { (I8.out.under (b9.mono (by omega))) with hreq := hn })
    have B9 := Lib.hid (show Below w.heap.size w w9 from B8.out.trans (b9.mono (by omega)))
    have FIT := Lib.hid (show fitM ({ y with req := n } : MsgL).toM ↔ fitM y.toM ∧ n = 0 from fit_one_more (fun v => v.req) y _ k n (only_req k k7) (fun h0 => by
        have hy0 : y.req = 0 := (congrArg (fun v => v.req) HYM.out).trans ((only_req k k7) _)
        rw [h0, ← hy0]) rfl ((congrArg MsgV.kind HYM.out).trans (setF_kind _ _ _)))
    obtain ⟨U, hU⟩ : ∃ U, ({ y with req := n } : MsgL).cells.toArray = U := ⟨_, rfl⟩
    have HU := Lib.hid hU
    have hU28 : U.size = 28 := by
      rw [← hU]
      rfl
    have hinfoU : (Tryz.prog.info? 37).map (·.size) = some U.size := by
      rw [hU28]
      kernel_rfl
    have HB9 : w9.heap[w7.heap.size]? = some (.cells U 37 (0, 0)) := by
      rw [← HU.out]
      exact z9
    clear hU z9 k9 b9 I8 X8 B8 Z8
    go_wp2_with (first | (rw [hw8]) | (rw [hw9]) | (refine wp_load_f w7 (by rfl) 37 (.tmp 5) rfl w4.heap.size 37 Y _ (by rfl) HB7 Tryz.underlying37 rfl hinfoY ?_) | (refine wp_load_f w9 (by rfl) 37 (.tmp 10) rfl w7.heap.size 37 U _ (by rfl) HB9 Tryz.underlying37 rfl hinfoU ?_))
    rw [← HU.out]
    refine (mput_any _ w9 I9.out).mono ?_
    rintro e w10 hp
    obtain ⟨two, v10, htwo, rfl, hb10⟩ : ∃ (two : Bool) (v10 : Value), (two = true ↔ fitM y.toM ∧ n = 0) ∧ e = .returned (.tuple #[v10, .bool two]) ∧ Below w9.heap.size w9 w10 := by
      obtain ⟨hb, ⟨hf, v, rfl, _⟩ | ⟨hf, rfl⟩⟩ := hp
      · exact ⟨true, v, by simp [FIT.out.1 hf], rfl, hb⟩
      · exact ⟨false, _, by
          simp only [Bool.false_eq_true, false_iff]
          exact fun hh => hf (FIT.out.2 hh), rfl, hb⟩
    have B10 := Lib.hid (below_on B9.out hb10)
    have TWO := Lib.hid (show two = (one && decide (n = 0)) from by
      have h1 := HONE.out
      cases two <;> cases one <;> by_cases hn0 : n = 0 <;> simp_all)
    clear hp htwo hb10
    by_cases hn0 : n = 0
    · subst hn0
      have h1 := TWO.out
      simp only [decide_true, Bool.and_true] at h1
      subst h1
      cases two
      · go_wp2
        go_ret
        exact ⟨rfl, B10.out⟩
      · go_wp2
        go_ret
        exact ⟨rfl, B10.out⟩
    · have h1 := TWO.out
      rw [decide_eq_false hn0, Bool.and_false] at h1
      subst h1
      have hn0b : ((n : Int) == 0) = false := by simp; omega
      clear hn0
      cases one
      · go_wp2
        go_ret
        exact ⟨rfl, B10.out⟩
      · go_wp2
        go_ret
        exact ⟨rfl, B10.out⟩
  · have k7b : ((k : Int) == 7) = false := by simp; omega
    by_cases k11 : 11 ≤ k
    · have k11b : decide ((11 : Int) ≤ (k : Int)) = true := decide_eq_true (by omega)
      obtain ⟨w9, hw9⟩ : ∃ w9, w8.setCell ⟨w7.heap.size, 2, none⟩ (.int .u32 (n : Int)) = w9 := ⟨_, rfl⟩
      have z9 : Blk w9 w7.heap.size 37 ({ y with caps := n } : MsgL).cells := by rw [← hw9]; exact Z8.out.set 2 _
      have k9 : Kept [w7.heap.size] w8 w9 := by rw [← hw9]; exact (Kept.refl _ _).setCell _ _ (.inl (by simp))
      have b9 : Below w7.heap.size w8 w9 := k9.below (by simp) (by omega)
      have I9 := Lib.hid (show ({ y with caps := n } : MsgL).In (· < w4.heap.size) w9 from { (I8.out.under (b9.mono (by omega))) with hcaps := hn })
      have B9 := Lib.hid (show Below w.heap.size w w9 from B8.out.trans (b9.mono (by omega)))
      have FIT := Lib.hid (show fitM ({ y with caps := n } : MsgL).toM ↔ fitM y.toM ∧ n = 0 from fit_one_more (fun v => v.caps) y _ k n (only_caps k (by omega)) (fun h0 => by
          have hy0 : y.caps = 0 := (congrArg (fun v => v.caps) HYM.out).trans ((only_caps k (by omega)) _)
          rw [h0, ← hy0]) rfl ((congrArg MsgV.kind HYM.out).trans (setF_kind _ _ _)))
      obtain ⟨U, hU⟩ : ∃ U, ({ y with caps := n } : MsgL).cells.toArray = U := ⟨_, rfl⟩
      have HU := Lib.hid hU
      have hU28 : U.size = 28 := by
        rw [← hU]
        rfl
      have hinfoU : (Tryz.prog.info? 37).map (·.size) = some U.size := by
        rw [hU28]
        kernel_rfl
      have HB9 : w9.heap[w7.heap.size]? = some (.cells U 37 (0, 0)) := by
        rw [← HU.out]
        exact z9
      clear hU z9 k9 b9 I8 X8 B8 Z8
      go_wp2_with (first | (rw [hw8]) | (rw [hw9]) | (refine wp_load_f w7 (by rfl) 37 (.tmp 5) rfl w4.heap.size 37 Y _ (by rfl) HB7 Tryz.underlying37 rfl hinfoY ?_) | (refine wp_load_f w9 (by rfl) 37 (.tmp 10) rfl w7.heap.size 37 U _ (by rfl) HB9 Tryz.underlying37 rfl hinfoU ?_))
      rw [← HU.out]
      refine (mput_any _ w9 I9.out).mono ?_
      rintro e w10 hp
      obtain ⟨two, v10, htwo, rfl, hb10⟩ : ∃ (two : Bool) (v10 : Value), (two = true ↔ fitM y.toM ∧ n = 0) ∧ e = .returned (.tuple #[v10, .bool two]) ∧ Below w9.heap.size w9 w10 := by
        obtain ⟨hb, ⟨hf, v, rfl, _⟩ | ⟨hf, rfl⟩⟩ := hp
        · exact ⟨true, v, by simp [FIT.out.1 hf], rfl, hb⟩
        · exact ⟨false, _, by
            simp only [Bool.false_eq_true, false_iff]
            exact fun hh => hf (FIT.out.2 hh), rfl, hb⟩
      have B10 := Lib.hid (below_on B9.out hb10)
      have TWO := Lib.hid (show two = (one && decide (n = 0)) from by
        have h1 := HONE.out
        cases two <;> cases one <;> by_cases hn0 : n = 0 <;> simp_all)
      clear hp htwo hb10
      by_cases hn0 : n = 0
      · subst hn0
        have h1 := TWO.out
        simp only [decide_true, Bool.and_true] at h1
        subst h1
        cases two
        · go_wp2
          go_ret
          exact ⟨rfl, B10.out⟩
        · go_wp2
          go_ret
          exact ⟨rfl, B10.out⟩
      · have h1 := TWO.out
        rw [decide_eq_false hn0, Bool.and_false] at h1
        subst h1
        have hn0b : ((n : Int) == 0) = false := by simp; omega
        clear hn0
        cases one
        · go_wp2
          go_ret
          exact ⟨rfl, B10.out⟩
        · go_wp2
          go_ret
          exact ⟨rfl, B10.out⟩
    · have k11b : decide ((11 : Int) ≤ (k : Int)) = false := decide_eq_false (by omega)
      obtain ⟨w9, hw9⟩ : ∃ w9, w8.setCell ⟨w7.heap.size, 22, none⟩ (.int .u32 (n : Int)) = w9 := ⟨_, rfl⟩
      have z9 : Blk w9 w7.heap.size 37 ({ y with page := n } : MsgL).cells := by rw [← hw9]; exact Z8.out.set 22 _
      have k9 : Kept [w7.heap.size] w8 w9 := by rw [← hw9]; exact (Kept.refl _ _).setCell _ _ (.inl (by simp))
      have b9 : Below w7.heap.size w8 w9 := k9.below (by simp) (by omega)
      have I9 := Lib.hid (show ({ y with page := n } : MsgL).In (· < w4.heap.size) w9 from { (I8.out.under (b9.mono (by omega))) with hpage := hn })
      have B9 := Lib.hid (show Below w.heap.size w w9 from B8.out.trans (b9.mono (by omega)))
      have FIT := Lib.hid (show fitM ({ y with page := n } : MsgL).toM ↔ fitM y.toM ∧ n = 0 from fit_one_more (fun v => v.page) y _ k n (only_page k (by omega)) (fun h0 => by
          have hy0 : y.page = 0 := (congrArg (fun v => v.page) HYM.out).trans ((only_page k (by omega)) _)
          rw [h0, ← hy0]) rfl ((congrArg MsgV.kind HYM.out).trans (setF_kind _ _ _)))
      obtain ⟨U, hU⟩ : ∃ U, ({ y with page := n } : MsgL).cells.toArray = U := ⟨_, rfl⟩
      have HU := Lib.hid hU
      have hU28 : U.size = 28 := by
        rw [← hU]
        rfl
      have hinfoU : (Tryz.prog.info? 37).map (·.size) = some U.size := by
        rw [hU28]
        kernel_rfl
      have HB9 : w9.heap[w7.heap.size]? = some (.cells U 37 (0, 0)) := by
        rw [← HU.out]
        exact z9
      clear hU z9 k9 b9 I8 X8 B8 Z8
      go_wp2_with (first | (rw [hw8]) | (rw [hw9]) | (refine wp_load_f w7 (by rfl) 37 (.tmp 5) rfl w4.heap.size 37 Y _ (by rfl) HB7 Tryz.underlying37 rfl hinfoY ?_) | (refine wp_load_f w9 (by rfl) 37 (.tmp 10) rfl w7.heap.size 37 U _ (by rfl) HB9 Tryz.underlying37 rfl hinfoU ?_))
      rw [← HU.out]
      refine (mput_any _ w9 I9.out).mono ?_
      rintro e w10 hp
      obtain ⟨two, v10, htwo, rfl, hb10⟩ : ∃ (two : Bool) (v10 : Value), (two = true ↔ fitM y.toM ∧ n = 0) ∧ e = .returned (.tuple #[v10, .bool two]) ∧ Below w9.heap.size w9 w10 := by
        obtain ⟨hb, ⟨hf, v, rfl, _⟩ | ⟨hf, rfl⟩⟩ := hp
        · exact ⟨true, v, by simp [FIT.out.1 hf], rfl, hb⟩
        · exact ⟨false, _, by
            simp only [Bool.false_eq_true, false_iff]
            exact fun hh => hf (FIT.out.2 hh), rfl, hb⟩
      have B10 := Lib.hid (below_on B9.out hb10)
      have TWO := Lib.hid (show two = (one && decide (n = 0)) from by
        have h1 := HONE.out
        cases two <;> cases one <;> by_cases hn0 : n = 0 <;> simp_all)
      clear hp htwo hb10
      by_cases hn0 : n = 0
      · subst hn0
        have h1 := TWO.out
        simp only [decide_true, Bool.and_true] at h1
        subst h1
        cases two
        · go_wp2
          go_ret
          exact ⟨rfl, B10.out⟩
        · go_wp2
          go_ret
          exact ⟨rfl, B10.out⟩
      · have h1 := TWO.out
        rw [decide_eq_false hn0, Bool.and_false] at h1
        subst h1
        have hn0b : ((n : Int) == 0) = false := by simp; omega
        clear hn0
        cases one
        · go_wp2
          go_ret
          exact ⟨rfl, B10.out⟩
        · go_wp2
          go_ret
          exact ⟨rfl, B10.out⟩

theorem fields_row : Rows.MessageFieldsSaid :=
  OpenClaim.holds_of_wide 5 Tryz.f5 rfl rfl rfl rfl rfl rfl rfl ⟨rfl, rfl, rfl, rfl, rfl⟩ rfl rfl rfl rfl rfl (by kernel_rfl) Tryz.func5 (by kernel_rfl)
    (of_decide_eq_true (by kernel_rfl)) (by unfold Func.isWrapper; rw [if_neg (of_decide_eq_false (by kernel_rfl))]; exact ⟨rfl, rfl⟩)
    (fun os started H enc _ => lift (C := Tryz.checked) (s := Rows.messageFieldsSpec) (conds := Rows.messageFieldsRow.domain) os started H enc prog_own (by kernel_rfl) Tryz.func5 prog_laid rfl Tryz.underlying4 rfl
      (fun ds hl => by
        have hl : ds.length = 2 := hl
        match ds, hl with
        | [_, _], _ => rfl)
      (of_decide_eq_true (by kernel_rfl))
      (ChangeSpec.witness6 (enc := enc) (C := Tryz.checked) false ⟨#[], #[.agg #[.int .u8 0, .int .u32 0, .int .u32 0, .int .u64 0, .int .u8 0, .int .u32 0, .string ⟨#[]⟩, .string ⟨#[]⟩, .int .u8 0, .int .u8 0, .bool false, .int .u8 0, .int .u16 0, .slice none 0 0, .int .u32 0, .slice none 0 0, .int .u16 0, .int .u16 0, .slice none 0 0, .slice none 0 0, .slice none 0 0, .int .u32 0, .int .u32 0, .slice none 0 0, .int .u64 0, .slice none 0 0, .slice none 0 0, .slice none 0 0], .int .u32 0], []⟩ 8 (by kernel_rfl) (by kernel_rfl) (by kernel_rfl) (by kernel_rfl))
      (fun W base args ds p g => by
        rw [Tryz.params5] at g
        obtain ⟨m, e0, hm⟩ := g.msg 0 rfl
        obtain ⟨n, e1, hn⟩ := g.u32 1 rfl Tryz.underlying22
        rw [args2 g.count e0 e1]
        exact fields_walk m n (by omega) W hm))
end Go.Proofs.YtemnmjfeljipjaaGreat
