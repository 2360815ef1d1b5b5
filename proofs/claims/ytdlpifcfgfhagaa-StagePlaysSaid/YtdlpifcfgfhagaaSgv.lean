/-
  StagePlays holds: whatever is begun, brought, committed, aborted and left, each answer is the document's.
-/
import Derived.Test.YtdlpifcfgfhagaaRows
import Derived.Test.YtdlpifcfgfhagaaSgu
import Derived.Test.YtdlpifcfgfhagaaSoC
import Derived.Deep.RegionHeld3
namespace Go.Proofs.Ytdlpifcfgfhagaa
open Go.ChangeShapes Go.WideShapes Go.ChangeAt Go.RowKit

theorem pair_new {w w2 w3 : World} {x : Nat} {F : List Nat} (hb : Below w.heap.size w w2) {lo : Nat} (hlo : w.heap.size ≤ lo) (h : TabIs w2 lo x F ⟨[], 0⟩) (h3 : w2.alloc (.cells #[.slice none 0 0, .int .u32 0] 30) = w3) : PairU w 0 x w2.heap.size ⟨[], 0⟩ ⟨[], 0⟩ w3 := by
  have b3 : Below w2.heap.size w2 w3 := by rw [← h3]; exact (Below.refl _ _).alloc (Nat.le_refl _) _
  have hB : Blk w3 w2.heap.size 30 [.slice none 0 0, .int .u32 0] := by rw [← h3]; exact Blk.new _ _ _
  refine ⟨lo, F, w2.heap.size, fpR (.slice none 0 0) w2.heap.size [], h.on b3, ⟨.slice none 0 0, [], ⟨hB, Nat.le_refl _, RowC.nil _ _ _ _, by simp, by simp, by decide⟩, rfl, rfl⟩, fun b hb1 hb2 => ?_, hlo, hb.size, TabV.few_new 0, TabV.few_new 0, hb.trans (b3.mono hb.size)⟩
  rcases mem_fpR.1 hb2 with e | e | ⟨t, ht, _⟩
  · have := (h.lt b hb1).2
    omega
  · cases e
  · simp at ht
/-- What is seen of the document's list. -/
theorem PairT.seen {w0 w : World} {k x g bo : Nat} {cs : List Value} {s s2 : TabV} (h : PairT w0 bo cs k x g s s2 w) : ∃ a c, w.cell? ⟨g, 0, none⟩ = some (.slice a s2.ups.length c) ∧ s2.ups.length ≤ 4 ∧ g < w.heap.size := by
  obtain ⟨lo1, F1, lo2, F2, h1, ⟨v, R, d1, d2, -⟩, -, -, -, -, h7, -⟩ := h
  obtain ⟨a, c, e, _⟩ := d1.form
  refine ⟨a, c, ?_, h7.four, d1.blk.lt⟩
  rw [d2, List.length_map, ← e]
  exact d1.blk.cell 0
/-- Where the document finds an upload. -/
theorem pd_at {w0 w : World} {k x g bo : Nat} {cs : List Value} {s s2 : TabV} (h : PairT w0 bo cs k x g s s2 w) (owner n : Nat) :
    Calls Try.prog 12 #[.pointer (some ⟨g, 0, none⟩), .int .u64 (owner : Int), .int .u32 (n : Int)] w fun e w' =>
      ((∃ (i m P gr cx : Nat), e = .returned (.int .i64 (i : Int)) ∧ w.cell? ⟨g, 0, none⟩ = some (.slice (some ⟨gr, 0, none⟩) m cx) ∧ i < m ∧ m ≤ 4 ∧ w.cell? ⟨gr, i * 5 + 4, none⟩ = some (.int .i64 (P : Int)) ∧ P ≤ k) ∨ e = .returned (.int .i64 (-1))) ∧ w = w' := by
  obtain ⟨lo1, F1, lo2, F2, h1, ⟨v, R, d1, d2, -⟩, -, -, -, -, h7, -⟩ := h
  refine (dat_any w lo2 g s2.last v R d1 owner n).mono ?_
  rintro e w' ⟨⟨i, t, ht, htm, -, -, rfl⟩ | ⟨-, rfl⟩, rfl⟩
  · have hi := (List.getElem?_eq_some_iff.1 ht).1
    obtain ⟨t', gr, cx, ht', rfl, _, hlt, hrg, _⟩ := d1.up i hi
    obtain rfl := Option.some.inj (ht.symm.trans ht')
    exact ⟨.inl ⟨i, R.length, t.u.page, gr, cx, rfl, d1.blk.cell 0, hi, d1.few, (at_cells hrg).2.2.2.2, h7.page t.u (by rw [d2]; exact List.mem_map.2 ⟨t, htm, rfl⟩)⟩, rfl⟩
  · exact ⟨.inr rfl, rfl⟩
theorem nil_rdS (w : World) : Rd (fun _ => True) w shChanges [.slice none 0 0] [] := Rd.slice_mk ⟨none, 0, 0, rfl, rfl, by omega, by decide, Nat.le_refl _, fun _ => ⟨rfl, rfl⟩, .inl rfl⟩
def opC (kd ow : Nat) (nm : ByteArray) (on pg : Nat) (ba : Option Addr) (bn bc : Nat) : List Value := [.int .u8 (kd : Int), .int .u8 (ow : Int), .string nm, .int .u32 (on : Int), .int .u32 (pg : Int), .slice ba bn bc]
set_option maxRecDepth 100000 in
set_option maxHeartbeats 12800000 in
theorem plays_walk (a : Option Addr) (n c : Nat) (xs : List shOp13.T) (w : World) (hx : Rd (· < w.heap.size) w shOps13 [.slice a n c] xs) :
    Calls Try.prog 3 #[.slice a n c] w fun e w' => e = .returned (.bool true) ∧ Below w.heap.size w w' := by
  have HX := Lib.hid hx
  clear hx
  go_enter Try.func3, Try.ntmps3
  go_wp2_with (fail)
  refine (alive13 w).mono ?_
  rintro e w1 ⟨rfl, hb1⟩
  go_wp2_with (fail)
  refine (snew_any w1).mono ?_
  rintro e w2 ⟨x, F, rfl, hb2, h2⟩
  obtain ⟨w3, hw3⟩ : ∃ w3, w2.alloc (.cells #[.slice none 0 0, .int .u32 0] 30) = w3 := ⟨_, rfl⟩
  have H3 := Lib.hid (pair_new (below_on hb1 hb2) hb1.size h2 hw3)
  obtain ⟨g, hg⟩ : ∃ g, w2.heap.size = g := ⟨_, rfl⟩
  rw [hg] at H3
  clear hb1 hb2 h2
  go_wp2_with (first | (rw [hw3]) | fail)
  clear hw3 hg
  go_loopw [5] (fun s5 wr => ∃ (i : Nat) (s : TabV), s5 = .int .i64 (i : Int) ∧ i ≤ 80 ∧ Hid (PairU w i x g s s wr)) (fun s5 _ => 80 - (intOf s5).toNat)
  case atStart => exact ⟨0, ⟨[], 0⟩, rfl, by omega, H3.out⟩
  case round =>
    clear H3
    obtain ⟨i, s, rfl, hi, HS⟩ := hrel
    have BF := Lib.hid HS.out.below
    by_cases hin : i < n
    rotate_left
    · go_wp2
      go_ret
      exact ⟨rfl, BF.out⟩
    by_cases him : i < 80
    rotate_left
    · have hd1 : decide ((i : Int) < 80) = false := decide_eq_false (by omega)
      go_wp2
      go_ret
      exact ⟨rfl, BF.out⟩
    have hd1 : decide ((i : Int) < 80) = true := decide_eq_true (by omega)
    obtain ⟨b, off, o, ys, rfl, hbl, hk, how, hon, hpg, hbn, OPF⟩ := rd_op13 HX.out i hin
    obtain ⟨hb0, hbr, hcc⟩ := OPF.out _ HS.out.below
    obtain ⟨m0, m1, m2, m3, m4, m5⟩ := op13_cells hcc
    have BRF0 := Lib.hid (fun (wz : World) (hz : Below w.heap.size w wz) => (OPF.out wz hz).2.1)
    clear hcc OPF hbr
    obtain ⟨kd, ow, nm, on, pg, ba, bn, bc⟩ := o
    have BRF := Lib.hid (show ∀ wz, Below w.heap.size w wz → BReads wz ba bn bc ys from BRF0.out)
    clear BRF0
    simp only at m0 m1 m2 m3 m4 m5 hk how hon hpg hbn
    obtain ⟨W4, hW4⟩ : ∃ W4, wr.alloc (.cells #[.int .u8 (kd : Int), .int .u8 (ow : Int), .string nm, .int .u32 (on : Int), .int .u32 (pg : Int), .slice ba bn bc] 33) = W4 := ⟨_, rfl⟩
    have hb4 : Below wr.heap.size wr W4 := by rw [← hW4]; exact (Below.refl _ _).alloc (Nat.le_refl _) _
    have P4 := Lib.hid (HS.out.boxed (cs := opC kd ow nm on pg ba bn bc) hb4 (by rw [← hW4]; exact Blk.new _ _ _))
    obtain ⟨bo, hob⟩ : ∃ bo, wr.heap.size = bo := ⟨_, rfl⟩
    rw [hob] at P4
    have q0 : W4.cell? ⟨bo, 0, none⟩ = some (.int .u8 (kd : Int)) := P4.out.box.cell 0
    have q1 : W4.cell? ⟨bo, 1, none⟩ = some (.int .u8 (ow : Int)) := P4.out.box.cell 1
    have q2 : W4.cell? ⟨bo, 2, none⟩ = some (.string nm) := P4.out.box.cell 2
    have q3 : W4.cell? ⟨bo, 3, none⟩ = some (.int .u32 (on : Int)) := P4.out.box.cell 3
    have q4 : W4.cell? ⟨bo, 4, none⟩ = some (.int .u32 (pg : Int)) := P4.out.box.cell 4
    have q5 : W4.cell? ⟨bo, 5, none⟩ = some (.slice ba bn bc) := P4.out.box.cell 5
    have B4 := Lib.hid P4.out.below
    clear hb4 HS BF
    by_cases hlong : 10000 < bn
    · have hlb : (10000 : Int) < (bn : Int) := by omega
      go_wp2_with (first | (rw [hW4]) | fail)
      go_ret
      exact ⟨rfl, B4.out⟩
    have hlb : ¬ (10000 : Int) < (bn : Int) := by omega
    obtain ⟨o2, ho2⟩ : ∃ o2, ow % 3 = o2 := ⟨_, rfl⟩
    have ho3 : o2 < 3 := by omega
    have hmo : (ow : Int) % 3 = (o2 : Int) := by omega
    have hmw : IntKind.u64.wrap (o2 : Int) = (o2 : Int) := by rw [IntKind.wrap_u64]; omega
    clear ho2
    by_cases hk0 : kd % 6 = 0
    · have dk : (kd : Int) % 6 = 0 := by omega
      clear hk0
      as_aux_lemma =>
        go_wp2_with (first | (rw [hW4]) | fail)
        clear hW4 m0 m1 m2 m3 m4 m5
        have FW := Lib.hid P4.out.few.2
        refine (pc_begin P4.out (by omega) o2 (by omega) nm).mono ?_
        rintro e w5 (⟨hl, rfl, h5⟩ | ⟨hl, rfl, h5⟩)
        · have P5 := Lib.hid h5
          have HL := Lib.hid hl
          have e2 : w5.cell? ⟨bo, 2, none⟩ = some (.string nm) := P5.out.box.cell 2
          clear h5 hl P4 q0 q1 q2 q3 q4 q5 B4
          go_wp2_with (fail)
          refine (pd_begin P5.out FW.out (by omega) o2 (by omega) nm).mono ?_
          rintro e w6 (⟨-, rfl, h6⟩ | ⟨hl, -, -⟩)
          rotate_left
          · exact absurd hl (Nat.not_lt.2 HL.out)
          have PP := Lib.hid h6
          clear h6 P5 FW HL e2
          obtain ⟨m4', hm4⟩ : ∃ m4', (s).ups.length = m4' := ⟨_, rfl⟩
          obtain ⟨nb, hnb⟩ : ∃ nb, (s).bytes = nb := ⟨_, rfl⟩
          have PD := Lib.hid (PP.out.on ((Below.refl _ _).drew))
          obtain ⟨sa, sc, hsc, hm44, hgl⟩ := PD.out.seen
          rw [hm4] at hsc hm44
          have CL := Lib.hid (pc_len PD.out)
          have CB := Lib.hid (pc_bytes PD.out)
          rw [hm4] at CL
          rw [hnb] at CB
          have SWD := Lib.hid hsc
          have HGL := Lib.hid hgl
          have HNB := Lib.hid hnb
          clear hm4 hnb hgl hsc PP
          go_wp2_with (fail)
          go_region_held3 (fun X => X.cell? ⟨g, 0, none⟩ = some (.slice sa m4' sc))
            (first
              | (go_keep; done)
              | exact SWD.out
              | exact SW7.out)
            (first
            | (go_at_call 22; go_split_ands; refine CL.out.mono ?_; rintro e w6 ⟨rfl, hw6⟩; have hw6' := hw6.symm; subst hw6'; clear hw6)
            | (go_at_call 23; go_split_ands; refine CB.out.mono ?_; rintro e w7 ⟨rfl, h7, hb7⟩; have P7 := Lib.hid h7; have SW7 := Lib.hid ((hb7.cell (p := ⟨g, 0, none⟩) HGL.out).trans SWD.out); clear h7 hb7)
            | (go_at_call 24; go_split_ands; refine (pd_bytes P7.out).mono ?_; rw [HNB.out]; rintro e w8 ⟨rfl, hw8⟩; have hw8' := hw8.symm; subst hw8'; clear hw8))
          all_goals
            have PF := Lib.hid P7.out.forget
            clear PD CL CB SWD HGL HNB P7
            go_wp2
            go_roundw
            case rel => exact ⟨i + 1, _, by go_num, by omega, PF.out⟩
            case measure => simp [intOf]; omega
        · have P5 := Lib.hid h5
          have HL := Lib.hid hl
          have e2 : w5.cell? ⟨bo, 2, none⟩ = some (.string nm) := P5.out.box.cell 2
          obtain ⟨l1, hl1⟩ : ∃ l1, s.last + 1 = l1 := ⟨_, rfl⟩
          rw [hl1]
          have HL1 := Lib.hid hl1
          clear h5 hl P4 q0 q1 q2 q3 q4 q5 B4 hl1
          go_wp2_with (fail)
          refine (pd_begin P5.out FW.out (by omega) o2 (by omega) nm).mono ?_
          rw [HL1.out]
          rintro e w6 (⟨hl, -, -⟩ | ⟨-, rfl, h6⟩)
          · exact absurd HL.out (Nat.not_lt.2 hl)
          have PP := Lib.hid h6
          clear h6 P5 FW HL e2 HL1
          obtain ⟨m4', hm4⟩ : ∃ m4', (s.start o2 nm).ups.length = m4' := ⟨_, rfl⟩
          obtain ⟨nb, hnb⟩ : ∃ nb, (s.start o2 nm).bytes = nb := ⟨_, rfl⟩
          have PD := Lib.hid (PP.out.on ((Below.refl _ _).drew))
          obtain ⟨sa, sc, hsc, hm44, hgl⟩ := PD.out.seen
          rw [hm4] at hsc hm44
          have CL := Lib.hid (pc_len PD.out)
          have CB := Lib.hid (pc_bytes PD.out)
          rw [hm4] at CL
          rw [hnb] at CB
          have SWD := Lib.hid hsc
          have HGL := Lib.hid hgl
          have HNB := Lib.hid hnb
          clear hm4 hnb hgl hsc PP
          go_wp2_with (fail)
          go_region_held3 (fun X => X.cell? ⟨g, 0, none⟩ = some (.slice sa m4' sc))
            (first
              | (go_keep; done)
              | exact SWD.out
              | exact SW7.out)
            (first
            | (go_at_call 22; go_split_ands; refine CL.out.mono ?_; rintro e w6 ⟨rfl, hw6⟩; have hw6' := hw6.symm; subst hw6'; clear hw6)
            | (go_at_call 23; go_split_ands; refine CB.out.mono ?_; rintro e w7 ⟨rfl, h7, hb7⟩; have P7 := Lib.hid h7; have SW7 := Lib.hid ((hb7.cell (p := ⟨g, 0, none⟩) HGL.out).trans SWD.out); clear h7 hb7)
            | (go_at_call 24; go_split_ands; refine (pd_bytes P7.out).mono ?_; rw [HNB.out]; rintro e w8 ⟨rfl, hw8⟩; have hw8' := hw8.symm; subst hw8'; clear hw8))
          all_goals
            have PF := Lib.hid P7.out.forget
            clear PD CL CB SWD HGL HNB P7
            go_wp2
            go_roundw
            case rel => exact ⟨i + 1, _, by go_num, by omega, PF.out⟩
            case measure => simp [intOf]; omega
    by_cases hk1 : kd % 6 = 1
    · have dk : (kd : Int) % 6 = 1 := by omega
      clear hk1
      as_aux_lemma =>
        go_wp2_with (first | (rw [hW4]) | fail)
        clear hW4 m0 m1 m2 m3 m4 m5
        refine (pd_at P4.out o2 on).mono ?_
        rintro e w5 ⟨⟨j, m, P, gr, cx, rfl, hc0, hjm, hm4, hc4, hP⟩ | rfl, hw5⟩
        · subst hw5
          have hj0 : (0 : Int) ≤ (j : Int) := by omega
          have d0 : W4.drew.cell? ⟨g, 0, none⟩ = some (.slice (some ⟨gr, 0, none⟩) m cx) := hc0
          have d4 : W4.drew.cell? ⟨gr, j * 5 + 4, none⟩ = some (.int .i64 (P : Int)) := hc4
          have d5 : W4.drew.cell? ⟨bo, 4, none⟩ = some (.int .u32 (pg : Int)) := q4
          have hPw : IntKind.u32.wrap (P : Int) = (P : Int) := by rw [IntKind.wrap_u32]; omega
          obtain ⟨z1, hz1⟩ : ∃ z1 : Nat, IntKind.u32.wrap ((pg : Int) + (P : Int)) = (z1 : Int) := ⟨((pg + P) % 4294967296 : Nat), by rw [IntKind.wrap_u32]; omega⟩
          obtain ⟨z2, hz2, hpz⟩ : ∃ z2 : Nat, IntKind.u32.wrap ((z1 : Int) + 1) = (z2 : Int) ∧ z2 < 4294967296 := ⟨((z1 + 1) % 4294967296 : Nat), by rw [IntKind.wrap_u32]; omega, by omega⟩
          go_wp2_with (fail)
          go_quiet (fail)
          all_goals
            clear hc0 hc4 d0 d4 d5 hjm hm4 hP hj0 hPw hz1 hz2
            have FW := Lib.hid P4.out.few.2
            obtain ⟨z, hz⟩ : ∃ z, s.chunkE o2 on z2 ys = z := ⟨_, rfl⟩
            have PD := Lib.hid (P4.out.on ((below_draws (Below.refl W4.heap.size W4) nq).drew))
            have PC := Lib.hid (pc_chunk PD.out (by omega) o2 on z2 hon (BRF.out _ PD.out.below))
            rw [hz] at PC
            have RCC := Lib.hid (show ∀ w7, PairT w bo (opC kd ow nm on pg ba bn bc) (i + 1) x g (s.chunk o2 on z2 ys) s w7 → Calls Try.prog 14 #[.pointer (some ⟨g, 0, none⟩), .int .u64 (o2 : Int), .int .u32 (on : Int), .int .u32 (z2 : Int), .slice ba bn bc] w7 fun e w' => e = .returned (.int .i64 (z : Int)) ∧ PairT w bo (opC kd ow nm on pg ba bn bc) (i + 1) x g (s.chunk o2 on z2 ys) (s.chunk o2 on z2 ys) w' from fun w7 h7 => by
              have h9 := pd_chunk h7 FW.out (by omega) o2 on z2 hpz (BRF.out _ h7.below)
              rw [hz] at h9
              exact h9)
            have SWD := Lib.hid (show (fun X : World => X.cell? ⟨bo, 3, none⟩ = some (.int .u32 (on : Int)) ∧ X.cell? ⟨bo, 5, none⟩ = some (.slice ba bn bc)) (W4.drewN nq).drew from ⟨PD.out.box.cell 3, PD.out.box.cell 5⟩)
            clear hz P4 FW
            go_wp2_with (first | (rw [hW4]) | fail)
            go_region_held3 (fun X => X.cell? ⟨bo, 3, none⟩ = some (.int .u32 (on : Int)) ∧ X.cell? ⟨bo, 5, none⟩ = some (.slice ba bn bc))
              (first
                | (go_keep; done)
                | exact SWD.out
                | exact SW7.out
                | exact SW8.out)
              (first
              | (go_at_call 13; go_split_ands; refine PC.out.mono ?_; rintro e w7 ⟨rfl, h7⟩; have P7 := Lib.hid h7; have SW7 := Lib.hid (show (fun X : World => X.cell? ⟨bo, 3, none⟩ = some (.int .u32 (on : Int)) ∧ X.cell? ⟨bo, 5, none⟩ = some (.slice ba bn bc)) w7 from ⟨P7.out.box.cell 3, P7.out.box.cell 5⟩); clear h7)
              | (go_at_call 14; go_split_ands; refine (RCC.out w7 P7.out).mono ?_; rintro e w8 ⟨rfl, h8⟩; have P8 := Lib.hid h8; have SW8 := Lib.hid (show (fun X : World => X.cell? ⟨bo, 3, none⟩ = some (.int .u32 (on : Int)) ∧ X.cell? ⟨bo, 5, none⟩ = some (.slice ba bn bc)) w8 from ⟨P8.out.box.cell 3, P8.out.box.cell 5⟩); clear h8))
            all_goals
              have PP := Lib.hid P8.out
              clear PD PC RCC SWD SW7 SW8 P7 P8
              obtain ⟨m4', hm4⟩ : ∃ m4', (s.chunk o2 on z2 ys).ups.length = m4' := ⟨_, rfl⟩
              obtain ⟨nb, hnb⟩ : ∃ nb, (s.chunk o2 on z2 ys).bytes = nb := ⟨_, rfl⟩
              have PD := Lib.hid (PP.out.on ((Below.refl _ _).drew))
              obtain ⟨sa, sc, hsc, hm44, hgl⟩ := PD.out.seen
              rw [hm4] at hsc hm44
              have CL := Lib.hid (pc_len PD.out)
              have CB := Lib.hid (pc_bytes PD.out)
              rw [hm4] at CL
              rw [hnb] at CB
              have SWD := Lib.hid hsc
              have HGL := Lib.hid hgl
              have HNB := Lib.hid hnb
              clear hm4 hnb hgl hsc PP
              go_wp2_with (fail)
              go_region_held3 (fun X => X.cell? ⟨g, 0, none⟩ = some (.slice sa m4' sc))
                (first
                  | (go_keep; done)
                  | exact SWD.out
                  | exact SW9.out)
                (first
                | (go_at_call 22; go_split_ands; refine CL.out.mono ?_; rintro e w6 ⟨rfl, hw6⟩; have hw6' := hw6.symm; subst hw6'; clear hw6)
                | (go_at_call 23; go_split_ands; refine CB.out.mono ?_; rintro e w9 ⟨rfl, h9, hb9⟩; have P9 := Lib.hid h9; have SW9 := Lib.hid ((hb9.cell (p := ⟨g, 0, none⟩) HGL.out).trans SWD.out); clear h9 hb9)
                | (go_at_call 24; go_split_ands; refine (pd_bytes P9.out).mono ?_; rw [HNB.out]; rintro e w10 ⟨rfl, hw10⟩; have hw10' := hw10.symm; subst hw10'; clear hw10))
              all_goals
                have PF := Lib.hid P9.out.forget
                clear PD CL CB SWD HGL HNB P9
                go_wp2
                go_roundw
                case rel => exact ⟨i + 1, _, by go_num, by omega, PF.out⟩
                case measure => simp [intOf]; omega
        · subst hw5
          have hpz := hpg
          have FW := Lib.hid P4.out.few.2
          obtain ⟨z, hz⟩ : ∃ z, s.chunkE o2 on pg ys = z := ⟨_, rfl⟩
          have PD := Lib.hid (P4.out.on (((Below.refl W4.heap.size W4).drew)))
          have PC := Lib.hid (pc_chunk PD.out (by omega) o2 on pg hon (BRF.out _ PD.out.below))
          rw [hz] at PC
          have RCC := Lib.hid (show ∀ w7, PairT w bo (opC kd ow nm on pg ba bn bc) (i + 1) x g (s.chunk o2 on pg ys) s w7 → Calls Try.prog 14 #[.pointer (some ⟨g, 0, none⟩), .int .u64 (o2 : Int), .int .u32 (on : Int), .int .u32 (pg : Int), .slice ba bn bc] w7 fun e w' => e = .returned (.int .i64 (z : Int)) ∧ PairT w bo (opC kd ow nm on pg ba bn bc) (i + 1) x g (s.chunk o2 on pg ys) (s.chunk o2 on pg ys) w' from fun w7 h7 => by
            have h9 := pd_chunk h7 FW.out (by omega) o2 on pg hpz (BRF.out _ h7.below)
            rw [hz] at h9
            exact h9)
          have SWD := Lib.hid (show (fun X : World => X.cell? ⟨bo, 3, none⟩ = some (.int .u32 (on : Int)) ∧ X.cell? ⟨bo, 5, none⟩ = some (.slice ba bn bc)) W4.drew from ⟨PD.out.box.cell 3, PD.out.box.cell 5⟩)
          clear hz P4 FW
          go_wp2_with (first | (rw [hW4]) | fail)
          go_region_held3 (fun X => X.cell? ⟨bo, 3, none⟩ = some (.int .u32 (on : Int)) ∧ X.cell? ⟨bo, 5, none⟩ = some (.slice ba bn bc))
            (first
              | (go_keep; done)
              | exact SWD.out
              | exact SW7.out
              | exact SW8.out)
            (first
            | (go_at_call 13; go_split_ands; refine PC.out.mono ?_; rintro e w7 ⟨rfl, h7⟩; have P7 := Lib.hid h7; have SW7 := Lib.hid (show (fun X : World => X.cell? ⟨bo, 3, none⟩ = some (.int .u32 (on : Int)) ∧ X.cell? ⟨bo, 5, none⟩ = some (.slice ba bn bc)) w7 from ⟨P7.out.box.cell 3, P7.out.box.cell 5⟩); clear h7)
            | (go_at_call 14; go_split_ands; refine (RCC.out w7 P7.out).mono ?_; rintro e w8 ⟨rfl, h8⟩; have P8 := Lib.hid h8; have SW8 := Lib.hid (show (fun X : World => X.cell? ⟨bo, 3, none⟩ = some (.int .u32 (on : Int)) ∧ X.cell? ⟨bo, 5, none⟩ = some (.slice ba bn bc)) w8 from ⟨P8.out.box.cell 3, P8.out.box.cell 5⟩); clear h8))
          all_goals
            have PP := Lib.hid P8.out
            clear PD PC RCC SWD SW7 SW8 P7 P8
            obtain ⟨m4', hm4⟩ : ∃ m4', (s.chunk o2 on pg ys).ups.length = m4' := ⟨_, rfl⟩
            obtain ⟨nb, hnb⟩ : ∃ nb, (s.chunk o2 on pg ys).bytes = nb := ⟨_, rfl⟩
            have PD := Lib.hid (PP.out.on ((Below.refl _ _).drew))
            obtain ⟨sa, sc, hsc, hm44, hgl⟩ := PD.out.seen
            rw [hm4] at hsc hm44
            have CL := Lib.hid (pc_len PD.out)
            have CB := Lib.hid (pc_bytes PD.out)
            rw [hm4] at CL
            rw [hnb] at CB
            have SWD := Lib.hid hsc
            have HGL := Lib.hid hgl
            have HNB := Lib.hid hnb
            clear hm4 hnb hgl hsc PP
            go_wp2_with (fail)
            go_region_held3 (fun X => X.cell? ⟨g, 0, none⟩ = some (.slice sa m4' sc))
              (first
                | (go_keep; done)
                | exact SWD.out
                | exact SW9.out)
              (first
              | (go_at_call 22; go_split_ands; refine CL.out.mono ?_; rintro e w6 ⟨rfl, hw6⟩; have hw6' := hw6.symm; subst hw6'; clear hw6)
              | (go_at_call 23; go_split_ands; refine CB.out.mono ?_; rintro e w9 ⟨rfl, h9, hb9⟩; have P9 := Lib.hid h9; have SW9 := Lib.hid ((hb9.cell (p := ⟨g, 0, none⟩) HGL.out).trans SWD.out); clear h9 hb9)
              | (go_at_call 24; go_split_ands; refine (pd_bytes P9.out).mono ?_; rw [HNB.out]; rintro e w10 ⟨rfl, hw10⟩; have hw10' := hw10.symm; subst hw10'; clear hw10))
            all_goals
              have PF := Lib.hid P9.out.forget
              clear PD CL CB SWD HGL HNB P9
              go_wp2
              go_roundw
              case rel => exact ⟨i + 1, _, by go_num, by omega, PF.out⟩
              case measure => simp [intOf]; omega
    by_cases hk2 : kd % 6 = 2
    · have dk : (kd : Int) % 6 = 2 := by omega
      clear hk2
      as_aux_lemma =>
        go_wp2_with (first | (rw [hW4]) | fail)
        clear hW4 m0 m1 m2 m3 m4 m5
        refine (pd_at P4.out o2 on).mono ?_
        rintro e w5 ⟨⟨j, m, P, gr, cx, rfl, hc0, hjm, hm4, hc4, hP⟩ | rfl, hw5⟩
        · subst hw5
          have hj0 : (0 : Int) ≤ (j : Int) := by omega
          have d0 : W4.drew.cell? ⟨g, 0, none⟩ = some (.slice (some ⟨gr, 0, none⟩) m cx) := hc0
          have d4 : W4.drew.cell? ⟨gr, j * 5 + 4, none⟩ = some (.int .i64 (P : Int)) := hc4
          have d5 : W4.drew.cell? ⟨bo, 4, none⟩ = some (.int .u32 (pg : Int)) := q4
          have hPw : IntKind.u32.wrap (P : Int) = (P : Int) := by rw [IntKind.wrap_u32]; omega
          obtain ⟨z1, hz1⟩ : ∃ z1 : Nat, IntKind.u32.wrap ((pg : Int) + (P : Int)) = (z1 : Int) := ⟨((pg + P) % 4294967296 : Nat), by rw [IntKind.wrap_u32]; omega⟩
          obtain ⟨z2, hz2, hpz⟩ : ∃ z2 : Nat, IntKind.u32.wrap ((z1 : Int) + 1) = (z2 : Int) ∧ z2 < 4294967296 := ⟨((z1 + 1) % 4294967296 : Nat), by rw [IntKind.wrap_u32]; omega, by omega⟩
          go_wp2_with (fail)
          go_quiet (fail)
          all_goals
            clear hc0 hc4 d0 d4 d5 hjm hm4 hP hj0 hPw hz1 hz2
            have FW := Lib.hid P4.out.few.2
            obtain ⟨z, hz⟩ : ∃ z, s.chunkE o2 on z2 ys = z := ⟨_, rfl⟩
            have PD := Lib.hid (P4.out.on ((below_draws (Below.refl W4.heap.size W4) nq).drew))
            have PC := Lib.hid (pc_chunk PD.out (by omega) o2 on z2 hon (BRF.out _ PD.out.below))
            rw [hz] at PC
            have RCC := Lib.hid (show ∀ w7, PairT w bo (opC kd ow nm on pg ba bn bc) (i + 1) x g (s.chunk o2 on z2 ys) s w7 → Calls Try.prog 14 #[.pointer (some ⟨g, 0, none⟩), .int .u64 (o2 : Int), .int .u32 (on : Int), .int .u32 (z2 : Int), .slice ba bn bc] w7 fun e w' => e = .returned (.int .i64 (z : Int)) ∧ PairT w bo (opC kd ow nm on pg ba bn bc) (i + 1) x g (s.chunk o2 on z2 ys) (s.chunk o2 on z2 ys) w' from fun w7 h7 => by
              have h9 := pd_chunk h7 FW.out (by omega) o2 on z2 hpz (BRF.out _ h7.below)
              rw [hz] at h9
              exact h9)
            have SWD := Lib.hid (show (fun X : World => X.cell? ⟨bo, 3, none⟩ = some (.int .u32 (on : Int)) ∧ X.cell? ⟨bo, 5, none⟩ = some (.slice ba bn bc)) (W4.drewN nq).drew from ⟨PD.out.box.cell 3, PD.out.box.cell 5⟩)
            clear hz P4 FW
            go_wp2_with (first | (rw [hW4]) | fail)
            go_region_held3 (fun X => X.cell? ⟨bo, 3, none⟩ = some (.int .u32 (on : Int)) ∧ X.cell? ⟨bo, 5, none⟩ = some (.slice ba bn bc))
              (first
                | (go_keep; done)
                | exact SWD.out
                | exact SW7.out
                | exact SW8.out)
              (first
              | (go_at_call 13; go_split_ands; refine PC.out.mono ?_; rintro e w7 ⟨rfl, h7⟩; have P7 := Lib.hid h7; have SW7 := Lib.hid (show (fun X : World => X.cell? ⟨bo, 3, none⟩ = some (.int .u32 (on : Int)) ∧ X.cell? ⟨bo, 5, none⟩ = some (.slice ba bn bc)) w7 from ⟨P7.out.box.cell 3, P7.out.box.cell 5⟩); clear h7)
              | (go_at_call 14; go_split_ands; refine (RCC.out w7 P7.out).mono ?_; rintro e w8 ⟨rfl, h8⟩; have P8 := Lib.hid h8; have SW8 := Lib.hid (show (fun X : World => X.cell? ⟨bo, 3, none⟩ = some (.int .u32 (on : Int)) ∧ X.cell? ⟨bo, 5, none⟩ = some (.slice ba bn bc)) w8 from ⟨P8.out.box.cell 3, P8.out.box.cell 5⟩); clear h8))
            all_goals
              have PP := Lib.hid P8.out
              clear PD PC RCC SWD SW7 SW8 P7 P8
              obtain ⟨m4', hm4⟩ : ∃ m4', (s.chunk o2 on z2 ys).ups.length = m4' := ⟨_, rfl⟩
              obtain ⟨nb, hnb⟩ : ∃ nb, (s.chunk o2 on z2 ys).bytes = nb := ⟨_, rfl⟩
              have PD := Lib.hid (PP.out.on ((Below.refl _ _).drew))
              obtain ⟨sa, sc, hsc, hm44, hgl⟩ := PD.out.seen
              rw [hm4] at hsc hm44
              have CL := Lib.hid (pc_len PD.out)
              have CB := Lib.hid (pc_bytes PD.out)
              rw [hm4] at CL
              rw [hnb] at CB
              have SWD := Lib.hid hsc
              have HGL := Lib.hid hgl
              have HNB := Lib.hid hnb
              clear hm4 hnb hgl hsc PP
              go_wp2_with (fail)
              go_region_held3 (fun X => X.cell? ⟨g, 0, none⟩ = some (.slice sa m4' sc))
                (first
                  | (go_keep; done)
                  | exact SWD.out
                  | exact SW9.out)
                (first
                | (go_at_call 22; go_split_ands; refine CL.out.mono ?_; rintro e w6 ⟨rfl, hw6⟩; have hw6' := hw6.symm; subst hw6'; clear hw6)
                | (go_at_call 23; go_split_ands; refine CB.out.mono ?_; rintro e w9 ⟨rfl, h9, hb9⟩; have P9 := Lib.hid h9; have SW9 := Lib.hid ((hb9.cell (p := ⟨g, 0, none⟩) HGL.out).trans SWD.out); clear h9 hb9)
                | (go_at_call 24; go_split_ands; refine (pd_bytes P9.out).mono ?_; rw [HNB.out]; rintro e w10 ⟨rfl, hw10⟩; have hw10' := hw10.symm; subst hw10'; clear hw10))
              all_goals
                have PF := Lib.hid P9.out.forget
                clear PD CL CB SWD HGL HNB P9
                go_wp2
                go_roundw
                case rel => exact ⟨i + 1, _, by go_num, by omega, PF.out⟩
                case measure => simp [intOf]; omega
        · subst hw5
          have hpz := hpg
          have FW := Lib.hid P4.out.few.2
          obtain ⟨z, hz⟩ : ∃ z, s.chunkE o2 on pg ys = z := ⟨_, rfl⟩
          have PD := Lib.hid (P4.out.on (((Below.refl W4.heap.size W4).drew)))
          have PC := Lib.hid (pc_chunk PD.out (by omega) o2 on pg hon (BRF.out _ PD.out.below))
          rw [hz] at PC
          have RCC := Lib.hid (show ∀ w7, PairT w bo (opC kd ow nm on pg ba bn bc) (i + 1) x g (s.chunk o2 on pg ys) s w7 → Calls Try.prog 14 #[.pointer (some ⟨g, 0, none⟩), .int .u64 (o2 : Int), .int .u32 (on : Int), .int .u32 (pg : Int), .slice ba bn bc] w7 fun e w' => e = .returned (.int .i64 (z : Int)) ∧ PairT w bo (opC kd ow nm on pg ba bn bc) (i + 1) x g (s.chunk o2 on pg ys) (s.chunk o2 on pg ys) w' from fun w7 h7 => by
            have h9 := pd_chunk h7 FW.out (by omega) o2 on pg hpz (BRF.out _ h7.below)
            rw [hz] at h9
            exact h9)
          have SWD := Lib.hid (show (fun X : World => X.cell? ⟨bo, 3, none⟩ = some (.int .u32 (on : Int)) ∧ X.cell? ⟨bo, 5, none⟩ = some (.slice ba bn bc)) W4.drew from ⟨PD.out.box.cell 3, PD.out.box.cell 5⟩)
          clear hz P4 FW
          go_wp2_with (first | (rw [hW4]) | fail)
          go_region_held3 (fun X => X.cell? ⟨bo, 3, none⟩ = some (.int .u32 (on : Int)) ∧ X.cell? ⟨bo, 5, none⟩ = some (.slice ba bn bc))
            (first
              | (go_keep; done)
              | exact SWD.out
              | exact SW7.out
              | exact SW8.out)
            (first
            | (go_at_call 13; go_split_ands; refine PC.out.mono ?_; rintro e w7 ⟨rfl, h7⟩; have P7 := Lib.hid h7; have SW7 := Lib.hid (show (fun X : World => X.cell? ⟨bo, 3, none⟩ = some (.int .u32 (on : Int)) ∧ X.cell? ⟨bo, 5, none⟩ = some (.slice ba bn bc)) w7 from ⟨P7.out.box.cell 3, P7.out.box.cell 5⟩); clear h7)
            | (go_at_call 14; go_split_ands; refine (RCC.out w7 P7.out).mono ?_; rintro e w8 ⟨rfl, h8⟩; have P8 := Lib.hid h8; have SW8 := Lib.hid (show (fun X : World => X.cell? ⟨bo, 3, none⟩ = some (.int .u32 (on : Int)) ∧ X.cell? ⟨bo, 5, none⟩ = some (.slice ba bn bc)) w8 from ⟨P8.out.box.cell 3, P8.out.box.cell 5⟩); clear h8))
          all_goals
            have PP := Lib.hid P8.out
            clear PD PC RCC SWD SW7 SW8 P7 P8
            obtain ⟨m4', hm4⟩ : ∃ m4', (s.chunk o2 on pg ys).ups.length = m4' := ⟨_, rfl⟩
            obtain ⟨nb, hnb⟩ : ∃ nb, (s.chunk o2 on pg ys).bytes = nb := ⟨_, rfl⟩
            have PD := Lib.hid (PP.out.on ((Below.refl _ _).drew))
            obtain ⟨sa, sc, hsc, hm44, hgl⟩ := PD.out.seen
            rw [hm4] at hsc hm44
            have CL := Lib.hid (pc_len PD.out)
            have CB := Lib.hid (pc_bytes PD.out)
            rw [hm4] at CL
            rw [hnb] at CB
            have SWD := Lib.hid hsc
            have HGL := Lib.hid hgl
            have HNB := Lib.hid hnb
            clear hm4 hnb hgl hsc PP
            go_wp2_with (fail)
            go_region_held3 (fun X => X.cell? ⟨g, 0, none⟩ = some (.slice sa m4' sc))
              (first
                | (go_keep; done)
                | exact SWD.out
                | exact SW9.out)
              (first
              | (go_at_call 22; go_split_ands; refine CL.out.mono ?_; rintro e w6 ⟨rfl, hw6⟩; have hw6' := hw6.symm; subst hw6'; clear hw6)
              | (go_at_call 23; go_split_ands; refine CB.out.mono ?_; rintro e w9 ⟨rfl, h9, hb9⟩; have P9 := Lib.hid h9; have SW9 := Lib.hid ((hb9.cell (p := ⟨g, 0, none⟩) HGL.out).trans SWD.out); clear h9 hb9)
              | (go_at_call 24; go_split_ands; refine (pd_bytes P9.out).mono ?_; rw [HNB.out]; rintro e w10 ⟨rfl, hw10⟩; have hw10' := hw10.symm; subst hw10'; clear hw10))
            all_goals
              have PF := Lib.hid P9.out.forget
              clear PD CL CB SWD HGL HNB P9
              go_wp2
              go_roundw
              case rel => exact ⟨i + 1, _, by go_num, by omega, PF.out⟩
              case measure => simp [intOf]; omega
    by_cases hk3 : kd % 6 = 3
    · have dk : (kd : Int) % 6 = 3 := by omega
      clear hk3
      as_aux_lemma =>
        go_wp2_with (first | (rw [hW4]) | fail)
        clear hW4 m0 m1 m2 m3 m4 m5
        refine (pc_commit P4.out o2 on hon).mono ?_
        rintro e w5 (⟨ho, rfl, h5⟩ | ⟨u, ho, hc, h5⟩)
        · have P5 := Lib.hid h5
          have HO := Lib.hid ho
          have e3 : w5.cell? ⟨bo, 3, none⟩ = some (.int .u32 (on : Int)) := P5.out.pair.box.cell 3
          clear h5 ho P4 q0 q1 q2 q3 q4 q5 B4
          go_wp2_with (fail)
          refine (pd_commit P5.out o2 on).mono ?_
          rintro e w6 ⟨⟨-, rfl, h6⟩ | ⟨u, ho, -, -⟩, -⟩
          rotate_left
          · exact absurd (HO.out.symm.trans ho) (by simp)
          have P6 := Lib.hid h6
          clear h6 P5 e3 HO
          go_wp2_with (fail)
          refine (sameChanges none none 0 0 0 0 [] [] w6 (nil_rdS w6) (nil_rdS w6)).mono ?_
          rintro e w7 ⟨z, rfl, hz, hb7⟩
          obtain rfl : z = true := hz.2 rfl
          have PP := Lib.hid ((P6.out.on hb7).more (Nat.le_succ i))
          clear hz hb7 P6
          obtain ⟨m4', hm4⟩ : ∃ m4', (s).ups.length = m4' := ⟨_, rfl⟩
          obtain ⟨nb, hnb⟩ : ∃ nb, (s).bytes = nb := ⟨_, rfl⟩
          have PD := Lib.hid (PP.out.on ((Below.refl _ _).drew))
          obtain ⟨sa, sc, hsc, hm44, hgl⟩ := PD.out.seen
          rw [hm4] at hsc hm44
          have CL := Lib.hid (pc_len PD.out)
          have CB := Lib.hid (pc_bytes PD.out)
          rw [hm4] at CL
          rw [hnb] at CB
          have SWD := Lib.hid hsc
          have HGL := Lib.hid hgl
          have HNB := Lib.hid hnb
          clear hm4 hnb hgl hsc PP
          go_wp2_with (fail)
          go_region_held3 (fun X => X.cell? ⟨g, 0, none⟩ = some (.slice sa m4' sc))
            (first
              | (go_keep; done)
              | exact SWD.out
              | exact SW9.out)
            (first
            | (go_at_call 22; go_split_ands; refine CL.out.mono ?_; rintro e w11 ⟨rfl, hw11⟩; have hw11' := hw11.symm; subst hw11'; clear hw11)
            | (go_at_call 23; go_split_ands; refine CB.out.mono ?_; rintro e w9 ⟨rfl, h9, hb9⟩; have P9 := Lib.hid h9; have SW9 := Lib.hid ((hb9.cell (p := ⟨g, 0, none⟩) HGL.out).trans SWD.out); clear h9 hb9)
            | (go_at_call 24; go_split_ands; refine (pd_bytes P9.out).mono ?_; rw [HNB.out]; rintro e w10 ⟨rfl, hw10⟩; have hw10' := hw10.symm; subst hw10'; clear hw10))
          all_goals
            have PF := Lib.hid P9.out.forget
            clear PD CL CB SWD HGL HNB P9
            go_wp2
            go_roundw
            case rel => exact ⟨i + 1, _, by go_num, by omega, PF.out⟩
            case measure => simp [intOf]; omega
        · rcases hc with ⟨p, xs1, hr1, rfl, hx1⟩ | ⟨er, hr1, her, rfl⟩
          · have P5 := Lib.hid h5
            have HO := Lib.hid ho
            have X5 := Lib.hid hx1.lt
            have HR := Lib.hid hr1
            have N5 := Lib.hid P4.out.below.size
            have e3 : w5.cell? ⟨bo, 3, none⟩ = some (.int .u32 (on : Int)) := P5.out.pair.box.cell 3
            obtain ⟨un, hun⟩ : ∃ un, u.name = un := ⟨_, rfl⟩
            rw [hun]
            have HUN := Lib.hid hun
            clear h5 ho P4 q0 q1 q2 q3 q4 q5 B4 hx1 hr1 hun
            go_wp2_with (fail)
            refine (pd_commit P5.out o2 on).mono ?_
            rintro e w6 ⟨⟨ho, -, -⟩ | ⟨u2, ho, hc2, h6⟩, F2, hk6, hN6⟩
            · exact absurd (HO.out.symm.trans ho) (by simp)
            obtain rfl := Option.some.inj (HO.out.symm.trans ho)
            rcases hc2 with ⟨p2, ys1, hr2, rfl, hx2⟩ | ⟨er, hr2, -, -⟩
            rotate_left
            · exact absurd (HR.out.symm.trans hr2) (by simp)
            have HEQ := Lib.hid (show xs1.map toChange = ys1.map toChange from Sum.inl.inj (HR.out.symm.trans hr2))
            have P6 := Lib.hid h6
            have X6 := Lib.hid (X5.out.kept hk6 (fun k hk ho => by have := hN6 k hk; omega))
            have Y6 := Lib.hid hx2
            rw [HUN.out]
            clear h6 P5 e3 HO hk6 hN6 hx2 hr2 X5 HR HUN
            go_wp2_with (fail)
            refine (sameChanges p.a p2.a p.n p2.n p.c p2.c xs1 ys1 w6 X6.out Y6.out).mono ?_
            rintro e w7 ⟨z, rfl, hz, hb7⟩
            obtain rfl : z = true := hz.2 HEQ.out
            have PP := Lib.hid ((P6.out.on hb7).more (Nat.le_succ i))
            clear hz hb7 P6 X6 Y6 HEQ
            obtain ⟨m4', hm4⟩ : ∃ m4', (s.cut u.n).ups.length = m4' := ⟨_, rfl⟩
            obtain ⟨nb, hnb⟩ : ∃ nb, (s.cut u.n).bytes = nb := ⟨_, rfl⟩
            have PD := Lib.hid (PP.out.on ((Below.refl _ _).drew))
            obtain ⟨sa, sc, hsc, hm44, hgl⟩ := PD.out.seen
            rw [hm4] at hsc hm44
            have CL := Lib.hid (pc_len PD.out)
            have CB := Lib.hid (pc_bytes PD.out)
            rw [hm4] at CL
            rw [hnb] at CB
            have SWD := Lib.hid hsc
            have HGL := Lib.hid hgl
            have HNB := Lib.hid hnb
            clear hm4 hnb hgl hsc PP
            go_wp2_with (fail)
            go_region_held3 (fun X => X.cell? ⟨g, 0, none⟩ = some (.slice sa m4' sc))
              (first
                | (go_keep; done)
                | exact SWD.out
                | exact SW9.out)
              (first
              | (go_at_call 22; go_split_ands; refine CL.out.mono ?_; rintro e w11 ⟨rfl, hw11⟩; have hw11' := hw11.symm; subst hw11'; clear hw11)
              | (go_at_call 23; go_split_ands; refine CB.out.mono ?_; rintro e w9 ⟨rfl, h9, hb9⟩; have P9 := Lib.hid h9; have SW9 := Lib.hid ((hb9.cell (p := ⟨g, 0, none⟩) HGL.out).trans SWD.out); clear h9 hb9)
              | (go_at_call 24; go_split_ands; refine (pd_bytes P9.out).mono ?_; rw [HNB.out]; rintro e w10 ⟨rfl, hw10⟩; have hw10' := hw10.symm; subst hw10'; clear hw10))
            all_goals
              have PF := Lib.hid P9.out.forget
              clear PD CL CB SWD HGL HNB P9
              go_wp2
              go_roundw
              case rel => exact ⟨i + 1, _, by go_num, by omega, PF.out⟩
              case measure => simp [intOf]; omega
          · have P5 := Lib.hid h5
            have HO := Lib.hid ho
            have HR := Lib.hid hr1
            have e3 : w5.cell? ⟨bo, 3, none⟩ = some (.int .u32 (on : Int)) := P5.out.pair.box.cell 3
            clear h5 ho P4 q0 q1 q2 q3 q4 q5 B4 hr1
            go_wp2_with (fail)
            refine (pd_commit P5.out o2 on).mono ?_
            rintro e w6 ⟨⟨ho, -, -⟩ | ⟨u2, ho, hc2, h6⟩, -⟩
            · exact absurd (HO.out.symm.trans ho) (by simp)
            obtain rfl := Option.some.inj (HO.out.symm.trans ho)
            rcases hc2 with ⟨p2, ys1, hr2, -, -⟩ | ⟨er2, hr2, -, rfl⟩
            · exact absurd (HR.out.symm.trans hr2) (by simp)
            obtain rfl : er = er2 := Sum.inr.inj (HR.out.symm.trans hr2)
            have P6 := Lib.hid h6
            clear h6 P5 e3 HO hr2 HR
            go_wp2_with (fail)
            refine (sameChanges none none 0 0 0 0 [] [] w6 (nil_rdS w6) (nil_rdS w6)).mono ?_
            rintro e w7 ⟨z, rfl, hz, hb7⟩
            obtain rfl : z = true := hz.2 rfl
            have PP := Lib.hid ((P6.out.on hb7).more (Nat.le_succ i))
            clear hz hb7 P6
            obtain ⟨m4', hm4⟩ : ∃ m4', (s.cut u.n).ups.length = m4' := ⟨_, rfl⟩
            obtain ⟨nb, hnb⟩ : ∃ nb, (s.cut u.n).bytes = nb := ⟨_, rfl⟩
            have PD := Lib.hid (PP.out.on ((Below.refl _ _).drew))
            obtain ⟨sa, sc, hsc, hm44, hgl⟩ := PD.out.seen
            rw [hm4] at hsc hm44
            have CL := Lib.hid (pc_len PD.out)
            have CB := Lib.hid (pc_bytes PD.out)
            rw [hm4] at CL
            rw [hnb] at CB
            have SWD := Lib.hid hsc
            have HGL := Lib.hid hgl
            have HNB := Lib.hid hnb
            clear hm4 hnb hgl hsc PP
            go_wp2_with (fail)
            go_region_held3 (fun X => X.cell? ⟨g, 0, none⟩ = some (.slice sa m4' sc))
              (first
                | (go_keep; done)
                | exact SWD.out
                | exact SW9.out)
              (first
              | (go_at_call 22; go_split_ands; refine CL.out.mono ?_; rintro e w11 ⟨rfl, hw11⟩; have hw11' := hw11.symm; subst hw11'; clear hw11)
              | (go_at_call 23; go_split_ands; refine CB.out.mono ?_; rintro e w9 ⟨rfl, h9, hb9⟩; have P9 := Lib.hid h9; have SW9 := Lib.hid ((hb9.cell (p := ⟨g, 0, none⟩) HGL.out).trans SWD.out); clear h9 hb9)
              | (go_at_call 24; go_split_ands; refine (pd_bytes P9.out).mono ?_; rw [HNB.out]; rintro e w10 ⟨rfl, hw10⟩; have hw10' := hw10.symm; subst hw10'; clear hw10))
            all_goals
              have PF := Lib.hid P9.out.forget
              clear PD CL CB SWD HGL HNB P9
              go_wp2
              go_roundw
              case rel => exact ⟨i + 1, _, by go_num, by omega, PF.out⟩
              case measure => simp [intOf]; omega
    by_cases hk4 : kd % 6 = 4
    · have dk : (kd : Int) % 6 = 4 := by omega
      clear hk4
      as_aux_lemma =>
        obtain ⟨z, hz⟩ : ∃ z, s.abortE o2 on = z := ⟨_, rfl⟩
        have PD := Lib.hid (P4.out.on ((Below.refl W4.heap.size W4).drew))
        have PC := Lib.hid (pc_abort PD.out o2 on hon)
        rw [hz] at PC
        have RCC := Lib.hid (show ∀ w7, PairT w bo (opC kd ow nm on pg ba bn bc) i x g (s.abort o2 on) s w7 → Calls Try.prog 19 #[.pointer (some ⟨g, 0, none⟩), .int .u64 (o2 : Int), .int .u32 (on : Int)] w7 fun e w' => e = .returned (.int .i64 (z : Int)) ∧ PairT w bo (opC kd ow nm on pg ba bn bc) i x g (s.abort o2 on) (s.abort o2 on) w' from fun w7 h7 => by
          have h9 := pd_abort h7 o2 on
          rw [hz] at h9
          exact h9)
        have SWD := Lib.hid (show W4.drew.cell? ⟨bo, 3, none⟩ = some (.int .u32 (on : Int)) from PD.out.box.cell 3)
        clear hz P4
        go_wp2_with (first | (rw [hW4]) | fail)
        clear hW4 m0 m1 m2 m3 m4 m5
        go_region_held3 (fun X => X.cell? ⟨bo, 3, none⟩ = some (.int .u32 (on : Int)))
          (first
            | (go_keep; done)
            | exact SWD.out
            | exact SW7.out
            | exact SW8.out)
          (first
          | (go_at_call 18; go_split_ands; refine PC.out.mono ?_; rintro e w7 ⟨rfl, h7⟩; have P7 := Lib.hid h7; have SW7 := Lib.hid (show w7.cell? ⟨bo, 3, none⟩ = some (.int .u32 (on : Int)) from P7.out.box.cell 3); clear h7)
          | (go_at_call 19; go_split_ands; refine (RCC.out w7 P7.out).mono ?_; rintro e w8 ⟨rfl, h8⟩; have P8 := Lib.hid h8; have SW8 := Lib.hid (show w8.cell? ⟨bo, 3, none⟩ = some (.int .u32 (on : Int)) from P8.out.box.cell 3); clear h8))
        all_goals
          have PP := Lib.hid (P8.out.more (Nat.le_succ i))
          clear PD PC RCC SWD SW7 SW8 P7 P8
          obtain ⟨m4', hm4⟩ : ∃ m4', (s.abort o2 on).ups.length = m4' := ⟨_, rfl⟩
          obtain ⟨nb, hnb⟩ : ∃ nb, (s.abort o2 on).bytes = nb := ⟨_, rfl⟩
          have PD := Lib.hid (PP.out.on ((Below.refl _ _).drew))
          obtain ⟨sa, sc, hsc, hm44, hgl⟩ := PD.out.seen
          rw [hm4] at hsc hm44
          have CL := Lib.hid (pc_len PD.out)
          have CB := Lib.hid (pc_bytes PD.out)
          rw [hm4] at CL
          rw [hnb] at CB
          have SWD := Lib.hid hsc
          have HGL := Lib.hid hgl
          have HNB := Lib.hid hnb
          clear hm4 hnb hgl hsc PP
          go_wp2_with (fail)
          go_region_held3 (fun X => X.cell? ⟨g, 0, none⟩ = some (.slice sa m4' sc))
            (first
              | (go_keep; done)
              | exact SWD.out
              | exact SW9.out)
            (first
            | (go_at_call 22; go_split_ands; refine CL.out.mono ?_; rintro e w6 ⟨rfl, hw6⟩; have hw6' := hw6.symm; subst hw6'; clear hw6)
            | (go_at_call 23; go_split_ands; refine CB.out.mono ?_; rintro e w9 ⟨rfl, h9, hb9⟩; have P9 := Lib.hid h9; have SW9 := Lib.hid ((hb9.cell (p := ⟨g, 0, none⟩) HGL.out).trans SWD.out); clear h9 hb9)
            | (go_at_call 24; go_split_ands; refine (pd_bytes P9.out).mono ?_; rw [HNB.out]; rintro e w10 ⟨rfl, hw10⟩; have hw10' := hw10.symm; subst hw10'; clear hw10))
          all_goals
            have PF := Lib.hid P9.out.forget
            clear PD CL CB SWD HGL HNB P9
            go_wp2
            go_roundw
            case rel => exact ⟨i + 1, _, by go_num, by omega, PF.out⟩
            case measure => simp [intOf]; omega
    have dk : (kd : Int) % 6 = 5 := by omega
    clear hk0 hk1 hk2 hk3 hk4
    as_aux_lemma =>
      go_wp2_with (first | (rw [hW4]) | fail)
      clear hW4 m0 m1 m2 m3 m4 m5
      obtain ⟨z, hz⟩ : ∃ z, s.ups.length - (s.leave o2).ups.length = z := ⟨_, rfl⟩
      refine (pc_leave P4.out o2).mono ?_
      rw [hz]
      rintro e w5 ⟨rfl, h5⟩
      have P5 := Lib.hid h5
      clear h5 P4 q0 q1 q2 q3 q4 q5 B4
      have HZ := Lib.hid hz
      clear hz
      go_wp2_with (fail)
      refine (pd_leave P5.out o2).mono ?_
      rw [HZ.out]
      rintro e w6 ⟨rfl, h6⟩
      have PP := Lib.hid (h6.more (Nat.le_succ i))
      clear h6 P5 HZ

      obtain ⟨m4', hm4⟩ : ∃ m4', (s.leave o2).ups.length = m4' := ⟨_, rfl⟩
      obtain ⟨nb, hnb⟩ : ∃ nb, (s.leave o2).bytes = nb := ⟨_, rfl⟩
      have PD := Lib.hid (PP.out.on ((Below.refl _ _).drew))
      obtain ⟨sa, sc, hsc, hm44, hgl⟩ := PD.out.seen
      rw [hm4] at hsc hm44
      have CL := Lib.hid (pc_len PD.out)
      have CB := Lib.hid (pc_bytes PD.out)
      rw [hm4] at CL
      rw [hnb] at CB
      have SWD := Lib.hid hsc
      have HGL := Lib.hid hgl
      have HNB := Lib.hid hnb
      clear hm4 hnb hgl hsc PP
      go_wp2_with (fail)
      go_region_held3 (fun X => X.cell? ⟨g, 0, none⟩ = some (.slice sa m4' sc))
        (first
          | (go_keep; done)
          | exact SWD.out
          | exact SW7.out)
        (first
        | (go_at_call 22; go_split_ands; refine CL.out.mono ?_; rintro e w6 ⟨rfl, hw6⟩; have hw6' := hw6.symm; subst hw6'; clear hw6)
        | (go_at_call 23; go_split_ands; refine CB.out.mono ?_; rintro e w7 ⟨rfl, h7, hb7⟩; have P7 := Lib.hid h7; have SW7 := Lib.hid ((hb7.cell (p := ⟨g, 0, none⟩) HGL.out).trans SWD.out); clear h7 hb7)
        | (go_at_call 24; go_split_ands; refine (pd_bytes P7.out).mono ?_; rw [HNB.out]; rintro e w8 ⟨rfl, hw8⟩; have hw8' := hw8.symm; subst hw8'; clear hw8))
      all_goals
        have PF := Lib.hid P7.out.forget
        clear PD CL CB SWD HGL HNB P7
        go_wp2
        go_roundw
        case rel => exact ⟨i + 1, _, by go_num, by omega, PF.out⟩
        case measure => simp [intOf]; omega

set_option maxRecDepth 100000 in
theorem plays_row : Rows.StagePlaysSaid :=
  OpenClaim.holds_of_wide 3 Try.f3 rfl rfl rfl rfl rfl rfl rfl ⟨rfl, rfl, rfl, rfl, rfl⟩ rfl rfl rfl rfl rfl (by kernel_rfl) Try.func3 (by kernel_rfl)
    (of_decide_eq_true (by kernel_rfl)) (by unfold Func.isWrapper; rw [if_neg (of_decide_eq_false (by kernel_rfl))]; exact ⟨rfl, rfl⟩)
    (fun os started H enc _ => lift (C := Try.checked) (s := Rows.stagePlaysSpec) (conds := Rows.stagePlaysRow.domain) os started H enc prog_own (by kernel_rfl) Try.func3 prog_laid rfl Try.underlying4 rfl
      (fun ds hl => by
        have hl : ds.length = 1 := hl
        match ds, hl with
        | [_], _ => rfl)
      (of_decide_eq_true (by kernel_rfl))
      (ChangeSpec.witness6 (enc := enc) (C := Try.checked) false ⟨#[], #[.slice none 0 0], []⟩ 8 (by kernel_rfl) (by kernel_rfl) (by kernel_rfl) (by kernel_rfl))
      (fun W base args ds p g => by
        rw [Try.params3] at g
        obtain ⟨a, n, c, xs, e0, hn, hx⟩ := g.ops13 0 rfl
        rw [args1 g.count e0]
        exact plays_walk a n c xs W hx))
end Go.Proofs.Ytdlpifcfgfhagaa
