/-
  The document's sum of bytes, and what the document's First tells of what bytes begin with, by walks over their texts.
-/
import Derived.Test.YtemnmjfeljipjaaGreatRd
import Derived.Test.YtemnmjfeljipjaaGreatRc
import Derived.Test.YtemnmjfeljipjaaGreatWv
import Derived.Test.YtemnmjfeljipjaaGreatKr
import Derived.Test.YtemnmjfeljipjaaGreatEk
import Derived.Test.YtemnmjfeljipjaaGreatEu
import Derived.Deep.RegionLaw
namespace Go.Proofs.YtemnmjfeljipjaaGreat
open Go.RowKit Go.ChangeShapes Go.WideShapes Go.ChangeAt

set_option maxRecDepth 100000 in
set_option maxHeartbeats 3200000 in
theorem rsum_any (a : Option Addr) (n c : Nat) (bs : List Nat) (w : World) (h : BReads w a n c bs) :
    Calls Tryz.prog 63 #[.slice a n c] w fun e w' => ∃ a8 c8, e = .returned (.slice a8 4 c8) ∧ BReads w' a8 4 c8 (sumL bs) ∧ Below w.heap.size w w' := by
  have HR := Lib.hid h
  clear h
  go_enter Tryz.func63, Tryz.ntmps63
  go_wp2_with (fail)
  refine (rof_any a n c bs w HR.out).mono ?_
  rintro e w1 ⟨rfl, rfl⟩
  obtain ⟨m, hm⟩ : ∃ m, (crcMore 0#32 bs).toNat = m := ⟨_, rfl⟩
  have hm32 : m < 4294967296 := by rw [← hm]; exact (crcMore 0#32 bs).isLt
  rw [hm]
  have HM := Lib.hid (show sumL bs = sumB m from by rw [sumL, hm])
  clear hm HR
  go_wp2
  go_ret
  refine ⟨_, 4, rfl, ?_, (Below.refl _ _).alloc (Nat.le_refl _) _⟩
  rw [HM.out]
  have ho := OwnV.lits w 5 (sumB m) _ 4 (show #[.int .u8 ((m : Int) / 16777216), .int .u8 ((m : Int) / 65536 % 256), .int .u8 ((m : Int) / 256 % 256), .int .u8 ((m : Int) % 256)] = _ from by
    simp [sumB, byteV]
    omega) rfl (by simp [sumB]) (sumB_byte m)
  obtain ⟨a8, c8, e8, h8, _⟩ := ho.reads (by simp [sumB])
  simp only [Value.slice.injEq] at e8
  obtain ⟨rfl, _, rfl⟩ := e8
  exact h8

/-- What the document's First leaves. -/
def FirstPost (l : List Nat) (w : World) (e : Ending) (w' : World) : Prop := Below w.heap.size w w' ∧
  match firstF l with
  | .more => e = .returned (.tuple #[.agg (zeroL 0).cells.toArray, .int .i64 0, .int .i64 40])
  | .bad er => er ≠ 0 ∧ e = .returned (.tuple #[.agg (zeroL 0).cells.toArray, .int .i64 0, .int .i64 (er : Int)])
  | .got x k => ∃ y : MsgL, e = .returned (.tuple #[.agg y.cells.toArray, .int .i64 (k : Int), .int .i64 0]) ∧ y.toM = x ∧ y.In (w.heap.size ≤ ·) w'
/-- Behind the message's bytes were read: x's block, and what was told. -/
def FirstCut (k : Nat) (m : List Nat) (w : World) (s6 s7 : Value) (wx : World) : Prop := Below w.heap.size w wx ∧
  ∃ (gx : Nat) (y : MsgL) (er : Nat), s6 = .pointer (some ⟨gx, 0, none⟩) ∧ s7 = .int .i64 (er : Int) ∧ w.heap.size ≤ gx ∧ Blk wx gx 37 y.cells ∧ y.In (fun b => w.heap.size ≤ b ∧ b ≠ gx) wx ∧ ((er = 0 ∧ readM k m = .inl y.toM) ∨ (er ≠ 0 ∧ readM k m = .inr er ∧ y = zeroL 0))
theorem first_late {k : Nat} {m : List Nat} {w w1 w2 : World} {y : MsgL} {er : Nat} (hb : Below w.heap.size w w1) (hc : y.In (w.heap.size ≤ ·) w1) (hr : (er = 0 ∧ readM k m = .inl y.toM) ∨ (er ≠ 0 ∧ readM k m = .inr er ∧ y = zeroL 0))
    (h2 : w2 = (w1.alloc (.cells y.cells.toArray 37))) : FirstCut k m w (.pointer (some ⟨w1.heap.size, 0, none⟩)) (.int .i64 (er : Int)) w2 := by
  subst h2
  refine ⟨hb.alloc hb.size _, w1.heap.size, y, er, rfl, rfl, hb.size, Blk.new w1 37 _, ?_, hr⟩
  exact hc.stay (by simp) (fun b _ hlt => heap_alloc_old w1 _ hlt) (fun b hlo hlt => ⟨hlo, by omega⟩)
theorem first_soon {k : Nat} {m : List Nat} {w w1 w2 w3 : World} {y : MsgL} {er : Nat} {cs : List Value} (h1 : w1.heap.size = w.heap.size + 1) (hb : Below w.heap.size w w1) (hx : Blk w1 w.heap.size 37 cs) (hb2 : Below w1.heap.size w1 w2) (hc : y.In (w1.heap.size ≤ ·) w2) (hr : (er = 0 ∧ readM k m = .inl y.toM) ∨ (er ≠ 0 ∧ readM k m = .inr er ∧ y = zeroL 0))
    (h3 : w3 = w2.setRow w.heap.size y.cells.toArray) : FirstCut k m w (.pointer (some ⟨w.heap.size, 0, none⟩)) (.int .i64 (er : Int)) w3 := by
  subst h3
  have k2 : Kept [] w1 w2 := Kept.of_below hb2 (Nat.le_refl _)
  have k3 := setRow_kept w2 w.heap.size y.cells.toArray
  refine ⟨below_kept2 (hb.trans (hb2.mono hb.size)) (Nat.le_refl _) (Nat.le_refl _) k3, w.heap.size, y, er, rfl, rfl, Nat.le_refl _, setRow_blk (k2.blk hx (by simp)) y, ?_, hr⟩
  exact hc.stay k3.size (fun b hlo hlt => k3.block b hlt (by simp; omega)) (fun b hlo hlt => ⟨by omega, by omega⟩)
theorem look_low {i n z : Nat} {l : List Nat} (hi : i < 3) (hl : l.length = n) (hn : i < n) (hz : byteAt l i = z) : ∃ v : Nat, [76, 68, 1][i]? = some v ∧ lookF i l = if z = v then 0 else if i < 2 then 70 else 71 := by
  unfold lookF
  rw [if_pos (by omega), if_neg (by omega), hz]
  rcases (by omega : i = 0 ∨ i = 1 ∨ i = 2) with rfl | rfl | rfl
  · exact ⟨76, rfl, rfl⟩
  · exact ⟨68, rfl, rfl⟩
  · exact ⟨1, rfl, rfl⟩

theorem cut2_at {w : World} {b off n c k h : Nat} {bs : List Nat} (hb : BReads w (some ⟨b, off, none⟩) n c bs) (hk : k ≤ h) (hn : h ≤ n) : BReads w (some ⟨b, off + k, none⟩) (h - k) (c - k) ((bs.drop k).take (h - k)) := by
  have hroom := hb.room
  have hlen := hb.len
  have key : BReads w (some ⟨b, off + k, none⟩) (n - k) (c - k) (bs.drop k) := by
    refine ⟨by simp; omega, by have := hb.small; omega, fun b hbm => hb.byte b (List.mem_of_mem_drop hbm), fun e => (by cases e), by omega, ?_⟩
    by_cases hn : n - k = 0
    · exact .inl hn
    · rcases hb.cells with h0 | ⟨b', off', e, hlt, hc⟩
      · omega
      · cases e
        refine .inr ⟨b, off + k, rfl, hlt, fun i hi => ?_⟩
        rw [Nat.add_assoc, hc (k + i) (by omega)]
        simp [byteAt, List.getD]
  exact key.take (by omega)
set_option maxRecDepth 100000 in
set_option maxHeartbeats 25600000 in
theorem rfirst_any (a : Option Addr) (n c : Nat) (l : List Nat) (w : World) (h : BReads w a n c l) (hn : n ≤ 1000000000) :
    Calls Tryz.prog 33 #[.slice a n c] w fun e w' => FirstPost l w e w' := by
  have HR := Lib.hid h
  have HL := Lib.hid h.len
  have hcn := h.room
  clear h
  obtain ⟨Z, hZ⟩ : ∃ Z, (zeroL 0).cells.toArray = Z := ⟨_, rfl⟩
  have hz := msg_zero
  rw [hZ] at hz
  have hb4 : Z.size = 28 := by
    rw [← hZ]
    rfl
  have hb1 : (Z = #[]) = False := by
    rw [← hZ]
    simp [MsgL.cells]
  have hinfo : (Tryz.prog.info? 37).map (·.size) = some Z.size := by
    rw [hb4]
    kernel_rfl
  obtain ⟨w1, hw1⟩ : ∃ w1, w.alloc (.cells Z 37) = w1 := ⟨_, rfl⟩
  have b1 : Below w.heap.size w w1 := by rw [← hw1]; exact (Below.refl _ _).alloc (Nat.le_refl _) _
  have r1 : Blk w1 w.heap.size 37 (zeroL 0).cells := by rw [← hw1, ← hZ]; exact Blk.new w 37 (zeroL 0).cells.toArray
  obtain ⟨w2, hw2⟩ : ∃ w2, w1.alloc (.cells #[.int .u8 76, .int .u8 68, .int .u8 1] 5) = w2 := ⟨_, rfl⟩
  have k12 : Kept [] w1 w2 := by rw [← hw2]; exact (Kept.refl _ _).alloc _
  have B2 := Lib.hid (show Below w.heap.size w w2 from by rw [← hw2]; exact b1.alloc b1.size _)
  have R2 := Lib.hid (k12.blk r1 (by simp))
  have W2 := Lib.hid (show Blk w2 w1.heap.size 5 [.int .u8 76, .int .u8 68, .int .u8 1] from by rw [← hw2]; exact Blk.new w1 _ _)
  have hr1 := r1.lt
  have HZ := Lib.hid hZ
  clear hZ b1 r1 k12
  go_enter Tryz.func33, Tryz.ntmps33
  go_wp2_with (fail)
  try rw [hw1]
  try rw [hw2]
  go_loopw [6] (fun s6 wr => ∃ i : Nat, s6 = .int .i64 i ∧ i ≤ 3 ∧ Hid (PastF i l) ∧ Hid (Below w2.heap.size w2 wr)) (fun s6 _ => 3 - (intOf s6).toNat)
  case atStart => exact ⟨0, rfl, by omega, PastF.zero l, Below.refl _ _⟩
  case round =>
    clear hw1 hw2
    obtain ⟨i, rfl, hi, HP, HB⟩ := hrel
    have BW := Lib.hid (below_on B2.out HB.out)
    have VR := Lib.hid (HR.out.on BW.out)
    have RR := Lib.hid ((Kept.of_below (F := []) HB.out (Nat.le_refl _)).blk R2.out (by simp))
    have WW := Lib.hid ((Kept.of_below (F := []) HB.out (Nat.le_refl _)).blk W2.out (by simp))
    have hrl := RR.out.lt
    have hwl := WW.out.lt
    have ST := Lib.hid (fun (w' : World) (hb : Below wr.heap.size wr w') => show ∃ w9, (storeCells ⟨w.heap.size, 0, none⟩ Z.toList 0).run Tryz.prog w' = .ok () w9 ∧ w9.heap[w.heap.size]? = some (.cells Z 37 (0, 0)) ∧ Below w.heap.size w w9 from by
      have r := (Kept.of_below (F := []) hb (Nat.le_refl _)).blk RR.out (by simp)
      have hst := msg_store w' w.heap.size _ (zeroL 0) r rfl
      rw [HZ.out] at hst
      refine ⟨_, hst, ?_, ?_⟩
      · rw [← HZ.out]
        exact setRow_blk r _
      · exact below_kept2 (below_on BW.out hb) (Nat.le_refl _) (Nat.le_refl _) (setRow_kept _ _ _))
    by_cases h3 : i < 3
    · by_cases hni : n ≤ i
      · have MORE := Lib.hid (show firstF l = .more from firstF_more (p := i) (by omega) HP.out (by
          unfold lookF
          rw [if_pos (by omega), if_pos (by rw [HL.out]; exact hni)]))
        obtain ⟨w9, hst, HB9, hb9⟩ := ST.out wr (Below.refl _ _)
        have B9 := Lib.hid hb9
        clear ST hb9
        go_wp2
        (try simp only [Exit.inBlock, Exit.then])
        refine bodyPost_ret (results_row_tmp2 (p := 2) (q := 3) (r := 4) (ty := 37) rfl _ w9 w.heap.size 37 Z (0, 0) _ rfl HB9 Tryz.underlying37 rfl hinfo (.int .i64 0) rfl (.int .i64 40) rfl) rfl ?_
        exact ⟨B9.out, by rw [MORE.out, HZ.out]⟩
      · obtain ⟨z, hz0⟩ : ∃ z, byteAt l i = z := ⟨_, rfl⟩
        obtain ⟨bb, off, rfl, hlt, hcl⟩ : ∃ bb off, a = some ⟨bb, off, none⟩ ∧ bb < wr.heap.size ∧ wr.cell? ⟨bb, off + i, none⟩ = some (.int .u8 (z : Int)) := by
          rcases VR.out.cells with h0 | ⟨bb, off, e1, hlt, hc⟩
          · omega
          · exact ⟨bb, off, e1, hlt, by rw [hc i (by omega), hz0]⟩
        obtain ⟨v, hv, hlook⟩ := look_low h3 HL.out (by omega) hz0
        have hwc : wr.cell? ⟨w1.heap.size, i, none⟩ = some (.int .u8 (v : Int)) := by
          have h1 := WW.out.cell i
          rw [h1]
          rcases (by omega : i = 0 ∨ i = 1 ∨ i = 2) with rfl | rfl | rfl <;> cases hv <;> rfl
        have LK := Lib.hid hlook
        clear hv hlook hz0
        by_cases hzv : z = v
        · subst hzv
          have NX := Lib.hid (show PastF (i + 1) l from HP.out.next (by rw [LK.out, if_pos rfl]))
          have hq : ((z : Int) != (z : Int)) = false := by simp
          clear ST LK
          go_wp2
          go_quiet (fail)
          have k1 : Kept [] wr (wr.drewN nq) := (Kept.refl [] wr).drewN nq
          have HB1 := Lib.hid (show Below w2.heap.size w2 (wr.drewN nq) from below_draws HB.out nq)
          have hcl1 := (k1.cell (p := ⟨bb, off + i, none⟩) hlt (by simp)).trans hcl
          have hwc1 := (k1.cell (p := ⟨w1.heap.size, i, none⟩) hwl (by simp)).trans hwc
          have hlt1 := Nat.lt_of_lt_of_le hlt k1.size
          have hwl1 := Nat.lt_of_lt_of_le hwl k1.size
          clear hcl hwc hlt hwl hrl k1 BW VR RR WW
          generalize wr.drewN nq = wq at *
          go_wp2
          go_quiet (fail)
          have HB2 := Lib.hid (show Below w2.heap.size w2 (wq.drewN nq) from below_draws HB1.out nq)
          clear hcl1 hwc1
          generalize wq.drewN nq = wp at *
          go_wp2
          go_roundw
          case rel => exact ⟨i + 1, by go_num, by omega, NX.out, HB2.out⟩
          case measure => simp [intOf]; omega
        · have hq : ((z : Int) != (v : Int)) = true := by simp; omega
          by_cases h2 : i < 2
          · have hqb : decide ((i : Int) < 2) = true := decide_eq_true (by omega)
            have BAD := Lib.hid (show firstF l = .bad 70 from by
              have e := LK.out
              rw [if_neg hzv, if_pos h2] at e
              have := firstF_bad (p := i) (by omega) HP.out (by omega) (by omega)
              rw [e] at this
              exact this)
            clear LK
            go_wp2
            go_quiet (fail)
            obtain ⟨w9, hst, HB9, hb9⟩ := ST.out (wr.drewN nq) (below_draws (Below.refl _ _) nq)
            have B9 := Lib.hid hb9
            clear ST hb9
            generalize wr.drewN nq = wq at *
            go_wp2
            (try simp only [Exit.inBlock, Exit.then])
            refine bodyPost_ret (results_row_tmp2 (p := 2) (q := 3) (r := 4) (ty := 37) rfl _ w9 w.heap.size 37 Z (0, 0) _ rfl HB9 Tryz.underlying37 rfl hinfo (.int .i64 0) rfl (.int .i64 70) rfl) rfl ?_
            exact ⟨B9.out, by rw [BAD.out, HZ.out]; exact ⟨by decide, rfl⟩⟩
          · have hqb : decide ((i : Int) < 2) = false := decide_eq_false (by omega)
            have BAD := Lib.hid (show firstF l = .bad 71 from by
              have e := LK.out
              rw [if_neg hzv, if_neg h2] at e
              have := firstF_bad (p := i) (by omega) HP.out (by omega) (by omega)
              rw [e] at this
              exact this)
            clear LK
            go_wp2
            go_quiet (fail)
            have k1 : Kept [] wr (wr.drewN nq) := (Kept.refl [] wr).drewN nq
            have hb1q : Below wr.heap.size wr (wr.drewN nq) := below_draws (Below.refl _ _) nq
            have hcl1 := (k1.cell (p := ⟨bb, off + i, none⟩) hlt (by simp)).trans hcl
            have hwc1 := (k1.cell (p := ⟨w1.heap.size, i, none⟩) hwl (by simp)).trans hwc
            have hlt1 := Nat.lt_of_lt_of_le hlt k1.size
            have hwl1 := Nat.lt_of_lt_of_le hwl k1.size
            clear hcl hwc k1
            generalize wr.drewN nq = wq at *
            go_wp2
            go_quiet (fail)
            obtain ⟨w9, hst, HB9, hb9⟩ := ST.out (wq.drewN nq) (below_draws hb1q nq)
            have B9 := Lib.hid hb9
            clear ST hb9 hb1q
            generalize wq.drewN nq = wp at *
            go_wp2
            (try simp only [Exit.inBlock, Exit.then])
            refine bodyPost_ret (results_row_tmp2 (p := 2) (q := 3) (r := 4) (ty := 37) rfl _ w9 w.heap.size 37 Z (0, 0) _ rfl HB9 Tryz.underlying37 rfl hinfo (.int .i64 0) rfl (.int .i64 71) rfl) rfl ?_
            exact ⟨B9.out, by rw [BAD.out, HZ.out]; exact ⟨by decide, rfl⟩⟩
    · have hi3 : i = 3 := by omega
      subst hi3
      have h3n := HP.out.len (by omega)
      rw [HL.out] at h3n
      by_cases hn3 : n = 3
      · have MORE := Lib.hid (show firstF l = .more from firstF_more (p := 3) (by omega) HP.out (by
          unfold lookF
          rw [if_pos (by omega), if_pos (by rw [HL.out]; omega)]))
        obtain ⟨w9, hst, HB9, hb9⟩ := ST.out wr (Below.refl _ _)
        have B9 := Lib.hid hb9
        clear ST hb9
        subst hn3
        go_wp2
        (try simp only [Exit.inBlock, Exit.then])
        refine bodyPost_ret (results_row_tmp2 (p := 2) (q := 3) (r := 4) (ty := 37) rfl _ w9 w.heap.size 37 Z (0, 0) _ rfl HB9 Tryz.underlying37 rfl hinfo (.int .i64 0) rfl (.int .i64 40) rfl) rfl ?_
        exact ⟨B9.out, by rw [MORE.out, HZ.out]⟩
      have hn3b : ((n : Int) == 3) = false := by simp; omega
      obtain ⟨k, hk⟩ : ∃ k, byteAt l 3 = k := ⟨_, rfl⟩
      have k255 : k ≤ 255 := by have := HR.out.at_lt 3; omega
      obtain ⟨bb, off, rfl, hlt, hcl⟩ : ∃ bb off, a = some ⟨bb, off, none⟩ ∧ bb < wr.heap.size ∧ wr.cell? ⟨bb, off + 3, none⟩ = some (.int .u8 (k : Int)) := by
        rcases VR.out.cells with h0 | ⟨bb, off, e1, hlt, hc⟩
        · omega
        · exact ⟨bb, off, e1, hlt, by rw [hc 3 (by omega), hk]⟩
      have LK := Lib.hid (show lookF 3 l = if 1 ≤ k ∧ k ≤ 24 then 0 else 61 from by
        unfold lookF
        rw [if_pos (by omega), if_neg (by rw [HL.out]; omega), hk]
        rfl)
      have HK := Lib.hid hk
      clear hk
      by_cases hk1 : k < 1
      · have hk1b : decide ((k : Int) < 1) = true := decide_eq_true (by omega)
        have BAD := Lib.hid (show firstF l = .bad 61 from by
          have e := LK.out
          rw [if_neg (by omega)] at e
          have := firstF_bad (p := 3) (by omega) HP.out (by omega) (by omega)
          rw [e] at this
          exact this)
        obtain ⟨w9, hst, HB9, hb9⟩ := ST.out wr (Below.refl _ _)
        have B9 := Lib.hid hb9
        clear ST hb9 LK
        go_wp2
        (try simp only [Exit.inBlock, Exit.then])
        refine bodyPost_ret (results_row_tmp2 (p := 2) (q := 3) (r := 4) (ty := 37) rfl _ w9 w.heap.size 37 Z (0, 0) _ rfl HB9 Tryz.underlying37 rfl hinfo (.int .i64 0) rfl (.int .i64 61) rfl) rfl ?_
        exact ⟨B9.out, by rw [BAD.out, HZ.out]; exact ⟨by decide, rfl⟩⟩
      have hk1b : decide ((k : Int) < 1) = false := decide_eq_false (by omega)
      by_cases hk2 : 24 < k
      · have hk2b : decide ((24 : Int) < (k : Int)) = true := decide_eq_true (by omega)
        have BAD := Lib.hid (show firstF l = .bad 61 from by
          have e := LK.out
          rw [if_neg (by omega)] at e
          have := firstF_bad (p := 3) (by omega) HP.out (by omega) (by omega)
          rw [e] at this
          exact this)
        obtain ⟨w9, hst, HB9, hb9⟩ := ST.out wr (Below.refl _ _)
        have B9 := Lib.hid hb9
        clear ST hb9 LK
        go_wp2
        (try simp only [Exit.inBlock, Exit.then])
        refine bodyPost_ret (results_row_tmp2 (p := 2) (q := 3) (r := 4) (ty := 37) rfl _ w9 w.heap.size 37 Z (0, 0) _ rfl HB9 Tryz.underlying37 rfl hinfo (.int .i64 0) rfl (.int .i64 61) rfl) rfl ?_
        exact ⟨B9.out, by rw [BAD.out, HZ.out]; exact ⟨by decide, rfl⟩⟩
      have hk2b : decide ((24 : Int) < (k : Int)) = false := decide_eq_false (by omega)
      have P4 := Lib.hid (show PastF 4 l from HP.out.next (by rw [LK.out, if_pos ⟨by omega, by omega⟩]))
      obtain ⟨a4, hcut4, hrd4⟩ := cut_bytes (P := Tryz.prog) 33 5 Tryz.underlying33 (by kernel_rfl) byte_info (some ⟨bb, off, none⟩) n c 4 4 rfl (by omega)
      have hr4 := hrd4 wr l VR.out
      obtain ⟨n4, hn4⟩ : ∃ n4, n - 4 = n4 := ⟨_, rfl⟩
      obtain ⟨c4, hc4⟩ : ∃ c4, c - 4 = c4 := ⟨_, rfl⟩
      rw [hn4, hc4] at hcut4 hr4
      have R4 := Lib.hid hr4
      clear hrd4 hr4 LK hn4 hc4
      go_wp2_with (fail)
      refine (rget_any a4 n4 c4 (l.drop 4) wr R4.out).mono ?_
      rintro e w4 ⟨rfl, hb4'⟩
      obtain ⟨r1, r2, r3, hv⟩ : ∃ r1 r2 r3, vget 0 0 (l.drop 4) = (r1, r2, r3) := ⟨_, _, _, rfl⟩
      rw [hv]
      unfold gotV
      have hv1 := vget_lt (l.drop 4)
      rw [hv] at hv1
      have LK := Lib.hid (show lookF 4 l = if r3 ≠ 0 then r3 else if 4096 < r1 then 72 else 0 from by
        unfold lookF sizeF
        rw [if_neg (by omega), if_pos rfl, hv])
      have HV := Lib.hid hv
      have BX := Lib.hid hb4'
      have hs4 := hb4'.size
      clear hb4' hcut4 R4 hv
      by_cases h3z : r3 = 0
      rotate_left
      · have h3b : ((r3 : Int) != 0) = true := by simp; omega
        have BAD := Lib.hid (show (r3 = 40 ∧ firstF l = .more) ∨ (firstF l = .bad r3) from by
          have e := LK.out
          rw [if_pos h3z] at e
          by_cases h40 : r3 = 40
          · exact .inl ⟨h40, firstF_more (p := 4) (by omega) P4.out (by omega)⟩
          · have := firstF_bad (p := 4) (by omega) P4.out (by omega) (by omega)
            rw [e] at this
            exact .inr this)
        obtain ⟨w9, hst, HB9, hb9⟩ := ST.out w4 BX.out
        have B9 := Lib.hid hb9
        clear ST hb9 LK
        go_wp2
        (try simp only [Exit.inBlock, Exit.then])
        refine bodyPost_ret (results_row_tmp2 (p := 2) (q := 3) (r := 4) (ty := 37) rfl _ w9 w.heap.size 37 Z (0, 0) _ rfl HB9 Tryz.underlying37 rfl hinfo (.int .i64 0) rfl (.int .i64 (r3 : Int)) rfl) rfl ?_
        refine ⟨B9.out, ?_⟩
        rcases BAD.out with ⟨rfl, h⟩ | h
        · rw [h, HZ.out]
          rfl
        · rw [h, HZ.out]
          exact ⟨h3z, rfl⟩
      subst h3z
      by_cases h4k : 4096 < r1
      · have h4b : decide ((4096 : Int) < (r1 : Int)) = true := decide_eq_true (by omega)
        have BAD := Lib.hid (show firstF l = .bad 72 from by
          have e := LK.out
          rw [if_neg (by simp), if_pos h4k] at e
          have := firstF_bad (p := 4) (by omega) P4.out (by omega) (by omega)
          rw [e] at this
          exact this)
        obtain ⟨w9, hst, HB9, hb9⟩ := ST.out w4 BX.out
        have B9 := Lib.hid hb9
        clear ST hb9 LK
        go_wp2
        (try simp only [Exit.inBlock, Exit.then])
        refine bodyPost_ret (results_row_tmp2 (p := 2) (q := 3) (r := 4) (ty := 37) rfl _ w9 w.heap.size 37 Z (0, 0) _ rfl HB9 Tryz.underlying37 rfl hinfo (.int .i64 0) rfl (.int .i64 72) rfl) rfl ?_
        exact ⟨B9.out, by rw [BAD.out, HZ.out]; exact ⟨by decide, rfl⟩⟩
      have h4b : decide ((4096 : Int) < (r1 : Int)) = false := decide_eq_false (by omega)
      have P5 := Lib.hid (show PastF 5 l from P4.out.next (by rw [LK.out, if_neg (by simp), if_neg h4k]))
      obtain ⟨H, hH⟩ : ∃ H, 4 + r2 = H := ⟨_, rfl⟩
      obtain ⟨E, hE⟩ : ∃ E, H + r1 = E := ⟨_, rfl⟩
      have HBE := Lib.hid (show beginF l = H ∧ endF l = E from by
        unfold endF beginF
        rw [HV.out]
        exact ⟨hH, by rw [← hE, ← hH]⟩)
      have hbg := P5.out.begins
      rw [HBE.out.1, HL.out] at hbg
      have h2b : r2 ≤ 1000000000 := by omega
      have hw2 : IntKind.i64.wrap (4 + (r2 : Int)) = (H : Int) := by rw [IntKind.wrap_i64]; omega
      have hw1 : IntKind.i64.wrap (r1 : Int) = (r1 : Int) := by rw [IntKind.wrap_i64]; omega
      have hwE : IntKind.i64.wrap ((H : Int) + (r1 : Int)) = (E : Int) := by rw [IntKind.wrap_i64]; omega
      have hwE4 : IntKind.i64.wrap ((E : Int) + 4) = ((E + 4 : Nat) : Int) := by rw [IntKind.wrap_i64]; omega
      have hE0 : E ≤ 1000010000 := by omega
      clear LK
      have LK := Lib.hid (show lookF 5 l = if E + 4 ≤ n then 0 else 40 from by
        unfold lookF
        rw [if_neg (by omega), if_neg (by omega), HBE.out.2, HL.out])
      by_cases hE4 : n < E + 4
      · have hE4b : decide ((n : Int) < ((E + 4 : Nat) : Int)) = true := decide_eq_true (by omega)
        have MORE := Lib.hid (show firstF l = .more from firstF_more (p := 5) (by omega) P5.out (by rw [LK.out, if_neg (by omega)]))
        obtain ⟨w9, hst, HB9, hb9⟩ := ST.out w4 BX.out
        have B9 := Lib.hid hb9
        clear ST hb9 LK
        go_wp2
        (try simp only [Exit.inBlock, Exit.then])
        refine bodyPost_ret (results_row_tmp2 (p := 2) (q := 3) (r := 4) (ty := 37) rfl _ w9 w.heap.size 37 Z (0, 0) _ rfl HB9 Tryz.underlying37 rfl hinfo (.int .i64 0) rfl (.int .i64 40) rfl) rfl ?_
        exact ⟨B9.out, by rw [MORE.out, HZ.out]⟩
      have hE4b : decide ((n : Int) < ((E + 4 : Nat) : Int)) = false := decide_eq_false (by omega)
      have P6 := Lib.hid (show PastF 6 l from P5.out.next (by rw [LK.out, if_pos (by omega)]))
      clear LK
      have V4 := Lib.hid (VR.out.on BX.out)
      have HQV := Lib.hid (VR.out.on BX.out)
      clear V4
      obtain ⟨ah, hhead, hah⟩ := head_bytes (P := Tryz.prog) 33 5 Tryz.underlying33 (by kernel_rfl) byte_info (some ⟨bb, off, none⟩) n c E E rfl (by omega)
      simp only [hah] at hhead
      clear hah
      obtain ⟨S1, hS1⟩ : ∃ S1, strOfB (sumL (l.take E)) = S1 := ⟨_, rfl⟩
      obtain ⟨S2, hS2⟩ : ∃ S2, strOfB ((l.drop E).take 4) = S2 := ⟨_, rfl⟩
      obtain ⟨q, hq⟩ : ∃ q, decide ((l.drop E).take 4 = sumL (l.take E)) = q := ⟨_, rfl⟩
      have hbq : (S1.toList == S2.toList) = q := by
        have hby : ∀ b ∈ (l.drop E).take 4, b < 256 := fun b hb => HR.out.byte b (List.mem_of_mem_drop (List.mem_of_mem_take hb))
        rw [← hS1, ← hS2, strOfB_beq (show ∀ b ∈ sumL (l.take E), b < 256 from sumB_byte _) hby, ← hq]
        exact decide_eq_decide.2 ⟨fun h => h.symm, fun h => h.symm⟩
      have HQ := Lib.hid hq
      have HS1 := Lib.hid hS1
      have HS2 := Lib.hid (fun (w' : World) (hb : Below w4.heap.size w4 w') => show (convert 33 9 (.slice (some ⟨bb, off + E, none⟩) 4 (c - E))).run Tryz.prog w' = .ok (.string S2) w' from by
        have h2 := cut2_at (k := E) (h := E + 4) (HQV.out.on hb) (by omega) (by omega)
        rw [show E + 4 - E = 4 by omega] at h2
        rw [← hS2]
        exact h2.str 33 5 Tryz.underlying33 Tryz.underlying5 9 Tryz.underlying9)
      have HT2 := Lib.hid (fun (w' : World) (hb : Below w4.heap.size w4 w') => (HQV.out.on hb).take (show E ≤ n by omega))
      have HBX := BX
      clear hq hS1 hS2
      go_upto_region 23 with fail
      go_cut [98] (fun s98 wx => s98 = .bool (!q) ∧ Hid (Below w4.heap.size w4 wx))
      case first =>
        have kw := HS2.out w4.drew (Below.refl _ _).drew
        go_region_with (go_at_call 63; refine (rsum_any _ E c (l.take E) _ (HT2.out _ (Below.refl _ _).drew)).mono ?_; rintro e w5 ⟨a8, c8, rfl, hr8, hb8⟩; have kv : (convert 33 9 (.slice a8 4 c8)).run Tryz.prog w5 = .ok (.string S1) w5 := (by rw [← HS1.out]; exact hr8.str 33 5 Tryz.underlying33 Tryz.underlying5 9 Tryz.underlying9); have kx := HS2.out w5 ((Below.refl _ _).drew.trans hb8); have HB5 := Lib.hid (show Below w4.heap.size w4 w5 from (Below.refl _ _).drew.trans hb8); clear hb8 hr8)
        all_goals
          clear kv kx
          go_wp2
          go_meet
          exact ⟨rfl, HB5.out⟩
      case rest =>
        obtain ⟨rfl, HC⟩ := hcut
        generalize wc = wb at *
        have BB := Lib.hid (below_on BX.out HC.out)
        have VB := Lib.hid (HQV.out.on HC.out)
        have hbs := HC.out.size
        have hlt3 : bb < wb.heap.size := by omega
        clear hhead HS1 HS2 HT2
        cases q
        · have BAD := Lib.hid (show firstF l = .bad 73 from by
            rw [firstF_take P6.out]
            unfold takeF
            rw [HBE.out.2, if_pos (of_decide_eq_false HQ.out)])
          obtain ⟨w9, hst, HB9, hb9⟩ := ST.out wb BB.out
          have B9 := Lib.hid hb9
          clear ST hb9
          go_wp2
          (try simp only [Exit.inBlock, Exit.then])
          refine bodyPost_ret (results_row_tmp2 (p := 2) (q := 3) (r := 4) (ty := 37) rfl _ w9 w.heap.size 37 Z (0, 0) _ rfl HB9 Tryz.underlying37 rfl hinfo (.int .i64 0) rfl (.int .i64 73) rfl) rfl ?_
          exact ⟨B9.out, by rw [BAD.out, HZ.out]; exact ⟨by decide, rfl⟩⟩
        · obtain ⟨m, hm⟩ : ∃ m, (l.drop H).take (E - H) = m := ⟨_, rfl⟩
          have YES := Lib.hid (show firstF l = match readM k m with
              | .inr e => .bad e
              | .inl x => .got x (E + 4) from by
            rw [firstF_take P6.out]
            unfold takeF
            rw [HBE.out.2, HBE.out.1, if_neg (by simpa using of_decide_eq_true HQ.out), HK.out, List.drop_take, hm]
            cases readM k m <;> rfl)
          have hcl3 : wb.cell? ⟨bb, off + 3, none⟩ = some (.int .u8 (k : Int)) := ((Kept.of_below (F := []) BB.out (Nat.le_refl _)).cell (p := ⟨bb, off + 3, none⟩) hlt (by simp)).trans hcl
          have hr3 := cut2_at (k := H) (h := E) VB.out (by omega) (by omega)
          rw [hm] at hr3
          have h3n : 3 < n := by omega
          have hEc : E ≤ c := by omega
          have hHE : H ≤ E := by omega
          have hcH : ¬ c = H := by omega
          have h3i : (3 : Int) < (n : Int) := by omega
          have R3 := Lib.hid hr3
          have XA := Lib.hid (show Blk (wb.drew.alloc (.cells Z 37)) wb.heap.size 37 (zeroL 0).cells from by rw [← HZ.out]; exact Blk.new wb.drew 37 (zeroL 0).cells.toArray)
          have hcl3' : (wb.alloc (.cells Z 37)).cell? ⟨bb, off + 3, none⟩ = some (.int .u8 (k : Int)) := (((Kept.refl [] wb).alloc _).cell (p := ⟨bb, off + 3, none⟩) hlt3 (by simp)).trans hcl3
          have hb4' := hb4
          clear hr3 hm hcl
          go_upto_region 25 with fail
          go_cut [11, 12] (fun s11 s12 wx => FirstCut k m wb s11 s12 wx)
          case first =>
            go_region_law (first
              | (rw [if_pos (by rfl)]; go_simp; go_at_call 68; refine (rread_any k k255 (some ⟨bb, off + H, none⟩) (E - H) (c - H) m wb.drew R3.out.drew).mono ?_; rintro r w7 ⟨hb7, y, er, rfl, hyi, hres⟩; have hst := msg_store_new w7 Z y hb4'; have hF28 : y.cells.toArray.size = 28 := rfl; generalize hF : y.cells.toArray = F at *)
              | (rw [if_pos (by rfl)]; go_simp; go_at_call 68; refine (rread_any k k255 (some ⟨bb, off + H, none⟩) (E - H) (c - H) m (wb.drew.alloc (.cells Z 37)) (R3.out.drew.alloc _)).mono ?_; rintro r w7 ⟨hb7, y, er, rfl, hyi, hres⟩; have hst := msg_store w7 wb.heap.size _ y ((Kept.of_below (F := []) hb7 (Nat.le_refl _)).blk XA.out (by simp)) rfl; have hF28 : y.cells.toArray.size = 28 := rfl; generalize hF : y.cells.toArray = F at *))
            all_goals
              go_wp2
              go_meet
              first
                | exact first_late (below_on (show Below wb.heap.size wb wb.drew from (Below.refl _ _).drew) hb7) hyi hres (by rw [hF])
                | exact first_soon (w1 := wb.drew.alloc (.cells Z 37)) (by simp) ((Below.refl _ _).drew.alloc (Nat.le_refl _) _) XA.out hb7 hyi hres (by rw [hF])
          case rest =>
            clear hcl3 hcl3' R3 XA
            obtain ⟨hbx, gx, y, er, rfl, rfl, hgx, hbk, hyi, hres⟩ := hcut
            have BC := Lib.hid (below_on BB.out hbx)
            have hgxl := hbk.lt
            rcases hres with ⟨rfl, hrd⟩ | ⟨her, hrd, _⟩
            · have GOT := Lib.hid (show firstF l = .got y.toM (E + 4) from by rw [YES.out, hrd])
              have rc := (Kept.of_below (F := []) BC.out (Nat.le_refl _)).blk RR.out (by simp)
              have hst := msg_store wc w.heap.size _ y rc rfl
              obtain ⟨w9, hw9⟩ : ∃ w9, wc.setRow w.heap.size y.cells.toArray = w9 := ⟨_, rfl⟩
              rw [hw9] at hst
              have HB9 : w9.heap[w.heap.size]? = some (.cells y.cells.toArray 37 (0, 0)) := by
                rw [← hw9]
                exact setRow_blk rc _
              have hws := BW.out.size
              have YIN := Lib.hid (show y.In (w.heap.size ≤ ·) w9 from by
                rw [← hw9]
                exact hyi.stay (setRow_kept _ _ _).size (fun b hb hlt => (setRow_kept _ _ _).block b hlt (by simp; omega)) (fun b hb _ => by omega))
              have B9 := Lib.hid (show Below w.heap.size w w9 from by
                rw [← hw9]
                exact below_kept2 (below_on BW.out BC.out) (Nat.le_refl _) (Nat.le_refl _) (setRow_kept _ _ _))
              obtain ⟨F, hF⟩ : ∃ F, y.cells.toArray = F := ⟨_, rfl⟩
              have HBF : wc.heap[gx]? = some (.cells F 37 (0, 0)) := by
                rw [← hF]
                exact hbk
              rw [hF] at hst HB9
              have hinfoF : (Tryz.prog.info? 37).map (·.size) = some F.size := by
                rw [← hF]
                kernel_rfl
              have hF28 : F.size = 28 := by
                rw [← hF]
                rfl
              have HFF := Lib.hid hF
              clear ST hbk hyi hrd rc hw9 hF hbx YES
              go_upto_region 28 with fail
              go_step
              refine wp_load_row wc rfl 37 (.tmp 11) rfl gx 37 F _ (by rfl) HBF Tryz.underlying37 rfl hinfoF ?_
              go_wp2
              (try simp only [Exit.inBlock, Exit.then])
              refine bodyPost_ret (results_row_tmp2 (p := 2) (q := 3) (r := 4) (ty := 37) rfl _ w9 w.heap.size 37 F (0, 0) _ rfl HB9 Tryz.underlying37 rfl hinfoF (.int .i64 ((E + 4 : Nat) : Int)) rfl (.int .i64 0) rfl) rfl ?_
              exact ⟨B9.out, by rw [GOT.out]; exact ⟨y, by rw [HFF.out], rfl, YIN.out⟩⟩
            · have BAD := Lib.hid (show firstF l = .bad er from by rw [YES.out, hrd])
              have herb : ((er : Int) != 0) = true := by simp; omega
              have HER := Lib.hid her
              obtain ⟨w9, hst, HB9, hb9⟩ := ST.out wc BC.out
              have B9 := Lib.hid hb9
              clear ST hb9 hbk hyi hrd hbx YES her
              go_wp2
              (try simp only [Exit.inBlock, Exit.then])
              refine bodyPost_ret (results_row_tmp2 (p := 2) (q := 3) (r := 4) (ty := 37) rfl _ w9 w.heap.size 37 Z (0, 0) _ rfl HB9 Tryz.underlying37 rfl hinfo (.int .i64 0) rfl (.int .i64 (er : Int)) rfl) rfl ?_
              exact ⟨B9.out, by rw [BAD.out, HZ.out]; exact ⟨HER.out, rfl⟩⟩
end Go.Proofs.YtemnmjfeljipjaaGreat
