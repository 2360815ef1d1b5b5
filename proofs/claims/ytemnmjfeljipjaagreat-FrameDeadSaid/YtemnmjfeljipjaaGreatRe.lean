/-
  The program's reader of frames: take, Next; the document's example.
-/
import Derived.Test.YtemnmjfeljipjaaGreatRd
import Derived.Test.YtemnmjfeljipjaaGreatNu
namespace Go.Proofs.YtemnmjfeljipjaaGreat
open Go.RowKit Go.ChangeShapes Go.WideShapes Go.ChangeAt

def SumSome (w : World) (gs : Nat) : Prop := ∃ t, SumAt w gs t
theorem SumSome.on {w w' : World} {gs : Nat} (h : SumSome w gs) (hb : Below w.heap.size w w') : SumSome w' gs := h.imp fun _ hs => hs.on hb
/-- What Next leaves of a reader that lived. -/
def NextPost (B g : Nat) (F l : List Nat) (w : World) (r : Ending) (w' : World) : Prop := Kept F w w' ∧
  match firstF l with
  | .more => r = .returned (.tuple #[.agg (zeroL 0).cells.toArray, .int .i64 40]) ∧ ∃ p F', RdrAt w' B g F' (.alive p l) ∧ Grows w F F'
  | .bad e => r = .returned (.tuple #[.agg (zeroL 0).cells.toArray, .int .i64 (e : Int)]) ∧ RdrAt w' B g [g] (.dead e)
  | .got x n => ∃ (y : MsgL) (F' : List Nat), r = .returned (.tuple #[.agg y.cells.toArray, .int .i64 0]) ∧ y.toM = x ∧ y.In (w.heap.size ≤ ·) w' ∧ RdrAt w' B g F' (.alive 0 (l.drop n)) ∧ Grows w F F'

def takeG (E H : Nat) (l : List Nat) : Fst :=
  if (l.drop E).take 4 = sumL (l.take E) then (match readM (byteAt l 3) ((l.take E).drop H) with
    | .inr e => .bad e
    | .inl x => .got x (E + 4)) else .bad 73
theorem takeG_is (l : List Nat) : takeF l = takeG (endF l) (beginF l) l := by
  unfold takeF takeG
  by_cases h : (l.drop (endF l)).take 4 = sumL (l.take (endF l))
  · rw [if_neg (by simpa using h), if_pos h]
    cases readM (byteAt l 3) ((l.take (endF l)).drop (beginF l)) <;> rfl
  · rw [if_pos h, if_neg h]
/-- Behind the message's bytes were read: x's block, and what was told. -/
def TakeCut (k : Nat) (m : List Nat) (w : World) (s6 s7 : Value) (wx : World) : Prop := Below w.heap.size w wx ∧
  ∃ (gx : Nat) (y : MsgL) (er : Nat), s6 = .pointer (some ⟨gx, 0, none⟩) ∧ s7 = .int .i64 (er : Int) ∧ w.heap.size ≤ gx ∧ Blk wx gx 37 y.cells ∧ y.In (fun b => w.heap.size ≤ b ∧ b ≠ gx) wx ∧ ((er = 0 ∧ readM k m = .inl y.toM) ∨ (er ≠ 0 ∧ readM k m = .inr er ∧ y = zeroL 0))
theorem take_late {k : Nat} {m : List Nat} {w w1 w2 : World} {y : MsgL} {er : Nat} (hb : Below w.heap.size w w1) (hc : y.In (w.heap.size ≤ ·) w1) (hr : (er = 0 ∧ readM k m = .inl y.toM) ∨ (er ≠ 0 ∧ readM k m = .inr er ∧ y = zeroL 0))
    (h2 : w2 = (w1.alloc (.cells y.cells.toArray 37))) : TakeCut k m w (.pointer (some ⟨w1.heap.size, 0, none⟩)) (.int .i64 (er : Int)) w2 := by
  subst h2
  refine ⟨hb.alloc hb.size _, w1.heap.size, y, er, rfl, rfl, hb.size, Blk.new w1 37 _, ?_, hr⟩
  exact hc.stay (by simp) (fun b _ hlt => heap_alloc_old w1 _ hlt) (fun b hlo hlt => ⟨hlo, by omega⟩)
theorem take_soon {k : Nat} {m : List Nat} {w w1 w2 w3 : World} {y : MsgL} {er : Nat} {cs : List Value} (h1 : w1.heap.size = w.heap.size + 1) (hb : Below w.heap.size w w1) (hx : Blk w1 w.heap.size 37 cs) (hb2 : Below w1.heap.size w1 w2) (hc : y.In (w1.heap.size ≤ ·) w2) (hr : (er = 0 ∧ readM k m = .inl y.toM) ∨ (er ≠ 0 ∧ readM k m = .inr er ∧ y = zeroL 0))
    (h3 : w3 = w2.setRow w.heap.size y.cells.toArray) : TakeCut k m w (.pointer (some ⟨w.heap.size, 0, none⟩)) (.int .i64 (er : Int)) w3 := by
  subst h3
  have k2 : Kept [] w1 w2 := Kept.of_below hb2 (Nat.le_refl _)
  have k3 := setRow_kept w2 w.heap.size y.cells.toArray
  refine ⟨below_kept2 (hb.trans (hb2.mono hb.size)) (Nat.le_refl _) (Nat.le_refl _) k3, w.heap.size, y, er, rfl, rfl, Nat.le_refl _, setRow_blk (k2.blk hx (by simp)) y, ?_, hr⟩
  exact hc.stay k3.size (fun b hlo hlt => k3.block b hlt (by simp; omega)) (fun b hlo hlt => ⟨by omega, by omega⟩)
theorem equal_at (q : Bool) (a : Option Addr) (n c : Nat) (xs : List Nat) (a2 : Option Addr) (n2 c2 : Nat) (ys : List Nat) (w : World) (h : BReads w a n c xs) (h2 : BReads w a2 n2 c2 ys) (hn : n2 = n) (hq : decide (xs = ys) = q) :
    Calls Tryz.prog 121 #[.slice a n c, .slice a2 n2 c2] w fun r w' => r = .returned (.bool q) ∧ Below w.heap.size w w' := by
  subst hq
  exact equal_any a n c xs a2 n2 c2 ys w h h2 hn

theorem sumb_at (g : Nat) (t : Bool) (a : Option Addr) (n c : Nat) (bs : List Nat) (w : World) (hs : SumAt w g t) (h : BReads w a n c bs) (hg : 0 < n → ∀ ad, a = some ad → ad.block ≠ g) :
    Calls Tryz.prog 61 #[.pointer (some ⟨g, 0, none⟩), .slice a n c] w fun e w' => ∃ a8 c8, e = .returned (.slice a8 4 c8) ∧ BReads w' a8 4 c8 (sumL bs) ∧ SumAt w' g true ∧ Kept [g] w w' := by
  refine (sumb_any g t a n c bs w hs h hg).mono ?_
  rintro e w' ⟨v, rfl, ho, h1, h2⟩
  obtain ⟨a8, c8, rfl, hr, _⟩ := ho.reads (by simp [sumL_len])
  exact ⟨a8, c8, rfl, hr, h1, h2⟩

theorem ffail_at (ei : Int) (g : Nat) (cs : List Value) (e : Nat) (w : World) (h : Blk w g 118 cs) (hc : cs.length = 6) (he : (e : Int) = ei) : Calls Tryz.prog 65 #[.pointer (some ⟨g, 0, none⟩), .int .i64 ei] w fun r w' => r = .returned (.tuple #[.agg (zeroL 0).cells.toArray, .int .i64 ei]) ∧ Blk w' g 118 (rdrV (.pointer none) (.slice none 0 0) 7 0 0 (e : Int)) ∧ Kept [g] w w' := by
  subst he
  exact ffail_any g cs e w h hc

set_option maxRecDepth 100000 in
set_option maxHeartbeats 25600000 in
theorem ftake_any (B g gs : Nat) (v : Value) (b en e : Int) (l : List Nat) (w : World) (h : AliveAt w B g gs 6 v b en e l) (hl : l.length ≤ 1000000000) (_hB : B ≤ w.heap.size) :
    Calls Tryz.prog 66 #[.pointer (some ⟨g, 0, none⟩)] w fun r w' => NextPost B g (g :: gs :: ownL v) l w r w' := by
  obtain ⟨a, n, c, rfl, hln⟩ := h.own.parts
  have hn := hln.out
  obtain ⟨a0, c0, he0, hr⟩ := h.own.reads (by omega)
  simp only [Value.slice.injEq] at he0
  obtain ⟨rfl, he1, rfl⟩ := he0
  clear he1
  rw [hn] at hr
  have hl6 := h.past 5 (by omega)
  obtain ⟨H, hH⟩ : ∃ H, beginF l = H := ⟨_, rfl⟩
  obtain ⟨E, hE⟩ : ∃ E, endF l = E := ⟨_, rfl⟩
  have hEn : E + 4 ≤ n := by
    unfold lookF at hl6
    rw [if_neg (by omega), if_neg (by omega), hE, hn] at hl6
    by_cases hh : E + 4 ≤ n
    · exact hh
    · rw [if_neg hh] at hl6
      omega
  have hHE : 5 ≤ H ∧ H ≤ E := by
    have h5 : PastF 5 l := fun q hq => h.past q (by omega)
    have h1 := h5.begins
    rw [hH] at h1
    unfold endF at hE
    rw [hH] at hE
    omega
  obtain ⟨hpb, hpe⟩ := h.place (by omega)
  rw [hH] at hpb
  rw [hE] at hpe
  subst hpb
  subst hpe
  have hlen : l.length = n := hn
  have FIRST := Lib.hid (show firstF l = takeG E H l from by rw [firstF_take h.past, takeG_is, hE, hH])
  have HA := Lib.hid h
  have HR := Lib.hid hr
  have HN := Lib.hid hn
  obtain ⟨a', hcut, hown, hblk⟩ := h.own.cut (P := Tryz.prog) (t := 33) (e := 5) Tryz.underlying33 (by kernel_rfl) byte_info E (by omega)
  obtain ⟨ah, hhead, hah⟩ := head_bytes (P := Tryz.prog) 33 5 Tryz.underlying33 (by kernel_rfl) byte_info a n c E E rfl (by have := hr.room; omega)
  simp only [hah] at hhead
  clear hah
  have hcn := hr.room
  obtain ⟨q, hq⟩ : ∃ q, decide ((l.drop E).take 4 = sumL (l.take E)) = q := ⟨_, rfl⟩
  have HQ := Lib.hid hq
  obtain ⟨ah4, hhead4, hah4⟩ := head_bytes (P := Tryz.prog) 33 5 Tryz.underlying33 (by kernel_rfl) byte_info a' (n - E) (c - E) 4 4 rfl (by omega)
  simp only [hah4] at hhead4
  clear hah4
  obtain ⟨nE, hnE⟩ : ∃ nE, n - E = nE := ⟨_, rfl⟩
  obtain ⟨cE, hcE⟩ : ∃ cE, c - E = cE := ⟨_, rfl⟩
  rw [hnE, hcE] at hcut hown hblk hhead4
  have OE := Lib.hid hown
  have OB := Lib.hid hblk
  have hnE4 : 4 ≤ nE := by omega
  have HEn := Lib.hid hEn
  have HHE := Lib.hid hHE
  have Hcn := Lib.hid hcn
  have HnE4 := Lib.hid hnE4
  have c0 : w.cell? ⟨g, 0, none⟩ = some (.pointer (some ⟨gs, 0, none⟩)) := h.blk.cell 0
  obtain ⟨Z, hZ⟩ : ∃ Z, (zeroL 0).cells.toArray = Z := ⟨_, rfl⟩
  have hz := msg_zero
  rw [hZ] at hz
  have hb4 : Z.size = 28 := by
    rw [← hZ]
    rfl
  have hb1 : (Z = #[]) = False := by
    rw [← hZ]
    simp [MsgL.cells]
  have hb4' := hb4
  have hinfo : (Tryz.prog.info? 37).map (·.size) = some Z.size := by
    rw [hb4]
    kernel_rfl
  obtain ⟨w1, hw1⟩ : ∃ w1, w.alloc (.cells Z 37) = w1 := ⟨_, rfl⟩
  have b1 : Below w.heap.size w w1 := by rw [← hw1]; exact (Below.refl _ _).alloc (Nat.le_refl _) _
  have B1 := Lib.hid b1
  have R1 := Lib.hid (show Blk w1 w.heap.size 37 (zeroL 0).cells from by rw [← hw1, ← hZ]; exact Blk.new w 37 (zeroL 0).cells.toArray)
  have A1 := Lib.hid (h.on b1)
  have hgl := h.blk.lt
  have hgsl : gs < w.heap.size := by
    obtain ⟨t, hs⟩ := h.sum
    exact hs.lt
  have hrl := R1.out.lt
  have HZ := Lib.hid hZ
  have d1 : w1.cell? ⟨g, 1, none⟩ = some (.slice a n c) := A1.out.blk.cell 1
  have d4 : w1.cell? ⟨g, 4, none⟩ = some (.int .i64 (E : Int)) := A1.out.blk.cell 4
  clear h hr hn hln hlen hl6 hH hE hq hnE hcE hown hblk c0 b1 hZ hEn hHE hcn hnE4
  go_enter Tryz.func66, Tryz.ntmps66
  go_wp2_with (fail)
  try rw [hw1]
  clear hw1
  go_quiet (fail)
  have K2 := Lib.hid (show Kept [] w1 (w1.drewN nq) from (Kept.refl [] w1).drewN nq)
  have B2 := Lib.hid (show Below w.heap.size w (w1.drewN nq) from below_draws B1.out nq)
  generalize w1.drewN nq = w2 at *
  have A2 := Lib.hid (A1.out.kept K2.out (by simp) (by simp) (by simp))
  have R2 := Lib.hid (K2.out.blk R1.out (by simp))
  have O2 := Lib.hid (OE.out.on B2.out)
  have e0 : w2.cell? ⟨g, 0, none⟩ = some (.pointer (some ⟨gs, 0, none⟩)) := A2.out.blk.cell 0
  clear d1 d4 B1 A1 R1 K2
  obtain ⟨t2, hs2⟩ := A2.out.sum
  have ST2 := Lib.hid hs2
  clear hs2
  have VG := Lib.hid (show ∀ w', Kept [gs] w2 w' → BReads w' a n c l from fun w' hk => by
    refine (HR.out.on B2.out).kept hk (fun h0 ad had => ?_)
    have h1 := A2.out.own
    obtain ⟨t, hs⟩ := A2.out.sum
    have h2 := row_sum hs h1 ad.block (by rw [had]; rfl)
    simpa using h2)
  have VF := Lib.hid (show 0 < E → ∀ ad, a = some ad → ad.block ≠ gs from fun h0 ad had => by
    obtain ⟨t, hs⟩ := A2.out.sum
    exact row_sum hs A2.out.own ad.block (by rw [had]; rfl))
  have VO := Lib.hid (show ∀ w', Kept [gs] w2 w' → BReads w' a' 4 cE ((l.drop E).take 4) from fun w' hk => by
    have h1 := O2.out
    obtain ⟨t, hs⟩ := A2.out.sum
    have h2 := h1.kept hk (fun k hk => by simpa using row_sum hs h1 k hk)
    have hnE4 := HnE4.out
    obtain ⟨a3, c3, h3, h4⟩ := h2.reads (by simp; omega)
    simp only [Value.slice.injEq] at h3
    obtain ⟨rfl, h5, rfl⟩ := h3
    rw [← h5] at h4
    exact h4.take hnE4)
  have hgg : g ≠ gs := by
    obtain ⟨t, hs⟩ := A2.out.sum
    exact sum_ne A2.out.blk hs
  have RA2 := Lib.hid ((VG.out _ (Kept.refl _ _)).take (show E ≤ n by have := HEn.out; omega))
  go_upto_region 2 with fail
  go_cut [35] (fun s35 wx => s35 = .bool (!q) ∧ Hid (Kept [gs] w2 wx ∧ SumAt wx gs true))
  case first =>
    go_region_law (first
      | (rw [if_pos (by rfl)]; go_simp; go_at_call 61; refine (sumb_at gs t2 a E c (l.take E) w2.drew ST2.out RA2.out.drew VF.out).mono ?_; rintro r w3 ⟨a8, c8, rfl, hr8, hs8, hk8⟩; have R8 := Lib.hid hr8; have K8 := Lib.hid (show Kept [gs] w2 w3 from (Kept.refl [gs] w2).drew.trans hk8 (Grows.refl _ _)); have S8 := Lib.hid hs8; clear hr8 hk8 hs8)
      | (rw [if_pos (by rfl)]; go_simp; go_at_call 121; refine (equal_at q a' 4 cE _ a8 4 c8 _ _ (VO.out _ K8.out) R8.out rfl HQ.out).mono ?_; rintro r w4 ⟨rfl, hb9⟩; have K9 := Lib.hid (K8.out.trans (Kept.of_below (F := [gs]) hb9 (Nat.le_refl _)) (Grows.refl _ _)); have S9 := Lib.hid (S8.out.on hb9); clear hb9))
    all_goals
      go_wp2
      go_meet
      exact ⟨rfl, K9.out, S9.out⟩
  case rest =>
    clear e0
    obtain ⟨rfl, HC⟩ := hcut
    generalize wc = wb at *
    have kc := HC.out.1
    have KW := Lib.hid (show Kept (g :: gs :: ownL (.slice a n c)) w wb from ((Kept.of_below (F := g :: gs :: ownL (.slice a n c)) B2.out (Nat.le_refl _))).trans (kc.mono (G := g :: gs :: ownL (.slice a n c)) (by simp)) (Grows.refl _ _))
    have hws := KW.out.size
    have hw2s := B2.out.size
    have BC := Lib.hid (show Blk wb g 118 _ from kc.blk A2.out.blk (by simpa using hgg))
    have RC := Lib.hid (show Blk wb w.heap.size 37 (zeroL 0).cells from kc.blk R2.out (by simp; omega))
    have hrc := RC.out.lt
    cases q
    · have NO := Lib.hid (show firstF l = .bad 73 from by
        rw [FIRST.out]
        unfold takeG
        rw [if_neg (of_decide_eq_false HQ.out)])
      go_wp2_with (fail)
      refine (ffail_at 73 g _ 73 wb BC.out rfl rfl).mono ?_
      rintro r w4 ⟨rfl, hd4, hk4⟩
      rw [HZ.out]
      have r4 := hk4.blk RC.out (by simp; omega)
      have hst := msg_store w4 w.heap.size _ (zeroL 0) r4 rfl
      rw [HZ.out] at hst
      obtain ⟨w5, hw5⟩ : ∃ w5, w4.setRow w.heap.size Z = w5 := ⟨_, rfl⟩
      rw [hw5] at hst
      have HB5 : w5.heap[w.heap.size]? = some (.cells Z 37 (0, 0)) := by
        rw [← hw5, ← HZ.out]
        exact setRow_blk r4 _
      have k5 : Kept [w.heap.size] w4 w5 := by rw [← hw5]; exact setRow_kept _ _ _
      have D5 := Lib.hid (k5.blk hd4 (by simp; omega))
      have KK := Lib.hid (show Kept (g :: gs :: ownL (.slice a n c)) w w5 from (KW.out.trans (hk4.mono (G := g :: gs :: ownL (.slice a n c)) (by simp)) (Grows.refl _ _)).trans k5 (fun x hx => by simp at hx; exact .inr (by omega)))
      clear hd4 hk4 r4 hw5 k5
      go_wp2
      (try simp only [Exit.inBlock, Exit.then])
      refine bodyPost_ret (results_row_tmp (p := 2) (q := 3) (ty := 37) rfl _ w5 w.heap.size 37 Z (0, 0) _ rfl HB5 Tryz.underlying37 rfl hinfo (.int .i64 73) rfl) rfl ?_
      refine ⟨KK.out, ?_⟩
      rw [NO.out]
      exact ⟨by rw [HZ.out]; rfl, D5.out, HA.out.hg, rfl⟩
    · obtain ⟨k, hk⟩ : ∃ k, byteAt l 3 = k := ⟨_, rfl⟩
      have k255 : k ≤ 255 := by have := HR.out.at_lt 3; omega
      obtain ⟨m, hm⟩ : ∃ m, (l.take E).drop H = m := ⟨_, rfl⟩
      have YES := Lib.hid (show firstF l = match readM k m with
          | .inr e => .bad e
          | .inl x => .got x (E + 4) from by
        rw [FIRST.out]
        unfold takeG
        rw [if_pos (of_decide_eq_true HQ.out), hk, hm])
      have VC := VG.out wb kc
      have hEn := HEn.out
      have hHE := HHE.out
      have hlt3 : ∃ bb off, a = some ⟨bb, off, none⟩ ∧ bb < wb.heap.size ∧ wb.cell? ⟨bb, off + 3, none⟩ = some (.int .u8 (k : Int)) := by
        rcases VC.cells with h0 | ⟨bb, off, e1, hlt, hc⟩
        · omega
        · exact ⟨bb, off, e1, hlt, by rw [hc 3 (by omega), hk]⟩
      obtain ⟨a3, hcut3, hrd3⟩ := cut_bytes (P := Tryz.prog) 33 5 Tryz.underlying33 (by kernel_rfl) byte_info a E c H (H : Int) rfl hHE.2
      have hr3 := hrd3 wb _ (VC.take (show E ≤ n by omega))
      rw [hm] at hr3
      obtain ⟨n3, hn3⟩ : ∃ n3, E - H = n3 := ⟨_, rfl⟩
      obtain ⟨c3, hc3⟩ : ∃ c3, c - H = c3 := ⟨_, rfl⟩
      rw [hn3, hc3] at hcut3 hr3
      have R3 := Lib.hid hr3
      have h3E : (3 : Int) < (E : Int) := by omega
      have g3 : wb.cell? ⟨g, 3, none⟩ = some (.int .i64 (H : Int)) := BC.out.cell 3
      obtain ⟨bb, off, rfl, hlt3, hcell3⟩ := hlt3
      clear hrd3 hr3 hk hm hEn hHE VC kc hcut hhead hhead4
      have XA := Lib.hid (show Blk (wb.drew.alloc (.cells Z 37)) wb.heap.size 37 (zeroL 0).cells from by rw [← HZ.out]; exact Blk.new wb.drew 37 (zeroL 0).cells.toArray)
      have g3' : (wb.alloc (.cells Z 37)).cell? ⟨g, 3, none⟩ = some (.int .i64 (H : Int)) := (((Kept.refl [] wb).alloc _).cell (p := ⟨g, 3, none⟩) BC.out.lt (by simp)).trans g3
      have hcell3' : (wb.alloc (.cells Z 37)).cell? ⟨bb, off + 3, none⟩ = some (.int .u8 (k : Int)) := (((Kept.refl [] wb).alloc _).cell (p := ⟨bb, off + 3, none⟩) hlt3 (by simp)).trans hcell3
      go_upto_region 4 with fail
      go_cut [6, 7] (fun s6 s7 wx => TakeCut k m wb s6 s7 wx)
      case first =>
        go_region_law (first
          | (rw [if_pos (by rfl)]; go_simp; go_at_call 15; refine (mget_any k k255 a3 n3 c3 m wb.drew R3.out.drew).mono ?_; rintro r w4 ⟨hb4, y, er, rfl, hyi, hres⟩; have hst := msg_store_new w4 Z y hb4'; have hF28 : y.cells.toArray.size = 28 := rfl; generalize hF : y.cells.toArray = F at *)
          | (rw [if_pos (by rfl)]; go_simp; go_at_call 15; refine (mget_any k k255 a3 n3 c3 m (wb.drew.alloc (.cells Z 37)) (R3.out.drew.alloc _)).mono ?_; rintro r w4 ⟨hb4, y, er, rfl, hyi, hres⟩; have hst := msg_store w4 wb.heap.size _ y ((Kept.of_below (F := []) hb4 (Nat.le_refl _)).blk XA.out (by simp)) rfl; have hF28 : y.cells.toArray.size = 28 := rfl; generalize hF : y.cells.toArray = F at *))
        all_goals
          go_wp2
          go_meet
          first
            | exact take_late (below_on (show Below wb.heap.size wb wb.drew from (Below.refl _ _).drew) hb4) hyi hres (by rw [hF])
            | exact take_soon (w1 := wb.drew.alloc (.cells Z 37)) (by simp) ((Below.refl _ _).drew.alloc (Nat.le_refl _) _) XA.out hb4 hyi hres (by rw [hF])
      case rest =>
        obtain ⟨hbx, gx, y, er, rfl, rfl, hgx, hbk, hyi, hres⟩ := hcut
        have hnil : Kept [] wb wc := Kept.of_below hbx (Nat.le_refl _)
        have BX := Lib.hid (hnil.blk BC.out (by simp))
        have RX := Lib.hid (hnil.blk RC.out (by simp))
        have SX := Lib.hid (show SumAt wc gs true from HC.out.2.on hbx)
        have KX := Lib.hid (KW.out.trans (hnil.mono (G := g :: gs :: ownL (.slice (some ⟨bb, off, none⟩) n c)) (by simp)) (Grows.refl _ _))
        have HBX := Lib.hid hbx
        have hxs := hbx.size
        have hgxl := hbk.lt
        have HBK := Lib.hid hbk
        have HYI := Lib.hid hyi
        clear hbx hnil hbk hyi
        rcases hres with ⟨rfl, hrd⟩ | ⟨her, hrd, _⟩
        · have GOT := Lib.hid (show firstF l = .got y.toM (E + 4) from by
            rw [YES.out, hrd])
          have o5 : OwnAt wc B 5 (.slice a' nE cE) (l.drop E) := by
            have h1 := O2.out
            have h2 := h1.kept HC.out.1 (fun k hk => by simpa using row_sum ST2.out h1 k hk)
            exact h2.on HBX.out
          obtain ⟨a5, hcut5, hown5, hblk5⟩ := o5.cut (P := Tryz.prog) (t := 33) (e := 5) Tryz.underlying33 (by kernel_rfl) byte_info 4 HnE4.out
          have hd4 : (l.drop E).drop 4 = l.drop (E + 4) := by rw [List.drop_drop]
          rw [hd4] at hown5
          obtain ⟨n5, hn5⟩ : ∃ n5, nE - 4 = n5 := ⟨_, rfl⟩
          obtain ⟨c5, hc5⟩ : ∃ c5, cE - 4 = c5 := ⟨_, rfl⟩
          rw [hn5, hc5] at hcut5 hown5 hblk5
          have hcut5' : ∀ w, (Instr.slice 33 (.slice a' nE cE) (some (.int .i64 4)) none none).run Tryz.prog w = .ok (.slice a5 n5 c5) w := hcut5
          have O5 := Lib.hid hown5
          have OB5 := Lib.hid hblk5
          clear hcut5 hown5 hblk5 hn5 hc5 hd4 o5 hrd
          have c1 : wc.cell? ⟨g, 1, none⟩ = some (.slice (some ⟨bb, off, none⟩) n c) := BX.out.cell 1
          have c2 : wc.cell? ⟨g, 2, none⟩ = some (.int .i64 6) := BX.out.cell 2
          have f1 := BX.out.frozen 1
          have f2 := BX.out.frozen 2
          obtain ⟨F, hF⟩ : ∃ F, y.cells.toArray = F := ⟨_, rfl⟩
          have hF28 : F.size = 28 := by
            rw [← hF]
            rfl
          have hinfoF : (Tryz.prog.info? 37).map (·.size) = some F.size := by
            rw [hF28]
            kernel_rfl
          have FIN := Lib.hid (show ∀ (v5 : Value), OwnAt wc B 5 v5 (l.drop (E + 4)) → (∀ k, v5.ownBlock = some k → (Value.slice a5 n5 c5).ownBlock = some k) → ∀ w6, w6 = ((wc.setCell ⟨g, 2, none⟩ (.int .i64 0)).setCell ⟨g, 1, none⟩ v5) →
              Kept [g] wc w6 ∧ AliveAt w6 B g gs 0 v5 (H : Int) (E : Int) e (l.drop (E + 4)) ∧ Grows w (g :: gs :: ownL (.slice (some ⟨bb, off, none⟩) n c)) (g :: gs :: ownL v5) from fun v5 hv5 hv6 w6 hw6 => by
            have b6 := (BX.out.set 2 (.int .i64 0)).set 1 v5
            have k6 : Kept [g] wc w6 := by
              rw [hw6]
              exact ((Kept.refl _ _).setCell _ _ (.inl (by simp))).setCell _ _ (.inl (by simp))
            rw [← hw6] at b6
            refine ⟨k6, ⟨b6, ⟨true, SX.out.kept k6 (by simpa using fun hh => hgg hh.symm)⟩, hv5.kept k6 (fun k hk => by simpa using row_ne BX.out hv5 k hk), HA.out.hg, HA.out.hgs, PastF.zero _, by omega⟩, fun k hk => .inl ?_⟩
            rcases List.mem_cons.1 hk with rfl | hk
            · simp
            rcases List.mem_cons.1 hk with rfl | hk
            · simp
            have h1 := OB.out k (OB5.out k (hv6 k (mem_ownL.1 hk)))
            simp [mem_ownL.2 h1])
          have YIN := Lib.hid (show ∀ w6, Kept [g] wc w6 → y.In (w.heap.size ≤ ·) (w6.setRow w.heap.size F) from fun w6 hk => by
            have k7 := setRow_kept w6 w.heap.size F
            refine HYI.out.stay (Nat.le_trans hk.size k7.size) (fun b hlo hlt => ?_) (fun b hlo hlt => by omega)
            rw [k7.block b (Nat.lt_of_lt_of_le hlt hk.size) (by simp; omega)]
            exact hk.block b hlt (by simp; omega))
          have hggx : g ≠ gx := by omega
          have hwgx : w.heap.size ≠ gx := by omega
          have HF := Lib.hid hF
          clear hF
          by_cases hn0 : n5 = 0
          · obtain ⟨wa, hwa⟩ : ∃ wa, (wc.setCell ⟨g, 2, none⟩ (.int .i64 0)).setCell ⟨g, 1, none⟩ (.slice a5 n5 c5) = wa := ⟨_, rfl⟩
            obtain ⟨ka, aa, ga⟩ := FIN.out _ O5.out (fun _ h => h) wa hwa.symm
            have ca1 : wa.cell? ⟨g, 1, none⟩ = some (.slice a5 n5 c5) := aa.blk.cell 1
            have fa1 := aa.blk.frozen 1
            have hemp : l.drop (E + 4) = [] := by
              obtain ⟨_, _, _, e1, h1⟩ := O5.out.parts
              simp only [Value.slice.injEq] at e1
              obtain ⟨_, h2, _⟩ := e1
              exact List.eq_nil_of_length_eq_zero (by rw [h1.out, ← h2]; exact hn0)
            obtain ⟨w6, hw6'⟩ : ∃ w6, wa.setCell ⟨g, 1, none⟩ (.slice none 0 0) = w6 := ⟨_, rfl⟩
            obtain ⟨kb, sb, _⟩ := aa.cells 1 (.slice none 0 0)
            have b6 := aa.blk.set 1 (.slice none 0 0)
            rw [hw6'] at kb sb b6
            have k6 : Kept [g] wc w6 := ka.trans kb (Grows.refl _ _)
            have a6 : AliveAt w6 B g gs 0 (.slice none 0 0) (H : Int) (E : Int) e (l.drop (E + 4)) := ⟨b6, sb, by rw [hemp]; exact OwnAt.nil _ _ _, aa.hg, aa.hgs, PastF.zero _, by omega⟩
            have g6 : Grows w (g :: gs :: ownL (.slice (some ⟨bb, off, none⟩) n c)) (g :: gs :: ownL (.slice none 0 0)) := fun k hk => .inl (by
              simp [ownL, Value.ownBlock] at hk
              rcases hk with rfl | rfl <;> simp)
            have hvb : ∀ k, (Value.slice none 0 0).ownBlock = some k → (Value.slice (some ⟨bb, off, none⟩) n c).ownBlock = some k := fun k hk => by simp [Value.ownBlock] at hk
            have hn0b : ((n5 : Int) == 0) = true := by simp; omega
            clear ka aa ga kb sb b6 hemp hn0
            have x6 := k6.blk HBK.out (by simpa using fun hh => hggx hh.symm)
            have HB6 : w6.heap[gx]? = some (.cells F 37 (0, 0)) := by
              rw [← HF.out]
              exact x6
            have r6 := k6.blk RX.out (by simp; omega)
            have hst := msg_store w6 w.heap.size _ y r6 rfl
            rw [HF.out] at hst
            have Y6 := YIN.out w6 k6
            have k7 := setRow_kept w6 w.heap.size F
            obtain ⟨w7, hw7⟩ : ∃ w7, w6.setRow w.heap.size F = w7 := ⟨_, rfl⟩
            rw [hw7] at hst Y6 k7
            have HY7 := Lib.hid Y6
            have HB7 : w7.heap[w.heap.size]? = some (.cells F 37 (0, 0)) := by
              rw [← hw7, ← HF.out]
              exact setRow_blk r6 _
            have hgw : g ≠ w.heap.size := by omega
            have A7 := Lib.hid (a6.kept k7 (by simpa using hgw) (by simp; omega) (fun k hk => by
              have h2 := hvb k hk
              have h3 := (HA.out.own.lt k h2).2
              simp
              omega))
            have G6 := Lib.hid g6
            have K7 := Lib.hid (show Kept (g :: gs :: ownL (.slice (some ⟨bb, off, none⟩) n c)) w w7 from (KX.out.trans (k6.mono (G := g :: gs :: ownL (.slice (some ⟨bb, off, none⟩) n c)) (by simp)) (Grows.refl _ _)).trans k7 (fun x hx => by simp at hx; exact .inr (by omega)))
            clear k6 a6 g6 x6 r6 k7 hw7 Y6 hvb
            go_wp2_with (first | rw [hwa] | rw [hw6'] | (refine wp_load_e w6 (by rfl) 37 (.tmp 6) rfl gx 37 F _ (by rfl) HB6 Tryz.underlying37 rfl hinfoF ?_))
            (try simp only [Exit.inBlock, Exit.then])
            refine bodyPost_ret (results_row_tmp (p := 2) (q := 3) (ty := 37) rfl _ w7 w.heap.size 37 F (0, 0) _ rfl HB7 Tryz.underlying37 rfl hinfoF (.int .i64 0) rfl) rfl ?_
            refine ⟨K7.out, ?_⟩
            rw [GOT.out]
            exact ⟨y, _, by rw [HF.out], rfl, HY7.out, ⟨by omega, gs, _, _, _, _, A7.out, rfl⟩, G6.out⟩
          · obtain ⟨w6, hw6⟩ : ∃ w6, (wc.setCell ⟨g, 2, none⟩ (.int .i64 0)).setCell ⟨g, 1, none⟩ (.slice a5 n5 c5) = w6 := ⟨_, rfl⟩
            obtain ⟨k6, a6, g6⟩ := FIN.out _ O5.out (fun _ h => h) w6 hw6.symm
            have c16 : w6.cell? ⟨g, 1, none⟩ = some (.slice a5 n5 c5) := a6.blk.cell 1
            have hn0b : ((n5 : Int) == 0) = false := by simp; omega
            have hvb : ∀ k, (Value.slice a5 n5 c5).ownBlock = some k → (Value.slice (some ⟨bb, off, none⟩) n c).ownBlock = some k := fun k hk => OB.out k (OB5.out k hk)
            have x6 := k6.blk HBK.out (by simpa using fun hh => hggx hh.symm)
            have HB6 : w6.heap[gx]? = some (.cells F 37 (0, 0)) := by
              rw [← HF.out]
              exact x6
            have r6 := k6.blk RX.out (by simp; omega)
            have hst := msg_store w6 w.heap.size _ y r6 rfl
            rw [HF.out] at hst
            have Y6 := YIN.out w6 k6
            have k7 := setRow_kept w6 w.heap.size F
            obtain ⟨w7, hw7⟩ : ∃ w7, w6.setRow w.heap.size F = w7 := ⟨_, rfl⟩
            rw [hw7] at hst Y6 k7
            have HY7 := Lib.hid Y6
            have HB7 : w7.heap[w.heap.size]? = some (.cells F 37 (0, 0)) := by
              rw [← hw7, ← HF.out]
              exact setRow_blk r6 _
            have hgw : g ≠ w.heap.size := by omega
            have A7 := Lib.hid (a6.kept k7 (by simpa using hgw) (by simp; omega) (fun k hk => by
              have h2 := hvb k hk
              have h3 := (HA.out.own.lt k h2).2
              simp
              omega))
            have G6 := Lib.hid g6
            have K7 := Lib.hid (show Kept (g :: gs :: ownL (.slice (some ⟨bb, off, none⟩) n c)) w w7 from (KX.out.trans (k6.mono (G := g :: gs :: ownL (.slice (some ⟨bb, off, none⟩) n c)) (by simp)) (Grows.refl _ _)).trans k7 (fun x hx => by simp at hx; exact .inr (by omega)))
            clear k6 a6 g6 x6 r6 k7 hw7 Y6 hvb
            go_wp2_with (first | rw [hw6] | (refine wp_load_e w6 (by rfl) 37 (.tmp 6) rfl gx 37 F _ (by rfl) HB6 Tryz.underlying37 rfl hinfoF ?_))
            (try simp only [Exit.inBlock, Exit.then])
            refine bodyPost_ret (results_row_tmp (p := 2) (q := 3) (ty := 37) rfl _ w7 w.heap.size 37 F (0, 0) _ rfl HB7 Tryz.underlying37 rfl hinfoF (.int .i64 0) rfl) rfl ?_
            refine ⟨K7.out, ?_⟩
            rw [GOT.out]
            exact ⟨y, _, by rw [HF.out], rfl, HY7.out, ⟨by omega, gs, _, _, _, _, A7.out, rfl⟩, G6.out⟩
        · have NO := Lib.hid (show firstF l = .bad er from by
            rw [YES.out, hrd])
          have herb : ((er : Int) != 0) = true := by simp; omega
          clear hrd
          go_wp2_with (fail)
          refine (ffail_at (er : Int) g _ er wc BX.out rfl rfl).mono ?_
          rintro r w4 ⟨rfl, hd4, hk4⟩
          rw [HZ.out]
          have r4 := hk4.blk RX.out (by simp; omega)
          have hst := msg_store w4 w.heap.size _ (zeroL 0) r4 rfl
          rw [HZ.out] at hst
          obtain ⟨w5, hw5⟩ : ∃ w5, w4.setRow w.heap.size Z = w5 := ⟨_, rfl⟩
          rw [hw5] at hst
          have HB5 : w5.heap[w.heap.size]? = some (.cells Z 37 (0, 0)) := by
            rw [← hw5, ← HZ.out]
            exact setRow_blk r4 _
          have k5 : Kept [w.heap.size] w4 w5 := by rw [← hw5]; exact setRow_kept _ _ _
          have D5 := Lib.hid (k5.blk hd4 (by simp; omega))
          have KK := Lib.hid (show Kept (g :: gs :: ownL (.slice (some ⟨bb, off, none⟩) n c)) w w5 from (KX.out.trans (hk4.mono (G := g :: gs :: ownL (.slice (some ⟨bb, off, none⟩) n c)) (by simp)) (Grows.refl _ _)).trans k5 (fun x hx => by simp at hx; exact .inr (by omega)))
          clear hd4 hk4 r4 hw5 k5
          go_wp2
          (try simp only [Exit.inBlock, Exit.then])
          refine bodyPost_ret (results_row_tmp (p := 2) (q := 3) (ty := 37) rfl _ w5 w.heap.size 37 Z (0, 0) _ rfl HB5 Tryz.underlying37 rfl hinfo (.int .i64 (er : Int)) rfl) rfl ?_
          refine ⟨KK.out, ?_⟩
          rw [NO.out]
          exact ⟨by rw [HZ.out], D5.out, HA.out.hg, rfl⟩

set_option maxRecDepth 100000 in
set_option maxHeartbeats 25600000 in
theorem fnext_dead (B g : Nat) (F : List Nat) (e : Nat) (w : World) (h : RdrAt w B g F (.dead e)) :
    Calls Tryz.prog 30 #[.pointer (some ⟨g, 0, none⟩)] w fun r w' => r = .returned (.tuple #[.agg (zeroL 0).cells.toArray, .int .i64 (e : Int)]) ∧ Below w.heap.size w w' := by
  have H := Lib.hid h.1
  obtain ⟨Z, hZ⟩ : ∃ Z, (zeroL 0).cells.toArray = Z := ⟨_, rfl⟩
  have hz := msg_zero
  rw [hZ] at hz ⊢
  have hb4 : Z.size = 28 := by
    rw [← hZ]
    rfl
  have hb1 : (Z = #[]) = False := by
    rw [← hZ]
    simp [MsgL.cells]
  have hinfo : (Tryz.prog.info? 37).map (·.size) = some Z.size := by
    rw [hb4]
    kernel_rfl
  obtain ⟨w1, hw1⟩ : ∃ w1, w.alloc (.cells Z 37) = w1 := ⟨_, rfl⟩
  have b1 : Below w.heap.size w w1 := by rw [← hw1]; exact (Below.refl _ _).alloc (Nat.le_refl _) _
  have r1 : Blk w1 w.heap.size 37 (zeroL 0).cells := by rw [← hw1, ← hZ]; exact Blk.new w 37 (zeroL 0).cells.toArray
  have h1 := (Kept.of_below (F := []) b1 (Nat.le_refl _)).blk H.out (by simp)
  have c2 : w1.cell? ⟨g, 2, none⟩ = some (.int .i64 7) := h1.cell 2
  have c5 : w1.cell? ⟨g, 5, none⟩ = some (.int .i64 (e : Int)) := h1.cell 5
  have hst := msg_store w1.drew w.heap.size _ (zeroL 0) r1.drew rfl
  rw [hZ] at hst
  obtain ⟨w2, hw2⟩ : ∃ w2, w1.drew.setRow w.heap.size Z = w2 := ⟨_, rfl⟩
  rw [hw2] at hst
  have HB2 : w2.heap[w.heap.size]? = some (.cells Z 37 (0, 0)) := by
    rw [← hw2, ← hZ]
    exact setRow_blk r1.drew _
  have e5 : w2.cell? ⟨g, 5, none⟩ = some (.int .i64 (e : Int)) := by
    rw [← hw2]
    exact ((setRow_kept w1.drew w.heap.size Z).blk (Blk.drew h1) (by have := H.out.lt; simp; omega)).cell 5
  have B2 := Lib.hid (show Below w.heap.size w w2 from by
    rw [← hw2]
    exact below_kept2 b1.drew (Nat.le_refl _) (Nat.le_refl _) (setRow_kept _ _ _))
  clear h h1 b1 r1 hw2 hZ
  go_enter Tryz.func30, Tryz.ntmps30
  go_wp2_with (fail)
  try rw [hw1]
  clear hw1
  go_loopw [4] (fun _ wr => wr = w1) (fun _ _ => 0)
  case atStart => rfl
  case round =>
    subst hrel
    go_wp2
    go_region
    all_goals
      go_wp2
      (try simp only [Exit.inBlock, Exit.then])
      refine bodyPost_ret (results_row_tmp (p := 2) (q := 3) (ty := 37) rfl _ w2 w.heap.size 37 Z (0, 0) _ rfl HB2 Tryz.underlying37 rfl hinfo (.int .i64 (e : Int)) rfl) rfl ?_
      exact ⟨rfl, B2.out⟩

theorem RdrAt.kept {w w' : World} {B g : Nat} {F G : List Nat} {s : RdSt} (h : RdrAt w B g F s) (hk : Kept G w w') (hF : ∀ k ∈ F, k ∉ G) : RdrAt w' B g F s := by
  cases s with
  | alive p l =>
    obtain ⟨hp, gs, v, b, en, e, ha, rfl⟩ := h
    exact ⟨hp, gs, v, b, en, e, ha.kept hk (hF g (by simp)) (hF gs (by simp)) (fun k hk => hF k (by simp [mem_ownL.2 hk])), rfl⟩
  | dead e =>
    obtain ⟨h1, h2, rfl⟩ := h
    exact ⟨hk.blk h1 (hF g (by simp)), h2, rfl⟩
theorem RdrAt.lt {w : World} {B g : Nat} {F : List Nat} {s : RdSt} (h : RdrAt w B g F s) : ∀ k ∈ F, B ≤ k ∧ k < w.heap.size := by
  cases s with
  | alive p l =>
    obtain ⟨hp, gs, v, b, en, e, ha, rfl⟩ := h
    obtain ⟨t, hs⟩ := ha.sum
    intro k hk
    rcases List.mem_cons.1 hk with rfl | hk
    · exact ⟨ha.hg, ha.blk.lt⟩
    rcases List.mem_cons.1 hk with rfl | hk
    · exact ⟨ha.hgs, hs.lt⟩
    exact ha.own.lt k (mem_ownL.1 hk)
  | dead e =>
    obtain ⟨h1, h2, rfl⟩ := h
    intro k hk
    simp at hk
    subst hk
    exact ⟨h2, h1.lt⟩
theorem RdrAt.mem {w : World} {B g : Nat} {F : List Nat} {s : RdSt} (h : RdrAt w B g F s) : g ∈ F := by
  cases s with
  | alive p l =>
    obtain ⟨hp, gs, v, b, en, e, ha, rfl⟩ := h
    simp
  | dead e =>
    obtain ⟨h1, h2, rfl⟩ := h
    simp
theorem NextPost.shape {B g : Nat} {F l : List Nat} {w w' : World} {r : Ending} (h : NextPost B g F l w r w') : ∃ (y : MsgL) (er : Int), r = .returned (.tuple #[.agg y.cells.toArray, .int .i64 er]) := by
  obtain ⟨_, h⟩ := h
  cases hf : firstF l with
  | more => rw [hf] at h; exact ⟨zeroL 0, 40, h.1⟩
  | bad e => rw [hf] at h; exact ⟨zeroL 0, e, h.1⟩
  | got x n =>
    rw [hf] at h
    obtain ⟨y, F', h1, _⟩ := h
    exact ⟨y, 0, h1⟩
theorem NextPost.carry {B g : Nat} {F l : List Nat} {w w1 w4 w5 : World} {r : Ending} (h : NextPost B g F l w1 r w4) (hk : Kept F w w1) (hs : w.heap.size < w1.heap.size) (hF : ∀ k ∈ F, k < w.heap.size) (hg : g ∈ F) (k5 : Kept [w.heap.size] w4 w5) : NextPost B g F l w r w5 := by
  obtain ⟨k4, h⟩ := h
  have hgr : ∀ F', Grows w1 F F' → (∀ k ∈ F', k ∉ [w.heap.size]) ∧ Grows w F F' := fun F' hgr => ⟨fun k hk => by
    rcases hgr k hk with h1 | h1
    · have := hF k h1
      simp
      omega
    · simp
      omega, fun k hk => (hgr k hk).imp id (fun h => by omega)⟩
  refine ⟨(hk.trans k4 (Grows.refl _ _)).trans k5 (fun k hk => by simp at hk; exact .inr (by omega)), ?_⟩
  cases hf : firstF l with
  | more =>
    rw [hf] at h
    obtain ⟨h1, p, F', h2, h3⟩ := h
    exact ⟨h1, p, F', h2.kept k5 (hgr F' h3).1, (hgr F' h3).2⟩
  | bad e =>
    rw [hf] at h
    obtain ⟨h1, h2⟩ := h
    exact ⟨h1, h2.kept k5 (fun k hk => by
      have := hF g hg
      simp at hk
      subst hk
      simp
      omega)⟩
  | got x n =>
    rw [hf] at h
    obtain ⟨y, F', h1, h2, h3, h4, h5⟩ := h
    exact ⟨y, F', h1, h2, h3.stay k5.size (fun b hlo hlt => k5.block b hlt (by simp; omega)) (fun b hlo _ => by omega), h4.kept k5 (hgr F' h5).1, (hgr F' h5).2⟩

/-- The state of Next's loop. -/
def NextI (B g gs p : Nat) (v : Value) (e : Int) (l F : List Nat) (w wr : World) : Prop :=
  (∃ b en, AliveAt wr B g gs p v b en e l) ∧ Kept F w wr ∧ Blk wr w.heap.size 37 (zeroL 0).cells
def phaseOf (w : World) (g : Nat) : Nat := (intOf ((w.cell? ⟨g, 2, none⟩).getD undef)).toNat

set_option maxRecDepth 100000 in
set_option maxHeartbeats 25600000 in
theorem fnext_alive (B g : Nat) (F : List Nat) (p0 : Nat) (l : List Nat) (w : World) (h : RdrAt w B g F (.alive p0 l)) (hl : l.length ≤ 1000000000) (hB : B ≤ w.heap.size) :
    Calls Tryz.prog 30 #[.pointer (some ⟨g, 0, none⟩)] w fun r w' => NextPost B g F l w r w' := by
  have HLT := Lib.hid (fun k hk => (h.lt k hk).2)
  have HMEM := Lib.hid h.mem
  obtain ⟨hp5, gs, v, b, en, e, ha, hF⟩ := h
  have HFE := Lib.hid hF
  obtain ⟨Z, hZ⟩ : ∃ Z, (zeroL 0).cells.toArray = Z := ⟨_, rfl⟩
  have hz := msg_zero
  rw [hZ] at hz
  have hb4 : Z.size = 28 := by
    rw [← hZ]
    rfl
  have hb1 : (Z = #[]) = False := by
    rw [← hZ]
    simp [MsgL.cells]
  have hinfo : (Tryz.prog.info? 37).map (·.size) = some Z.size := by
    rw [hb4]
    kernel_rfl
  obtain ⟨w1, hw1⟩ : ∃ w1, w.alloc (.cells Z 37) = w1 := ⟨_, rfl⟩
  have b1 : Below w.heap.size w w1 := by rw [← hw1]; exact (Below.refl _ _).alloc (Nat.le_refl _) _
  have N1 := Lib.hid (show NextI B g gs p0 v e l F w w1 from ⟨⟨b, en, ha.on b1⟩, Kept.of_below b1 (Nat.le_refl _), by rw [← hw1, ← hZ]; exact Blk.new w 37 (zeroL 0).cells.toArray⟩)
  have hgl := ha.blk.lt
  have HZ := Lib.hid hZ
  clear ha hF b1 hZ
  go_enter Tryz.func30, Tryz.ntmps30
  go_wp2_with (fail)
  try rw [hw1]
  clear hw1
  go_loopw [4] (fun _ wr => ∃ p, p ≤ 6 ∧ Hid (NextI B g gs p v e l F w wr)) (fun _ wr => 6 - phaseOf wr g)
  case atStart => exact ⟨p0, by omega, N1.out⟩
  case round =>
    clear N1
    obtain ⟨p, hp, HI⟩ := hrel
    obtain ⟨⟨b', en', ha⟩, hk, hr⟩ := HI.out
    have HA := Lib.hid ha
    have HK := Lib.hid hk
    have HR := Lib.hid hr
    have hsz := hk.size
    have hrl := hr.lt
    obtain ⟨q, hq⟩ : ∃ q : Int, (p : Int) = q := ⟨_, rfl⟩
    have c2 : wr.cell? ⟨g, 2, none⟩ = some (.int .i64 q) := by rw [← hq]; exact ha.blk.cell 2
    have HPH := Lib.hid (show phaseOf wr g = p from by
      unfold phaseOf
      rw [c2]
      simp [intOf]
      omega)
    clear ha hk hr HI
    by_cases hp6 : p = 6
    · subst hp6
      have hqd : decide (q < 6) = false := decide_eq_false (by omega)
      have hq7 : (q == 7) = false := by simp; omega
      go_wp2_with (fail)
      have ht := ftake_any B g gs v b' en' e l wr HA.out hl (by omega)
      rw [← HFE.out] at ht
      refine ht.mono ?_
      rintro r w4 hpost
      obtain ⟨y, er, rfl⟩ := hpost.shape
      have HP := Lib.hid hpost
      obtain ⟨Y, hY⟩ : ∃ Y, y.cells.toArray = Y := ⟨_, rfl⟩
      have hY28 : Y.size = 28 := by
        rw [← hY]
        rfl
      have hinfoY : (Tryz.prog.info? 37).map (·.size) = some Y.size := by
        rw [hY28]
        kernel_rfl
      have r4 : Blk w4 w.heap.size 37 (zeroL 0).cells := hpost.1.blk HR.out (fun hh => by have := HLT.out _ hh; omega)
      have hst := msg_store w4 w.heap.size _ y r4 rfl
      rw [hY] at hst HP ⊢
      have k5 := setRow_kept w4 w.heap.size Y
      obtain ⟨w5, hw5⟩ : ∃ w5, w4.setRow w.heap.size Y = w5 := ⟨_, rfl⟩
      rw [hw5] at hst k5
      have HB5 : w5.heap[w.heap.size]? = some (.cells Y 37 (0, 0)) := by
        rw [← hw5, ← hY]
        exact setRow_blk r4 _
      have FIN := Lib.hid (HP.out.carry HK.out hrl HLT.out HMEM.out k5)
      clear ht hpost r4 k5 hw5 HP HA HK HR c2
      go_wp2
      (try simp only [Exit.inBlock, Exit.then])
      refine bodyPost_ret (results_row_tmp (p := 2) (q := 3) (ty := 37) rfl _ w5 w.heap.size 37 Y (0, 0) _ rfl HB5 Tryz.underlying37 rfl hinfoY (.int .i64 er) rfl) rfl ?_
      exact FIN.out
    · have hqd : decide (q < 6) = true := decide_eq_true (by omega)
      have hqt : q.toNat = p := by omega
      go_wp2_with (fail)
      refine (flook_any B g gs p v b' en' e l wr (by omega) HA.out hl).mono ?_
      rintro r w4 ⟨rfl, k4, b4, en4, a4, hpl⟩
      obtain ⟨z, hz'⟩ : ∃ z, lookF p l = z := ⟨_, rfl⟩
      rw [hz'] at hpl ⊢
      have HZZ := Lib.hid hz'
      have HPL := Lib.hid hpl
      have A4 := Lib.hid a4
      have K4 := Lib.hid (HK.out.trans (k4.mono (G := F) (by rw [HFE.out]; simp)) (Grows.refl _ _))
      have R4 := Lib.hid (k4.blk HR.out (by simp; omega))
      have hs4 := K4.out.size
      have d2 : w4.cell? ⟨g, 2, none⟩ = some (.int .i64 q) := by rw [← hq]; exact a4.blk.cell 2
      have f2 := a4.blk.frozen 2
      have hr4 := R4.out.lt
      clear hz' hpl a4 k4 HA HK HR c2
      by_cases z0 : z = 0
      · subst z0
        have hwq : IntKind.i64.wrap (q + 1) = q + 1 := by rw [IntKind.wrap_i64]; omega
        have NEW := Lib.hid (show NextI B g gs (p + 1) v e l F w (w4.setCell ⟨g, 2, none⟩ (.int .i64 (q + 1))) from by
          obtain ⟨k5, s5, o5⟩ := A4.out.cells 2 (.int .i64 (q + 1))
          refine ⟨⟨b4, en4, ?_, s5, o5, A4.out.hg, A4.out.hgs, A4.out.past.next HZZ.out, fun h5 => HPL.out rfl (by omega)⟩, K4.out.trans (k5.mono (G := F) (by rw [HFE.out]; simp)) (Grows.refl _ _), k5.blk R4.out (by simp; omega)⟩
          have h5 := A4.out.blk.set 2 (.int .i64 (q + 1))
          have : ((p + 1 : Nat) : Int) = q + 1 := by omega
          rw [this]
          exact h5)
        have HPH2 := Lib.hid (show phaseOf (w4.setCell ⟨g, 2, none⟩ (.int .i64 (q + 1))) g = p + 1 from by
          unfold phaseOf
          rw [World.cell?_setCell_same _ _ _ d2]
          simp [intOf]
          omega)
        clear A4 K4 R4 HZZ HPL
        go_wp2
        go_roundw
        case rel => exact ⟨p + 1, by omega, NEW.out⟩
        case measure => rw [HPH.out, HPH2.out]; omega
      · have z0b : ((z : Int) == 0) = false := by simp; omega
        by_cases z40 : z = 40
        · subst z40
          have FST := Lib.hid (show firstF l = .more from firstF_more (by omega) A4.out.past HZZ.out)
          have hst := msg_store w4 w.heap.size _ (zeroL 0) R4.out rfl
          rw [HZ.out] at hst
          have k5 := setRow_kept w4 w.heap.size Z
          obtain ⟨w5, hw5⟩ : ∃ w5, w4.setRow w.heap.size Z = w5 := ⟨_, rfl⟩
          rw [hw5] at hst k5
          have HB5 : w5.heap[w.heap.size]? = some (.cells Z 37 (0, 0)) := by
            rw [← hw5, ← HZ.out]
            exact setRow_blk R4.out _
          have FIN := Lib.hid (show NextPost B g F l w (.returned (.tuple #[.agg (zeroL 0).cells.toArray, .int .i64 40])) w5 from by
            refine ⟨K4.out.trans k5 (fun k hk => by simp at hk; exact .inr (by omega)), ?_⟩
            rw [FST.out]
            exact ⟨rfl, p, F, (show RdrAt w4 B g F (.alive p l) from ⟨by omega, gs, v, b4, en4, e, A4.out, HFE.out⟩).kept k5 (fun k hk => by have := HLT.out k hk; simp; omega), Grows.refl _ _⟩)
          rw [HZ.out] at FIN
          clear A4 K4 R4 HZZ HPL k5 hw5
          go_wp2
          (try simp only [Exit.inBlock, Exit.then])
          refine bodyPost_ret (results_row_tmp (p := 2) (q := 3) (ty := 37) rfl _ w5 w.heap.size 37 Z (0, 0) _ rfl HB5 Tryz.underlying37 rfl hinfo (.int .i64 40) rfl) rfl ?_
          exact FIN.out
        · have z40b : ((z : Int) == 40) = false := by simp; omega
          have FST := Lib.hid (show firstF l = .bad z from by
            have h1 := firstF_bad (by omega) A4.out.past (by rw [HZZ.out]; exact z40) (by rw [HZZ.out]; exact z0)
            rw [HZZ.out] at h1
            exact h1)
          go_wp2_with (fail)
          refine (ffail_at (z : Int) g _ z w4 A4.out.blk rfl rfl).mono ?_
          rintro r w6 ⟨rfl, hd6, hk6⟩
          have r6 := hk6.blk R4.out (by simp; omega)
          have hst := msg_store w6 w.heap.size _ (zeroL 0) r6 rfl
          rw [HZ.out] at hst ⊢
          have k5 := setRow_kept w6 w.heap.size Z
          obtain ⟨w5, hw5⟩ : ∃ w5, w6.setRow w.heap.size Z = w5 := ⟨_, rfl⟩
          rw [hw5] at hst k5
          have HB5 : w5.heap[w.heap.size]? = some (.cells Z 37 (0, 0)) := by
            rw [← hw5, ← HZ.out]
            exact setRow_blk r6 _
          have FIN := Lib.hid (show NextPost B g F l w (.returned (.tuple #[.agg (zeroL 0).cells.toArray, .int .i64 (z : Int)])) w5 from by
            refine ⟨(K4.out.trans (hk6.mono (G := F) (by rw [HFE.out]; simp)) (Grows.refl _ _)).trans k5 (fun k hk => by simp at hk; exact .inr (by omega)), ?_⟩
            rw [FST.out]
            exact ⟨rfl, k5.blk hd6 (by simp; omega), A4.out.hg, rfl⟩)
          rw [HZ.out] at FIN
          clear A4 K4 R4 HZZ HPL k5 hw5 hd6 hk6 r6
          go_wp2
          (try simp only [Exit.inBlock, Exit.then])
          refine bodyPost_ret (results_row_tmp (p := 2) (q := 3) (ty := 37) rfl _ w5 w.heap.size 37 Z (0, 0) _ rfl HB5 Tryz.underlying37 rfl hinfo (.int .i64 (z : Int)) rfl) rfl ?_
          exact FIN.out

def oneL : MsgL := { zeroL 7 with n := 1 }
theorem oneL_in (ok : Nat → Prop) (w : World) : oneL.In ok w := { zeroL_in ok w 7 (by decide) with hn := (by decide : (1 : Nat) ≤ 4294967295) }
theorem one_fit : fitM oneL.toM := ⟨[.n], rfl, rfl, fun f hf => by
  simp at hf
  subst hf
  exact (by decide : (1 : Nat) ≤ 4294967295)⟩
theorem one_bytes : bytesM oneL.toM = [1] := by
  show ([vput 1] : List (List Nat)).flatten = _
  rw [vput_small (by decide)]
  rfl
theorem one_len : (frameF 7 [1]).length = 10 := by
  unfold frameF openF
  simp [sumL_len, vput_small]
theorem one_first : firstF (frameF 7 [1]) = .got oneL.toM 10 := by
  have h := frame_found one_fit (by rw [one_bytes]; decide) []
  rw [one_bytes, List.append_nil] at h
  have e : oneL.toM.kind = 7 := rfl
  rw [e, one_len] at h
  exact h
theorem NextPost.got {B g n : Nat} {F l : List Nat} {w w' : World} {r : Ending} {x : MsgV} (h : NextPost B g F l w r w') (hf : firstF l = .got x n) : Kept F w w' ∧ ∃ (y : MsgL) (F' : List Nat), r = .returned (.tuple #[.agg y.cells.toArray, .int .i64 0]) ∧ y.toM = x ∧ y.In (w.heap.size ≤ ·) w' ∧ RdrAt w' B g F' (.alive 0 (l.drop n)) ∧ Grows w F F' := by
  obtain ⟨h1, h2⟩ := h
  rw [hf] at h2
  exact ⟨h1, h2⟩
theorem NextPost.more {B g : Nat} {F l : List Nat} {w w' : World} {r : Ending} (h : NextPost B g F l w r w') (hf : firstF l = .more) : Kept F w w' ∧ r = .returned (.tuple #[.agg (zeroL 0).cells.toArray, .int .i64 40]) ∧ ∃ p F', RdrAt w' B g F' (.alive p l) ∧ Grows w F F' := by
  obtain ⟨h1, h2⟩ := h
  rw [hf] at h2
  exact ⟨h1, h2⟩
theorem NextPost.bad {B g e : Nat} {F l : List Nat} {w w' : World} {r : Ending} (h : NextPost B g F l w r w') (hf : firstF l = .bad e) : Kept F w w' ∧ r = .returned (.tuple #[.agg (zeroL 0).cells.toArray, .int .i64 (e : Int)]) ∧ RdrAt w' B g [g] (.dead e) := by
  obtain ⟨h1, h2⟩ := h
  rw [hf] at h2
  exact ⟨h1, h2⟩

/-- x lies in block bx, the reader's footprint elsewhere. -/
def ExAt (B bx : Nat) (w0 w : World) (F : List Nat) : Prop :=
  Below B w0 w ∧ B ≤ w0.heap.size ∧ bx ∉ F ∧ bx < w.heap.size ∧ w.cell? ⟨bx, 0, none⟩ = some (.int .u8 7) ∧ w.cell? ⟨bx, 5, none⟩ = some (.int .u32 1)
theorem ExAt.kept {B bx : Nat} {w0 w w' : World} {F F' : List Nat} (h : ExAt B bx w0 w F) (hk : Kept F w w') (hg : Grows w F F') (hF : ∀ k ∈ F, B ≤ k) : ExAt B bx w0 w' F' := by
  obtain ⟨h1, h0, h2, h3, h4, h5⟩ := h
  refine ⟨h1.trans (hk.below hF (Nat.le_trans h0 h1.size)), h0, fun hx => ?_, Nat.lt_of_lt_of_le h3 hk.size, ?_, ?_⟩
  · rcases hg _ hx with h | h
    · exact h2 h
    · omega
  · rw [hk.cell (p := ⟨bx, 0, none⟩) h3 h2]
    exact h4
  · rw [hk.cell (p := ⟨bx, 5, none⟩) h3 h2]
    exact h5
theorem ExAt.alloc {B bx : Nat} {w0 w : World} {F : List Nat} (h : ExAt B bx w0 w F) (o : Obj) : ExAt B bx w0 (w.alloc o) F := by
  obtain ⟨h1, h0, h2, h3, h4, h5⟩ := h
  have k : Kept [] w (w.alloc o) := (Kept.refl _ _).alloc o
  exact ⟨h1.alloc (Nat.le_trans h0 h1.size) o, h0, h2, Nat.lt_of_lt_of_le h3 k.size, (k.cell (p := ⟨bx, 0, none⟩) h3 (by simp)).trans h4, (k.cell (p := ⟨bx, 5, none⟩) h3 (by simp)).trans h5⟩

set_option maxRecDepth 100000 in
set_option maxHeartbeats 12800000 in
theorem alive7 (w : World) : Calls Tryz.prog 25 #[] w fun e w' => e = .returned (.bool true) ∧ Below w.heap.size w w' := by
  obtain ⟨Z, hZ⟩ : ∃ Z, (zeroL 0).cells.toArray = Z := ⟨_, rfl⟩
  obtain ⟨PA, hPA⟩ : ∃ PA, oneL.cells.toArray = PA := ⟨_, rfl⟩
  have hz := msg_zero
  rw [hZ] at hz
  have hb1 : (Z = #[]) = False := by
    rw [← hZ]
    simp [MsgL.cells]
  have hb2 : (Z.setIfInBounds 0 (.int .u8 7)).setIfInBounds 5 (.int .u32 1) = PA := by
    rw [← hZ, ← hPA]
    rfl
  have hb4 : Z.size = 28 := by
    rw [← hZ]
    rfl
  have hb4' := hb4
  have HZ := Lib.hid hZ
  have HPA := Lib.hid hPA
  clear hZ hPA
  go_enter Tryz.func25, Tryz.ntmps25
  go_wp2_with (fail)
  rw [← HPA.out]
  refine (enc_any oneL w (oneL_in (· < w.heap.size) w)).mono ?_
  rintro e w1 ⟨hb1', ⟨_, _, v, rfl, ho⟩ | ⟨hn, _⟩ | ⟨_, hn, _⟩⟩
  rotate_left
  · exact absurd one_fit hn
  · rw [one_bytes] at hn
    simp at hn
  rw [one_bytes] at ho
  obtain ⟨fr, hfr⟩ : ∃ fr, frameF 7 [1] = fr := ⟨_, rfl⟩
  have hl := one_len
  have hfst := one_first
  have ho : OwnV w1 w.heap.size 5 v (frameF 7 [1]) := ho
  rw [hfr] at ho hl hfst
  obtain ⟨a, c, rfl, hr1, _⟩ := ho.reads (by omega)
  rw [hl] at hr1 ⊢
  have R1 := Lib.hid hr1
  have HL := Lib.hid hl
  have HFS := Lib.hid hfst
  have B1 := Lib.hid hb1'
  clear hb1' ho hr1 hfr hl hfst
  go_wp2_with (fail)
  refine (fnew_any w1).mono ?_
  rintro e w2 ⟨g, F, rfl, hrd, hFl, hb2'⟩
  have D2 := Lib.hid hrd
  have B2 := Lib.hid (below_on B1.out hb2')
  have R2 := Lib.hid (R1.out.on hb2')
  have hs1 := B1.out.size
  have hs2 := hb2'.size
  clear hrd hFl hb2'
  go_wp2_with (fail)
  refine (ffeed_alive w1.heap.size g F 0 [] a 10 c fr w2 D2.out R2.out (by simp) hs2).mono ?_
  rintro e w3 ⟨rfl, F3, hrd, hk, hgr⟩
  have D3 := Lib.hid (show RdrAt w3 w1.heap.size g F3 (.alive 0 fr) from hrd)
  have B3 := Lib.hid (show Below w.heap.size w w3 from B2.out.trans (hk.below (fun k hk => by have := (D2.out.lt k hk).1; omega) (by omega)))
  have hs3 := hk.size
  clear hrd hk hgr R1 R2
  go_wp2_with (fail)
  refine (fnext_alive w1.heap.size g F3 0 fr w3 D3.out (by rw [HL.out]; omega) (by omega)).mono ?_
  rintro e w4 hp
  obtain ⟨hk, y, F4, rfl, hym, hyi, hrd, hgr⟩ := hp.got HFS.out
  have hdr : fr.drop 10 = [] := List.drop_eq_nil_of_le (by rw [HL.out]; omega)
  rw [hdr] at hrd
  obtain ⟨Y, hY⟩ : ∃ Y, y.cells.toArray = Y := ⟨_, rfl⟩
  have hst := msg_store_new w4 Z y hb4'
  rw [hY] at hst ⊢
  have hY28 : Y.size = 28 := by
    rw [← hY]
    rfl
  obtain ⟨w5, hw5⟩ : ∃ w5, w4.alloc (.cells Y 37) = w5 := ⟨_, rfl⟩
  have B4 := Lib.hid (show Below w.heap.size w w4 from B3.out.trans (hk.below (fun k hk => by have := (D3.out.lt k hk).1; omega) (by omega)))
  have hs4 := hk.size
  have E5 := Lib.hid (show ExAt w.heap.size w4.heap.size w w5 F4 from by
    have x5 : Blk w5 w4.heap.size 37 y.cells := by rw [← hw5, ← hY]; exact Blk.new w4 37 y.cells.toArray
    refine ⟨by rw [← hw5]; exact B4.out.alloc B4.out.size _, Nat.le_refl _, fun hx => by have := (hrd.lt _ hx).2; omega, x5.lt, ?_, ?_⟩
    · have h1 : w5.cell? ⟨w4.heap.size, 0, none⟩ = some (.int .u8 (y.kind : Int)) := x5.cell 0
      rw [h1, show y.kind = 7 from congrArg MsgV.kind hym]
      rfl
    · have h1 : w5.cell? ⟨w4.heap.size, 5, none⟩ = some (.int .u32 (y.n : Int)) := x5.cell 5
      rw [h1, show y.n = 1 from congrArg MsgV.n hym]
      rfl)
  have D5 := Lib.hid (show RdrAt w5 w1.heap.size g F4 (.alive 0 []) from by rw [← hw5]; exact hrd.kept (F := F4) ((Kept.refl [] w4).alloc _) (by simp))
  have hs5 : w4.heap.size < w5.heap.size := by rw [← hw5]; simp
  clear hp hk hym hyi hrd hgr hdr hY D3 D2 B3 B2
  have H6 := Lib.hid (BReads.built w5 [76] 5 (by decide) (by decide))
  have D6 := Lib.hid (D5.out.kept ((Kept.refl [] w5).alloc (.cells (([76] : List Nat).map byteV).toArray 5)) (by simp))
  have E6 := Lib.hid (E5.out.alloc (.cells (([76] : List Nat).map byteV).toArray 5))
  go_wp2_with (fail)
  try rw [hw5]
  clear hw5 hst
  refine (ffeed_alive w1.heap.size g F4 0 [] _ 1 1 [76] _ D6.out H6.out (by simp) (by simp; omega)).mono ?_
  rintro e w7 ⟨rfl, F7, hrd, hk, hgr⟩
  have D7 := Lib.hid (show RdrAt w7 w1.heap.size g F7 (.alive 0 [76]) from hrd)
  have E7 := Lib.hid (E6.out.kept hk hgr (fun k hk => by have := (D6.out.lt k hk).1; omega))
  have hs7 := E7.out.1.size
  have hs7' : w1.heap.size ≤ w7.heap.size := by have h1 := hk.size; simp at h1; omega
  clear hrd hk hgr D6 E6 H6 D5 E5
  go_wp2_with (fail)
  refine (fnext_alive w1.heap.size g F7 0 [76] w7 D7.out (by simp) hs7').mono ?_
  rintro e w8 hp
  obtain ⟨hk, rfl, p8, F8, hrd, hgr⟩ := hp.more rfl
  have hst8 := msg_store_new w8 Z (zeroL 0) hb4'
  rw [HZ.out] at hst8 ⊢
  obtain ⟨w9, hw9⟩ : ∃ w9, w8.alloc (.cells Z 37) = w9 := ⟨_, rfl⟩
  rw [hw9] at hst8
  have D9 := Lib.hid (show RdrAt w9 w1.heap.size g F8 (.alive p8 [76]) from by rw [← hw9]; exact hrd.kept ((Kept.refl [] w8).alloc _) (by simp))
  have E9 := Lib.hid (show ExAt w.heap.size w4.heap.size w w9 F8 from by rw [← hw9]; exact (E7.out.kept hk hgr (fun k hk => by have := (D7.out.lt k hk).1; omega)).alloc _)
  have hs9 : w1.heap.size ≤ w9.heap.size := by have h1 := hk.size; rw [← hw9]; simp; omega
  clear hp hk hrd hgr D7 E7
  have H10 := Lib.hid (BReads.built w9 [69] 5 (by decide) (by decide))
  have D10 := Lib.hid (D9.out.kept ((Kept.refl [] w9).alloc (.cells (([69] : List Nat).map byteV).toArray 5)) (by simp))
  have E10 := Lib.hid (E9.out.alloc (.cells (([69] : List Nat).map byteV).toArray 5))
  go_wp2_with (fail)
  try rw [hw9]
  clear hw9 hst8
  refine (ffeed_alive w1.heap.size g F8 p8 [76] _ 1 1 [69] _ D10.out H10.out (by simp) (by simp; omega)).mono ?_
  rintro e w11 ⟨rfl, F11, hrd, hk, hgr⟩
  have D11 := Lib.hid (show RdrAt w11 w1.heap.size g F11 (.alive p8 [76, 69]) from hrd)
  have E11 := Lib.hid (E10.out.kept hk hgr (fun k hk => by have := (D10.out.lt k hk).1; omega))
  have hs11 : w1.heap.size ≤ w11.heap.size := by have h1 := hk.size; simp at h1; omega
  clear hrd hk hgr D10 E10 H10 D9 E9
  go_wp2_with (fail)
  refine (fnext_alive w1.heap.size g F11 p8 [76, 69] w11 D11.out (by simp) hs11).mono ?_
  rintro e w12 hp
  obtain ⟨hk, rfl, hrd⟩ := hp.bad (e := 70) rfl
  have hst12 := msg_store_new w12 Z (zeroL 0) hb4'
  rw [HZ.out] at hst12 ⊢
  obtain ⟨w13, hw13⟩ : ∃ w13, w12.alloc (.cells Z 37) = w13 := ⟨_, rfl⟩
  rw [hw13] at hst12
  have E13 := Lib.hid (show ExAt w.heap.size w4.heap.size w w13 F11 from by rw [← hw13]; exact (E11.out.kept hk (Grows.refl _ _) (fun k hk => by have := (D11.out.lt k hk).1; omega)).alloc _)
  obtain ⟨_, _, _, hx13, x0, x5⟩ := E13.out
  clear hp hk hrd D11 E11
  go_wp2
  go_ret
  exact ⟨rfl, E13.out.1⟩
end Go.Proofs.YtemnmjfeljipjaaGreat
