/-
  The document's Put, by a walk over its text.
-/
import Derived.Test.YtemnmjfeljipjaaGreatMw
import Derived.Test.YtemnmjfeljipjaaGreatMj
import Derived.Test.YtemnmjfeljipjaaGreatMq
import Derived.Test.YtemnmjfeljipjaaGreatSp
import Derived.Test.YtemnmjfeljipjaaGreatEl
import Derived.Deep.RegionWith
import Derived.BigQuiet
import Derived.BigRegion
namespace Go.Proofs.YtemnmjfeljipjaaGreat
open Go.RowKit

theorem any_cons {P : Program} {md : Region.Mode} {ops : Array Oper} {Q : Exit → Act → World → Prop} {fuel : Nat} {listed : Array Bool} {a : Act} {w : World} (is : List Nat) (hr : Region.ready md ops listed = is) (hne : is ≠ []) (h : ∀ i ∈ is, wpOp P ops Q i (wpAny P md ops Q fuel (listed.setIfInBounds i true)) a w) : wpAny P md ops Q (fuel + 1) listed a w := by
  refine ⟨fun h0 => absurd (hr.symm.trans h0) hne, ?_⟩
  rw [hr]
  exact h
theorem wp_load_one {P : Program} {o : Oper} {act : Act} {K : Act → World → Prop} {Q : Exit → Act → World → Prop} (w : World) (ty : TypeId) (x : Operand) (hop : o.op = .load ty x) (g : Nat) (t : TypeId) (cs : Array Value) (d : TypeDesc)
    (hx : act.eval x = .pointer (some ⟨g, 0, none⟩)) (hb : w.heap[g]? = some (.cells cs t (0, 0))) (hu : P.underlying ty = some d) (hd : (match d with | .struct _ | .array _ _ => true | _ => false) = true) (hi : (P.info? ty).map (·.size) = some cs.size)
    (h : K (act.put o.dst (.agg cs)) w) : o.wp P act w K Q := by
  have hl := run_loadVar_row (P := P) w g t ty cs (0, 0) d hb hu hd hi
  unfold Oper.wp execOp
  simp only [hop, hx, Instr.loadAt, Instr.sureAddr, Sem.run_bind, Sem.run_pure, Result.andThen_ok, hl]
  exact h


/-- Of the fields i are written, or one couldn't be. -/
def PutD (fs : List Fld) (x : MsgV) (B : Nat) (w0 : World) (i : Nat) (t : Bool) (v : Value) (w : World) : Prop :=
  Below B w0 w ∧ B ≤ w0.heap.size ∧ ((t = true ∧ fitF (fs.take i) x ∧ OwnV w B 5 v (encF (fs.take i) x)) ∨ (t = false ∧ ¬ fitF fs x))
section
variable {fs : List Fld} {x : MsgV} {B i : Nat} {v v' : Value} {w0 w w' : World} {f : Fld}
theorem PutD.yes (h : PutD fs x B w0 i true v w) : Below B w0 w ∧ B ≤ w.heap.size ∧ fitF (fs.take i) x ∧ OwnV w B 5 v (encF (fs.take i) x) := by
  obtain ⟨h1, hB, ⟨_, h2, h3⟩ | ⟨h0, _⟩⟩ := h
  · exact ⟨h1, Nat.le_trans hB h1.size, h2, h3⟩
  · cases h0
theorem PutD.own (h : PutD fs x B w0 i true v w) : OwnV w B 5 v (encF (fs.take i) x) := h.yes.2.2.2
theorem PutD.no (h : PutD fs x B w0 i false v w) : Below B w0 w ∧ ¬ fitF fs x := by
  obtain ⟨h1, _, ⟨h0, _⟩ | ⟨_, h2⟩⟩ := h
  · cases h0
  · exact ⟨h1, h2⟩
theorem encF_snoc (fs : List Fld) (f : Fld) (x : MsgV) : encF (fs ++ [f]) x = encF fs x ++ f.cod.enc (f.get x) := by simp [encF]
theorem PutD.yes_next (h : PutD fs x B w0 i true v w) (hf : fs[i]? = some f) (hfit : f.cod.fits (f.get x)) (hw : Wrote B v v' (encF (fs.take i) x ++ f.cod.enc (f.get x)) w w') : PutD fs x B w0 (i + 1) true v' w' := by
  have hB0 := h.2.1
  obtain ⟨h1, hB, h2, h3⟩ := h.yes
  have ht : fs.take (i + 1) = fs.take i ++ [f] := by rw [List.take_add_one, hf]; rfl
  refine ⟨h1.trans (hw.below h3 hB), hB0, .inl ⟨rfl, ?_, ?_⟩⟩
  · rw [ht]
    intro g hg
    rcases List.mem_append.1 hg with hg | hg
    · exact h2 g hg
    · simp at hg
      rw [hg]
      exact hfit
  · rw [ht, encF_snoc]
    exact hw.1
theorem PutD.no_next (h : PutD fs x B w0 i true v w) (hf : fs[i]? = some f) (hfit : ¬ f.cod.fits (f.get x)) (hk : Hid (Kept (ownL v) w w')) : PutD fs x B w0 (i + 1) false v' w' := by
  have hB0 := h.2.1
  obtain ⟨h1, hB, h2, h3⟩ := h.yes
  exact ⟨h1.trans (hk.out.below (fun k hk => (h3.lt k (mem_ownL.1 hk)).1) hB), hB0, .inr ⟨rfl, fun hh => hfit (hh f (List.mem_of_getElem? hf))⟩⟩
end


theorem sl_len6 {ok : Nat → Prop} {w : World} {e : Sh} {sz : Nat} {s : SlL} {xs : List e.T} (h : Rd ok w (.slice e sz) [.slice s.a s.n s.c] xs) : s.n ≤ 140737488351232 := by
  obtain ⟨_, _, _, hcs, _, h1, _⟩ := Rd.slice_is h
  simp only [List.cons.injEq, Value.slice.injEq, and_true] at hcs
  rw [hcs.2.1]
  exact h1
theorem flag_fits (b : Bool) : cFlag.fits b := by
  cases b
  · exact ⟨Nat.zero_le 1, rfl⟩
  · exact ⟨Nat.le_refl 1, rfl⟩
theorem Wrote.from_kept {B : Nat} {v v' : Value} {bs : List Nat} {w w1 w2 : World} (k : Kept (ownL v) w w1) (h : Wrote B v v' bs w1 w2) : Wrote B v v' bs w w2 :=
  ⟨h.1, k.trans h.2.1.out (Grows.refl _ _), (Grows.refl _ _).trans h.2.2.out k.size⟩
theorem text_over (v : Value) (s : ByteArray) (w : World) (hc : 4096 < s.size) (hsz : s.size ≤ maxLen) :
    Calls Tryz.prog 42 #[v, .string s] w fun e w' => e = .returned (.tuple #[v, .bool false]) ∧ w' = w := by
  obtain ⟨n, hn⟩ : ∃ n, s.size = n := ⟨_, rfl⟩
  have hsn := hn
  rw [hn] at hc hsz
  unfold maxLen at hsz
  clear hn
  go_enter Tryz.func42, Tryz.ntmps42
  go_wp2
  go_ret2
  exact ⟨rfl, rfl⟩
set_option maxRecDepth 100000 in
set_option maxHeartbeats 12800000 in
theorem rput_msg (m : MsgL) (w : World) (h : m.In (· < w.heap.size) w) :
    Calls Tryz.prog 14 #[.agg m.cells.toArray] w fun e w' => Below w.heap.size w w' ∧ ((fitM m.toM ∧ ∃ v, e = .returned (.tuple #[v, .bool true]) ∧ OwnV w' w.heap.size 5 v (bytesM m.toM)) ∨ (¬ fitM m.toM ∧ e = .returned (.tuple #[.slice none 0 0, .bool false]))) := by
  have HM := Lib.hid h
  clear h
  obtain ⟨M, hM⟩ : ∃ M, m.cells.toArray = M := ⟨_, rfl⟩
  rw [hM]
  obtain ⟨w1, hw1⟩ : ∃ w1, w.alloc (.cells M 37) = w1 := ⟨_, rfl⟩
  have X1 := Lib.hid (show Blk w1 w.heap.size 37 m.cells from by rw [← hw1, ← hM]; exact Blk.new w 37 m.cells.toArray)
  have B1 := Lib.hid (show Below w.heap.size w w1 from by rw [← hw1]; exact (Below.refl _ _).alloc (Nat.le_refl _) _)
  have hc0 : w1.cell? ⟨w.heap.size, 0, none⟩ = some (.int .u8 (m.kind : Int)) := X1.out.cell 0
  have hl : w.heap.size < w1.heap.size := X1.out.lt
  have HMM := Lib.hid hM
  clear hM
  go_enter Tryz.func14, Tryz.ntmps14
  go_wp2_with (fail)
  try rw [hw1]
  clear hw1
  refine (form_any m.kind w1).mono ?_
  rintro e w4 hpost
  obtain ⟨hb4, fs, z, a, c, hfs, rfl, hr, hfl, hrb, hz1, hz2⟩ := hpost.all
  have HFS := Lib.hid hfs
  have HR := Lib.hid hr
  have HRB := Lib.hid hrb
  have HZ1 := Lib.hid hz1
  have HZ2 := Lib.hid hz2
  have B4 := Lib.hid (below_on B1.out hb4)
  have k4 := Kept.of_below (F := []) hb4 (Nat.le_refl _)
  have X4 := Lib.hid (k4.blk X1.out (by simp))
  have HM4 := Lib.hid (HM.out.on B4.out)
  clear hfs hr hrb hb4 k4 hpost hz1 hz2 X1 B1 hc0
  cases z
  · have HNF := Lib.hid (show ¬ fitM m.toM from by
      rintro ⟨fs', h1, _⟩
      rw [show m.toM.kind = m.kind from rfl, HZ2.out rfl] at h1
      cases h1)
    go_wp2_with (fail)
    go_quiet (fail)
    go_wp2
    go_ret2
    exact ⟨below_draws B4.out _, .inr ⟨HNF.out, rfl⟩⟩
  · go_upto_region 2 with fail
    go_cut [23] (fun s23 wx => ∃ z : Bool, s23 = .bool (!z) ∧ ∃ wy, wy = wx ∧ Hid ((z = true ↔ m.toM = setF fs (zeroM m.kind) m.toM) ∧ Below w4.heap.size w4 wy))
    case first =>
      refine wp_region_any (by kernel_rfl) ?_
      have HB4 : w4.drew.heap[w.heap.size]? = some (.cells M 37 (0, 0)) := by rw [← HMM.out]; exact X4.out
      have hinfo : (Tryz.prog.info? 37).map (·.size) = some M.size := by
        rw [← HMM.out]
        kernel_rfl
      refine any_cons [0] (by kernel_rfl) (by simp) ?_
      intro i hi
      obtain rfl := List.mem_singleton.1 hi
      refine wpOp_step rfl fun K hK => ?_
      rw [if_pos (by rfl)]
      go_simp
      refine hK _ _ ?_
      clear hK K
      refine any_cons [1] (by kernel_rfl) (by simp) ?_
      intro i hi
      obtain rfl := List.mem_singleton.1 hi
      refine wpOp_step rfl fun K hK => ?_
      rw [if_pos (by rfl)]
      go_simp
      refine hK _ _ ?_
      clear hK K
      refine any_cons [2] (by kernel_rfl) (by simp) ?_
      intro i hi
      obtain rfl := List.mem_singleton.1 hi
      refine wpOp_step rfl fun K hK => ?_
      rw [if_pos (by rfl)]
      go_simp
      refine hK _ _ ?_
      clear hK K
      refine any_cons [3, 4] (by kernel_rfl) (by simp) ?_
      intro i hi
      rcases (by simpa using hi : i = 3 ∨ i = 4) with rfl | rfl
      · refine wpOp_step rfl fun K hK => ?_
        rw [if_pos (by rfl)]
        refine wp_load_one w4.drew 37 (.tmp 1) rfl w.heap.size 37 M _ (by rfl) HB4 Tryz.underlying37 rfl hinfo ?_
        refine hK _ _ ?_
        clear hK K
        refine any_cons [4] (by kernel_rfl) (by simp) ?_
        intro i hi
        obtain rfl := List.mem_singleton.1 hi
        refine wpOp_step rfl fun K hK => ?_
        rw [if_pos (by rfl)]
        refine wp_load_one w4.drew 37 (.tmp 1) rfl w.heap.size 37 M _ (by rfl) HB4 Tryz.underlying37 rfl hinfo ?_
        refine hK _ _ ?_
        clear hK K
        refine any_cons [5] (by kernel_rfl) (by simp) ?_
        intro i hi
        obtain rfl := List.mem_singleton.1 hi
        refine wpOp_step rfl fun K hK => ?_
        rw [if_pos (by rfl)]
        go_simp
        rw [← HMM.out]
        refine (only_any m _ (HM4.out.on (Below.refl _ _).drew)).mono ?_
        rintro e w5 ⟨hb5, y, rfl, hyi, hym⟩
        have Y5 := Lib.hid hyi
        have YM5 := Lib.hid hym
        have B5 := Lib.hid (show Below w4.heap.size w4 w5 from (Below.refl _ _).drew.trans hb5)
        have HB5 : w5.heap[w.heap.size]? = some (.cells M 37 (0, 0)) := by rw [← HMM.out]; exact (Kept.of_below (F := []) B5.out (Nat.le_refl _)).blk X4.out (by simp)
        clear hb5 hyi hym
        simp only [HMM.out]
        refine hK _ _ ?_
        clear hK K
        refine any_cons [6] (by kernel_rfl) (by simp) ?_
        intro i hi
        obtain rfl := List.mem_singleton.1 hi
        refine wpOp_step rfl fun K hK => ?_
        rw [if_pos (by rfl)]
        go_simp
        rw [← HMM.out]
        refine (sameMsg m y w5 (HM4.out.on B5.out) Y5.out).mono ?_
        rintro e w6 ⟨z, rfl, hz, hb6⟩
        have FIN := Lib.hid (show (z = true ↔ m.toM = setF fs (zeroM m.kind) m.toM) ∧ Below w4.heap.size w4 w6 from ⟨by rw [hz, YM5.out, HFS.out], below_on B5.out hb6⟩)
        clear hz hb6
        simp only [HMM.out]
        refine hK _ _ ?_
        clear hK K
        refine any_cons [7] (by kernel_rfl) (by simp) ?_
        intro i hi
        obtain rfl := List.mem_singleton.1 hi
        refine wpOp_step rfl fun K hK => ?_
        rw [if_pos (by rfl)]
        go_simp
        refine hK _ _ ?_
        clear hK K
        refine any_cons [8] (by kernel_rfl) (by simp) ?_
        intro i hi
        obtain rfl := List.mem_singleton.1 hi
        refine wpOp_step rfl fun K hK => ?_
        rw [if_pos (by rfl)]
        go_simp
        refine hK _ _ ?_
        clear hK K
        refine ⟨by kernel_rfl, ?_⟩
        go_wp2
        go_meet
        exact ⟨z, rfl, _, rfl, FIN.out⟩
      · refine wpOp_step rfl fun K hK => ?_
        rw [if_pos (by rfl)]
        refine wp_load_one w4.drew 37 (.tmp 1) rfl w.heap.size 37 M _ (by rfl) HB4 Tryz.underlying37 rfl hinfo ?_
        refine hK _ _ ?_
        clear hK K
        refine any_cons [3, 5] (by kernel_rfl) (by simp) ?_
        intro i hi
        rcases (by simpa using hi : i = 3 ∨ i = 5) with rfl | rfl
        · refine wpOp_step rfl fun K hK => ?_
          rw [if_pos (by rfl)]
          refine wp_load_one w4.drew 37 (.tmp 1) rfl w.heap.size 37 M _ (by rfl) HB4 Tryz.underlying37 rfl hinfo ?_
          refine hK _ _ ?_
          clear hK K
          refine any_cons [5] (by kernel_rfl) (by simp) ?_
          intro i hi
          obtain rfl := List.mem_singleton.1 hi
          refine wpOp_step rfl fun K hK => ?_
          rw [if_pos (by rfl)]
          go_simp
          rw [← HMM.out]
          refine (only_any m _ (HM4.out.on (Below.refl _ _).drew)).mono ?_
          rintro e w5 ⟨hb5, y, rfl, hyi, hym⟩
          have Y5 := Lib.hid hyi
          have YM5 := Lib.hid hym
          have B5 := Lib.hid (show Below w4.heap.size w4 w5 from (Below.refl _ _).drew.trans hb5)
          have HB5 : w5.heap[w.heap.size]? = some (.cells M 37 (0, 0)) := by rw [← HMM.out]; exact (Kept.of_below (F := []) B5.out (Nat.le_refl _)).blk X4.out (by simp)
          clear hb5 hyi hym
          simp only [HMM.out]
          refine hK _ _ ?_
          clear hK K
          refine any_cons [6] (by kernel_rfl) (by simp) ?_
          intro i hi
          obtain rfl := List.mem_singleton.1 hi
          refine wpOp_step rfl fun K hK => ?_
          rw [if_pos (by rfl)]
          go_simp
          rw [← HMM.out]
          refine (sameMsg m y w5 (HM4.out.on B5.out) Y5.out).mono ?_
          rintro e w6 ⟨z, rfl, hz, hb6⟩
          have FIN := Lib.hid (show (z = true ↔ m.toM = setF fs (zeroM m.kind) m.toM) ∧ Below w4.heap.size w4 w6 from ⟨by rw [hz, YM5.out, HFS.out], below_on B5.out hb6⟩)
          clear hz hb6
          simp only [HMM.out]
          refine hK _ _ ?_
          clear hK K
          refine any_cons [7] (by kernel_rfl) (by simp) ?_
          intro i hi
          obtain rfl := List.mem_singleton.1 hi
          refine wpOp_step rfl fun K hK => ?_
          rw [if_pos (by rfl)]
          go_simp
          refine hK _ _ ?_
          clear hK K
          refine any_cons [8] (by kernel_rfl) (by simp) ?_
          intro i hi
          obtain rfl := List.mem_singleton.1 hi
          refine wpOp_step rfl fun K hK => ?_
          rw [if_pos (by rfl)]
          go_simp
          refine hK _ _ ?_
          clear hK K
          refine ⟨by kernel_rfl, ?_⟩
          go_wp2
          go_meet
          exact ⟨z, rfl, _, rfl, FIN.out⟩
        · refine wpOp_step rfl fun K hK => ?_
          rw [if_pos (by rfl)]
          go_simp
          rw [← HMM.out]
          refine (only_any m _ (HM4.out.on (Below.refl _ _).drew)).mono ?_
          rintro e w5 ⟨hb5, y, rfl, hyi, hym⟩
          have Y5 := Lib.hid hyi
          have YM5 := Lib.hid hym
          have B5 := Lib.hid (show Below w4.heap.size w4 w5 from (Below.refl _ _).drew.trans hb5)
          have HB5 : w5.heap[w.heap.size]? = some (.cells M 37 (0, 0)) := by rw [← HMM.out]; exact (Kept.of_below (F := []) B5.out (Nat.le_refl _)).blk X4.out (by simp)
          clear hb5 hyi hym
          simp only [HMM.out]
          refine hK _ _ ?_
          clear hK K
          refine any_cons [3] (by kernel_rfl) (by simp) ?_
          intro i hi
          obtain rfl := List.mem_singleton.1 hi
          refine wpOp_step rfl fun K hK => ?_
          rw [if_pos (by rfl)]
          refine wp_load_one w5 37 (.tmp 1) rfl w.heap.size 37 M _ (by rfl) HB5 Tryz.underlying37 rfl hinfo ?_
          refine hK _ _ ?_
          clear hK K
          refine any_cons [6] (by kernel_rfl) (by simp) ?_
          intro i hi
          obtain rfl := List.mem_singleton.1 hi
          refine wpOp_step rfl fun K hK => ?_
          rw [if_pos (by rfl)]
          go_simp
          rw [← HMM.out]
          refine (sameMsg m y w5 (HM4.out.on B5.out) Y5.out).mono ?_
          rintro e w6 ⟨z, rfl, hz, hb6⟩
          have FIN := Lib.hid (show (z = true ↔ m.toM = setF fs (zeroM m.kind) m.toM) ∧ Below w4.heap.size w4 w6 from ⟨by rw [hz, YM5.out, HFS.out], below_on B5.out hb6⟩)
          clear hz hb6
          simp only [HMM.out]
          refine hK _ _ ?_
          clear hK K
          refine any_cons [7] (by kernel_rfl) (by simp) ?_
          intro i hi
          obtain rfl := List.mem_singleton.1 hi
          refine wpOp_step rfl fun K hK => ?_
          rw [if_pos (by rfl)]
          go_simp
          refine hK _ _ ?_
          clear hK K
          refine any_cons [8] (by kernel_rfl) (by simp) ?_
          intro i hi
          obtain rfl := List.mem_singleton.1 hi
          refine wpOp_step rfl fun K hK => ?_
          rw [if_pos (by rfl)]
          go_simp
          refine hK _ _ ?_
          clear hK K
          refine ⟨by kernel_rfl, ?_⟩
          go_wp2
          go_meet
          exact ⟨z, rfl, _, rfl, FIN.out⟩
    case rest =>
      obtain ⟨z, rfl, wy, rfl, hcc⟩ := hcut
      have HZF := Lib.hid hcc.out.1
      have BC := Lib.hid (B4.out.trans (hcc.out.2.mono B4.out.size))
      have BC4 := Lib.hid hcc.out.2
      have XC := Lib.hid ((Kept.of_below (F := []) hcc.out.2 (Nat.le_refl _)).blk X4.out (by simp))
      have hsc := hcc.out.2.size
      have HAP := Lib.hid (HZ1.out (by first | rfl | trivial))
      clear hcc
      cases z
      · have HNF := Lib.hid (show ¬ fitM m.toM from by
          rintro ⟨fs', h1, h2, _⟩
          rw [show m.toM.kind = m.kind from rfl, HAP.out] at h1
          cases h1
          exact nomatch HZF.out.2 h2)
        go_wp2
        go_ret2
        exact ⟨BC.out, .inr ⟨HNF.out, rfl⟩⟩
      · have HONLY := Lib.hid (show m.toM = setF fs (zeroM m.kind) m.toM from HZF.out.1 (by first | rfl | trivial))
        have HRC := Lib.hid (show SReads wy a fs.length c (fs.map Fld.s) from HR.out.on BC4.out)
        obtain ⟨n, hn⟩ : ∃ n, fs.length = n := ⟨_, rfl⟩
        rw [hn] at HRC hfl ⊢
        have HN := Lib.hid hn
        clear hn
        go_wp2_with (fail)
        go_loopw [5, 6, 7] (fun s5 s6 s7 wr => ∃ (i : Nat) (t : Bool), s7 = .int .i64 i ∧ i ≤ n ∧ s5 = .bool t ∧ Hid (PutD fs m.toM wy.heap.size wy i t s6 wr)) (fun _ _ s7 _ => n - (intOf s7).toNat)
        case atStart => exact ⟨0, true, rfl, by omega, rfl, Below.refl _ _, Nat.le_refl _, .inl ⟨rfl, by simp [fitF], OwnV.nil _ _ _⟩⟩
        case round =>
          obtain ⟨i, t, rfl, hi, rfl, HI⟩ := hrel
          cases t
          · have BR := Lib.hid (HI.out.no).1
            have HNF := Lib.hid (show ¬ fitM m.toM from by
              rintro ⟨fs', h1, _, h3⟩
              rw [show m.toM.kind = m.kind from rfl, HAP.out] at h1
              cases h1
              exact HI.out.no.2 h3)
            have BW := Lib.hid (show Below w.heap.size w wr from BC.out.trans (BR.out.mono BC.out.size))
            by_cases hin : i < n
            all_goals
              go_wp2
              go_ret2
              exact ⟨BW.out, .inr ⟨HNF.out, rfl⟩⟩
          · obtain ⟨hbr, hBr, hft, _⟩ := HI.out.yes
            have BR := Lib.hid hbr
            have HLN := Lib.hid (show (encF (fs.take i) m.toM).length ≤ 800000000 from by
              have h1 := encF_len _ _ hft
              have h2 : (fs.take i).length ≤ 7 := by rw [List.length_take]; have := HN.out; omega
              omega)
            have XR := Lib.hid ((Kept.of_below (F := []) (show Below wy.heap.size wy wr from BR.out) (Nat.le_refl _)).blk XC.out (by simp))
            have hsr := BR.out.size
            have hgx := XC.out.lt
            clear hbr hft
            by_cases hin : i < n
            · rcases HRC.out.cells with h0 | ⟨b, off, rfl, hlt, hcl⟩
              · omega
              obtain ⟨f, hf⟩ : ∃ f, fs[i]? = some f := ⟨_, List.getElem?_eq_getElem (by rw [HN.out]; exact hin)⟩
              have hcell := (BR.out.cell (p := ⟨b, off + i, none⟩) hlt).trans (hcl i hin)
              obtain ⟨S, hS0⟩ : ∃ S, strAt (fs.map Fld.s) i = S := ⟨_, rfl⟩
              rw [hS0] at hcell
              have hlr : b < wr.heap.size := Nat.lt_of_lt_of_le hlt hsr
              have hS : f.s = S := by rw [← hS0]; simp [strAt, List.getD, hf]
              have HF5 := Lib.hid hf
              have HMr := Lib.hid (show m.In (· < wy.heap.size) wr from ((HM.out.under BC.out).mono (fun k hk _ => by have := BC.out.size; omega)).under BR.out)
              clear hS0 hf hcl
              cases f
              case req =>
                have qreq : (S.toList == [114, 101, 113]) = true := by rw [← hS]; exact fld_q .req .req
                clear hS
                as_aux_lemma =>
                  have x0 : wr.cell? ⟨w.heap.size, 1, none⟩ = some (.int .u32 (m.req : Int)) := XR.out.cell 1
                  have hlx := XR.out.lt
                  have hb := HM.out.hreq
                  have hwi : IntKind.i64.wrap (m.req : Int) = (m.req : Int) := by rw [IntKind.wrap_i64]; omega
                  go_wp2_with (fail)
                  refine (num_any m.req wr (by omega)).mono ?_
                  rintro e w4' ⟨v4, rfl, ho4, hb4⟩
                  have HO4 := Lib.hid ho4
                  have HB4' := Lib.hid hb4
                  clear ho4 hb4 x0
                  have hl10 := Lib.hid (vput_len10 (n := m.req) (by omega))
                  go_wp2_with (at_builtin; go_must (refine app_put wr _ rfl (.tmp 39) (.tmp 43) 33 rfl Tryz.underlying33 byte_info wy.heap.size _ v4 _ (vput m.req) (by rfl) (by rfl) HI.out.own hBr HO4.out HB4'.out (by have := HLN.out; omega) (by have := hl10.out; omega) ?_))
                  intro v5 w5 hw5
                  have hfit : (Fld.cod .req).fits (Fld.get .req m.toM) := hb
                  have N4 := Lib.hid (HI.out.yes_next HF5.out (by first | exact hfit | trivial) hw5)
                  clear hw5 HI
                  go_wp2
                  go_roundw
                  case rel => exact ⟨i + 1, true, by go_num, by omega, rfl, N4.out⟩
                  case measure => simp [intOf]; omega
              case caps =>
                have qreq : (S.toList == [114, 101, 113]) = false := by rw [← hS]; exact fld_q .caps .req
                have qcaps : (S.toList == [99, 97, 112, 115]) = true := by rw [← hS]; exact fld_q .caps .caps
                clear hS
                as_aux_lemma =>
                  have x0 : wr.cell? ⟨w.heap.size, 2, none⟩ = some (.int .u32 (m.caps : Int)) := XR.out.cell 2
                  have hlx := XR.out.lt
                  have hb := HM.out.hcaps
                  have hwi : IntKind.i64.wrap (m.caps : Int) = (m.caps : Int) := by rw [IntKind.wrap_i64]; omega
                  go_wp2_with (fail)
                  refine (num_any m.caps wr (by omega)).mono ?_
                  rintro e w4' ⟨v4, rfl, ho4, hb4⟩
                  have HO4 := Lib.hid ho4
                  have HB4' := Lib.hid hb4
                  clear ho4 hb4 x0
                  have hl10 := Lib.hid (vput_len10 (n := m.caps) (by omega))
                  go_wp2_with (at_builtin; go_must (refine app_put wr _ rfl (.tmp 47) (.tmp 51) 33 rfl Tryz.underlying33 byte_info wy.heap.size _ v4 _ (vput m.caps) (by rfl) (by rfl) HI.out.own hBr HO4.out HB4'.out (by have := HLN.out; omega) (by have := hl10.out; omega) ?_))
                  intro v5 w5 hw5
                  have hfit : (Fld.cod .caps).fits (Fld.get .caps m.toM) := hb
                  have N4 := Lib.hid (HI.out.yes_next HF5.out (by first | exact hfit | trivial) hw5)
                  clear hw5 HI
                  go_wp2
                  go_roundw
                  case rel => exact ⟨i + 1, true, by go_num, by omega, rfl, N4.out⟩
                  case measure => simp [intOf]; omega
              case token =>
                have qreq : (S.toList == [114, 101, 113]) = false := by rw [← hS]; exact fld_q .token .req
                have qcaps : (S.toList == [99, 97, 112, 115]) = false := by rw [← hS]; exact fld_q .token .caps
                have qtoken : (S.toList == [116, 111, 107, 101, 110]) = true := by rw [← hS]; exact fld_q .token .token
                clear hS
                as_aux_lemma =>
                  have x0 : wr.cell? ⟨w.heap.size, 3, none⟩ = some (.int .u64 (m.token : Int)) := XR.out.cell 3
                  have hlx := XR.out.lt
                  have hb := HM.out.htoken
                  go_wp2_with (fail)
                  refine (rput_any m.token wr (by omega)).mono ?_
                  rintro e w4' ⟨v4, rfl, ho4, hb4⟩
                  have HO4 := Lib.hid ho4
                  have HB4' := Lib.hid hb4
                  clear ho4 hb4 x0
                  have hl10 := Lib.hid (vput_len10 (n := m.token) (by omega))
                  go_wp2_with (at_builtin; go_must (refine app_put wr _ rfl (.tmp 55) (.tmp 58) 33 rfl Tryz.underlying33 byte_info wy.heap.size _ v4 _ (vput m.token) (by rfl) (by rfl) HI.out.own hBr HO4.out HB4'.out (by have := HLN.out; omega) (by have := hl10.out; omega) ?_))
                  intro v5 w5 hw5
                  have hfit : (Fld.cod .token).fits (Fld.get .token m.toM) := hb
                  have N4 := Lib.hid (HI.out.yes_next HF5.out (by first | exact hfit | trivial) hw5)
                  clear hw5 HI
                  go_wp2
                  go_roundw
                  case rel => exact ⟨i + 1, true, by go_num, by omega, rfl, N4.out⟩
                  case measure => simp [intOf]; omega
              case code =>
                have qreq : (S.toList == [114, 101, 113]) = false := by rw [← hS]; exact fld_q .code .req
                have qcaps : (S.toList == [99, 97, 112, 115]) = false := by rw [← hS]; exact fld_q .code .caps
                have qtoken : (S.toList == [116, 111, 107, 101, 110]) = false := by rw [← hS]; exact fld_q .code .token
                have qcode : (S.toList == [99, 111, 100, 101]) = true := by rw [← hS]; exact fld_q .code .code
                clear hS
                as_aux_lemma =>
                  have x0 : wr.cell? ⟨w.heap.size, 4, none⟩ = some (.int .u8 (m.code : Int)) := XR.out.cell 4
                  have hlx := XR.out.lt
                  have hb := HM.out.hcode
                  have hwi : IntKind.i64.wrap (m.code : Int) = (m.code : Int) := by rw [IntKind.wrap_i64]; omega
                  go_wp2_with (fail)
                  refine (num_any m.code wr (by omega)).mono ?_
                  rintro e w4' ⟨v4, rfl, ho4, hb4⟩
                  have HO4 := Lib.hid ho4
                  have HB4' := Lib.hid hb4
                  clear ho4 hb4 x0
                  have hl10 := Lib.hid (vput_len10 (n := m.code) (by omega))
                  go_wp2_with (at_builtin; go_must (refine app_put wr _ rfl (.tmp 62) (.tmp 66) 33 rfl Tryz.underlying33 byte_info wy.heap.size _ v4 _ (vput m.code) (by rfl) (by rfl) HI.out.own hBr HO4.out HB4'.out (by have := HLN.out; omega) (by have := hl10.out; omega) ?_))
                  intro v5 w5 hw5
                  have hfit : (Fld.cod .code).fits (Fld.get .code m.toM) := hb
                  have N4 := Lib.hid (HI.out.yes_next HF5.out (by first | exact hfit | trivial) hw5)
                  clear hw5 HI
                  go_wp2
                  go_roundw
                  case rel => exact ⟨i + 1, true, by go_num, by omega, rfl, N4.out⟩
                  case measure => simp [intOf]; omega
              case n =>
                have qreq : (S.toList == [114, 101, 113]) = false := by rw [← hS]; exact fld_q .n .req
                have qcaps : (S.toList == [99, 97, 112, 115]) = false := by rw [← hS]; exact fld_q .n .caps
                have qtoken : (S.toList == [116, 111, 107, 101, 110]) = false := by rw [← hS]; exact fld_q .n .token
                have qcode : (S.toList == [99, 111, 100, 101]) = false := by rw [← hS]; exact fld_q .n .code
                have qn : (S.toList == [110]) = true := by rw [← hS]; exact fld_q .n .n
                clear hS
                as_aux_lemma =>
                  have x0 : wr.cell? ⟨w.heap.size, 5, none⟩ = some (.int .u32 (m.n : Int)) := XR.out.cell 5
                  have hlx := XR.out.lt
                  have hb := HM.out.hn
                  have hwi : IntKind.i64.wrap (m.n : Int) = (m.n : Int) := by rw [IntKind.wrap_i64]; omega
                  go_wp2_with (fail)
                  refine (num_any m.n wr (by omega)).mono ?_
                  rintro e w4' ⟨v4, rfl, ho4, hb4⟩
                  have HO4 := Lib.hid ho4
                  have HB4' := Lib.hid hb4
                  clear ho4 hb4 x0
                  have hl10 := Lib.hid (vput_len10 (n := m.n) (by omega))
                  go_wp2_with (at_builtin; go_must (refine app_put wr _ rfl (.tmp 70) (.tmp 74) 33 rfl Tryz.underlying33 byte_info wy.heap.size _ v4 _ (vput m.n) (by rfl) (by rfl) HI.out.own hBr HO4.out HB4'.out (by have := HLN.out; omega) (by have := hl10.out; omega) ?_))
                  intro v5 w5 hw5
                  have hfit : (Fld.cod .n).fits (Fld.get .n m.toM) := hb
                  have N4 := Lib.hid (HI.out.yes_next HF5.out (by first | exact hfit | trivial) hw5)
                  clear hw5 HI
                  go_wp2
                  go_roundw
                  case rel => exact ⟨i + 1, true, by go_num, by omega, rfl, N4.out⟩
                  case measure => simp [intOf]; omega
              case name =>
                have qreq : (S.toList == [114, 101, 113]) = false := by rw [← hS]; exact fld_q .name .req
                have qcaps : (S.toList == [99, 97, 112, 115]) = false := by rw [← hS]; exact fld_q .name .caps
                have qtoken : (S.toList == [116, 111, 107, 101, 110]) = false := by rw [← hS]; exact fld_q .name .token
                have qcode : (S.toList == [99, 111, 100, 101]) = false := by rw [← hS]; exact fld_q .name .code
                have qn : (S.toList == [110]) = false := by rw [← hS]; exact fld_q .name .n
                have qname : (S.toList == [110, 97, 109, 101]) = true := by rw [← hS]; exact fld_q .name .name
                clear hS
                as_aux_lemma =>
                  have x0 : wr.cell? ⟨w.heap.size, 6, none⟩ = some (.string m.name) := XR.out.cell 6
                  have hlx := XR.out.lt
                  go_wp2_with (fail)
                  refine (text_any wy.heap.size _ _ m.name wr HI.out.own hBr (by have := HLN.out; omega) (by unfold maxLen; have := HM.out.hname; omega)).mono ?_
                  rintro e w5 (⟨hfit, v5, rfl, hw5⟩ | ⟨hfit, v5, rfl, hk5⟩)
                  · skip
                    have N4 := Lib.hid (HI.out.yes_next HF5.out (by first | exact hfit | trivial) hw5)
                    clear hw5 HI
                    go_wp2
                    go_roundw
                    case rel => exact ⟨i + 1, true, by go_num, by omega, rfl, N4.out⟩
                    case measure => simp [intOf]; omega
                  · skip
                    have N4 := Lib.hid (HI.out.no_next (v' := v5) HF5.out hfit hk5)
                    clear hk5 HI
                    go_wp2
                    go_roundw
                    case rel => exact ⟨i + 1, false, by go_num, by omega, rfl, N4.out⟩
                    case measure => simp [intOf]; omega
              case conf =>
                have qreq : (S.toList == [114, 101, 113]) = false := by rw [← hS]; exact fld_q .conf .req
                have qcaps : (S.toList == [99, 97, 112, 115]) = false := by rw [← hS]; exact fld_q .conf .caps
                have qtoken : (S.toList == [116, 111, 107, 101, 110]) = false := by rw [← hS]; exact fld_q .conf .token
                have qcode : (S.toList == [99, 111, 100, 101]) = false := by rw [← hS]; exact fld_q .conf .code
                have qn : (S.toList == [110]) = false := by rw [← hS]; exact fld_q .conf .n
                have qname : (S.toList == [110, 97, 109, 101]) = false := by rw [← hS]; exact fld_q .conf .name
                have qconf : (S.toList == [99, 111, 110, 102]) = true := by rw [← hS]; exact fld_q .conf .conf
                clear hS
                as_aux_lemma =>
                  have x0 : wr.cell? ⟨w.heap.size, 7, none⟩ = some (.string m.cname) := XR.out.cell 7
                  have x1 : wr.cell? ⟨w.heap.size, 8, none⟩ = some (.int .u8 (m.dim : Int)) := XR.out.cell 8
                  have x2 : wr.cell? ⟨w.heap.size, 9, none⟩ = some (.int .u8 (m.metric : Int)) := XR.out.cell 9
                  have x3 : wr.cell? ⟨w.heap.size, 10, none⟩ = some (.bool m.graph) := XR.out.cell 10
                  have x4 : wr.cell? ⟨w.heap.size, 11, none⟩ = some (.int .u8 (m.links : Int)) := XR.out.cell 11
                  have x5 : wr.cell? ⟨w.heap.size, 12, none⟩ = some (.int .u16 (m.cwidth : Int)) := XR.out.cell 12
                  have hlx := XR.out.lt
                  obtain ⟨w1', hw1'⟩ : ∃ wz, wr.alloc (.cells #[.string m.cname, .int .u8 (m.dim : Int), .int .u8 (m.metric : Int), .bool m.graph, .int .u8 (m.links : Int), .int .u16 (m.cwidth : Int)] 27) = wz := ⟨_, rfl⟩
                  have k01 : Kept [] wr w1' := by rw [← hw1']; exact (Kept.refl _ _).alloc _
                  have CB := Lib.hid (show Blk w1' wr.heap.size 27 [.string m.cname, .int .u8 (m.dim : Int), .int .u8 (m.metric : Int), .bool m.graph, .int .u8 (m.links : Int), .int .u16 (m.cwidth : Int)] from by rw [← hw1']; exact Blk.new wr _ _)
                  have KK := Lib.hid (show Kept (ownL u6) wr w1' from k01.mono (by simp))
                  have O1 := Lib.hid (HI.out.own.kept k01 (by simp))
                  have HNE := Lib.hid (show wr.heap.size ∉ ownL u6 from fun hx => by have := (HI.out.own.lt _ (mem_ownL.1 hx)).2; omega)
                  have hB1 : wy.heap.size ≤ w1'.heap.size := by have := k01.size; omega
                  have y0 : w1'.cell? ⟨wr.heap.size, 0, none⟩ = some (.string m.cname) := CB.out.cell 0
                  have hlc := CB.out.lt
                  have hbd := HM.out.hdim
                  have hbm := HM.out.hmetric
                  have hbl := HM.out.hlinks
                  have hbw := HM.out.hcwidth
                  have hcn := HM.out.hcname
                  have hwd : IntKind.i64.wrap (m.dim : Int) = (m.dim : Int) := by rw [IntKind.wrap_i64]; omega
                  have hwm : IntKind.i64.wrap (m.metric : Int) = (m.metric : Int) := by rw [IntKind.wrap_i64]; omega
                  have hwl : IntKind.i64.wrap (m.links : Int) = (m.links : Int) := by rw [IntKind.wrap_i64]; omega
                  have hww : IntKind.i64.wrap (m.cwidth : Int) = (m.cwidth : Int) := by rw [IntKind.wrap_i64]; omega
                  clear k01
                  by_cases hsz : m.cname.size ≤ 4096
                  · go_wp2_with (fail)
                    try rw [hw1']
                    clear hw1'
                    refine (text_any wy.heap.size _ _ m.cname w1' O1.out hB1 (by have := HLN.out; omega) (by unfold maxLen; omega)).mono ?_
                    rintro e w5 (⟨hf1, v5, rfl, hw5⟩ | ⟨hf1, _⟩)
                    rotate_left
                    · exact absurd ((cStr_fits _ (strB_byte _)).2 (by rw [strB_len]; exact hsz)) hf1
                    have W5 := Lib.hid hw5
                    have L5 := Lib.hid (show (encF (fs.take i) m.toM ++ cStr.enc (strB m.cname)).length ≤ 801000000 from by
                      have h1 := cStr_len _ hf1
                      have h2 := HLN.out
                      rw [List.length_append]
                      omega)
                    have F1 := Lib.hid hf1
                    have C5 := Lib.hid (hw5.2.1.out.blk CB.out HNE.out)
                    have hB5 := hw5.size hB1
                    clear hw5 hf1 x0 x1 x2 x3 x4 x5 y0
                    by_cases hm2 : m.metric < 2
                    · have hm2' : decide ((m.metric : Int) < 2) = true := decide_eq_true (by omega)
                      have z2 : w5.cell? ⟨wr.heap.size, 2, none⟩ = some (.int .u8 (m.metric : Int)) := C5.out.cell 2
                      have z1 : w5.cell? ⟨wr.heap.size, 1, none⟩ = some (.int .u8 (m.dim : Int)) := C5.out.cell 1
                      have lc5 := C5.out.lt
                      go_wp2_with (fail)
                      refine (num_any m.dim w5 (by omega)).mono ?_
                      rintro e q5 ⟨p5, rfl, ho, hb⟩
                      have HO := Lib.hid ho
                      have HB' := Lib.hid hb
                      clear ho hb
                      have HL10 := Lib.hid (show (vput m.dim).length ≤ 10 from vput_len10 (n := m.dim) (by omega))
                      go_wp2_with (at_builtin; go_must (refine app_put w5 _ rfl (.tmp 102) (.tmp 106) 33 rfl Tryz.underlying33 byte_info wy.heap.size _ p5 _ (vput m.dim) (by rfl) (by rfl) W5.out.1 hB5 HO.out HB'.out (by have h := L5.out; (try simp only [List.length_append] at h ⊢); omega) (by have := HL10.out; omega) ?_))
                      intro v6 w6 hw
                      have W6 := Lib.hid (W5.out.trans hw)
                      have L6 := Lib.hid (show ((encF (fs.take i) m.toM ++ cStr.enc (strB m.cname)) ++ vput m.dim).length ≤ 801000010 from by
                        have h1 := HL10.out
                        have h2 := L5.out
                        rw [List.length_append]
                        omega)
                      have C6 := Lib.hid (W6.out.2.1.out.blk CB.out HNE.out)
                      have hB6 := hw.size hB5
                      clear hw HO HB' HL10
                      have z2 : w6.cell? ⟨wr.heap.size, 2, none⟩ = some (.int .u8 (m.metric : Int)) := C6.out.cell 2
                      have lc6 := C6.out.lt
                      go_wp2_with (fail)
                      refine (num_any m.metric w6 (by omega)).mono ?_
                      rintro e q6 ⟨p6, rfl, ho, hb⟩
                      have HO := Lib.hid ho
                      have HB' := Lib.hid hb
                      clear ho hb
                      have HL10 := Lib.hid (show (vput m.metric).length ≤ 10 from vput_len10 (n := m.metric) (by omega))
                      go_wp2_with (at_builtin; go_must (refine app_put w6 _ rfl (.tmp 108) (.tmp 112) 33 rfl Tryz.underlying33 byte_info wy.heap.size _ p6 _ (vput m.metric) (by rfl) (by rfl) W6.out.1 hB6 HO.out HB'.out (by have h := L6.out; (try simp only [List.length_append] at h ⊢); omega) (by have := HL10.out; omega) ?_))
                      intro v7 w7 hw
                      have W7 := Lib.hid (W6.out.trans hw)
                      have L7 := Lib.hid (show (((encF (fs.take i) m.toM ++ cStr.enc (strB m.cname)) ++ vput m.dim) ++ vput m.metric).length ≤ 801000020 from by
                        have h1 := HL10.out
                        have h2 := L6.out
                        rw [List.length_append]
                        omega)
                      have C7 := Lib.hid (W7.out.2.1.out.blk CB.out HNE.out)
                      have hB7 := hw.size hB6
                      clear hw HO HB' HL10
                      have z3 : w7.cell? ⟨wr.heap.size, 3, none⟩ = some (.bool m.graph) := C7.out.cell 3
                      have lc7 := C7.out.lt
                      go_wp2_with (fail)
                      refine (flag_any m.graph w7).mono ?_
                      rintro e q7 ⟨p7, rfl, ho, hb⟩
                      have HO := Lib.hid ho
                      have HB' := Lib.hid hb
                      clear ho hb
                      have HL10 := Lib.hid (show (cFlag.enc m.graph).length ≤ 10 from Nat.le_trans (Nat.le_of_eq (cFlag_len m.graph)) (by decide))
                      go_wp2_with (at_builtin; go_must (refine app_put w7 _ rfl (.tmp 114) (.tmp 117) 33 rfl Tryz.underlying33 byte_info wy.heap.size _ p7 _ (cFlag.enc m.graph) (by rfl) (by rfl) W7.out.1 hB7 HO.out HB'.out (by have h := L7.out; (try simp only [List.length_append] at h ⊢); omega) (by have := HL10.out; omega) ?_))
                      intro v8 w8 hw
                      have W8 := Lib.hid (W7.out.trans hw)
                      have L8 := Lib.hid (show ((((encF (fs.take i) m.toM ++ cStr.enc (strB m.cname)) ++ vput m.dim) ++ vput m.metric) ++ cFlag.enc m.graph).length ≤ 801000030 from by
                        have h1 := HL10.out
                        have h2 := L7.out
                        rw [List.length_append]
                        omega)
                      have C8 := Lib.hid (W8.out.2.1.out.blk CB.out HNE.out)
                      have hB8 := hw.size hB7
                      clear hw HO HB' HL10
                      have z4 : w8.cell? ⟨wr.heap.size, 4, none⟩ = some (.int .u8 (m.links : Int)) := C8.out.cell 4
                      have lc8 := C8.out.lt
                      go_wp2_with (fail)
                      refine (num_any m.links w8 (by omega)).mono ?_
                      rintro e q8 ⟨p8, rfl, ho, hb⟩
                      have HO := Lib.hid ho
                      have HB' := Lib.hid hb
                      clear ho hb
                      have HL10 := Lib.hid (show (vput m.links).length ≤ 10 from vput_len10 (n := m.links) (by omega))
                      go_wp2_with (at_builtin; go_must (refine app_put w8 _ rfl (.tmp 119) (.tmp 123) 33 rfl Tryz.underlying33 byte_info wy.heap.size _ p8 _ (vput m.links) (by rfl) (by rfl) W8.out.1 hB8 HO.out HB'.out (by have h := L8.out; (try simp only [List.length_append] at h ⊢); omega) (by have := HL10.out; omega) ?_))
                      intro v9 w9 hw
                      have W9 := Lib.hid (W8.out.trans hw)
                      have L9 := Lib.hid (show (((((encF (fs.take i) m.toM ++ cStr.enc (strB m.cname)) ++ vput m.dim) ++ vput m.metric) ++ cFlag.enc m.graph) ++ vput m.links).length ≤ 801000040 from by
                        have h1 := HL10.out
                        have h2 := L8.out
                        rw [List.length_append]
                        omega)
                      have C9 := Lib.hid (W9.out.2.1.out.blk CB.out HNE.out)
                      have hB9 := hw.size hB8
                      clear hw HO HB' HL10
                      have z5 : w9.cell? ⟨wr.heap.size, 5, none⟩ = some (.int .u16 (m.cwidth : Int)) := C9.out.cell 5
                      have lc9 := C9.out.lt
                      go_wp2_with (fail)
                      refine (num_any m.cwidth w9 (by omega)).mono ?_
                      rintro e q9 ⟨p9, rfl, ho, hb⟩
                      have HO := Lib.hid ho
                      have HB' := Lib.hid hb
                      clear ho hb
                      have HL10 := Lib.hid (show (vput m.cwidth).length ≤ 10 from vput_len10 (n := m.cwidth) (by omega))
                      go_wp2_with (at_builtin; go_must (refine app_put w9 _ rfl (.tmp 125) (.tmp 129) 33 rfl Tryz.underlying33 byte_info wy.heap.size _ p9 _ (vput m.cwidth) (by rfl) (by rfl) W9.out.1 hB9 HO.out HB'.out (by have h := L9.out; (try simp only [List.length_append] at h ⊢); omega) (by have := HL10.out; omega) ?_))
                      intro v10 w10 hw
                      have W10 := Lib.hid (W9.out.trans hw)
                      have L10 := Lib.hid (show ((((((encF (fs.take i) m.toM ++ cStr.enc (strB m.cname)) ++ vput m.dim) ++ vput m.metric) ++ cFlag.enc m.graph) ++ vput m.links) ++ vput m.cwidth).length ≤ 801000050 from by
                        have h1 := HL10.out
                        have h2 := L9.out
                        rw [List.length_append]
                        omega)
                      have C10 := Lib.hid (W10.out.2.1.out.blk CB.out HNE.out)
                      have hB10 := hw.size hB9
                      clear hw HO HB' HL10
                      have hfit : (Fld.cod .conf).fits (Fld.get .conf m.toM) := ⟨⟨F1.out, hbd, (show m.metric ≤ 1 by omega), flag_fits m.graph, hbl, hbw⟩, rfl⟩
                      have N4 := Lib.hid (HI.out.yes_next HF5.out hfit (Wrote.from_kept KK.out (by
                        have := W10.out
                        (try simp only [List.append_assoc] at this)
                        exact this)))
                      clear HI
                      go_wp2
                      go_roundw
                      case rel => exact ⟨i + 1, true, by go_num, by omega, rfl, N4.out⟩
                      case measure => simp [intOf]; omega
                    · have hm2' : decide ((m.metric : Int) < 2) = false := decide_eq_false (by omega)
                      have z2 : w5.cell? ⟨wr.heap.size, 2, none⟩ = some (.int .u8 (m.metric : Int)) := C5.out.cell 2
                      have z1 : w5.cell? ⟨wr.heap.size, 1, none⟩ = some (.int .u8 (m.dim : Int)) := C5.out.cell 1
                      have lc5 := C5.out.lt
                      go_wp2_with (fail)
                      refine (num_any m.dim w5 (by omega)).mono ?_
                      rintro e q5 ⟨p5, rfl, ho, hb⟩
                      have HO := Lib.hid ho
                      have HB' := Lib.hid hb
                      clear ho hb
                      have HL10 := Lib.hid (show (vput m.dim).length ≤ 10 from vput_len10 (n := m.dim) (by omega))
                      go_wp2_with (at_builtin; go_must (refine app_put w5 _ rfl (.tmp 102) (.tmp 106) 33 rfl Tryz.underlying33 byte_info wy.heap.size _ p5 _ (vput m.dim) (by rfl) (by rfl) W5.out.1 hB5 HO.out HB'.out (by have h := L5.out; (try simp only [List.length_append] at h ⊢); omega) (by have := HL10.out; omega) ?_))
                      intro v6 w6 hw
                      have W6 := Lib.hid (W5.out.trans hw)
                      have L6 := Lib.hid (show ((encF (fs.take i) m.toM ++ cStr.enc (strB m.cname)) ++ vput m.dim).length ≤ 801000010 from by
                        have h1 := HL10.out
                        have h2 := L5.out
                        rw [List.length_append]
                        omega)
                      have C6 := Lib.hid (W6.out.2.1.out.blk CB.out HNE.out)
                      have hB6 := hw.size hB5
                      clear hw HO HB' HL10
                      have z2 : w6.cell? ⟨wr.heap.size, 2, none⟩ = some (.int .u8 (m.metric : Int)) := C6.out.cell 2
                      have lc6 := C6.out.lt
                      go_wp2_with (fail)
                      refine (num_any m.metric w6 (by omega)).mono ?_
                      rintro e q6 ⟨p6, rfl, ho, hb⟩
                      have HO := Lib.hid ho
                      have HB' := Lib.hid hb
                      clear ho hb
                      have HL10 := Lib.hid (show (vput m.metric).length ≤ 10 from vput_len10 (n := m.metric) (by omega))
                      go_wp2_with (at_builtin; go_must (refine app_put w6 _ rfl (.tmp 108) (.tmp 112) 33 rfl Tryz.underlying33 byte_info wy.heap.size _ p6 _ (vput m.metric) (by rfl) (by rfl) W6.out.1 hB6 HO.out HB'.out (by have h := L6.out; (try simp only [List.length_append] at h ⊢); omega) (by have := HL10.out; omega) ?_))
                      intro v7 w7 hw
                      have W7 := Lib.hid (W6.out.trans hw)
                      have L7 := Lib.hid (show (((encF (fs.take i) m.toM ++ cStr.enc (strB m.cname)) ++ vput m.dim) ++ vput m.metric).length ≤ 801000020 from by
                        have h1 := HL10.out
                        have h2 := L6.out
                        rw [List.length_append]
                        omega)
                      have C7 := Lib.hid (W7.out.2.1.out.blk CB.out HNE.out)
                      have hB7 := hw.size hB6
                      clear hw HO HB' HL10
                      have z3 : w7.cell? ⟨wr.heap.size, 3, none⟩ = some (.bool m.graph) := C7.out.cell 3
                      have lc7 := C7.out.lt
                      go_wp2_with (fail)
                      refine (flag_any m.graph w7).mono ?_
                      rintro e q7 ⟨p7, rfl, ho, hb⟩
                      have HO := Lib.hid ho
                      have HB' := Lib.hid hb
                      clear ho hb
                      have HL10 := Lib.hid (show (cFlag.enc m.graph).length ≤ 10 from Nat.le_trans (Nat.le_of_eq (cFlag_len m.graph)) (by decide))
                      go_wp2_with (at_builtin; go_must (refine app_put w7 _ rfl (.tmp 114) (.tmp 117) 33 rfl Tryz.underlying33 byte_info wy.heap.size _ p7 _ (cFlag.enc m.graph) (by rfl) (by rfl) W7.out.1 hB7 HO.out HB'.out (by have h := L7.out; (try simp only [List.length_append] at h ⊢); omega) (by have := HL10.out; omega) ?_))
                      intro v8 w8 hw
                      have W8 := Lib.hid (W7.out.trans hw)
                      have L8 := Lib.hid (show ((((encF (fs.take i) m.toM ++ cStr.enc (strB m.cname)) ++ vput m.dim) ++ vput m.metric) ++ cFlag.enc m.graph).length ≤ 801000030 from by
                        have h1 := HL10.out
                        have h2 := L7.out
                        rw [List.length_append]
                        omega)
                      have C8 := Lib.hid (W8.out.2.1.out.blk CB.out HNE.out)
                      have hB8 := hw.size hB7
                      clear hw HO HB' HL10
                      have z4 : w8.cell? ⟨wr.heap.size, 4, none⟩ = some (.int .u8 (m.links : Int)) := C8.out.cell 4
                      have lc8 := C8.out.lt
                      go_wp2_with (fail)
                      refine (num_any m.links w8 (by omega)).mono ?_
                      rintro e q8 ⟨p8, rfl, ho, hb⟩
                      have HO := Lib.hid ho
                      have HB' := Lib.hid hb
                      clear ho hb
                      have HL10 := Lib.hid (show (vput m.links).length ≤ 10 from vput_len10 (n := m.links) (by omega))
                      go_wp2_with (at_builtin; go_must (refine app_put w8 _ rfl (.tmp 119) (.tmp 123) 33 rfl Tryz.underlying33 byte_info wy.heap.size _ p8 _ (vput m.links) (by rfl) (by rfl) W8.out.1 hB8 HO.out HB'.out (by have h := L8.out; (try simp only [List.length_append] at h ⊢); omega) (by have := HL10.out; omega) ?_))
                      intro v9 w9 hw
                      have W9 := Lib.hid (W8.out.trans hw)
                      have L9 := Lib.hid (show (((((encF (fs.take i) m.toM ++ cStr.enc (strB m.cname)) ++ vput m.dim) ++ vput m.metric) ++ cFlag.enc m.graph) ++ vput m.links).length ≤ 801000040 from by
                        have h1 := HL10.out
                        have h2 := L8.out
                        rw [List.length_append]
                        omega)
                      have C9 := Lib.hid (W9.out.2.1.out.blk CB.out HNE.out)
                      have hB9 := hw.size hB8
                      clear hw HO HB' HL10
                      have z5 : w9.cell? ⟨wr.heap.size, 5, none⟩ = some (.int .u16 (m.cwidth : Int)) := C9.out.cell 5
                      have lc9 := C9.out.lt
                      go_wp2_with (fail)
                      refine (num_any m.cwidth w9 (by omega)).mono ?_
                      rintro e q9 ⟨p9, rfl, ho, hb⟩
                      have HO := Lib.hid ho
                      have HB' := Lib.hid hb
                      clear ho hb
                      have HL10 := Lib.hid (show (vput m.cwidth).length ≤ 10 from vput_len10 (n := m.cwidth) (by omega))
                      go_wp2_with (at_builtin; go_must (refine app_put w9 _ rfl (.tmp 125) (.tmp 129) 33 rfl Tryz.underlying33 byte_info wy.heap.size _ p9 _ (vput m.cwidth) (by rfl) (by rfl) W9.out.1 hB9 HO.out HB'.out (by have h := L9.out; (try simp only [List.length_append] at h ⊢); omega) (by have := HL10.out; omega) ?_))
                      intro v10 w10 hw
                      have W10 := Lib.hid (W9.out.trans hw)
                      have L10 := Lib.hid (show ((((((encF (fs.take i) m.toM ++ cStr.enc (strB m.cname)) ++ vput m.dim) ++ vput m.metric) ++ cFlag.enc m.graph) ++ vput m.links) ++ vput m.cwidth).length ≤ 801000050 from by
                        have h1 := HL10.out
                        have h2 := L9.out
                        rw [List.length_append]
                        omega)
                      have C10 := Lib.hid (W10.out.2.1.out.blk CB.out HNE.out)
                      have hB10 := hw.size hB9
                      clear hw HO HB' HL10
                      have hfit : ¬ (Fld.cod .conf).fits (Fld.get .conf m.toM) := fun hh => by have : m.metric ≤ 1 := hh.1.2.2.1; omega
                      have N4 := Lib.hid (HI.out.no_next (v' := v10) HF5.out hfit (KK.out.trans W10.out.2.1.out (Grows.refl _ _)))
                      clear HI
                      go_wp2
                      go_roundw
                      case rel => exact ⟨i + 1, false, by go_num, by omega, rfl, N4.out⟩
                      case measure => simp [intOf]; omega
                  · go_wp2_with (fail)
                    try rw [hw1']
                    clear hw1'
                    refine (text_over _ m.cname w1' (by omega) (by unfold maxLen; omega)).mono ?_
                    rintro e w5 ⟨rfl, rfl⟩
                    have W5 := Lib.hid (Wrote.same O1.out)
                    have L5 := Lib.hid (show (encF (fs.take i) m.toM).length ≤ 801000000 from by have := HLN.out; omega)
                    have C5 := Lib.hid CB.out
                    have hB5 := hB1
                    clear x0 x1 x2 x3 x4 x5 y0
                    have z2 : w5.cell? ⟨wr.heap.size, 2, none⟩ = some (.int .u8 (m.metric : Int)) := C5.out.cell 2
                    have z1 : w5.cell? ⟨wr.heap.size, 1, none⟩ = some (.int .u8 (m.dim : Int)) := C5.out.cell 1
                    have lc5 := C5.out.lt
                    go_wp2_with (fail)
                    refine (num_any m.dim w5 (by omega)).mono ?_
                    rintro e q5 ⟨p5, rfl, ho, hb⟩
                    have HO := Lib.hid ho
                    have HB' := Lib.hid hb
                    clear ho hb
                    have HL10 := Lib.hid (show (vput m.dim).length ≤ 10 from vput_len10 (n := m.dim) (by omega))
                    go_wp2_with (at_builtin; go_must (refine app_put w5 _ rfl (.tmp 102) (.tmp 106) 33 rfl Tryz.underlying33 byte_info wy.heap.size _ p5 _ (vput m.dim) (by rfl) (by rfl) W5.out.1 hB5 HO.out HB'.out (by have h := L5.out; (try simp only [List.length_append] at h ⊢); omega) (by have := HL10.out; omega) ?_))
                    intro v6 w6 hw
                    have W6 := Lib.hid (W5.out.trans hw)
                    have L6 := Lib.hid (show ((encF (fs.take i) m.toM) ++ vput m.dim).length ≤ 801000010 from by
                      have h1 := HL10.out
                      have h2 := L5.out
                      rw [List.length_append]
                      omega)
                    have C6 := Lib.hid (W6.out.2.1.out.blk CB.out HNE.out)
                    have hB6 := hw.size hB5
                    clear hw HO HB' HL10
                    have z2 : w6.cell? ⟨wr.heap.size, 2, none⟩ = some (.int .u8 (m.metric : Int)) := C6.out.cell 2
                    have lc6 := C6.out.lt
                    go_wp2_with (fail)
                    refine (num_any m.metric w6 (by omega)).mono ?_
                    rintro e q6 ⟨p6, rfl, ho, hb⟩
                    have HO := Lib.hid ho
                    have HB' := Lib.hid hb
                    clear ho hb
                    have HL10 := Lib.hid (show (vput m.metric).length ≤ 10 from vput_len10 (n := m.metric) (by omega))
                    go_wp2_with (at_builtin; go_must (refine app_put w6 _ rfl (.tmp 108) (.tmp 112) 33 rfl Tryz.underlying33 byte_info wy.heap.size _ p6 _ (vput m.metric) (by rfl) (by rfl) W6.out.1 hB6 HO.out HB'.out (by have h := L6.out; (try simp only [List.length_append] at h ⊢); omega) (by have := HL10.out; omega) ?_))
                    intro v7 w7 hw
                    have W7 := Lib.hid (W6.out.trans hw)
                    have L7 := Lib.hid (show (((encF (fs.take i) m.toM) ++ vput m.dim) ++ vput m.metric).length ≤ 801000020 from by
                      have h1 := HL10.out
                      have h2 := L6.out
                      rw [List.length_append]
                      omega)
                    have C7 := Lib.hid (W7.out.2.1.out.blk CB.out HNE.out)
                    have hB7 := hw.size hB6
                    clear hw HO HB' HL10
                    have z3 : w7.cell? ⟨wr.heap.size, 3, none⟩ = some (.bool m.graph) := C7.out.cell 3
                    have lc7 := C7.out.lt
                    go_wp2_with (fail)
                    refine (flag_any m.graph w7).mono ?_
                    rintro e q7 ⟨p7, rfl, ho, hb⟩
                    have HO := Lib.hid ho
                    have HB' := Lib.hid hb
                    clear ho hb
                    have HL10 := Lib.hid (show (cFlag.enc m.graph).length ≤ 10 from Nat.le_trans (Nat.le_of_eq (cFlag_len m.graph)) (by decide))
                    go_wp2_with (at_builtin; go_must (refine app_put w7 _ rfl (.tmp 114) (.tmp 117) 33 rfl Tryz.underlying33 byte_info wy.heap.size _ p7 _ (cFlag.enc m.graph) (by rfl) (by rfl) W7.out.1 hB7 HO.out HB'.out (by have h := L7.out; (try simp only [List.length_append] at h ⊢); omega) (by have := HL10.out; omega) ?_))
                    intro v8 w8 hw
                    have W8 := Lib.hid (W7.out.trans hw)
                    have L8 := Lib.hid (show ((((encF (fs.take i) m.toM) ++ vput m.dim) ++ vput m.metric) ++ cFlag.enc m.graph).length ≤ 801000030 from by
                      have h1 := HL10.out
                      have h2 := L7.out
                      rw [List.length_append]
                      omega)
                    have C8 := Lib.hid (W8.out.2.1.out.blk CB.out HNE.out)
                    have hB8 := hw.size hB7
                    clear hw HO HB' HL10
                    have z4 : w8.cell? ⟨wr.heap.size, 4, none⟩ = some (.int .u8 (m.links : Int)) := C8.out.cell 4
                    have lc8 := C8.out.lt
                    go_wp2_with (fail)
                    refine (num_any m.links w8 (by omega)).mono ?_
                    rintro e q8 ⟨p8, rfl, ho, hb⟩
                    have HO := Lib.hid ho
                    have HB' := Lib.hid hb
                    clear ho hb
                    have HL10 := Lib.hid (show (vput m.links).length ≤ 10 from vput_len10 (n := m.links) (by omega))
                    go_wp2_with (at_builtin; go_must (refine app_put w8 _ rfl (.tmp 119) (.tmp 123) 33 rfl Tryz.underlying33 byte_info wy.heap.size _ p8 _ (vput m.links) (by rfl) (by rfl) W8.out.1 hB8 HO.out HB'.out (by have h := L8.out; (try simp only [List.length_append] at h ⊢); omega) (by have := HL10.out; omega) ?_))
                    intro v9 w9 hw
                    have W9 := Lib.hid (W8.out.trans hw)
                    have L9 := Lib.hid (show (((((encF (fs.take i) m.toM) ++ vput m.dim) ++ vput m.metric) ++ cFlag.enc m.graph) ++ vput m.links).length ≤ 801000040 from by
                      have h1 := HL10.out
                      have h2 := L8.out
                      rw [List.length_append]
                      omega)
                    have C9 := Lib.hid (W9.out.2.1.out.blk CB.out HNE.out)
                    have hB9 := hw.size hB8
                    clear hw HO HB' HL10
                    have z5 : w9.cell? ⟨wr.heap.size, 5, none⟩ = some (.int .u16 (m.cwidth : Int)) := C9.out.cell 5
                    have lc9 := C9.out.lt
                    go_wp2_with (fail)
                    refine (num_any m.cwidth w9 (by omega)).mono ?_
                    rintro e q9 ⟨p9, rfl, ho, hb⟩
                    have HO := Lib.hid ho
                    have HB' := Lib.hid hb
                    clear ho hb
                    have HL10 := Lib.hid (show (vput m.cwidth).length ≤ 10 from vput_len10 (n := m.cwidth) (by omega))
                    go_wp2_with (at_builtin; go_must (refine app_put w9 _ rfl (.tmp 125) (.tmp 129) 33 rfl Tryz.underlying33 byte_info wy.heap.size _ p9 _ (vput m.cwidth) (by rfl) (by rfl) W9.out.1 hB9 HO.out HB'.out (by have h := L9.out; (try simp only [List.length_append] at h ⊢); omega) (by have := HL10.out; omega) ?_))
                    intro v10 w10 hw
                    have W10 := Lib.hid (W9.out.trans hw)
                    have L10 := Lib.hid (show ((((((encF (fs.take i) m.toM) ++ vput m.dim) ++ vput m.metric) ++ cFlag.enc m.graph) ++ vput m.links) ++ vput m.cwidth).length ≤ 801000050 from by
                      have h1 := HL10.out
                      have h2 := L9.out
                      rw [List.length_append]
                      omega)
                    have C10 := Lib.hid (W10.out.2.1.out.blk CB.out HNE.out)
                    have hB10 := hw.size hB9
                    clear hw HO HB' HL10
                    have hfit : ¬ (Fld.cod .conf).fits (Fld.get .conf m.toM) := fun hh => by have h1 := (cStr_fits _ (strB_byte _)).1 (show cStr.fits (strB m.cname) from hh.1.1); rw [strB_len] at h1; omega
                    have N4 := Lib.hid (HI.out.no_next (v' := v10) HF5.out hfit (KK.out.trans W10.out.2.1.out (Grows.refl _ _)))
                    clear HI
                    go_wp2
                    go_roundw
                    case rel => exact ⟨i + 1, false, by go_num, by omega, rfl, N4.out⟩
                    case measure => simp [intOf]; omega
              case changes =>
                have qreq : (S.toList == [114, 101, 113]) = false := by rw [← hS]; exact fld_q .changes .req
                have qcaps : (S.toList == [99, 97, 112, 115]) = false := by rw [← hS]; exact fld_q .changes .caps
                have qtoken : (S.toList == [116, 111, 107, 101, 110]) = false := by rw [← hS]; exact fld_q .changes .token
                have qcode : (S.toList == [99, 111, 100, 101]) = false := by rw [← hS]; exact fld_q .changes .code
                have qn : (S.toList == [110]) = false := by rw [← hS]; exact fld_q .changes .n
                have qname : (S.toList == [110, 97, 109, 101]) = false := by rw [← hS]; exact fld_q .changes .name
                have qconf : (S.toList == [99, 111, 110, 102]) = false := by rw [← hS]; exact fld_q .changes .conf
                have qchanges : (S.toList == [99, 104, 97, 110, 103, 101, 115]) = true := by rw [← hS]; exact fld_q .changes .changes
                clear hS
                as_aux_lemma =>
                  have x0 : wr.cell? ⟨w.heap.size, 13, none⟩ = some (.slice m.pch.a m.pch.n m.pch.c) := XR.out.cell 13
                  have hlx := XR.out.lt
                  go_wp2_with (fail)
                  refine (changes_any wy.heap.size _ _ m.pch.a m.pch.n m.pch.c m.changes wr HI.out.own hBr (by have := HLN.out; omega) HMr.out.hchanges).mono ?_
                  rintro e w5 (⟨hfit, v5, rfl, hw5⟩ | ⟨hfit, v5, rfl, hk5⟩)
                  · skip
                    have N4 := Lib.hid (HI.out.yes_next HF5.out (by first | exact hfit | trivial) hw5)
                    clear hw5 HI
                    go_wp2
                    go_roundw
                    case rel => exact ⟨i + 1, true, by go_num, by omega, rfl, N4.out⟩
                    case measure => simp [intOf]; omega
                  · skip
                    have N4 := Lib.hid (HI.out.no_next (v' := v5) HF5.out hfit hk5)
                    clear hk5 HI
                    go_wp2
                    go_roundw
                    case rel => exact ⟨i + 1, false, by go_num, by omega, rfl, N4.out⟩
                    case measure => simp [intOf]; omega
              case id =>
                have qreq : (S.toList == [114, 101, 113]) = false := by rw [← hS]; exact fld_q .id .req
                have qcaps : (S.toList == [99, 97, 112, 115]) = false := by rw [← hS]; exact fld_q .id .caps
                have qtoken : (S.toList == [116, 111, 107, 101, 110]) = false := by rw [← hS]; exact fld_q .id .token
                have qcode : (S.toList == [99, 111, 100, 101]) = false := by rw [← hS]; exact fld_q .id .code
                have qn : (S.toList == [110]) = false := by rw [← hS]; exact fld_q .id .n
                have qname : (S.toList == [110, 97, 109, 101]) = false := by rw [← hS]; exact fld_q .id .name
                have qconf : (S.toList == [99, 111, 110, 102]) = false := by rw [← hS]; exact fld_q .id .conf
                have qchanges : (S.toList == [99, 104, 97, 110, 103, 101, 115]) = false := by rw [← hS]; exact fld_q .id .changes
                have qid : (S.toList == [105, 100]) = true := by rw [← hS]; exact fld_q .id .id
                clear hS
                as_aux_lemma =>
                  have x0 : wr.cell? ⟨w.heap.size, 14, none⟩ = some (.int .u32 (m.id : Int)) := XR.out.cell 14
                  have hlx := XR.out.lt
                  have hb := HM.out.hid
                  have hwi : IntKind.i64.wrap (m.id : Int) = (m.id : Int) := by rw [IntKind.wrap_i64]; omega
                  go_wp2_with (fail)
                  refine (num_any m.id wr (by omega)).mono ?_
                  rintro e w4' ⟨v4, rfl, ho4, hb4⟩
                  have HO4 := Lib.hid ho4
                  have HB4' := Lib.hid hb4
                  clear ho4 hb4 x0
                  have hl10 := Lib.hid (vput_len10 (n := m.id) (by omega))
                  go_wp2_with (at_builtin; go_must (refine app_put wr _ rfl (.tmp 142) (.tmp 146) 33 rfl Tryz.underlying33 byte_info wy.heap.size _ v4 _ (vput m.id) (by rfl) (by rfl) HI.out.own hBr HO4.out HB4'.out (by have := HLN.out; omega) (by have := hl10.out; omega) ?_))
                  intro v5 w5 hw5
                  have hfit : (Fld.cod .id).fits (Fld.get .id m.toM) := hb
                  have N4 := Lib.hid (HI.out.yes_next HF5.out (by first | exact hfit | trivial) hw5)
                  clear hw5 HI
                  go_wp2
                  go_roundw
                  case rel => exact ⟨i + 1, true, by go_num, by omega, rfl, N4.out⟩
                  case measure => simp [intOf]; omega
              case vec =>
                have qreq : (S.toList == [114, 101, 113]) = false := by rw [← hS]; exact fld_q .vec .req
                have qcaps : (S.toList == [99, 97, 112, 115]) = false := by rw [← hS]; exact fld_q .vec .caps
                have qtoken : (S.toList == [116, 111, 107, 101, 110]) = false := by rw [← hS]; exact fld_q .vec .token
                have qcode : (S.toList == [99, 111, 100, 101]) = false := by rw [← hS]; exact fld_q .vec .code
                have qn : (S.toList == [110]) = false := by rw [← hS]; exact fld_q .vec .n
                have qname : (S.toList == [110, 97, 109, 101]) = false := by rw [← hS]; exact fld_q .vec .name
                have qconf : (S.toList == [99, 111, 110, 102]) = false := by rw [← hS]; exact fld_q .vec .conf
                have qchanges : (S.toList == [99, 104, 97, 110, 103, 101, 115]) = false := by rw [← hS]; exact fld_q .vec .changes
                have qid : (S.toList == [105, 100]) = false := by rw [← hS]; exact fld_q .vec .id
                have qvec : (S.toList == [118, 101, 99]) = true := by rw [← hS]; exact fld_q .vec .vec
                clear hS
                as_aux_lemma =>
                  have x0 : wr.cell? ⟨w.heap.size, 15, none⟩ = some (.slice m.pvec.a m.pvec.n m.pvec.c) := XR.out.cell 15
                  have hlx := XR.out.lt
                  go_wp2_with (fail)
                  refine (vec_any wy.heap.size _ _ m.pvec.a m.pvec.n m.pvec.c m.vec wr HI.out.own hBr (by have := HLN.out; omega) (fun w5 hb5 => (HMr.out.under hb5).hvec.ints rfl)).mono ?_
                  rintro e w5 (⟨hfit, v5, rfl, hw5⟩ | ⟨hfit, v5, rfl, hk5⟩)
                  · skip
                    have N4 := Lib.hid (HI.out.yes_next HF5.out (by first | exact hfit | trivial) hw5)
                    clear hw5 HI
                    go_wp2
                    go_roundw
                    case rel => exact ⟨i + 1, true, by go_num, by omega, rfl, N4.out⟩
                    case measure => simp [intOf]; omega
                  · skip
                    have N4 := Lib.hid (HI.out.no_next (v' := v5) HF5.out hfit hk5)
                    clear hk5 HI
                    go_wp2
                    go_roundw
                    case rel => exact ⟨i + 1, false, by go_num, by omega, rfl, N4.out⟩
                    case measure => simp [intOf]; omega
              case k =>
                have qreq : (S.toList == [114, 101, 113]) = false := by rw [← hS]; exact fld_q .k .req
                have qcaps : (S.toList == [99, 97, 112, 115]) = false := by rw [← hS]; exact fld_q .k .caps
                have qtoken : (S.toList == [116, 111, 107, 101, 110]) = false := by rw [← hS]; exact fld_q .k .token
                have qcode : (S.toList == [99, 111, 100, 101]) = false := by rw [← hS]; exact fld_q .k .code
                have qn : (S.toList == [110]) = false := by rw [← hS]; exact fld_q .k .n
                have qname : (S.toList == [110, 97, 109, 101]) = false := by rw [← hS]; exact fld_q .k .name
                have qconf : (S.toList == [99, 111, 110, 102]) = false := by rw [← hS]; exact fld_q .k .conf
                have qchanges : (S.toList == [99, 104, 97, 110, 103, 101, 115]) = false := by rw [← hS]; exact fld_q .k .changes
                have qid : (S.toList == [105, 100]) = false := by rw [← hS]; exact fld_q .k .id
                have qvec : (S.toList == [118, 101, 99]) = false := by rw [← hS]; exact fld_q .k .vec
                have qk : (S.toList == [107]) = true := by rw [← hS]; exact fld_q .k .k
                clear hS
                as_aux_lemma =>
                  have x0 : wr.cell? ⟨w.heap.size, 16, none⟩ = some (.int .u16 (m.k : Int)) := XR.out.cell 16
                  have hlx := XR.out.lt
                  have hb := HM.out.hk
                  have hwi : IntKind.i64.wrap (m.k : Int) = (m.k : Int) := by rw [IntKind.wrap_i64]; omega
                  go_wp2_with (fail)
                  refine (num_any m.k wr (by omega)).mono ?_
                  rintro e w4' ⟨v4, rfl, ho4, hb4⟩
                  have HO4 := Lib.hid ho4
                  have HB4' := Lib.hid hb4
                  clear ho4 hb4 x0
                  have hl10 := Lib.hid (vput_len10 (n := m.k) (by omega))
                  go_wp2_with (at_builtin; go_must (refine app_put wr _ rfl (.tmp 159) (.tmp 163) 33 rfl Tryz.underlying33 byte_info wy.heap.size _ v4 _ (vput m.k) (by rfl) (by rfl) HI.out.own hBr HO4.out HB4'.out (by have := HLN.out; omega) (by have := hl10.out; omega) ?_))
                  intro v5 w5 hw5
                  have hfit : (Fld.cod .k).fits (Fld.get .k m.toM) := hb
                  have N4 := Lib.hid (HI.out.yes_next HF5.out (by first | exact hfit | trivial) hw5)
                  clear hw5 HI
                  go_wp2
                  go_roundw
                  case rel => exact ⟨i + 1, true, by go_num, by omega, rfl, N4.out⟩
                  case measure => simp [intOf]; omega
              case width =>
                have qreq : (S.toList == [114, 101, 113]) = false := by rw [← hS]; exact fld_q .width .req
                have qcaps : (S.toList == [99, 97, 112, 115]) = false := by rw [← hS]; exact fld_q .width .caps
                have qtoken : (S.toList == [116, 111, 107, 101, 110]) = false := by rw [← hS]; exact fld_q .width .token
                have qcode : (S.toList == [99, 111, 100, 101]) = false := by rw [← hS]; exact fld_q .width .code
                have qn : (S.toList == [110]) = false := by rw [← hS]; exact fld_q .width .n
                have qname : (S.toList == [110, 97, 109, 101]) = false := by rw [← hS]; exact fld_q .width .name
                have qconf : (S.toList == [99, 111, 110, 102]) = false := by rw [← hS]; exact fld_q .width .conf
                have qchanges : (S.toList == [99, 104, 97, 110, 103, 101, 115]) = false := by rw [← hS]; exact fld_q .width .changes
                have qid : (S.toList == [105, 100]) = false := by rw [← hS]; exact fld_q .width .id
                have qvec : (S.toList == [118, 101, 99]) = false := by rw [← hS]; exact fld_q .width .vec
                have qk : (S.toList == [107]) = false := by rw [← hS]; exact fld_q .width .k
                have qwidth : (S.toList == [119, 105, 100, 116, 104]) = true := by rw [← hS]; exact fld_q .width .width
                clear hS
                as_aux_lemma =>
                  have x0 : wr.cell? ⟨w.heap.size, 17, none⟩ = some (.int .u16 (m.width : Int)) := XR.out.cell 17
                  have hlx := XR.out.lt
                  have hb := HM.out.hwidth
                  have hwi : IntKind.i64.wrap (m.width : Int) = (m.width : Int) := by rw [IntKind.wrap_i64]; omega
                  go_wp2_with (fail)
                  refine (num_any m.width wr (by omega)).mono ?_
                  rintro e w4' ⟨v4, rfl, ho4, hb4⟩
                  have HO4 := Lib.hid ho4
                  have HB4' := Lib.hid hb4
                  clear ho4 hb4 x0
                  have hl10 := Lib.hid (vput_len10 (n := m.width) (by omega))
                  go_wp2_with (at_builtin; go_must (refine app_put wr _ rfl (.tmp 167) (.tmp 171) 33 rfl Tryz.underlying33 byte_info wy.heap.size _ v4 _ (vput m.width) (by rfl) (by rfl) HI.out.own hBr HO4.out HB4'.out (by have := HLN.out; omega) (by have := hl10.out; omega) ?_))
                  intro v5 w5 hw5
                  have hfit : (Fld.cod .width).fits (Fld.get .width m.toM) := hb
                  have N4 := Lib.hid (HI.out.yes_next HF5.out (by first | exact hfit | trivial) hw5)
                  clear hw5 HI
                  go_wp2
                  go_roundw
                  case rel => exact ⟨i + 1, true, by go_num, by omega, rfl, N4.out⟩
                  case measure => simp [intOf]; omega
              case filter =>
                have qreq : (S.toList == [114, 101, 113]) = false := by rw [← hS]; exact fld_q .filter .req
                have qcaps : (S.toList == [99, 97, 112, 115]) = false := by rw [← hS]; exact fld_q .filter .caps
                have qtoken : (S.toList == [116, 111, 107, 101, 110]) = false := by rw [← hS]; exact fld_q .filter .token
                have qcode : (S.toList == [99, 111, 100, 101]) = false := by rw [← hS]; exact fld_q .filter .code
                have qn : (S.toList == [110]) = false := by rw [← hS]; exact fld_q .filter .n
                have qname : (S.toList == [110, 97, 109, 101]) = false := by rw [← hS]; exact fld_q .filter .name
                have qconf : (S.toList == [99, 111, 110, 102]) = false := by rw [← hS]; exact fld_q .filter .conf
                have qchanges : (S.toList == [99, 104, 97, 110, 103, 101, 115]) = false := by rw [← hS]; exact fld_q .filter .changes
                have qid : (S.toList == [105, 100]) = false := by rw [← hS]; exact fld_q .filter .id
                have qvec : (S.toList == [118, 101, 99]) = false := by rw [← hS]; exact fld_q .filter .vec
                have qk : (S.toList == [107]) = false := by rw [← hS]; exact fld_q .filter .k
                have qwidth : (S.toList == [119, 105, 100, 116, 104]) = false := by rw [← hS]; exact fld_q .filter .width
                have qfilter : (S.toList == [102, 105, 108, 116, 101, 114]) = true := by rw [← hS]; exact fld_q .filter .filter
                clear hS
                as_aux_lemma =>
                  have x18 : wr.cell? ⟨w.heap.size, 18, none⟩ = some (.slice m.pall.a m.pall.n m.pall.c) := XR.out.cell 18
                  have hlx := XR.out.lt
                  go_wp2_with (fail)
                  refine (texts_any wy.heap.size _ _ m.pall.a m.pall.n m.pall.c m.all wr HI.out.own hBr (by have := HLN.out; omega) (fun w5 hb5 => ((HMr.out.under hb5).hall.strs rfl).1) (HMr.out.hall.strs rfl).2).mono ?_
                  rintro e w5 (⟨hf1, v5, rfl, hw5⟩ | ⟨hf1, v5, rfl, hk5⟩)
                  rotate_left
                  · have hfit : ¬ (Fld.cod .filter).fits (Fld.get .filter m.toM) := fun hh => hf1 hh.1.1
                    have N4 := Lib.hid (HI.out.no_next (v' := v5) HF5.out hfit hk5)
                    clear hk5 HI
                    go_wp2
                    go_roundw
                    case rel => exact ⟨i + 1, false, by go_num, by omega, rfl, N4.out⟩
                    case measure => simp [intOf]; omega
                  have W5 := Lib.hid hw5
                  have F1 := Lib.hid hf1
                  have L5 := Lib.hid (show (encF (fs.take i) m.toM ++ cStrs.enc (m.all.map strB)).length ≤ 801000000 from by
                    have h1 := cStrs_len _ hf1
                    have h2 := HLN.out
                    rw [List.length_append]
                    omega)
                  have hb5 := hw5.below HI.out.own hBr
                  have x19 : w5.cell? ⟨w.heap.size, 19, none⟩ = some (.slice m.pany.a m.pany.n m.pany.c) := (hb5.cell (p := ⟨w.heap.size, 19, none⟩) hgx).trans (XR.out.cell 19)
                  have M5 := Lib.hid (HMr.out.under hb5)
                  have hB5 := hw5.size hBr
                  have hlx5 : w.heap.size < w5.heap.size := by omega
                  clear hw5 hf1 hb5 x18
                  go_wp2_with (fail)
                  refine (texts_any wy.heap.size v5 _ m.pany.a m.pany.n m.pany.c m.any w5 W5.out.1 hB5 (by have := L5.out; omega) (fun w6 hb6 => ((M5.out.under hb6).hany.strs rfl).1) (M5.out.hany.strs rfl).2).mono ?_
                  rintro e w6 (⟨hf2, v6, rfl, hw6⟩ | ⟨hf2, v6, rfl, hk6⟩)
                  rotate_left
                  · have hfit : ¬ (Fld.cod .filter).fits (Fld.get .filter m.toM) := fun hh => hf2 hh.1.2.1
                    have N4 := Lib.hid (HI.out.no_next (v' := v6) HF5.out hfit (W5.out.lost hk6.out))
                    clear hk6 HI
                    go_wp2
                    go_roundw
                    case rel => exact ⟨i + 1, false, by go_num, by omega, rfl, N4.out⟩
                    case measure => simp [intOf]; omega
                  have W6 := Lib.hid hw6
                  have F2 := Lib.hid hf2
                  have L6 := Lib.hid (show ((encF (fs.take i) m.toM ++ cStrs.enc (m.all.map strB)) ++ cStrs.enc (m.any.map strB)).length ≤ 802000000 from by
                    have h1 := cStrs_len _ hf2
                    have h2 := L5.out
                    rw [List.length_append]
                    omega)
                  have hb6 := hw6.below W5.out.1 hB5
                  have x20 : w6.cell? ⟨w.heap.size, 20, none⟩ = some (.slice m.pno.a m.pno.n m.pno.c) := (hb6.cell (p := ⟨w.heap.size, 20, none⟩) hgx).trans (((W5.out.below HI.out.own hBr).cell (p := ⟨w.heap.size, 20, none⟩) hgx).trans (XR.out.cell 20))
                  have M6 := Lib.hid (M5.out.under hb6)
                  have hB6 := hw6.size hB5
                  have hlx6 : w.heap.size < w6.heap.size := by omega
                  clear hw6 hf2 hb6 x19
                  go_wp2_with (fail)
                  refine (texts_any wy.heap.size v6 _ m.pno.a m.pno.n m.pno.c m.no w6 W6.out.1 hB6 (by have := L6.out; omega) (fun w7 hb7 => ((M6.out.under hb7).hno.strs rfl).1) (M6.out.hno.strs rfl).2).mono ?_
                  rintro e w7 (⟨hf3, v7, rfl, hw7⟩ | ⟨hf3, v7, rfl, hk7⟩)
                  · have hfit : (Fld.cod .filter).fits (Fld.get .filter m.toM) := ⟨⟨F1.out, F2.out, hf3⟩, rfl⟩
                    have N4 := Lib.hid (HI.out.yes_next HF5.out hfit (by
                      have := (W5.out.trans W6.out).trans hw7
                      rw [List.append_assoc, List.append_assoc] at this
                      exact this))
                    clear hw7 HI
                    go_wp2
                    go_roundw
                    case rel => exact ⟨i + 1, true, by go_num, by omega, rfl, N4.out⟩
                    case measure => simp [intOf]; omega
                  · have hfit : ¬ (Fld.cod .filter).fits (Fld.get .filter m.toM) := fun hh => hf3 hh.1.2.2
                    have N4 := Lib.hid (HI.out.no_next (v' := v7) HF5.out hfit ((W5.out.trans W6.out).lost hk7.out))
                    clear hk7 HI
                    go_wp2
                    go_roundw
                    case rel => exact ⟨i + 1, false, by go_num, by omega, rfl, N4.out⟩
                    case measure => simp [intOf]; omega
              case num =>
                have qreq : (S.toList == [114, 101, 113]) = false := by rw [← hS]; exact fld_q .num .req
                have qcaps : (S.toList == [99, 97, 112, 115]) = false := by rw [← hS]; exact fld_q .num .caps
                have qtoken : (S.toList == [116, 111, 107, 101, 110]) = false := by rw [← hS]; exact fld_q .num .token
                have qcode : (S.toList == [99, 111, 100, 101]) = false := by rw [← hS]; exact fld_q .num .code
                have qn : (S.toList == [110]) = false := by rw [← hS]; exact fld_q .num .n
                have qname : (S.toList == [110, 97, 109, 101]) = false := by rw [← hS]; exact fld_q .num .name
                have qconf : (S.toList == [99, 111, 110, 102]) = false := by rw [← hS]; exact fld_q .num .conf
                have qchanges : (S.toList == [99, 104, 97, 110, 103, 101, 115]) = false := by rw [← hS]; exact fld_q .num .changes
                have qid : (S.toList == [105, 100]) = false := by rw [← hS]; exact fld_q .num .id
                have qvec : (S.toList == [118, 101, 99]) = false := by rw [← hS]; exact fld_q .num .vec
                have qk : (S.toList == [107]) = false := by rw [← hS]; exact fld_q .num .k
                have qwidth : (S.toList == [119, 105, 100, 116, 104]) = false := by rw [← hS]; exact fld_q .num .width
                have qfilter : (S.toList == [102, 105, 108, 116, 101, 114]) = false := by rw [← hS]; exact fld_q .num .filter
                have qnum : (S.toList == [110, 117, 109]) = true := by rw [← hS]; exact fld_q .num .num
                clear hS
                as_aux_lemma =>
                  have x0 : wr.cell? ⟨w.heap.size, 21, none⟩ = some (.int .u32 (m.num : Int)) := XR.out.cell 21
                  have hlx := XR.out.lt
                  have hb := HM.out.hnum
                  have hwi : IntKind.i64.wrap (m.num : Int) = (m.num : Int) := by rw [IntKind.wrap_i64]; omega
                  go_wp2_with (fail)
                  refine (num_any m.num wr (by omega)).mono ?_
                  rintro e w4' ⟨v4, rfl, ho4, hb4⟩
                  have HO4 := Lib.hid ho4
                  have HB4' := Lib.hid hb4
                  clear ho4 hb4 x0
                  have hl10 := Lib.hid (vput_len10 (n := m.num) (by omega))
                  go_wp2_with (at_builtin; go_must (refine app_put wr _ rfl (.tmp 203) (.tmp 207) 33 rfl Tryz.underlying33 byte_info wy.heap.size _ v4 _ (vput m.num) (by rfl) (by rfl) HI.out.own hBr HO4.out HB4'.out (by have := HLN.out; omega) (by have := hl10.out; omega) ?_))
                  intro v5 w5 hw5
                  have hfit : (Fld.cod .num).fits (Fld.get .num m.toM) := hb
                  have N4 := Lib.hid (HI.out.yes_next HF5.out (by first | exact hfit | trivial) hw5)
                  clear hw5 HI
                  go_wp2
                  go_roundw
                  case rel => exact ⟨i + 1, true, by go_num, by omega, rfl, N4.out⟩
                  case measure => simp [intOf]; omega
              case page =>
                have qreq : (S.toList == [114, 101, 113]) = false := by rw [← hS]; exact fld_q .page .req
                have qcaps : (S.toList == [99, 97, 112, 115]) = false := by rw [← hS]; exact fld_q .page .caps
                have qtoken : (S.toList == [116, 111, 107, 101, 110]) = false := by rw [← hS]; exact fld_q .page .token
                have qcode : (S.toList == [99, 111, 100, 101]) = false := by rw [← hS]; exact fld_q .page .code
                have qn : (S.toList == [110]) = false := by rw [← hS]; exact fld_q .page .n
                have qname : (S.toList == [110, 97, 109, 101]) = false := by rw [← hS]; exact fld_q .page .name
                have qconf : (S.toList == [99, 111, 110, 102]) = false := by rw [← hS]; exact fld_q .page .conf
                have qchanges : (S.toList == [99, 104, 97, 110, 103, 101, 115]) = false := by rw [← hS]; exact fld_q .page .changes
                have qid : (S.toList == [105, 100]) = false := by rw [← hS]; exact fld_q .page .id
                have qvec : (S.toList == [118, 101, 99]) = false := by rw [← hS]; exact fld_q .page .vec
                have qk : (S.toList == [107]) = false := by rw [← hS]; exact fld_q .page .k
                have qwidth : (S.toList == [119, 105, 100, 116, 104]) = false := by rw [← hS]; exact fld_q .page .width
                have qfilter : (S.toList == [102, 105, 108, 116, 101, 114]) = false := by rw [← hS]; exact fld_q .page .filter
                have qnum : (S.toList == [110, 117, 109]) = false := by rw [← hS]; exact fld_q .page .num
                have qpage : (S.toList == [112, 97, 103, 101]) = true := by rw [← hS]; exact fld_q .page .page
                clear hS
                as_aux_lemma =>
                  have x0 : wr.cell? ⟨w.heap.size, 22, none⟩ = some (.int .u32 (m.page : Int)) := XR.out.cell 22
                  have hlx := XR.out.lt
                  have hb := HM.out.hpage
                  have hwi : IntKind.i64.wrap (m.page : Int) = (m.page : Int) := by rw [IntKind.wrap_i64]; omega
                  go_wp2_with (fail)
                  refine (num_any m.page wr (by omega)).mono ?_
                  rintro e w4' ⟨v4, rfl, ho4, hb4⟩
                  have HO4 := Lib.hid ho4
                  have HB4' := Lib.hid hb4
                  clear ho4 hb4 x0
                  have hl10 := Lib.hid (vput_len10 (n := m.page) (by omega))
                  go_wp2_with (at_builtin; go_must (refine app_put wr _ rfl (.tmp 211) (.tmp 215) 33 rfl Tryz.underlying33 byte_info wy.heap.size _ v4 _ (vput m.page) (by rfl) (by rfl) HI.out.own hBr HO4.out HB4'.out (by have := HLN.out; omega) (by have := hl10.out; omega) ?_))
                  intro v5 w5 hw5
                  have hfit : (Fld.cod .page).fits (Fld.get .page m.toM) := hb
                  have N4 := Lib.hid (HI.out.yes_next HF5.out (by first | exact hfit | trivial) hw5)
                  clear hw5 HI
                  go_wp2
                  go_roundw
                  case rel => exact ⟨i + 1, true, by go_num, by omega, rfl, N4.out⟩
                  case measure => simp [intOf]; omega
              case bytes =>
                have qreq : (S.toList == [114, 101, 113]) = false := by rw [← hS]; exact fld_q .bytes .req
                have qcaps : (S.toList == [99, 97, 112, 115]) = false := by rw [← hS]; exact fld_q .bytes .caps
                have qtoken : (S.toList == [116, 111, 107, 101, 110]) = false := by rw [← hS]; exact fld_q .bytes .token
                have qcode : (S.toList == [99, 111, 100, 101]) = false := by rw [← hS]; exact fld_q .bytes .code
                have qn : (S.toList == [110]) = false := by rw [← hS]; exact fld_q .bytes .n
                have qname : (S.toList == [110, 97, 109, 101]) = false := by rw [← hS]; exact fld_q .bytes .name
                have qconf : (S.toList == [99, 111, 110, 102]) = false := by rw [← hS]; exact fld_q .bytes .conf
                have qchanges : (S.toList == [99, 104, 97, 110, 103, 101, 115]) = false := by rw [← hS]; exact fld_q .bytes .changes
                have qid : (S.toList == [105, 100]) = false := by rw [← hS]; exact fld_q .bytes .id
                have qvec : (S.toList == [118, 101, 99]) = false := by rw [← hS]; exact fld_q .bytes .vec
                have qk : (S.toList == [107]) = false := by rw [← hS]; exact fld_q .bytes .k
                have qwidth : (S.toList == [119, 105, 100, 116, 104]) = false := by rw [← hS]; exact fld_q .bytes .width
                have qfilter : (S.toList == [102, 105, 108, 116, 101, 114]) = false := by rw [← hS]; exact fld_q .bytes .filter
                have qnum : (S.toList == [110, 117, 109]) = false := by rw [← hS]; exact fld_q .bytes .num
                have qpage : (S.toList == [112, 97, 103, 101]) = false := by rw [← hS]; exact fld_q .bytes .page
                have qbytes : (S.toList == [98, 121, 116, 101, 115]) = true := by rw [← hS]; exact fld_q .bytes .bytes
                clear hS
                as_aux_lemma =>
                  have x0 : wr.cell? ⟨w.heap.size, 23, none⟩ = some (.slice m.pbytes.a m.pbytes.n m.pbytes.c) := XR.out.cell 23
                  have hlx := XR.out.lt
                  obtain ⟨hbr, _⟩ := HMr.out.hbytes.bytes
                  obtain ⟨str, hstr⟩ : ∃ str, strOfB (m.bytes.map Int.toNat) = str := ⟨_, rfl⟩
                  have kc : (convert 33 9 (.slice m.pbytes.a m.pbytes.n m.pbytes.c)).run Tryz.prog wr = .ok (.string str) wr := by
                    rw [← hstr]
                    exact hbr.str 33 5 Tryz.underlying33 Tryz.underlying5 9 Tryz.underlying9
                  have HSB := Lib.hid (show strB str = m.bytes.map Int.toNat from by rw [← hstr]; exact strB_of _ hbr.byte)
                  have HSZ := Lib.hid (show str.size ≤ 140737488351232 from by
                    have h1 := strB_len str
                    rw [HSB.out, hbr.len] at h1
                    have h2 := sl_len6 (e := .int .u8) HMr.out.hbytes
                    omega)
                  clear hbr hstr
                  go_wp2_with (fail)
                  refine (text_any wy.heap.size _ _ str wr HI.out.own hBr (by have := HLN.out; omega) (by unfold maxLen; have := HSZ.out; omega)).mono ?_
                  rintro e w5 (⟨hfit, v5, rfl, hw5⟩ | ⟨hfit, v5, rfl, hk5⟩)
                  · rw [HSB.out] at hfit hw5
                    have N4 := Lib.hid (HI.out.yes_next HF5.out (by first | exact hfit | trivial) hw5)
                    clear hw5 HI
                    go_wp2
                    go_roundw
                    case rel => exact ⟨i + 1, true, by go_num, by omega, rfl, N4.out⟩
                    case measure => simp [intOf]; omega
                  · rw [HSB.out] at hfit
                    have N4 := Lib.hid (HI.out.no_next (v' := v5) HF5.out hfit hk5)
                    clear hk5 HI
                    go_wp2
                    go_roundw
                    case rel => exact ⟨i + 1, false, by go_num, by omega, rfl, N4.out⟩
                    case measure => simp [intOf]; omega
              case version =>
                have qreq : (S.toList == [114, 101, 113]) = false := by rw [← hS]; exact fld_q .version .req
                have qcaps : (S.toList == [99, 97, 112, 115]) = false := by rw [← hS]; exact fld_q .version .caps
                have qtoken : (S.toList == [116, 111, 107, 101, 110]) = false := by rw [← hS]; exact fld_q .version .token
                have qcode : (S.toList == [99, 111, 100, 101]) = false := by rw [← hS]; exact fld_q .version .code
                have qn : (S.toList == [110]) = false := by rw [← hS]; exact fld_q .version .n
                have qname : (S.toList == [110, 97, 109, 101]) = false := by rw [← hS]; exact fld_q .version .name
                have qconf : (S.toList == [99, 111, 110, 102]) = false := by rw [← hS]; exact fld_q .version .conf
                have qchanges : (S.toList == [99, 104, 97, 110, 103, 101, 115]) = false := by rw [← hS]; exact fld_q .version .changes
                have qid : (S.toList == [105, 100]) = false := by rw [← hS]; exact fld_q .version .id
                have qvec : (S.toList == [118, 101, 99]) = false := by rw [← hS]; exact fld_q .version .vec
                have qk : (S.toList == [107]) = false := by rw [← hS]; exact fld_q .version .k
                have qwidth : (S.toList == [119, 105, 100, 116, 104]) = false := by rw [← hS]; exact fld_q .version .width
                have qfilter : (S.toList == [102, 105, 108, 116, 101, 114]) = false := by rw [← hS]; exact fld_q .version .filter
                have qnum : (S.toList == [110, 117, 109]) = false := by rw [← hS]; exact fld_q .version .num
                have qpage : (S.toList == [112, 97, 103, 101]) = false := by rw [← hS]; exact fld_q .version .page
                have qbytes : (S.toList == [98, 121, 116, 101, 115]) = false := by rw [← hS]; exact fld_q .version .bytes
                have qversion : (S.toList == [118, 101, 114, 115, 105, 111, 110]) = true := by rw [← hS]; exact fld_q .version .version
                clear hS
                as_aux_lemma =>
                  have x0 : wr.cell? ⟨w.heap.size, 24, none⟩ = some (.int .u64 (m.version : Int)) := XR.out.cell 24
                  have hlx := XR.out.lt
                  have hb := HM.out.hversion
                  go_wp2_with (fail)
                  refine (rput_any m.version wr (by omega)).mono ?_
                  rintro e w4' ⟨v4, rfl, ho4, hb4⟩
                  have HO4 := Lib.hid ho4
                  have HB4' := Lib.hid hb4
                  clear ho4 hb4 x0
                  have hl10 := Lib.hid (vput_len10 (n := m.version) (by omega))
                  go_wp2_with (at_builtin; go_must (refine app_put wr _ rfl (.tmp 229) (.tmp 232) 33 rfl Tryz.underlying33 byte_info wy.heap.size _ v4 _ (vput m.version) (by rfl) (by rfl) HI.out.own hBr HO4.out HB4'.out (by have := HLN.out; omega) (by have := hl10.out; omega) ?_))
                  intro v5 w5 hw5
                  have hfit : (Fld.cod .version).fits (Fld.get .version m.toM) := hb
                  have N4 := Lib.hid (HI.out.yes_next HF5.out (by first | exact hfit | trivial) hw5)
                  clear hw5 HI
                  go_wp2
                  go_roundw
                  case rel => exact ⟨i + 1, true, by go_num, by omega, rfl, N4.out⟩
                  case measure => simp [intOf]; omega
              case names =>
                have qreq : (S.toList == [114, 101, 113]) = false := by rw [← hS]; exact fld_q .names .req
                have qcaps : (S.toList == [99, 97, 112, 115]) = false := by rw [← hS]; exact fld_q .names .caps
                have qtoken : (S.toList == [116, 111, 107, 101, 110]) = false := by rw [← hS]; exact fld_q .names .token
                have qcode : (S.toList == [99, 111, 100, 101]) = false := by rw [← hS]; exact fld_q .names .code
                have qn : (S.toList == [110]) = false := by rw [← hS]; exact fld_q .names .n
                have qname : (S.toList == [110, 97, 109, 101]) = false := by rw [← hS]; exact fld_q .names .name
                have qconf : (S.toList == [99, 111, 110, 102]) = false := by rw [← hS]; exact fld_q .names .conf
                have qchanges : (S.toList == [99, 104, 97, 110, 103, 101, 115]) = false := by rw [← hS]; exact fld_q .names .changes
                have qid : (S.toList == [105, 100]) = false := by rw [← hS]; exact fld_q .names .id
                have qvec : (S.toList == [118, 101, 99]) = false := by rw [← hS]; exact fld_q .names .vec
                have qk : (S.toList == [107]) = false := by rw [← hS]; exact fld_q .names .k
                have qwidth : (S.toList == [119, 105, 100, 116, 104]) = false := by rw [← hS]; exact fld_q .names .width
                have qfilter : (S.toList == [102, 105, 108, 116, 101, 114]) = false := by rw [← hS]; exact fld_q .names .filter
                have qnum : (S.toList == [110, 117, 109]) = false := by rw [← hS]; exact fld_q .names .num
                have qpage : (S.toList == [112, 97, 103, 101]) = false := by rw [← hS]; exact fld_q .names .page
                have qbytes : (S.toList == [98, 121, 116, 101, 115]) = false := by rw [← hS]; exact fld_q .names .bytes
                have qversion : (S.toList == [118, 101, 114, 115, 105, 111, 110]) = false := by rw [← hS]; exact fld_q .names .version
                have qnames : (S.toList == [110, 97, 109, 101, 115]) = true := by rw [← hS]; exact fld_q .names .names
                clear hS
                as_aux_lemma =>
                  have x0 : wr.cell? ⟨w.heap.size, 25, none⟩ = some (.slice m.pnames.a m.pnames.n m.pnames.c) := XR.out.cell 25
                  have hlx := XR.out.lt
                  go_wp2_with (fail)
                  refine (texts_any wy.heap.size _ _ m.pnames.a m.pnames.n m.pnames.c m.names wr HI.out.own hBr (by have := HLN.out; omega) (fun w5 hb5 => ((HMr.out.under hb5).hnames.strs rfl).1) (HMr.out.hnames.strs rfl).2).mono ?_
                  rintro e w5 (⟨hfit, v5, rfl, hw5⟩ | ⟨hfit, v5, rfl, hk5⟩)
                  · skip
                    have N4 := Lib.hid (HI.out.yes_next HF5.out (by first | exact hfit | trivial) hw5)
                    clear hw5 HI
                    go_wp2
                    go_roundw
                    case rel => exact ⟨i + 1, true, by go_num, by omega, rfl, N4.out⟩
                    case measure => simp [intOf]; omega
                  · skip
                    have N4 := Lib.hid (HI.out.no_next (v' := v5) HF5.out hfit hk5)
                    clear hk5 HI
                    go_wp2
                    go_roundw
                    case rel => exact ⟨i + 1, false, by go_num, by omega, rfl, N4.out⟩
                    case measure => simp [intOf]; omega
              case items =>
                have qreq : (S.toList == [114, 101, 113]) = false := by rw [← hS]; exact fld_q .items .req
                have qcaps : (S.toList == [99, 97, 112, 115]) = false := by rw [← hS]; exact fld_q .items .caps
                have qtoken : (S.toList == [116, 111, 107, 101, 110]) = false := by rw [← hS]; exact fld_q .items .token
                have qcode : (S.toList == [99, 111, 100, 101]) = false := by rw [← hS]; exact fld_q .items .code
                have qn : (S.toList == [110]) = false := by rw [← hS]; exact fld_q .items .n
                have qname : (S.toList == [110, 97, 109, 101]) = false := by rw [← hS]; exact fld_q .items .name
                have qconf : (S.toList == [99, 111, 110, 102]) = false := by rw [← hS]; exact fld_q .items .conf
                have qchanges : (S.toList == [99, 104, 97, 110, 103, 101, 115]) = false := by rw [← hS]; exact fld_q .items .changes
                have qid : (S.toList == [105, 100]) = false := by rw [← hS]; exact fld_q .items .id
                have qvec : (S.toList == [118, 101, 99]) = false := by rw [← hS]; exact fld_q .items .vec
                have qk : (S.toList == [107]) = false := by rw [← hS]; exact fld_q .items .k
                have qwidth : (S.toList == [119, 105, 100, 116, 104]) = false := by rw [← hS]; exact fld_q .items .width
                have qfilter : (S.toList == [102, 105, 108, 116, 101, 114]) = false := by rw [← hS]; exact fld_q .items .filter
                have qnum : (S.toList == [110, 117, 109]) = false := by rw [← hS]; exact fld_q .items .num
                have qpage : (S.toList == [112, 97, 103, 101]) = false := by rw [← hS]; exact fld_q .items .page
                have qbytes : (S.toList == [98, 121, 116, 101, 115]) = false := by rw [← hS]; exact fld_q .items .bytes
                have qversion : (S.toList == [118, 101, 114, 115, 105, 111, 110]) = false := by rw [← hS]; exact fld_q .items .version
                have qnames : (S.toList == [110, 97, 109, 101, 115]) = false := by rw [← hS]; exact fld_q .items .names
                have qitems : (S.toList == [105, 116, 101, 109, 115]) = true := by rw [← hS]; exact fld_q .items .items
                clear hS
                as_aux_lemma =>
                  have x0 : wr.cell? ⟨w.heap.size, 26, none⟩ = some (.slice m.pitems.a m.pitems.n m.pitems.c) := XR.out.cell 26
                  have hlx := XR.out.lt
                  go_wp2_with (fail)
                  refine (items_any wy.heap.size _ _ m.pitems.a m.pitems.n m.pitems.c m.items wr HI.out.own hBr (by have := HLN.out; omega) HMr.out.hitems).mono ?_
                  rintro e w5 (⟨hfit, v5, rfl, hw5⟩ | ⟨hfit, v5, rfl, hk5⟩)
                  · skip
                    have N4 := Lib.hid (HI.out.yes_next HF5.out (by first | exact hfit | trivial) hw5)
                    clear hw5 HI
                    go_wp2
                    go_roundw
                    case rel => exact ⟨i + 1, true, by go_num, by omega, rfl, N4.out⟩
                    case measure => simp [intOf]; omega
                  · skip
                    have N4 := Lib.hid (HI.out.no_next (v' := v5) HF5.out hfit hk5)
                    clear hk5 HI
                    go_wp2
                    go_roundw
                    case rel => exact ⟨i + 1, false, by go_num, by omega, rfl, N4.out⟩
                    case measure => simp [intOf]; omega
              case hits =>
                have qreq : (S.toList == [114, 101, 113]) = false := by rw [← hS]; exact fld_q .hits .req
                have qcaps : (S.toList == [99, 97, 112, 115]) = false := by rw [← hS]; exact fld_q .hits .caps
                have qtoken : (S.toList == [116, 111, 107, 101, 110]) = false := by rw [← hS]; exact fld_q .hits .token
                have qcode : (S.toList == [99, 111, 100, 101]) = false := by rw [← hS]; exact fld_q .hits .code
                have qn : (S.toList == [110]) = false := by rw [← hS]; exact fld_q .hits .n
                have qname : (S.toList == [110, 97, 109, 101]) = false := by rw [← hS]; exact fld_q .hits .name
                have qconf : (S.toList == [99, 111, 110, 102]) = false := by rw [← hS]; exact fld_q .hits .conf
                have qchanges : (S.toList == [99, 104, 97, 110, 103, 101, 115]) = false := by rw [← hS]; exact fld_q .hits .changes
                have qid : (S.toList == [105, 100]) = false := by rw [← hS]; exact fld_q .hits .id
                have qvec : (S.toList == [118, 101, 99]) = false := by rw [← hS]; exact fld_q .hits .vec
                have qk : (S.toList == [107]) = false := by rw [← hS]; exact fld_q .hits .k
                have qwidth : (S.toList == [119, 105, 100, 116, 104]) = false := by rw [← hS]; exact fld_q .hits .width
                have qfilter : (S.toList == [102, 105, 108, 116, 101, 114]) = false := by rw [← hS]; exact fld_q .hits .filter
                have qnum : (S.toList == [110, 117, 109]) = false := by rw [← hS]; exact fld_q .hits .num
                have qpage : (S.toList == [112, 97, 103, 101]) = false := by rw [← hS]; exact fld_q .hits .page
                have qbytes : (S.toList == [98, 121, 116, 101, 115]) = false := by rw [← hS]; exact fld_q .hits .bytes
                have qversion : (S.toList == [118, 101, 114, 115, 105, 111, 110]) = false := by rw [← hS]; exact fld_q .hits .version
                have qnames : (S.toList == [110, 97, 109, 101, 115]) = false := by rw [← hS]; exact fld_q .hits .names
                have qitems : (S.toList == [105, 116, 101, 109, 115]) = false := by rw [← hS]; exact fld_q .hits .items
                have qhits : (S.toList == [104, 105, 116, 115]) = true := by rw [← hS]; exact fld_q .hits .hits
                clear hS
                as_aux_lemma =>
                  have x0 : wr.cell? ⟨w.heap.size, 27, none⟩ = some (.slice m.phits.a m.phits.n m.phits.c) := XR.out.cell 27
                  have hlx := XR.out.lt
                  go_wp2_with (fail)
                  refine (hits_any wy.heap.size _ _ m.phits.a m.phits.n m.phits.c m.hits wr HI.out.own hBr (by have := HLN.out; omega) HMr.out.hhits).mono ?_
                  rintro e w5 (⟨hfit, v5, rfl, hw5⟩ | ⟨hfit, v5, rfl, hk5⟩)
                  · skip
                    have N4 := Lib.hid (HI.out.yes_next HF5.out (by first | exact hfit | trivial) hw5)
                    clear hw5 HI
                    go_wp2
                    go_roundw
                    case rel => exact ⟨i + 1, true, by go_num, by omega, rfl, N4.out⟩
                    case measure => simp [intOf]; omega
                  · skip
                    have N4 := Lib.hid (HI.out.no_next (v' := v5) HF5.out hfit hk5)
                    clear hk5 HI
                    go_wp2
                    go_roundw
                    case rel => exact ⟨i + 1, false, by go_num, by omega, rfl, N4.out⟩
                    case measure => simp [intOf]; omega
            · have hin' : i = n := by omega
              subst hin'
              have hown := HI.out.own
              obtain ⟨_, _, hft, _⟩ := HI.out.yes
              rw [← HN.out, List.take_length] at hown hft
              have YES := Lib.hid (show fitM m.toM from ⟨fs, HAP.out, HONLY.out, hft⟩)
              have OWN := Lib.hid (show OwnV wr w.heap.size 5 _ (bytesM m.toM) from by
                have h2 : bytesM m.toM = encF fs m.toM := by
                  show encF ((formM m.kind).getD []) m.toM = _
                  rw [HAP.out]
                  rfl
                rw [h2]
                exact hown.mono (by have := BC.out.size; omega))
              have BW := Lib.hid (show Below w.heap.size w wr from BC.out.trans (BR.out.mono BC.out.size))
              clear hown hft
              go_wp2
              go_ret2
              exact ⟨BW.out, .inl ⟨YES.out, _, rfl, OWN.out⟩⟩
end Go.Proofs.YtemnmjfeljipjaaGreat
