/-
  The program's Get of messages, by a walk over its text.
-/
import Derived.Test.YtemnmjfeljipjaaGreatQb
import Derived.Test.YtemnmjfeljipjaaGreatQc
import Derived.Test.YtemnmjfeljipjaaGreatNi
namespace Go.Proofs.YtemnmjfeljipjaaGreat
open Go.RowKit Go.ChangeShapes Go.WideShapes Go.ChangeAt

theorem results_row_tmp {P : Program} {fn : Func} {p q : Tmp} {ty : TypeId} (h : fn.results = #[.cell p ty, .tmp q]) (tmps : Array Value) (w : World) (g : Nat) (t : TypeId) (cs : Array Value) (fr : Nat × Nat) (d : TypeDesc)
    (hp : tmps.getD p undef = .pointer (some ⟨g, 0, none⟩)) (hg : w.heap[g]? = some (.cells cs t fr))
    (hu : P.underlying ty = some d) (hd : (match d with | .struct _ | .array _ _ => true | _ => false) = true) (hi : (P.info? ty).map (·.size) = some cs.size) (v : Value) (hv : tmps.getD q undef = v) :
    (results fn tmps).run P w = .ok (.tuple #[.agg cs, v]) w := by
  have hp' : tmps[p]?.getD undef = .pointer (some ⟨g, 0, none⟩) := by simpa using hp
  have hv' : tmps[q]?.getD undef = v := by simpa using hv
  simp [results, h, hp', hv', asAddr, run_loadVar_row w g t ty cs fr d hg hu hd hi]

theorem decF_snoc (fs : List Fld) (f : Fld) (m : MsgV) (l : List Nat) : decF (fs ++ [f]) m l = match decF fs m l with
    | .inr e => .inr e
    | .inl (m', r) => match f.cod.dec r with
      | .inr e => .inr e
      | .inl (v, r') => .inl (f.set m' v, r') := by
  induction fs generalizing m l with
  | nil =>
    simp only [List.nil_append, decF]
    cases f.cod.dec l <;> rfl
  | cons g fs ih =>
    simp only [List.cons_append, decF]
    cases g.cod.dec l with
    | inr e => rfl
    | inl x =>
      obtain ⟨v, r⟩ := x
      exact ih _ _
/-- Of the fields i are read. -/
def GI (fs : List Fld) (kind : Nat) (l : List Nat) (i : Nat) (m : MsgV) : List Nat ⊕ Nat → Prop
  | .inl r => decF (fs.take i) (zeroM kind) l = .inl (m, r)
  | .inr k => decF (fs.take i) (zeroM kind) l = .inr k
theorem GI.next {fs : List Fld} {kind i : Nat} {l : List Nat} {m : MsgV} {st st' : List Nat ⊕ Nat} {f : Fld} {v : f.T} (h : GI fs kind l i m st) (hi : fs[i]? = some f) (k : Step f.cod st v st') : GI fs kind l (i + 1) (f.set m v) st' := by
  have ht : fs.take (i + 1) = fs.take i ++ [f] := by rw [List.take_add_one, hi]; rfl
  rcases st with r | e <;> rcases st' with r' | e' <;> simp only [GI, Step] at h k ⊢ <;> rw [ht, decF_snoc, h]
  · simp only [k]
  · simp only [k]
  · simp only [k]
/-- What Get leaves. -/
def GetPost (k : Nat) (l : List Nat) (w : World) (e : Ending) (w' : World) : Prop := Below w.heap.size w w' ∧
  ∃ (y : MsgL) (er : Nat), e = .returned (.tuple #[.agg y.cells.toArray, .int .i64 (er : Int)]) ∧ y.In (w.heap.size ≤ ·) w' ∧ ((er = 0 ∧ readM k l = .inl y.toM) ∨ (er ≠ 0 ∧ readM k l = .inr er ∧ y = zeroL 0))
/-- The state of Get's loop. -/
def GetL (fs : List Fld) (kind : Nat) (l : List Nat) (gx B g lo i : Nat) (w4 wr : World) (y : MsgL) (st : List Nat ⊕ Nat) : Prop :=
  CState wr B g st ∧ Blk wr gx 37 y.cells ∧ y.In (lo ≤ ·) wr ∧ Kept [gx, g] w4 wr ∧ GI fs kind l i y.toM st
theorem readM_flds (k : Nat) (l : List Nat) (h : (fldsM k).length ≠ 0) : readM k l = match decF (fldsM k) (zeroM k) l with
    | .inr e => .inr e
    | .inl (m, r) => if r = [] then .inl m else .inr 60 := by
  unfold readM fldsM at *
  cases hf : formM k with
  | none => rw [hf] at h; simp at h
  | some fs => rfl
theorem readM_none (k : Nat) (l : List Nat) (h : (fldsM k).length = 0) : readM k l = .inr 61 := by
  unfold readM fldsM at *
  cases hf : formM k with
  | none => rfl
  | some fs =>
    rw [hf] at h
    have := (form_some k fs hf).1
    simp at h
    simp [h] at this

/-- What the end tells. -/
def endM (m : MsgV) : List Nat ⊕ Nat → MsgV ⊕ Nat
  | .inl r => if r = [] then .inl m else .inr 60
  | .inr e => .inr e

set_option maxRecDepth 100000 in
set_option maxHeartbeats 12800000 in
theorem mget_any (k : Nat) (hk : k ≤ 255) (a : Option Addr) (n c : Nat) (l : List Nat) (w : World) (h : BReads w a n c l) :
    Calls Tryz.prog 15 #[.int .u8 (k : Int), .slice a n c] w fun e w' => GetPost k l w e w' := by
  have HR := Lib.hid h
  clear h
  obtain ⟨Z, hZ⟩ : ∃ Z, (zeroL 0).cells.toArray = Z := ⟨_, rfl⟩
  obtain ⟨Y, hY⟩ : ∃ Y, (zeroL k).cells.toArray = Y := ⟨_, rfl⟩
  have hz := msg_zero
  rw [hZ] at hz
  have hb1 : (Z = #[]) = False := by
    rw [← hZ]
    simp [MsgL.cells]
  have hb2 : Z.setIfInBounds 0 (.int .u8 (k : Int)) = Y := by
    rw [← hZ, ← hY]
    rfl
  have hb3 : Y.size = 28 := by
    rw [← hY]
    rfl
  have hb4 : Z.size = 28 := by
    rw [← hZ]
    rfl
  have hinfo : (Tryz.prog.info? 37).map (·.size) = some Z.size := by
    rw [← hZ]
    kernel_rfl
  obtain ⟨w1, hw1⟩ : ∃ w1, w.alloc (.cells Z 37) = w1 := ⟨_, rfl⟩
  have B1 := Lib.hid (show Below w.heap.size w w1 from by rw [← hw1]; exact (Below.refl _ _).alloc (Nat.le_refl _) _)
  have R1 := Lib.hid (show Blk w1 w.heap.size 37 (zeroL 0).cells from by rw [← hw1, ← hZ]; exact Blk.new w 37 (zeroL 0).cells.toArray)
  have hl1 := R1.out.lt
  have HZ := Lib.hid hZ
  have HY := Lib.hid hY
  clear hZ hY
  go_enter Tryz.func15, Tryz.ntmps15
  go_wp2_with (fail)
  try rw [hw1]
  clear hw1
  refine (flds_any k w1).mono ?_
  rintro e w2 ⟨hb2', fa, fc, rfl, hr2, hnew⟩
  obtain ⟨fs, hfs⟩ : ∃ fs, fldsM k = fs := ⟨_, rfl⟩
  rw [hfs] at hr2 ⊢
  have HFS := Lib.hid hfs
  obtain ⟨m, hm⟩ : ∃ m, fs.length = m := ⟨_, rfl⟩
  have hl7 : m ≤ 7 := by rw [← hm, ← hfs]; exact flds_len _
  rw [hm] at hr2 ⊢
  have HN := Lib.hid hm
  clear hfs hm
  have R2 := Lib.hid ((Kept.of_below (F := []) hb2' (Nat.le_refl _)).blk R1.out (by simp))
  have B2 := Lib.hid (below_on B1.out hb2')
  have hs12 := hb2'.size
  have F2 := Lib.hid hr2
  have HNEW := Lib.hid hnew
  clear hb2' hr2 hnew R1 B1
  by_cases h0 : m = 0
  · subst h0
    have NON := Lib.hid (readM_none k l (by rw [HFS.out, HN.out]))
    have hst := msg_store w2 w.heap.size _ (zeroL 0) R2.out rfl
    rw [HZ.out] at hst
    obtain ⟨w9, hw9⟩ : ∃ w9, w2.setRow w.heap.size Z = w9 := ⟨_, rfl⟩
    rw [hw9] at hst
    have HB9 : w9.heap[w.heap.size]? = some (.cells Z 37 (0, 0)) := by
      rw [← hw9, ← HZ.out]
      exact setRow_blk R2.out _
    have B9 := Lib.hid (show Below w.heap.size w w9 from by
      rw [← hw9]
      exact below_kept2 B2.out (Nat.le_refl _) (Nat.le_refl _) (setRow_kept _ _ _))
    clear hw9 R2 B2 F2 HNEW
    go_wp2
    (try simp only [Exit.inBlock, Exit.then])
    refine bodyPost_ret (results_row_tmp (p := 4) (q := 5) (ty := 37) rfl _ w9 w.heap.size 37 Z (0, 0) _ rfl HB9 Tryz.underlying37 rfl hinfo (.int .i64 61) rfl) rfl ?_
    exact ⟨B9.out, zeroL 0, 61, by rw [HZ.out]; rfl, zeroL_in _ _ 0 (by decide), .inr ⟨by decide, NON.out, rfl⟩⟩
  · have h0b : ((m : Int) == 0) = false := by simp; omega
    have hst4 : (storeCells ⟨w2.heap.size, 0, none⟩ Y.toList 0).run Tryz.prog (w2.alloc (.cells Z 37)) = .ok () (w2.alloc (.cells Y 37)) := by
      rw [← HY.out]
      exact msg_store_new w2 Z (zeroL k) (by rw [← HZ.out]; rfl)
    obtain ⟨w3, hw3⟩ : ∃ w3, w2.alloc (.cells Y 37) = w3 := ⟨_, rfl⟩
    have k23 : Kept [] w2 w3 := by rw [← hw3]; exact (Kept.refl _ _).alloc _
    have X3 := Lib.hid (show Blk w3 w2.heap.size 37 (zeroL k).cells from by rw [← hw3, ← HY.out]; exact Blk.new w2 37 (zeroL k).cells.toArray)
    obtain ⟨w4, hw4⟩ : ∃ w4, w3.alloc (.cells #[.slice a n c, .int .i64 0] 99) = w4 := ⟨_, rfl⟩
    have k34 : Kept [] w3 w4 := by rw [← hw4]; exact (Kept.refl _ _).alloc _
    have k24 : Kept [] w2 w4 := k23.trans k34 (Grows.refl _ _)
    have X4 := Lib.hid (k34.blk X3.out (by simp))
    have C4 := Lib.hid (show Blk w4 w3.heap.size 99 [.slice a n c, .int .i64 0] from by rw [← hw4]; exact Blk.new w3 _ _)
    have R4 := Lib.hid (k24.blk R2.out (by simp))
    have B4 := Lib.hid (show Below w.heap.size w w4 from B2.out.trans (k24.below (by simp) (by have := B2.out.size; omega)))
    have hx3 := X3.out.lt
    have hc4 := C4.out.lt
    have hs2 := B2.out.size
    have ST := Lib.hid (show ∃ y st, GetL fs k l w2.heap.size w.heap.size w3.heap.size w4.heap.size 0 w4 w4 y st from by
      refine ⟨zeroL k, .inl l, ⟨a, n, c, C4.out, HR.out.below (Nat.le_refl _) B4.out, fun h0 ad had => ?_⟩, X4.out, zeroL_in _ _ k hk, Kept.refl _ _, rfl⟩
      rcases HR.out.cells with h | ⟨b, off, e, hlt, _⟩
      · omega
      · rw [had] at e
        cases e
        exact ⟨hlt, by omega⟩)
    have F4 := Lib.hid (F2.out.keptF k24 (fun _ _ _ => by simp))
    have HNX := Lib.hid (show ∀ b off, fa = some ⟨b, off, none⟩ → 0 < m → b ∉ [w2.heap.size, w3.heap.size] ∧ b < w4.heap.size ∧ w.heap.size < b from fun b off hb h0 => by
      have h1 := HNEW.out b off hb
      have h2 : b < w2.heap.size := by
        rcases F2.out.cells with h | ⟨b', off', e, hlt, _⟩
        · omega
        · rw [hb] at e
          cases e
          exact hlt
      have h3 := k24.size
      simp
      omega)
    have HW4 := Lib.hid hw4
    clear k23 k34 k24 HNEW F2 R2 B2 X3 X4 C4 hw4
    go_wp2_with (fail)
    try rw [hw3]
    rw [HW4.out]
    clear hst4 hw3 HW4
    go_loopw [10, 24] (fun _ s24 wr => ∃ i : Nat, s24 = .int .i64 i ∧ i ≤ m ∧ Hid (∃ y st, GetL fs k l w2.heap.size w.heap.size w3.heap.size w4.heap.size i w4 wr y st)) (fun _ s24 _ => m - (intOf s24).toNat)
    case atStart => exact ⟨0, rfl, by omega, ST.out⟩
    case round =>
      clear ST
      obtain ⟨i, rfl, hi, HI⟩ := hrel
      obtain ⟨y, st, hcs, hbx, hyi, hkw, hgi⟩ := HI.out
      have CS := Lib.hid hcs
      have HX := Lib.hid hbx
      have HYI := Lib.hid hyi
      have KW := Lib.hid hkw
      have HG := Lib.hid hgi
      clear hcs hbx hyi hkw hgi HI
      have hs4 := KW.out.size
      by_cases hin : i < m
      · obtain ⟨b, off, rfl, hlt, hcl⟩ : ∃ b off, fa = some ⟨b, off, none⟩ ∧ b < wr.heap.size ∧ wr.cell? ⟨b, off + i, none⟩ = some (.int .u8 (byteAt (fs.map Fld.no) i : Int)) := by
          rcases F4.out.cells with h | ⟨b, off, e, hlt, hc⟩
          · omega
          · refine ⟨b, off, e, by omega, ?_⟩
            rw [KW.out.cell (p := ⟨b, off + i, none⟩) hlt (HNX.out b off e (by omega)).1]
            exact hc i hin
        obtain ⟨f, hf⟩ : ∃ f, fs[i]? = some f := ⟨_, List.getElem?_eq_getElem (by rw [HN.out]; exact hin)⟩
        have hcell : wr.cell? ⟨b, off + i, none⟩ = some (.int .u8 (f.no : Int)) := by
          rw [hcl]
          simp [byteAt, List.getD, hf]
        have HFI := Lib.hid hf
        clear hcl hf
        go_wp2_with (fail)
        refine (rfield_any f y w2.heap.size w.heap.size w3.heap.size w4.heap.size st wr CS.out HX.out (by omega) hx3 hc4 hs4 HYI.out).mono ?_
        rintro e w5 ⟨rfl, y', v, st', h1, h2, h3, h4, h5, h6⟩
        have NX := Lib.hid (show ∃ y st, GetL fs k l w2.heap.size w.heap.size w3.heap.size w4.heap.size (i + 1) w4 w5 y st from
          ⟨y', st', h1, h2, h3, KW.out.trans h4 (Grows.refl _ _), by rw [h5]; exact HG.out.next HFI.out h6⟩)
        clear h1 h2 h3 h4 h5 h6 CS HX HYI KW HG
        go_wp2
        go_roundw
        case rel => exact ⟨i + 1, by go_num, by omega, NX.out⟩
        case measure => simp [intOf]; omega
      · have hin' : i = m := by omega
        subst hin'
        have RD := Lib.hid (show readM k l = endM y.toM st from by
          have h1 := HG.out
          rw [readM_flds k l (by rw [HFS.out, HN.out]; exact h0), HFS.out]
          rcases st with r | e <;> simp only [GI, ← HN.out, List.take_length] at h1 <;> rw [h1] <;> rfl)
        clear HG
        have NZ := Lib.hid (show ∀ e, st = .inr e → e ≠ 0 from fun e he => by
          have := CS.out
          rw [he] at this
          exact this.1)
        go_wp2_with (fail)
        refine (cend_any w.heap.size w3.heap.size st wr CS.out).mono ?_
        rintro e w5 ⟨hend, hk5⟩
        obtain ⟨er, her, herr⟩ : ∃ er : Nat, e = .returned (.int .i64 (er : Int)) ∧ ((er = 0 ∧ readM k l = .inl y.toM) ∨ (er ≠ 0 ∧ readM k l = .inr er)) := by
          have h1 := RD.out
          have h2 := NZ.out
          rcases st with r | e
          · refine ⟨_, hend, ?_⟩
            by_cases hr : r = []
            · rw [if_pos hr]
              exact .inl ⟨rfl, by rw [h1]; simp only [endM, if_pos hr]⟩
            · rw [if_neg hr]
              exact .inr ⟨by decide, by rw [h1]; simp only [endM, if_neg hr]⟩
          · exact ⟨e, hend, .inr ⟨h2 e rfl, h1⟩⟩
        subst her
        have HER := Lib.hid herr
        have X5 := Lib.hid (hk5.blk HX.out (by simp; omega))
        have Y5 := Lib.hid (HYI.out.kept hk5 (fun k hk ho => by simp at hk; omega))
        have K5 := Lib.hid (KW.out.trans (hk5.mono (G := [w2.heap.size, w3.heap.size]) (by simp)) (Grows.refl _ _))
        have R5 := Lib.hid (K5.out.blk R4.out (by simp; omega))
        have B5 := Lib.hid (show Below w.heap.size w w5 from B4.out.trans (K5.out.below (by simp; omega) (by omega)))
        have hs5 := K5.out.size
        clear hend hk5 herr HX HYI KW CS RD NZ
        by_cases he0 : er = 0
        · subst he0
          have OK := Lib.hid (show readM k l = .inl y.toM from by
            rcases HER.out with ⟨_, h⟩ | ⟨h, _⟩
            · exact h
            · exact absurd rfl h)
          obtain ⟨F, hF⟩ : ∃ F, y.cells.toArray = F := ⟨_, rfl⟩
          have hld : w5.heap[w2.heap.size]? = some (.cells y.cells.toArray 37 (0, 0)) := X5.out
          have hst := msg_store w5 w.heap.size _ y R5.out rfl
          obtain ⟨w9, hw9⟩ : ∃ w9, w5.setRow w.heap.size y.cells.toArray = w9 := ⟨_, rfl⟩
          rw [hw9] at hst
          have HB9 : w9.heap[w.heap.size]? = some (.cells y.cells.toArray 37 (0, 0)) := by
            rw [← hw9]
            exact setRow_blk R5.out _
          have B9 := Lib.hid (show Below w.heap.size w w9 from by
            rw [← hw9]
            exact below_kept2 B5.out (Nat.le_refl _) (Nat.le_refl _) (setRow_kept _ _ _))
          have Y9 := Lib.hid (show y.In (w.heap.size ≤ ·) w9 from by
            rw [← hw9]
            exact (Y5.out.kept (setRow_kept _ _ _) (fun k hk ho => by simp at hk; omega)).mono (fun k hk _ => by omega))
          rw [hF] at hld hst HB9
          have HBF := hld
          have hinfoF : (Tryz.prog.info? 37).map (·.size) = some F.size := by
            rw [← hF]
            kernel_rfl
          have hF28 : F.size = 28 := by
            rw [← hF]
            rfl
          have HFF := Lib.hid hF
          have lX := X5.out.lt
          clear hF hw9 X5 Y5 R5 B5 hld
          go_upto_region 14 with fail
          go_step
          refine wp_load_row w5 rfl 37 (.tmp 7) rfl w2.heap.size 37 F _ (by rfl) HBF Tryz.underlying37 rfl hinfoF ?_
          go_wp2
          (try simp only [Exit.inBlock, Exit.then])
          refine bodyPost_ret (results_row_tmp (p := 4) (q := 5) (ty := 37) rfl _ w9 w.heap.size 37 F (0, 0) _ rfl HB9 Tryz.underlying37 rfl hinfoF (.int .i64 0) rfl) rfl ?_
          exact ⟨B9.out, y, 0, by rw [HFF.out]; rfl, Y9.out, .inl ⟨rfl, OK.out⟩⟩
        · have he0b : ((er : Int) != 0) = true := by simp; omega
          have BAD := Lib.hid (show readM k l = .inr er from by
            rcases HER.out with ⟨h, _⟩ | ⟨_, h⟩
            · exact absurd h he0
            · exact h)
          have hst := msg_store w5 w.heap.size _ (zeroL 0) R5.out rfl
          rw [HZ.out] at hst
          obtain ⟨w9, hw9⟩ : ∃ w9, w5.setRow w.heap.size Z = w9 := ⟨_, rfl⟩
          rw [hw9] at hst
          have HB9 : w9.heap[w.heap.size]? = some (.cells Z 37 (0, 0)) := by
            rw [← hw9, ← HZ.out]
            exact setRow_blk R5.out _
          have B9 := Lib.hid (show Below w.heap.size w w9 from by
            rw [← hw9]
            exact below_kept2 B5.out (Nat.le_refl _) (Nat.le_refl _) (setRow_kept _ _ _))
          clear hw9 X5 Y5 R5 B5
          go_wp2
          (try simp only [Exit.inBlock, Exit.then])
          refine bodyPost_ret (results_row_tmp (p := 4) (q := 5) (ty := 37) rfl _ w9 w.heap.size 37 Z (0, 0) _ rfl HB9 Tryz.underlying37 rfl hinfo (.int .i64 (er : Int)) rfl) rfl ?_
          exact ⟨B9.out, zeroL 0, er, by rw [HZ.out], zeroL_in _ _ 0 (by decide), .inr ⟨he0, BAD.out, rfl⟩⟩
end Go.Proofs.YtemnmjfeljipjaaGreat
