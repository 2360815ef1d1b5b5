/-
  MessageOwn holds: what was read shares nothing with the bytes, and what is written stays as it was.
-/
import Derived.Test.YtemnmjfeljipjaaRows
import Derived.Test.YtemnmjfeljipjaaNu
import Derived.Test.YtemnmjfeljipjaaMy
import Derived.Test.YtemnmjfeljipjaaSp
import Derived.Test.YtemnmjfeljipjaaMz
import Derived.Test.YtemnmjfeljipjaaEl
import Derived.Test.YtemnmjfeljipjaaQg
namespace Go.Proofs.Ytemnmjfeljipjaa
open Go.ChangeShapes Go.WideShapes Go.ChangeAt Go.RowKit

theorem wp_load_o {P : Program} {ops : Array Oper} {rest : List Oper} {o : Oper} {act : Act} {Q : Exit → Act → World → Prop} (w : World) (hw : Region.wanted o (yielded ops act.tmps) = true) (ty : TypeId) (x : Operand) (hop : o.op = .load ty x) (g : Nat) (t : TypeId) (cs : Array Value) (d : TypeDesc)
    (hx : act.eval x = .pointer (some ⟨g, 0, none⟩)) (hb : w.heap[g]? = some (.cells cs t (0, 0))) (hu : P.underlying ty = some d) (hd : (match d with | .struct _ | .array _ _ => true | _ => false) = true) (hi : (P.info? ty).map (·.size) = some cs.size)
    (K : wpList P ops Q rest (act.put o.dst (.agg cs)) w) : wpList P ops Q (o :: rest) act w := by
  refine BigFrame.wpList_want hw fun K' hK => ?_
  have hl := run_loadVar_row (P := P) w g t ty cs (0, 0) d hb hu hd hi
  unfold Oper.wp execOp
  simp only [hop, hx, Instr.loadAt, Instr.sureAddr, Sem.run_bind, Sem.run_pure, Result.andThen_ok, hl]
  exact hK _ _ K
theorem bytesM_small (x : MsgV) (h : fitM x) : (bytesM x).length ≤ 800000000 := by
  obtain ⟨fs, h1, h2, h3⟩ := h
  have h4 := encF_len fs x h3
  have h5 := (form_some _ fs h1).2
  unfold bytesM
  rw [h1]
  show (encF fs x).length ≤ _
  omega
/-- A row that is written over, one integer after the other: G its block, if it has one. -/
def RowI (G : List Nat) (t : TypeId) (k : IntKind) (p : SlL) (w0 wr : World) : Prop :=
  Kept G w0 wr ∧ ((p.n = 0 ∧ G = []) ∨ ∃ g row, p.a = some ⟨g, 0, none⟩ ∧ G = [g] ∧ Blk wr g t row ∧ ∀ i, i < p.n → ∃ x : Int, row[i]? = some (.int k x))
theorem WrS.start {lo : Nat} {w : World} {t : TypeId} {k : IntKind} {p : SlL} (h : WrS lo w t k p) : ∃ G, (∀ x ∈ G, lo ≤ x ∧ x < w.heap.size) ∧ RowI G t k p w w := by
  rcases h with h | ⟨g, row, h1, h2, h3, h4⟩
  · exact ⟨[], by simp, Kept.refl _ _, .inl ⟨h, rfl⟩⟩
  · exact ⟨[g], fun x hx => by rw [List.mem_singleton.1 hx]; exact ⟨h2, h3.lt⟩, Kept.refl _ _, .inr ⟨g, row, h1, rfl, h3, h4⟩⟩
theorem RowI.re {G F : List Nat} {t : TypeId} {k : IntKind} {p : SlL} {w0 w1 : World} (h : RowI G t k p w0 w0) (hk : Kept F w0 w1) (hF : ∀ x ∈ G, x ∉ F) : RowI G t k p w1 w1 := by
  refine ⟨Kept.refl _ _, ?_⟩
  rcases h.2 with h | ⟨g, row, h1, rfl, h3, h4⟩
  · exact .inl h
  · exact .inr ⟨g, row, h1, rfl, hk.blk h3 (hF g (by simp)), h4⟩
theorem RowI.apart {G G' : List Nat} {t t' : TypeId} {k k' : IntKind} {p p' : SlL} {w : World} (h : RowI G t k p w w) (h' : RowI G' t' k' p' w w) (ht : t ≠ t') : ∀ x ∈ G', x ∉ G := by
  intro x hx hx'
  rcases h.2 with ⟨_, rfl⟩ | ⟨g, row, _, rfl, h3, _⟩
  · simp at hx'
  · rcases h'.2 with ⟨_, rfl⟩ | ⟨g', row', _, rfl, h3', _⟩
    · simp at hx
    · rw [List.mem_singleton.1 hx] at hx'
      rw [List.mem_singleton.1 hx'] at h3'
      exact h3.ne h3' ht rfl
theorem RowI.at {G : List Nat} {t : TypeId} {k : IntKind} {p : SlL} {w0 wr : World} (h : RowI G t k p w0 wr) (i : Nat) (hi : i < p.n) : ∃ (g : Nat) (x : Int), p.a = some ⟨g, 0, none⟩ ∧ g ∈ G ∧ g < wr.heap.size ∧ wr.cell? ⟨g, i, none⟩ = some (.int k x) ∧ wr.frozen? ⟨g, i, none⟩ = false ∧
    ∀ y : Int, RowI G t k p w0 (wr.setCell ⟨g, i, none⟩ (.int k y)) := by
  rcases h.2 with ⟨h0, _⟩ | ⟨g, row, h1, rfl, h3, h4⟩
  · omega
  · obtain ⟨x, hx⟩ := h4 i hi
    refine ⟨g, x, h1, by simp, h3.lt, by rw [h3.cell i, hx], h3.frozen i, fun y => ⟨h.1.setCell _ _ (.inl (by simp)), .inr ⟨g, _, h1, rfl, h3.set i (.int k y), fun j hj => ?_⟩⟩⟩
    by_cases hji : j = i
    · subst hji
      exact ⟨y, by rw [List.getElem?_set_self (List.getElem?_eq_some_iff.1 hx).1]⟩
    · rw [List.getElem?_set_ne (fun hh => hji hh.symm)]
      exact h4 j hj
theorem own_got {k : Nat} {l : List Nat} {w w' : World} {e : Ending} {x : MsgV} (h : GetPostO k l w e w') (hr : readM k l = .inl x) : Below w.heap.size w w' ∧ ∃ y : MsgL, e = .returned (.tuple #[.agg y.cells.toArray, .int .i64 0]) ∧ y.In (w.heap.size ≤ ·) w' ∧ y.toM = x ∧ WrM w.heap.size w' y := by
  obtain ⟨hb, y, er, rfl, hi, ⟨rfl, h1⟩ | ⟨_, h1, _⟩, hw⟩ := h
  · rw [hr] at h1
    exact ⟨hb, y, rfl, hi, (Sum.inl.inj h1).symm, hw⟩
  · rw [hr] at h1
    cases h1

set_option maxRecDepth 100000 in
set_option maxHeartbeats 12800000 in
theorem own_walk (m : MsgL) (w : World) (hm : m.In (· < w.heap.size) w) :
    Calls Try.prog 6 #[.agg m.cells.toArray] w fun e w' => e = .returned (.bool true) ∧ Below w.heap.size w w' := by
  obtain ⟨M, hM⟩ : ∃ M, m.cells.toArray = M := ⟨_, rfl⟩
  obtain ⟨Z, hZ⟩ : ∃ Z, (zeroL 0).cells.toArray = Z := ⟨_, rfl⟩
  have hz := msg_zero
  rw [hZ] at hz
  have hb1 : (Z = #[]) = False := by
    rw [← hZ]
    simp [MsgL.cells]
  have hb4 : Z.size = 28 := by
    rw [← hZ]
    rfl
  have hM28 : M.size = 28 := by
    rw [← hM]
    rfl
  have hinfoM : (Try.prog.info? 38).map (·.size) = some M.size := by
    rw [hM28]
    kernel_rfl
  rw [hM]
  obtain ⟨w1, hw1⟩ : ∃ w1, w.alloc (.cells M 38) = w1 := ⟨_, rfl⟩
  have X1 := Lib.hid (show Blk w1 w.heap.size 38 m.cells from by rw [← hw1, ← hM]; exact Blk.new w 38 m.cells.toArray)
  have B1 := Lib.hid (show Below w.heap.size w w1 from by rw [← hw1]; exact (Below.refl _ _).alloc (Nat.le_refl _) _)
  have HMM := Lib.hid hM
  have hl1 := X1.out.lt
  have HM := Lib.hid hm
  clear hM hZ hm
  have hk255 := HM.out.hkind
  go_enter Try.func6, Try.ntmps6
  go_wp2_with (fail)
  try rw [hw1]
  clear hw1
  refine (alive6 w1).mono ?_
  rintro e w2 ⟨rfl, hb⟩
  have X2 := Lib.hid ((Kept.of_below (F := []) hb (Nat.le_refl _)).blk X1.out (by simp))
  have B2 := Lib.hid (below_on B1.out hb)
  have hs2 := hb.size
  have HB2 : w2.heap[w.heap.size]? = some (.cells M 38 (0, 0)) := by
    rw [← HMM.out]
    exact X2.out
  clear hb X1 B1
  go_wp2_with (refine wp_load_o w2 (by rfl) 38 (.tmp 1) rfl w.heap.size 38 M _ (by rfl) HB2 Try.underlying38 rfl hinfoM ?_)
  rw [← HMM.out]
  refine (great_msg m w2 (HM.out.under B2.out)).mono ?_
  rintro e w3 ⟨⟨g, rfl⟩, hb3⟩
  rw [HMM.out]
  have X3 := Lib.hid ((Kept.of_below (F := []) hb3 (Nat.le_refl _)).blk X2.out (by simp))
  have B3 := Lib.hid (below_on B2.out hb3)
  have hs3 := hb3.size
  have HB3 : w3.heap[w.heap.size]? = some (.cells M 38 (0, 0)) := by
    rw [← HMM.out]
    exact X3.out
  clear hb3 X2 B2 HB2
  cases g
  rotate_left
  · go_wp2
    go_ret
    exact ⟨rfl, B3.out⟩
  go_wp2_with (refine wp_load_o w3 (by rfl) 38 (.tmp 1) rfl w.heap.size 38 M _ (by rfl) HB3 Try.underlying38 rfl hinfoM ?_)
  rw [← HMM.out]
  refine (mput_any m w3 (HM.out.under B3.out)).mono ?_
  rintro e w4 ⟨hb4', ⟨hf, v, rfl, ho⟩ | ⟨hf, rfl⟩⟩
  rotate_left
  · rw [HMM.out]
    have B4 := Lib.hid (below_on B3.out hb4')
    clear hb4' hf
    go_wp2
    go_ret
    exact ⟨rfl, B4.out⟩
  rw [HMM.out]
  have X4 := Lib.hid ((Kept.of_below (F := []) hb4' (Nat.le_refl _)).blk X3.out (by simp))
  have B4 := Lib.hid (below_on B3.out hb4')
  have hs4 := hb4'.size
  have BACK := Lib.hid (readM_back m.toM hf)
  have hbl := bytesM_small _ hf
  obtain ⟨bs, hbs⟩ : ∃ bs, bytesM m.toM = bs := ⟨_, rfl⟩
  rw [hbs] at ho hbl BACK
  obtain ⟨L, hL⟩ : ∃ L, bs.length = L := ⟨_, rfl⟩
  obtain ⟨va, vc, rfl, hvr, _⟩ := ho.reads (by omega)
  obtain ⟨G1, hG1, hI1⟩ := (ho.wr ⟨va, bs.length, vc⟩ rfl).start
  rw [hL] at hvr hbl hI1 ⊢
  have VR := Lib.hid hvr
  have HG1 := Lib.hid hG1
  have I1 := Lib.hid hI1
  obtain ⟨k, hk⟩ : ∃ k, m.kind = k := ⟨_, rfl⟩
  have hk' : m.toM.kind = k := hk
  rw [hk] at hk255
  rw [hk'] at BACK
  have d0 : w4.cell? ⟨w.heap.size, 0, none⟩ = some (.int .u8 (k : Int)) := by
    rw [← hk]
    exact X4.out.cell 0
  have hl4 := X4.out.lt
  clear hb4' hf ho hbs hL hvr hk hk' X3 B3 HB3 hG1 hI1
  go_wp2_with (fail)
  refine (mget_own k hk255 va L vc bs w4 VR.out).mono ?_
  rintro e w5 hp
  obtain ⟨hb5, y, rfl, hyi, hym, _⟩ := own_got hp BACK.out
  obtain ⟨F, hF⟩ : ∃ F, y.cells.toArray = F := ⟨_, rfl⟩
  have hst := msg_store_new w5 Z y hb4
  rw [hF] at hst ⊢
  have hF28 : F.size = 28 := by rw [← hF]; rfl
  have hinfoF : (Try.prog.info? 38).map (·.size) = some F.size := by
    rw [hF28]
    kernel_rfl
  obtain ⟨w6, hw6⟩ : ∃ wz, w5.alloc (.cells F 38) = wz := ⟨_, rfl⟩
  have k56 : Below w5.heap.size w5 w6 := by rw [← hw6]; exact (Below.refl _ _).alloc (Nat.le_refl _) _
  have k46 := below_on hb5 k56
  have X6 := Lib.hid ((Kept.of_below (F := []) k46 (Nat.le_refl _)).blk X4.out (by simp))
  have B6 := Lib.hid (below_on B4.out k46)
  have V6 := Lib.hid (VR.out.on k46)
  have YB6 := Lib.hid (show Blk w6 w5.heap.size 38 y.cells from by rw [← hw6, ← hF]; exact Blk.new w5 38 y.cells.toArray)
  have Y6 := Lib.hid ((hyi.mono (ok' := fun b => w4.heap.size ≤ b ∧ b < w5.heap.size) (fun b h1 h2 => ⟨h1, h2⟩)).on k56)
  have I6 := Lib.hid (I1.out.re (Kept.of_below (F := []) k46 (Nat.le_refl _)) (by simp))
  have YM := Lib.hid hym
  have HFF := Lib.hid hF
  have hs5 := hb5.size
  have hs6 := YB6.out.lt
  have d6 : w6.cell? ⟨w.heap.size, 0, none⟩ = some (.int .u8 (k : Int)) := ((Kept.of_below (F := []) k46 (Nat.le_refl _)).cell (p := ⟨w.heap.size, 0, none⟩) hl4 (by simp)).trans d0
  have hl6 := X6.out.lt
  clear hp hb5 hyi hym hF k56 k46 X4 B4 VR d0 I1
  go_wp2_with (fail)
  try rw [hw6]
  clear hw6 hst
  refine (mget_own k hk255 va L vc bs w6 V6.out).mono ?_
  rintro e w7 hp
  obtain ⟨hb7, z, rfl, hzi, _, hwm⟩ := own_got hp BACK.out
  have hzn := sl_len (e := .int .u8) hzi.hbytes
  have hzv := sl_len (e := .int .i32) hzi.hvec
  clear hzi
  obtain ⟨G2, hG2, hI2⟩ := hwm.1.start
  obtain ⟨G3, hG3, hI3⟩ := hwm.2.start
  have AP := Lib.hid (hI2.apart hI3 (by decide))
  obtain ⟨G, hG⟩ : ∃ G, z.cells.toArray = G := ⟨_, rfl⟩
  have hst := msg_store_new w7 Z z hb4
  rw [hG] at hst ⊢
  have hG28 : G.size = 28 := by rw [← hG]; rfl
  obtain ⟨w8, hw8⟩ : ∃ wz, w7.alloc (.cells G 38) = wz := ⟨_, rfl⟩
  have k78 : Below w7.heap.size w7 w8 := by rw [← hw8]; exact (Below.refl _ _).alloc (Nat.le_refl _) _
  have k68 := below_on hb7 k78
  have X8 := Lib.hid ((Kept.of_below (F := []) k68 (Nat.le_refl _)).blk X6.out (by simp))
  have B8 := Lib.hid (below_on B6.out k68)
  have YB8 := Lib.hid ((Kept.of_below (F := []) k68 (Nat.le_refl _)).blk YB6.out (by simp))
  have ZB8 := Lib.hid (show Blk w8 w7.heap.size 38 z.cells from by rw [← hw8, ← hG]; exact Blk.new w7 38 z.cells.toArray)
  have Y8 := Lib.hid (Y6.out.on k68)
  have I8 := Lib.hid (I6.out.re (Kept.of_below (F := []) k68 (Nat.le_refl _)) (by simp))
  have J8 := Lib.hid (hI2.re (Kept.of_below (F := []) k78 (Nat.le_refl _)) (by simp))
  have K8 := Lib.hid (hI3.re (Kept.of_below (F := []) k78 (Nat.le_refl _)) (by simp))
  have HG2 := Lib.hid hG2
  have HG3 := Lib.hid hG3
  have hs7 := hb7.size
  have hs8 := ZB8.out.lt
  clear hp hb7 hwm hG k78 k68 X6 B6 YB6 V6 d6 I6 Y6 hI2 hI3 hG2 hG3
  go_wp2_with (fail)
  try rw [hw8]
  clear hw8 hst
  go_loopw [9] (fun s9 wr => ∃ i : Nat, s9 = .int .i64 i ∧ i ≤ L ∧ Hid (RowI G1 5 .u8 ⟨va, L, vc⟩ w8 wr)) (fun s9 _ => L - (intOf s9).toNat)
  case atStart => exact ⟨0, rfl, by omega, I8.out⟩
  case round =>
    obtain ⟨i, rfl, hi, HI⟩ := hrel
    by_cases hiL : i < L
    · obtain ⟨g, x, ha, hgG, hglt, hcl, hfr, hset⟩ := HI.out.at i hiL
      simp only at ha
      subst ha
      have NX := Lib.hid hset
      clear hset
      go_wp2
      go_roundw
      case rel => exact ⟨i + 1, by go_num, by omega, NX.out _⟩
      case measure => simp [intOf]; omega
    have hiL' : i = L := by omega
    subst hiL'
    have kk := HI.out.1
    have hGk : ∀ x ∈ G1, w3.heap.size ≤ x ∧ x < w4.heap.size := HG1.out
    have XA := Lib.hid (kk.blk X8.out (fun hh => by have := hGk _ hh; omega))
    have BA := Lib.hid (show Below w.heap.size w wr from B8.out.trans (kk.below (fun x hx => by have := hGk x hx; omega) (by omega)))
    have YBA := Lib.hid (kk.blk YB8.out (fun hh => by have := hGk _ hh; omega))
    have ZBA := Lib.hid (kk.blk ZB8.out (fun hh => by have := hGk _ hh; omega))
    have YA := Lib.hid (Y8.out.kept kk (fun x hx => by have := hGk x hx; omega))
    have JA := Lib.hid (J8.out.re kk (fun x hx hh => by have := hGk x hh; have := HG2.out x hx; omega))
    have KA := Lib.hid (K8.out.re kk (fun x hx hh => by have := hGk x hh; have := HG3.out x hx; omega))
    have hsa := kk.size
    clear kk HI X8 B8 YB8 ZB8 Y8 J8 K8 I8
    generalize wr = wa at *
    go_wp2_with (fail)
    go_loopw [10] (fun s10 wr => ∃ i : Nat, s10 = .int .i64 i ∧ i ≤ z.pbytes.n ∧ Hid (RowI G2 5 .u8 z.pbytes wa wr)) (fun s10 _ => z.pbytes.n - (intOf s10).toNat)
    case atStart => exact ⟨0, rfl, by omega, JA.out⟩
    case round =>
      obtain ⟨i, rfl, hi, HI⟩ := hrel
      have kk := HI.out.1
      have hGk : ∀ x ∈ G2, w6.heap.size ≤ x ∧ x < w7.heap.size := HG2.out
      have ZBr := Lib.hid (kk.blk ZBA.out (fun hh => by have := hGk _ hh; omega))
      have c23 : wr.cell? ⟨w7.heap.size, 23, none⟩ = some (.slice z.pbytes.a z.pbytes.n z.pbytes.c) := ZBr.out.cell 23
      have hzl := ZBr.out.lt
      obtain ⟨n2, hn2⟩ : ∃ n2, z.pbytes.n = n2 := ⟨_, rfl⟩
      by_cases hiL : i < z.pbytes.n
      · obtain ⟨g, x, ha, hgG, hglt, hcl, hfr, hset⟩ := HI.out.at i hiL
        rw [ha] at c23
        have NX := Lib.hid hset
        clear hset kk HI
        rw [hn2] at c23 hi hiL
        go_wp2
        go_roundw
        case rel => exact ⟨i + 1, by go_num, by omega, NX.out _⟩
        case measure => simp [intOf]; omega
      have hiL' : i = n2 := by omega
      subst hiL'
      have XB := Lib.hid (kk.blk XA.out (fun hh => by have := hGk _ hh; omega))
      have BB := Lib.hid (show Below w.heap.size w wr from BA.out.trans (kk.below (fun x hx => by have := hGk x hx; omega) (by omega)))
      have YBB := Lib.hid (kk.blk YBA.out (fun hh => by have := hGk _ hh; omega))
      have YB := Lib.hid (YA.out.kept kk (fun x hx => by have := hGk x hx; omega))
      have KB := Lib.hid (KA.out.re kk AP.out)
      have hsb := kk.size
      rw [hn2] at c23
      clear kk HI XA BA YBA ZBA YA JA KA
      go_wp2_with (fail)
      clear c23
      generalize wr = wb at *
      go_loopw [11] (fun s11 wr => ∃ j : Nat, s11 = .int .i64 j ∧ j ≤ z.pvec.n ∧ Hid (RowI G3 21 .i32 z.pvec wb wr)) (fun s11 _ => z.pvec.n - (intOf s11).toNat)
      case atStart => exact ⟨0, rfl, by omega, KB.out⟩
      case round =>
        obtain ⟨j, rfl, hj, HI⟩ := hrel
        have kk := HI.out.1
        have hGk : ∀ x ∈ G3, w6.heap.size ≤ x ∧ x < w7.heap.size := HG3.out
        have ZBs := Lib.hid (kk.blk ZBr.out (fun hh => by have := hGk _ hh; omega))
        have c15 : wr.cell? ⟨w7.heap.size, 15, none⟩ = some (.slice z.pvec.a z.pvec.n z.pvec.c) := ZBs.out.cell 15
        have hzl' := ZBs.out.lt
        obtain ⟨n3, hn3⟩ : ∃ n3, z.pvec.n = n3 := ⟨_, rfl⟩
        by_cases hjL : j < z.pvec.n
        · obtain ⟨g, x, ha, hgG, hglt, hcl, hfr, hset⟩ := HI.out.at j hjL
          rw [ha] at c15
          have NX := Lib.hid hset
          clear hset kk HI
          rw [hn3] at c15 hj hjL
          go_wp2
          go_roundw
          case rel => exact ⟨j + 1, by go_num, by omega, NX.out _⟩
          case measure => simp [intOf]; omega
        have hjL' : j = n3 := by omega
        subst hjL'
        have HBM : wr.heap[w.heap.size]? = some (.cells M 38 (0, 0)) := by
          rw [← HMM.out]
          exact kk.blk XB.out (fun hh => by have := hGk _ hh; omega)
        have HBF : wr.heap[w5.heap.size]? = some (.cells F 38 (0, 0)) := by
          rw [← HFF.out]
          exact kk.blk YBB.out (fun hh => by have := hGk _ hh; omega)
        have BC := Lib.hid (show Below w.heap.size w wr from BB.out.trans (kk.below (fun x hx => by have := hGk x hx; omega) (by omega)))
        have YC := Lib.hid (YB.out.kept kk (fun x hx => by have := hGk x hx; omega))
        rw [hn3] at c15
        clear kk HI XB BB YBB YB KB ZBs ZBr
        go_wp2_with (first | (refine wp_load_o wr (by rfl) 38 (.tmp 1) rfl w.heap.size 38 M _ (by rfl) HBM Try.underlying38 rfl hinfoM ?_) | (refine wp_load_o wr (by rfl) 38 (.tmp 5) rfl w5.heap.size 38 F _ (by rfl) HBF Try.underlying38 rfl hinfoF ?_))
        rw [← HMM.out, ← HFF.out]
        refine (sameMsg m y wr (HM.out.under BC.out) YC.out).mono ?_
        rintro e w9 ⟨q, rfl, hq9, hb9⟩
        obtain rfl : q = true := hq9.2 YM.out.symm
        have B9 := Lib.hid (below_on BC.out hb9)
        clear hq9 hb9
        go_wp2
        go_ret
        exact ⟨rfl, B9.out⟩

theorem own_row : Rows.MessageOwnSaid :=
  OpenClaim.holds_of_wide 6 Try.f6 rfl rfl rfl rfl rfl rfl rfl ⟨rfl, rfl, rfl, rfl, rfl⟩ rfl rfl rfl rfl rfl (by kernel_rfl) Try.func6 (by kernel_rfl)
    (of_decide_eq_true (by kernel_rfl)) (by unfold Func.isWrapper; rw [if_neg (of_decide_eq_false (by kernel_rfl))]; exact ⟨rfl, rfl⟩)
    (fun os started H enc _ => lift (C := Try.checked) (s := Rows.messageOwnSpec) (conds := Rows.messageOwnRow.domain) os started H enc prog_own (by kernel_rfl) Try.func6 prog_laid rfl Try.underlying4 rfl
      (fun ds hl => by
        have hl : ds.length = 1 := hl
        match ds, hl with
        | [_], _ => rfl)
      (of_decide_eq_true (by kernel_rfl))
      (ChangeSpec.witness6 (enc := enc) (C := Try.checked) false ⟨#[], #[.agg #[.int .u8 0, .int .u32 0, .int .u32 0, .int .u64 0, .int .u8 0, .int .u32 0, .string ⟨#[]⟩, .string ⟨#[]⟩, .int .u8 0, .int .u8 0, .bool false, .int .u8 0, .int .u16 0, .slice none 0 0, .int .u32 0, .slice none 0 0, .int .u16 0, .int .u16 0, .slice none 0 0, .slice none 0 0, .slice none 0 0, .int .u32 0, .int .u32 0, .slice none 0 0, .int .u64 0, .slice none 0 0, .slice none 0 0, .slice none 0 0]], []⟩ 8 (by kernel_rfl) (by kernel_rfl) (by kernel_rfl) (by kernel_rfl))
      (fun W base args ds p g => by
        rw [Try.params6] at g
        obtain ⟨m, e0, hm⟩ := g.msg 0 rfl
        rw [args1 g.count e0]
        exact own_walk m W hm))
end Go.Proofs.Ytemnmjfeljipjaa
