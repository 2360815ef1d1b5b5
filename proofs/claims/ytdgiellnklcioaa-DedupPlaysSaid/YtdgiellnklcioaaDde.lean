/-
  Layer 16: cloneMessage: a message whose lists are the call's own. (Made by tools/mkdde.py.)
-/
import Derived.Test.YtdgiellnklcioaaDdd
import Derived.BigGuardPart
import Derived.BigCall
import Derived.Deep.WholeRow
namespace Go.Proofs.Ytdgiellnklcioaa
open Go.RowKit Go.ChangeShapes Go.WideShapes Go.ChangeAt

/-- A copied message: the same, its lists in blocks of the call's own. -/
def MsgPost (m : MsgL) (w : World) (e : Ending) (w' : World) : Prop := ∃ y : MsgL, e = .returned (.agg y.cells.toArray) ∧ Below w.heap.size w w' ∧ y.In (w.heap.size ≤ ·) w' ∧ y.toM = m.toM
theorem msg_size16 : (Try.prog.info? 45).map (·.size) = some 28 := by kernel_rfl
theorem wp_load_any {P : Program} {ops : Array Oper} {rest : List Oper} {o : Oper} {act : Act} {Q : Exit → Act → World → Prop} (w : World) (hw : Region.wanted o (yielded ops act.tmps) = true) (ty : TypeId) (x : Operand) (hop : o.op = .load ty x) (g : Nat) (t : TypeId) (cs : Array Value) (d : TypeDesc)
    (hx : act.eval x = .pointer (some ⟨g, 0, none⟩)) (hb : w.heap[g]? = some (.cells cs t (0, 0))) (hu : P.underlying ty = some d) (hd : (match d with | .struct _ | .array _ _ => true | _ => false) = true) (hi : (P.info? ty).map (·.size) = some cs.size)
    (K : wpList P ops Q rest (act.put o.dst (.agg cs)) w) : wpList P ops Q (o :: rest) act w := by
  refine BigFrame.wpList_want hw fun K' hK => ?_
  have hl := run_loadVar_row (P := P) w g t ty cs (0, 0) d hb hu hd hi
  unfold Oper.wp execOp
  simp only [hop, hx, Instr.loadAt, Instr.sureAddr, Sem.run_bind, Sem.run_pure, Result.andThen_ok, hl]
  exact hK _ _ K
/-- The copy under way: block w.heap.size holds a message x, m with some lists replaced; block y the result's zero. -/
structure Cpy (w w2 : World) (y : Nat) (m x : MsgL) (W : World) : Prop where
  X : Blk W w.heap.size 45 x.cells
  Y : Blk W y 45 (zeroL 0).cells
  B : Below w.heap.size w W
  S : w2.heap.size ≤ W.heap.size
  src : m.In (· < w.heap.size) W
theorem slot_set {w : World} {g k : Nat} {t : TypeId} {m m' : MsgL} (h : Blk w g t m.cells) (v : Value) (hm : m'.cells = m.cells.set k v) : Blk (w.setCell ⟨g, k, none⟩ v) g t m'.cells := by
  rw [hm]
  exact h.set k v
theorem Cpy.step {w w2 W W' : World} {y k : Nat} {m x x' : MsgL} {v : Value} (h : Cpy w w2 y m x W) (hb : Below W.heap.size W W') (hm : x'.cells = x.cells.set k v) (hy : y ≠ w.heap.size) (hw : w.heap.size < W.heap.size) : Cpy w w2 y m x' (W'.setCell ⟨w.heap.size, k, none⟩ v) := by
  have hk : Kept [w.heap.size] W' (W'.setCell ⟨w.heap.size, k, none⟩ v) := (Kept.refl _ _).setCell _ _ (.inl (by simp))
  have hX := (Kept.of_below (F := []) hb (Nat.le_refl _)).blk h.X (by simp)
  have hY := (Kept.of_below (F := []) hb (Nat.le_refl _)).blk h.Y (by simp)
  have hB : Below w.heap.size w W' := h.B.trans (hb.mono (Nat.le_of_lt hw))
  exact ⟨slot_set hX v hm, hk.blk hY (by simpa using hy), hB.trans (hk.below (fun b hb => by simp at hb; omega) hB.size), Nat.le_trans h.S (Nat.le_trans hb.size hk.size), (h.src.under (hb.mono (Nat.le_of_lt hw))).kept hk (fun k hk => by simp at hk; omega)⟩
theorem Rd.cpy {w2 W W' : World} {g k : Nat} {v : Value} {s : Sh} {cs : List Value} {x : s.T} (h : Rd (w2.heap.size ≤ ·) W s cs x) (hb : Below W.heap.size W W') (hg : g < w2.heap.size) : Rd (w2.heap.size ≤ ·) (W'.setCell ⟨g, k, none⟩ v) s cs x :=
  (h.on hb).kept ((Kept.refl [g] _).setCell _ _ (.inl (by simp))) (fun k hk => by simp at hk; omega)
set_option maxRecDepth 100000 in
set_option maxHeartbeats 3200000 in
theorem cloneM_any (m : MsgL) (w : World) (h : m.In (fun _ => True) w) : Calls Try.prog 22 #[.agg m.cells.toArray] w (MsgPost m w) := by
  obtain ⟨M, hM⟩ : ∃ M, m.cells.toArray = M := ⟨_, rfl⟩
  obtain ⟨Z, hZ⟩ : ∃ Z, (zeroL 0).cells.toArray = Z := ⟨_, rfl⟩
  have hz := msg_zero
  rw [hZ] at hz
  have hb1 : (Z = #[]) = False := by
    rw [← hZ]
    simp [MsgL.cells]
  have hb4 : Z.size = 28 := by
    rw [← hZ]
    rfl
  rw [hM]
  obtain ⟨w1, hw1⟩ : ∃ w1, w.alloc (.cells M 45) = w1 := ⟨_, rfl⟩
  obtain ⟨w2, hw2⟩ : ∃ w2, w1.alloc (.cells Z 45) = w2 := ⟨_, rfl⟩
  have hs1 : w1.heap.size = w.heap.size + 1 := by rw [← hw1]; simp
  have hs2 : w2.heap.size = w.heap.size + 2 := by rw [← hw2]; simp [hs1]
  have b1 : Below w.heap.size w w1 := by rw [← hw1]; exact (Below.refl _ _).alloc (Nat.le_refl _) _
  have b2 : Below w1.heap.size w1 w2 := by rw [← hw2]; exact (Below.refl _ _).alloc (Nat.le_refl _) _
  have X2 := Lib.hid (show Blk w2 w.heap.size 45 m.cells from (Kept.of_below (F := []) b2 (Nat.le_refl _)).blk (by rw [← hw1, ← hM]; exact Blk.new w 45 m.cells.toArray) (by simp))
  have Y2 := Lib.hid (show Blk w2 w1.heap.size 45 (zeroL 0).cells from by rw [← hw2, ← hZ]; exact Blk.new w1 45 (zeroL 0).cells.toArray)
  have B2 := Lib.hid (below_on b1 b2)
  have HH := Lib.hid (h.on (below_on b1 b2))
  have HTO := Lib.hid h
  have HMM := Lib.hid hM
  have HC := Lib.hid (show Cpy w w2 w1.heap.size m m w2 from ⟨X2.out, Y2.out, B2.out, Nat.le_refl _, h.lt.under B2.out⟩)
  have HIN := Lib.hid h.lt
  have NE := Lib.hid (show w1.heap.size ≠ w.heap.size by omega)
  have LT2 := Lib.hid (show w.heap.size < w2.heap.size by omega)
  have cc : w2.cell? ⟨w.heap.size, 13, none⟩ = some (.slice m.pch.a m.pch.n m.pch.c) := HC.out.X.cell 13
  clear h hM hZ b1 b2 X2 Y2 HH HTO
  go_enter Try.func22, Try.ntmps22
  go_upto_region 1 with fail
  try rw [hw1]
  try rw [hw2]
  clear hw1 hw2
  go_wp2_with (fail)
  refine (eachC_cp w2 m.pch m.changes (HC.out.src.hchanges.mono fun _ _ _ => trivial)).mono ?_
  rintro e wa0 ⟨⟨pa0, pn0, pk0⟩, rfl, hb, ho⟩
  obtain ⟨wn0, hWn⟩ : ∃ W, wa0.setCell ⟨w.heap.size, 13, none⟩ (.slice pa0 pn0 pk0) = W := ⟨_, rfl⟩
  have ca : wa0.cell? ⟨w.heap.size, 13, none⟩ = some (.slice m.pch.a m.pch.n m.pch.c) := ((Kept.of_below (F := []) hb (Nat.le_refl _)).blk HC.out.X (by simp)).cell 13
  have cf := ((Kept.of_below (F := []) hb (Nat.le_refl _)).blk HC.out.X (by simp)).frozen 13
  have Rpch := Lib.hid (show Rd (w2.heap.size ≤ ·) wn0 shChanges [.slice pa0 pn0 pk0] m.changes from hWn ▸ ((ho.mono (ok' := (w2.heap.size ≤ ·)) fun k hk _ => Nat.le_trans HC.out.S hk).cpy (Below.refl _ _) LT2.out))
  have HC := Lib.hid (show Cpy w w2 w1.heap.size m { m with pch := ⟨pa0, pn0, pk0⟩ } wn0 from hWn ▸ (HC.out.step hb rfl NE.out (Nat.lt_of_lt_of_le LT2.out HC.out.S)))
  have cn : wn0.cell? ⟨w.heap.size, 15, none⟩ = some (.slice m.pvec.a m.pvec.n m.pvec.c) := HC.out.X.cell 15
  clear hb
  try clear ho
  go_wp2_with (fail)
  try clear hWn
  refine (clone32_cp wn0 m.pvec m.vec (HC.out.src.hvec.mono fun _ _ _ => trivial)).mono ?_
  rintro e wa1 ⟨⟨pa1, pn1, pk1⟩, rfl, hb, ho⟩
  obtain ⟨wn1, hWn⟩ : ∃ W, wa1.setCell ⟨w.heap.size, 15, none⟩ (.slice pa1 pn1 pk1) = W := ⟨_, rfl⟩
  have ca : wa1.cell? ⟨w.heap.size, 15, none⟩ = some (.slice m.pvec.a m.pvec.n m.pvec.c) := ((Kept.of_below (F := []) hb (Nat.le_refl _)).blk HC.out.X (by simp)).cell 15
  have cf := ((Kept.of_below (F := []) hb (Nat.le_refl _)).blk HC.out.X (by simp)).frozen 15
  have Rpch := Lib.hid (hWn ▸ (Rpch.out.cpy (k := 15) (v := .slice pa1 pn1 pk1) hb LT2.out))
  have Rpvec := Lib.hid (show Rd (w2.heap.size ≤ ·) wn1 shVec [.slice pa1 pn1 pk1] m.vec from hWn ▸ ((ho.mono (ok' := (w2.heap.size ≤ ·)) fun k hk _ => Nat.le_trans HC.out.S hk).cpy (Below.refl _ _) LT2.out))
  have HC := Lib.hid (show Cpy w w2 w1.heap.size m { m with pch := ⟨pa0, pn0, pk0⟩, pvec := ⟨pa1, pn1, pk1⟩ } wn1 from hWn ▸ (HC.out.step hb rfl NE.out (Nat.lt_of_lt_of_le LT2.out HC.out.S)))
  have cn18 : wn1.cell? ⟨w.heap.size, 18, none⟩ = some (.slice m.pall.a m.pall.n m.pall.c) := HC.out.X.cell 18
  have cn19 : wn1.cell? ⟨w.heap.size, 19, none⟩ = some (.slice m.pany.a m.pany.n m.pany.c) := HC.out.X.cell 19
  have cn20 : wn1.cell? ⟨w.heap.size, 20, none⟩ = some (.slice m.pno.a m.pno.n m.pno.c) := HC.out.X.cell 20
  clear hb
  try clear ho
  go_wp2_with (fail)
  try clear hWn
  refine (cloneF_cp wn1 m.pall m.pany m.pno m.all m.any m.no (HC.out.src.hall.mono fun _ _ _ => trivial) (HC.out.src.hany.mono fun _ _ _ => trivial) (HC.out.src.hno.mono fun _ _ _ => trivial)).mono ?_
  rintro e wa2 ⟨⟨fa, fn, fk⟩, ⟨ga, gn, gk⟩, ⟨ha, hn, hk⟩, rfl, hb, ho0, ho1, ho2⟩
  obtain ⟨wn2, hWn⟩ : ∃ W, ((wa2.setCell ⟨w.heap.size, 18, none⟩ (.slice fa fn fk)).setCell ⟨w.heap.size, 19, none⟩ (.slice ga gn gk)).setCell ⟨w.heap.size, 20, none⟩ (.slice ha hn hk) = W := ⟨_, rfl⟩
  have ca18 : wa2.cell? ⟨w.heap.size, 18, none⟩ = some (.slice m.pall.a m.pall.n m.pall.c) := ((Kept.of_below (F := []) hb (Nat.le_refl _)).blk HC.out.X (by simp)).cell 18
  have cf18 := ((Kept.of_below (F := []) hb (Nat.le_refl _)).blk HC.out.X (by simp)).frozen 18
  have ca19 : wa2.cell? ⟨w.heap.size, 19, none⟩ = some (.slice m.pany.a m.pany.n m.pany.c) := ((Kept.of_below (F := []) hb (Nat.le_refl _)).blk HC.out.X (by simp)).cell 19
  have cf19 := ((Kept.of_below (F := []) hb (Nat.le_refl _)).blk HC.out.X (by simp)).frozen 19
  have ca20 : wa2.cell? ⟨w.heap.size, 20, none⟩ = some (.slice m.pno.a m.pno.n m.pno.c) := ((Kept.of_below (F := []) hb (Nat.le_refl _)).blk HC.out.X (by simp)).cell 20
  have cf20 := ((Kept.of_below (F := []) hb (Nat.le_refl _)).blk HC.out.X (by simp)).frozen 20
  have Rpch := Lib.hid (hWn ▸ (((Rpch.out.cpy (k := 18) (v := .slice fa fn fk) hb LT2.out).cpy (k := 19) (v := .slice ga gn gk) (Below.refl _ _) LT2.out).cpy (k := 20) (v := .slice ha hn hk) (Below.refl _ _) LT2.out))
  have Rpvec := Lib.hid (hWn ▸ (((Rpvec.out.cpy (k := 18) (v := .slice fa fn fk) hb LT2.out).cpy (k := 19) (v := .slice ga gn gk) (Below.refl _ _) LT2.out).cpy (k := 20) (v := .slice ha hn hk) (Below.refl _ _) LT2.out))
  have Rpall := Lib.hid (show Rd (w2.heap.size ≤ ·) wn2 shTags [.slice fa fn fk] m.all from hWn ▸ ((((ho0.mono (ok' := (w2.heap.size ≤ ·)) fun k hk _ => Nat.le_trans HC.out.S hk).cpy (Below.refl _ _) LT2.out).cpy (Below.refl _ _) LT2.out).cpy (Below.refl _ _) LT2.out))
  have Rpany := Lib.hid (show Rd (w2.heap.size ≤ ·) wn2 shTags [.slice ga gn gk] m.any from hWn ▸ ((((ho1.mono (ok' := (w2.heap.size ≤ ·)) fun k hk _ => Nat.le_trans HC.out.S hk).cpy (Below.refl _ _) LT2.out).cpy (Below.refl _ _) LT2.out).cpy (Below.refl _ _) LT2.out))
  have Rpno := Lib.hid (show Rd (w2.heap.size ≤ ·) wn2 shTags [.slice ha hn hk] m.no from hWn ▸ ((((ho2.mono (ok' := (w2.heap.size ≤ ·)) fun k hk _ => Nat.le_trans HC.out.S hk).cpy (Below.refl _ _) LT2.out).cpy (Below.refl _ _) LT2.out).cpy (Below.refl _ _) LT2.out))
  have HC1 := Lib.hid (HC.out.step (x' := { m with pch := ⟨pa0, pn0, pk0⟩, pvec := ⟨pa1, pn1, pk1⟩, pall := ⟨fa, fn, fk⟩ }) (k := 18) (v := .slice fa fn fk) hb rfl NE.out (Nat.lt_of_lt_of_le LT2.out HC.out.S))
  have HC2 := Lib.hid (HC1.out.step (x' := { m with pch := ⟨pa0, pn0, pk0⟩, pvec := ⟨pa1, pn1, pk1⟩, pall := ⟨fa, fn, fk⟩, pany := ⟨ga, gn, gk⟩ }) (k := 19) (v := .slice ga gn gk) (Below.refl _ _) rfl NE.out (Nat.lt_of_lt_of_le LT2.out HC1.out.S))
  have HC := Lib.hid (show Cpy w w2 w1.heap.size m { m with pch := ⟨pa0, pn0, pk0⟩, pvec := ⟨pa1, pn1, pk1⟩, pall := ⟨fa, fn, fk⟩, pany := ⟨ga, gn, gk⟩, pno := ⟨ha, hn, hk⟩ } wn2 from hWn ▸ (HC2.out.step (Below.refl _ _) rfl NE.out (Nat.lt_of_lt_of_le LT2.out HC2.out.S)))
  clear HC1 HC2 ho0 ho1 ho2
  have cn : wn2.cell? ⟨w.heap.size, 23, none⟩ = some (.slice m.pbytes.a m.pbytes.n m.pbytes.c) := HC.out.X.cell 23
  clear hb
  try clear ho
  go_wp2_with (fail)
  try clear hWn
  refine (cloneB_any wn2 m.pbytes m.bytes (HC.out.src.hbytes.mono fun _ _ _ => trivial)).mono ?_
  rintro e wa3 ⟨⟨pa3, pn3, pk3⟩, rfl, hb, ho⟩
  obtain ⟨wn3, hWn⟩ : ∃ W, wa3.setCell ⟨w.heap.size, 23, none⟩ (.slice pa3 pn3 pk3) = W := ⟨_, rfl⟩
  have ca : wa3.cell? ⟨w.heap.size, 23, none⟩ = some (.slice m.pbytes.a m.pbytes.n m.pbytes.c) := ((Kept.of_below (F := []) hb (Nat.le_refl _)).blk HC.out.X (by simp)).cell 23
  have cf := ((Kept.of_below (F := []) hb (Nat.le_refl _)).blk HC.out.X (by simp)).frozen 23
  have Rpch := Lib.hid (hWn ▸ (Rpch.out.cpy (k := 23) (v := .slice pa3 pn3 pk3) hb LT2.out))
  have Rpvec := Lib.hid (hWn ▸ (Rpvec.out.cpy (k := 23) (v := .slice pa3 pn3 pk3) hb LT2.out))
  have Rpall := Lib.hid (hWn ▸ (Rpall.out.cpy (k := 23) (v := .slice pa3 pn3 pk3) hb LT2.out))
  have Rpany := Lib.hid (hWn ▸ (Rpany.out.cpy (k := 23) (v := .slice pa3 pn3 pk3) hb LT2.out))
  have Rpno := Lib.hid (hWn ▸ (Rpno.out.cpy (k := 23) (v := .slice pa3 pn3 pk3) hb LT2.out))
  have Rpbytes := Lib.hid (show Rd (w2.heap.size ≤ ·) wn3 shBytes [.slice pa3 pn3 pk3] m.bytes from hWn ▸ ((ho.mono (ok' := (w2.heap.size ≤ ·)) fun k hk _ => Nat.le_trans HC.out.S hk).cpy (Below.refl _ _) LT2.out))
  have HC := Lib.hid (show Cpy w w2 w1.heap.size m { m with pch := ⟨pa0, pn0, pk0⟩, pvec := ⟨pa1, pn1, pk1⟩, pall := ⟨fa, fn, fk⟩, pany := ⟨ga, gn, gk⟩, pno := ⟨ha, hn, hk⟩, pbytes := ⟨pa3, pn3, pk3⟩ } wn3 from hWn ▸ (HC.out.step hb rfl NE.out (Nat.lt_of_lt_of_le LT2.out HC.out.S)))
  have cn : wn3.cell? ⟨w.heap.size, 25, none⟩ = some (.slice m.pnames.a m.pnames.n m.pnames.c) := HC.out.X.cell 25
  clear hb
  try clear ho
  go_wp2_with (fail)
  try clear hWn
  refine (cloneS_cp wn3 m.pnames m.names (HC.out.src.hnames.mono fun _ _ _ => trivial)).mono ?_
  rintro e wa4 ⟨⟨pa4, pn4, pk4⟩, rfl, hb, ho⟩
  obtain ⟨wn4, hWn⟩ : ∃ W, wa4.setCell ⟨w.heap.size, 25, none⟩ (.slice pa4 pn4 pk4) = W := ⟨_, rfl⟩
  have ca : wa4.cell? ⟨w.heap.size, 25, none⟩ = some (.slice m.pnames.a m.pnames.n m.pnames.c) := ((Kept.of_below (F := []) hb (Nat.le_refl _)).blk HC.out.X (by simp)).cell 25
  have cf := ((Kept.of_below (F := []) hb (Nat.le_refl _)).blk HC.out.X (by simp)).frozen 25
  have Rpch := Lib.hid (hWn ▸ (Rpch.out.cpy (k := 25) (v := .slice pa4 pn4 pk4) hb LT2.out))
  have Rpvec := Lib.hid (hWn ▸ (Rpvec.out.cpy (k := 25) (v := .slice pa4 pn4 pk4) hb LT2.out))
  have Rpall := Lib.hid (hWn ▸ (Rpall.out.cpy (k := 25) (v := .slice pa4 pn4 pk4) hb LT2.out))
  have Rpany := Lib.hid (hWn ▸ (Rpany.out.cpy (k := 25) (v := .slice pa4 pn4 pk4) hb LT2.out))
  have Rpno := Lib.hid (hWn ▸ (Rpno.out.cpy (k := 25) (v := .slice pa4 pn4 pk4) hb LT2.out))
  have Rpbytes := Lib.hid (hWn ▸ (Rpbytes.out.cpy (k := 25) (v := .slice pa4 pn4 pk4) hb LT2.out))
  have Rpnames := Lib.hid (show Rd (w2.heap.size ≤ ·) wn4 shTags [.slice pa4 pn4 pk4] m.names from hWn ▸ ((ho.mono (ok' := (w2.heap.size ≤ ·)) fun k hk _ => Nat.le_trans HC.out.S hk).cpy (Below.refl _ _) LT2.out))
  have HC := Lib.hid (show Cpy w w2 w1.heap.size m { m with pch := ⟨pa0, pn0, pk0⟩, pvec := ⟨pa1, pn1, pk1⟩, pall := ⟨fa, fn, fk⟩, pany := ⟨ga, gn, gk⟩, pno := ⟨ha, hn, hk⟩, pbytes := ⟨pa3, pn3, pk3⟩, pnames := ⟨pa4, pn4, pk4⟩ } wn4 from hWn ▸ (HC.out.step hb rfl NE.out (Nat.lt_of_lt_of_le LT2.out HC.out.S)))
  have cn : wn4.cell? ⟨w.heap.size, 26, none⟩ = some (.slice m.pitems.a m.pitems.n m.pitems.c) := HC.out.X.cell 26
  clear hb
  try clear ho
  go_wp2_with (fail)
  try clear hWn
  refine (eachI_cp wn4 m.pitems m.items (HC.out.src.hitems.mono fun _ _ _ => trivial)).mono ?_
  rintro e wa5 ⟨⟨pa5, pn5, pk5⟩, rfl, hb, ho⟩
  obtain ⟨wn5, hWn⟩ : ∃ W, wa5.setCell ⟨w.heap.size, 26, none⟩ (.slice pa5 pn5 pk5) = W := ⟨_, rfl⟩
  have ca : wa5.cell? ⟨w.heap.size, 26, none⟩ = some (.slice m.pitems.a m.pitems.n m.pitems.c) := ((Kept.of_below (F := []) hb (Nat.le_refl _)).blk HC.out.X (by simp)).cell 26
  have cf := ((Kept.of_below (F := []) hb (Nat.le_refl _)).blk HC.out.X (by simp)).frozen 26
  have Rpch := Lib.hid (hWn ▸ (Rpch.out.cpy (k := 26) (v := .slice pa5 pn5 pk5) hb LT2.out))
  have Rpvec := Lib.hid (hWn ▸ (Rpvec.out.cpy (k := 26) (v := .slice pa5 pn5 pk5) hb LT2.out))
  have Rpall := Lib.hid (hWn ▸ (Rpall.out.cpy (k := 26) (v := .slice pa5 pn5 pk5) hb LT2.out))
  have Rpany := Lib.hid (hWn ▸ (Rpany.out.cpy (k := 26) (v := .slice pa5 pn5 pk5) hb LT2.out))
  have Rpno := Lib.hid (hWn ▸ (Rpno.out.cpy (k := 26) (v := .slice pa5 pn5 pk5) hb LT2.out))
  have Rpbytes := Lib.hid (hWn ▸ (Rpbytes.out.cpy (k := 26) (v := .slice pa5 pn5 pk5) hb LT2.out))
  have Rpnames := Lib.hid (hWn ▸ (Rpnames.out.cpy (k := 26) (v := .slice pa5 pn5 pk5) hb LT2.out))
  have Rpitems := Lib.hid (show Rd (w2.heap.size ≤ ·) wn5 shItems [.slice pa5 pn5 pk5] m.items from hWn ▸ ((ho.mono (ok' := (w2.heap.size ≤ ·)) fun k hk _ => Nat.le_trans HC.out.S hk).cpy (Below.refl _ _) LT2.out))
  have HC := Lib.hid (show Cpy w w2 w1.heap.size m { m with pch := ⟨pa0, pn0, pk0⟩, pvec := ⟨pa1, pn1, pk1⟩, pall := ⟨fa, fn, fk⟩, pany := ⟨ga, gn, gk⟩, pno := ⟨ha, hn, hk⟩, pbytes := ⟨pa3, pn3, pk3⟩, pnames := ⟨pa4, pn4, pk4⟩, pitems := ⟨pa5, pn5, pk5⟩ } wn5 from hWn ▸ (HC.out.step hb rfl NE.out (Nat.lt_of_lt_of_le LT2.out HC.out.S)))
  have cn : wn5.cell? ⟨w.heap.size, 27, none⟩ = some (.slice m.phits.a m.phits.n m.phits.c) := HC.out.X.cell 27
  clear hb
  try clear ho
  go_wp2_with (fail)
  try clear hWn
  refine (cloneH_any wn5 m.phits m.hits (HC.out.src.hhits.mono fun _ _ _ => trivial)).mono ?_
  rintro e wa6 ⟨⟨pa6, pn6, pk6⟩, rfl, hb, ho⟩
  obtain ⟨wn6, hWn⟩ : ∃ W, wa6.setCell ⟨w.heap.size, 27, none⟩ (.slice pa6 pn6 pk6) = W := ⟨_, rfl⟩
  have ca : wa6.cell? ⟨w.heap.size, 27, none⟩ = some (.slice m.phits.a m.phits.n m.phits.c) := ((Kept.of_below (F := []) hb (Nat.le_refl _)).blk HC.out.X (by simp)).cell 27
  have cf := ((Kept.of_below (F := []) hb (Nat.le_refl _)).blk HC.out.X (by simp)).frozen 27
  have Rpch := Lib.hid (hWn ▸ (Rpch.out.cpy (k := 27) (v := .slice pa6 pn6 pk6) hb LT2.out))
  have Rpvec := Lib.hid (hWn ▸ (Rpvec.out.cpy (k := 27) (v := .slice pa6 pn6 pk6) hb LT2.out))
  have Rpall := Lib.hid (hWn ▸ (Rpall.out.cpy (k := 27) (v := .slice pa6 pn6 pk6) hb LT2.out))
  have Rpany := Lib.hid (hWn ▸ (Rpany.out.cpy (k := 27) (v := .slice pa6 pn6 pk6) hb LT2.out))
  have Rpno := Lib.hid (hWn ▸ (Rpno.out.cpy (k := 27) (v := .slice pa6 pn6 pk6) hb LT2.out))
  have Rpbytes := Lib.hid (hWn ▸ (Rpbytes.out.cpy (k := 27) (v := .slice pa6 pn6 pk6) hb LT2.out))
  have Rpnames := Lib.hid (hWn ▸ (Rpnames.out.cpy (k := 27) (v := .slice pa6 pn6 pk6) hb LT2.out))
  have Rpitems := Lib.hid (hWn ▸ (Rpitems.out.cpy (k := 27) (v := .slice pa6 pn6 pk6) hb LT2.out))
  have Rphits := Lib.hid (show Rd (w2.heap.size ≤ ·) wn6 shHits [.slice pa6 pn6 pk6] m.hits from hWn ▸ ((ho.mono (ok' := (w2.heap.size ≤ ·)) fun k hk _ => Nat.le_trans HC.out.S hk).cpy (Below.refl _ _) LT2.out))
  have HC := Lib.hid (show Cpy w w2 w1.heap.size m { m with pch := ⟨pa0, pn0, pk0⟩, pvec := ⟨pa1, pn1, pk1⟩, pall := ⟨fa, fn, fk⟩, pany := ⟨ga, gn, gk⟩, pno := ⟨ha, hn, hk⟩, pbytes := ⟨pa3, pn3, pk3⟩, pnames := ⟨pa4, pn4, pk4⟩, pitems := ⟨pa5, pn5, pk5⟩, phits := ⟨pa6, pn6, pk6⟩ } wn6 from hWn ▸ (HC.out.step hb rfl NE.out (Nat.lt_of_lt_of_le LT2.out HC.out.S)))
  obtain ⟨mf, hmf⟩ : ∃ y : MsgL, { m with pch := ⟨pa0, pn0, pk0⟩, pvec := ⟨pa1, pn1, pk1⟩, pall := ⟨fa, fn, fk⟩, pany := ⟨ga, gn, gk⟩, pno := ⟨ha, hn, hk⟩, pbytes := ⟨pa3, pn3, pk3⟩, pnames := ⟨pa4, pn4, pk4⟩, pitems := ⟨pa5, pn5, pk5⟩, phits := ⟨pa6, pn6, pk6⟩ } = y := ⟨_, rfl⟩
  have FIN := Lib.hid (show Below w.heap.size w wn6 ∧ mf.In (w2.heap.size ≤ ·) wn6 ∧ mf.toM = m.toM ∧ Blk wn6 w.heap.size 45 mf.cells from by
    have I := HIN.out
    rw [← hmf]
    exact ⟨HC.out.B, ⟨I.hkind, I.hreq, I.hcaps, I.htoken, I.hcode, I.hn, I.hname, I.hcname, I.hdim, I.hmetric, I.hlinks, I.hcwidth, Rpch.out, I.hid, Rpvec.out, I.hk, I.hwidth, Rpall.out, Rpany.out, Rpno.out, I.hnum, I.hpage, Rpbytes.out, I.hversion, Rpnames.out, Rpitems.out, Rphits.out⟩, rfl, HC.out.X⟩)
  have HY := Lib.hid (show Blk wn6 (w.heap.size + 1) 45 (zeroL 0).cells from by rw [← hs1]; exact HC.out.Y)
  clear HC HIN Rpch Rpvec Rpall Rpany Rpno Rpbytes Rpnames Rpitems Rphits hmf hb ho
  obtain ⟨MF, hMF⟩ : ∃ MF, mf.cells.toArray = MF := ⟨_, rfl⟩
  have HX : wn6.heap[w.heap.size]? = some (.cells MF 45 (0, 0)) := by rw [← hMF]; exact FIN.out.2.2.2
  have hst := msg_store wn6 (w.heap.size + 1) _ mf HY.out rfl
  rw [hMF] at hst
  have hMF1 : (MF = #[]) = False := by rw [← hMF]; simp [MsgL.cells]
  have hMF2 : MF.size = 28 := by rw [← hMF]; rfl
  have hinfo : (Try.prog.info? 45).map (·.size) = some MF.size := by rw [← hMF]; exact msg_size16
  have RES := Lib.hid (show (wn6.setRow (w.heap.size + 1) MF).heap[w.heap.size + 1]? = some (.cells MF 45 (0, 0)) ∧ MsgPost m w (.returned (.agg MF)) (wn6.setRow (w.heap.size + 1) MF) from by
    have hk := setRow_kept wn6 (w.heap.size + 1) MF
    rw [← hMF] at hk ⊢
    exact ⟨setRow_blk HY.out mf, mf, rfl, FIN.out.1.trans (hk.below (fun b hb => by simp at hb; omega) FIN.out.1.size), FIN.out.2.1.stay hk.size (fun k ho hlt => hk.block k hlt (fun hx => by simp at hx; omega)) (fun k h _ => Nat.le_trans (Nat.le_of_lt LT2.out) h), FIN.out.2.2.1⟩)
  go_wp2_with (first | (refine wp_load_any wn6 (by rfl) 45 (.tmp 1) rfl w.heap.size 45 MF _ (by rfl) HX Try.underlying45 rfl hinfo ?_) | fail)
  refine bodyPost_ret (results_cell_row rfl _ _ (w.heap.size + 1) 45 MF (0, 0) _ rfl RES.out.1 Try.underlying45 rfl hinfo) rfl ?_
  exact RES.out.2
end Go.Proofs.Ytdgiellnklcioaa
