/-
  The document's Read, by a walk over its text.
-/
import Derived.Test.YtemnmjfeljipjaaGreatNt
import Derived.Test.YtemnmjfeljipjaaGreatWc
import Derived.Test.YtemnmjfeljipjaaGreatMv
import Derived.Test.YtemnmjfeljipjaaGreatMr
import Derived.Laws.IdiomStrings
namespace Go.Proofs.YtemnmjfeljipjaaGreat
open Go.RowKit Go.ChangeShapes Go.WideShapes Go.ChangeAt

/-- The lists that are appended to in place are as new until it is their turn. -/
def FreshL (fs : List Fld) (i : Nat) (y : MsgL) : Prop :=
  ((∀ g ∈ fs.take i, g.no ≠ 18) → y.pitems = ⟨none, 0, 0⟩ ∧ y.items = []) ∧ ((∀ g ∈ fs.take i, g.no ≠ 19) → y.phits = ⟨none, 0, 0⟩ ∧ y.hits = [])
theorem take_less {fs : List Fld} {i q : Nat} (h : ∀ g ∈ fs.take (i + 1), g.no ≠ q) : ∀ g ∈ fs.take i, g.no ≠ q := fun g hg => h g (by
  rw [List.take_add_one]
  exact List.mem_append_left _ hg)
theorem FreshL.next {fs : List Fld} {i : Nat} {y y' : MsgL} (h : FreshL fs i y) (e : y'.pitems = y.pitems ∧ y'.items = y.items ∧ y'.phits = y.phits ∧ y'.hits = y.hits) : FreshL fs (i + 1) y' := by
  obtain ⟨e1, e2, e3, e4⟩ := e
  exact ⟨fun hh => by rw [e1, e2]; exact h.1 (take_less hh), fun hh => by rw [e3, e4]; exact h.2 (take_less hh)⟩
theorem take_self {fs : List Fld} {i : Nat} {f : Fld} (hf : fs[i]? = some f) (h : ∀ g ∈ fs.take (i + 1), g.no ≠ f.no) : False := h f (by
  rw [List.take_add_one, hf]
  simp) rfl
theorem many_good {α : Type} {C : Cod α} {s s2 : List Nat ⊕ Nat} {n : Nat} {done : List α} {q : List Nat} (t : Step (cNum 128 (by decide)) s n s2) (hm : ∀ r, s2 = .inl r → ManyR C n n r done (.inl q)) (hb : ∀ k, s2 = .inr k → (Sum.inl q : List Nat ⊕ Nat) = .inr k) : Step (cMany C) s done (.inl q) := by
  rcases s2 with r | k
  · rcases s with l | k
    · show (cMany C).dec l = .inl (done, q)
      rw [cMany_dec]
      have h2 : (cNum 128 (by decide)).dec l = .inl (n, r) := t
      rw [h2]
      exact (hm r rfl).fin
    · exact t.elim
  · exact nomatch hb k rfl
theorem many_bad {α : Type} {C : Cod α} {s s2 : List Nat ⊕ Nat} {n j : Nat} {done : List α} {k : Nat} (t : Step (cNum 128 (by decide)) s n s2) (hm : ∀ r, s2 = .inl r → ManyR C n j r done (.inr k)) (hb : ∀ k', s2 = .inr k' → (Sum.inr k : List Nat ⊕ Nat) = .inr k') : Step (cMany C) s done (.inr k) := by
  rcases s2 with r | k2
  · have h3 := hm r rfl
    rcases s with l | k3
    · show (cMany C).dec l = .inr k
      rw [cMany_dec]
      have h2 : (cNum 128 (by decide)).dec l = .inl (n, r) := t
      rw [h2]
      exact h3
    · exact t.elim
  · have h3 := hb k2 rfl
    cases h3
    rcases s with l | k3
    · show (cMany C).dec l = .inr k
      rw [cMany_dec]
      have h2 : (cNum 128 (by decide)).dec l = .inr k := t
      rw [h2]
    · exact t
theorem step_row {P : Program} {ops : Array Oper} {o : Oper} {act : Act} {K : Act → World → Prop} {Q : Exit → Act → World → Prop} {E : Prop} {lo : Nat} {t : TypeId} {e : Sh} {v : Value} {xs : List e.T} (w : World) (hg : o.guard = none) (s y : Operand) (st : TypeId)
    (hop : o.op = .call { callee := .builtin .append, args := #[s, y], argTypes := #[st, st] }) (hu : P.underlying st = some (.slice t)) (z : Value) (sz : Nat) (hi : (P.info? t).map (fun i => (i.zero, i.size, i.bytes)) = some (some z, e.cells, sz)) (hzc : z.cells.size = e.cells) (hc0 : 0 < e.cells)
    (x : e.T) (cs : List Value) (hs : act.eval s = v) (hy : act.eval y = .slice (some ⟨w.heap.size, 0, none⟩) 1 1) (hown : OwnR lo w t e v xs) (hx : Rd (fun k => lo ≤ k ∧ v.ownBlock ≠ some k) w e cs x) (hlo : lo ≤ w.heap.size) (hb : (xs.length + 1) * sz ≤ 140737488355328) (hl : xs.length ≤ 2000000)
    (hK : ∀ v' w', OwnR lo w' t e v' (xs ++ [x]) → Kept (ownB v) w w' → Grows w (ownB v) (ownB v') → K (act.put o.dst v') w') : if Region.wanted o (yielded ops act.tmps) = true then Oper.wp P o act (w.alloc (.cells cs.toArray t)) K Q else E := by
  have hw : Region.wanted o (yielded ops act.tmps) = true := by simp [Region.wanted, hg]
  rw [if_pos hw]
  obtain ⟨i0, hi, hz0, hz1, hz2⟩ := info_parts hi
  have hlt := hown.lt
  obtain ⟨css, h1, h2, h3⟩ := hown
  have heach := OwnR.each h1 h2
  have hcl : cs.length = 1 * e.cells := by rw [hx.len, Nat.one_mul]
  have hnews : ∀ j u, cs[j]? = some u → (w.alloc (.cells cs.toArray t)).cell? ((⟨w.heap.size, 0, none⟩ : Addr).add j) = some u := by
    intro j u hj
    rw [add_plain, Nat.zero_add, World.cell?_alloc_at _ _ _ _ rfl, ← hj]
    simp
  obtain ⟨v', w', hr, ho, hgr, _, hloc⟩ := run_append_own_at (P := P) (w.alloc (.cells cs.toArray t)) lo st o.type t i0 z e.cells sz hu hi hz0 hz1 hz2 hzc hc0 v xs.length css.flatten (World.ownsRow.alloc h3 _) ⟨w.heap.size, 0, none⟩ 1 1 cs hcl hnews hx.one (by unfold maxLen; omega) hb (by simp; omega)
  unfold Oper.wp execOp
  simp only [hop, resolve, invoke, builtin, Sem.run_bind, Sem.run_pure, Result.andThen_ok, List.map_toArray, List.map_cons, List.map_nil, hs, hy, hr]
  have hk : Kept (ownB v) w w' := ((Kept.refl _ _).alloc _).grown hgr (fun k hk => .inl (mem_ownB.2 hk))
  have hgw : Grows w (ownB v) (ownB v') := by
    intro k hk
    rcases hloc with h | h
    · exact .inl (mem_ownB.2 (by rw [← h]; exact mem_ownB.1 hk))
    · have := mem_ownB.1 hk
      rw [h] at this
      simp at this
      exact .inr (by omega)
  have hmono : ∀ (cs' : List Value) (x' : e.T), Rd (fun k => lo ≤ k ∧ v.ownBlock ≠ some k) w e cs' x' → Rd (fun k => lo ≤ k ∧ v'.ownBlock ≠ some k) w' e cs' x' := by
    intro cs' x' h
    refine h.stay hk.size (fun k ho hlt => hk.block k hlt (fun hx => ho.2 (mem_ownB.1 hx))) (fun k ho hlt => ⟨ho.1, fun hv => ?_⟩)
    rcases hgw k (mem_ownB.2 hv) with h | h
    · exact ho.2 (mem_ownB.1 h)
    · omega
  refine hK v' w' ⟨css ++ [cs], by simp [h1], fun i y hy => ?_, ?_⟩ hk hgw
  · by_cases hi : i < xs.length
    · rw [List.getElem?_append_left hi] at hy
      obtain ⟨cs', h4, h5⟩ := h2 i y hy
      exact ⟨cs', by rw [List.getElem?_append_left (by omega)]; exact h4, hmono _ _ h5⟩
    · have hlt' := (List.getElem?_eq_some_iff.1 hy).1
      have : i = xs.length := by simp at hlt'; omega
      subst this
      simp at hy
      subst hy
      exact ⟨cs, by rw [← h1]; simp, hmono _ _ hx⟩
  · rw [List.flatten_append, List.length_append]
    simpa using ho
theorem OwnR.slice {lo : Nat} {w : World} {t : TypeId} {e : Sh} {v : Value} {xs : List e.T} (h : OwnR lo w t e v xs) : ∃ a n c, v = .slice a n c := by
  obtain ⟨css, _, _, _, h2⟩ := h
  rcases h2 with ⟨rfl, _⟩ | ⟨g, cap, cur, rfl, _⟩
  · exact ⟨_, _, _, rfl⟩
  · exact ⟨_, _, _, rfl⟩
/-- The state of Read's loop. -/
def ReadL (fs : List Fld) (k : Nat) (l : List Nat) (gx g lo i : Nat) (w4 wr : World) (y : MsgL) (st : List Nat ⊕ Nat) : Prop :=
  RState wr g st ∧ Blk wr gx 37 y.cells ∧ y.In (lo ≤ ·) wr ∧ Kept [gx, g] w4 wr ∧ GI fs k l i y.toM st ∧ FreshL fs i y
theorem ReadL.put {fs : List Fld} {k gx g lo i : Nat} {l : List Nat} {w4 wr w5 : World} {y : MsgL} {st st' : List Nat ⊕ Nat} {f : Fld} (h : ReadL fs k l gx g lo i w4 wr y st) (hk : Kept [g] wr w5) (hs : RState w5 g st') (hg : g < gx ∧ gx < lo) (c : Nat) (u : Value) (y' : MsgL)
    (hx : Blk (w5.setCell ⟨gx, c, none⟩ u) gx 37 y'.cells) (hin : y'.In (lo ≤ ·) w5) (hf : fs[i]? = some f) (v : f.T) (ht : Step f.cod st v st') (hm : y'.toM = f.set y.toM v) (he : y'.pitems = y.pitems ∧ y'.items = y.items ∧ y'.phits = y.phits ∧ y'.hits = y.hits := by exact ⟨rfl, rfl, rfl, rfl⟩) :
    ReadL fs k l gx g lo (i + 1) w4 (w5.setCell ⟨gx, c, none⟩ u) y' st' := by
  obtain ⟨_, _, _, h4, h5, h6⟩ := h
  have k6 : Kept [gx] w5 (w5.setCell ⟨gx, c, none⟩ u) := (Kept.refl _ _).setCell _ _ (.inl (by simp))
  refine ⟨hs.kept k6 (by simp; omega), hx, hin.kept k6 (fun b hb => by simp at hb; omega), (h4.trans (hk.mono (G := [gx, g]) (by simp)) (Grows.refl _ _)).trans (k6.mono (G := [gx, g]) (by simp)) (Grows.refl _ _), ?_, h6.next he⟩
  rw [hm]
  exact h5.next hf ht

theorem nat_beq_one (x : Nat) : ((x : Int) == 1) = (x == 1) := by
  by_cases h : x = 1
  · subst h
    rfl
  · have h1 : ((x : Int) == 1) = false := by simp; omega
    have h2 : (x == 1) = false := by simp; exact h
    rw [h1, h2]
/-- '[]byte(s)' of a text that was read. -/
theorem text_bytes (w : World) (s : ByteArray) (hs : s.size ≤ 4096) : ∃ c w', (convert 9 33 (.string s)).run Tryz.prog w = .ok (.slice (some ⟨w.heap.size, 0, none⟩) s.size c) w' ∧ Below w.heap.size w w' ∧ Rd (w.heap.size ≤ ·) w' shBytes [.slice (some ⟨w.heap.size, 0, none⟩) s.size c] ((strB s).map Int.ofNat) := by
  have hrun := run_bytes_of_string (P := Tryz.prog) w 9 33 5 s Tryz.underlying9 Tryz.underlying33 Tryz.underlying5
  have hge := grownCap_ge w s.size 0 5
  refine ⟨_, _, hrun, (Below.refl _ _).drew.alloc (Nat.le_refl _) _, Rd.slice_mk ⟨_, s.size, _, rfl, (List.length_map _).trans (strB_len s), by omega, by omega, hge, (fun h => by cases h), .inr ⟨w.heap.size, 0, rfl, Nat.le_refl _, by simp, fun i x hx => ?_⟩⟩⟩
  obtain ⟨q, hq, rfl⟩ := ofNat_at (strB s) i x hx
  have hi := (List.getElem?_eq_some_iff.1 hq).1
  rw [strB_len] at hi
  have hq255 : q ≤ 255 := by
    have h1 := List.mem_of_getElem? hq
    have := strB_byte s q h1
    omega
  refine ⟨[.int .u8 (q : Int)], rfl, fun j hj => ?_, Rd.int_mk rfl (u8_mk hq255)⟩
  have hj0 : j = 0 := by
    have : j < 1 := hj
    omega
  subst hj0
  simp only [Sh.cells, Nat.mul_one, Nat.add_zero, Nat.zero_add, List.getElem?_cons_zero]
  have hrow : (w.drew.alloc (.cells (bytesRow s (grownCap w s.size 0 5)) 5 ((bytesRow s (grownCap w s.size 0 5)).size, (bytesRow s (grownCap w s.size 0 5)).size + 1))).heap[w.heap.size]? = some (.cells (bytesRow s (grownCap w s.size 0 5)) 5 ((bytesRow s (grownCap w s.size 0 5)).size, (bytesRow s (grownCap w s.size 0 5)).size + 1)) := heap_alloc_new w.drew _
  rw [cell_of_row _ w.heap.size i _ _ _ hrow]
  have hsz : s.data.size = s.size := rfl
  simp only [strB, List.getElem?_map, Array.getElem?_toList, Option.map_eq_some_iff] at hq
  obtain ⟨b, hb, hbq⟩ := hq
  have hd : s.data[i]'(by omega) = b := (Array.getElem?_eq_some_iff.1 hb).2
  simp [bytesRow, Array.getElem?_append, hsz, hi, ← hbq, hd]

set_option maxRecDepth 100000 in
set_option maxHeartbeats 25600000 in
theorem rread_any (k : Nat) (hk : k ≤ 255) (a : Option Addr) (n c : Nat) (l : List Nat) (w : World) (h : BReads w a n c l) :
    Calls Tryz.prog 68 #[.int .u8 (k : Int), .slice a n c] w fun e w' => GetPost k l w e w' := by
  have HR := Lib.hid h
  clear h
  obtain ⟨Z, hZ⟩ : ∃ Z, (zeroL 0).cells.toArray = Z := ⟨_, rfl⟩
  obtain ⟨Y, hY⟩ : ∃ Y, (zeroL k).cells.toArray = Y := ⟨_, rfl⟩
  have hz := msg_zero
  rw [hZ] at hz
  have hb1 : (Z = #[]) = False := by
    rw [← hZ]
    simp [MsgL.cells]
  have hb2 : Z.setIfInBounds 0 (.int .u8 (k : Int)) = Y := by
    rw [← hZ, ← hY]
    rfl
  have hb3 : Y.size = 28 := by
    rw [← hY]
    rfl
  have hb4 : Z.size = 28 := by
    rw [← hZ]
    rfl
  have hinfo : (Tryz.prog.info? 37).map (·.size) = some Z.size := by
    rw [← hZ]
    kernel_rfl
  obtain ⟨w1, hw1⟩ : ∃ w1, w.alloc (.cells Z 37) = w1 := ⟨_, rfl⟩
  have B1 := Lib.hid (show Below w.heap.size w w1 from by rw [← hw1]; exact (Below.refl _ _).alloc (Nat.le_refl _) _)
  have R1 := Lib.hid (show Blk w1 w.heap.size 37 (zeroL 0).cells from by rw [← hw1, ← hZ]; exact Blk.new w 37 (zeroL 0).cells.toArray)
  have hl1 := R1.out.lt
  have HZ := Lib.hid hZ
  have HY := Lib.hid hY
  clear hZ hY
  go_enter Tryz.func68, Tryz.ntmps68
  go_wp2_with (fail)
  try rw [hw1]
  clear hw1
  refine (form_any k w1).mono ?_
  rintro e w2 ⟨hb2', ⟨fs, hfs, fa, fc, rfl, hr2, hl7, hnew⟩ | ⟨hfn, rfl⟩⟩
  rotate_left
  · have R2 := Lib.hid ((Kept.of_below (F := []) hb2' (Nat.le_refl _)).blk R1.out (by simp))
    have B2 := Lib.hid (below_on B1.out hb2')
    have NON := Lib.hid (show readM k l = .inr 61 from by unfold readM; rw [hfn])
    have hst := msg_store w2 w.heap.size _ (zeroL 0) R2.out rfl
    rw [HZ.out] at hst
    obtain ⟨w9, hw9⟩ : ∃ w9, w2.setRow w.heap.size Z = w9 := ⟨_, rfl⟩
    rw [hw9] at hst
    have HB9 : w9.heap[w.heap.size]? = some (.cells Z 37 (0, 0)) := by
      rw [← hw9, ← HZ.out]
      exact setRow_blk R2.out _
    have B9 := Lib.hid (show Below w.heap.size w w9 from by
      rw [← hw9]
      exact below_kept2 B2.out (Nat.le_refl _) (Nat.le_refl _) (setRow_kept _ _ _))
    clear hw9 R2 B2 hfn
    go_wp2
    (try simp only [Exit.inBlock, Exit.then])
    refine bodyPost_ret (results_row_tmp (p := 4) (q := 5) (ty := 37) rfl _ w9 w.heap.size 37 Z (0, 0) _ rfl HB9 Tryz.underlying37 rfl hinfo (.int .i64 61) rfl) rfl ?_
    exact ⟨B9.out, zeroL 0, 61, by rw [HZ.out]; rfl, zeroL_in _ _ 0 (by decide), .inr ⟨by decide, NON.out, rfl⟩⟩
  have HFS := Lib.hid hfs
  have HAP := Lib.hid (form_apart k fs hfs)
  obtain ⟨m, hm⟩ : ∃ m, fs.length = m := ⟨_, rfl⟩
  rw [hm] at hr2 hl7 ⊢
  have HN := Lib.hid hm
  clear hfs hm
  have R2 := Lib.hid ((Kept.of_below (F := []) hb2' (Nat.le_refl _)).blk R1.out (by simp))
  have B2 := Lib.hid (below_on B1.out hb2')
  have hs12 := hb2'.size
  have F2 := Lib.hid hr2
  have HNEW := Lib.hid hnew
  clear hb2' hr2 hnew R1 B1
  obtain ⟨w3, hw3⟩ : ∃ w3, w2.alloc (.cells #[.slice a n c, .int .i64 0] 54) = w3 := ⟨_, rfl⟩
  have k23 : Kept [] w2 w3 := by rw [← hw3]; exact (Kept.refl _ _).alloc _
  have hs3 : w3.heap.size = w2.heap.size + 1 := by rw [← hw3]; simp
  have c3 : Blk w3 w2.heap.size 54 [.slice a n c, .int .i64 0] := by rw [← hw3]; exact Blk.new w2 _ _
  have hst4 : (storeCells ⟨w3.heap.size, 0, none⟩ Y.toList 0).run Tryz.prog (w3.alloc (.cells Z 37)) = .ok () (w3.alloc (.cells Y 37)) := by
    rw [← HY.out]
    exact msg_store_new w3 Z (zeroL k) (by rw [← HZ.out]; rfl)
  obtain ⟨w4, hw4⟩ : ∃ w4, w3.alloc (.cells Y 37) = w4 := ⟨_, rfl⟩
  have k34 : Kept [] w3 w4 := by rw [← hw4]; exact (Kept.refl _ _).alloc _
  have k24 : Kept [] w2 w4 := k23.trans k34 (Grows.refl _ _)
  have x4 : Blk w4 w3.heap.size 37 (zeroL k).cells := by rw [← hw4, ← HY.out]; exact Blk.new w3 37 (zeroL k).cells.toArray
  have hs4 : w4.heap.size = w3.heap.size + 1 := by rw [← hw4]; simp
  obtain ⟨g, hg⟩ : ∃ g, w2.heap.size = g := ⟨_, rfl⟩
  obtain ⟨gx, hgx⟩ : ∃ gx, w3.heap.size = gx := ⟨_, rfl⟩
  have R4 := Lib.hid (k24.blk R2.out (by simp))
  have hws := B2.out.size
  have B4 := Lib.hid (show Below w.heap.size w w4 from B2.out.trans (k24.below (by simp) (by omega)))
  have F4 := Lib.hid (show SReads w4 fa m fc (fs.map Fld.s) from F2.out.on (k24.below (B := w2.heap.size) (by simp) (Nat.le_refl _)))
  have hl2 := R2.out.lt
  have ST := Lib.hid (show ∃ y st, ReadL fs k l gx g (gx + 1) 0 w4 w4 y st from by
    refine ⟨zeroL k, .inl l, ⟨a, n, c, by rw [← hg]; exact k34.blk c3 (by simp), HR.out.below (Nat.le_refl _) B4.out, fun h0 ad had => ?_⟩, by rw [← hgx]; exact x4, zeroL_in _ _ k hk, Kept.refl _ _, by simp [GI, decF, zeroL_toM], ⟨fun _ => ⟨rfl, rfl⟩, fun _ => ⟨rfl, rfl⟩⟩⟩
    rcases HR.out.cells with h | ⟨b, off, e, hlt, _⟩
    · omega
    · rw [had] at e
      cases e
      show b < g
      omega)
  have HNX := Lib.hid (show ∀ b off, fa = some ⟨b, off, none⟩ → 0 < m → b ∉ [gx, g] ∧ b < w4.heap.size from fun b off hb h0 => by
    have h2 : b < w2.heap.size := by
      rcases F2.out.cells with h | ⟨b', off', e, hlt, _⟩
      · omega
      · rw [hb] at e
        cases e
        exact hlt
    simp
    omega)
  have hgg : w.heap.size < g ∧ g < gx ∧ gx + 1 = w4.heap.size := by omega
  have hg1 : g + 1 = gx := by omega
  rw [hgx] at hst4
  clear k23 k34 k24 c3 x4 F2 R2 B2 HNEW
  go_wp2_with (fail)
  try rw [hw3]
  try rw [hg]
  try rw [hw4]
  try rw [hg1]
  clear hst4 hw3 hw4
  go_loopw [10] (fun s10 wr => ∃ i : Nat, s10 = .int .i64 i ∧ i ≤ m ∧ Hid (∃ y st, ReadL fs k l gx g (gx + 1) i w4 wr y st)) (fun s10 _ => m - (intOf s10).toNat)
  case atStart => exact ⟨0, rfl, by omega, ST.out⟩
  case round =>
    clear ST
    obtain ⟨i, rfl, hi, HI⟩ := hrel
    obtain ⟨y, st, hrl⟩ := HI.out
    have RL := Lib.hid hrl
    obtain ⟨hst, hbx, hyi, hkw, hgi, hfr⟩ := hrl
    have FR := Lib.hid hfr
    have HS := Lib.hid hst
    have HX := Lib.hid hbx
    have HYI := Lib.hid hyi
    have KW := Lib.hid hkw
    have HG := Lib.hid hgi
    have hsr := hkw.size
    have hxl := hbx.lt
    clear hst hbx hyi hkw hgi hfr HI
    by_cases hin : i < m
    · obtain ⟨b, off, rfl, hlt, hcl⟩ : ∃ b off, fa = some ⟨b, off, none⟩ ∧ b < wr.heap.size ∧ wr.cell? ⟨b, off + i, none⟩ = some (.string (strAt (fs.map Fld.s) i)) := by
        rcases F4.out.cells with h | ⟨b, off, e, hlt, hc⟩
        · omega
        · refine ⟨b, off, e, by omega, ?_⟩
          rw [KW.out.cell (p := ⟨b, off + i, none⟩) hlt (HNX.out b off e (by omega)).1]
          exact hc i hin
      obtain ⟨f, hf⟩ : ∃ f, fs[i]? = some f := ⟨_, List.getElem?_eq_getElem (by rw [HN.out]; exact hin)⟩
      obtain ⟨S, hS0⟩ : ∃ S, strAt (fs.map Fld.s) i = S := ⟨_, rfl⟩
      rw [hS0] at hcl
      have hS : f.s = S := by rw [← hS0]; simp [strAt, List.getD, hf]
      have HFI := Lib.hid hf
      clear hS0 hf
      cases f
      case req =>
        have qreq : (S.toList == [114, 101, 113]) = true := by rw [← hS]; exact fld_q .req .req
        clear hS
        as_aux_lemma =>
          go_wp2_with (fail)
          refine (rnum_u 4294967295 g st wr HS.out (by decide)).mono ?_
          rintro e w5 ⟨hk5, v5, x, st5, rfl, ⟨rfl, hx⟩, hs5, ht5⟩
          have hwx : IntKind.u32.wrap (x : Int) = (x : Int) := by rw [IntKind.wrap_u32]; omega
          have x5 := hk5.blk HX.out (by simp; omega)
          have y5 : w5.cell? ⟨gx, 1, none⟩ = some (.int .u32 (y.req : Int)) := x5.cell 1
          have f5 := x5.frozen 1
          have l5 := x5.lt
          have NX := Lib.hid (show ∃ y st, ReadL fs k l gx g (gx + 1) (i + 1) w4 (w5.setCell ⟨gx, 1, none⟩ (.int .u32 (x : Int))) y st from
            ⟨{ y with req := x }, st5, ReadL.put (f := .req) RL.out hk5 hs5 (by omega) 1 (.int .u32 (x : Int)) { y with req := x } (x5.set 1 (.int .u32 (x : Int))) ({ (HYI.out.kept hk5 (fun k hk ho => by simp at hk; omega)) with hreq := hx }) HFI.out x ht5 rfl⟩)
          clear x5 hk5 hs5 ht5 RL HX HYI HS KW HG
          go_wp2
          go_roundw
          case rel => exact ⟨i + 1, by go_num, by omega, NX.out⟩
          case measure => simp [intOf]; omega
      case caps =>
        have qreq : (S.toList == [114, 101, 113]) = false := by rw [← hS]; exact fld_q .caps .req
        have qcaps : (S.toList == [99, 97, 112, 115]) = true := by rw [← hS]; exact fld_q .caps .caps
        clear hS
        as_aux_lemma =>
          go_wp2_with (fail)
          refine (rnum_u 4294967295 g st wr HS.out (by decide)).mono ?_
          rintro e w5 ⟨hk5, v5, x, st5, rfl, ⟨rfl, hx⟩, hs5, ht5⟩
          have hwx : IntKind.u32.wrap (x : Int) = (x : Int) := by rw [IntKind.wrap_u32]; omega
          have x5 := hk5.blk HX.out (by simp; omega)
          have y5 : w5.cell? ⟨gx, 2, none⟩ = some (.int .u32 (y.caps : Int)) := x5.cell 2
          have f5 := x5.frozen 2
          have l5 := x5.lt
          have NX := Lib.hid (show ∃ y st, ReadL fs k l gx g (gx + 1) (i + 1) w4 (w5.setCell ⟨gx, 2, none⟩ (.int .u32 (x : Int))) y st from
            ⟨{ y with caps := x }, st5, ReadL.put (f := .caps) RL.out hk5 hs5 (by omega) 2 (.int .u32 (x : Int)) { y with caps := x } (x5.set 2 (.int .u32 (x : Int))) ({ (HYI.out.kept hk5 (fun k hk ho => by simp at hk; omega)) with hcaps := hx }) HFI.out x ht5 rfl⟩)
          clear x5 hk5 hs5 ht5 RL HX HYI HS KW HG
          go_wp2
          go_roundw
          case rel => exact ⟨i + 1, by go_num, by omega, NX.out⟩
          case measure => simp [intOf]; omega
      case token =>
        have qreq : (S.toList == [114, 101, 113]) = false := by rw [← hS]; exact fld_q .token .req
        have qcaps : (S.toList == [99, 97, 112, 115]) = false := by rw [← hS]; exact fld_q .token .caps
        have qtoken : (S.toList == [116, 111, 107, 101, 110]) = true := by rw [← hS]; exact fld_q .token .token
        clear hS
        as_aux_lemma =>
          go_wp2_with (fail)
          refine (rnum_u 18446744073709551615 g st wr HS.out (by decide)).mono ?_
          rintro e w5 ⟨hk5, v5, x, st5, rfl, ⟨rfl, hx⟩, hs5, ht5⟩
          have x5 := hk5.blk HX.out (by simp; omega)
          have y5 : w5.cell? ⟨gx, 3, none⟩ = some (.int .u64 (y.token : Int)) := x5.cell 3
          have f5 := x5.frozen 3
          have l5 := x5.lt
          have NX := Lib.hid (show ∃ y st, ReadL fs k l gx g (gx + 1) (i + 1) w4 (w5.setCell ⟨gx, 3, none⟩ (.int .u64 (x : Int))) y st from
            ⟨{ y with token := x }, st5, ReadL.put (f := .token) RL.out hk5 hs5 (by omega) 3 (.int .u64 (x : Int)) { y with token := x } (x5.set 3 (.int .u64 (x : Int))) ({ (HYI.out.kept hk5 (fun k hk ho => by simp at hk; omega)) with htoken := hx }) HFI.out x ht5 rfl⟩)
          clear x5 hk5 hs5 ht5 RL HX HYI HS KW HG
          go_wp2
          go_roundw
          case rel => exact ⟨i + 1, by go_num, by omega, NX.out⟩
          case measure => simp [intOf]; omega
      case code =>
        have qreq : (S.toList == [114, 101, 113]) = false := by rw [← hS]; exact fld_q .code .req
        have qcaps : (S.toList == [99, 97, 112, 115]) = false := by rw [← hS]; exact fld_q .code .caps
        have qtoken : (S.toList == [116, 111, 107, 101, 110]) = false := by rw [← hS]; exact fld_q .code .token
        have qcode : (S.toList == [99, 111, 100, 101]) = true := by rw [← hS]; exact fld_q .code .code
        clear hS
        as_aux_lemma =>
          go_wp2_with (fail)
          refine (rnum_u 255 g st wr HS.out (by decide)).mono ?_
          rintro e w5 ⟨hk5, v5, x, st5, rfl, ⟨rfl, hx⟩, hs5, ht5⟩
          have hwx : IntKind.u8.wrap (x : Int) = (x : Int) := by rw [IntKind.wrap_u8]; omega
          have x5 := hk5.blk HX.out (by simp; omega)
          have y5 : w5.cell? ⟨gx, 4, none⟩ = some (.int .u8 (y.code : Int)) := x5.cell 4
          have f5 := x5.frozen 4
          have l5 := x5.lt
          have NX := Lib.hid (show ∃ y st, ReadL fs k l gx g (gx + 1) (i + 1) w4 (w5.setCell ⟨gx, 4, none⟩ (.int .u8 (x : Int))) y st from
            ⟨{ y with code := x }, st5, ReadL.put (f := .code) RL.out hk5 hs5 (by omega) 4 (.int .u8 (x : Int)) { y with code := x } (x5.set 4 (.int .u8 (x : Int))) ({ (HYI.out.kept hk5 (fun k hk ho => by simp at hk; omega)) with hcode := hx }) HFI.out x ht5 rfl⟩)
          clear x5 hk5 hs5 ht5 RL HX HYI HS KW HG
          go_wp2
          go_roundw
          case rel => exact ⟨i + 1, by go_num, by omega, NX.out⟩
          case measure => simp [intOf]; omega
      case n =>
        have qreq : (S.toList == [114, 101, 113]) = false := by rw [← hS]; exact fld_q .n .req
        have qcaps : (S.toList == [99, 97, 112, 115]) = false := by rw [← hS]; exact fld_q .n .caps
        have qtoken : (S.toList == [116, 111, 107, 101, 110]) = false := by rw [← hS]; exact fld_q .n .token
        have qcode : (S.toList == [99, 111, 100, 101]) = false := by rw [← hS]; exact fld_q .n .code
        have qn : (S.toList == [110]) = true := by rw [← hS]; exact fld_q .n .n
        clear hS
        as_aux_lemma =>
          go_wp2_with (fail)
          refine (rnum_u 4294967295 g st wr HS.out (by decide)).mono ?_
          rintro e w5 ⟨hk5, v5, x, st5, rfl, ⟨rfl, hx⟩, hs5, ht5⟩
          have hwx : IntKind.u32.wrap (x : Int) = (x : Int) := by rw [IntKind.wrap_u32]; omega
          have x5 := hk5.blk HX.out (by simp; omega)
          have y5 : w5.cell? ⟨gx, 5, none⟩ = some (.int .u32 (y.n : Int)) := x5.cell 5
          have f5 := x5.frozen 5
          have l5 := x5.lt
          have NX := Lib.hid (show ∃ y st, ReadL fs k l gx g (gx + 1) (i + 1) w4 (w5.setCell ⟨gx, 5, none⟩ (.int .u32 (x : Int))) y st from
            ⟨{ y with n := x }, st5, ReadL.put (f := .n) RL.out hk5 hs5 (by omega) 5 (.int .u32 (x : Int)) { y with n := x } (x5.set 5 (.int .u32 (x : Int))) ({ (HYI.out.kept hk5 (fun k hk ho => by simp at hk; omega)) with hn := hx }) HFI.out x ht5 rfl⟩)
          clear x5 hk5 hs5 ht5 RL HX HYI HS KW HG
          go_wp2
          go_roundw
          case rel => exact ⟨i + 1, by go_num, by omega, NX.out⟩
          case measure => simp [intOf]; omega
      case name =>
        have qreq : (S.toList == [114, 101, 113]) = false := by rw [← hS]; exact fld_q .name .req
        have qcaps : (S.toList == [99, 97, 112, 115]) = false := by rw [← hS]; exact fld_q .name .caps
        have qtoken : (S.toList == [116, 111, 107, 101, 110]) = false := by rw [← hS]; exact fld_q .name .token
        have qcode : (S.toList == [99, 111, 100, 101]) = false := by rw [← hS]; exact fld_q .name .code
        have qn : (S.toList == [110]) = false := by rw [← hS]; exact fld_q .name .n
        have qname : (S.toList == [110, 97, 109, 101]) = true := by rw [← hS]; exact fld_q .name .name
        clear hS
        as_aux_lemma =>
          go_wp2_with (fail)
          refine (rtext_u g st wr HS.out).mono ?_
          rintro e w5 ⟨hk5, v5, x, st5, rfl, ⟨s, rfl, rfl, hsz⟩, hs5, ht5⟩
          have x5 := hk5.blk HX.out (by simp; omega)
          have y5 : w5.cell? ⟨gx, 6, none⟩ = some (.string y.name) := x5.cell 6
          have f5 := x5.frozen 6
          have l5 := x5.lt
          have NX := Lib.hid (show ∃ y st, ReadL fs k l gx g (gx + 1) (i + 1) w4 (w5.setCell ⟨gx, 6, none⟩ (.string s)) y st from
            ⟨{ y with name := s }, st5, ReadL.put (f := .name) RL.out hk5 hs5 (by omega) 6 (.string s) { y with name := s } (x5.set 6 (.string s)) ({ (HYI.out.kept hk5 (fun k hk ho => by simp at hk; omega)) with hname := Nat.le_trans hsz (by decide) }) HFI.out (strB s) ht5 rfl⟩)
          clear x5 hk5 hs5 ht5 RL HX HYI HS KW HG
          go_wp2
          go_roundw
          case rel => exact ⟨i + 1, by go_num, by omega, NX.out⟩
          case measure => simp [intOf]; omega
      case conf =>
        have qreq : (S.toList == [114, 101, 113]) = false := by rw [← hS]; exact fld_q .conf .req
        have qcaps : (S.toList == [99, 97, 112, 115]) = false := by rw [← hS]; exact fld_q .conf .caps
        have qtoken : (S.toList == [116, 111, 107, 101, 110]) = false := by rw [← hS]; exact fld_q .conf .token
        have qcode : (S.toList == [99, 111, 100, 101]) = false := by rw [← hS]; exact fld_q .conf .code
        have qn : (S.toList == [110]) = false := by rw [← hS]; exact fld_q .conf .n
        have qname : (S.toList == [110, 97, 109, 101]) = false := by rw [← hS]; exact fld_q .conf .name
        have qconf : (S.toList == [99, 111, 110, 102]) = true := by rw [← hS]; exact fld_q .conf .conf
        clear hS
        as_aux_lemma =>
          have S0 := Lib.hid HS.out
          have X0 := Lib.hid HX.out
          have K0 := Lib.hid (Kept.refl [gx, g] wr)
          go_wp2_with (fail)
          refine (rtext_u g st wr S0.out).mono ?_
          rintro e u0 ⟨hk, _, x0, st0, rfl, ⟨s0, rfl, rfl, hx0⟩, hs, ht⟩
          have HX0 := Lib.hid hx0
          clear hx0
          have T0 := Lib.hid ht
          have xx := hk.blk X0.out (by simp; omega)
          have yy0 : u0.cell? ⟨gx, 7, none⟩ = some (.string y.cname) := xx.cell 7
          have ff0 := xx.frozen 7
          have ll0 := xx.lt
          obtain ⟨v1w, hW0⟩ : ∃ w', u0.setCell ⟨gx, 7, none⟩ (.string s0) = w' := ⟨_, rfl⟩
          have k6 : Kept [gx] u0 v1w := by rw [← hW0]; exact (Kept.refl _ _).setCell _ _ (.inl (by simp))
          have S1 := Lib.hid (hs.kept k6 (by simp; omega))
          have X1 := Lib.hid (show Blk v1w gx 37 ({ y with cname := s0 } : MsgL).cells from by rw [← hW0]; exact xx.set 7 (.string s0))
          have K1 := Lib.hid ((K0.out.trans (hk.mono (G := [gx, g]) (by simp)) (Grows.refl _ _)).trans (k6.mono (G := [gx, g]) (by simp)) (Grows.refl _ _))
          have hz0 := K1.out.size
          clear hk hs ht k6 xx S0 X0 K0
          go_wp2_with (fail)
          try rw [hW0]
          clear hW0
          refine (rnum_u 255 g st0 v1w S1.out (by decide)).mono ?_
          rintro e u1 ⟨hk, _, x1, st1, rfl, ⟨rfl, hx1⟩, hs, ht⟩
          have hw1 : IntKind.u8.wrap (x1 : Int) = (x1 : Int) := by rw [IntKind.wrap_u8]; omega
          have HX1 := Lib.hid hx1
          have T1 := Lib.hid ht
          have xx := hk.blk X1.out (by simp; omega)
          have yy1 : u1.cell? ⟨gx, 8, none⟩ = some (.int .u8 (y.dim : Int)) := xx.cell 8
          have ff1 := xx.frozen 8
          have ll1 := xx.lt
          obtain ⟨v2w, hW1⟩ : ∃ w', u1.setCell ⟨gx, 8, none⟩ (.int .u8 (x1 : Int)) = w' := ⟨_, rfl⟩
          have k6 : Kept [gx] u1 v2w := by rw [← hW1]; exact (Kept.refl _ _).setCell _ _ (.inl (by simp))
          have S2 := Lib.hid (hs.kept k6 (by simp; omega))
          have X2 := Lib.hid (show Blk v2w gx 37 ({ y with cname := s0, dim := x1 } : MsgL).cells from by rw [← hW1]; exact xx.set 8 (.int .u8 (x1 : Int)))
          have K2 := Lib.hid ((K1.out.trans (hk.mono (G := [gx, g]) (by simp)) (Grows.refl _ _)).trans (k6.mono (G := [gx, g]) (by simp)) (Grows.refl _ _))
          have hz1 := K2.out.size
          clear hk hs ht k6 xx S1 X1 K1
          go_wp2_with (fail)
          try rw [hW1]
          clear hW1
          refine (rnum_u 1 g st1 v2w S2.out (by decide)).mono ?_
          rintro e u2 ⟨hk, _, x2, st2, rfl, ⟨rfl, hx2⟩, hs, ht⟩
          have hw2 : IntKind.u8.wrap (x2 : Int) = (x2 : Int) := by rw [IntKind.wrap_u8]; omega
          have HX2 := Lib.hid hx2
          have T2 := Lib.hid ht
          have xx := hk.blk X2.out (by simp; omega)
          have yy2 : u2.cell? ⟨gx, 9, none⟩ = some (.int .u8 (y.metric : Int)) := xx.cell 9
          have ff2 := xx.frozen 9
          have ll2 := xx.lt
          obtain ⟨v3w, hW2⟩ : ∃ w', u2.setCell ⟨gx, 9, none⟩ (.int .u8 (x2 : Int)) = w' := ⟨_, rfl⟩
          have k6 : Kept [gx] u2 v3w := by rw [← hW2]; exact (Kept.refl _ _).setCell _ _ (.inl (by simp))
          have S3 := Lib.hid (hs.kept k6 (by simp; omega))
          have X3 := Lib.hid (show Blk v3w gx 37 ({ y with cname := s0, dim := x1, metric := x2 } : MsgL).cells from by rw [← hW2]; exact xx.set 9 (.int .u8 (x2 : Int)))
          have K3 := Lib.hid ((K2.out.trans (hk.mono (G := [gx, g]) (by simp)) (Grows.refl _ _)).trans (k6.mono (G := [gx, g]) (by simp)) (Grows.refl _ _))
          have hz2 := K3.out.size
          clear hk hs ht k6 xx S2 X2 K2
          go_wp2_with (fail)
          try rw [hW2]
          clear hW2
          refine (rnum_u 1 g st2 v3w S3.out (by decide)).mono ?_
          rintro e u3 ⟨hk, _, x3, st3, rfl, ⟨rfl, hx3⟩, hs, ht⟩
          obtain ⟨b3, hb3⟩ : ∃ b3 : Bool, (((x3 : Nat) : Int) == 1) = b3 := ⟨_, rfl⟩
          have HBB := Lib.hid (show (x3 == 1) = b3 from by rw [← hb3]; exact (nat_beq_one x3).symm)
          have ht' : Step cFlag st2 (x3 == 1) st3 := Step.map ht
          rw [HBB.out] at ht'
          have T3 := Lib.hid ht'
          have xx := hk.blk X3.out (by simp; omega)
          have yy3 : u3.cell? ⟨gx, 10, none⟩ = some (.bool y.graph) := xx.cell 10
          have ff3 := xx.frozen 10
          have ll3 := xx.lt
          obtain ⟨v4w, hW3⟩ : ∃ w', u3.setCell ⟨gx, 10, none⟩ (.bool b3) = w' := ⟨_, rfl⟩
          have k6 : Kept [gx] u3 v4w := by rw [← hW3]; exact (Kept.refl _ _).setCell _ _ (.inl (by simp))
          have S4 := Lib.hid (hs.kept k6 (by simp; omega))
          have X4 := Lib.hid (show Blk v4w gx 37 ({ y with cname := s0, dim := x1, metric := x2, graph := b3 } : MsgL).cells from by rw [← hW3]; exact xx.set 10 (.bool b3))
          have K4 := Lib.hid ((K3.out.trans (hk.mono (G := [gx, g]) (by simp)) (Grows.refl _ _)).trans (k6.mono (G := [gx, g]) (by simp)) (Grows.refl _ _))
          have hz3 := K4.out.size
          clear ht'
          clear hk hs ht k6 xx S3 X3 K3
          go_wp2_with (fail)
          try rw [hW3]
          clear hW3
          refine (rnum_u 255 g st3 v4w S4.out (by decide)).mono ?_
          rintro e u4 ⟨hk, _, x4, st4, rfl, ⟨rfl, hx4⟩, hs, ht⟩
          have hw4 : IntKind.u8.wrap (x4 : Int) = (x4 : Int) := by rw [IntKind.wrap_u8]; omega
          have HX4 := Lib.hid hx4
          have T4 := Lib.hid ht
          have xx := hk.blk X4.out (by simp; omega)
          have yy4 : u4.cell? ⟨gx, 11, none⟩ = some (.int .u8 (y.links : Int)) := xx.cell 11
          have ff4 := xx.frozen 11
          have ll4 := xx.lt
          obtain ⟨v5w, hW4⟩ : ∃ w', u4.setCell ⟨gx, 11, none⟩ (.int .u8 (x4 : Int)) = w' := ⟨_, rfl⟩
          have k6 : Kept [gx] u4 v5w := by rw [← hW4]; exact (Kept.refl _ _).setCell _ _ (.inl (by simp))
          have S5 := Lib.hid (hs.kept k6 (by simp; omega))
          have X5 := Lib.hid (show Blk v5w gx 37 ({ y with cname := s0, dim := x1, metric := x2, graph := b3, links := x4 } : MsgL).cells from by rw [← hW4]; exact xx.set 11 (.int .u8 (x4 : Int)))
          have K5 := Lib.hid ((K4.out.trans (hk.mono (G := [gx, g]) (by simp)) (Grows.refl _ _)).trans (k6.mono (G := [gx, g]) (by simp)) (Grows.refl _ _))
          have hz4 := K5.out.size
          clear hk hs ht k6 xx S4 X4 K4
          go_wp2_with (fail)
          try rw [hW4]
          clear hW4
          refine (rnum_u 65535 g st4 v5w S5.out (by decide)).mono ?_
          rintro e u5 ⟨hk, _, x5, st5, rfl, ⟨rfl, hx5⟩, hs, ht⟩
          have hw5 : IntKind.u16.wrap (x5 : Int) = (x5 : Int) := by rw [IntKind.wrap_u16]; omega
          have HX5 := Lib.hid hx5
          have T5 := Lib.hid ht
          have xx := hk.blk X5.out (by simp; omega)
          have yy5 : u5.cell? ⟨gx, 12, none⟩ = some (.int .u16 (y.cwidth : Int)) := xx.cell 12
          have ff5 := xx.frozen 12
          have ll5 := xx.lt
          obtain ⟨v6w, hW5⟩ : ∃ w', u5.setCell ⟨gx, 12, none⟩ (.int .u16 (x5 : Int)) = w' := ⟨_, rfl⟩
          have k6 : Kept [gx] u5 v6w := by rw [← hW5]; exact (Kept.refl _ _).setCell _ _ (.inl (by simp))
          have S6 := Lib.hid (hs.kept k6 (by simp; omega))
          have X6 := Lib.hid (show Blk v6w gx 37 ({ y with cname := s0, dim := x1, metric := x2, graph := b3, links := x4, cwidth := x5 } : MsgL).cells from by rw [← hW5]; exact xx.set 12 (.int .u16 (x5 : Int)))
          have K6 := Lib.hid ((K5.out.trans (hk.mono (G := [gx, g]) (by simp)) (Grows.refl _ _)).trans (k6.mono (G := [gx, g]) (by simp)) (Grows.refl _ _))
          have hz5 := K6.out.size
          clear hk hs ht k6 xx S5 X5 K5
          have NX := Lib.hid (show ∃ y st, ReadL fs k l gx g (gx + 1) (i + 1) w4 v6w y st from
            ⟨{ y with cname := s0, dim := x1, metric := x2, graph := b3, links := x4, cwidth := x5 }, st5, S6.out, X6.out, { (HYI.out.kept K6.out (fun k hk ho => by simp at hk; omega)) with hcname := Nat.le_trans HX0.out (by decide), hdim := HX1.out, hmetric := Nat.le_trans HX2.out (by decide), hlinks := HX4.out, hcwidth := HX5.out }, KW.out.trans K6.out (Grows.refl _ _), (show GI fs k l (i + 1) (Fld.set .conf y.toM (⟨strB s0, x1, x2, b3, x4, x5⟩ : ConfV)) st5 from GI.next (f := .conf) HG.out HFI.out (show Step cConf st (⟨strB s0, x1, x2, b3, x4, x5⟩ : ConfV) st5 from Step.map (a := (strB s0, x1, x2, b3, x4, x5)) (Step.pair T0.out (Step.pair T1.out (Step.pair T2.out (Step.pair T3.out (Step.pair T4.out T5.out))))))), FR.out.next ⟨rfl, rfl, rfl, rfl⟩⟩)
          rw [← hW5] at NX
          clear RL HX HYI HS KW HG S6 X6 K6
          go_wp2
          try rw [hW5]
          go_roundw
          case rel => exact ⟨i + 1, by go_num, by omega, by first | exact NX.out | (rw [← hW5]; exact NX.out)⟩
          case measure => simp [intOf]; omega
      case changes =>
        have qreq : (S.toList == [114, 101, 113]) = false := by rw [← hS]; exact fld_q .changes .req
        have qcaps : (S.toList == [99, 97, 112, 115]) = false := by rw [← hS]; exact fld_q .changes .caps
        have qtoken : (S.toList == [116, 111, 107, 101, 110]) = false := by rw [← hS]; exact fld_q .changes .token
        have qcode : (S.toList == [99, 111, 100, 101]) = false := by rw [← hS]; exact fld_q .changes .code
        have qn : (S.toList == [110]) = false := by rw [← hS]; exact fld_q .changes .n
        have qname : (S.toList == [110, 97, 109, 101]) = false := by rw [← hS]; exact fld_q .changes .name
        have qconf : (S.toList == [99, 111, 110, 102]) = false := by rw [← hS]; exact fld_q .changes .conf
        have qchanges : (S.toList == [99, 104, 97, 110, 103, 101, 115]) = true := by rw [← hS]; exact fld_q .changes .changes
        clear hS
        as_aux_lemma =>
          go_wp2_with (fail)
          refine (rchanges_u g st wr HS.out (by omega)).mono ?_
          rintro e w5 ⟨hk5, v5, x, st5, rfl, hV, hs5, ht5⟩
          obtain ⟨p, pn, pc, xs, rfl, hrd, rfl⟩ := hV.one
          have x5 := hk5.blk HX.out (by simp; omega)
          have y5 : w5.cell? ⟨gx, 13, none⟩ = some (.slice y.pch.a y.pch.n y.pch.c) := x5.cell 13
          have f5 := x5.frozen 13
          have l5 := x5.lt
          have NX := Lib.hid (show ∃ y st, ReadL fs k l gx g (gx + 1) (i + 1) w4 (w5.setCell ⟨gx, 13, none⟩ (.slice p pn pc)) y st from
            ⟨{ y with pch := ⟨p, pn, pc⟩, changes := xs }, st5, ReadL.put (f := .changes) RL.out hk5 hs5 (by omega) 13 (.slice p pn pc) { y with pch := ⟨p, pn, pc⟩, changes := xs } (x5.set 13 (.slice p pn pc)) ({ (HYI.out.kept hk5 (fun k hk ho => by simp at hk; omega)) with hchanges := hrd.mono (fun b hb _ => by omega) }) HFI.out _ ht5 rfl⟩)
          clear x5 hk5 hs5 ht5 RL HX HYI HS KW HG
          go_wp2
          go_roundw
          case rel => exact ⟨i + 1, by go_num, by omega, NX.out⟩
          case measure => simp [intOf]; omega
      case id =>
        have qreq : (S.toList == [114, 101, 113]) = false := by rw [← hS]; exact fld_q .id .req
        have qcaps : (S.toList == [99, 97, 112, 115]) = false := by rw [← hS]; exact fld_q .id .caps
        have qtoken : (S.toList == [116, 111, 107, 101, 110]) = false := by rw [← hS]; exact fld_q .id .token
        have qcode : (S.toList == [99, 111, 100, 101]) = false := by rw [← hS]; exact fld_q .id .code
        have qn : (S.toList == [110]) = false := by rw [← hS]; exact fld_q .id .n
        have qname : (S.toList == [110, 97, 109, 101]) = false := by rw [← hS]; exact fld_q .id .name
        have qconf : (S.toList == [99, 111, 110, 102]) = false := by rw [← hS]; exact fld_q .id .conf
        have qchanges : (S.toList == [99, 104, 97, 110, 103, 101, 115]) = false := by rw [← hS]; exact fld_q .id .changes
        have qid : (S.toList == [105, 100]) = true := by rw [← hS]; exact fld_q .id .id
        clear hS
        as_aux_lemma =>
          go_wp2_with (fail)
          refine (rnum_u 4294967295 g st wr HS.out (by decide)).mono ?_
          rintro e w5 ⟨hk5, v5, x, st5, rfl, ⟨rfl, hx⟩, hs5, ht5⟩
          have hwx : IntKind.u32.wrap (x : Int) = (x : Int) := by rw [IntKind.wrap_u32]; omega
          have x5 := hk5.blk HX.out (by simp; omega)
          have y5 : w5.cell? ⟨gx, 14, none⟩ = some (.int .u32 (y.id : Int)) := x5.cell 14
          have f5 := x5.frozen 14
          have l5 := x5.lt
          have NX := Lib.hid (show ∃ y st, ReadL fs k l gx g (gx + 1) (i + 1) w4 (w5.setCell ⟨gx, 14, none⟩ (.int .u32 (x : Int))) y st from
            ⟨{ y with id := x }, st5, ReadL.put (f := .id) RL.out hk5 hs5 (by omega) 14 (.int .u32 (x : Int)) { y with id := x } (x5.set 14 (.int .u32 (x : Int))) ({ (HYI.out.kept hk5 (fun k hk ho => by simp at hk; omega)) with hid := hx }) HFI.out x ht5 rfl⟩)
          clear x5 hk5 hs5 ht5 RL HX HYI HS KW HG
          go_wp2
          go_roundw
          case rel => exact ⟨i + 1, by go_num, by omega, NX.out⟩
          case measure => simp [intOf]; omega
      case vec =>
        have qreq : (S.toList == [114, 101, 113]) = false := by rw [← hS]; exact fld_q .vec .req
        have qcaps : (S.toList == [99, 97, 112, 115]) = false := by rw [← hS]; exact fld_q .vec .caps
        have qtoken : (S.toList == [116, 111, 107, 101, 110]) = false := by rw [← hS]; exact fld_q .vec .token
        have qcode : (S.toList == [99, 111, 100, 101]) = false := by rw [← hS]; exact fld_q .vec .code
        have qn : (S.toList == [110]) = false := by rw [← hS]; exact fld_q .vec .n
        have qname : (S.toList == [110, 97, 109, 101]) = false := by rw [← hS]; exact fld_q .vec .name
        have qconf : (S.toList == [99, 111, 110, 102]) = false := by rw [← hS]; exact fld_q .vec .conf
        have qchanges : (S.toList == [99, 104, 97, 110, 103, 101, 115]) = false := by rw [← hS]; exact fld_q .vec .changes
        have qid : (S.toList == [105, 100]) = false := by rw [← hS]; exact fld_q .vec .id
        have qvec : (S.toList == [118, 101, 99]) = true := by rw [← hS]; exact fld_q .vec .vec
        clear hS
        as_aux_lemma =>
          go_wp2_with (fail)
          refine (rvec_sh g st wr HS.out (by omega)).mono ?_
          rintro e w5 hu
          obtain ⟨hk5, v5, x, st5, rfl, hV, hs5, ht5⟩ := hu.u
          obtain ⟨p, pn, pc, xs, rfl, hrd, rfl⟩ := hV.one
          have x5 := hk5.blk HX.out (by simp; omega)
          have y5 : w5.cell? ⟨gx, 15, none⟩ = some (.slice y.pvec.a y.pvec.n y.pvec.c) := x5.cell 15
          have f5 := x5.frozen 15
          have l5 := x5.lt
          have NX := Lib.hid (show ∃ y st, ReadL fs k l gx g (gx + 1) (i + 1) w4 (w5.setCell ⟨gx, 15, none⟩ (.slice p pn pc)) y st from
            ⟨{ y with pvec := ⟨p, pn, pc⟩, vec := xs }, st5, ReadL.put (f := .vec) RL.out hk5 hs5 (by omega) 15 (.slice p pn pc) { y with pvec := ⟨p, pn, pc⟩, vec := xs } (x5.set 15 (.slice p pn pc)) ({ (HYI.out.kept hk5 (fun k hk ho => by simp at hk; omega)) with hvec := hrd.mono (fun b hb _ => by omega) }) HFI.out _ ht5 rfl⟩)
          clear x5 hk5 hs5 ht5 RL HX HYI HS KW HG
          go_wp2
          go_roundw
          case rel => exact ⟨i + 1, by go_num, by omega, NX.out⟩
          case measure => simp [intOf]; omega
      case k =>
        have qreq : (S.toList == [114, 101, 113]) = false := by rw [← hS]; exact fld_q .k .req
        have qcaps : (S.toList == [99, 97, 112, 115]) = false := by rw [← hS]; exact fld_q .k .caps
        have qtoken : (S.toList == [116, 111, 107, 101, 110]) = false := by rw [← hS]; exact fld_q .k .token
        have qcode : (S.toList == [99, 111, 100, 101]) = false := by rw [← hS]; exact fld_q .k .code
        have qn : (S.toList == [110]) = false := by rw [← hS]; exact fld_q .k .n
        have qname : (S.toList == [110, 97, 109, 101]) = false := by rw [← hS]; exact fld_q .k .name
        have qconf : (S.toList == [99, 111, 110, 102]) = false := by rw [← hS]; exact fld_q .k .conf
        have qchanges : (S.toList == [99, 104, 97, 110, 103, 101, 115]) = false := by rw [← hS]; exact fld_q .k .changes
        have qid : (S.toList == [105, 100]) = false := by rw [← hS]; exact fld_q .k .id
        have qvec : (S.toList == [118, 101, 99]) = false := by rw [← hS]; exact fld_q .k .vec
        have qk : (S.toList == [107]) = true := by rw [← hS]; exact fld_q .k .k
        clear hS
        as_aux_lemma =>
          go_wp2_with (fail)
          refine (rnum_u 65535 g st wr HS.out (by decide)).mono ?_
          rintro e w5 ⟨hk5, v5, x, st5, rfl, ⟨rfl, hx⟩, hs5, ht5⟩
          have hwx : IntKind.u16.wrap (x : Int) = (x : Int) := by rw [IntKind.wrap_u16]; omega
          have x5 := hk5.blk HX.out (by simp; omega)
          have y5 : w5.cell? ⟨gx, 16, none⟩ = some (.int .u16 (y.k : Int)) := x5.cell 16
          have f5 := x5.frozen 16
          have l5 := x5.lt
          have NX := Lib.hid (show ∃ y st, ReadL fs k l gx g (gx + 1) (i + 1) w4 (w5.setCell ⟨gx, 16, none⟩ (.int .u16 (x : Int))) y st from
            ⟨{ y with k := x }, st5, ReadL.put (f := .k) RL.out hk5 hs5 (by omega) 16 (.int .u16 (x : Int)) { y with k := x } (x5.set 16 (.int .u16 (x : Int))) ({ (HYI.out.kept hk5 (fun k hk ho => by simp at hk; omega)) with hk := hx }) HFI.out x ht5 rfl⟩)
          clear x5 hk5 hs5 ht5 RL HX HYI HS KW HG
          go_wp2
          go_roundw
          case rel => exact ⟨i + 1, by go_num, by omega, NX.out⟩
          case measure => simp [intOf]; omega
      case width =>
        have qreq : (S.toList == [114, 101, 113]) = false := by rw [← hS]; exact fld_q .width .req
        have qcaps : (S.toList == [99, 97, 112, 115]) = false := by rw [← hS]; exact fld_q .width .caps
        have qtoken : (S.toList == [116, 111, 107, 101, 110]) = false := by rw [← hS]; exact fld_q .width .token
        have qcode : (S.toList == [99, 111, 100, 101]) = false := by rw [← hS]; exact fld_q .width .code
        have qn : (S.toList == [110]) = false := by rw [← hS]; exact fld_q .width .n
        have qname : (S.toList == [110, 97, 109, 101]) = false := by rw [← hS]; exact fld_q .width .name
        have qconf : (S.toList == [99, 111, 110, 102]) = false := by rw [← hS]; exact fld_q .width .conf
        have qchanges : (S.toList == [99, 104, 97, 110, 103, 101, 115]) = false := by rw [← hS]; exact fld_q .width .changes
        have qid : (S.toList == [105, 100]) = false := by rw [← hS]; exact fld_q .width .id
        have qvec : (S.toList == [118, 101, 99]) = false := by rw [← hS]; exact fld_q .width .vec
        have qk : (S.toList == [107]) = false := by rw [← hS]; exact fld_q .width .k
        have qwidth : (S.toList == [119, 105, 100, 116, 104]) = true := by rw [← hS]; exact fld_q .width .width
        clear hS
        as_aux_lemma =>
          go_wp2_with (fail)
          refine (rnum_u 65535 g st wr HS.out (by decide)).mono ?_
          rintro e w5 ⟨hk5, v5, x, st5, rfl, ⟨rfl, hx⟩, hs5, ht5⟩
          have hwx : IntKind.u16.wrap (x : Int) = (x : Int) := by rw [IntKind.wrap_u16]; omega
          have x5 := hk5.blk HX.out (by simp; omega)
          have y5 : w5.cell? ⟨gx, 17, none⟩ = some (.int .u16 (y.width : Int)) := x5.cell 17
          have f5 := x5.frozen 17
          have l5 := x5.lt
          have NX := Lib.hid (show ∃ y st, ReadL fs k l gx g (gx + 1) (i + 1) w4 (w5.setCell ⟨gx, 17, none⟩ (.int .u16 (x : Int))) y st from
            ⟨{ y with width := x }, st5, ReadL.put (f := .width) RL.out hk5 hs5 (by omega) 17 (.int .u16 (x : Int)) { y with width := x } (x5.set 17 (.int .u16 (x : Int))) ({ (HYI.out.kept hk5 (fun k hk ho => by simp at hk; omega)) with hwidth := hx }) HFI.out x ht5 rfl⟩)
          clear x5 hk5 hs5 ht5 RL HX HYI HS KW HG
          go_wp2
          go_roundw
          case rel => exact ⟨i + 1, by go_num, by omega, NX.out⟩
          case measure => simp [intOf]; omega
      case filter =>
        have qreq : (S.toList == [114, 101, 113]) = false := by rw [← hS]; exact fld_q .filter .req
        have qcaps : (S.toList == [99, 97, 112, 115]) = false := by rw [← hS]; exact fld_q .filter .caps
        have qtoken : (S.toList == [116, 111, 107, 101, 110]) = false := by rw [← hS]; exact fld_q .filter .token
        have qcode : (S.toList == [99, 111, 100, 101]) = false := by rw [← hS]; exact fld_q .filter .code
        have qn : (S.toList == [110]) = false := by rw [← hS]; exact fld_q .filter .n
        have qname : (S.toList == [110, 97, 109, 101]) = false := by rw [← hS]; exact fld_q .filter .name
        have qconf : (S.toList == [99, 111, 110, 102]) = false := by rw [← hS]; exact fld_q .filter .conf
        have qchanges : (S.toList == [99, 104, 97, 110, 103, 101, 115]) = false := by rw [← hS]; exact fld_q .filter .changes
        have qid : (S.toList == [105, 100]) = false := by rw [← hS]; exact fld_q .filter .id
        have qvec : (S.toList == [118, 101, 99]) = false := by rw [← hS]; exact fld_q .filter .vec
        have qk : (S.toList == [107]) = false := by rw [← hS]; exact fld_q .filter .k
        have qwidth : (S.toList == [119, 105, 100, 116, 104]) = false := by rw [← hS]; exact fld_q .filter .width
        have qfilter : (S.toList == [102, 105, 108, 116, 101, 114]) = true := by rw [← hS]; exact fld_q .filter .filter
        clear hS
        as_aux_lemma =>
          have S0 := Lib.hid HS.out
          have X0 := Lib.hid HX.out
          have K0 := Lib.hid (Kept.refl [gx, g] wr)
          go_wp2_with (fail)
          refine (rtexts_sh g st wr S0.out (by omega)).mono ?_
          rintro e u0 hu
          obtain ⟨hk, _, x0, st0, rfl, hV, hs, ht⟩ := hu.u
          obtain ⟨p0, pn0, pc0, xs0, rfl, hrd, rfl⟩ := hV.one
          have T0 := Lib.hid ht
          have xx := hk.blk X0.out (by simp; omega)
          have yy0 : u0.cell? ⟨gx, 18, none⟩ = some (.slice y.pall.a y.pall.n y.pall.c) := xx.cell 18
          have ff0 := xx.frozen 18
          have ll0 := xx.lt
          obtain ⟨v1w, hW0⟩ : ∃ w', u0.setCell ⟨gx, 18, none⟩ (.slice p0 pn0 pc0) = w' := ⟨_, rfl⟩
          have k6 : Kept [gx] u0 v1w := by rw [← hW0]; exact (Kept.refl _ _).setCell _ _ (.inl (by simp))
          have S1 := Lib.hid (hs.kept k6 (by simp; omega))
          have X1 := Lib.hid (show Blk v1w gx 37 ({ y with pall := ⟨p0, pn0, pc0⟩, all := xs0 } : MsgL).cells from by rw [← hW0]; exact xx.set 18 (.slice p0 pn0 pc0))
          have K1 := Lib.hid ((K0.out.trans (hk.mono (G := [gx, g]) (by simp)) (Grows.refl _ _)).trans (k6.mono (G := [gx, g]) (by simp)) (Grows.refl _ _))
          have hz0 := K1.out.size
          have VV0 := Lib.hid ((show Rd (gx + 1 ≤ ·) u0 shTags [.slice p0 pn0 pc0] xs0 from hrd.mono (fun b hb _ => by omega)).kept k6 (fun k hk ho => by simp at hk; omega))
          clear hk hs ht k6 xx S0 X0 K0 hrd
          go_wp2_with (fail)
          try rw [hW0]
          clear hW0
          refine (rtexts_sh g st0 v1w S1.out (by omega)).mono ?_
          rintro e u1 hu
          obtain ⟨hk, _, x1, st1, rfl, hV, hs, ht⟩ := hu.u
          obtain ⟨p1, pn1, pc1, xs1, rfl, hrd, rfl⟩ := hV.one
          have T1 := Lib.hid ht
          have xx := hk.blk X1.out (by simp; omega)
          have yy1 : u1.cell? ⟨gx, 19, none⟩ = some (.slice y.pany.a y.pany.n y.pany.c) := xx.cell 19
          have ff1 := xx.frozen 19
          have ll1 := xx.lt
          obtain ⟨v2w, hW1⟩ : ∃ w', u1.setCell ⟨gx, 19, none⟩ (.slice p1 pn1 pc1) = w' := ⟨_, rfl⟩
          have k6 : Kept [gx] u1 v2w := by rw [← hW1]; exact (Kept.refl _ _).setCell _ _ (.inl (by simp))
          have S2 := Lib.hid (hs.kept k6 (by simp; omega))
          have X2 := Lib.hid (show Blk v2w gx 37 ({ y with pall := ⟨p0, pn0, pc0⟩, all := xs0, pany := ⟨p1, pn1, pc1⟩, any := xs1 } : MsgL).cells from by rw [← hW1]; exact xx.set 19 (.slice p1 pn1 pc1))
          have K2 := Lib.hid ((K1.out.trans (hk.mono (G := [gx, g]) (by simp)) (Grows.refl _ _)).trans (k6.mono (G := [gx, g]) (by simp)) (Grows.refl _ _))
          have hz1 := K2.out.size
          have VV0 := Lib.hid ((VV0.out.kept hk (fun k hk ho => by simp at hk; omega)).kept k6 (fun k hk ho => by simp at hk; omega))
          have VV1 := Lib.hid ((show Rd (gx + 1 ≤ ·) u1 shTags [.slice p1 pn1 pc1] xs1 from hrd.mono (fun b hb _ => by omega)).kept k6 (fun k hk ho => by simp at hk; omega))
          clear hk hs ht k6 xx S1 X1 K1 hrd
          go_wp2_with (fail)
          try rw [hW1]
          clear hW1
          refine (rtexts_sh g st1 v2w S2.out (by omega)).mono ?_
          rintro e u2 hu
          obtain ⟨hk, _, x2, st2, rfl, hV, hs, ht⟩ := hu.u
          obtain ⟨p2, pn2, pc2, xs2, rfl, hrd, rfl⟩ := hV.one
          have T2 := Lib.hid ht
          have xx := hk.blk X2.out (by simp; omega)
          have yy2 : u2.cell? ⟨gx, 20, none⟩ = some (.slice y.pno.a y.pno.n y.pno.c) := xx.cell 20
          have ff2 := xx.frozen 20
          have ll2 := xx.lt
          obtain ⟨v3w, hW2⟩ : ∃ w', u2.setCell ⟨gx, 20, none⟩ (.slice p2 pn2 pc2) = w' := ⟨_, rfl⟩
          have k6 : Kept [gx] u2 v3w := by rw [← hW2]; exact (Kept.refl _ _).setCell _ _ (.inl (by simp))
          have S3 := Lib.hid (hs.kept k6 (by simp; omega))
          have X3 := Lib.hid (show Blk v3w gx 37 ({ y with pall := ⟨p0, pn0, pc0⟩, all := xs0, pany := ⟨p1, pn1, pc1⟩, any := xs1, pno := ⟨p2, pn2, pc2⟩, no := xs2 } : MsgL).cells from by rw [← hW2]; exact xx.set 20 (.slice p2 pn2 pc2))
          have K3 := Lib.hid ((K2.out.trans (hk.mono (G := [gx, g]) (by simp)) (Grows.refl _ _)).trans (k6.mono (G := [gx, g]) (by simp)) (Grows.refl _ _))
          have hz2 := K3.out.size
          have VV0 := Lib.hid ((VV0.out.kept hk (fun k hk ho => by simp at hk; omega)).kept k6 (fun k hk ho => by simp at hk; omega))
          have VV1 := Lib.hid ((VV1.out.kept hk (fun k hk ho => by simp at hk; omega)).kept k6 (fun k hk ho => by simp at hk; omega))
          have VV2 := Lib.hid ((show Rd (gx + 1 ≤ ·) u2 shTags [.slice p2 pn2 pc2] xs2 from hrd.mono (fun b hb _ => by omega)).kept k6 (fun k hk ho => by simp at hk; omega))
          clear hk hs ht k6 xx S2 X2 K2 hrd
          have NX := Lib.hid (show ∃ y st, ReadL fs k l gx g (gx + 1) (i + 1) w4 v3w y st from
            ⟨{ y with pall := ⟨p0, pn0, pc0⟩, all := xs0, pany := ⟨p1, pn1, pc1⟩, any := xs1, pno := ⟨p2, pn2, pc2⟩, no := xs2 }, st2, S3.out, X3.out, { (HYI.out.kept K3.out (fun k hk ho => by simp at hk; omega)) with hall := VV0.out, hany := VV1.out, hno := VV2.out }, KW.out.trans K3.out (Grows.refl _ _), (show GI fs k l (i + 1) (Fld.set .filter y.toM (⟨toTags xs0, toTags xs1, toTags xs2⟩ : FilterV)) st2 from GI.next (f := .filter) HG.out HFI.out (show Step cFilter st (⟨toTags xs0, toTags xs1, toTags xs2⟩ : FilterV) st2 from Step.map (a := (toTags xs0, toTags xs1, toTags xs2)) (Step.pair T0.out (Step.pair T1.out T2.out)))), FR.out.next ⟨rfl, rfl, rfl, rfl⟩⟩)
          rw [← hW2] at NX
          clear RL HX HYI HS KW HG S3 X3 K3
          go_wp2
          try rw [hW2]
          go_roundw
          case rel => exact ⟨i + 1, by go_num, by omega, by first | exact NX.out | (rw [← hW2]; exact NX.out)⟩
          case measure => simp [intOf]; omega
      case num =>
        have qreq : (S.toList == [114, 101, 113]) = false := by rw [← hS]; exact fld_q .num .req
        have qcaps : (S.toList == [99, 97, 112, 115]) = false := by rw [← hS]; exact fld_q .num .caps
        have qtoken : (S.toList == [116, 111, 107, 101, 110]) = false := by rw [← hS]; exact fld_q .num .token
        have qcode : (S.toList == [99, 111, 100, 101]) = false := by rw [← hS]; exact fld_q .num .code
        have qn : (S.toList == [110]) = false := by rw [← hS]; exact fld_q .num .n
        have qname : (S.toList == [110, 97, 109, 101]) = false := by rw [← hS]; exact fld_q .num .name
        have qconf : (S.toList == [99, 111, 110, 102]) = false := by rw [← hS]; exact fld_q .num .conf
        have qchanges : (S.toList == [99, 104, 97, 110, 103, 101, 115]) = false := by rw [← hS]; exact fld_q .num .changes
        have qid : (S.toList == [105, 100]) = false := by rw [← hS]; exact fld_q .num .id
        have qvec : (S.toList == [118, 101, 99]) = false := by rw [← hS]; exact fld_q .num .vec
        have qk : (S.toList == [107]) = false := by rw [← hS]; exact fld_q .num .k
        have qwidth : (S.toList == [119, 105, 100, 116, 104]) = false := by rw [← hS]; exact fld_q .num .width
        have qfilter : (S.toList == [102, 105, 108, 116, 101, 114]) = false := by rw [← hS]; exact fld_q .num .filter
        have qnum : (S.toList == [110, 117, 109]) = true := by rw [← hS]; exact fld_q .num .num
        clear hS
        as_aux_lemma =>
          go_wp2_with (fail)
          refine (rnum_u 4294967295 g st wr HS.out (by decide)).mono ?_
          rintro e w5 ⟨hk5, v5, x, st5, rfl, ⟨rfl, hx⟩, hs5, ht5⟩
          have hwx : IntKind.u32.wrap (x : Int) = (x : Int) := by rw [IntKind.wrap_u32]; omega
          have x5 := hk5.blk HX.out (by simp; omega)
          have y5 : w5.cell? ⟨gx, 21, none⟩ = some (.int .u32 (y.num : Int)) := x5.cell 21
          have f5 := x5.frozen 21
          have l5 := x5.lt
          have NX := Lib.hid (show ∃ y st, ReadL fs k l gx g (gx + 1) (i + 1) w4 (w5.setCell ⟨gx, 21, none⟩ (.int .u32 (x : Int))) y st from
            ⟨{ y with num := x }, st5, ReadL.put (f := .num) RL.out hk5 hs5 (by omega) 21 (.int .u32 (x : Int)) { y with num := x } (x5.set 21 (.int .u32 (x : Int))) ({ (HYI.out.kept hk5 (fun k hk ho => by simp at hk; omega)) with hnum := hx }) HFI.out x ht5 rfl⟩)
          clear x5 hk5 hs5 ht5 RL HX HYI HS KW HG
          go_wp2
          go_roundw
          case rel => exact ⟨i + 1, by go_num, by omega, NX.out⟩
          case measure => simp [intOf]; omega
      case page =>
        have qreq : (S.toList == [114, 101, 113]) = false := by rw [← hS]; exact fld_q .page .req
        have qcaps : (S.toList == [99, 97, 112, 115]) = false := by rw [← hS]; exact fld_q .page .caps
        have qtoken : (S.toList == [116, 111, 107, 101, 110]) = false := by rw [← hS]; exact fld_q .page .token
        have qcode : (S.toList == [99, 111, 100, 101]) = false := by rw [← hS]; exact fld_q .page .code
        have qn : (S.toList == [110]) = false := by rw [← hS]; exact fld_q .page .n
        have qname : (S.toList == [110, 97, 109, 101]) = false := by rw [← hS]; exact fld_q .page .name
        have qconf : (S.toList == [99, 111, 110, 102]) = false := by rw [← hS]; exact fld_q .page .conf
        have qchanges : (S.toList == [99, 104, 97, 110, 103, 101, 115]) = false := by rw [← hS]; exact fld_q .page .changes
        have qid : (S.toList == [105, 100]) = false := by rw [← hS]; exact fld_q .page .id
        have qvec : (S.toList == [118, 101, 99]) = false := by rw [← hS]; exact fld_q .page .vec
        have qk : (S.toList == [107]) = false := by rw [← hS]; exact fld_q .page .k
        have qwidth : (S.toList == [119, 105, 100, 116, 104]) = false := by rw [← hS]; exact fld_q .page .width
        have qfilter : (S.toList == [102, 105, 108, 116, 101, 114]) = false := by rw [← hS]; exact fld_q .page .filter
        have qnum : (S.toList == [110, 117, 109]) = false := by rw [← hS]; exact fld_q .page .num
        have qpage : (S.toList == [112, 97, 103, 101]) = true := by rw [← hS]; exact fld_q .page .page
        clear hS
        as_aux_lemma =>
          go_wp2_with (fail)
          refine (rnum_u 4294967295 g st wr HS.out (by decide)).mono ?_
          rintro e w5 ⟨hk5, v5, x, st5, rfl, ⟨rfl, hx⟩, hs5, ht5⟩
          have hwx : IntKind.u32.wrap (x : Int) = (x : Int) := by rw [IntKind.wrap_u32]; omega
          have x5 := hk5.blk HX.out (by simp; omega)
          have y5 : w5.cell? ⟨gx, 22, none⟩ = some (.int .u32 (y.page : Int)) := x5.cell 22
          have f5 := x5.frozen 22
          have l5 := x5.lt
          have NX := Lib.hid (show ∃ y st, ReadL fs k l gx g (gx + 1) (i + 1) w4 (w5.setCell ⟨gx, 22, none⟩ (.int .u32 (x : Int))) y st from
            ⟨{ y with page := x }, st5, ReadL.put (f := .page) RL.out hk5 hs5 (by omega) 22 (.int .u32 (x : Int)) { y with page := x } (x5.set 22 (.int .u32 (x : Int))) ({ (HYI.out.kept hk5 (fun k hk ho => by simp at hk; omega)) with hpage := hx }) HFI.out x ht5 rfl⟩)
          clear x5 hk5 hs5 ht5 RL HX HYI HS KW HG
          go_wp2
          go_roundw
          case rel => exact ⟨i + 1, by go_num, by omega, NX.out⟩
          case measure => simp [intOf]; omega
      case bytes =>
        have qreq : (S.toList == [114, 101, 113]) = false := by rw [← hS]; exact fld_q .bytes .req
        have qcaps : (S.toList == [99, 97, 112, 115]) = false := by rw [← hS]; exact fld_q .bytes .caps
        have qtoken : (S.toList == [116, 111, 107, 101, 110]) = false := by rw [← hS]; exact fld_q .bytes .token
        have qcode : (S.toList == [99, 111, 100, 101]) = false := by rw [← hS]; exact fld_q .bytes .code
        have qn : (S.toList == [110]) = false := by rw [← hS]; exact fld_q .bytes .n
        have qname : (S.toList == [110, 97, 109, 101]) = false := by rw [← hS]; exact fld_q .bytes .name
        have qconf : (S.toList == [99, 111, 110, 102]) = false := by rw [← hS]; exact fld_q .bytes .conf
        have qchanges : (S.toList == [99, 104, 97, 110, 103, 101, 115]) = false := by rw [← hS]; exact fld_q .bytes .changes
        have qid : (S.toList == [105, 100]) = false := by rw [← hS]; exact fld_q .bytes .id
        have qvec : (S.toList == [118, 101, 99]) = false := by rw [← hS]; exact fld_q .bytes .vec
        have qk : (S.toList == [107]) = false := by rw [← hS]; exact fld_q .bytes .k
        have qwidth : (S.toList == [119, 105, 100, 116, 104]) = false := by rw [← hS]; exact fld_q .bytes .width
        have qfilter : (S.toList == [102, 105, 108, 116, 101, 114]) = false := by rw [← hS]; exact fld_q .bytes .filter
        have qnum : (S.toList == [110, 117, 109]) = false := by rw [← hS]; exact fld_q .bytes .num
        have qpage : (S.toList == [112, 97, 103, 101]) = false := by rw [← hS]; exact fld_q .bytes .page
        have qbytes : (S.toList == [98, 121, 116, 101, 115]) = true := by rw [← hS]; exact fld_q .bytes .bytes
        clear hS
        as_aux_lemma =>
          go_wp2_with (fail)
          refine (rtext_u g st wr HS.out).mono ?_
          rintro e w5 ⟨hk5, v5, x, st5, rfl, ⟨s, rfl, rfl, hsz⟩, hs5, ht5⟩
          obtain ⟨cc, w6, hconv, hb6, hrd6⟩ := text_bytes w5 s hsz
          have k56 : Kept [g] wr w6 := hk5.trans (Kept.of_below (F := [g]) hb6 (Nat.le_refl _)) (Grows.refl _ _)
          have hs6 := hs5.kept (F := []) (Kept.of_below hb6 (Nat.le_refl _)) (by simp)
          have hk5s := hk5.size
          have x5 := k56.blk HX.out (by simp; omega)
          have y5 : w6.cell? ⟨gx, 23, none⟩ = some (.slice y.pbytes.a y.pbytes.n y.pbytes.c) := x5.cell 23
          have f5 := x5.frozen 23
          have l5 := x5.lt
          obtain ⟨sn, hsn⟩ : ∃ sn, s.size = sn := ⟨_, rfl⟩
          rw [hsn] at hconv hrd6
          obtain ⟨gb, hgb⟩ : ∃ gb, w5.heap.size = gb := ⟨_, rfl⟩
          rw [hgb] at hconv hrd6
          have NX := Lib.hid (show ∃ y st, ReadL fs k l gx g (gx + 1) (i + 1) w4 (w6.setCell ⟨gx, 23, none⟩ (.slice (some ⟨gb, 0, none⟩) sn cc)) y st from
            ⟨{ y with pbytes := ⟨some ⟨gb, 0, none⟩, sn, cc⟩, bytes := (strB s).map Int.ofNat }, st5, ReadL.put (f := .bytes) RL.out k56 hs6 (by omega) 23 (.slice (some ⟨gb, 0, none⟩) sn cc) { y with pbytes := ⟨some ⟨gb, 0, none⟩, sn, cc⟩, bytes := (strB s).map Int.ofNat } (x5.set 23 (.slice (some ⟨gb, 0, none⟩) sn cc)) ({ (HYI.out.kept k56 (fun k hk ho => by simp at hk; omega)) with hbytes := hrd6.mono (fun b hb _ => by omega) }) HFI.out (strB s) ht5 (by simp only [MsgL.toM, map_ofNat_toNat]; rfl)⟩)
          clear x5 k56 hk5 hs5 hs6 ht5 hb6 hrd6 RL HX HYI HS KW HG
          go_wp2
          go_roundw
          case rel => exact ⟨i + 1, by go_num, by omega, NX.out⟩
          case measure => simp [intOf]; omega
      case version =>
        have qreq : (S.toList == [114, 101, 113]) = false := by rw [← hS]; exact fld_q .version .req
        have qcaps : (S.toList == [99, 97, 112, 115]) = false := by rw [← hS]; exact fld_q .version .caps
        have qtoken : (S.toList == [116, 111, 107, 101, 110]) = false := by rw [← hS]; exact fld_q .version .token
        have qcode : (S.toList == [99, 111, 100, 101]) = false := by rw [← hS]; exact fld_q .version .code
        have qn : (S.toList == [110]) = false := by rw [← hS]; exact fld_q .version .n
        have qname : (S.toList == [110, 97, 109, 101]) = false := by rw [← hS]; exact fld_q .version .name
        have qconf : (S.toList == [99, 111, 110, 102]) = false := by rw [← hS]; exact fld_q .version .conf
        have qchanges : (S.toList == [99, 104, 97, 110, 103, 101, 115]) = false := by rw [← hS]; exact fld_q .version .changes
        have qid : (S.toList == [105, 100]) = false := by rw [← hS]; exact fld_q .version .id
        have qvec : (S.toList == [118, 101, 99]) = false := by rw [← hS]; exact fld_q .version .vec
        have qk : (S.toList == [107]) = false := by rw [← hS]; exact fld_q .version .k
        have qwidth : (S.toList == [119, 105, 100, 116, 104]) = false := by rw [← hS]; exact fld_q .version .width
        have qfilter : (S.toList == [102, 105, 108, 116, 101, 114]) = false := by rw [← hS]; exact fld_q .version .filter
        have qnum : (S.toList == [110, 117, 109]) = false := by rw [← hS]; exact fld_q .version .num
        have qpage : (S.toList == [112, 97, 103, 101]) = false := by rw [← hS]; exact fld_q .version .page
        have qbytes : (S.toList == [98, 121, 116, 101, 115]) = false := by rw [← hS]; exact fld_q .version .bytes
        have qversion : (S.toList == [118, 101, 114, 115, 105, 111, 110]) = true := by rw [← hS]; exact fld_q .version .version
        clear hS
        as_aux_lemma =>
          go_wp2_with (fail)
          refine (rnum_u 18446744073709551615 g st wr HS.out (by decide)).mono ?_
          rintro e w5 ⟨hk5, v5, x, st5, rfl, ⟨rfl, hx⟩, hs5, ht5⟩
          have x5 := hk5.blk HX.out (by simp; omega)
          have y5 : w5.cell? ⟨gx, 24, none⟩ = some (.int .u64 (y.version : Int)) := x5.cell 24
          have f5 := x5.frozen 24
          have l5 := x5.lt
          have NX := Lib.hid (show ∃ y st, ReadL fs k l gx g (gx + 1) (i + 1) w4 (w5.setCell ⟨gx, 24, none⟩ (.int .u64 (x : Int))) y st from
            ⟨{ y with version := x }, st5, ReadL.put (f := .version) RL.out hk5 hs5 (by omega) 24 (.int .u64 (x : Int)) { y with version := x } (x5.set 24 (.int .u64 (x : Int))) ({ (HYI.out.kept hk5 (fun k hk ho => by simp at hk; omega)) with hversion := hx }) HFI.out x ht5 rfl⟩)
          clear x5 hk5 hs5 ht5 RL HX HYI HS KW HG
          go_wp2
          go_roundw
          case rel => exact ⟨i + 1, by go_num, by omega, NX.out⟩
          case measure => simp [intOf]; omega
      case names =>
        have qreq : (S.toList == [114, 101, 113]) = false := by rw [← hS]; exact fld_q .names .req
        have qcaps : (S.toList == [99, 97, 112, 115]) = false := by rw [← hS]; exact fld_q .names .caps
        have qtoken : (S.toList == [116, 111, 107, 101, 110]) = false := by rw [← hS]; exact fld_q .names .token
        have qcode : (S.toList == [99, 111, 100, 101]) = false := by rw [← hS]; exact fld_q .names .code
        have qn : (S.toList == [110]) = false := by rw [← hS]; exact fld_q .names .n
        have qname : (S.toList == [110, 97, 109, 101]) = false := by rw [← hS]; exact fld_q .names .name
        have qconf : (S.toList == [99, 111, 110, 102]) = false := by rw [← hS]; exact fld_q .names .conf
        have qchanges : (S.toList == [99, 104, 97, 110, 103, 101, 115]) = false := by rw [← hS]; exact fld_q .names .changes
        have qid : (S.toList == [105, 100]) = false := by rw [← hS]; exact fld_q .names .id
        have qvec : (S.toList == [118, 101, 99]) = false := by rw [← hS]; exact fld_q .names .vec
        have qk : (S.toList == [107]) = false := by rw [← hS]; exact fld_q .names .k
        have qwidth : (S.toList == [119, 105, 100, 116, 104]) = false := by rw [← hS]; exact fld_q .names .width
        have qfilter : (S.toList == [102, 105, 108, 116, 101, 114]) = false := by rw [← hS]; exact fld_q .names .filter
        have qnum : (S.toList == [110, 117, 109]) = false := by rw [← hS]; exact fld_q .names .num
        have qpage : (S.toList == [112, 97, 103, 101]) = false := by rw [← hS]; exact fld_q .names .page
        have qbytes : (S.toList == [98, 121, 116, 101, 115]) = false := by rw [← hS]; exact fld_q .names .bytes
        have qversion : (S.toList == [118, 101, 114, 115, 105, 111, 110]) = false := by rw [← hS]; exact fld_q .names .version
        have qnames : (S.toList == [110, 97, 109, 101, 115]) = true := by rw [← hS]; exact fld_q .names .names
        clear hS
        as_aux_lemma =>
          go_wp2_with (fail)
          refine (rtexts_sh g st wr HS.out (by omega)).mono ?_
          rintro e w5 hu
          obtain ⟨hk5, v5, x, st5, rfl, hV, hs5, ht5⟩ := hu.u
          obtain ⟨p, pn, pc, xs, rfl, hrd, rfl⟩ := hV.one
          have x5 := hk5.blk HX.out (by simp; omega)
          have y5 : w5.cell? ⟨gx, 25, none⟩ = some (.slice y.pnames.a y.pnames.n y.pnames.c) := x5.cell 25
          have f5 := x5.frozen 25
          have l5 := x5.lt
          have NX := Lib.hid (show ∃ y st, ReadL fs k l gx g (gx + 1) (i + 1) w4 (w5.setCell ⟨gx, 25, none⟩ (.slice p pn pc)) y st from
            ⟨{ y with pnames := ⟨p, pn, pc⟩, names := xs }, st5, ReadL.put (f := .names) RL.out hk5 hs5 (by omega) 25 (.slice p pn pc) { y with pnames := ⟨p, pn, pc⟩, names := xs } (x5.set 25 (.slice p pn pc)) ({ (HYI.out.kept hk5 (fun k hk ho => by simp at hk; omega)) with hnames := hrd.mono (fun b hb _ => by omega) }) HFI.out _ ht5 rfl⟩)
          clear x5 hk5 hs5 ht5 RL HX HYI HS KW HG
          go_wp2
          go_roundw
          case rel => exact ⟨i + 1, by go_num, by omega, NX.out⟩
          case measure => simp [intOf]; omega
      case items =>
        have qreq : (S.toList == [114, 101, 113]) = false := by rw [← hS]; exact fld_q .items .req
        have qcaps : (S.toList == [99, 97, 112, 115]) = false := by rw [← hS]; exact fld_q .items .caps
        have qtoken : (S.toList == [116, 111, 107, 101, 110]) = false := by rw [← hS]; exact fld_q .items .token
        have qcode : (S.toList == [99, 111, 100, 101]) = false := by rw [← hS]; exact fld_q .items .code
        have qn : (S.toList == [110]) = false := by rw [← hS]; exact fld_q .items .n
        have qname : (S.toList == [110, 97, 109, 101]) = false := by rw [← hS]; exact fld_q .items .name
        have qconf : (S.toList == [99, 111, 110, 102]) = false := by rw [← hS]; exact fld_q .items .conf
        have qchanges : (S.toList == [99, 104, 97, 110, 103, 101, 115]) = false := by rw [← hS]; exact fld_q .items .changes
        have qid : (S.toList == [105, 100]) = false := by rw [← hS]; exact fld_q .items .id
        have qvec : (S.toList == [118, 101, 99]) = false := by rw [← hS]; exact fld_q .items .vec
        have qk : (S.toList == [107]) = false := by rw [← hS]; exact fld_q .items .k
        have qwidth : (S.toList == [119, 105, 100, 116, 104]) = false := by rw [← hS]; exact fld_q .items .width
        have qfilter : (S.toList == [102, 105, 108, 116, 101, 114]) = false := by rw [← hS]; exact fld_q .items .filter
        have qnum : (S.toList == [110, 117, 109]) = false := by rw [← hS]; exact fld_q .items .num
        have qpage : (S.toList == [112, 97, 103, 101]) = false := by rw [← hS]; exact fld_q .items .page
        have qbytes : (S.toList == [98, 121, 116, 101, 115]) = false := by rw [← hS]; exact fld_q .items .bytes
        have qversion : (S.toList == [118, 101, 114, 115, 105, 111, 110]) = false := by rw [← hS]; exact fld_q .items .version
        have qnames : (S.toList == [110, 97, 109, 101, 115]) = false := by rw [← hS]; exact fld_q .items .names
        have qitems : (S.toList == [105, 116, 101, 109, 115]) = true := by rw [← hS]; exact fld_q .items .items
        clear hS
        as_aux_lemma =>
          obtain ⟨hp0, hh0⟩ := FR.out.1 (apart_at fs i .items HAP.out HFI.out)
          have hy0 : ({ y with pitems := ⟨none, 0, 0⟩, items := [] } : MsgL) = y := by
            cases y
            simp only at hp0 hh0
            subst hp0
            subst hh0
            rfl
          go_wp2_with (fail)
          refine (rnum_u 128 g st wr HS.out (by decide)).mono ?_
          rintro e wa ⟨hka, _, nn, s2, rfl, ⟨rfl, hnn⟩, hsa, hta⟩
          have hwn : IntKind.i64.wrap (nn : Int) = (nn : Int) := by rw [IntKind.wrap_i64]; omega
          have T2 := Lib.hid hta
          have S2 := Lib.hid hsa
          have K2 := Lib.hid (hka.mono (G := [gx, g]) (by simp))
          have Y2 := Lib.hid (show Blk wa gx 37 ({ y with pitems := ⟨none, 0, 0⟩, items := [] } : MsgL).cells from by rw [hy0]; exact hka.blk HX.out (by simp; omega))
          have hsA := hka.size
          clear hka hsa hta hp0 hh0 hy0
          generalize wr = wo at *
          go_wp2_with (fail)
          go_loopw [12] (fun s12 wr => ∃ (j : Nat) (sl : List Nat ⊕ Nat) (xs : List shItem.T) (p : SlL), s12 = .int .i64 j ∧ j ≤ nn ∧ Hid (RState wr g sl) ∧ Hid (∀ r, s2 = .inl r → ManyR cItem nn j r (xs.map toItem) sl) ∧ Hid (∀ k, s2 = .inr k → sl = .inr k) ∧ Hid (OwnR wo.heap.size wr 79 shItem (.slice p.a p.n p.c) xs) ∧ Hid (xs.length ≤ j) ∧ Hid (Kept [gx, g] wo wr) ∧ Hid (Blk wr gx 37 ({ y with pitems := p, items := xs } : MsgL).cells)) (fun s12 _ => nn - (intOf s12).toNat)
          case atStart => exact ⟨0, s2, [], ⟨none, 0, 0⟩, rfl, by omega, S2.out, fun r h => by subst h; exact ManyR.start cItem nn r, fun k h => h, OwnR.nil _ _ _ _, by simp [Hid], K2.out, Y2.out⟩
          case round =>
            clear S2 K2 Y2
            obtain ⟨j, sl, xs, p, rfl, hj, HST, HM, HB, HO, HLN, HK, HY⟩ := hrel
            have hwl := HK.out.size
            have hyl := HY.out.lt
            rcases sl with q | kk
            · have hat : RAt wr g q := HST.out
              obtain ⟨a', m', c', c0, c1, f0, f1, hlt', _, _, _⟩ := hat.cells
              clear hat f0 f1 c0
              by_cases hjn : j < nn
              · have HM2 := Lib.hid (show ∃ r, s2 = .inl r ∧ ManyR cItem nn j r (xs.map toItem) (.inl q) from by
                  rcases s2 with r | k
                  · exact ⟨r, rfl, HM.out r rfl⟩
                  · exact nomatch HB.out k rfl)
                clear HM HB
                have hown0 := Lib.hid (fun k (hk : (Value.slice p.a p.n p.c).ownBlock = some k) => (HO.out.lt k hk))
                have SD := Lib.hid (HST.out.kept (F := []) ((Kept.refl [] wr).drew) (by simp))
                have OD := Lib.hid (HO.out.kept (F := []) ((Kept.refl [] wr).drew) (by simp))
                have yd : wr.cell? ⟨gx, 26, none⟩ = some (.slice p.a p.n p.c) := HY.out.cell 26
                have hln := HLN.out
                go_wp2
                go_region_law (first
                  | (refine step_row (e := shItem) w5 (by rfl) (.tmp 193) (.tmp 196) 34 (by rfl) Tryz.underlying34 (.agg #[.int .u32 0, .slice none 0 0, .slice none 0 0]) 56 item_info rfl (by decide) el _ (by rfl) (by rfl) O5.out R5.out (by omega) (by omega) (by omega) ?_; intro v9 w9 ho9 hk9 hg9; obtain ⟨pa, pn, pc, rfl⟩ := ho9.slice; have O9 := Lib.hid ho9; have K9 := Lib.hid hk9; have y9 := hk9.blk Y5.out (fun hh => by have := (hown0.out gx (mem_ownB.1 hh)).1; omega); have Y9 := Lib.hid y9; have yc9 : w9.cell? ⟨gx, 26, none⟩ = some (.slice p.a p.n p.c) := y9.cell 26; have yf9 := y9.frozen 26; have hyl9 := y9.lt; clear ho9 hk9 hg9 y9)
                  | (rw [if_pos (by rfl)]; go_simp; go_at_call 59; refine (ritem_u g (.inl q) wr.drew SD.out (by simp; omega)).mono ?_; rintro e w5 ⟨hk5, _, it, s5, rfl, ⟨cs, el, rfl, hy, hto⟩, hs5, ht5⟩; obtain ⟨id, vec, tags, p1, n1, c1, p2, n2, c2, hel, rfl, hid, _⟩ := rd_item hy; subst hto; have kd : Kept [g] wr w5 := (Kept.refl [g] wr).drew.trans hk5 (Grows.refl _ _); have R5 := Lib.hid (hy.mono (ok' := fun k => wo.heap.size ≤ k ∧ (Value.slice p.a p.n p.c).ownBlock ≠ some k) (fun k hk _ => ⟨by have h1 : wr.heap.size ≤ k := hk; omega, fun hv => by have h1 : wr.heap.size ≤ k := hk; have := (hown0.out k hv).2; omega⟩)); have T5 := Lib.hid ht5; have S5 := Lib.hid hs5; have O5 := Lib.hid (HO.out.kept kd (by simp; omega)); have Y5 := Lib.hid (kd.blk HY.out (by simp; omega)); have K5 := Lib.hid (HK.out.trans (kd.mono (G := [gx, g]) (by simp)) (Grows.refl _ _)); have h5s := kd.size; have yc5 : w5.cell? ⟨gx, 26, none⟩ = some (.slice p.a p.n p.c) := Y5.out.cell 26; have hyl5 := Y5.out.lt; have yc5' : (w5.alloc (.cells #[.int .u32 (id : Int), .slice p1 n1 c1, .slice p2 n2 c2] 79)).cell? ⟨gx, 26, none⟩ = some (.slice p.a p.n p.c) := (((Kept.refl [] w5).alloc _).cell (p := ⟨gx, 26, none⟩) hyl5 (by simp)).trans yc5; clear kd hk5 hs5 ht5 hy hel))
                all_goals
                  have NW := Lib.hid (show ∃ (sl : List Nat ⊕ Nat) (xs : List shItem.T) (p : SlL), RState (w9.setCell ⟨gx, 26, none⟩ (.slice pa pn pc)) g sl ∧ (∀ r, s2 = .inl r → ManyR cItem nn (j + 1) r (xs.map toItem) sl) ∧ (∀ k, s2 = .inr k → sl = .inr k) ∧ OwnR wo.heap.size (w9.setCell ⟨gx, 26, none⟩ (.slice pa pn pc)) 79 shItem (.slice p.a p.n p.c) xs ∧ xs.length ≤ j + 1 ∧ Kept [gx, g] wo (w9.setCell ⟨gx, 26, none⟩ (.slice pa pn pc)) ∧ Blk (w9.setCell ⟨gx, 26, none⟩ (.slice pa pn pc)) gx 37 ({ y with pitems := p, items := xs } : MsgL).cells from by
                    have k10 : Kept [gx] w9 (w9.setCell ⟨gx, 26, none⟩ (.slice pa pn pc)) := (Kept.refl _ _).setCell _ _ (.inl (by simp))
                    have hown := fun k (hk : k ∈ ownB (Value.slice p.a p.n p.c)) => (hown0.out k (mem_ownB.1 hk)).1
                    obtain ⟨r, hr, hm⟩ := HM2.out
                    refine ⟨s5, xs ++ [el], ⟨pa, pn, pc⟩, (S5.out.kept K9.out (fun k hk => by have := hown k hk; omega)).kept k10 (by simp; omega), fun r' hr' => ?_, fun k hk => (by rw [hr] at hk; cases hk), O9.out.kept k10 (by simp; omega), by simp; omega, (K5.out.trans K9.out (fun k hk => .inr (hown k hk))).trans (k10.mono (G := [gx, g]) (by simp)) (Grows.refl _ _), Y9.out.set 26 _⟩
                    rw [hr] at hr'
                    cases hr'
                    have := hm.step hjn T5.out
                    simpa using this)
                  clear O9 K9 Y9 O5 Y5 K5 S5 R5 T5 HM2 HST HO HY HK SD OD hln
                  go_wp2
                  go_roundw
                  case rel =>
                    obtain ⟨sl, xs, p, n1, n2, n3, n4, n5, n6, n7⟩ := NW.out
                    exact ⟨j + 1, sl, xs, p, by go_num, by omega, n1, n2, n3, n4, n5, n6, n7⟩
                  case measure => simp [intOf]; omega
              · have hjn' : j = nn := by omega
                subst hjn'
                have HE := Lib.hid (show Step (cMany cItem) st (xs.map toItem) (.inl q) from many_good T2.out HM.out HB.out)
                have NX := Lib.hid (show ∃ y st, ReadL fs k l gx g (gx + 1) (i + 1) w4 wr y st from
                  ⟨{ y with pitems := p, items := xs }, .inl q, HST.out, HY.out, { (HYI.out.kept HK.out (fun k hk ho => by simp at hk; omega)) with hitems := (HO.out.rd 56 (by decide) (by have := HLN.out; omega)).mono (fun b hb _ => by omega) }, KW.out.trans HK.out (Grows.refl _ _), (show GI fs k l (i + 1) (Fld.set .items y.toM (xs.map toItem)) (.inl q) from GI.next (f := .items) HG.out HFI.out HE.out), ⟨fun hh => (take_self HFI.out hh).elim, fun hh => FR.out.2 (take_less hh)⟩⟩)
                clear HE HM HB HO HLN HK HY HST T2 RL HX HYI HS KW HG
                go_wp2
                go_roundw
                case rel => exact ⟨i + 1, by go_num, by omega, NX.out⟩
                case measure => simp [intOf]; omega
            · have hbad : RBad wr g kk := HST.out
              obtain ⟨c1, hlt', e1, e2⟩ := hbad.cells
              have HE := Lib.hid (show Step (cMany cItem) st (xs.map toItem) (.inr kk) from many_bad T2.out HM.out HB.out)
              have NX := Lib.hid (show ∃ y st, ReadL fs k l gx g (gx + 1) (i + 1) w4 wr y st from
                ⟨{ y with pitems := p, items := xs }, .inr kk, HST.out, HY.out, { (HYI.out.kept HK.out (fun k hk ho => by simp at hk; omega)) with hitems := (HO.out.rd 56 (by decide) (by have := HLN.out; omega)).mono (fun b hb _ => by omega) }, KW.out.trans HK.out (Grows.refl _ _), (show GI fs k l (i + 1) (Fld.set .items y.toM (xs.map toItem)) (.inr kk) from GI.next (f := .items) HG.out HFI.out HE.out), ⟨fun hh => (take_self HFI.out hh).elim, fun hh => FR.out.2 (take_less hh)⟩⟩)
              clear hbad HE HM HB HO HLN HK HY HST T2 RL HX HYI HS KW HG
              by_cases hjn : j < nn
              all_goals
                go_wp2
                go_roundw
                case rel => exact ⟨i + 1, by go_num, by omega, NX.out⟩
                case measure => simp [intOf]; omega
      case hits =>
        have qreq : (S.toList == [114, 101, 113]) = false := by rw [← hS]; exact fld_q .hits .req
        have qcaps : (S.toList == [99, 97, 112, 115]) = false := by rw [← hS]; exact fld_q .hits .caps
        have qtoken : (S.toList == [116, 111, 107, 101, 110]) = false := by rw [← hS]; exact fld_q .hits .token
        have qcode : (S.toList == [99, 111, 100, 101]) = false := by rw [← hS]; exact fld_q .hits .code
        have qn : (S.toList == [110]) = false := by rw [← hS]; exact fld_q .hits .n
        have qname : (S.toList == [110, 97, 109, 101]) = false := by rw [← hS]; exact fld_q .hits .name
        have qconf : (S.toList == [99, 111, 110, 102]) = false := by rw [← hS]; exact fld_q .hits .conf
        have qchanges : (S.toList == [99, 104, 97, 110, 103, 101, 115]) = false := by rw [← hS]; exact fld_q .hits .changes
        have qid : (S.toList == [105, 100]) = false := by rw [← hS]; exact fld_q .hits .id
        have qvec : (S.toList == [118, 101, 99]) = false := by rw [← hS]; exact fld_q .hits .vec
        have qk : (S.toList == [107]) = false := by rw [← hS]; exact fld_q .hits .k
        have qwidth : (S.toList == [119, 105, 100, 116, 104]) = false := by rw [← hS]; exact fld_q .hits .width
        have qfilter : (S.toList == [102, 105, 108, 116, 101, 114]) = false := by rw [← hS]; exact fld_q .hits .filter
        have qnum : (S.toList == [110, 117, 109]) = false := by rw [← hS]; exact fld_q .hits .num
        have qpage : (S.toList == [112, 97, 103, 101]) = false := by rw [← hS]; exact fld_q .hits .page
        have qbytes : (S.toList == [98, 121, 116, 101, 115]) = false := by rw [← hS]; exact fld_q .hits .bytes
        have qversion : (S.toList == [118, 101, 114, 115, 105, 111, 110]) = false := by rw [← hS]; exact fld_q .hits .version
        have qnames : (S.toList == [110, 97, 109, 101, 115]) = false := by rw [← hS]; exact fld_q .hits .names
        have qitems : (S.toList == [105, 116, 101, 109, 115]) = false := by rw [← hS]; exact fld_q .hits .items
        have qhits : (S.toList == [104, 105, 116, 115]) = true := by rw [← hS]; exact fld_q .hits .hits
        clear hS
        as_aux_lemma =>
          obtain ⟨hp0, hh0⟩ := FR.out.2 (apart_at fs i .hits HAP.out HFI.out)
          have hy0 : ({ y with phits := ⟨none, 0, 0⟩, hits := [] } : MsgL) = y := by
            cases y
            simp only at hp0 hh0
            subst hp0
            subst hh0
            rfl
          go_wp2_with (fail)
          refine (rnum_u 128 g st wr HS.out (by decide)).mono ?_
          rintro e wa ⟨hka, _, nn, s2, rfl, ⟨rfl, hnn⟩, hsa, hta⟩
          have hwn : IntKind.i64.wrap (nn : Int) = (nn : Int) := by rw [IntKind.wrap_i64]; omega
          have T2 := Lib.hid hta
          have S2 := Lib.hid hsa
          have K2 := Lib.hid (hka.mono (G := [gx, g]) (by simp))
          have Y2 := Lib.hid (show Blk wa gx 37 ({ y with phits := ⟨none, 0, 0⟩, hits := [] } : MsgL).cells from by rw [hy0]; exact hka.blk HX.out (by simp; omega))
          have hsA := hka.size
          clear hka hsa hta hp0 hh0 hy0
          generalize wr = wo at *
          go_wp2_with (fail)
          go_loopw [14] (fun s14 wr => ∃ (j : Nat) (sl : List Nat ⊕ Nat) (xs : List shHit.T) (p : SlL), s14 = .int .i64 j ∧ j ≤ nn ∧ Hid (RState wr g sl) ∧ Hid (∀ r, s2 = .inl r → ManyR cHit nn j r (xs.map toHit) sl) ∧ Hid (∀ k, s2 = .inr k → sl = .inr k) ∧ Hid (OwnR wo.heap.size wr 159 shHit (.slice p.a p.n p.c) xs) ∧ Hid (xs.length ≤ j) ∧ Hid (Kept [gx, g] wo wr) ∧ Hid (Blk wr gx 37 ({ y with phits := p, hits := xs } : MsgL).cells)) (fun s14 _ => nn - (intOf s14).toNat)
          case atStart => exact ⟨0, s2, [], ⟨none, 0, 0⟩, rfl, by omega, S2.out, fun r h => by subst h; exact ManyR.start cHit nn r, fun k h => h, OwnR.nil _ _ _ _, by simp [Hid], K2.out, Y2.out⟩
          case round =>
            clear S2 K2 Y2
            obtain ⟨j, sl, xs, p, rfl, hj, HST, HM, HB, HO, HLN, HK, HY⟩ := hrel
            have hwl := HK.out.size
            have hyl := HY.out.lt
            rcases sl with q | kk
            · have hat : RAt wr g q := HST.out
              obtain ⟨a', m', c', c0, c1, f0, f1, hlt', _, _, _⟩ := hat.cells
              clear hat f0 f1 c0
              by_cases hjn : j < nn
              · have HM2 := Lib.hid (show ∃ r, s2 = .inl r ∧ ManyR cHit nn j r (xs.map toHit) (.inl q) from by
                  rcases s2 with r | k
                  · exact ⟨r, rfl, HM.out r rfl⟩
                  · exact nomatch HB.out k rfl)
                clear HM HB
                go_wp2_with (fail)
                refine (rwhole_u (-9223372036854775808) 9223372036854775807 (by decide) (by decide) g (.inl q) wr HST.out).mono ?_
                rintro e w5 ⟨hk5, _, d, s5, rfl, ⟨rfl, hd1, hd2⟩, hs5, ht5⟩
                have hk5' := Lib.hid hk5
                have hs5' := Lib.hid hs5
                have ht5' := Lib.hid ht5
                clear hk5 hs5 ht5 c1
                go_wp2_with (fail)
                have hk5 := hk5'.out
                have hs5 := hs5'.out
                have ht5 := ht5'.out
                obtain ⟨w6, hw6⟩ : ∃ w6, w5.alloc (.cells #[.int .i64 d, .int .u32 0] 159) = w6 := ⟨_, rfl⟩
                have k56 : Kept [] w5 w6 := by rw [← hw6]; exact (Kept.refl _ _).alloc _
                have X6 := Lib.hid (show Blk w6 w5.heap.size 159 [.int .i64 d, .int .u32 0] from by rw [← hw6]; exact Blk.new w5 _ _)
                have S6 := Lib.hid (hs5.kept k56 (by simp))
                have T6 := Lib.hid ht5
                have k6 : Kept [g] wr w6 := hk5.trans (k56.mono (G := [g]) (by simp)) (Grows.refl _ _)
                have K6 := Lib.hid k6
                have h6s := k6.size
                have h5s := hk5.size
                have hx6 := X6.out.lt
                have HD := Lib.hid (show -9223372036854775808 ≤ d ∧ d ≤ 9223372036854775807 from ⟨hd1, hd2⟩)
                rw [hw6]
                clear hk5 hs5 ht5 hk5' hs5' ht5' k56 k6 hd1 hd2 hw6
                refine (rnum_u 4294967295 g s5 w6 S6.out (by decide)).mono ?_
                rintro e w7 ⟨hk7, _, id, s7, rfl, ⟨rfl, hid⟩, hs7, ht7⟩
                have hwid : IntKind.u32.wrap (id : Int) = (id : Int) := by rw [IntKind.wrap_u32]; omega
                have x7 := hk7.blk X6.out (by simp; omega)
                have xc1 : w7.cell? ⟨w5.heap.size, 1, none⟩ = some (.int .u32 0) := x7.cell 1
                have xf1 := x7.frozen 1
                have hx7 := x7.lt
                obtain ⟨w8, hw8⟩ : ∃ w8, w7.setCell ⟨w5.heap.size, 1, none⟩ (.int .u32 (id : Int)) = w8 := ⟨_, rfl⟩
                have k78 : Kept [w5.heap.size] w7 w8 := by rw [← hw8]; exact (Kept.refl _ _).setCell _ _ (.inl (by simp))
                have x8 : Blk w8 w5.heap.size 159 [.int .i64 d, .int .u32 (id : Int)] := by rw [← hw8]; exact x7.set 1 _
                have k8 : Kept [g] wr w8 := (K6.out.trans hk7 (Grows.refl _ _)).trans k78 (fun x hx => .inr (by simp at hx; omega))
                have S8 := Lib.hid (hs7.kept k78 (by simp; omega))
                have T8 := Lib.hid ht7
                have O8 := Lib.hid (HO.out.kept k8 (by simp; omega))
                have Y8 := Lib.hid (k8.blk HY.out (by simp; omega))
                have K8 := Lib.hid (HK.out.trans (k8.mono (G := [gx, g]) (by simp)) (Grows.refl _ _))
                have h8s := k8.size
                have xd0 : w8.cell? ⟨w5.heap.size, 0, none⟩ = some (.int .i64 d) := x8.cell 0
                have xd1 : w8.cell? ⟨w5.heap.size, 1, none⟩ = some (.int .u32 (id : Int)) := x8.cell 1
                have hx8 := x8.lt
                have yd : w8.cell? ⟨gx, 27, none⟩ = some (.slice p.a p.n p.c) := Y8.out.cell 27
                have hyl8 := Y8.out.lt
                obtain ⟨el, hel⟩ : ∃ el : shHit.T, el = (d, (id : Int), ()) := ⟨_, rfl⟩
                have R8 := Lib.hid (show Rd (fun k => wo.heap.size ≤ k ∧ (Value.slice p.a p.n p.c).ownBlock ≠ some k) w8 shHit [.int .i64 d, .int .u32 (id : Int)] el from by rw [hel]; exact hit_mk HD.out hid)
                have M8 := Lib.hid (show Step cHit (.inl q) (toHit el) s7 from by rw [hel]; exact Step.map (T6.out.pair T8.out))
                have hln := HLN.out
                have hlo : wo.heap.size ≤ w8.heap.size := by omega
                clear hel hk7 hs7 ht7 k78 x7 x8 k8 X6 S6 T6 T8 K6 HST HO HY HK
                go_wp2_with (first | rw [hw8] | (at_builtin; go_must (refine app_row (e := shHit) w8 rfl (.tmp 224) (.tmp 226) 35 rfl Tryz.underlying35 (.agg #[.int .i64 0, .int .u32 0]) 16 hit_info2 rfl (by decide) el [.int .i64 d, .int .u32 (id : Int)] (by rfl) (by rfl) O8.out R8.out hlo (by omega) (by omega) ?_)))
                intro v9 w9 ho9 hk9 hg9
                obtain ⟨pa, pn, pc, rfl⟩ := ho9.slice
                have hown := fun k (hk : k ∈ ownB (Value.slice p.a p.n p.c)) => (O8.out.lt k (mem_ownB.1 hk)).1
                have y9 := hk9.blk Y8.out (fun hh => by have := hown gx hh; omega)
                have yc9 : w9.cell? ⟨gx, 27, none⟩ = some (.slice p.a p.n p.c) := y9.cell 27
                have yf9 := y9.frozen 27
                have hyl9 := y9.lt
                have NW := Lib.hid (show ∃ (sl : List Nat ⊕ Nat) (xs : List shHit.T) (p : SlL), RState (w9.setCell ⟨gx, 27, none⟩ (.slice pa pn pc)) g sl ∧ (∀ r, s2 = .inl r → ManyR cHit nn (j + 1) r (xs.map toHit) sl) ∧ (∀ k, s2 = .inr k → sl = .inr k) ∧ OwnR wo.heap.size (w9.setCell ⟨gx, 27, none⟩ (.slice pa pn pc)) 159 shHit (.slice p.a p.n p.c) xs ∧ xs.length ≤ j + 1 ∧ Kept [gx, g] wo (w9.setCell ⟨gx, 27, none⟩ (.slice pa pn pc)) ∧ Blk (w9.setCell ⟨gx, 27, none⟩ (.slice pa pn pc)) gx 37 ({ y with phits := p, hits := xs } : MsgL).cells from by
                  have k10 : Kept [gx] w9 (w9.setCell ⟨gx, 27, none⟩ (.slice pa pn pc)) := (Kept.refl _ _).setCell _ _ (.inl (by simp))
                  obtain ⟨r, hr, hm⟩ := HM2.out
                  refine ⟨s7, xs ++ [el], ⟨pa, pn, pc⟩, (S8.out.kept hk9 (fun k hk => by have := hown k hk; omega)).kept k10 (by simp; omega), fun r' hr' => ?_, fun k hk => (by rw [hr] at hk; cases hk), ho9.kept k10 (by simp; omega), by simp; omega, (K8.out.trans hk9 (fun k hk => .inr (hown k hk))).trans (k10.mono (G := [gx, g]) (by simp)) (Grows.refl _ _), y9.set 27 _⟩
                  rw [hr] at hr'
                  cases hr'
                  have := hm.step hjn M8.out
                  simpa using this)
                clear ho9 hk9 hg9 hown y9 O8 K8 S8 R8 M8 Y8 HM2 hln
                go_wp2
                go_roundw
                case rel =>
                  obtain ⟨sl, xs, p, n1, n2, n3, n4, n5, n6, n7⟩ := NW.out
                  exact ⟨j + 1, sl, xs, p, by go_num, by omega, n1, n2, n3, n4, n5, n6, n7⟩
                case measure => simp [intOf]; omega
              · have hjn' : j = nn := by omega
                subst hjn'
                have HE := Lib.hid (show Step (cMany cHit) st (xs.map toHit) (.inl q) from many_good T2.out HM.out HB.out)
                have NX := Lib.hid (show ∃ y st, ReadL fs k l gx g (gx + 1) (i + 1) w4 wr y st from
                  ⟨{ y with phits := p, hits := xs }, .inl q, HST.out, HY.out, { (HYI.out.kept HK.out (fun k hk ho => by simp at hk; omega)) with hhits := (HO.out.rd 16 (by decide) (by have := HLN.out; omega)).mono (fun b hb _ => by omega) }, KW.out.trans HK.out (Grows.refl _ _), (show GI fs k l (i + 1) (Fld.set .hits y.toM (xs.map toHit)) (.inl q) from GI.next (f := .hits) HG.out HFI.out HE.out), ⟨fun hh => FR.out.1 (take_less hh), fun hh => (take_self HFI.out hh).elim⟩⟩)
                clear HE HM HB HO HLN HK HY HST T2 RL HX HYI HS KW HG
                go_wp2
                go_roundw
                case rel => exact ⟨i + 1, by go_num, by omega, NX.out⟩
                case measure => simp [intOf]; omega
            · have hbad : RBad wr g kk := HST.out
              obtain ⟨c1, hlt', e1, e2⟩ := hbad.cells
              have HE := Lib.hid (show Step (cMany cHit) st (xs.map toHit) (.inr kk) from many_bad T2.out HM.out HB.out)
              have NX := Lib.hid (show ∃ y st, ReadL fs k l gx g (gx + 1) (i + 1) w4 wr y st from
                ⟨{ y with phits := p, hits := xs }, .inr kk, HST.out, HY.out, { (HYI.out.kept HK.out (fun k hk ho => by simp at hk; omega)) with hhits := (HO.out.rd 16 (by decide) (by have := HLN.out; omega)).mono (fun b hb _ => by omega) }, KW.out.trans HK.out (Grows.refl _ _), (show GI fs k l (i + 1) (Fld.set .hits y.toM (xs.map toHit)) (.inr kk) from GI.next (f := .hits) HG.out HFI.out HE.out), ⟨fun hh => FR.out.1 (take_less hh), fun hh => (take_self HFI.out hh).elim⟩⟩)
              clear hbad HE HM HB HO HLN HK HY HST T2 RL HX HYI HS KW HG
              by_cases hjn : j < nn
              all_goals
                go_wp2
                go_roundw
                case rel => exact ⟨i + 1, by go_num, by omega, NX.out⟩
                case measure => simp [intOf]; omega
    · have hin' : i = m := by omega
      subst hin'
      have RD := Lib.hid (show readM k l = endM y.toM st from by
        have h1 := HG.out
        unfold readM
        rw [HFS.out]
        rcases st with r | e <;> simp only [GI, ← HN.out, List.take_length] at h1 <;> simp only [h1] <;> rfl)
      have NZ := Lib.hid (show ∀ e, st = .inr e → e ≠ 0 from fun e he => by
        have := HS.out
        rw [he] at this
        obtain ⟨_, _, h0⟩ := this
        exact h0)
      go_wp2_with (fail)
      refine (rend_st g st wr HS.out).mono ?_
      rintro e w5 ⟨hend, hk5⟩
      obtain ⟨er, her, herr⟩ : ∃ er : Nat, e = .returned (.int .i64 (er : Int)) ∧ ((er = 0 ∧ readM k l = .inl y.toM) ∨ (er ≠ 0 ∧ readM k l = .inr er)) := by
        have h1 := RD.out
        have h2 := NZ.out
        rcases st with r | e
        · refine ⟨_, hend, ?_⟩
          by_cases hr : r = []
          · rw [if_pos hr]
            exact .inl ⟨rfl, by rw [h1]; simp only [endM, if_pos hr]⟩
          · rw [if_neg hr]
            exact .inr ⟨by decide, by rw [h1]; simp only [endM, if_neg hr]⟩
        · exact ⟨e, hend, .inr ⟨h2 e rfl, h1⟩⟩
      subst her
      have HER := Lib.hid herr
      have X5 := Lib.hid (hk5.blk HX.out (by simp; omega))
      have Y5 := Lib.hid (HYI.out.kept hk5 (fun k hk ho => by simp at hk; omega))
      have K5 := Lib.hid (KW.out.trans (hk5.mono (G := [gx, g]) (by simp)) (Grows.refl _ _))
      have R5 := Lib.hid (K5.out.blk R4.out (by simp; omega))
      have B5 := Lib.hid (show Below w.heap.size w w5 from B4.out.trans (K5.out.below (by simp; omega) (by omega)))
      have hs5 := K5.out.size
      clear hend hk5 herr HX HYI HS KW RD NZ RL
      by_cases he0 : er = 0
      · subst he0
        have OK := Lib.hid (show readM k l = .inl y.toM from by
          rcases HER.out with ⟨_, h⟩ | ⟨h, _⟩
          · exact h
          · exact absurd rfl h)
        obtain ⟨F, hF⟩ : ∃ F, y.cells.toArray = F := ⟨_, rfl⟩
        have hld : w5.heap[gx]? = some (.cells y.cells.toArray 37 (0, 0)) := X5.out
        have hst := msg_store w5 w.heap.size _ y R5.out rfl
        obtain ⟨w9, hw9⟩ : ∃ w9, w5.setRow w.heap.size y.cells.toArray = w9 := ⟨_, rfl⟩
        rw [hw9] at hst
        have HB9 : w9.heap[w.heap.size]? = some (.cells y.cells.toArray 37 (0, 0)) := by
          rw [← hw9]
          exact setRow_blk R5.out _
        have B9 := Lib.hid (show Below w.heap.size w w9 from by
          rw [← hw9]
          exact below_kept2 B5.out (Nat.le_refl _) (Nat.le_refl _) (setRow_kept _ _ _))
        have Y9 := Lib.hid (show y.In (w.heap.size ≤ ·) w9 from by
          rw [← hw9]
          exact (Y5.out.kept (setRow_kept _ _ _) (fun k hk ho => by simp at hk; omega)).mono (fun k hk _ => by omega))
        rw [hF] at hld hst HB9
        have HBF := hld
        have hinfoF : (Tryz.prog.info? 37).map (·.size) = some F.size := by
          rw [← hF]
          kernel_rfl
        have hF28 : F.size = 28 := by
          rw [← hF]
          rfl
        have HFF := Lib.hid hF
        have lX := X5.out.lt
        clear hF hw9 X5 Y5 R5 B5 hld
        go_upto_region 70 with fail
        go_step
        refine wp_load_row w5 rfl 37 (.tmp 9) rfl gx 37 F _ (by rfl) HBF Tryz.underlying37 rfl hinfoF ?_
        go_wp2
        (try simp only [Exit.inBlock, Exit.then])
        refine bodyPost_ret (results_row_tmp (p := 4) (q := 5) (ty := 37) rfl _ w9 w.heap.size 37 F (0, 0) _ rfl HB9 Tryz.underlying37 rfl hinfoF (.int .i64 0) rfl) rfl ?_
        exact ⟨B9.out, y, 0, by rw [HFF.out]; rfl, Y9.out, .inl ⟨rfl, OK.out⟩⟩
      · have he0b : ((er : Int) != 0) = true := by simp; omega
        have BAD := Lib.hid (show readM k l = .inr er from by
          rcases HER.out with ⟨h, _⟩ | ⟨_, h⟩
          · exact absurd h he0
          · exact h)
        have hst := msg_store w5 w.heap.size _ (zeroL 0) R5.out rfl
        rw [HZ.out] at hst
        obtain ⟨w9, hw9⟩ : ∃ w9, w5.setRow w.heap.size Z = w9 := ⟨_, rfl⟩
        rw [hw9] at hst
        have HB9 : w9.heap[w.heap.size]? = some (.cells Z 37 (0, 0)) := by
          rw [← hw9, ← HZ.out]
          exact setRow_blk R5.out _
        have B9 := Lib.hid (show Below w.heap.size w w9 from by
          rw [← hw9]
          exact below_kept2 B5.out (Nat.le_refl _) (Nat.le_refl _) (setRow_kept _ _ _))
        clear hw9 X5 Y5 R5 B5
        go_wp2
        (try simp only [Exit.inBlock, Exit.then])
        refine bodyPost_ret (results_row_tmp (p := 4) (q := 5) (ty := 37) rfl _ w9 w.heap.size 37 Z (0, 0) _ rfl HB9 Tryz.underlying37 rfl hinfo (.int .i64 (er : Int)) rfl) rfl ?_
        exact ⟨B9.out, zeroL 0, er, by rw [HZ.out], zeroL_in _ _ 0 (by decide), .inr ⟨he0, BAD.out, rfl⟩⟩
end Go.Proofs.YtemnmjfeljipjaaGreat
