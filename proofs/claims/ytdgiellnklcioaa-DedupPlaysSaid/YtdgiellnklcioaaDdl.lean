/-
  Layer 16: ops as arguments; rows of verdicts.
-/
import Derived.Test.YtdgiellnklcioaaDdi
namespace Go.Proofs.Ytdgiellnklcioaa
open Go.ChangeShapes Go.WideShapes Go.ChangeAt Go.RowKit Go.Maps

def opC (kind far : Nat) (m : MsgL) : List Value := .int .u8 (kind : Int) :: .int .u32 (far : Int) :: m.cells
def shOp16 : Sh := st [.int .u8, .int .u32, shMsg]
def shOps16 : Sh := .slice shOp16 328
set_option maxRecDepth 100000 in
theorem fit_ops16 : (shOps16.fit Try.prog).1 22 = true := by kernel_rfl
theorem Given.ops16 {H : Type} {enc : TypeId × Value → H} {W : World} {base : Nat} {ts : Array TypeId} {args : Array Value} {ds : List (DataW H)} {p : List MemPlace} (g : Given enc Try.prog W base ts args ds p) (j : Nat) (ht : ts[j]? = some 22) :
    ∃ (a : Option Addr) (n c : Nat) (xs : List shOp16.T), args[j]? = some (.slice a n c) ∧ n ≤ 140737488351232 ∧ Rd (· < W.heap.size) W shOps16 [.slice a n c] xs := by
  obtain ⟨v, x, e1, hx⟩ := g.sh1 j ht shOps16 fit_ops16 (.inl ⟨_, Try.underlying22⟩)
  obtain ⟨a, n, c, hcs, _, hn, h⟩ := Rd.slice_is (e := shOp16) hx
  simp only [List.cons.injEq, and_true] at hcs
  subst hcs
  exact ⟨a, n, c, x, e1, hn, h.mono fun _ _ hk => hk⟩
theorem rd_op16 {w : World} {a : Option Addr} {n c : Nat} {xs : List shOp16.T} (h : Rd (· < w.heap.size) w shOps16 [.slice a n c] xs) (i : Nat) (hi : i < n) :
    ∃ (b off kind far : Nat) (m : MsgL), a = some ⟨b, off, none⟩ ∧ b < w.heap.size ∧ kind ≤ 255 ∧ far ≤ 4294967295 ∧ m.In (· < w.heap.size) w ∧ w.rangeAt b (off + i * 30) (opC kind far m) := by
  obtain ⟨b, off, x, vs, ha, hok, hlt, hx, hl, hc, hr⟩ := Rd.elem (e := shOp16) h i hi
  obtain ⟨c1, c2, rfl, h1, h2⟩ := Rd.pair_is hr
  obtain ⟨c3, c4, rfl, h3, h4⟩ := Rd.pair_is h2
  obtain ⟨c5, c6, rfl, h5, h6⟩ := Rd.pair_is h4
  obtain rfl := Rd.unit_is h6
  obtain ⟨kind, _, rfl, hk⟩ := num_u8 h1
  obtain ⟨far, _, rfl, hf⟩ := num_u32 h3
  obtain ⟨m, rfl, hm⟩ := rd_msg h5
  refine ⟨b, off, kind, far, m, ha, hlt, hk, hf, hm, fun j v hj => ?_⟩
  have e : ([Value.int .u8 (kind : Int)] ++ ([Value.int .u32 (far : Int)] ++ (m.cells ++ []))) = opC kind far m := by simp [opC]
  rw [e] at hc hl
  have hj30 : j < 30 := by
    have := (List.getElem?_eq_some_iff.1 hj).1
    rw [hl] at this
    exact this
  exact (hc j hj30).trans hj
theorem range_on {w w' : World} {b o : Nat} {cs : List Value} (h : w.rangeAt b o cs) (hlt : b < w.heap.size) (hb : Below w.heap.size w w') : w'.rangeAt b o cs := fun j v hj => (hb.cell (p := ⟨b, _, none⟩) hlt).trans (h j v hj)
theorem range_below {w0 w w' : World} {b o : Nat} {cs : List Value} (h : w.rangeAt b o cs) (hlt : b < w0.heap.size) (hb : Below w0.heap.size w w') : w'.rangeAt b o cs := fun j v hj => (hb.cell (p := ⟨b, _, none⟩) hlt).trans (h j v hj)
theorem op_size16 : (Try.prog.info? 47).map (·.size) = some 30 := by kernel_rfl
def zeroO : List Value := opC 0 0 (zeroL 0)
theorem op_zero16 : (∀ w, (zeroValue 47).run Try.prog w = .ok (.agg zeroO.toArray) w) := by
  intro w
  kernel_rfl
theorem op_store16 (w : World) (c : Array Value) (kind far : Nat) (m : MsgL) (h : c.size = 30) : (storeCells ⟨w.heap.size, 0, none⟩ (opC kind far m).toArray.toList 0).run Try.prog (w.alloc (.cells c 47)) = .ok () (w.alloc (.cells (opC kind far m).toArray 47)) :=
  run_storeCells_new w 47 c (opC kind far m).toArray op_size16 h (by simp [opC, MsgL.cells, Value.oneCell'])
theorem ver_info : (Try.prog.info? 49).map (fun i => (i.zero, i.size, i.bytes)) = some (some (.int .u8 0), 1, 1) := by kernel_rfl
/-- append(v, x), x one byte that the text has laid as a row of one: what stays. -/
theorem app_byteK {P : Program} {ops : Array Oper} {rest : List Oper} {o : Oper} {act : Act} {Q : Exit → Act → World → Prop} (w : World) (hg : o.guard = none) (s x : Operand) (st e : TypeId)
    (hop : o.op = .call { callee := .builtin .append, args := #[s, x], argTypes := #[st, st] }) (hu : P.underlying st = some (.slice e)) (hi : (P.info? e).map (fun i => (i.zero, i.size, i.bytes)) = some (some (.int .u8 0), 1, 1))
    (B : Nat) (v : Value) (zs : List Nat) (p : Nat) (hp : p < 256) (hs : act.eval s = v)
    (hx : act.eval x = .slice (some ⟨w.heap.size, 0, none⟩) 1 1) (hown : OwnV w B e v zs) (hB : B ≤ w.heap.size) (hl : zs.length ≤ 2000000)
    (K : ∀ v' w', OwnV w' B e v' (zs ++ [p]) → Kept (ownB v) w w' → Grows w (ownB v) (ownB v') → wpList P ops Q rest (act.put o.dst v') w') :
    wpList P ops Q (o :: rest) act (w.alloc (.cells #[.int .u8 (p : Int)] e)) := by
  obtain ⟨i0, hi, hz0, hz1, hz2⟩ := info_parts hi
  refine wpList_append_own_at _ hg s x st hop B e i0 (.int .u8 0) 1 1 hu hi hz0 hz1 hz2 rfl (by decide) v zs.length (zs.map byteV) hs (World.ownsRow.alloc hown.1 _) ⟨w.heap.size, 0, none⟩ 1 1 [byteV p] hx rfl (cell_one_new _ _ _) (by simp [byteV, Value.oneCell']) (by unfold maxLen; omega) (by omega) (by simp; omega) ?_
  intro v' w' ho hgr _ hloc
  refine K v' w' ⟨by rw [List.length_append, List.map_append]; exact ho, fun b hb => ?_⟩ (((Kept.refl _ _).alloc _).grown hgr (fun k hk => .inl (mem_ownB.2 hk))) (fun k hk => ?_)
  · rcases List.mem_append.1 hb with hb | hb
    · exact hown.2 b hb
    · rw [List.mem_singleton.1 hb]
      exact hp
  · rcases hloc with h | h
    · exact .inl (mem_ownB.2 (by rw [← h]; exact mem_ownB.1 hk))
    · have := mem_ownB.1 hk
      rw [h] at this
      simp at this
      exact .inr (by omega)
end Go.Proofs.Ytdgiellnklcioaa
