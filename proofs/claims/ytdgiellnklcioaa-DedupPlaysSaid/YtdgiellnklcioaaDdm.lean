/-
  A message in a block, stored and loaded (out of XMr).
-/
import Derived.Test.YtdgiellnklcioaaMk
import Derived.Test.YtdgiellnklcioaaSm
import Derived.BigGuard
import Derived.Deep.WholeRow
import Derived.BigCall
import Derived.Deep.DeepCutAuto
import Derived.BigGuardPart
namespace Go.Proofs.Ytdgiellnklcioaa
open Go.RowKit Go.ChangeShapes Go.WideShapes Go.ChangeAt
def zeroL (kind : Nat) : MsgL := { kind := kind, req := 0, caps := 0, token := 0, code := 0, n := 0, name := ⟨#[]⟩, cname := ⟨#[]⟩, dim := 0, metric := 0, graph := false, links := 0, cwidth := 0, pch := .nil, changes := [], id := 0, pvec := .nil, vec := [], k := 0, width := 0, pall := .nil, all := [], pany := .nil, any := [], pno := .nil, no := [], num := 0, page := 0, pbytes := .nil, bytes := [], version := 0, pnames := .nil, names := [], pitems := .nil, items := [], phits := .nil, hits := [] }
theorem zeroL_toM (k : Nat) : (zeroL k).toM = zeroM k := rfl
theorem nil_rd {ok : Nat → Prop} {w : World} {e : Sh} {sz : Nat} : Rd ok w (.slice e sz) [.slice none 0 0] ([] : List e.T) := Rd.slice_mk ⟨none, 0, 0, rfl, rfl, by omega, by omega, Nat.le_refl _, fun _ => ⟨rfl, rfl⟩, .inl rfl⟩
theorem zeroL_in (ok : Nat → Prop) (w : World) (k : Nat) (h : k ≤ 255) : (zeroL k).In ok w :=
  ⟨h, Nat.zero_le _, Nat.zero_le _, Nat.zero_le _, Nat.zero_le _, Nat.zero_le _, Nat.zero_le _, Nat.zero_le _, Nat.zero_le _, Nat.zero_le _, Nat.zero_le _, Nat.zero_le _, nil_rd, Nat.zero_le _, nil_rd, Nat.zero_le _, Nat.zero_le _, nil_rd, nil_rd, nil_rd, Nat.zero_le _, Nat.zero_le _, nil_rd, Nat.zero_le _, nil_rd, nil_rd, nil_rd⟩

/-- A message's cells into the block that was made last. -/
theorem msg_store_new (w : World) (c : Array Value) (m : MsgL) (h : c.size = 28) : (storeCells ⟨w.heap.size, 0, none⟩ m.cells.toArray.toList 0).run Try.prog (w.alloc (.cells c 45)) = .ok () (w.alloc (.cells m.cells.toArray 45)) :=
  run_storeCells_new w 45 c m.cells.toArray (by
    have : (Try.prog.info? 45).map (·.size) = some 28 := by kernel_rfl
    exact this) h (by simp [MsgL.cells, Value.oneCell'])
theorem msg_store (w : World) (g : Nat) (cs : List Value) (m : MsgL) (h : Blk w g 45 cs) (hl : cs.length = 28) : (storeCells ⟨g, 0, none⟩ m.cells.toArray.toList 0).run Try.prog w = .ok () (w.setRow g m.cells.toArray) := by
  have hi : (Try.prog.info? 45).map (·.size) = some m.cells.toArray.size := by
    have : (Try.prog.info? 45).map (·.size) = some 28 := by kernel_rfl
    exact this
  have := run_storeVar_row (P := Try.prog) w g 45 45 cs.toArray m.cells.toArray h hi (by simp [hl, MsgL.cells]) (by simp [MsgL.cells, Value.oneCell'])
  cases hq : Try.prog.info? 45 with
  | none => simp [hq] at hi
  | some i =>
    have hs : m.cells.toArray.size = i.size := by simp [hq] at hi; simp; omega
    simpa [storeVar, sizeOf, typeInfo, hq, Value.cells, hs] using this
theorem setRow_kept (w : World) (g : Nat) (cs : Array Value) : Kept [g] w (w.setRow g cs) :=
  ⟨rfl, rfl, rfl, by simp [World.setRow], fun k _ hk => setRow_other w g k cs (by simpa using hk)⟩
theorem setRow_blk {w : World} {g : Nat} {t : TypeId} {cs : List Value} (h : Blk w g t cs) (m : MsgL) : Blk (w.setRow g m.cells.toArray) g t m.cells := setRow_heap w g cs.toArray m.cells.toArray t (0, 0) h
theorem wp_load_row {P : Program} {ops : Array Oper} {rest : List Oper} {o : Oper} {act : Act} {Q : Exit → Act → World → Prop} (w : World) (hg : o.guard = none) (ty : TypeId) (x : Operand) (hop : o.op = .load ty x) (g : Nat) (t : TypeId) (cs : Array Value) (d : TypeDesc)
    (hx : act.eval x = .pointer (some ⟨g, 0, none⟩)) (hb : w.heap[g]? = some (.cells cs t (0, 0))) (hu : P.underlying ty = some d) (hd : (match d with | .struct _ | .array _ _ => true | _ => false) = true) (hi : (P.info? ty).map (·.size) = some cs.size)
    (K : wpList P ops Q rest (act.put o.dst (.agg cs)) w) : wpList P ops Q (o :: rest) act w := by
  refine wpList_plain hg fun K' hK => ?_
  have hl := run_loadVar_row (P := P) w g t ty cs (0, 0) d hb hu hd hi
  unfold Oper.wp execOp
  simp only [hop, hx, Instr.loadAt, Instr.sureAddr, Sem.run_bind, Sem.run_pure, Result.andThen_ok, hl]
  exact hK _ _ K
theorem msg_load (w : World) (g : Nat) (m : MsgL) (h : Blk w g 45 m.cells) : (loadCellsFrom ⟨g, 0, none⟩ 0 28 #[]).run Try.prog w = .ok m.cells.toArray w := by
  have := run_loadCells_list (P := Try.prog) w ⟨g, 0, none⟩ m.cells (fun j v hv => by
    rw [add_plain, Nat.zero_add, h.cell]
    exact hv)
  rw [show m.cells.length = 28 from rfl] at this
  simpa [loadCells] using this
theorem below_kept2 {B g : Nat} {w w1 w2 : World} (h : Below B w w1) (hB : B ≤ w.heap.size) (hg : B ≤ g) (k : Kept [g] w1 w2) : Below B w w2 :=
  ⟨k.os.trans h.os, k.tape.trans h.tape, k.output.trans h.output, Nat.le_trans h.size k.size, fun i hi => (k.block i (Nat.lt_of_lt_of_le hi (Nat.le_trans hB h.size)) (by simp; omega)).trans (h.block i hi)⟩
theorem msg_zero : (∀ w, (zeroValue 45).run Try.prog w = .ok (.agg (zeroL 0).cells.toArray) w) := by
  intro w
  kernel_rfl
end Go.Proofs.Ytdgiellnklcioaa
