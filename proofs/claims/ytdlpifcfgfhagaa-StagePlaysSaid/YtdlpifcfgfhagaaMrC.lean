/-
  Of XMr what a seat holds that lacks some functions (made by tools/autopick.py).
-/
import Derived.Test.YtdlpifcfgfhagaaMvC
import Derived.Test.YtdlpifcfgfhagaaMk
import Derived.Test.YtdlpifcfgfhagaaSm
import Derived.BigGuard
import Derived.Deep.WholeRow
import Derived.BigCall
import Derived.Deep.DeepCutAuto
import Derived.BigGuardPart
namespace Go.Proofs.Ytdlpifcfgfhagaa
open Go.RowKit Go.ChangeShapes Go.WideShapes Go.ChangeAt
def zeroL (kind : Nat) : MsgL := { kind := kind, req := 0, caps := 0, token := 0, code := 0, n := 0, name := ⟨#[]⟩, cname := ⟨#[]⟩, dim := 0, metric := 0, graph := false, links := 0, cwidth := 0, pch := .nil, changes := [], id := 0, pvec := .nil, vec := [], k := 0, width := 0, pall := .nil, all := [], pany := .nil, any := [], pno := .nil, no := [], num := 0, page := 0, pbytes := .nil, bytes := [], version := 0, pnames := .nil, names := [], pitems := .nil, items := [], phits := .nil, hits := [] }
/-- One field taken over. -/
def Fld.setL : Fld → MsgL → MsgL → MsgL
  | .req, y, m => { y with req := m.req }
  | .caps, y, m => { y with caps := m.caps }
  | .token, y, m => { y with token := m.token }
  | .code, y, m => { y with code := m.code }
  | .n, y, m => { y with n := m.n }
  | .name, y, m => { y with name := m.name }
  | .conf, y, m => { y with cname := m.cname, dim := m.dim, metric := m.metric, graph := m.graph, links := m.links, cwidth := m.cwidth }
  | .changes, y, m => { y with pch := m.pch, changes := m.changes }
  | .id, y, m => { y with id := m.id }
  | .vec, y, m => { y with pvec := m.pvec, vec := m.vec }
  | .k, y, m => { y with k := m.k }
  | .width, y, m => { y with width := m.width }
  | .filter, y, m => { y with pall := m.pall, all := m.all, pany := m.pany, any := m.any, pno := m.pno, no := m.no }
  | .num, y, m => { y with num := m.num }
  | .page, y, m => { y with page := m.page }
  | .bytes, y, m => { y with pbytes := m.pbytes, bytes := m.bytes }
  | .version, y, m => { y with version := m.version }
  | .names, y, m => { y with pnames := m.pnames, names := m.names }
  | .items, y, m => { y with pitems := m.pitems, items := m.items }
  | .hits, y, m => { y with phits := m.phits, hits := m.hits }
theorem setL_toM (f : Fld) (y m : MsgL) : (f.setL y m).toM = f.set y.toM (f.get m.toM) := by cases f <;> rfl
theorem zeroL_toM (k : Nat) : (zeroL k).toM = zeroM k := rfl
theorem setL_in {ok : Nat → Prop} {w : World} (f : Fld) (y m : MsgL) (hy : y.In ok w) (hm : m.In ok w) : (f.setL y m).In ok w := by
  cases f <;> (constructor <;> first | exact hy.1 | exact hy.2 | exact hy.3 | exact hy.4 | exact hy.5 | exact hy.6 | exact hy.7 | exact hy.8 | exact hy.9 | exact hy.10 | exact hy.11 | exact hy.12 | exact hy.13 | exact hy.14 | exact hy.15 | exact hy.16 | exact hy.17 | exact hy.18 | exact hy.19 | exact hy.20 | exact hy.21 | exact hy.22 | exact hy.23 | exact hy.24 | exact hy.25 | exact hy.26 | exact hy.27 | exact hm.1 | exact hm.2 | exact hm.3 | exact hm.4 | exact hm.5 | exact hm.6 | exact hm.7 | exact hm.8 | exact hm.9 | exact hm.10 | exact hm.11 | exact hm.12 | exact hm.13 | exact hm.14 | exact hm.15 | exact hm.16 | exact hm.17 | exact hm.18 | exact hm.19 | exact hm.20 | exact hm.21 | exact hm.22 | exact hm.23 | exact hm.24 | exact hm.25 | exact hm.26 | exact hm.27)
/-- The fields of a list taken over, one behind the other. -/
def onlyL : List Fld → MsgL → MsgL → MsgL
  | [], y, _ => y
  | f :: fs, y, m => onlyL fs (f.setL y m) m
theorem onlyL_toM (fs : List Fld) (y m : MsgL) : (onlyL fs y m).toM = setF fs y.toM m.toM := by
  induction fs generalizing y with
  | nil => rfl
  | cons f fs ih => rw [onlyL, ih, setL_toM, setF]
theorem onlyL_snoc (fs : List Fld) (f : Fld) (y m : MsgL) : onlyL (fs ++ [f]) y m = f.setL (onlyL fs y m) m := by
  induction fs generalizing y with
  | nil => rfl
  | cons g fs ih => exact ih _
theorem onlyL_in {ok : Nat → Prop} {w : World} (fs : List Fld) (y m : MsgL) (hy : y.In ok w) (hm : m.In ok w) : (onlyL fs y m).In ok w := by
  induction fs generalizing y with
  | nil => exact hy
  | cons f fs ih => exact ih _ (setL_in f y m hy hm)
theorem nil_rd {ok : Nat → Prop} {w : World} {e : Sh} {sz : Nat} : Rd ok w (.slice e sz) [.slice none 0 0] ([] : List e.T) := Rd.slice_mk ⟨none, 0, 0, rfl, rfl, by omega, by omega, Nat.le_refl _, fun _ => ⟨rfl, rfl⟩, .inl rfl⟩
theorem zeroL_in (ok : Nat → Prop) (w : World) (k : Nat) (h : k ≤ 255) : (zeroL k).In ok w :=
  ⟨h, Nat.zero_le _, Nat.zero_le _, Nat.zero_le _, Nat.zero_le _, Nat.zero_le _, Nat.zero_le _, Nat.zero_le _, Nat.zero_le _, Nat.zero_le _, Nat.zero_le _, Nat.zero_le _, nil_rd, Nat.zero_le _, nil_rd, Nat.zero_le _, Nat.zero_le _, nil_rd, nil_rd, nil_rd, Nat.zero_le _, Nat.zero_le _, nil_rd, Nat.zero_le _, nil_rd, nil_rd, nil_rd⟩

theorem setRow_kept (w : World) (g : Nat) (cs : Array Value) : Kept [g] w (w.setRow g cs) :=
  ⟨rfl, rfl, rfl, by simp [World.setRow], fun k _ hk => setRow_other w g k cs (by simpa using hk)⟩
theorem setRow_blk {w : World} {g : Nat} {t : TypeId} {cs : List Value} (h : Blk w g t cs) (m : MsgL) : Blk (w.setRow g m.cells.toArray) g t m.cells := setRow_heap w g cs.toArray m.cells.toArray t (0, 0) h
theorem wp_load_row {P : Program} {ops : Array Oper} {rest : List Oper} {o : Oper} {act : Act} {Q : Exit → Act → World → Prop} (w : World) (hg : o.guard = none) (ty : TypeId) (x : Operand) (hop : o.op = .load ty x) (g : Nat) (t : TypeId) (cs : Array Value) (d : TypeDesc)
    (hx : act.eval x = .pointer (some ⟨g, 0, none⟩)) (hb : w.heap[g]? = some (.cells cs t (0, 0))) (hu : P.underlying ty = some d) (hd : (match d with | .struct _ | .array _ _ => true | _ => false) = true) (hi : (P.info? ty).map (·.size) = some cs.size)
    (K : wpList P ops Q rest (act.put o.dst (.agg cs)) w) : wpList P ops Q (o :: rest) act w := by
  refine wpList_plain hg fun K' hK => ?_
  have hl := run_loadVar_row (P := P) w g t ty cs (0, 0) d hb hu hd hi
  unfold Oper.wp execOp
  simp only [hop, hx, Instr.loadAt, Instr.sureAddr, Sem.run_bind, Sem.run_pure, Result.andThen_ok, hl]
  exact hK _ _ K
theorem below_kept2 {B g : Nat} {w w1 w2 : World} (h : Below B w w1) (hB : B ≤ w.heap.size) (hg : B ≤ g) (k : Kept [g] w1 w2) : Below B w w2 :=
  ⟨k.os.trans h.os, k.tape.trans h.tape, k.output.trans h.output, Nat.le_trans h.size k.size, fun i hi => (k.block i (Nat.lt_of_lt_of_le hi (Nat.le_trans hB h.size)) (by simp; omega)).trans (h.block i hi)⟩
theorem FormPost.all {k : Nat} {w w' : World} {e : Ending} (h : FormPost k w e w') : Below w.heap.size w w' ∧ ∃ (fs : List Fld) (z : Bool) (a : Option Addr) (c : Nat), (formM k).getD [] = fs ∧ e = .returned (.tuple #[.slice a fs.length c, .bool z]) ∧ SReads w' a fs.length c (fs.map Fld.s) ∧ fs.length ≤ 7 ∧
    (∀ b off, a = some ⟨b, off, none⟩ → w.heap.size ≤ b) ∧ (z = true → formM k = some fs) ∧ (z = false → formM k = none) := by
  obtain ⟨hb, ⟨fs, h1, a, c, h2, h3, h4, h5⟩ | ⟨h1, h2⟩⟩ := h
  · exact ⟨hb, fs, true, a, c, by rw [h1]; rfl, h2, h3, h4, h5, fun _ => h1, fun h => by cases h⟩
  · exact ⟨hb, [], false, none, 0, by rw [h1]; rfl, h2, SReads.nil w', by decide, fun _ _ h => by (cases h), (fun h => by cases h), fun _ => h1⟩
theorem fld_q (f g : Fld) : (f.s.toList == g.s.data.toList) = decide (f.no = g.no) := by
  rw [ByteArray.toList_eq]
  cases f <;> cases g <;> rfl
end Go.Proofs.Ytdlpifcfgfhagaa
