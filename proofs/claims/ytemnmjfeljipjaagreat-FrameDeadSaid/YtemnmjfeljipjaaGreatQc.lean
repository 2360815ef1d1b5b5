/-
  The program's test whether all fields of a message are zero, and the fields of each kind, by walks over their texts.
-/
import Derived.Test.YtemnmjfeljipjaaGreatSl
import Derived.BigFrame
import Derived.Test.YtemnmjfeljipjaaGreatQa
import Derived.Test.YtemnmjfeljipjaaGreatMq
import Derived.BigGuardPart
import Derived.BigCall
import Derived.Deep.DeepMust
import Derived.Deep.DeepCutAuto
import Derived.Laws.StructEq
import Derived.Handy
import Derived.Test.YtemnmjfeljipjaaGreatMo
import Derived.Test.YtemnmjfeljipjaaGreatVs
import Derived.Test.YtemnmjfeljipjaaGreatProg
import Derived.Tactics2
import Derived.BigGuard
namespace Go.Proofs.YtemnmjfeljipjaaGreat
open Go.RowKit Go.ChangeShapes Go.WideShapes Go.ChangeAt

def sigO (o : Oper) : Op × Option Tmp × Option (Nat × Bool) := (o.op, o.dst, o.guard)
/-- The operations of a function's second region, where its body is two regions and a return. -/
def regOps (f : Func) : List Oper := match f.body with
  | some (.seq _ (.seq (.region _ ops _) _)) => ops.toList
  | _ => []
section
variable {P : Program} {E : List Oper} {Q : Exit → Act → World → Prop} {a : Act} {w : World}
/-- From operation k on. -/
def WK (P : Program) (E : List Oper) (Q : Exit → Act → World → Prop) (k : Nat) (a : Act) (w : World) : Prop := wpList P E.toArray Q (E.drop k) a w
theorem WK.at {k : Nat} {x : Op × Option Tmp × Option (Nat × Bool)} (h : (E[k]?).map sigO = some x) : ∃ o, E.drop k = o :: E.drop (k + 1) ∧ o.op = x.1 ∧ o.dst = x.2.1 ∧ o.guard = x.2.2 := by
  obtain ⟨o, ho, rfl⟩ := Option.map_eq_some_iff.1 h
  have hk := (List.getElem?_eq_some_iff.1 ho).1
  refine ⟨o, ?_, rfl, rfl, rfl⟩
  rw [List.drop_eq_getElem_cons hk]
  have := (List.getElem?_eq_some_iff.1 ho).2
  rw [this]
theorem WK.go {k d : Nat} {op : Op} {gd : Option (Nat × Bool)} (h : (E[k]?).map sigO = some (op, some d, gd)) (v : Value) (w' : World) (hg : ∀ j b, gd = some (j, b) → yielded E.toArray a.tmps j = some b)
    (hx : ∀ o : Oper, o.op = op → (execOp a.eval o).run P w = .ok (.value v) w') (K : WK P E Q (k + 1) (a.put (some d) v) w') : WK P E Q k a w := by
  obtain ⟨o, h1, h2, h3, h4⟩ := WK.at h
  unfold WK
  rw [h1]
  refine BigFrame.wpList_want ?_ fun K' hK => ?_
  · unfold Region.wanted
    rw [h4]
    cases hgd : gd with
    | none => rfl
    | some x =>
      obtain ⟨j, b⟩ := x
      simp only
      rw [hg j b hgd]
      simp
  · unfold Oper.wp
    rw [hx o h2, Oper.upon_value]
    simp only at h3
    rw [h3]
    exact hK _ _ K
theorem WK.skip {k d j : Nat} {op : Op} {b b' : Bool} (h : (E[k]?).map sigO = some (op, some d, some (j, b))) (hy : yielded E.toArray a.tmps j = some b') (hb : b' ≠ b) (K : WK P E Q (k + 1) (a.put (some d) undef) w) : WK P E Q k a w := by
  obtain ⟨o, h1, h2, h3, h4⟩ := WK.at h
  unfold WK
  rw [h1]
  refine wpList_skip ?_ ?_
  · unfold Region.wanted
    rw [h4]
    simp only
    rw [hy]
    simpa using hb
  · simp only at h3
    rw [h3]
    exact K
theorem WK.done {k : Nat} (h : E.length ≤ k) (K : Q .normal a w) : WK P E Q k a w := by
  unfold WK
  rw [List.drop_of_length_le h]
  exact K

theorem put_size (a : Act) (d : Nat) (v : Value) : (a.put (some d) v).tmps.size = a.tmps.size := by simp [Act.put]
theorem put_same (a : Act) (d : Nat) (v : Value) (h : d < a.tmps.size) : (a.put (some d) v).tmps[d]? = some v := by simp [Act.put, h]
theorem put_ne (a : Act) (d k : Nat) (v : Value) (h : d ≠ k) : (a.put (some d) v).tmps[k]? = a.tmps[k]? := by simp [Act.put, h]
theorem put_defers (a : Act) (d : Nat) (v : Value) : (a.put (some d) v).defers = a.defers := rfl
theorem eval_of {a : Act} {k : Nat} {v : Value} (h : a.tmps[k]? = some v) : a.eval (.tmp k) = v := by
  simp [Act.eval, Array.getD_eq_getD_getElem?, h]
theorem yielded_of {E : List Oper} {a : Act} {j s : Nat} {b : Bool} (hd : (E[j]?).bind (·.dst) = some s) (h : a.tmps[s]? = some (.bool b)) : yielded E.toArray a.tmps j = some b := by
  unfold yielded
  rw [List.getElem?_toArray, hd]
  simp [h]

theorem exec_move {ρ : Operand → Value} {o : Oper} {x : Operand} (h : o.op = .move x) {v : Value} (hv : ρ x = v) : (execOp ρ o).run P w = .ok (.value v) w := by
  unfold execOp
  rw [h]
  simp only [hv]
  rfl
theorem exec_nil {ρ : Operand → Value} {o : Oper} {x : Operand} (h : o.op = .nilCheck x) {p : Addr} (hv : ρ x = .pointer (some p)) : (execOp ρ o).run P w = .ok (.value (.pointer (some p))) w := by
  unfold execOp
  rw [h]
  simp only [hv]
  rfl
theorem exec_of {o : Oper} {ρ : Operand → Value} {v : Value} {c : Sem Value} (he : execOp ρ o = (do pure (.value (← c)))) (hc : c.run P w = .ok v w) : (execOp ρ o).run P w = .ok (.value v) w := by
  rw [he]
  simp [hc]
theorem exec_fa {ρ : Operand → Value} {o : Oper} {x : Operand} {t : TypeId} {f : Nat} (h : o.op = .fieldAddr t x f) {p v : Value} (hx : ρ x = p) (hc : (Instr.fieldAt t p f).run P w = .ok v w) : (execOp ρ o).run P w = .ok (.value v) w :=
  exec_of (by unfold execOp; rw [h]; simp only [hx]) hc
theorem exec_load {ρ : Operand → Value} {o : Oper} {x : Operand} {t : TypeId} (h : o.op = .load t x) {p v : Value} (hx : ρ x = p) (hc : (Instr.loadAt t p).run P w = .ok v w) : (execOp ρ o).run P w = .ok (.value v) w :=
  exec_of (by unfold execOp; rw [h]; simp only [hx]) hc
theorem exec_bin {ρ : Operand → Value} {o : Oper} {x y : Operand} {op : BinOp} {t t' : TypeId} (h : o.op = .binOp op t x y t') {p r v : Value} (hx : ρ x = p) (hy : ρ y = r) (hc : (do eqGuard op t x y p r; binOp op t p r : Sem Value).run P w = .ok v w) : (execOp ρ o).run P w = .ok (.value v) w :=
  exec_of (by unfold execOp; rw [h]; simp only [hx, hy]) hc
theorem exec_build {ρ : Operand → Value} {o : Oper} {t : TypeId} (h : o.op = .build t #[]) {v : Value} (hc : (Instr.build t #[]).run P w = .ok v w) : (execOp ρ o).run P w = .ok (.value v) w :=
  exec_of (by unfold execOp; rw [h]; simp) hc
theorem exec_len {ρ : Operand → Value} {o : Oper} {x : Operand} {t : TypeId} (h : o.op = .call { callee := .builtin .len, args := #[x], argTypes := #[t] }) {v r : Value} (hx : ρ x = v) (hc : ∀ ty, (Builtin.len_ #[t] ty #[v]).run P w = .ok r w) : (execOp ρ o).run P w = .ok (.value r) w := by
  unfold execOp
  rw [h]
  simp [resolve, invoke, builtin, hx, hc]

/-- A chain has come to slot s: what it holds; the pointer in slot 0. -/
structure At (n s : Nat) (p : Value) (b : Bool) (a : Act) : Prop where
  size : a.tmps.size = n
  defers : a.defers = []
  p : a.tmps[0]? = some p
  b : a.tmps[s]? = some (.bool b)

/-- Slots below d stand. -/
structure Up (d : Nat) (a a' : Act) : Prop where
  size : a'.tmps.size = a.tmps.size
  defers : a'.defers = a.defers
  low : ∀ k, k < d → a'.tmps[k]? = a.tmps[k]?
theorem Up.refl (d : Nat) (a : Act) : Up d a a := ⟨rfl, rfl, fun _ _ => rfl⟩
theorem Up.put {d k : Nat} {a a' : Act} (h : Up d a a') (hk : d ≤ k) (v : Value) : Up d a (a'.put (some k) v) := ⟨by rw [put_size]; exact h.size, h.defers, fun j hj => by rw [put_ne _ _ _ _ (by omega)]; exact h.low j hj⟩
/-- Guarded operations that are all passed over. -/
theorem WK.skips {k m j s d : Nat} {b' : Bool} (hd : (E[j]?).bind (·.dst) = some s) (hs : s < d)
    (hall : ∀ i, i < m → ∃ op e, (E[k + i]?).map sigO = some (op, some e, some (j, true)) ∧ d ≤ e) (hb : a.tmps[s]? = some (.bool b')) (hf : b' = false)
    (K : ∀ a', Up d a a' → WK P E Q (k + m) a' w) : WK P E Q k a w := by
  subst hf
  induction m generalizing k a with
  | zero => exact K a (Up.refl d a)
  | succ m ih =>
    obtain ⟨op, e, h1, h2⟩ := hall 0 (by omega)
    refine WK.skip (b' := false) h1 (yielded_of hd hb) (by decide) ?_
    refine ih (fun i hi => ?_) (fun a' hu => ?_) ?_
    · have := hall (i + 1) (by omega)
      rwa [show k + 1 + i = k + (i + 1) by omega]
    · rw [show k + 1 + m = k + (m + 1) by omega]
      refine K a' ⟨by rw [hu.size, put_size], hu.defers, fun i hi => ?_⟩
      rw [hu.low i hi, put_ne _ _ _ _ (by omega)]
    · rw [put_ne _ _ _ _ (by omega)]
      exact hb
/-- One more 'and': the guarded operations give q in slot e if what there was is true; then it is picked, and moved. -/
theorem WK.and {n k m j s d e f : Nat} {mv : Op} {p : Value} {b q : Bool} (hd : (E[j]?).bind (·.dst) = some s) (hs : s < d) (h0 : 0 < d) (hen : e + 1 < n) (hf : f < n) (hf0 : f ≠ 0) (hmv : mv = .move (.tmp (e + 1)) ∨ mv = .assign (.tmp (e + 1)))
    (hall : ∀ i, i < m → ∃ op x, (E[k + i]?).map sigO = some (op, some x, some (j, true)) ∧ d ≤ x)
    (hp : (E[k + m]?).map sigO = some (.pick (.tmp s) (.tmp e) (.const (.bool false)), some (e + 1), none))
    (hm : (E[k + m + 1]?).map sigO = some (mv, some f, none))
    (ha : At n s p b a) (R : World → Prop) (hR : R w)
    (run : b = true → (∀ a' w', R w' → Up d a a' → a'.tmps[e]? = some (.bool q) → WK P E Q (k + m) a' w') → WK P E Q k a w)
    (K : ∀ a' w', At n f p (b && q) a' → R w' → WK P E Q (k + m + 2) a' w') : WK P E Q k a w := by
  have fin : ∀ a' w', R w' → Up d a a' → (b = true → a'.tmps[e]? = some (.bool q)) → WK P E Q (k + m) a' w' := by
    intro a' w' hr hu hq
    have hs' : a'.tmps[s]? = some (.bool b) := by rw [hu.low s hs]; exact ha.b
    have hsz : a'.tmps.size = n := by rw [hu.size]; exact ha.size
    refine WK.go hp (.bool (b && q)) w' (fun _ _ h => by cases h) (fun o ho => ?_) ?_
    · unfold execOp
      rw [ho]
      simp only [eval_of hs']
      cases b
      · simp [go_sem, Act.eval]
      · have := hq rfl
        simp [go_sem, Act.eval, this]
    · refine WK.go hm (.bool (b && q)) w' (fun _ _ h => by cases h) (fun o ho => ?_) ?_
      · have hev := eval_of (put_same a' (e + 1) (.bool (b && q)) (by omega))
        unfold execOp
        rw [ho]
        rcases hmv with rfl | rfl
        · simp only [hev]
          rfl
        · simp only [hev]
          rfl
      · refine K _ w' ⟨by rw [put_size, put_size]; exact hsz, ?_, ?_, put_same _ _ _ (by rw [put_size]; omega)⟩ hr
        · exact hu.defers.trans ha.defers
        · rw [put_ne _ _ _ _ (by omega), put_ne _ _ _ _ (by omega), hu.low 0 h0]
          exact ha.p
  cases b
  · exact WK.skips hd hs hall ha.b rfl fun a' hu => fin a' w hR hu (fun h => nomatch h)
  · exact run rfl fun a' w' hr hu hq => fin a' w' hr hu (fun _ => hq)
end

theorem run_eql_conf2 (a0 b0 : ByteArray) (a1 b1 a2 b2 a4 b4 a5 b5 : Int) (a3 b3 : Bool) (w : World) (z : Bool) (hz : ((a0.toList == b0.toList) && ((a1 == b1) && ((a2 == b2) && ((a3 == b3) && ((a4 == b4) && (a5 == b5)))))) = z) :
    (binOp .eql 27 (.agg #[.string a0, .int .u8 a1, .int .u8 a2, .bool a3, .int .u8 a4, .int .u16 a5]) (.agg #[.string b0, .int .u8 b1, .int .u8 b2, .bool b3, .int .u8 b4, .int .u16 b5])).run Tryz.prog w = .ok (.bool z) w := by
  subst hz
  simp [go_sem]
  by_cases h0 : a0.toList = b0.toList
  · by_cases h1 : a1 = b1
    · by_cases h2 : a2 = b2
      · by_cases h3 : a3 = b3
        · by_cases h4 : a4 = b4
          · by_cases h5 : a5 = b5 <;> simp [h0, h1, h2, h3, h4, h5]
          · simp [h0, h1, h2, h3, h4]
        · simp [h0, h1, h2, h3]
      · simp [h0, h1, h2]
    · simp [h0, h1]
  · simp [h0]
theorem str_nil (x : ByteArray) : (x.toList == []) = decide (x.size = 0) := by
  rw [ByteArray.toList_eq]
  by_cases h : x.size = 0
  · have : x.data.toList = [] := List.eq_nil_of_length_eq_zero (by simpa using h)
    simp [h, this]
  · have : x.data.toList ≠ [] := fun e => h (by
      have := congrArg List.length e
      simpa using this)
    simp [h]
    exact fun e => this (by rw [e])
theorem strB_nil (x : ByteArray) : strB x = [] ↔ x.size = 0 := by
  rw [← List.length_eq_zero_iff, strB_len]

/-- All fields but the kind are zero. -/
def Zs (m : MsgL) : Prop := m.req = 0 ∧ m.caps = 0 ∧ m.token = 0 ∧ m.code = 0 ∧ m.n = 0 ∧ m.name.size = 0 ∧ (m.cname.size = 0 ∧ m.dim = 0 ∧ m.metric = 0 ∧ m.graph = false ∧ m.links = 0 ∧ m.cwidth = 0) ∧ m.pch.n = 0 ∧ m.id = 0 ∧ m.pvec.n = 0 ∧ m.k = 0 ∧ m.width = 0 ∧ (m.pall.n = 0 ∧ m.pany.n = 0 ∧ m.pno.n = 0) ∧ m.num = 0 ∧ m.page = 0 ∧ m.pbytes.n = 0 ∧ m.version = 0 ∧ m.pnames.n = 0 ∧ m.pitems.n = 0 ∧ m.phits.n = 0
theorem sl_nil {ok : Nat → Prop} {w : World} {e : Sh} {sz : Nat} {s : SlL} {xs : List e.T} (h : Rd ok w (.slice e sz) [.slice s.a s.n s.c] xs) : xs = [] ↔ s.n = 0 := by
  obtain ⟨_, _, _, hcs, hl, _, _⟩ := Rd.slice_is h
  simp only [List.cons.injEq, Value.slice.injEq, and_true] at hcs
  obtain ⟨_, h1, _⟩ := hcs
  rw [h1, ← hl.out, List.length_eq_zero_iff]
theorem zs_iff {ok : Nat → Prop} {w : World} {m : MsgL} (h : m.In ok w) : m.toM = zeroM m.kind ↔ Zs m := by
  have h1 := sl_nil (e := shChange) h.hchanges
  have h2 := sl_nil (e := .int .i32) h.hvec
  have h3 := sl_nil (e := .str) h.hall
  have h4 := sl_nil (e := .str) h.hany
  have h5 := sl_nil (e := .str) h.hno
  have h6 := sl_nil (e := .int .u8) h.hbytes
  have h7 := sl_nil (e := .str) h.hnames
  have h8 := sl_nil (e := shItem) h.hitems
  have h9 := sl_nil (e := shHit) h.hhits
  simp only [MsgL.toM, zeroM, MsgV.mk.injEq, ConfV.mk.injEq, FilterV.mk.injEq, strB_nil, toTags, List.map_eq_nil_iff, true_and, Zs]
  rw [← h1, ← h2, ← h3, ← h4, ← h5, ← h6, ← h7, ← h8, ← h9]
  exact Iff.rfl

theorem emptyFilter_any (pa pb pc : SlL) (z : Bool) (hz : decide (pa.n = 0 ∧ pb.n = 0 ∧ pc.n = 0) = z) (w : World) :
    Calls Tryz.prog 93 #[.agg #[.slice pa.a pa.n pa.c, .slice pb.a pb.n pb.c, .slice pc.a pc.n pc.c]] w fun e w' => e = .returned (.bool z) ∧ Below w.heap.size w w' := by
  have HB := Lib.hid (show Below w.heap.size w (w.alloc (.cells #[.slice pa.a pa.n pa.c, .slice pb.a pb.n pb.c, .slice pc.a pc.n pc.c] 32)) from (Below.refl _ _).alloc (Nat.le_refl _) _)
  have HZ := Lib.hid hz
  clear hz
  by_cases h1 : pa.n = 0
  rotate_left
  · have q1 : ((pa.n : Int) == 0) = false := by simp; omega
    have hz2 : z = false := by rw [← HZ.out]; simp [h1]
    replace h1 := Lib.hid h1
    subst hz2
    go_enter Tryz.func93, Tryz.ntmps93
    go_wp2
    go_ret
    exact ⟨rfl, HB.out⟩
  have q1 : ((pa.n : Int) == 0) = true := by simp; omega
  by_cases h2 : pb.n = 0
  rotate_left
  · have q2 : ((pb.n : Int) == 0) = false := by simp; omega
    have hz2 : z = false := by rw [← HZ.out]; simp [h2]
    replace h1 := Lib.hid h1
    replace h2 := Lib.hid h2
    subst hz2
    go_enter Tryz.func93, Tryz.ntmps93
    go_wp2
    go_ret
    exact ⟨rfl, HB.out⟩
  have q2 : ((pb.n : Int) == 0) = true := by simp; omega
  by_cases h3 : pc.n = 0
  rotate_left
  · have q3 : ((pc.n : Int) == 0) = false := by simp; omega
    have hz2 : z = false := by rw [← HZ.out]; simp [h3]
    replace h1 := Lib.hid h1
    replace h2 := Lib.hid h2
    replace h3 := Lib.hid h3
    subst hz2
    go_enter Tryz.func93, Tryz.ntmps93
    go_wp2
    go_ret
    exact ⟨rfl, HB.out⟩
  have q3 : ((pc.n : Int) == 0) = true := by simp; omega
  have hz2 : z = true := by rw [← HZ.out]; simp [h1, h2, h3]
  replace h1 := Lib.hid h1
  replace h2 := Lib.hid h2
  replace h3 := Lib.hid h3
  subst hz2
  go_enter Tryz.func93, Tryz.ntmps93
  go_wp2
  go_ret
  exact ⟨rfl, HB.out⟩

theorem part_num {Q : Exit → Act → World → Prop} {E : List Oper} {n k j s gx fi off : Nat} {ty : TypeId} {b q : Bool} {z v : Value} {w : World} {a : Act} (hj : (E[j]?).bind (·.dst) = some s)
    (h1 : (E[k]?).map sigO = some (.move (.tmp 0), some (s + 1), some (j, true))) (h2 : (E[k + 1]?).map sigO = some (.nilCheck (.tmp (s + 1)), some (s + 2), some (j, true))) (h3 : (E[k + 2]?).map sigO = some (.fieldAddr 37 (.tmp (s + 2)) fi, some (s + 3), some (j, true))) (h4 : (E[k + 3]?).map sigO = some (.load ty (.tmp (s + 3)), some (s + 4), some (j, true))) (h5 : (E[k + 4]?).map sigO = some (.binOp .eql ty (.tmp (s + 4)) (.const z) ty, some (s + 5), some (j, true)))
    (hp : (E[k + 5]?).map sigO = some (.pick (.tmp s) (.tmp (s + 5)) (.const (.bool false)), some (s + 6), none)) (hm : (E[k + 5 + 1]?).map sigO = some (.move (.tmp (s + 6)), some (s + 7), none))
    (hfa : ∀ w, (Instr.fieldAt 37 (.pointer (some ⟨gx, 0, none⟩)) fi).run Tryz.prog w = .ok (.pointer (some ⟨gx, off, none⟩)) w)
    (hld : (Instr.loadAt ty (.pointer (some ⟨gx, off, none⟩))).run Tryz.prog w = .ok v w) (hbq : ∀ w, (do eqGuard .eql ty (.tmp (s + 4)) (.const z) v z; binOp .eql ty v z : Sem Value).run Tryz.prog w = .ok (.bool q) w)
    (ha : At n s (.pointer (some ⟨gx, 0, none⟩)) b a) (K : ∀ a' w', At n (s + 7) (.pointer (some ⟨gx, 0, none⟩)) (b && q) a' → w' = w → WK Tryz.prog E Q (k + 7) a' w') (hs : s + 9 < n := by decide) : WK Tryz.prog E Q k a w := by
  have g1 : ∀ x : Act, Up (s + 1) a x → b = true → ∀ j' b', some (j, true) = some (j', b') → yielded E.toArray x.tmps j' = some b' := by
    intro x hu hb j' b' e
    cases e
    refine yielded_of hj ?_
    rw [hu.low s (by omega), ha.b, hb]
  have u0 := Up.refl (s + 1) a
  have z0 := ha.size
  refine WK.and (m := 5) (d := s + 1) (e := s + 5) hj (by omega) (by omega) (by omega) (by omega) (by omega) (.inl rfl) (fun i hi => ?_) hp hm ha ((· = w)) (rfl) (fun hb fin => ?_) K
  · have hi2 : i = 0 ∨ i = 1 ∨ i = 2 ∨ i = 3 ∨ i = 4 := by omega
    rcases hi2 with rfl | rfl | rfl | rfl | rfl
    · exact ⟨_, _, h1, by omega⟩
    · exact ⟨_, _, h2, by omega⟩
    · exact ⟨_, _, h3, by omega⟩
    · exact ⟨_, _, h4, by omega⟩
    · exact ⟨_, _, h5, by omega⟩
  refine WK.go h1 (.pointer (some ⟨gx, 0, none⟩)) w (g1 _ u0 hb) (fun o ho => exec_move ho (eval_of ha.p)) ?_
  obtain ⟨a1, ha1⟩ : ∃ x, a.put (some (s + 1)) (.pointer (some ⟨gx, 0, none⟩)) = x := ⟨_, rfl⟩
  rw [ha1]
  have u1 : Up (s + 1) a a1 := by rw [← ha1]; exact u0.put (by omega) _
  have z1 : a1.tmps.size = n := by rw [u1.size]; exact ha.size
  have p1 : a1.tmps[s + 1]? = some (.pointer (some ⟨gx, 0, none⟩)) := by rw [← ha1]; exact put_same _ _ _ (by omega)
  have e1 := eval_of p1
  refine WK.go h2 (.pointer (some ⟨gx, 0, none⟩)) w (g1 _ u1 hb) (fun o ho => exec_nil ho e1) ?_
  obtain ⟨a2, ha2⟩ : ∃ x, a1.put (some (s + 2)) (.pointer (some ⟨gx, 0, none⟩)) = x := ⟨_, rfl⟩
  rw [ha2]
  have u2 : Up (s + 1) a a2 := by rw [← ha2]; exact u1.put (by omega) _
  have z2 : a2.tmps.size = n := by rw [u2.size]; exact ha.size
  have p2 : a2.tmps[s + 2]? = some (.pointer (some ⟨gx, 0, none⟩)) := by rw [← ha2]; exact put_same _ _ _ (by omega)
  have e2 := eval_of p2
  refine WK.go h3 (.pointer (some ⟨gx, off, none⟩)) w (g1 _ u2 hb) (fun o ho => exec_fa ho e2 (hfa w)) ?_
  obtain ⟨a3, ha3⟩ : ∃ x, a2.put (some (s + 3)) (.pointer (some ⟨gx, off, none⟩)) = x := ⟨_, rfl⟩
  rw [ha3]
  have u3 : Up (s + 1) a a3 := by rw [← ha3]; exact u2.put (by omega) _
  have z3 : a3.tmps.size = n := by rw [u3.size]; exact ha.size
  have p3 : a3.tmps[s + 3]? = some (.pointer (some ⟨gx, off, none⟩)) := by rw [← ha3]; exact put_same _ _ _ (by omega)
  have e3 := eval_of p3
  refine WK.go h4 v w (g1 _ u3 hb) (fun o ho => exec_load ho e3 hld) ?_
  obtain ⟨a4, ha4⟩ : ∃ x, a3.put (some (s + 4)) v = x := ⟨_, rfl⟩
  rw [ha4]
  have u4 : Up (s + 1) a a4 := by rw [← ha4]; exact u3.put (by omega) _
  have z4 : a4.tmps.size = n := by rw [u4.size]; exact ha.size
  have p4 : a4.tmps[s + 4]? = some v := by rw [← ha4]; exact put_same _ _ _ (by omega)
  have e4 := eval_of p4
  refine WK.go h5 (.bool q) w (g1 _ u4 hb) (fun o ho => exec_bin ho e4 rfl (hbq w)) ?_
  obtain ⟨a5, ha5⟩ : ∃ x, a4.put (some (s + 5)) (.bool q) = x := ⟨_, rfl⟩
  rw [ha5]
  have u5 : Up (s + 1) a a5 := by rw [← ha5]; exact u4.put (by omega) _
  have z5 : a5.tmps.size = n := by rw [u5.size]; exact ha.size
  have p5 : a5.tmps[s + 5]? = some (.bool q) := by rw [← ha5]; exact put_same _ _ _ (by omega)
  have e5 := eval_of p5
  exact fin _ w rfl u5 p5

theorem part_len {Q : Exit → Act → World → Prop} {E : List Oper} {n k j s gx fi off : Nat} {ty : TypeId} {b q : Bool} {z v : Value} {w : World} {a : Act} (hj : (E[j]?).bind (·.dst) = some s)
    (h1 : (E[k]?).map sigO = some (.move (.tmp 0), some (s + 1), some (j, true))) (h2 : (E[k + 1]?).map sigO = some (.nilCheck (.tmp (s + 1)), some (s + 2), some (j, true))) (h3 : (E[k + 2]?).map sigO = some (.fieldAddr 37 (.tmp (s + 2)) fi, some (s + 3), some (j, true))) (h4 : (E[k + 3]?).map sigO = some (.load ty (.tmp (s + 3)), some (s + 4), some (j, true))) (h5 : (E[k + 4]?).map sigO = some (.call { callee := .builtin .len, args := #[.tmp (s + 4)], argTypes := #[ty] }, some (s + 5), some (j, true))) (h6 : (E[k + 5]?).map sigO = some (.binOp .eql 3 (.tmp (s + 5)) (.const (.int .i64 0)) 3, some (s + 6), some (j, true)))
    (hp : (E[k + 6]?).map sigO = some (.pick (.tmp s) (.tmp (s + 6)) (.const (.bool false)), some (s + 7), none)) (hm : (E[k + 6 + 1]?).map sigO = some (.move (.tmp (s + 7)), some (s + 8), none))
    (hfa : ∀ w, (Instr.fieldAt 37 (.pointer (some ⟨gx, 0, none⟩)) fi).run Tryz.prog w = .ok (.pointer (some ⟨gx, off, none⟩)) w)
    (hld : (Instr.loadAt ty (.pointer (some ⟨gx, off, none⟩))).run Tryz.prog w = .ok v w) (hln : ∀ w t, (Builtin.len_ #[ty] t #[v]).run Tryz.prog w = .ok z w) (hbq : ∀ w, (do eqGuard .eql 3 (.tmp (s + 5)) (.const (.int .i64 0)) z (.int .i64 0); binOp .eql 3 z (.int .i64 0) : Sem Value).run Tryz.prog w = .ok (.bool q) w)
    (ha : At n s (.pointer (some ⟨gx, 0, none⟩)) b a) (K : ∀ a' w', At n (s + 8) (.pointer (some ⟨gx, 0, none⟩)) (b && q) a' → w' = w → WK Tryz.prog E Q (k + 8) a' w') (hs : s + 10 < n := by decide) : WK Tryz.prog E Q k a w := by
  have g1 : ∀ x : Act, Up (s + 1) a x → b = true → ∀ j' b', some (j, true) = some (j', b') → yielded E.toArray x.tmps j' = some b' := by
    intro x hu hb j' b' e
    cases e
    refine yielded_of hj ?_
    rw [hu.low s (by omega), ha.b, hb]
  have u0 := Up.refl (s + 1) a
  have z0 := ha.size
  refine WK.and (m := 6) (d := s + 1) (e := s + 6) hj (by omega) (by omega) (by omega) (by omega) (by omega) (.inl rfl) (fun i hi => ?_) hp hm ha ((· = w)) (rfl) (fun hb fin => ?_) K
  · have hi2 : i = 0 ∨ i = 1 ∨ i = 2 ∨ i = 3 ∨ i = 4 ∨ i = 5 := by omega
    rcases hi2 with rfl | rfl | rfl | rfl | rfl | rfl
    · exact ⟨_, _, h1, by omega⟩
    · exact ⟨_, _, h2, by omega⟩
    · exact ⟨_, _, h3, by omega⟩
    · exact ⟨_, _, h4, by omega⟩
    · exact ⟨_, _, h5, by omega⟩
    · exact ⟨_, _, h6, by omega⟩
  refine WK.go h1 (.pointer (some ⟨gx, 0, none⟩)) w (g1 _ u0 hb) (fun o ho => exec_move ho (eval_of ha.p)) ?_
  obtain ⟨a1, ha1⟩ : ∃ x, a.put (some (s + 1)) (.pointer (some ⟨gx, 0, none⟩)) = x := ⟨_, rfl⟩
  rw [ha1]
  have u1 : Up (s + 1) a a1 := by rw [← ha1]; exact u0.put (by omega) _
  have z1 : a1.tmps.size = n := by rw [u1.size]; exact ha.size
  have p1 : a1.tmps[s + 1]? = some (.pointer (some ⟨gx, 0, none⟩)) := by rw [← ha1]; exact put_same _ _ _ (by omega)
  have e1 := eval_of p1
  refine WK.go h2 (.pointer (some ⟨gx, 0, none⟩)) w (g1 _ u1 hb) (fun o ho => exec_nil ho e1) ?_
  obtain ⟨a2, ha2⟩ : ∃ x, a1.put (some (s + 2)) (.pointer (some ⟨gx, 0, none⟩)) = x := ⟨_, rfl⟩
  rw [ha2]
  have u2 : Up (s + 1) a a2 := by rw [← ha2]; exact u1.put (by omega) _
  have z2 : a2.tmps.size = n := by rw [u2.size]; exact ha.size
  have p2 : a2.tmps[s + 2]? = some (.pointer (some ⟨gx, 0, none⟩)) := by rw [← ha2]; exact put_same _ _ _ (by omega)
  have e2 := eval_of p2
  refine WK.go h3 (.pointer (some ⟨gx, off, none⟩)) w (g1 _ u2 hb) (fun o ho => exec_fa ho e2 (hfa w)) ?_
  obtain ⟨a3, ha3⟩ : ∃ x, a2.put (some (s + 3)) (.pointer (some ⟨gx, off, none⟩)) = x := ⟨_, rfl⟩
  rw [ha3]
  have u3 : Up (s + 1) a a3 := by rw [← ha3]; exact u2.put (by omega) _
  have z3 : a3.tmps.size = n := by rw [u3.size]; exact ha.size
  have p3 : a3.tmps[s + 3]? = some (.pointer (some ⟨gx, off, none⟩)) := by rw [← ha3]; exact put_same _ _ _ (by omega)
  have e3 := eval_of p3
  refine WK.go h4 v w (g1 _ u3 hb) (fun o ho => exec_load ho e3 hld) ?_
  obtain ⟨a4, ha4⟩ : ∃ x, a3.put (some (s + 4)) v = x := ⟨_, rfl⟩
  rw [ha4]
  have u4 : Up (s + 1) a a4 := by rw [← ha4]; exact u3.put (by omega) _
  have z4 : a4.tmps.size = n := by rw [u4.size]; exact ha.size
  have p4 : a4.tmps[s + 4]? = some v := by rw [← ha4]; exact put_same _ _ _ (by omega)
  have e4 := eval_of p4
  refine WK.go h5 z w (g1 _ u4 hb) (fun o ho => exec_len ho e4 (hln w)) ?_
  obtain ⟨a5, ha5⟩ : ∃ x, a4.put (some (s + 5)) z = x := ⟨_, rfl⟩
  rw [ha5]
  have u5 : Up (s + 1) a a5 := by rw [← ha5]; exact u4.put (by omega) _
  have z5 : a5.tmps.size = n := by rw [u5.size]; exact ha.size
  have p5 : a5.tmps[s + 5]? = some z := by rw [← ha5]; exact put_same _ _ _ (by omega)
  have e5 := eval_of p5
  refine WK.go h6 (.bool q) w (g1 _ u5 hb) (fun o ho => exec_bin ho e5 rfl (hbq w)) ?_
  obtain ⟨a6, ha6⟩ : ∃ x, a5.put (some (s + 6)) (.bool q) = x := ⟨_, rfl⟩
  rw [ha6]
  have u6 : Up (s + 1) a a6 := by rw [← ha6]; exact u5.put (by omega) _
  have z6 : a6.tmps.size = n := by rw [u6.size]; exact ha.size
  have p6 : a6.tmps[s + 6]? = some (.bool q) := by rw [← ha6]; exact put_same _ _ _ (by omega)
  have e6 := eval_of p6
  exact fin _ w rfl u6 p6

theorem part_lenz {Q : Exit → Act → World → Prop} {E : List Oper} {n k j s gx fi off : Nat} {ty : TypeId} {b q : Bool} {z v : Value} {w : World} {a : Act} (hj : (E[j]?).bind (·.dst) = some s)
    (h1 : (E[k]?).map sigO = some (.move (.tmp 0), some (s + 1), some (j, true))) (h2 : (E[k + 1]?).map sigO = some (.nilCheck (.tmp (s + 1)), some (s + 2), some (j, true))) (h3 : (E[k + 2]?).map sigO = some (.fieldAddr 37 (.tmp (s + 2)) fi, some (s + 3), some (j, true))) (h4 : (E[k + 3]?).map sigO = some (.load ty (.tmp (s + 3)), some (s + 4), some (j, true))) (h5 : (E[k + 4]?).map sigO = some (.call { callee := .builtin .len, args := #[.tmp (s + 4)], argTypes := #[ty] }, some (s + 5), some (j, true))) (h6 : (E[k + 5]?).map sigO = some (.binOp .eql 3 (.tmp (s + 5)) (.const (.int .i64 0)) 3, some (s + 6), some (j, true)))
    (hp : (E[k + 6]?).map sigO = some (.pick (.tmp s) (.tmp (s + 6)) (.const (.bool false)), some (s + 7), none)) (hm : (E[k + 6 + 1]?).map sigO = some (.assign (.tmp (s + 7)), some 2, none))
    (hfa : ∀ w, (Instr.fieldAt 37 (.pointer (some ⟨gx, 0, none⟩)) fi).run Tryz.prog w = .ok (.pointer (some ⟨gx, off, none⟩)) w)
    (hld : (Instr.loadAt ty (.pointer (some ⟨gx, off, none⟩))).run Tryz.prog w = .ok v w) (hln : ∀ w t, (Builtin.len_ #[ty] t #[v]).run Tryz.prog w = .ok z w) (hbq : ∀ w, (do eqGuard .eql 3 (.tmp (s + 5)) (.const (.int .i64 0)) z (.int .i64 0); binOp .eql 3 z (.int .i64 0) : Sem Value).run Tryz.prog w = .ok (.bool q) w)
    (ha : At n s (.pointer (some ⟨gx, 0, none⟩)) b a) (K : ∀ a' w', At n 2 (.pointer (some ⟨gx, 0, none⟩)) (b && q) a' → w' = w → WK Tryz.prog E Q (k + 8) a' w') (hs : s + 7 < n := by decide) (hn : 2 < n := by decide) : WK Tryz.prog E Q k a w := by
  have g1 : ∀ x : Act, Up (s + 1) a x → b = true → ∀ j' b', some (j, true) = some (j', b') → yielded E.toArray x.tmps j' = some b' := by
    intro x hu hb j' b' e
    cases e
    refine yielded_of hj ?_
    rw [hu.low s (by omega), ha.b, hb]
  have u0 := Up.refl (s + 1) a
  have z0 := ha.size
  refine WK.and (m := 6) (d := s + 1) (e := s + 6) hj (by omega) (by omega) (by omega) (by omega) (by omega) (.inr rfl) (fun i hi => ?_) hp hm ha ((· = w)) (rfl) (fun hb fin => ?_) K
  · have hi2 : i = 0 ∨ i = 1 ∨ i = 2 ∨ i = 3 ∨ i = 4 ∨ i = 5 := by omega
    rcases hi2 with rfl | rfl | rfl | rfl | rfl | rfl
    · exact ⟨_, _, h1, by omega⟩
    · exact ⟨_, _, h2, by omega⟩
    · exact ⟨_, _, h3, by omega⟩
    · exact ⟨_, _, h4, by omega⟩
    · exact ⟨_, _, h5, by omega⟩
    · exact ⟨_, _, h6, by omega⟩
  refine WK.go h1 (.pointer (some ⟨gx, 0, none⟩)) w (g1 _ u0 hb) (fun o ho => exec_move ho (eval_of ha.p)) ?_
  obtain ⟨a1, ha1⟩ : ∃ x, a.put (some (s + 1)) (.pointer (some ⟨gx, 0, none⟩)) = x := ⟨_, rfl⟩
  rw [ha1]
  have u1 : Up (s + 1) a a1 := by rw [← ha1]; exact u0.put (by omega) _
  have z1 : a1.tmps.size = n := by rw [u1.size]; exact ha.size
  have p1 : a1.tmps[s + 1]? = some (.pointer (some ⟨gx, 0, none⟩)) := by rw [← ha1]; exact put_same _ _ _ (by omega)
  have e1 := eval_of p1
  refine WK.go h2 (.pointer (some ⟨gx, 0, none⟩)) w (g1 _ u1 hb) (fun o ho => exec_nil ho e1) ?_
  obtain ⟨a2, ha2⟩ : ∃ x, a1.put (some (s + 2)) (.pointer (some ⟨gx, 0, none⟩)) = x := ⟨_, rfl⟩
  rw [ha2]
  have u2 : Up (s + 1) a a2 := by rw [← ha2]; exact u1.put (by omega) _
  have z2 : a2.tmps.size = n := by rw [u2.size]; exact ha.size
  have p2 : a2.tmps[s + 2]? = some (.pointer (some ⟨gx, 0, none⟩)) := by rw [← ha2]; exact put_same _ _ _ (by omega)
  have e2 := eval_of p2
  refine WK.go h3 (.pointer (some ⟨gx, off, none⟩)) w (g1 _ u2 hb) (fun o ho => exec_fa ho e2 (hfa w)) ?_
  obtain ⟨a3, ha3⟩ : ∃ x, a2.put (some (s + 3)) (.pointer (some ⟨gx, off, none⟩)) = x := ⟨_, rfl⟩
  rw [ha3]
  have u3 : Up (s + 1) a a3 := by rw [← ha3]; exact u2.put (by omega) _
  have z3 : a3.tmps.size = n := by rw [u3.size]; exact ha.size
  have p3 : a3.tmps[s + 3]? = some (.pointer (some ⟨gx, off, none⟩)) := by rw [← ha3]; exact put_same _ _ _ (by omega)
  have e3 := eval_of p3
  refine WK.go h4 v w (g1 _ u3 hb) (fun o ho => exec_load ho e3 hld) ?_
  obtain ⟨a4, ha4⟩ : ∃ x, a3.put (some (s + 4)) v = x := ⟨_, rfl⟩
  rw [ha4]
  have u4 : Up (s + 1) a a4 := by rw [← ha4]; exact u3.put (by omega) _
  have z4 : a4.tmps.size = n := by rw [u4.size]; exact ha.size
  have p4 : a4.tmps[s + 4]? = some v := by rw [← ha4]; exact put_same _ _ _ (by omega)
  have e4 := eval_of p4
  refine WK.go h5 z w (g1 _ u4 hb) (fun o ho => exec_len ho e4 (hln w)) ?_
  obtain ⟨a5, ha5⟩ : ∃ x, a4.put (some (s + 5)) z = x := ⟨_, rfl⟩
  rw [ha5]
  have u5 : Up (s + 1) a a5 := by rw [← ha5]; exact u4.put (by omega) _
  have z5 : a5.tmps.size = n := by rw [u5.size]; exact ha.size
  have p5 : a5.tmps[s + 5]? = some z := by rw [← ha5]; exact put_same _ _ _ (by omega)
  have e5 := eval_of p5
  refine WK.go h6 (.bool q) w (g1 _ u5 hb) (fun o ho => exec_bin ho e5 rfl (hbq w)) ?_
  obtain ⟨a6, ha6⟩ : ∃ x, a5.put (some (s + 6)) (.bool q) = x := ⟨_, rfl⟩
  rw [ha6]
  have u6 : Up (s + 1) a a6 := by rw [← ha6]; exact u5.put (by omega) _
  have z6 : a6.tmps.size = n := by rw [u6.size]; exact ha.size
  have p6 : a6.tmps[s + 6]? = some (.bool q) := by rw [← ha6]; exact put_same _ _ _ (by omega)
  have e6 := eval_of p6
  exact fin _ w rfl u6 p6

theorem part_conf {Q : Exit → Act → World → Prop} {E : List Oper} {n k j s gx fi off : Nat} {ty : TypeId} {b q : Bool} {z v : Value} {w : World} {a : Act} (hj : (E[j]?).bind (·.dst) = some s)
    (h1 : (E[k]?).map sigO = some (.move (.tmp 0), some (s + 1), some (j, true))) (h2 : (E[k + 1]?).map sigO = some (.nilCheck (.tmp (s + 1)), some (s + 2), some (j, true))) (h3 : (E[k + 2]?).map sigO = some (.fieldAddr 37 (.tmp (s + 2)) fi, some (s + 3), some (j, true))) (h4 : (E[k + 3]?).map sigO = some (.load ty (.tmp (s + 3)), some (s + 4), some (j, true))) (h5 : (E[k + 4]?).map sigO = some (.build ty #[], some (s + 5), some (j, true))) (h6 : (E[k + 5]?).map sigO = some (.binOp .eql ty (.tmp (s + 4)) (.tmp (s + 5)) ty, some (s + 6), some (j, true)))
    (hp : (E[k + 6]?).map sigO = some (.pick (.tmp s) (.tmp (s + 6)) (.const (.bool false)), some (s + 7), none)) (hm : (E[k + 6 + 1]?).map sigO = some (.move (.tmp (s + 7)), some (s + 8), none))
    (hfa : ∀ w, (Instr.fieldAt 37 (.pointer (some ⟨gx, 0, none⟩)) fi).run Tryz.prog w = .ok (.pointer (some ⟨gx, off, none⟩)) w)
    (hld : (Instr.loadAt ty (.pointer (some ⟨gx, off, none⟩))).run Tryz.prog w = .ok v w) (hbd : ∀ w, (Instr.build ty #[]).run Tryz.prog w = .ok z w) (hbq : ∀ w, (do eqGuard .eql ty (.tmp (s + 4)) (.tmp (s + 5)) v z; binOp .eql ty v z : Sem Value).run Tryz.prog w = .ok (.bool q) w)
    (ha : At n s (.pointer (some ⟨gx, 0, none⟩)) b a) (K : ∀ a' w', At n (s + 8) (.pointer (some ⟨gx, 0, none⟩)) (b && q) a' → w' = w → WK Tryz.prog E Q (k + 8) a' w') (hs : s + 10 < n := by decide) : WK Tryz.prog E Q k a w := by
  have g1 : ∀ x : Act, Up (s + 1) a x → b = true → ∀ j' b', some (j, true) = some (j', b') → yielded E.toArray x.tmps j' = some b' := by
    intro x hu hb j' b' e
    cases e
    refine yielded_of hj ?_
    rw [hu.low s (by omega), ha.b, hb]
  have u0 := Up.refl (s + 1) a
  have z0 := ha.size
  refine WK.and (m := 6) (d := s + 1) (e := s + 6) hj (by omega) (by omega) (by omega) (by omega) (by omega) (.inl rfl) (fun i hi => ?_) hp hm ha ((· = w)) (rfl) (fun hb fin => ?_) K
  · have hi2 : i = 0 ∨ i = 1 ∨ i = 2 ∨ i = 3 ∨ i = 4 ∨ i = 5 := by omega
    rcases hi2 with rfl | rfl | rfl | rfl | rfl | rfl
    · exact ⟨_, _, h1, by omega⟩
    · exact ⟨_, _, h2, by omega⟩
    · exact ⟨_, _, h3, by omega⟩
    · exact ⟨_, _, h4, by omega⟩
    · exact ⟨_, _, h5, by omega⟩
    · exact ⟨_, _, h6, by omega⟩
  refine WK.go h1 (.pointer (some ⟨gx, 0, none⟩)) w (g1 _ u0 hb) (fun o ho => exec_move ho (eval_of ha.p)) ?_
  obtain ⟨a1, ha1⟩ : ∃ x, a.put (some (s + 1)) (.pointer (some ⟨gx, 0, none⟩)) = x := ⟨_, rfl⟩
  rw [ha1]
  have u1 : Up (s + 1) a a1 := by rw [← ha1]; exact u0.put (by omega) _
  have z1 : a1.tmps.size = n := by rw [u1.size]; exact ha.size
  have p1 : a1.tmps[s + 1]? = some (.pointer (some ⟨gx, 0, none⟩)) := by rw [← ha1]; exact put_same _ _ _ (by omega)
  have e1 := eval_of p1
  refine WK.go h2 (.pointer (some ⟨gx, 0, none⟩)) w (g1 _ u1 hb) (fun o ho => exec_nil ho e1) ?_
  obtain ⟨a2, ha2⟩ : ∃ x, a1.put (some (s + 2)) (.pointer (some ⟨gx, 0, none⟩)) = x := ⟨_, rfl⟩
  rw [ha2]
  have u2 : Up (s + 1) a a2 := by rw [← ha2]; exact u1.put (by omega) _
  have z2 : a2.tmps.size = n := by rw [u2.size]; exact ha.size
  have p2 : a2.tmps[s + 2]? = some (.pointer (some ⟨gx, 0, none⟩)) := by rw [← ha2]; exact put_same _ _ _ (by omega)
  have e2 := eval_of p2
  refine WK.go h3 (.pointer (some ⟨gx, off, none⟩)) w (g1 _ u2 hb) (fun o ho => exec_fa ho e2 (hfa w)) ?_
  obtain ⟨a3, ha3⟩ : ∃ x, a2.put (some (s + 3)) (.pointer (some ⟨gx, off, none⟩)) = x := ⟨_, rfl⟩
  rw [ha3]
  have u3 : Up (s + 1) a a3 := by rw [← ha3]; exact u2.put (by omega) _
  have z3 : a3.tmps.size = n := by rw [u3.size]; exact ha.size
  have p3 : a3.tmps[s + 3]? = some (.pointer (some ⟨gx, off, none⟩)) := by rw [← ha3]; exact put_same _ _ _ (by omega)
  have e3 := eval_of p3
  refine WK.go h4 v w (g1 _ u3 hb) (fun o ho => exec_load ho e3 hld) ?_
  obtain ⟨a4, ha4⟩ : ∃ x, a3.put (some (s + 4)) v = x := ⟨_, rfl⟩
  rw [ha4]
  have u4 : Up (s + 1) a a4 := by rw [← ha4]; exact u3.put (by omega) _
  have z4 : a4.tmps.size = n := by rw [u4.size]; exact ha.size
  have p4 : a4.tmps[s + 4]? = some v := by rw [← ha4]; exact put_same _ _ _ (by omega)
  have e4 := eval_of p4
  refine WK.go h5 z w (g1 _ u4 hb) (fun o ho => exec_build ho (hbd w)) ?_
  obtain ⟨a5, ha5⟩ : ∃ x, a4.put (some (s + 5)) z = x := ⟨_, rfl⟩
  rw [ha5]
  have u5 : Up (s + 1) a a5 := by rw [← ha5]; exact u4.put (by omega) _
  have z5 : a5.tmps.size = n := by rw [u5.size]; exact ha.size
  have p5 : a5.tmps[s + 5]? = some z := by rw [← ha5]; exact put_same _ _ _ (by omega)
  have e5 := eval_of p5
  have e4' : a5.eval (.tmp (s + 4)) = v := eval_of (by rw [← ha5, put_ne _ _ _ _ (by omega)]; exact p4)
  refine WK.go h6 (.bool q) w (g1 _ u5 hb) (fun o ho => exec_bin ho e4' e5 (hbq w)) ?_
  obtain ⟨a6, ha6⟩ : ∃ x, a5.put (some (s + 6)) (.bool q) = x := ⟨_, rfl⟩
  rw [ha6]
  have u6 : Up (s + 1) a a6 := by rw [← ha6]; exact u5.put (by omega) _
  have z6 : a6.tmps.size = n := by rw [u6.size]; exact ha.size
  have p6 : a6.tmps[s + 6]? = some (.bool q) := by rw [← ha6]; exact put_same _ _ _ (by omega)
  have e6 := eval_of p6
  exact fin _ w rfl u6 p6

theorem part_call {Q : Exit → Act → World → Prop} {E : List Oper} {n k j s gx fi off : Nat} {ty : TypeId} {b q : Bool} {v : Value} {w : World} {a : Act} (hj : (E[j]?).bind (·.dst) = some s)
    (h1 : (E[k]?).map sigO = some (.move (.tmp 0), some (s + 1), some (j, true))) (h2 : (E[k + 1]?).map sigO = some (.nilCheck (.tmp (s + 1)), some (s + 2), some (j, true))) (h3 : (E[k + 2]?).map sigO = some (.fieldAddr 37 (.tmp (s + 2)) fi, some (s + 3), some (j, true))) (h4 : (E[k + 3]?).map sigO = some (.load ty (.tmp (s + 3)), some (s + 4), some (j, true))) (h5 : (E[k + 4]?).map sigO = some (.call { callee := .value (.func 93), args := #[.tmp (s + 4)], argTypes := #[ty] }, some (s + 5), some (j, true)))
    (hp : (E[k + 5]?).map sigO = some (.pick (.tmp s) (.tmp (s + 5)) (.const (.bool false)), some (s + 6), none)) (hm : (E[k + 5 + 1]?).map sigO = some (.move (.tmp (s + 6)), some (s + 7), none))
    (hfa : ∀ w, (Instr.fieldAt 37 (.pointer (some ⟨gx, 0, none⟩)) fi).run Tryz.prog w = .ok (.pointer (some ⟨gx, off, none⟩)) w)
    (hld : (Instr.loadAt ty (.pointer (some ⟨gx, off, none⟩))).run Tryz.prog w = .ok v w) (hc : Calls Tryz.prog 93 #[v] w fun e w' => e = .returned (.bool q) ∧ Below w.heap.size w w')
    (ha : At n s (.pointer (some ⟨gx, 0, none⟩)) b a) (K : ∀ a' w', At n (s + 7) (.pointer (some ⟨gx, 0, none⟩)) (b && q) a' → Below w.heap.size w w' → WK Tryz.prog E Q (k + 7) a' w') (hs : s + 9 < n := by decide) : WK Tryz.prog E Q k a w := by
  have g1 : ∀ x : Act, Up (s + 1) a x → b = true → ∀ j' b', some (j, true) = some (j', b') → yielded E.toArray x.tmps j' = some b' := by
    intro x hu hb j' b' e
    cases e
    refine yielded_of hj ?_
    rw [hu.low s (by omega), ha.b, hb]
  have u0 := Up.refl (s + 1) a
  have z0 := ha.size
  refine WK.and (m := 5) (d := s + 1) (e := s + 5) hj (by omega) (by omega) (by omega) (by omega) (by omega) (.inl rfl) (fun i hi => ?_) hp hm ha (fun x => Below w.heap.size w x) (Below.refl _ _) (fun hb fin => ?_) K
  · have hi2 : i = 0 ∨ i = 1 ∨ i = 2 ∨ i = 3 ∨ i = 4 := by omega
    rcases hi2 with rfl | rfl | rfl | rfl | rfl
    · exact ⟨_, _, h1, by omega⟩
    · exact ⟨_, _, h2, by omega⟩
    · exact ⟨_, _, h3, by omega⟩
    · exact ⟨_, _, h4, by omega⟩
    · exact ⟨_, _, h5, by omega⟩
  refine WK.go h1 (.pointer (some ⟨gx, 0, none⟩)) w (g1 _ u0 hb) (fun o ho => exec_move ho (eval_of ha.p)) ?_
  obtain ⟨a1, ha1⟩ : ∃ x, a.put (some (s + 1)) (.pointer (some ⟨gx, 0, none⟩)) = x := ⟨_, rfl⟩
  rw [ha1]
  have u1 : Up (s + 1) a a1 := by rw [← ha1]; exact u0.put (by omega) _
  have z1 : a1.tmps.size = n := by rw [u1.size]; exact ha.size
  have p1 : a1.tmps[s + 1]? = some (.pointer (some ⟨gx, 0, none⟩)) := by rw [← ha1]; exact put_same _ _ _ (by omega)
  have e1 := eval_of p1
  refine WK.go h2 (.pointer (some ⟨gx, 0, none⟩)) w (g1 _ u1 hb) (fun o ho => exec_nil ho e1) ?_
  obtain ⟨a2, ha2⟩ : ∃ x, a1.put (some (s + 2)) (.pointer (some ⟨gx, 0, none⟩)) = x := ⟨_, rfl⟩
  rw [ha2]
  have u2 : Up (s + 1) a a2 := by rw [← ha2]; exact u1.put (by omega) _
  have z2 : a2.tmps.size = n := by rw [u2.size]; exact ha.size
  have p2 : a2.tmps[s + 2]? = some (.pointer (some ⟨gx, 0, none⟩)) := by rw [← ha2]; exact put_same _ _ _ (by omega)
  have e2 := eval_of p2
  refine WK.go h3 (.pointer (some ⟨gx, off, none⟩)) w (g1 _ u2 hb) (fun o ho => exec_fa ho e2 (hfa w)) ?_
  obtain ⟨a3, ha3⟩ : ∃ x, a2.put (some (s + 3)) (.pointer (some ⟨gx, off, none⟩)) = x := ⟨_, rfl⟩
  rw [ha3]
  have u3 : Up (s + 1) a a3 := by rw [← ha3]; exact u2.put (by omega) _
  have z3 : a3.tmps.size = n := by rw [u3.size]; exact ha.size
  have p3 : a3.tmps[s + 3]? = some (.pointer (some ⟨gx, off, none⟩)) := by rw [← ha3]; exact put_same _ _ _ (by omega)
  have e3 := eval_of p3
  refine WK.go h4 v w (g1 _ u3 hb) (fun o ho => exec_load ho e3 hld) ?_
  obtain ⟨a4, ha4⟩ : ∃ x, a3.put (some (s + 4)) v = x := ⟨_, rfl⟩
  rw [ha4]
  have u4 : Up (s + 1) a a4 := by rw [← ha4]; exact u3.put (by omega) _
  have z4 : a4.tmps.size = n := by rw [u4.size]; exact ha.size
  have p4 : a4.tmps[s + 4]? = some v := by rw [← ha4]; exact put_same _ _ _ (by omega)
  have e4 := eval_of p4
  obtain ⟨o, o1, o2, o3, o4⟩ := WK.at h5
  unfold WK
  rw [o1]
  refine BigFrame.wpList_want ?_ fun K' hK => ?_
  · unfold Region.wanted
    rw [o4]
    simp only
    rw [g1 _ u4 hb j true rfl]
    rfl
  · have hx : (execOp a4.eval o).run Tryz.prog w = .ok (.enter 93 #[v]) w := by
      unfold execOp
      rw [o2]
      simp [resolve, invoke, Deferred.ofValue, Act.eval, p4]
    unfold Oper.wp
    rw [hx, Oper.upon_enter]
    refine hc.mono ?_
    rintro e w2 ⟨rfl, hb2⟩
    simp only at o3
    rw [o3]
    refine hK _ _ ?_
    exact fin _ w2 hb2 (u4.put (by omega) _) (put_same _ _ _ (by omega))


set_option maxRecDepth 100000 in
set_option maxHeartbeats 12800000 in
theorem empty_any {ok : Nat → Prop} (m : MsgL) (gx : Nat) (w : World) (hx : Blk w gx 37 m.cells) (hm : m.In ok w) :
    Calls Tryz.prog 38 #[.pointer (some ⟨gx, 0, none⟩)] w fun e w' => (∃ z : Bool, e = .returned (.bool z) ∧ Hid (z = true ↔ m.toM = zeroM m.kind)) ∧ Below w.heap.size w w' := by
  have HX0 := hx
  have HZ := Lib.hid (zs_iff hm)
  have BB0 := Below.refl w.heap.size w
  clear hx hm
  obtain ⟨zreq, qreq⟩ : ∃ z, ((m.req : Int) == 0) = z := ⟨_, rfl⟩
  have yreq := Lib.hid (show m.req = 0 ↔ zreq = true from by rw [← qreq]; simp)
  obtain ⟨zcaps, qcaps⟩ : ∃ z, ((m.caps : Int) == 0) = z := ⟨_, rfl⟩
  have ycaps := Lib.hid (show m.caps = 0 ↔ zcaps = true from by rw [← qcaps]; simp)
  obtain ⟨ztoken, qtoken⟩ : ∃ z, ((m.token : Int) == 0) = z := ⟨_, rfl⟩
  have ytoken := Lib.hid (show m.token = 0 ↔ ztoken = true from by rw [← qtoken]; simp)
  obtain ⟨zcode, qcode⟩ : ∃ z, ((m.code : Int) == 0) = z := ⟨_, rfl⟩
  have ycode := Lib.hid (show m.code = 0 ↔ zcode = true from by rw [← qcode]; simp)
  obtain ⟨zn, qn⟩ : ∃ z, ((m.n : Int) == 0) = z := ⟨_, rfl⟩
  have yn := Lib.hid (show m.n = 0 ↔ zn = true from by rw [← qn]; simp)
  obtain ⟨zname, qname⟩ : ∃ z, (m.name.toList == []) = z := ⟨_, rfl⟩
  have yname := Lib.hid (show m.name.size = 0 ↔ zname = true from by rw [← qname, str_nil]; simp)
  obtain ⟨zconf, hzc⟩ : ∃ z, decide (m.cname.size = 0 ∧ m.dim = 0 ∧ m.metric = 0 ∧ m.graph = false ∧ m.links = 0 ∧ m.cwidth = 0) = z := ⟨_, rfl⟩
  have yconf := Lib.hid (show (m.cname.size = 0 ∧ m.dim = 0 ∧ m.metric = 0 ∧ m.graph = false ∧ m.links = 0 ∧ m.cwidth = 0) ↔ zconf = true from by rw [← hzc]; simp)
  have qconf := fun w => run_eql_conf2 m.cname ⟨#[]⟩ (m.dim : Int) 0 (m.metric : Int) 0 (m.links : Int) 0 (m.cwidth : Int) 0 m.graph false w zconf (by
    rw [← hzc, show (m.cname.toList == ByteArray.toList ⟨#[]⟩) = decide (m.cname.size = 0) from by rw [← str_nil]; simp, Bool.eq_iff_iff]
    simp only [Bool.and_eq_true, decide_eq_true_eq, beq_iff_eq]
    constructor <;> rintro ⟨e1, e2, e3, e4, e5, e6⟩ <;> exact ⟨e1, by omega, by omega, e4, by omega, by omega⟩)
  clear hzc
  obtain ⟨zchanges, qchanges⟩ : ∃ z, ((m.pch.n : Int) == 0) = z := ⟨_, rfl⟩
  have ychanges := Lib.hid (show m.pch.n = 0 ↔ zchanges = true from by rw [← qchanges]; simp)
  obtain ⟨zid, qid⟩ : ∃ z, ((m.id : Int) == 0) = z := ⟨_, rfl⟩
  have yid := Lib.hid (show m.id = 0 ↔ zid = true from by rw [← qid]; simp)
  obtain ⟨zvec, qvec⟩ : ∃ z, ((m.pvec.n : Int) == 0) = z := ⟨_, rfl⟩
  have yvec := Lib.hid (show m.pvec.n = 0 ↔ zvec = true from by rw [← qvec]; simp)
  obtain ⟨zk, qk⟩ : ∃ z, ((m.k : Int) == 0) = z := ⟨_, rfl⟩
  have yk := Lib.hid (show m.k = 0 ↔ zk = true from by rw [← qk]; simp)
  obtain ⟨zwidth, qwidth⟩ : ∃ z, ((m.width : Int) == 0) = z := ⟨_, rfl⟩
  have ywidth := Lib.hid (show m.width = 0 ↔ zwidth = true from by rw [← qwidth]; simp)
  obtain ⟨zfilter, hzfilter⟩ : ∃ z, decide (m.pall.n = 0 ∧ m.pany.n = 0 ∧ m.pno.n = 0) = z := ⟨_, rfl⟩
  have yfilter := Lib.hid (show (m.pall.n = 0 ∧ m.pany.n = 0 ∧ m.pno.n = 0) ↔ zfilter = true from by rw [← hzfilter]; simp)
  have HZF := Lib.hid hzfilter
  clear hzfilter
  obtain ⟨znum, qnum⟩ : ∃ z, ((m.num : Int) == 0) = z := ⟨_, rfl⟩
  have ynum := Lib.hid (show m.num = 0 ↔ znum = true from by rw [← qnum]; simp)
  obtain ⟨zpage, qpage⟩ : ∃ z, ((m.page : Int) == 0) = z := ⟨_, rfl⟩
  have ypage := Lib.hid (show m.page = 0 ↔ zpage = true from by rw [← qpage]; simp)
  obtain ⟨zbytes, qbytes⟩ : ∃ z, ((m.pbytes.n : Int) == 0) = z := ⟨_, rfl⟩
  have ybytes := Lib.hid (show m.pbytes.n = 0 ↔ zbytes = true from by rw [← qbytes]; simp)
  obtain ⟨zversion, qversion⟩ : ∃ z, ((m.version : Int) == 0) = z := ⟨_, rfl⟩
  have yversion := Lib.hid (show m.version = 0 ↔ zversion = true from by rw [← qversion]; simp)
  obtain ⟨znames, qnames⟩ : ∃ z, ((m.pnames.n : Int) == 0) = z := ⟨_, rfl⟩
  have ynames := Lib.hid (show m.pnames.n = 0 ↔ znames = true from by rw [← qnames]; simp)
  obtain ⟨zitems, qitems⟩ : ∃ z, ((m.pitems.n : Int) == 0) = z := ⟨_, rfl⟩
  have yitems := Lib.hid (show m.pitems.n = 0 ↔ zitems = true from by rw [← qitems]; simp)
  obtain ⟨zhits, qhits⟩ : ∃ z, ((m.phits.n : Int) == 0) = z := ⟨_, rfl⟩
  have yhits := Lib.hid (show m.phits.n = 0 ↔ zhits = true from by rw [← qhits]; simp)
  have ALL := Lib.hid (show m.toM = zeroM m.kind ↔ zreq = true ∧ zcaps = true ∧ ztoken = true ∧ zcode = true ∧ zn = true ∧ zname = true ∧ zconf = true ∧ zchanges = true ∧ zid = true ∧ zvec = true ∧ zk = true ∧ zwidth = true ∧ zfilter = true ∧ znum = true ∧ zpage = true ∧ zbytes = true ∧ zversion = true ∧ znames = true ∧ zitems = true ∧ zhits = true from by
    rw [HZ.out, Zs, yreq.out, ycaps.out, ytoken.out, ycode.out, yn.out, yname.out, yconf.out, ychanges.out, yid.out, yvec.out, yk.out, ywidth.out, yfilter.out, ynum.out, ypage.out, ybytes.out, yversion.out, ynames.out, yitems.out, yhits.out])
  clear yreq ycaps ytoken ycode yn yname yconf ychanges yid yvec yk ywidth yfilter ynum ypage ybytes yversion ynames yitems yhits

  have tail : ∀ (Q : Exit → Act → World → Prop), (∀ a' w', At 148 2 (.pointer (some ⟨gx, 0, none⟩)) (((((((((((((((((((zreq && zcaps) && ztoken) && zcode) && zn) && zname) && zconf) && zchanges) && zid) && zvec) && zk) && zwidth) && zfilter) && znum) && zpage) && zbytes) && zversion) && znames) && zitems) && zhits) a' → Below w.heap.size w w' → Q .normal a' w') → ∀ a0, At 148 8 (.pointer (some ⟨gx, 0, none⟩)) zreq a0 → WK Tryz.prog (regOps Tryz.f38) Q 6 a0 w := by
    intro Q HQ
    intro a0 ha0
    refine part_num (n := 148) (k := 6) (j := 5) (s := 8) (gx := gx) (w := w) (b := zreq) (q := zcaps) (fi := 2) (off := 2) (ty := 22) (z := .int .u32 0) (v := .int .u32 (m.caps : Int)) (by kernel_rfl) (by kernel_rfl) (by kernel_rfl) (by kernel_rfl) (by kernel_rfl) (by kernel_rfl) (by kernel_rfl) (by kernel_rfl) (by intro w; simp [go_sem]) (by have c0 := HX0.cell 2; simp [MsgL.cells] at c0; simp [go_sem, c0]) (by intro w; simp [go_sem, qcaps]) ha0 ?_
    intro a1 w1 ha1 hw1
    have HX1 : Blk w1 gx 37 m.cells := by rw [hw1]; exact HX0
    have BB1 : Below w.heap.size w w1 := by rw [hw1]; exact BB0
    refine part_num (n := 148) (k := 13) (j := 12) (s := 15) (gx := gx) (w := w1) (b := (zreq && zcaps)) (q := ztoken) (fi := 3) (off := 3) (ty := 23) (z := .int .u64 0) (v := .int .u64 (m.token : Int)) (by kernel_rfl) (by kernel_rfl) (by kernel_rfl) (by kernel_rfl) (by kernel_rfl) (by kernel_rfl) (by kernel_rfl) (by kernel_rfl) (by intro w; simp [go_sem]) (by have c0 := HX1.cell 3; simp [MsgL.cells] at c0; simp [go_sem, c0]) (by intro w; simp [go_sem, qtoken]) ha1 ?_
    intro a2 w2 ha2 hw2
    have HX2 : Blk w2 gx 37 m.cells := by rw [hw2]; exact HX1
    have BB2 : Below w.heap.size w w2 := by rw [hw2]; exact BB1
    refine part_num (n := 148) (k := 20) (j := 19) (s := 22) (gx := gx) (w := w2) (b := ((zreq && zcaps) && ztoken)) (q := zcode) (fi := 4) (off := 4) (ty := 5) (z := .int .u8 0) (v := .int .u8 (m.code : Int)) (by kernel_rfl) (by kernel_rfl) (by kernel_rfl) (by kernel_rfl) (by kernel_rfl) (by kernel_rfl) (by kernel_rfl) (by kernel_rfl) (by intro w; simp [go_sem]) (by have c0 := HX2.cell 4; simp [MsgL.cells] at c0; simp [go_sem, c0]) (by intro w; simp [go_sem, qcode]) ha2 ?_
    intro a3 w3 ha3 hw3
    have HX3 : Blk w3 gx 37 m.cells := by rw [hw3]; exact HX2
    have BB3 : Below w.heap.size w w3 := by rw [hw3]; exact BB2
    refine part_num (n := 148) (k := 27) (j := 26) (s := 29) (gx := gx) (w := w3) (b := (((zreq && zcaps) && ztoken) && zcode)) (q := zn) (fi := 5) (off := 5) (ty := 22) (z := .int .u32 0) (v := .int .u32 (m.n : Int)) (by kernel_rfl) (by kernel_rfl) (by kernel_rfl) (by kernel_rfl) (by kernel_rfl) (by kernel_rfl) (by kernel_rfl) (by kernel_rfl) (by intro w; simp [go_sem]) (by have c0 := HX3.cell 5; simp [MsgL.cells] at c0; simp [go_sem, c0]) (by intro w; simp [go_sem, qn]) ha3 ?_
    intro a4 w4 ha4 hw4
    have HX4 : Blk w4 gx 37 m.cells := by rw [hw4]; exact HX3
    have BB4 : Below w.heap.size w w4 := by rw [hw4]; exact BB3
    refine part_num (n := 148) (k := 34) (j := 33) (s := 36) (gx := gx) (w := w4) (b := ((((zreq && zcaps) && ztoken) && zcode) && zn)) (q := zname) (fi := 6) (off := 6) (ty := 9) (z := .string ⟨#[]⟩) (v := .string m.name) (by kernel_rfl) (by kernel_rfl) (by kernel_rfl) (by kernel_rfl) (by kernel_rfl) (by kernel_rfl) (by kernel_rfl) (by kernel_rfl) (by intro w; simp [go_sem]) (by have c0 := HX4.cell 6; simp [MsgL.cells] at c0; simp [go_sem, c0]) (by intro w; simp [go_sem, qname]) ha4 ?_
    intro a5 w5 ha5 hw5
    have HX5 : Blk w5 gx 37 m.cells := by rw [hw5]; exact HX4
    have BB5 : Below w.heap.size w w5 := by rw [hw5]; exact BB4
    refine part_conf (n := 148) (k := 41) (j := 40) (s := 43) (gx := gx) (w := w5) (b := (((((zreq && zcaps) && ztoken) && zcode) && zn) && zname)) (q := zconf) (z := .agg #[.string ⟨#[]⟩, .int .u8 0, .int .u8 0, .bool false, .int .u8 0, .int .u16 0]) (ty := 27) (fi := 7) (off := 7) (v := .agg #[.string m.cname, .int .u8 (m.dim : Int), .int .u8 (m.metric : Int), .bool m.graph, .int .u8 (m.links : Int), .int .u16 (m.cwidth : Int)]) (by kernel_rfl) (by kernel_rfl) (by kernel_rfl) (by kernel_rfl) (by kernel_rfl) (by kernel_rfl) (by kernel_rfl) (by kernel_rfl) (by kernel_rfl) (by intro w; simp [go_sem]) (by have c0 := HX5.cell 7; have c1 := HX5.cell 8; have c2 := HX5.cell 9; have c3 := HX5.cell 10; have c4 := HX5.cell 11; have c5 := HX5.cell 12; simp [MsgL.cells] at c0 c1 c2 c3 c4 c5; simp [go_sem, c0, c1, c2, c3, c4, c5]) (by intro w; simp [go_sem]) (by intro w; have h := qconf w; simp [go_sem] at h ⊢; exact h) ha5 ?_
    intro a6 w6 ha6 hw6
    have HX6 : Blk w6 gx 37 m.cells := by rw [hw6]; exact HX5
    have BB6 : Below w.heap.size w w6 := by rw [hw6]; exact BB5
    refine part_len (n := 148) (k := 49) (j := 48) (s := 51) (gx := gx) (w := w6) (b := ((((((zreq && zcaps) && ztoken) && zcode) && zn) && zname) && zconf)) (q := zchanges) (z := .int .i64 (m.pch.n : Int)) (fi := 8) (off := 13) (ty := 28) (v := .slice m.pch.a m.pch.n m.pch.c) (by kernel_rfl) (by kernel_rfl) (by kernel_rfl) (by kernel_rfl) (by kernel_rfl) (by kernel_rfl) (by kernel_rfl) (by kernel_rfl) (by kernel_rfl) (by intro w; simp [go_sem]) (by have c0 := HX6.cell 13; simp [MsgL.cells] at c0; simp [go_sem, c0]) (by intro w t; simp [go_sem]) (by intro w; simp [go_sem, qchanges]) ha6 ?_
    intro a7 w7 ha7 hw7
    have HX7 : Blk w7 gx 37 m.cells := by rw [hw7]; exact HX6
    have BB7 : Below w.heap.size w w7 := by rw [hw7]; exact BB6
    refine part_num (n := 148) (k := 57) (j := 56) (s := 59) (gx := gx) (w := w7) (b := (((((((zreq && zcaps) && ztoken) && zcode) && zn) && zname) && zconf) && zchanges)) (q := zid) (fi := 9) (off := 14) (ty := 22) (z := .int .u32 0) (v := .int .u32 (m.id : Int)) (by kernel_rfl) (by kernel_rfl) (by kernel_rfl) (by kernel_rfl) (by kernel_rfl) (by kernel_rfl) (by kernel_rfl) (by kernel_rfl) (by intro w; simp [go_sem]) (by have c0 := HX7.cell 14; simp [MsgL.cells] at c0; simp [go_sem, c0]) (by intro w; simp [go_sem, qid]) ha7 ?_
    intro a8 w8 ha8 hw8
    have HX8 : Blk w8 gx 37 m.cells := by rw [hw8]; exact HX7
    have BB8 : Below w.heap.size w w8 := by rw [hw8]; exact BB7
    refine part_len (n := 148) (k := 64) (j := 63) (s := 66) (gx := gx) (w := w8) (b := ((((((((zreq && zcaps) && ztoken) && zcode) && zn) && zname) && zconf) && zchanges) && zid)) (q := zvec) (z := .int .i64 (m.pvec.n : Int)) (fi := 10) (off := 15) (ty := 29) (v := .slice m.pvec.a m.pvec.n m.pvec.c) (by kernel_rfl) (by kernel_rfl) (by kernel_rfl) (by kernel_rfl) (by kernel_rfl) (by kernel_rfl) (by kernel_rfl) (by kernel_rfl) (by kernel_rfl) (by intro w; simp [go_sem]) (by have c0 := HX8.cell 15; simp [MsgL.cells] at c0; simp [go_sem, c0]) (by intro w t; simp [go_sem]) (by intro w; simp [go_sem, qvec]) ha8 ?_
    intro a9 w9 ha9 hw9
    have HX9 : Blk w9 gx 37 m.cells := by rw [hw9]; exact HX8
    have BB9 : Below w.heap.size w w9 := by rw [hw9]; exact BB8
    refine part_num (n := 148) (k := 72) (j := 71) (s := 74) (gx := gx) (w := w9) (b := (((((((((zreq && zcaps) && ztoken) && zcode) && zn) && zname) && zconf) && zchanges) && zid) && zvec)) (q := zk) (fi := 11) (off := 16) (ty := 25) (z := .int .u16 0) (v := .int .u16 (m.k : Int)) (by kernel_rfl) (by kernel_rfl) (by kernel_rfl) (by kernel_rfl) (by kernel_rfl) (by kernel_rfl) (by kernel_rfl) (by kernel_rfl) (by intro w; simp [go_sem]) (by have c0 := HX9.cell 16; simp [MsgL.cells] at c0; simp [go_sem, c0]) (by intro w; simp [go_sem, qk]) ha9 ?_
    intro a10 w10 ha10 hw10
    have HX10 : Blk w10 gx 37 m.cells := by rw [hw10]; exact HX9
    have BB10 : Below w.heap.size w w10 := by rw [hw10]; exact BB9
    refine part_num (n := 148) (k := 79) (j := 78) (s := 81) (gx := gx) (w := w10) (b := ((((((((((zreq && zcaps) && ztoken) && zcode) && zn) && zname) && zconf) && zchanges) && zid) && zvec) && zk)) (q := zwidth) (fi := 12) (off := 17) (ty := 25) (z := .int .u16 0) (v := .int .u16 (m.width : Int)) (by kernel_rfl) (by kernel_rfl) (by kernel_rfl) (by kernel_rfl) (by kernel_rfl) (by kernel_rfl) (by kernel_rfl) (by kernel_rfl) (by intro w; simp [go_sem]) (by have c0 := HX10.cell 17; simp [MsgL.cells] at c0; simp [go_sem, c0]) (by intro w; simp [go_sem, qwidth]) ha10 ?_
    intro a11 w11 ha11 hw11
    have HX11 : Blk w11 gx 37 m.cells := by rw [hw11]; exact HX10
    have BB11 : Below w.heap.size w w11 := by rw [hw11]; exact BB10
    refine part_call (n := 148) (k := 86) (j := 85) (s := 88) (gx := gx) (w := w11) (b := (((((((((((zreq && zcaps) && ztoken) && zcode) && zn) && zname) && zconf) && zchanges) && zid) && zvec) && zk) && zwidth)) (q := zfilter) (ty := 32) (fi := 13) (off := 18) (v := .agg #[.slice m.pall.a m.pall.n m.pall.c, .slice m.pany.a m.pany.n m.pany.c, .slice m.pno.a m.pno.n m.pno.c]) (by kernel_rfl) (by kernel_rfl) (by kernel_rfl) (by kernel_rfl) (by kernel_rfl) (by kernel_rfl) (by kernel_rfl) (by kernel_rfl) (by intro w; simp [go_sem]) (by have c0 := HX11.cell 18; have c1 := HX11.cell 19; have c2 := HX11.cell 20; simp [go_sem, MsgL.cells] at c0 c1 c2 ⊢; simp [go_sem, c0, c1, c2]) (emptyFilter_any m.pall m.pany m.pno zfilter HZF.out w11) ha11 ?_
    intro a12 w12 ha12 hw12
    have HX12 : Blk w12 gx 37 m.cells := (Kept.of_below (F := []) hw12 (Nat.le_refl _)).blk HX11 (by simp)
    have BB12 := below_on BB11 hw12
    refine part_num (n := 148) (k := 93) (j := 92) (s := 95) (gx := gx) (w := w12) (b := ((((((((((((zreq && zcaps) && ztoken) && zcode) && zn) && zname) && zconf) && zchanges) && zid) && zvec) && zk) && zwidth) && zfilter)) (q := znum) (fi := 14) (off := 21) (ty := 22) (z := .int .u32 0) (v := .int .u32 (m.num : Int)) (by kernel_rfl) (by kernel_rfl) (by kernel_rfl) (by kernel_rfl) (by kernel_rfl) (by kernel_rfl) (by kernel_rfl) (by kernel_rfl) (by intro w; simp [go_sem]) (by have c0 := HX12.cell 21; simp [MsgL.cells] at c0; simp [go_sem, c0]) (by intro w; simp [go_sem, qnum]) ha12 ?_
    intro a13 w13 ha13 hw13
    have HX13 : Blk w13 gx 37 m.cells := by rw [hw13]; exact HX12
    have BB13 : Below w.heap.size w w13 := by rw [hw13]; exact BB12
    refine part_num (n := 148) (k := 100) (j := 99) (s := 102) (gx := gx) (w := w13) (b := (((((((((((((zreq && zcaps) && ztoken) && zcode) && zn) && zname) && zconf) && zchanges) && zid) && zvec) && zk) && zwidth) && zfilter) && znum)) (q := zpage) (fi := 15) (off := 22) (ty := 22) (z := .int .u32 0) (v := .int .u32 (m.page : Int)) (by kernel_rfl) (by kernel_rfl) (by kernel_rfl) (by kernel_rfl) (by kernel_rfl) (by kernel_rfl) (by kernel_rfl) (by kernel_rfl) (by intro w; simp [go_sem]) (by have c0 := HX13.cell 22; simp [MsgL.cells] at c0; simp [go_sem, c0]) (by intro w; simp [go_sem, qpage]) ha13 ?_
    intro a14 w14 ha14 hw14
    have HX14 : Blk w14 gx 37 m.cells := by rw [hw14]; exact HX13
    have BB14 : Below w.heap.size w w14 := by rw [hw14]; exact BB13
    refine part_len (n := 148) (k := 107) (j := 106) (s := 109) (gx := gx) (w := w14) (b := ((((((((((((((zreq && zcaps) && ztoken) && zcode) && zn) && zname) && zconf) && zchanges) && zid) && zvec) && zk) && zwidth) && zfilter) && znum) && zpage)) (q := zbytes) (z := .int .i64 (m.pbytes.n : Int)) (fi := 16) (off := 23) (ty := 33) (v := .slice m.pbytes.a m.pbytes.n m.pbytes.c) (by kernel_rfl) (by kernel_rfl) (by kernel_rfl) (by kernel_rfl) (by kernel_rfl) (by kernel_rfl) (by kernel_rfl) (by kernel_rfl) (by kernel_rfl) (by intro w; simp [go_sem]) (by have c0 := HX14.cell 23; simp [MsgL.cells] at c0; simp [go_sem, c0]) (by intro w t; simp [go_sem]) (by intro w; simp [go_sem, qbytes]) ha14 ?_
    intro a15 w15 ha15 hw15
    have HX15 : Blk w15 gx 37 m.cells := by rw [hw15]; exact HX14
    have BB15 : Below w.heap.size w w15 := by rw [hw15]; exact BB14
    refine part_num (n := 148) (k := 115) (j := 114) (s := 117) (gx := gx) (w := w15) (b := (((((((((((((((zreq && zcaps) && ztoken) && zcode) && zn) && zname) && zconf) && zchanges) && zid) && zvec) && zk) && zwidth) && zfilter) && znum) && zpage) && zbytes)) (q := zversion) (fi := 17) (off := 24) (ty := 23) (z := .int .u64 0) (v := .int .u64 (m.version : Int)) (by kernel_rfl) (by kernel_rfl) (by kernel_rfl) (by kernel_rfl) (by kernel_rfl) (by kernel_rfl) (by kernel_rfl) (by kernel_rfl) (by intro w; simp [go_sem]) (by have c0 := HX15.cell 24; simp [MsgL.cells] at c0; simp [go_sem, c0]) (by intro w; simp [go_sem, qversion]) ha15 ?_
    intro a16 w16 ha16 hw16
    have HX16 : Blk w16 gx 37 m.cells := by rw [hw16]; exact HX15
    have BB16 : Below w.heap.size w w16 := by rw [hw16]; exact BB15
    refine part_len (n := 148) (k := 122) (j := 121) (s := 124) (gx := gx) (w := w16) (b := ((((((((((((((((zreq && zcaps) && ztoken) && zcode) && zn) && zname) && zconf) && zchanges) && zid) && zvec) && zk) && zwidth) && zfilter) && znum) && zpage) && zbytes) && zversion)) (q := znames) (z := .int .i64 (m.pnames.n : Int)) (fi := 18) (off := 25) (ty := 30) (v := .slice m.pnames.a m.pnames.n m.pnames.c) (by kernel_rfl) (by kernel_rfl) (by kernel_rfl) (by kernel_rfl) (by kernel_rfl) (by kernel_rfl) (by kernel_rfl) (by kernel_rfl) (by kernel_rfl) (by intro w; simp [go_sem]) (by have c0 := HX16.cell 25; simp [MsgL.cells] at c0; simp [go_sem, c0]) (by intro w t; simp [go_sem]) (by intro w; simp [go_sem, qnames]) ha16 ?_
    intro a17 w17 ha17 hw17
    have HX17 : Blk w17 gx 37 m.cells := by rw [hw17]; exact HX16
    have BB17 : Below w.heap.size w w17 := by rw [hw17]; exact BB16
    refine part_len (n := 148) (k := 130) (j := 129) (s := 132) (gx := gx) (w := w17) (b := (((((((((((((((((zreq && zcaps) && ztoken) && zcode) && zn) && zname) && zconf) && zchanges) && zid) && zvec) && zk) && zwidth) && zfilter) && znum) && zpage) && zbytes) && zversion) && znames)) (q := zitems) (z := .int .i64 (m.pitems.n : Int)) (fi := 19) (off := 26) (ty := 34) (v := .slice m.pitems.a m.pitems.n m.pitems.c) (by kernel_rfl) (by kernel_rfl) (by kernel_rfl) (by kernel_rfl) (by kernel_rfl) (by kernel_rfl) (by kernel_rfl) (by kernel_rfl) (by kernel_rfl) (by intro w; simp [go_sem]) (by have c0 := HX17.cell 26; simp [MsgL.cells] at c0; simp [go_sem, c0]) (by intro w t; simp [go_sem]) (by intro w; simp [go_sem, qitems]) ha17 ?_
    intro a18 w18 ha18 hw18
    have HX18 : Blk w18 gx 37 m.cells := by rw [hw18]; exact HX17
    have BB18 : Below w.heap.size w w18 := by rw [hw18]; exact BB17
    refine part_lenz (n := 148) (k := 138) (j := 137) (s := 140) (gx := gx) (w := w18) (b := ((((((((((((((((((zreq && zcaps) && ztoken) && zcode) && zn) && zname) && zconf) && zchanges) && zid) && zvec) && zk) && zwidth) && zfilter) && znum) && zpage) && zbytes) && zversion) && znames) && zitems)) (q := zhits) (z := .int .i64 (m.phits.n : Int)) (fi := 20) (off := 27) (ty := 35) (v := .slice m.phits.a m.phits.n m.phits.c) (by kernel_rfl) (by kernel_rfl) (by kernel_rfl) (by kernel_rfl) (by kernel_rfl) (by kernel_rfl) (by kernel_rfl) (by kernel_rfl) (by kernel_rfl) (by intro w; simp [go_sem]) (by have c0 := HX18.cell 27; simp [MsgL.cells] at c0; simp [go_sem, c0]) (by intro w t; simp [go_sem]) (by intro w; simp [go_sem, qhits]) ha18 ?_
    intro a19 w19 ha19 hw19
    have HX19 : Blk w19 gx 37 m.cells := by rw [hw19]; exact HX18
    have BB19 : Below w.heap.size w w19 := by rw [hw19]; exact BB18

    exact WK.done (Nat.le_of_eq (by kernel_rfl)) (HQ _ _ ha19 BB19)
  have start : ∀ (Q : Exit → Act → World → Prop) (A : Act), A.tmps.size = 148 → A.defers = [] → A.tmps[0]? = some (.pointer (some ⟨gx, 0, none⟩)) → (∀ a' w', At 148 2 (.pointer (some ⟨gx, 0, none⟩)) (((((((((((((((((((zreq && zcaps) && ztoken) && zcode) && zn) && zname) && zconf) && zchanges) && zid) && zvec) && zk) && zwidth) && zfilter) && znum) && zpage) && zbytes) && zversion) && znames) && zitems) && zhits) a' → Below w.heap.size w w' → Q .normal a' w') → WK Tryz.prog (regOps Tryz.f38) Q 0 A w := by
    intro Q A hz hd h0 HQ
    have z0 := hz
    have d0 := hd
    have r0 := h0
    refine WK.go (k := 0) (d := 3) (op := .move (.tmp 0)) (gd := none) (by kernel_rfl) (.pointer (some ⟨gx, 0, none⟩)) w (fun _ _ h => by cases h) (fun o ho => exec_move ho (eval_of h0)) ?_
    obtain ⟨a1, ha1⟩ : ∃ x, A.put (some 3) (.pointer (some ⟨gx, 0, none⟩)) = x := ⟨_, rfl⟩
    rw [ha1]
    have z1 : a1.tmps.size = 148 := by rw [← ha1, put_size]; exact z0
    have d1 : a1.defers = [] := by rw [← ha1]; exact d0
    have r1 : a1.tmps[0]? = some (.pointer (some ⟨gx, 0, none⟩)) := by rw [← ha1, put_ne _ _ _ _ (by decide)]; exact r0
    have p1 : a1.tmps[3]? = some (.pointer (some ⟨gx, 0, none⟩)) := by rw [← ha1]; exact put_same _ _ _ (by rw [z0]; decide)
    have e1 := eval_of p1
    refine WK.go (k := 1) (d := 4) (op := .nilCheck (.tmp 3)) (gd := none) (by kernel_rfl) (.pointer (some ⟨gx, 0, none⟩)) w (fun _ _ h => by cases h) (fun o ho => exec_nil ho e1) ?_
    obtain ⟨a2, ha2⟩ : ∃ x, a1.put (some 4) (.pointer (some ⟨gx, 0, none⟩)) = x := ⟨_, rfl⟩
    rw [ha2]
    have z2 : a2.tmps.size = 148 := by rw [← ha2, put_size]; exact z1
    have d2 : a2.defers = [] := by rw [← ha2]; exact d1
    have r2 : a2.tmps[0]? = some (.pointer (some ⟨gx, 0, none⟩)) := by rw [← ha2, put_ne _ _ _ _ (by decide)]; exact r1
    have p2 : a2.tmps[4]? = some (.pointer (some ⟨gx, 0, none⟩)) := by rw [← ha2]; exact put_same _ _ _ (by rw [z1]; decide)
    have e2 := eval_of p2
    refine WK.go (k := 2) (d := 5) (op := .fieldAddr 37 (.tmp 4) 1) (gd := none) (by kernel_rfl) (.pointer (some ⟨gx, 1, none⟩)) w (fun _ _ h => by cases h) (fun o ho => exec_fa ho e2 (by simp [go_sem])) ?_
    obtain ⟨a3, ha3⟩ : ∃ x, a2.put (some 5) (.pointer (some ⟨gx, 1, none⟩)) = x := ⟨_, rfl⟩
    rw [ha3]
    have z3 : a3.tmps.size = 148 := by rw [← ha3, put_size]; exact z2
    have d3 : a3.defers = [] := by rw [← ha3]; exact d2
    have r3 : a3.tmps[0]? = some (.pointer (some ⟨gx, 0, none⟩)) := by rw [← ha3, put_ne _ _ _ _ (by decide)]; exact r2
    have p3 : a3.tmps[5]? = some (.pointer (some ⟨gx, 1, none⟩)) := by rw [← ha3]; exact put_same _ _ _ (by rw [z2]; decide)
    have e3 := eval_of p3
    refine WK.go (k := 3) (d := 6) (op := .load 22 (.tmp 5)) (gd := none) (by kernel_rfl) (.int .u32 (m.req : Int)) w (fun _ _ h => by cases h) (fun o ho => exec_load ho e3 (by have c0 := HX0.cell 1; simp [MsgL.cells] at c0; simp [go_sem, c0])) ?_
    obtain ⟨a4, ha4⟩ : ∃ x, a3.put (some 6) (.int .u32 (m.req : Int)) = x := ⟨_, rfl⟩
    rw [ha4]
    have z4 : a4.tmps.size = 148 := by rw [← ha4, put_size]; exact z3
    have d4 : a4.defers = [] := by rw [← ha4]; exact d3
    have r4 : a4.tmps[0]? = some (.pointer (some ⟨gx, 0, none⟩)) := by rw [← ha4, put_ne _ _ _ _ (by decide)]; exact r3
    have p4 : a4.tmps[6]? = some (.int .u32 (m.req : Int)) := by rw [← ha4]; exact put_same _ _ _ (by rw [z3]; decide)
    have e4 := eval_of p4
    refine WK.go (k := 4) (d := 7) (op := .binOp .eql 22 (.tmp 6) (.const (.int .u32 0)) 22) (gd := none) (by kernel_rfl) (.bool zreq) w (fun _ _ h => by cases h) (fun o ho => exec_bin ho e4 rfl (by simp [go_sem, qreq])) ?_
    obtain ⟨a5, ha5⟩ : ∃ x, a4.put (some 7) (.bool zreq) = x := ⟨_, rfl⟩
    rw [ha5]
    have z5 : a5.tmps.size = 148 := by rw [← ha5, put_size]; exact z4
    have d5 : a5.defers = [] := by rw [← ha5]; exact d4
    have r5 : a5.tmps[0]? = some (.pointer (some ⟨gx, 0, none⟩)) := by rw [← ha5, put_ne _ _ _ _ (by decide)]; exact r4
    have p5 : a5.tmps[7]? = some (.bool zreq) := by rw [← ha5]; exact put_same _ _ _ (by rw [z4]; decide)
    have e5 := eval_of p5
    refine WK.go (k := 5) (d := 8) (op := .move (.tmp 7)) (gd := none) (by kernel_rfl) (.bool zreq) w (fun _ _ h => by cases h) (fun o ho => exec_move ho e5) ?_
    obtain ⟨a6, ha6⟩ : ∃ x, a5.put (some 8) (.bool zreq) = x := ⟨_, rfl⟩
    rw [ha6]
    have z6 : a6.tmps.size = 148 := by rw [← ha6, put_size]; exact z5
    have d6 : a6.defers = [] := by rw [← ha6]; exact d5
    have r6 : a6.tmps[0]? = some (.pointer (some ⟨gx, 0, none⟩)) := by rw [← ha6, put_ne _ _ _ _ (by decide)]; exact r5
    have p6 : a6.tmps[8]? = some (.bool zreq) := by rw [← ha6]; exact put_same _ _ _ (by rw [z5]; decide)
    have e6 := eval_of p6
    exact tail Q HQ a6 ⟨z6, d6, r6, p6⟩
  go_enter Tryz.func38, Tryz.ntmps38
  go_upto_region 1 with fail
  refine wp_region_lit ?_
  refine start _ _ rfl rfl rfl ?_
  intro a' w' ha hb
  rename_i Q' K hK
  show K a' w'
  refine hK _ _ ?_
  refine wp_ret ?_
  refine bodyPost_ret (fn := Tryz.f38) (results_tmp (fn := Tryz.f38) (t := 2) rfl _ _ _) ha.defers ?_
  rw [show a'.tmps.getD 2 undef = .bool (((((((((((((((((((zreq && zcaps) && ztoken) && zcode) && zn) && zname) && zconf) && zchanges) && zid) && zvec) && zk) && zwidth) && zfilter) && znum) && zpage) && zbytes) && zversion) && znames) && zitems) && zhits) from eval_of ha.b]
  refine ⟨⟨_, rfl, ?_⟩, hb⟩
  show _ ↔ _
  rw [ALL.out]
  simp only [Bool.and_eq_true, and_assoc]

/-- The fields of a kind; none of one that isn't there. -/
def fldsM (k : Nat) : List Fld := (formM k).getD []
theorem form_none2 (k : Nat) (h : k = 0 ∨ 24 < k) : formM k = none := by
  unfold formM
  split <;> first | rfl | omega
theorem form_some (k : Nat) (fs : List Fld) (h : formM k = some fs) : 0 < fs.length ∧ fs.length ≤ 7 := by
  unfold formM at h
  split at h <;> first | (cases h; simp) | cases h
/-- What fields tells. -/
def FldsPost (k : Nat) (w : World) (e : Ending) (w' : World) : Prop := Below w.heap.size w w' ∧
  ∃ a c, e = .returned (.slice a (fldsM k).length c) ∧ BReads w' a (fldsM k).length c ((fldsM k).map Fld.no) ∧ ∀ b off, a = some ⟨b, off, none⟩ → w.heap.size ≤ b
set_option maxRecDepth 100000 in
set_option maxHeartbeats 1600000 in
theorem flds_1 (w : World) : Calls Tryz.prog 36 #[.int .u8 1] w fun e w' => FldsPost 1 w e w' := by
  have HR := Lib.hid (BReads.built w (([.caps] : List Fld).map Fld.no) 84 (by decide) (by decide))
  have HB := Lib.hid ((Below.refl w.heap.size w).alloc (Nat.le_refl _) (.cells ((([.caps] : List Fld).map Fld.no).map byteV).toArray 84))
  go_enter Tryz.func36, Tryz.ntmps36
  go_wp2
  go_ret
  exact ⟨HB.out, _, _, rfl, HR.out, fun b off h => by cases h; exact Nat.le_refl _⟩
set_option maxRecDepth 100000 in
set_option maxHeartbeats 1600000 in
theorem flds_2 (w : World) : Calls Tryz.prog 36 #[.int .u8 2] w fun e w' => FldsPost 2 w e w' := by
  have HR := Lib.hid (BReads.built w (([.caps, .token, .n] : List Fld).map Fld.no) 84 (by decide) (by decide))
  have HB := Lib.hid ((Below.refl w.heap.size w).alloc (Nat.le_refl _) (.cells ((([.caps, .token, .n] : List Fld).map Fld.no).map byteV).toArray 84))
  go_enter Tryz.func36, Tryz.ntmps36
  go_wp2
  go_ret
  exact ⟨HB.out, _, _, rfl, HR.out, fun b off h => by cases h; exact Nat.le_refl _⟩
set_option maxRecDepth 100000 in
set_option maxHeartbeats 1600000 in
theorem flds_3 (w : World) : Calls Tryz.prog 36 #[.int .u8 3] w fun e w' => FldsPost 3 w e w' := by
  have HR := Lib.hid (BReads.built w (([.token, .n] : List Fld).map Fld.no) 84 (by decide) (by decide))
  have HB := Lib.hid ((Below.refl w.heap.size w).alloc (Nat.le_refl _) (.cells ((([.token, .n] : List Fld).map Fld.no).map byteV).toArray 84))
  go_enter Tryz.func36, Tryz.ntmps36
  go_wp2
  go_ret
  exact ⟨HB.out, _, _, rfl, HR.out, fun b off h => by cases h; exact Nat.le_refl _⟩
set_option maxRecDepth 100000 in
set_option maxHeartbeats 1600000 in
theorem flds_4 (w : World) : Calls Tryz.prog 36 #[.int .u8 4] w fun e w' => FldsPost 4 w e w' := by
  have HR := Lib.hid (BReads.built w (([.n] : List Fld).map Fld.no) 84 (by decide) (by decide))
  have HB := Lib.hid ((Below.refl w.heap.size w).alloc (Nat.le_refl _) (.cells ((([.n] : List Fld).map Fld.no).map byteV).toArray 84))
  go_enter Tryz.func36, Tryz.ntmps36
  go_wp2
  go_ret
  exact ⟨HB.out, _, _, rfl, HR.out, fun b off h => by cases h; exact Nat.le_refl _⟩
set_option maxRecDepth 100000 in
set_option maxHeartbeats 1600000 in
theorem flds_5 (w : World) : Calls Tryz.prog 36 #[.int .u8 5] w fun e w' => FldsPost 5 w e w' := by
  have HR := Lib.hid (BReads.built w (([.code] : List Fld).map Fld.no) 84 (by decide) (by decide))
  have HB := Lib.hid ((Below.refl w.heap.size w).alloc (Nat.le_refl _) (.cells ((([.code] : List Fld).map Fld.no).map byteV).toArray 84))
  go_enter Tryz.func36, Tryz.ntmps36
  go_wp2
  go_ret
  exact ⟨HB.out, _, _, rfl, HR.out, fun b off h => by cases h; exact Nat.le_refl _⟩
set_option maxRecDepth 100000 in
set_option maxHeartbeats 1600000 in
theorem flds_6 (w : World) : Calls Tryz.prog 36 #[.int .u8 6] w fun e w' => FldsPost 6 w e w' := by
  have HR := Lib.hid (BReads.built w (([.code] : List Fld).map Fld.no) 84 (by decide) (by decide))
  have HB := Lib.hid ((Below.refl w.heap.size w).alloc (Nat.le_refl _) (.cells ((([.code] : List Fld).map Fld.no).map byteV).toArray 84))
  go_enter Tryz.func36, Tryz.ntmps36
  go_wp2
  go_ret
  exact ⟨HB.out, _, _, rfl, HR.out, fun b off h => by cases h; exact Nat.le_refl _⟩
set_option maxRecDepth 100000 in
set_option maxHeartbeats 1600000 in
theorem flds_7 (w : World) : Calls Tryz.prog 36 #[.int .u8 7] w fun e w' => FldsPost 7 w e w' := by
  have HR := Lib.hid (BReads.built w (([.n] : List Fld).map Fld.no) 84 (by decide) (by decide))
  have HB := Lib.hid ((Below.refl w.heap.size w).alloc (Nat.le_refl _) (.cells ((([.n] : List Fld).map Fld.no).map byteV).toArray 84))
  go_enter Tryz.func36, Tryz.ntmps36
  go_wp2
  go_ret
  exact ⟨HB.out, _, _, rfl, HR.out, fun b off h => by cases h; exact Nat.le_refl _⟩
set_option maxRecDepth 100000 in
set_option maxHeartbeats 1600000 in
theorem flds_8 (w : World) : Calls Tryz.prog 36 #[.int .u8 8] w fun e w' => FldsPost 8 w e w' := by
  have HR := Lib.hid (BReads.built w (([.n] : List Fld).map Fld.no) 84 (by decide) (by decide))
  have HB := Lib.hid ((Below.refl w.heap.size w).alloc (Nat.le_refl _) (.cells ((([.n] : List Fld).map Fld.no).map byteV).toArray 84))
  go_enter Tryz.func36, Tryz.ntmps36
  go_wp2
  go_ret
  exact ⟨HB.out, _, _, rfl, HR.out, fun b off h => by cases h; exact Nat.le_refl _⟩
set_option maxRecDepth 100000 in
set_option maxHeartbeats 1600000 in
theorem flds_9 (w : World) : Calls Tryz.prog 36 #[.int .u8 9] w fun e w' => FldsPost 9 w e w' := by
  have HR := Lib.hid (BReads.built w (([.n] : List Fld).map Fld.no) 84 (by decide) (by decide))
  have HB := Lib.hid ((Below.refl w.heap.size w).alloc (Nat.le_refl _) (.cells ((([.n] : List Fld).map Fld.no).map byteV).toArray 84))
  go_enter Tryz.func36, Tryz.ntmps36
  go_wp2
  go_ret
  exact ⟨HB.out, _, _, rfl, HR.out, fun b off h => by cases h; exact Nat.le_refl _⟩
set_option maxRecDepth 100000 in
set_option maxHeartbeats 1600000 in
theorem flds_10 (w : World) : Calls Tryz.prog 36 #[.int .u8 10] w fun e w' => FldsPost 10 w e w' := by
  have HR := Lib.hid (BReads.built w (([.n] : List Fld).map Fld.no) 84 (by decide) (by decide))
  have HB := Lib.hid ((Below.refl w.heap.size w).alloc (Nat.le_refl _) (.cells ((([.n] : List Fld).map Fld.no).map byteV).toArray 84))
  go_enter Tryz.func36, Tryz.ntmps36
  go_wp2
  go_ret
  exact ⟨HB.out, _, _, rfl, HR.out, fun b off h => by cases h; exact Nat.le_refl _⟩
set_option maxRecDepth 100000 in
set_option maxHeartbeats 1600000 in
theorem flds_11 (w : World) : Calls Tryz.prog 36 #[.int .u8 11] w fun e w' => FldsPost 11 w e w' := by
  have HR := Lib.hid (BReads.built w (([.req, .conf] : List Fld).map Fld.no) 84 (by decide) (by decide))
  have HB := Lib.hid ((Below.refl w.heap.size w).alloc (Nat.le_refl _) (.cells ((([.req, .conf] : List Fld).map Fld.no).map byteV).toArray 84))
  go_enter Tryz.func36, Tryz.ntmps36
  go_wp2
  go_ret
  exact ⟨HB.out, _, _, rfl, HR.out, fun b off h => by cases h; exact Nat.le_refl _⟩
set_option maxRecDepth 100000 in
set_option maxHeartbeats 1600000 in
theorem flds_12 (w : World) : Calls Tryz.prog 36 #[.int .u8 12] w fun e w' => FldsPost 12 w e w' := by
  have HR := Lib.hid (BReads.built w (([.req, .name] : List Fld).map Fld.no) 84 (by decide) (by decide))
  have HB := Lib.hid ((Below.refl w.heap.size w).alloc (Nat.le_refl _) (.cells ((([.req, .name] : List Fld).map Fld.no).map byteV).toArray 84))
  go_enter Tryz.func36, Tryz.ntmps36
  go_wp2
  go_ret
  exact ⟨HB.out, _, _, rfl, HR.out, fun b off h => by cases h; exact Nat.le_refl _⟩
set_option maxRecDepth 100000 in
set_option maxHeartbeats 1600000 in
theorem flds_13 (w : World) : Calls Tryz.prog 36 #[.int .u8 13] w fun e w' => FldsPost 13 w e w' := by
  have HR := Lib.hid (BReads.built w (([.req] : List Fld).map Fld.no) 84 (by decide) (by decide))
  have HB := Lib.hid ((Below.refl w.heap.size w).alloc (Nat.le_refl _) (.cells ((([.req] : List Fld).map Fld.no).map byteV).toArray 84))
  go_enter Tryz.func36, Tryz.ntmps36
  go_wp2
  go_ret
  exact ⟨HB.out, _, _, rfl, HR.out, fun b off h => by cases h; exact Nat.le_refl _⟩
set_option maxRecDepth 100000 in
set_option maxHeartbeats 1600000 in
theorem flds_14 (w : World) : Calls Tryz.prog 36 #[.int .u8 14] w fun e w' => FldsPost 14 w e w' := by
  have HR := Lib.hid (BReads.built w (([.req, .name, .changes] : List Fld).map Fld.no) 84 (by decide) (by decide))
  have HB := Lib.hid ((Below.refl w.heap.size w).alloc (Nat.le_refl _) (.cells ((([.req, .name, .changes] : List Fld).map Fld.no).map byteV).toArray 84))
  go_enter Tryz.func36, Tryz.ntmps36
  go_wp2
  go_ret
  exact ⟨HB.out, _, _, rfl, HR.out, fun b off h => by cases h; exact Nat.le_refl _⟩
set_option maxRecDepth 100000 in
set_option maxHeartbeats 1600000 in
theorem flds_15 (w : World) : Calls Tryz.prog 36 #[.int .u8 15] w fun e w' => FldsPost 15 w e w' := by
  have HR := Lib.hid (BReads.built w (([.req, .name, .id] : List Fld).map Fld.no) 84 (by decide) (by decide))
  have HB := Lib.hid ((Below.refl w.heap.size w).alloc (Nat.le_refl _) (.cells ((([.req, .name, .id] : List Fld).map Fld.no).map byteV).toArray 84))
  go_enter Tryz.func36, Tryz.ntmps36
  go_wp2
  go_ret
  exact ⟨HB.out, _, _, rfl, HR.out, fun b off h => by cases h; exact Nat.le_refl _⟩
set_option maxRecDepth 100000 in
set_option maxHeartbeats 1600000 in
theorem flds_16 (w : World) : Calls Tryz.prog 36 #[.int .u8 16] w fun e w' => FldsPost 16 w e w' := by
  have HR := Lib.hid (BReads.built w (([.req, .name, .vec, .k, .width, .filter] : List Fld).map Fld.no) 84 (by decide) (by decide))
  have HB := Lib.hid ((Below.refl w.heap.size w).alloc (Nat.le_refl _) (.cells ((([.req, .name, .vec, .k, .width, .filter] : List Fld).map Fld.no).map byteV).toArray 84))
  go_enter Tryz.func36, Tryz.ntmps36
  go_wp2
  go_ret
  exact ⟨HB.out, _, _, rfl, HR.out, fun b off h => by cases h; exact Nat.le_refl _⟩
set_option maxRecDepth 100000 in
set_option maxHeartbeats 1600000 in
theorem flds_17 (w : World) : Calls Tryz.prog 36 #[.int .u8 17] w fun e w' => FldsPost 17 w e w' := by
  have HR := Lib.hid (BReads.built w (([.req, .name, .vec, .filter] : List Fld).map Fld.no) 84 (by decide) (by decide))
  have HB := Lib.hid ((Below.refl w.heap.size w).alloc (Nat.le_refl _) (.cells ((([.req, .name, .vec, .filter] : List Fld).map Fld.no).map byteV).toArray 84))
  go_enter Tryz.func36, Tryz.ntmps36
  go_wp2
  go_ret
  exact ⟨HB.out, _, _, rfl, HR.out, fun b off h => by cases h; exact Nat.le_refl _⟩
set_option maxRecDepth 100000 in
set_option maxHeartbeats 1600000 in
theorem flds_18 (w : World) : Calls Tryz.prog 36 #[.int .u8 18] w fun e w' => FldsPost 18 w e w' := by
  have HR := Lib.hid (BReads.built w (([.req, .num, .page, .k] : List Fld).map Fld.no) 84 (by decide) (by decide))
  have HB := Lib.hid ((Below.refl w.heap.size w).alloc (Nat.le_refl _) (.cells ((([.req, .num, .page, .k] : List Fld).map Fld.no).map byteV).toArray 84))
  go_enter Tryz.func36, Tryz.ntmps36
  go_wp2
  go_ret
  exact ⟨HB.out, _, _, rfl, HR.out, fun b off h => by cases h; exact Nat.le_refl _⟩
set_option maxRecDepth 100000 in
set_option maxHeartbeats 1600000 in
theorem flds_19 (w : World) : Calls Tryz.prog 36 #[.int .u8 19] w fun e w' => FldsPost 19 w e w' := by
  have HR := Lib.hid (BReads.built w (([.req, .num] : List Fld).map Fld.no) 84 (by decide) (by decide))
  have HB := Lib.hid ((Below.refl w.heap.size w).alloc (Nat.le_refl _) (.cells ((([.req, .num] : List Fld).map Fld.no).map byteV).toArray 84))
  go_enter Tryz.func36, Tryz.ntmps36
  go_wp2
  go_ret
  exact ⟨HB.out, _, _, rfl, HR.out, fun b off h => by cases h; exact Nat.le_refl _⟩
set_option maxRecDepth 100000 in
set_option maxHeartbeats 1600000 in
theorem flds_20 (w : World) : Calls Tryz.prog 36 #[.int .u8 20] w fun e w' => FldsPost 20 w e w' := by
  have HR := Lib.hid (BReads.built w (([.req, .name] : List Fld).map Fld.no) 84 (by decide) (by decide))
  have HB := Lib.hid ((Below.refl w.heap.size w).alloc (Nat.le_refl _) (.cells ((([.req, .name] : List Fld).map Fld.no).map byteV).toArray 84))
  go_enter Tryz.func36, Tryz.ntmps36
  go_wp2
  go_ret
  exact ⟨HB.out, _, _, rfl, HR.out, fun b off h => by cases h; exact Nat.le_refl _⟩
set_option maxRecDepth 100000 in
set_option maxHeartbeats 1600000 in
theorem flds_21 (w : World) : Calls Tryz.prog 36 #[.int .u8 21] w fun e w' => FldsPost 21 w e w' := by
  have HR := Lib.hid (BReads.built w (([.req, .num, .page, .bytes] : List Fld).map Fld.no) 84 (by decide) (by decide))
  have HB := Lib.hid ((Below.refl w.heap.size w).alloc (Nat.le_refl _) (.cells ((([.req, .num, .page, .bytes] : List Fld).map Fld.no).map byteV).toArray 84))
  go_enter Tryz.func36, Tryz.ntmps36
  go_wp2
  go_ret
  exact ⟨HB.out, _, _, rfl, HR.out, fun b off h => by cases h; exact Nat.le_refl _⟩
set_option maxRecDepth 100000 in
set_option maxHeartbeats 1600000 in
theorem flds_22 (w : World) : Calls Tryz.prog 36 #[.int .u8 22] w fun e w' => FldsPost 22 w e w' := by
  have HR := Lib.hid (BReads.built w (([.req, .num] : List Fld).map Fld.no) 84 (by decide) (by decide))
  have HB := Lib.hid ((Below.refl w.heap.size w).alloc (Nat.le_refl _) (.cells ((([.req, .num] : List Fld).map Fld.no).map byteV).toArray 84))
  go_enter Tryz.func36, Tryz.ntmps36
  go_wp2
  go_ret
  exact ⟨HB.out, _, _, rfl, HR.out, fun b off h => by cases h; exact Nat.le_refl _⟩
set_option maxRecDepth 100000 in
set_option maxHeartbeats 1600000 in
theorem flds_23 (w : World) : Calls Tryz.prog 36 #[.int .u8 23] w fun e w' => FldsPost 23 w e w' := by
  have HR := Lib.hid (BReads.built w (([.req, .num] : List Fld).map Fld.no) 84 (by decide) (by decide))
  have HB := Lib.hid ((Below.refl w.heap.size w).alloc (Nat.le_refl _) (.cells ((([.req, .num] : List Fld).map Fld.no).map byteV).toArray 84))
  go_enter Tryz.func36, Tryz.ntmps36
  go_wp2
  go_ret
  exact ⟨HB.out, _, _, rfl, HR.out, fun b off h => by cases h; exact Nat.le_refl _⟩
set_option maxRecDepth 100000 in
set_option maxHeartbeats 1600000 in
theorem flds_24 (w : World) : Calls Tryz.prog 36 #[.int .u8 24] w fun e w' => FldsPost 24 w e w' := by
  have HR := Lib.hid (BReads.built w (([.req, .code, .version, .num, .names, .items, .hits] : List Fld).map Fld.no) 84 (by decide) (by decide))
  have HB := Lib.hid ((Below.refl w.heap.size w).alloc (Nat.le_refl _) (.cells ((([.req, .code, .version, .num, .names, .items, .hits] : List Fld).map Fld.no).map byteV).toArray 84))
  go_enter Tryz.func36, Tryz.ntmps36
  go_wp2
  go_ret
  exact ⟨HB.out, _, _, rfl, HR.out, fun b off h => by cases h; exact Nat.le_refl _⟩
set_option maxRecDepth 100000 in
set_option maxHeartbeats 1600000 in
theorem flds_out (k : Nat) (h : k = 0 ∨ 24 < k) (w : World) : Calls Tryz.prog 36 #[.int .u8 (k : Int)] w fun e w' => FldsPost k w e w' := by
  have HN := Lib.hid (show fldsM k = [] from by rw [fldsM, form_none2 k h]; rfl)
  have h1 : ((k : Int) == 1) = false := by simp; omega
  have h2 : ((k : Int) == 2) = false := by simp; omega
  have h3 : ((k : Int) == 3) = false := by simp; omega
  have h4 : ((k : Int) == 4) = false := by simp; omega
  have h5 : ((k : Int) == 5) = false := by simp; omega
  have h6 : ((k : Int) == 6) = false := by simp; omega
  have h7 : ((k : Int) == 7) = false := by simp; omega
  have h8 : ((k : Int) == 8) = false := by simp; omega
  have h9 : ((k : Int) == 9) = false := by simp; omega
  have h10 : ((k : Int) == 10) = false := by simp; omega
  have h11 : ((k : Int) == 11) = false := by simp; omega
  have h12 : ((k : Int) == 12) = false := by simp; omega
  have h13 : ((k : Int) == 13) = false := by simp; omega
  have h14 : ((k : Int) == 14) = false := by simp; omega
  have h15 : ((k : Int) == 15) = false := by simp; omega
  have h16 : ((k : Int) == 16) = false := by simp; omega
  have h17 : ((k : Int) == 17) = false := by simp; omega
  have h18 : ((k : Int) == 18) = false := by simp; omega
  have h19 : ((k : Int) == 19) = false := by simp; omega
  have h20 : ((k : Int) == 20) = false := by simp; omega
  have h21 : ((k : Int) == 21) = false := by simp; omega
  have h22 : ((k : Int) == 22) = false := by simp; omega
  have h23 : ((k : Int) == 23) = false := by simp; omega
  have h24 : ((k : Int) == 24) = false := by simp; omega
  clear h
  go_enter Tryz.func36, Tryz.ntmps36
  go_wp2
  go_ret
  refine ⟨Below.refl _ _, none, 0, ?_, ?_, fun b off h => by cases h⟩
  · rw [HN.out]
    rfl
  · rw [HN.out]
    exact BReads.nil _
theorem flds_any (k : Nat) (w : World) : Calls Tryz.prog 36 #[.int .u8 (k : Int)] w fun e w' => FldsPost k w e w' := by
  by_cases h : k = 0 ∨ 24 < k
  · exact flds_out k h w
  · have : k = 1 ∨ k = 2 ∨ k = 3 ∨ k = 4 ∨ k = 5 ∨ k = 6 ∨ k = 7 ∨ k = 8 ∨ k = 9 ∨ k = 10 ∨ k = 11 ∨ k = 12 ∨ k = 13 ∨ k = 14 ∨ k = 15 ∨ k = 16 ∨ k = 17 ∨ k = 18 ∨ k = 19 ∨ k = 20 ∨ k = 21 ∨ k = 22 ∨ k = 23 ∨ k = 24 := by omega
    rcases this with rfl | rfl | rfl | rfl | rfl | rfl | rfl | rfl | rfl | rfl | rfl | rfl | rfl | rfl | rfl | rfl | rfl | rfl | rfl | rfl | rfl | rfl | rfl | rfl
    · exact flds_1 w
    · exact flds_2 w
    · exact flds_3 w
    · exact flds_4 w
    · exact flds_5 w
    · exact flds_6 w
    · exact flds_7 w
    · exact flds_8 w
    · exact flds_9 w
    · exact flds_10 w
    · exact flds_11 w
    · exact flds_12 w
    · exact flds_13 w
    · exact flds_14 w
    · exact flds_15 w
    · exact flds_16 w
    · exact flds_17 w
    · exact flds_18 w
    · exact flds_19 w
    · exact flds_20 w
    · exact flds_21 w
    · exact flds_22 w
    · exact flds_23 w
    · exact flds_24 w
end Go.Proofs.YtemnmjfeljipjaaGreat
