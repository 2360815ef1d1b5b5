/-
  Layer 16: the program's table in plain words; New, Done, Acked, Len, Ask. (Made by tools/mkddf.py.)
-/
import Derived.Test.YtdgiellnklcioaaDde
import Derived.Test.YtdgiellnklcioaaMe
import Derived.Test.YtdgiellnklcioaaPr
import Derived.Deep.RegionHeld3
import Derived.BigQuiet
import Derived.Deep.QuietTactic
namespace Go.Proofs.Ytdgiellnklcioaa
open Go.RowKit Go.ChangeShapes Go.WideShapes Go.ChangeAt Go.Maps

def key32 (x : Nat) : Lit := .int .u32 (x : Int)
theorem key32_inj : ∀ a b : Nat, key32 a = key32 b → a = b := (fun a b h => by have h2 := (Lit.int.inj h).2; omega)
theorem key32_lit (x : Nat) : WideAt.IsKeyLit (key32 x) := by trivial
theorem key32_wf {v : Nat} (h : v < 4294967296) : (Lit.int .u32 (v : Int)).wf = true := by
  simp [Lit.wf, IntKind.min, IntKind.max, IntKind.signed, IntKind.bits]
  omega
/-- A table as mathematics has it: all answers that there ever were; how many were acknowledged. -/
structure TV where
  L : List MsgV
  acked : Nat
def TV.ask (t : TV) (req : Nat) : MsgV × Nat :=
  if req ≤ t.acked then (zeroM 0, 3) else if req ≤ t.L.length then (t.L.getD (req - 1) (zeroM 0), 2) else if req = t.L.length + 1 then (zeroM 0, 1) else (zeroM 0, 4)
def TV.keep (t : TV) (req : Nat) (a : MsgV) : Nat × TV :=
  if req ≠ t.L.length + 1 then (1, t) else if 1073741824 ≤ t.L.length then (6, t) else if 16 ≤ t.L.length - t.acked then (4, t) else (0, ⟨t.L ++ [a], t.acked⟩)
def TV.ack (t : TV) (n : Nat) : Nat × TV := if t.L.length < n then (1, t) else (0, ⟨t.L, max t.acked n⟩)
/-- The map's entries: the answers behind a. -/
def entE : Nat → List MsgL → List (Lit × Value)
  | _, [] => []
  | a, m :: r => (key32 (a + 1), .agg m.cells.toArray) :: entE (a + 1) r
theorem entE_len (a : Nat) (l : List MsgL) : (entE a l).length = l.length := by
  induction l generalizing a with
  | nil => rfl
  | cons m r ih => simp [entE, ih]
theorem entE_mem {a : Nat} {l : List MsgL} {i : Nat} {m : MsgL} (h : l[i]? = some m) : (key32 (a + i + 1), Value.agg m.cells.toArray) ∈ entE a l := by
  induction l generalizing a i with
  | nil => simp at h
  | cons y r ih =>
    cases i with
    | zero =>
      simp only [List.getElem?_cons_zero, Option.some.injEq] at h
      subst h
      simp [entE]
    | succ i =>
      have := ih (a := a + 1) (show r[i]? = some m by simpa using h)
      rw [show a + (i + 1) + 1 = a + 1 + i + 1 by omega]
      exact List.mem_cons_of_mem _ this
theorem entE_key {a : Nat} {l : List MsgL} : ∀ p ∈ entE a l, ∃ i, i < l.length ∧ p.1 = key32 (a + i + 1) := by
  induction l generalizing a with
  | nil => simp [entE]
  | cons y r ih =>
    intro p hp
    rcases List.mem_cons.1 hp with rfl | hp
    · exact ⟨0, by simp, rfl⟩
    · obtain ⟨i, hi, e⟩ := ih p hp
      exact ⟨i + 1, by simp; omega, by rw [e, show a + 1 + i + 1 = a + (i + 1) + 1 by omega]⟩
theorem entE_not {a n : Nat} {l : List MsgL} (h : n ≤ a ∨ a + l.length < n) : ∀ p ∈ entE a l, p.1 ≠ key32 n := by
  intro p hp e
  obtain ⟨i, hi, e2⟩ := entE_key p hp
  rw [e] at e2
  have := key32_inj _ _ e2
  omega
theorem dropE_not {E : List (Lit × Value)} {k : Nat} (h : ∀ p ∈ E, p.1 ≠ key32 k) : dropE E (key32 k) = E := by
  unfold dropE
  refine List.filter_eq_self.2 fun p hp => ?_
  rw [sameKey_ne (h p hp)]
  rfl
theorem entE_drop (a : Nat) (m : MsgL) (r : List MsgL) : dropE (entE a (m :: r)) (key32 (a + 1)) = entE (a + 1) r := by
  have h := dropE_not (entE_not (a := a + 1) (n := a + 1) (l := r) (.inl (Nat.le_refl _)))
  unfold dropE at h ⊢
  rw [entE, List.filter_cons, if_neg (by rw [WideAt.sameKey_self (key32_lit _)]; simp)]
  exact h
theorem entE_snoc (a : Nat) (l : List MsgL) (m : MsgL) : entE a (l ++ [m]) = entE a l ++ [(key32 (a + l.length + 1), .agg m.cells.toArray)] := by
  induction l generalizing a with
  | nil => rfl
  | cons y r ih =>
    show _ :: entE (a + 1) (r ++ [m]) = _
    rw [ih, List.length_cons, show a + 1 + r.length + 1 = a + (r.length + 1) + 1 by omega]
    rfl
theorem entE_put (a n : Nat) (l : List MsgL) (m : MsgL) (hn : n = a + l.length + 1) : putE (entE a l) (key32 n) (.agg m.cells.toArray) = entE a (l ++ [m]) := by
  unfold putE
  rw [dropE_not (entE_not (.inr (by omega))), entE_snoc, hn]
/-- The program's table: block x; its map, block b; the answers Ms behind acked. None of its memory is in G, or below lo. -/
structure TabD (w : World) (lo : Nat) (G : List Nat) (x b : Nat) (Ms : List MsgL) (done acked : Nat) : Prop where
  blk : Blk w x 68 [.map (some b), .int .u32 (done : Int), .int .u32 (acked : Int)]
  map : MapE w Try.prog 30 b (entE acked Ms)
  len : acked + Ms.length = done
  few : Ms.length ≤ 16
  most : done ≤ 1073741824
  each : ∀ m ∈ Ms, m.In (fun k => lo ≤ k ∧ k ≠ x ∧ k ≠ b ∧ k ∉ G) w
  gx : x ∉ G
  gb : b ∉ G
  lx : lo ≤ x
  lb : lo ≤ b
  gl : ∀ g ∈ G, g < w.heap.size
/-- The table as a law has it. -/
def DIs (w : World) (lo : Nat) (G : List Nat) (x : Nat) (t : TV) : Prop := ∃ b Ms, TabD w lo G x b Ms t.L.length t.acked ∧ Ms.map MsgL.toM = t.L.drop t.acked
/-- What a call leaves of all else. -/
structure Spare (lo : Nat) (G : List Nat) (w w' : World) : Prop where
  below : Below lo w w'
  g : ∀ k ∈ G, k < w.heap.size → w'.heap[k]? = w.heap[k]?
section
variable {w w' : World} {lo x b done acked : Nat} {G : List Nat} {Ms : List MsgL} {t : TV}
theorem TabD.ne (h : TabD w lo G x b Ms done acked) : b ≠ x := h.map.ne_blk h.blk
theorem TabD.kept (h : TabD w lo G x b Ms done acked) {F : List Nat} (hk : Kept F w w') (hF : ∀ k ∈ F, k ∈ G ∨ k < lo) : TabD w' lo G x b Ms done acked := by
  have nx : x ∉ F := fun hx => by
    rcases hF x hx with h1 | h1
    · exact h.gx h1
    · have := h.lx; omega
  have nb : b ∉ F := fun hx => by
    rcases hF b hx with h1 | h1
    · exact h.gb h1
    · have := h.lb; omega
  exact ⟨hk.blk h.blk nx, h.map.kept hk nb, h.len, h.few, h.most, fun m hm => (h.each m hm).kept hk fun k hk ho => by
    rcases hF k hk with h1 | h1
    · exact ho.2.2.2 h1
    · omega, h.gx, h.gb, h.lx, h.lb, fun g hg => Nat.lt_of_lt_of_le (h.gl g hg) hk.size⟩
theorem TabD.on (h : TabD w lo G x b Ms done acked) (hb : Below w.heap.size w w') : TabD w' lo G x b Ms done acked := h.kept (F := []) (Kept.of_below hb (Nat.le_refl _)) (by simp)
theorem TabD.grow (h : TabD w lo G x b Ms done acked) {w' : World} {G' : List Nat} (hG : ∀ k ∈ G', k < w'.heap.size ∧ (k ∈ G ∨ w.heap.size ≤ k)) (hbw : Below w.heap.size w w') : TabD w' lo G' x b Ms done acked := by
  have hx := h.blk.lt
  have hb := h.map.lt
  have h' := h.on hbw
  exact ⟨h'.blk, h'.map, h.len, h.few, h.most, fun m hm => (h.each m hm).stay hbw.size (fun k _ hk => hbw.block k hk) fun k ho hlt => ⟨ho.1, ho.2.1, ho.2.2.1, fun hg => by
    rcases (hG k hg).2 with h1 | h1
    · exact ho.2.2.2 h1
    · omega⟩, fun hg => by
    rcases (hG x hg).2 with h1 | h1
    · exact h.gx h1
    · omega, fun hg => by
    rcases (hG b hg).2 with h1 | h1
    · exact h.gb h1
    · omega, h.lx, h.lb, fun g hg => (hG g hg).1⟩
theorem DIs.kept (h : DIs w lo G x t) {F : List Nat} (hk : Kept F w w') (hF : ∀ k ∈ F, k ∈ G ∨ k < lo) : DIs w' lo G x t := by
  obtain ⟨b, Ms, h1, h2⟩ := h
  exact ⟨b, Ms, h1.kept hk hF, h2⟩
theorem DIs.on (h : DIs w lo G x t) (hb : Below w.heap.size w w') : DIs w' lo G x t := h.kept (F := []) (Kept.of_below hb (Nat.le_refl _)) (by simp)
theorem DIs.grow (h : DIs w lo G x t) {w' : World} {G' : List Nat} (hG : ∀ k ∈ G', k < w'.heap.size ∧ (k ∈ G ∨ w.heap.size ≤ k)) (hbw : Below w.heap.size w w') : DIs w' lo G' x t := by
  obtain ⟨b, Ms, h1, h2⟩ := h
  exact ⟨b, Ms, h1.grow hG hbw, h2⟩
theorem DIs.facts (h : DIs w lo G x t) : t.acked ≤ t.L.length ∧ t.L.length ≤ t.acked + 16 ∧ t.L.length ≤ 1073741824 := by
  obtain ⟨b, Ms, h1, h2⟩ := h
  have := h1.len
  have := h1.few
  have := h1.most
  omega
theorem Spare.of (h : Below w.heap.size w w') (hlo : lo ≤ w.heap.size) : Spare lo G w w' := ⟨h.mono hlo, fun k _ hlt => h.block k hlt⟩
theorem Spare.trans {w'' : World} (h : Spare lo G w w') (h' : Spare lo G w' w'') : Spare lo G w w'' := ⟨h.below.trans h'.below, fun k hk hlt => (h'.g k hk (Nat.lt_of_lt_of_le hlt h.below.size)).trans (h.g k hk hlt)⟩
theorem Spare.refl : Spare lo G w w := ⟨Below.refl _ _, fun _ _ _ => rfl⟩
theorem Spare.blk {g : Nat} {ty : TypeId} {cs : List Value} (h : Spare lo G w w') (hb : Blk w g ty cs) (hg : g ∈ G) : Blk w' g ty cs := (h.g g hg hb.lt).trans hb
end

section
variable {ops : Array Oper} {rest : List Oper} {o : Oper} {a : Act} {Q : Exit → Act → World → Prop}
theorem du_look (w : World) (hg : o.guard = none) (m x : Operand) (hop : o.op = Op.lookup 66 m x false) (b : Nat) (E : List (Lit × Value)) (hm : a.eval m = .map (some b)) (h : MapE w Try.prog 30 b E) (n : Nat) (hn : n < 4294967296) (hx : a.eval x = .int .u32 (n : Int)) (z : Value) (hz : (key32 n, z) ∈ E)
    (hK : wpList Try.prog ops Q rest (a.put o.dst z) w) : wpList Try.prog ops Q (o :: rest) a w :=
  map_found w hg m x _ hop 30 45 (Maps.int_keyed Try.underlying30) Try.underlying66 (msg_zero w) b E hm h _ (key32 n) hx (Maps.keyOf_int_mk Try.underlying30 (key32_wf hn)) (key32_lit n) z hz hK
theorem du_len (w : World) (hg : o.guard = none) (m : Operand) (hop : o.op = Op.call { callee := Callee.builtin Builtin.len, args := #[m], argTypes := #[66] }) (b : Nat) (E : List (Lit × Value)) (n : Nat) (hn : E.length = n) (hm : a.eval m = .map (some b)) (h : MapE w Try.prog 30 b E)
    (hK : wpList Try.prog ops Q rest (a.put o.dst (.int .i64 (n : Int))) w) : wpList Try.prog ops Q (o :: rest) a w :=
  map_len w hg m _ hop 30 45 Try.underlying66 b E n hn hm h hK
theorem du_del (w : World) (hg : o.guard = none) (m x : Operand) (hop : o.op = Op.call { callee := Callee.builtin Builtin.delete, args := #[m, x], argTypes := #[66, 30] }) (b : Nat) (E : List (Lit × Value)) (hm : a.eval m = .map (some b)) (h : MapE w Try.prog 30 b E) (n : Nat) (hn : n < 4294967296) (hx : a.eval x = .int .u32 (n : Int))
    (hK : ∀ w', MapE w' Try.prog 30 b (dropE E (key32 n)) → Kept [b] w w' → wpList Try.prog ops Q rest (a.put o.dst (.tuple #[])) w') : wpList Try.prog ops Q (o :: rest) a w :=
  map_del w hg m x _ _ hop 45 (Maps.int_keyed Try.underlying30) Try.underlying66 b E hm h _ (key32 n) hx (Maps.keyOf_int_mk Try.underlying30 (key32_wf hn)) hK
end
theorem du_put {w : World} {b : Nat} {E : List (Lit × Value)} {n : Nat} (h : MapE w Try.prog 30 b E) (hn : n < 4294967296) (hl : E.length ≤ 1000000) (v : Value) : ∃ w', (Instr.mapUpdate 66 (.map (some b)) (.int .u32 (n : Int)) v).run Try.prog w = .ok () w' ∧ MapE w' Try.prog 30 b (putE E (key32 n) v) ∧ Kept [b] w w' := by
  have h0 := h
  obtain ⟨⟨es, h1, h2⟩, h3, h4⟩ := h
  obtain ⟨w', hrun, r1, r2⟩ := h1.update (Maps.int_keyed Try.underlying30) Try.underlying66 (by unfold maxLen; omega) (Maps.keyOf_int_mk Try.underlying30 (key32_wf hn)) (show rawElem v = some (.held v, []) from rfl)
  exact ⟨w', hrun, h0.put (key32_lit n) r1 h2, kept_grown r2⟩

set_option maxRecDepth 100000 in
set_option maxHeartbeats 3200000 in
theorem dnew_any (w : World) (lo : Nat) (hlo : lo ≤ w.heap.size) : Calls Try.prog 8 #[] w fun e w' => ∃ x, e = .returned (.pointer (some ⟨x, 0, none⟩)) ∧ Below w.heap.size w w' ∧ DIs w' lo [] x ⟨[], 0⟩ := by
  obtain ⟨w1, hw1⟩ : ∃ w1, w.alloc (.map #[] 0) = w1 := ⟨_, rfl⟩
  obtain ⟨w2, hw2⟩ : ∃ w2, w1.alloc (.cells #[.map (some w.heap.size), .int .u32 0, .int .u32 0] 68) = w2 := ⟨_, rfl⟩
  have b1 : Below w.heap.size w w1 := by rw [← hw1]; exact (Below.refl _ _).alloc (Nat.le_refl _) _
  have b2 : Below w1.heap.size w1 w2 := by rw [← hw2]; exact (Below.refl _ _).alloc (Nat.le_refl _) _
  have hs1 : w1.heap.size = w.heap.size + 1 := by rw [← hw1]; simp
  have R := Lib.hid (show Below w.heap.size w w2 ∧ DIs w2 lo [] (w.heap.size + 1) ⟨[], 0⟩ from by
    rw [← hs1]
    have hM : MapE w1 Try.prog 30 w.heap.size [] := by rw [← hw1]; exact MapE.made w Try.prog 30
    have hb : Blk w2 w1.heap.size 68 [.map (some w.heap.size), .int .u32 0, .int .u32 0] := by rw [← hw2]; exact Blk.new _ _ _
    exact ⟨below_on b1 b2, w.heap.size, [], ⟨hb, hM.on b2, rfl, Nat.zero_le _, Nat.zero_le _, by simp, by simp, by simp, by omega, hlo, by simp⟩, rfl⟩)
  clear b1 b2
  have hmm := @run_makeMap Try.prog
  go_enter Try.func8, Try.ntmps8
  go_wp2
  go_ret
  exact ⟨_, rfl, R.out.1, R.out.2⟩
set_option maxRecDepth 100000 in
set_option maxHeartbeats 3200000 in
theorem ddone_any (w : World) (lo x : Nat) (G : List Nat) (t : TV) (h : DIs w lo G x t) : Calls Try.prog 17 #[.pointer (some ⟨x, 0, none⟩)] w fun e w' => e = .returned (.int .u32 (t.L.length : Int)) ∧ w = w' := by
  obtain ⟨b, Ms, h1, -⟩ := h
  have c1 : w.cell? ⟨x, 1, none⟩ = some (.int .u32 (t.L.length : Int)) := h1.blk.cell 1
  clear h1
  go_enter Try.func17, Try.ntmps17
  go_wp2
  go_ret
  exact ⟨rfl, rfl⟩
set_option maxRecDepth 100000 in
set_option maxHeartbeats 3200000 in
theorem dacked_any (w : World) (lo x : Nat) (G : List Nat) (t : TV) (h : DIs w lo G x t) : Calls Try.prog 18 #[.pointer (some ⟨x, 0, none⟩)] w fun e w' => e = .returned (.int .u32 (t.acked : Int)) ∧ w = w' := by
  obtain ⟨b, Ms, h1, -⟩ := h
  have c1 : w.cell? ⟨x, 2, none⟩ = some (.int .u32 (t.acked : Int)) := h1.blk.cell 2
  clear h1
  go_enter Try.func18, Try.ntmps18
  go_wp2
  go_ret
  exact ⟨rfl, rfl⟩
set_option maxRecDepth 100000 in
set_option maxHeartbeats 3200000 in
theorem dlen_any (w : World) (lo x : Nat) (G : List Nat) (t : TV) (h : DIs w lo G x t) : Calls Try.prog 19 #[.pointer (some ⟨x, 0, none⟩)] w fun e w' => e = .returned (.int .i64 ((t.L.length - t.acked : Nat) : Int)) ∧ w = w' := by
  obtain ⟨b, Ms, h1, -⟩ := h
  have c1 : w.cell? ⟨x, 0, none⟩ = some (.map (some b)) := h1.blk.cell 0
  have HM := Lib.hid h1.map
  obtain ⟨n, hn⟩ : ∃ n, t.L.length - t.acked = n := ⟨_, rfl⟩
  have HL := Lib.hid (show (entE t.acked Ms).length = n by rw [entE_len]; have := h1.len; omega)
  rw [hn]
  clear h1 hn
  go_enter Try.func19, Try.ntmps19
  go_wp2_with (first | (at_len; refine du_len _ rfl _ rfl b _ _ HL.out rfl HM.out ?_) | fail)
  go_ret
  exact ⟨rfl, rfl⟩
/-- What Ask tells. -/
def AskPost (t : TV) (req : Nat) (w : World) (e : Ending) (w' : World) : Prop := ∃ y : MsgL, e = .returned (.tuple #[.agg y.cells.toArray, .int .u8 ((t.ask req).2 : Int)]) ∧ Below w.heap.size w w' ∧ y.In (w.heap.size ≤ ·) w' ∧ y.toM = (t.ask req).1
theorem results_row_tmp {P : Program} {fn : Func} {p q : Tmp} {ty : TypeId} (h : fn.results = #[.cell p ty, .tmp q]) (tmps : Array Value) (w : World) (g : Nat) (t : TypeId) (cs : Array Value) (fr : Nat × Nat) (d : TypeDesc)
    (hp : tmps.getD p undef = .pointer (some ⟨g, 0, none⟩)) (hg : w.heap[g]? = some (.cells cs t fr))
    (hu : P.underlying ty = some d) (hd : (match d with | .struct _ | .array _ _ => true | _ => false) = true) (hi : (P.info? ty).map (·.size) = some cs.size) (v : Value) (hv : tmps.getD q undef = v) :
    (results fn tmps).run P w = .ok (.tuple #[.agg cs, v]) w := by
  have hp' : tmps[p]?.getD undef = .pointer (some ⟨g, 0, none⟩) := by simpa using hp
  have hv' : tmps[q]?.getD undef = v := by simpa using hv
  simp [results, h, hp', hv', asAddr, run_loadVar_row w g t ty cs fr d hg hu hd hi]
set_option maxRecDepth 100000 in
set_option maxHeartbeats 3200000 in
theorem dask_any (w : World) (lo x : Nat) (G : List Nat) (t : TV) (h : DIs w lo G x t) (req : Nat) (hr : req < 4294967296) : Calls Try.prog 10 #[.pointer (some ⟨x, 0, none⟩), .int .u32 (req : Int)] w (AskPost t req w) := by
  obtain ⟨b, Ms, h1, h2⟩ := h
  obtain ⟨Z, hZ⟩ : ∃ Z, (zeroL 0).cells.toArray = Z := ⟨_, rfl⟩
  have hz := msg_zero
  rw [hZ] at hz
  have hb1 : (Z = #[]) = False := by
    rw [← hZ]
    simp [MsgL.cells]
  have hb4 : Z.size = 28 := by
    rw [← hZ]
    rfl
  have hinfoZ : (Try.prog.info? 45).map (·.size) = some Z.size := by
    rw [hb4]
    exact msg_size16
  obtain ⟨w1, hw1⟩ : ∃ w1, w.alloc (.cells Z 45) = w1 := ⟨_, rfl⟩
  have b1 : Below w.heap.size w w1 := by rw [← hw1]; exact (Below.refl _ _).alloc (Nat.le_refl _) _
  have hs1 : w1.heap.size = w.heap.size + 1 := by rw [← hw1]; simp
  have Y1 := Lib.hid (show Blk w1 w.heap.size 45 (zeroL 0).cells from by rw [← hw1, ← hZ]; exact Blk.new w 45 (zeroL 0).cells.toArray)
  have hst := msg_store w1 w.heap.size _ (zeroL 0) Y1.out rfl
  rw [hZ] at hst
  have H1 := h1.on b1
  obtain ⟨n, hn⟩ : ∃ n, t.L.length = n := ⟨_, rfl⟩
  obtain ⟨k, hk⟩ : ∃ k, t.acked = k := ⟨_, rfl⟩
  have HN := Lib.hid hn
  have HK := Lib.hid hk
  rw [hn, hk] at H1 h1
  have hlen := h1.len
  have hmost := h1.most
  have c0 : w1.cell? ⟨x, 0, none⟩ = some (.map (some b)) := H1.blk.cell 0
  have c1 : w1.cell? ⟨x, 1, none⟩ = some (.int .u32 (n : Int)) := H1.blk.cell 1
  have c2 : w1.cell? ⟨x, 2, none⟩ = some (.int .u32 (k : Int)) := H1.blk.cell 2
  have HM := Lib.hid H1.map
  have HE := Lib.hid H1.each
  have HD := Lib.hid h2
  have ZP := Lib.hid (fun (v : Nat) (hv : t.ask req = (zeroM 0, v)) => show (w1.setRow w.heap.size Z).heap[w.heap.size]? = some (.cells Z 45 (0, 0)) ∧ AskPost t req w (.returned (.tuple #[.agg Z, .int .u8 (v : Int)])) (w1.setRow w.heap.size Z) from by
    have hk := setRow_kept w1 w.heap.size Z
    rw [← hZ] at hk ⊢
    exact ⟨setRow_blk Y1.out (zeroL 0), zeroL 0, by rw [hv], b1.trans (hk.below (fun b hb => by simp at hb; omega) b1.size), zeroL_in _ _ 0 (by decide), by rw [hv]; rfl⟩)
  have B1 := Lib.hid b1
  have HZ := Lib.hid hZ
  clear h1 h2 H1 b1 hn hk hZ
  by_cases ha : req ≤ k
  · have R := Lib.hid (ZP.out 3 (by unfold TV.ask; rw [HK.out, if_pos ha]))
    clear ZP
    have ha' : decide (req ≤ k) = true := decide_eq_true ha
    go_enter Try.func10, Try.ntmps10
    go_wp2
    (try simp only [Exit.inBlock, Exit.then])
    refine bodyPost_ret (results_row_tmp (p := 4) (q := 5) (ty := 45) rfl _ (w1.setRow w.heap.size Z) w.heap.size 45 Z (0, 0) _ rfl R.out.1 Try.underlying45 rfl hinfoZ (.int .u8 ((3 : Nat) : Int)) rfl) rfl ?_
    exact R.out.2
  · have ha' : decide (req ≤ k) = false := decide_eq_false ha
    by_cases hd : req ≤ n
    · have hd' : decide (req ≤ n) = true := decide_eq_true hd
      obtain ⟨m, hm⟩ : ∃ m, Ms[req - k - 1]? = some m := ⟨_, List.getElem?_eq_getElem (by omega)⟩
      obtain ⟨M, hM⟩ : ∃ M, m.cells.toArray = M := ⟨_, rfl⟩
      have HIN := Lib.hid (show (key32 req, Value.agg M) ∈ entE k Ms from by
        have := entE_mem (a := k) hm
        rw [show k + (req - k - 1) + 1 = req by omega, hM] at this
        exact this)
      have HV := Lib.hid (show m.toM = (t.ask req).1 ∧ (t.ask req).2 = 2 from by
        have h3 : (Ms.map MsgL.toM)[req - k - 1]? = some m.toM := by rw [List.getElem?_map, hm]; rfl
        rw [HD.out, List.getElem?_drop, HK.out, show k + (req - k - 1) = req - 1 by omega] at h3
        unfold TV.ask
        rw [HK.out, HN.out, if_neg ha, if_pos hd]
        refine ⟨?_, rfl⟩
        show m.toM = t.L.getD (req - 1) (zeroM 0)
        rw [List.getD_eq_getElem?_getD, h3]
        rfl)
      have HMI := Lib.hid ((HE.out m (List.mem_of_getElem? hm)).mono (ok' := fun _ => True) fun _ _ _ => trivial)
      have HMM := Lib.hid hM
      have hr' := Lib.hid hr
      clear ZP HE HD hM hm hlen hmost hst
      go_enter Try.func10, Try.ntmps10
      go_wp2_with (first | (at_lookup; refine du_look _ rfl _ _ rfl b _ rfl HM.out req hr'.out rfl _ HIN.out ?_) | fail)
      rw [← HMM.out]
      refine (cloneM_any m w1 HMI.out).mono ?_
      rintro e w2 ⟨y, rfl, hb2, hin2, hto⟩
      rw [HMM.out]
      obtain ⟨Y, hY⟩ : ∃ Y, y.cells.toArray = Y := ⟨_, rfl⟩
      have Y2 := Lib.hid ((Kept.of_below (F := []) hb2 (Nat.le_refl _)).blk Y1.out (by simp))
      have hst := msg_store w2 w.heap.size _ y Y2.out rfl
      rw [hY] at hst ⊢
      have hY1 : (Y = #[]) = False := by rw [← hY]; simp [MsgL.cells]
      have hY2 : Y.size = 28 := by rw [← hY]; rfl
      have hinfoY : (Try.prog.info? 45).map (·.size) = some Y.size := by rw [hY2]; exact msg_size16
      have R := Lib.hid (show (w2.setRow w.heap.size Y).heap[w.heap.size]? = some (.cells Y 45 (0, 0)) ∧ AskPost t req w (.returned (.tuple #[.agg Y, .int .u8 2])) (w2.setRow w.heap.size Y) from by
        have hk := setRow_kept w2 w.heap.size Y
        rw [← hY] at hk ⊢
        have hbb : Below w.heap.size w w2 := B1.out.trans (hb2.mono (by omega))
        exact ⟨setRow_blk Y2.out y, y, by rw [HV.out.2]; rfl, hbb.trans (hk.below (fun b hb => by simp at hb; omega) hbb.size), hin2.stay hk.size (fun k ho hlt => hk.block k hlt (fun hx => by simp at hx; omega)) (fun k h _ => by omega), by rw [hto, HV.out.1]⟩)
      clear hb2 hin2 hto hY Y1 Y2 B1 HV HIN HM HMI
      go_wp2
      (try simp only [Exit.inBlock, Exit.then])
      refine bodyPost_ret (results_row_tmp (p := 4) (q := 5) (ty := 45) rfl _ (w2.setRow w.heap.size Y) w.heap.size 45 Y (0, 0) _ rfl R.out.1 Try.underlying45 rfl hinfoY (.int .u8 2) rfl) rfl ?_
      exact R.out.2
    · have hd' : decide (req ≤ n) = false := decide_eq_false hd
      have hw : IntKind.u32.wrap ((n : Int) + 1) = ((n + 1 : Nat) : Int) := by rw [IntKind.wrap_u32]; omega
      obtain ⟨n1, hn1⟩ : ∃ n1, n + 1 = n1 := ⟨_, rfl⟩
      rw [hn1] at hw
      by_cases hf : req = n1
      · have R := Lib.hid (ZP.out 1 (by unfold TV.ask; rw [HK.out, HN.out, if_neg ha, if_neg hd, hn1, if_pos hf]))
        have hf' : ((req : Int) == (n1 : Int)) = true := by rw [beq_iff_eq]; omega
        clear ZP hf hn1 HE HD HM
        go_enter Try.func10, Try.ntmps10
        go_wp2
        (try simp only [Exit.inBlock, Exit.then])
        refine bodyPost_ret (results_row_tmp (p := 4) (q := 5) (ty := 45) rfl _ (w1.setRow w.heap.size Z) w.heap.size 45 Z (0, 0) _ rfl R.out.1 Try.underlying45 rfl hinfoZ (.int .u8 ((1 : Nat) : Int)) rfl) rfl ?_
        exact R.out.2
      · have R := Lib.hid (ZP.out 4 (by unfold TV.ask; rw [HK.out, HN.out, if_neg ha, if_neg hd, hn1, if_neg hf]))
        have hf' : ((req : Int) == (n1 : Int)) = false := by rw [beq_eq_false_iff_ne]; omega
        clear ZP hf hn1 HE HD HM
        go_enter Try.func10, Try.ntmps10
        go_wp2
        (try simp only [Exit.inBlock, Exit.then])
        refine bodyPost_ret (results_row_tmp (p := 4) (q := 5) (ty := 45) rfl _ (w1.setRow w.heap.size Z) w.heap.size 45 Z (0, 0) _ rfl R.out.1 Try.underlying45 rfl hinfoZ (.int .u8 ((4 : Nat) : Int)) rfl) rfl ?_
        exact R.out.2
end Go.Proofs.Ytdgiellnklcioaa
