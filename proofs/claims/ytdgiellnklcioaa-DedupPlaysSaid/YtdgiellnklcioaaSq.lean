/-
  Rows of the call's own whose elements are things of a shape: numbers, texts, structs with slices in them; append of one more. No program stands here.
-/
import Derived.Test.YtdgiellnklcioaaSi
import Derived.Maps.AppendAt
namespace Go.Proofs.Ytdgiellnklcioaa
open Go.RowKit Go.ChangeShapes Go.WideShapes Go.ChangeAt

/-- The block of a row of the call's own. -/
def ownB (v : Value) : List Nat := match v.ownBlock with | some k => [k] | none => []
theorem mem_ownB {v : Value} {k : Nat} : k ∈ ownB v ↔ v.ownBlock = some k := by
  unfold ownB
  cases v.ownBlock <;> simp [eq_comm]

theorem Rd.one {ok : Nat → Prop} {w : World} : ∀ {s : Sh} {cs : List Value} {x : s.T}, Rd ok w s cs x → ∀ u ∈ cs, u.oneCell' = true
  | .bool, cs, x, h => by
    obtain rfl := Rd.bool_is h
    simp [Value.oneCell']
  | .int k, cs, x, h => by
    obtain ⟨rfl, _⟩ := Rd.int_is h
    simp [Value.oneCell']
  | .str, cs, x, h => by
    obtain ⟨rfl, _⟩ := Rd.str_is h
    simp [Value.oneCell']
  | .slice e sz, cs, xs, h => by
    obtain ⟨a, n, c, rfl, _⟩ := Rd.slice_is0 h
    simp [Value.oneCell']
  | .unit, cs, x, h => by
    obtain rfl := Rd.unit_is h
    simp
  | .pair a b, cs, x, h => by
    obtain ⟨c1, c2, rfl, h1, h2⟩ := Rd.pair_is h
    intro u hu
    rcases List.mem_append.1 hu with hu | hu
    · exact h1.one u hu
    · exact h2.one u hu

theorem flatten_len {α : Type} (css : List (List α)) (k : Nat) (h : ∀ cs ∈ css, cs.length = k) : css.flatten.length = css.length * k := by
  induction css with
  | nil => simp
  | cons c css ih =>
    rw [List.flatten_cons, List.length_append, ih (fun cs hc => h cs (by simp [hc])), h c (by simp), List.length_cons, Nat.add_mul]
    omega
theorem flatten_at {α : Type} (css : List (List α)) (k : Nat) (h : ∀ cs ∈ css, cs.length = k) (i : Nat) (cs : List α) (hi : css[i]? = some cs) (j : Nat) (hj : j < k) : css.flatten[i * k + j]? = cs[j]? := by
  induction css generalizing i with
  | nil => simp at hi
  | cons c css ih =>
    have hc := h c (by simp)
    cases i with
    | zero =>
      simp only [List.getElem?_cons_zero, Option.some.injEq] at hi
      subst hi
      rw [List.flatten_cons, Nat.zero_mul, Nat.zero_add, List.getElem?_append_left (by omega)]
    | succ i =>
      rw [List.flatten_cons, List.getElem?_append_right (by rw [hc, Nat.add_mul]; omega), hc, show (i + 1) * k + j - k = i * k + j by rw [Nat.add_mul]; omega]
      exact ih (fun cs hcs => h cs (by simp [hcs])) i (by simpa using hi)

/-- A row of the call's own of things of shape e; what they hold lies neither below lo nor in the row itself. -/
def OwnR (lo : Nat) (w : World) (t : TypeId) (e : Sh) (v : Value) (xs : List e.T) : Prop :=
  ∃ css : List (List Value), css.length = xs.length ∧ (∀ (i : Nat) (x : e.T), xs[i]? = some x → ∃ cs, css[i]? = some cs ∧ Rd (fun k => lo ≤ k ∧ v.ownBlock ≠ some k) w e cs x) ∧ w.ownsRow lo t e.cells v xs.length css.flatten

section
variable {lo : Nat} {w w' : World} {t : TypeId} {e : Sh} {v : Value} {xs : List e.T}
theorem OwnR.nil (lo : Nat) (w : World) (t : TypeId) (e : Sh) : OwnR lo w t e (.slice none 0 0) [] := ⟨[], rfl, fun i x hx => by simp at hx, ⟨by simp, .inl ⟨rfl, rfl⟩⟩⟩
theorem OwnR.lt (h : OwnR lo w t e v xs) : ∀ k, v.ownBlock = some k → lo ≤ k ∧ k < w.heap.size := by
  obtain ⟨css, _, _, h3⟩ := h
  exact fun k hk => World.ownsRow.lt h3 k hk
theorem OwnR.each {css : List (List Value)} (h1 : css.length = xs.length) (h2 : ∀ (i : Nat) (x : e.T), xs[i]? = some x → ∃ cs, css[i]? = some cs ∧ Rd (fun k => lo ≤ k ∧ v.ownBlock ≠ some k) w e cs x) : ∀ cs ∈ css, cs.length = e.cells := by
  intro cs hcs
  obtain ⟨i, hi⟩ := List.getElem?_of_mem hcs
  have hlt : i < xs.length := by rw [← h1]; exact (List.getElem?_eq_some_iff.1 hi).1
  obtain ⟨cs', h3, h4⟩ := h2 i _ (List.getElem?_eq_getElem hlt)
  rw [hi] at h3
  rw [Option.some.inj h3]
  exact h4.len
/-- Blocks below lo may turn. -/
theorem OwnR.kept {F : List Nat} (h : OwnR lo w t e v xs) (hk : Kept F w w') (hF : ∀ k ∈ F, k < lo) : OwnR lo w' t e v xs := by
  have hlt := h.lt
  obtain ⟨css, h1, h2, h3⟩ := h
  refine ⟨css, h1, fun i x hx => ?_, hk.own h3 (fun k hk hF' => by have := hF k hF'; have := hlt k hk; omega)⟩
  obtain ⟨cs, h4, h5⟩ := h2 i x hx
  exact ⟨cs, h4, h5.kept hk (fun k hk ho => by have := hF k hk; omega)⟩
theorem OwnR.on (h : OwnR lo w t e v xs) (hb : Below w.heap.size w w') : OwnR lo w' t e v xs := h.kept (F := []) (Kept.of_below hb (Nat.le_refl _)) (by simp)
theorem OwnR.form (h : OwnR lo w t e v xs) : ∃ a n c, v = .slice a n c ∧ Hid (xs.length = n) := by
  obtain ⟨css, _, _, h3⟩ := h
  rcases h3.2 with ⟨rfl, h0⟩ | ⟨g, cap, cur, rfl, _⟩
  · exact ⟨none, 0, 0, rfl, h0⟩
  · exact ⟨_, _, cap, rfl, rfl⟩
/-- The row as a slice that reads. -/
theorem OwnR.rd (h : OwnR lo w t e v xs) (sz : Nat) (h0 : 0 < sz) (hs : xs.length * sz ≤ 140737488351232) : Rd (lo ≤ ·) w (.slice e sz) [v] xs := by
  have hsm : xs.length ≤ 140737488351232 := by have := Nat.mul_le_mul_left xs.length h0; omega
  have hown := h.lt
  obtain ⟨css, h1, h2, h3⟩ := h
  have heach := OwnR.each h1 h2
  rcases h3.2 with ⟨rfl, hn⟩ | ⟨g, cap, cur, rfl, hg, hh, hn, hcap, hsz, htake⟩
  · exact Rd.slice_mk ⟨none, 0, 0, rfl, hn, by omega, by omega, Nat.le_refl _, fun _ => ⟨rfl, rfl⟩, .inl rfl⟩
  · refine Rd.slice_mk ⟨some ⟨g, 0, none⟩, xs.length, cap, rfl, rfl, hs, hsm, hn, (fun h => by cases h), .inr ⟨g, 0, rfl, hg, (hown g rfl).2, fun i x hx => ?_⟩⟩
    obtain ⟨cs, h4, h5⟩ := h2 i x hx
    refine ⟨cs, h5.len, fun j hj => ?_, h5.mono fun k hk _ => hk.1⟩
    rw [Nat.zero_add, cell_of_row w g (i * e.cells + j) _ t (0, 0) hh, ← flatten_at css e.cells heach i cs h4 j hj, ← htake, List.getElem?_take_of_lt, ← Array.getElem?_toList]
    have hi : i < xs.length := (List.getElem?_eq_some_iff.1 hx).1
    have := Nat.mul_le_mul_right e.cells (show i + 1 ≤ xs.length from hi)
    rw [Nat.add_mul] at this
    omega

/-- append(v, x), x one thing that the text has laid as a row of one. -/
theorem app_row {P : Program} {ops : Array Oper} {rest : List Oper} {o : Oper} {act : Act} {Q : Exit → Act → World → Prop} (w : World) (hg : o.guard = none) (s y : Operand) (st : TypeId)
    (hop : o.op = .call { callee := .builtin .append, args := #[s, y], argTypes := #[st, st] }) (hu : P.underlying st = some (.slice t)) (z : Value) (sz : Nat) (hi : (P.info? t).map (fun i => (i.zero, i.size, i.bytes)) = some (some z, e.cells, sz)) (hzc : z.cells.size = e.cells) (hc0 : 0 < e.cells)
    (x : e.T) (cs : List Value) (hs : act.eval s = v) (hy : act.eval y = .slice (some ⟨w.heap.size, 0, none⟩) 1 1) (hown : OwnR lo w t e v xs) (hx : Rd (fun k => lo ≤ k ∧ v.ownBlock ≠ some k) w e cs x) (hlo : lo ≤ w.heap.size) (hb : (xs.length + 1) * sz ≤ 140737488355328) (hl : xs.length ≤ 2000000)
    (K : ∀ v' w', OwnR lo w' t e v' (xs ++ [x]) → Kept (ownB v) w w' → Grows w (ownB v) (ownB v') → wpList P ops Q rest (act.put o.dst v') w') : wpList P ops Q (o :: rest) act (w.alloc (.cells cs.toArray t)) := by
  obtain ⟨i0, hi, hz0, hz1, hz2⟩ := info_parts hi
  have hlt := hown.lt
  obtain ⟨css, h1, h2, h3⟩ := hown
  have heach := OwnR.each h1 h2
  have hcl : cs.length = 1 * e.cells := by rw [hx.len, Nat.one_mul]
  refine wpList_append_own_at _ hg s y st hop lo t i0 z e.cells sz hu hi hz0 hz1 hz2 hzc hc0 v xs.length css.flatten hs (World.ownsRow.alloc h3 _) ⟨w.heap.size, 0, none⟩ 1 1 cs hy hcl ?_ hx.one (by unfold maxLen; omega) hb (by simp; omega) ?_
  · intro j u hj
    rw [add_plain, Nat.zero_add, World.cell?_alloc_at _ _ _ _ rfl, ← hj]
    simp
  · intro v' w' ho hgr _ hloc
    have hk : Kept (ownB v) w w' := ((Kept.refl _ _).alloc _).grown hgr (fun k hk => .inl (mem_ownB.2 hk))
    have hgw : Grows w (ownB v) (ownB v') := by
      intro k hk
      rcases hloc with h | h
      · exact .inl (mem_ownB.2 (by rw [← h]; exact mem_ownB.1 hk))
      · have := mem_ownB.1 hk
        rw [h] at this
        simp at this
        exact .inr (by omega)
    have hmono : ∀ (cs' : List Value) (x' : e.T), Rd (fun k => lo ≤ k ∧ v.ownBlock ≠ some k) w e cs' x' → Rd (fun k => lo ≤ k ∧ v'.ownBlock ≠ some k) w' e cs' x' := by
      intro cs' x' h
      refine h.stay hk.size (fun k ho hlt => hk.block k hlt (fun hx => ho.2 (mem_ownB.1 hx))) (fun k ho hlt => ⟨ho.1, fun hv => ?_⟩)
      rcases hgw k (mem_ownB.2 hv) with h | h
      · exact ho.2 (mem_ownB.1 h)
      · omega
    refine K v' w' ⟨css ++ [cs], by simp [h1], fun i y hy => ?_, ?_⟩ hk hgw
    · by_cases hi : i < xs.length
      · rw [List.getElem?_append_left hi] at hy
        obtain ⟨cs', h4, h5⟩ := h2 i y hy
        exact ⟨cs', by rw [List.getElem?_append_left (by omega)]; exact h4, hmono _ _ h5⟩
      · have hlt' := (List.getElem?_eq_some_iff.1 hy).1
        have : i = xs.length := by simp at hlt'; omega
        subst this
        simp at hy
        subst hy
        exact ⟨cs, by rw [← h1]; simp, hmono _ _ hx⟩
    · rw [List.flatten_append, List.length_append]
      simpa using ho
end
end Go.Proofs.Ytdgiellnklcioaa
