/-
  Shapes of plain data: how a value of bools, numbers, texts, slices and structs of these reads in a world, as a thing of mathematics; and how any argument is opened as one. No program stands here.
-/
import Derived.Test.YtdgiellnklcioaaFr
import Derived.Test.YtdgiellnklcioaaBk
import Derived.SizedLaws
namespace Go.Proofs.Ytdgiellnklcioaa
open Go.RowKit Go.ChangeShapes Go.WideShapes Go.ChangeAt

/-- A shape: a slice has its element's bytes beside it; a struct is a pair of its first field and the others. -/
inductive Sh where
  | bool
  | int (k : IntKind)
  | str
  | slice (e : Sh) (sz : Nat)
  | unit
  | pair (a b : Sh)
def Sh.T : Sh → Type
  | .bool => Bool
  | .int _ => Int
  | .str => ByteArray
  | .slice e _ => List e.T
  | .unit => Unit
  | .pair a b => a.T × b.T
def Sh.cells : Sh → Nat
  | .bool => 1
  | .int _ => 1
  | .str => 1
  | .slice _ _ => 1
  | .unit => 0
  | .pair a b => a.cells + b.cells
/-- A type has the shape; fields, from an offset on, have it. -/
def Sh.fit (P : Program) : Sh → (TypeId → Bool) × (List Field → Nat → Bool)
  | .bool => (fun t => match P.underlying t with | some .bool => true | _ => false, fun _ _ => false)
  | .int k => (fun t => match P.underlying t with | some (.int k') => decide (k' = k) | _ => false, fun _ _ => false)
  | .str => (fun t => match P.underlying t with | some .string => true | _ => false, fun _ _ => false)
  | .slice e sz => (fun t => match P.underlying t with | some (.slice u) => (e.fit P).1 u && decide (P.cellsOf u = e.cells) && decide (P.bytesOf u = sz) && decide (0 < sz) && decide (0 < e.cells) | _ => false, fun _ _ => false)
  | .unit => (fun t => match P.underlying t with | some (.struct fs) => fs.toList.isEmpty && decide (P.cellsOf t = 0) | _ => false, fun fs _ => fs.isEmpty)
  | .pair a b =>
    (fun t => match P.underlying t with
      | some (.struct fs) => (match fs.toList with
        | f :: r => decide (f.offset = 0) && (a.fit P).1 f.type && decide (P.cellsOf f.type = a.cells) && (b.fit P).2 r a.cells
        | [] => false) && decide (P.cellsOf t = a.cells + b.cells)
      | _ => false,
    fun fs off => match fs with
      | f :: r => decide (f.offset = off) && (a.fit P).1 f.type && decide (P.cellsOf f.type = a.cells) && (b.fit P).2 r (off + a.cells)
      | [] => false)

/-- The cells cs read in w as x; all blocks that are looked at are ok. -/
def Rd (ok : Nat → Prop) (w : World) : (s : Sh) → List Value → s.T → Prop
  | .bool, cs, x => cs = [.bool x]
  | .int k, cs, x => cs = [.int k x] ∧ (Lit.int k x).wf = true
  | .str, cs, x => cs = [.string x] ∧ x.size ≤ 140737488351232
  | .slice e sz, cs, xs => ∃ a n c, cs = [.slice a n c] ∧ List.length (α := e.T) xs = n ∧ n * sz ≤ 140737488351232 ∧ n ≤ 140737488351232 ∧ n ≤ c ∧ (a = none → n = 0 ∧ c = 0) ∧
      (n = 0 ∨ ∃ b off, a = some ⟨b, off, none⟩ ∧ ok b ∧ b < w.heap.size ∧ ∀ i x, getElem? (coll := List e.T) (idx := Nat) xs i = some x → ∃ vs, vs.length = e.cells ∧ (∀ j, j < e.cells → w.cell? ⟨b, off + i * e.cells + j, none⟩ = vs[j]?) ∧ Rd ok w e vs x)
  | .unit, cs, _ => cs = []
  | .pair a b, cs, x => ∃ c1 c2, cs = c1 ++ c2 ∧ Rd ok w a c1 x.1 ∧ Rd ok w b c2 x.2

theorem Rd.bool_mk {ok : Nat → Prop} {w : World} {cs : List Value} {x : Sh.bool.T} (h : cs = [.bool x]) : Rd ok w .bool cs x := by rw [Rd]; exact h
theorem Rd.int_mk {ok : Nat → Prop} {w : World} {k : IntKind} {cs : List Value} {x : (Sh.int k).T} (h : cs = [.int k x]) (h2 : (Lit.int k x).wf = true) : Rd ok w (.int k) cs x := by rw [Rd]; exact ⟨h, h2⟩
theorem Rd.str_mk {ok : Nat → Prop} {w : World} {cs : List Value} {x : Sh.str.T} (h : cs = [.string x]) (h2 : ByteArray.size x ≤ 140737488351232) : Rd ok w .str cs x := by rw [Rd]; exact ⟨h, h2⟩
theorem Rd.unit_mk {ok : Nat → Prop} {w : World} {cs : List Value} {x : Sh.unit.T} (h : cs = []) : Rd ok w .unit cs x := by rw [Rd]; exact h
theorem Rd.pair_mk {ok : Nat → Prop} {w : World} {a b : Sh} {cs c1 c2 : List Value} {x : (Sh.pair a b).T} (h : cs = c1 ++ c2) (h1 : Rd ok w a c1 (Prod.fst (α := a.T) (β := b.T) x)) (h2 : Rd ok w b c2 (Prod.snd (α := a.T) (β := b.T) x)) : Rd ok w (.pair a b) cs x := by
  rw [Rd]
  exact ⟨c1, c2, h, h1, h2⟩
theorem Rd.slice_mk {ok : Nat → Prop} {w : World} {e : Sh} {sz : Nat} {cs : List Value} {xs : (Sh.slice e sz).T} (h : ∃ a n c, cs = [.slice a n c] ∧ List.length (α := e.T) xs = n ∧ n * sz ≤ 140737488351232 ∧ n ≤ 140737488351232 ∧ n ≤ c ∧ (a = none → n = 0 ∧ c = 0) ∧
    (n = 0 ∨ ∃ b off, a = some ⟨b, off, none⟩ ∧ ok b ∧ b < w.heap.size ∧ ∀ i x, getElem? (coll := List e.T) (idx := Nat) xs i = some x → ∃ vs, vs.length = e.cells ∧ (∀ j, j < e.cells → w.cell? ⟨b, off + i * e.cells + j, none⟩ = vs[j]?) ∧ Rd ok w e vs x)) : Rd ok w (.slice e sz) cs xs := by
  rw [Rd]
  exact h
theorem Rd.bool_is {ok : Nat → Prop} {w : World} {cs : List Value} {x : Sh.bool.T} (h : Rd ok w .bool cs x) : cs = [.bool x] := by rw [Rd] at h; exact h
theorem Rd.int_is {ok : Nat → Prop} {w : World} {k : IntKind} {cs : List Value} {x : (Sh.int k).T} (h : Rd ok w (.int k) cs x) : cs = [.int k x] ∧ (Lit.int k x).wf = true := by rw [Rd] at h; exact h
theorem Rd.str_is {ok : Nat → Prop} {w : World} {cs : List Value} {x : Sh.str.T} (h : Rd ok w .str cs x) : cs = [.string x] ∧ ByteArray.size x ≤ 140737488351232 := by rw [Rd] at h; exact h
theorem Rd.unit_is {ok : Nat → Prop} {w : World} {cs : List Value} {x : Sh.unit.T} (h : Rd ok w .unit cs x) : cs = [] := by rw [Rd] at h; exact h
theorem Rd.pair_is {ok : Nat → Prop} {w : World} {a b : Sh} {cs : List Value} {x : (Sh.pair a b).T} (h : Rd ok w (.pair a b) cs x) : ∃ c1 c2, cs = c1 ++ c2 ∧ Rd ok w a c1 (Prod.fst (α := a.T) (β := b.T) x) ∧ Rd ok w b c2 (Prod.snd (α := a.T) (β := b.T) x) := by
  rw [Rd] at h
  exact h
theorem Rd.slice_is0 {ok : Nat → Prop} {w : World} {e : Sh} {sz : Nat} {cs : List Value} {xs : (Sh.slice e sz).T} (h : Rd ok w (.slice e sz) cs xs) : ∃ a n c, cs = [.slice a n c] ∧ List.length (α := e.T) xs = n ∧ n * sz ≤ 140737488351232 ∧ n ≤ 140737488351232 ∧ n ≤ c ∧ (a = none → n = 0 ∧ c = 0) ∧
    (n = 0 ∨ ∃ b off, a = some ⟨b, off, none⟩ ∧ ok b ∧ b < w.heap.size ∧ ∀ i x, getElem? (coll := List e.T) (idx := Nat) xs i = some x → ∃ vs, vs.length = e.cells ∧ (∀ j, j < e.cells → w.cell? ⟨b, off + i * e.cells + j, none⟩ = vs[j]?) ∧ Rd ok w e vs x) := by
  rw [Rd] at h
  exact h
theorem Rd.len {ok : Nat → Prop} {w : World} : ∀ {s : Sh} {cs : List Value} {x : s.T}, Rd ok w s cs x → cs.length = s.cells
  | .bool, cs, x, h => by rw [Rd] at h; rw [h]; rfl
  | .int k, cs, x, h => by rw [Rd] at h; obtain ⟨rfl, _⟩ := h; rfl
  | .str, cs, x, h => by rw [Rd] at h; obtain ⟨rfl, _⟩ := h; rfl
  | .slice e sz, cs, xs, h => by rw [Rd] at h; obtain ⟨a, n, c, rfl, _⟩ := h; rfl
  | .unit, cs, x, h => by rw [Rd] at h; rw [h]; rfl
  | .pair a b, cs, x, h => by
    rw [Rd] at h
    obtain ⟨c1, c2, rfl, h1, h2⟩ := h
    rw [List.length_append, h1.len, h2.len, Sh.cells]

/-- Where no block that is looked at has turned, the same is read. -/
theorem Rd.stay {ok ok' : Nat → Prop} {w w' : World} (hs : w.heap.size ≤ w'.heap.size) (hb : ∀ k, ok k → k < w.heap.size → w'.heap[k]? = w.heap[k]?) (hok : ∀ k, ok k → k < w.heap.size → ok' k) :
    ∀ {s : Sh} {cs : List Value} {x : s.T}, Rd ok w s cs x → Rd ok' w' s cs x
  | .bool, cs, x, h => h
  | .int k, cs, x, h => h
  | .str, cs, x, h => h
  | .unit, cs, x, h => h
  | .pair a b, cs, x, h => by
    rw [Rd] at h ⊢
    obtain ⟨c1, c2, rfl, h1, h2⟩ := h
    exact ⟨c1, c2, rfl, h1.stay hs hb hok, h2.stay hs hb hok⟩
  | .slice e sz, cs, xs, h => by
    rw [Rd] at h ⊢
    obtain ⟨a, n, c, h1, h2, h3, h4, h5, h6, h7⟩ := h
    refine ⟨a, n, c, h1, h2, h3, h4, h5, h6, ?_⟩
    rcases h7 with h7 | ⟨b, off, ha, ho, hlt, hc⟩
    · exact .inl h7
    · refine .inr ⟨b, off, ha, hok b ho hlt, Nat.lt_of_lt_of_le hlt hs, fun i x hx => ?_⟩
      obtain ⟨vs, e1, e2, e3⟩ := hc i x hx
      refine ⟨vs, e1, fun j hj => ?_, e3.stay hs hb hok⟩
      rw [← e2 j hj]
      exact World.cell?_of_block (w := w) (a := ⟨b, off + i * e.cells + j, none⟩) (hb b ho hlt)
section
variable {ok ok' : Nat → Prop} {w w' : World} {s : Sh} {cs : List Value} {x : s.T}
theorem Rd.on (h : Rd ok w s cs x) (hb : Below w.heap.size w w') : Rd ok w' s cs x := h.stay hb.size (fun k _ hk => hb.block k hk) (fun _ h _ => h)
theorem Rd.kept {F : List Nat} (h : Rd ok w s cs x) (hk : Kept F w w') (hF : ∀ k ∈ F, ¬ ok k) : Rd ok w' s cs x := h.stay hk.size (fun k ho hlt => hk.block k hlt (fun hx => hF k hx ho)) (fun _ h _ => h)
theorem Rd.mono (h : Rd ok w s cs x) (ho : ∀ k, ok k → k < w.heap.size → ok' k) : Rd ok' w s cs x := h.stay (Nat.le_refl _) (fun _ _ _ => rfl) ho
theorem Rd.drew (h : Rd ok w s cs x) : Rd ok w.drew s cs x := h.on (Below.refl _ _).drew
theorem Rd.alloc (h : Rd ok w s cs x) (o : Obj) : Rd ok (w.alloc o) s cs x := h.on ((Below.refl _ _).alloc (Nat.le_refl _) o)
/-- All blocks that are looked at are there. -/
theorem Rd.lt (h : Rd ok w s cs x) : Rd (fun k => ok k ∧ k < w.heap.size) w s cs x := h.mono fun _ h hk => ⟨h, hk⟩
end

section
variable {H : Type} {enc : TypeId × Value → H} {P : Program} {W : World}

theorem sh_weights_all {e : TypeId} : ∀ {l : List (DataW H)} {d : DataW H}, d ∈ l → ∀ n ∈ d.weights P e, n ∈ DataW.weightsAll P e l
  | d0 :: l, d, hd, n, hn => by
    simp only [DataW.weightsAll, List.mem_append]
    rcases List.mem_cons.1 hd with rfl | hd
    · exact .inl hn
    · exact .inr (sh_weights_all hd n hn)

/-- What a choice for each place makes: a list. -/
theorem list_of_each {α : Type} {n : Nat} {q : Nat → α → Prop} (h : ∀ i, i < n → ∃ x, q i x) : ∃ l : List α, l.length = n ∧ ∀ i x, l[i]? = some x → q i x := by
  induction n with
  | zero => exact ⟨[], rfl, fun i x hx => by simp at hx⟩
  | succ n ih =>
    obtain ⟨l, h1, h2⟩ := ih fun i hi => h i (by omega)
    obtain ⟨x, hx⟩ := h n (by omega)
    refine ⟨l ++ [x], by simp [h1], fun i y hy => ?_⟩
    by_cases hi : i < n
    · rw [List.getElem?_append_left (by omega)] at hy
      exact h2 i y hy
    · have hlt := (List.getElem?_eq_some_iff.1 hy).1
      have : i = n := by simp at hlt; omega
      subst this
      simp [← h1] at hy
      subst hy
      exact hx

/-- A slice whose elements are opened one by one. -/
theorem open_rows {e : Sh} {sz : Nat} {t u : TypeId} {fuel : Nat} {cs : List Value} {d : DataW H} {q : List MemPlace} (hu : P.underlying t = some (.slice u)) (hc : P.cellsOf u = e.cells) (hb : P.bytesOf u = sz) (h0 : 0 < sz) (hc0 : 0 < e.cells)
    (each : ∀ (m : Nat) (vs : List Value) (d' : DataW H) (q' : List MemPlace), DataW.trod enc P W 0 (fun _ => true) true m u vs = some (d', q') → (∀ x ∈ q', x.block < W.heap.size) → (∀ n ∈ d'.weights P u, n ≤ reachBytes) → ∃ x, Rd (fun _ => True) W e vs x)
    (h : DataW.trod enc P W 0 (fun _ => true) true fuel t cs = some (d, q)) (hq : ∀ x ∈ q, x.block < W.heap.size) (hw : ∀ n ∈ d.weights P t, n ≤ reachBytes) : ∃ xs, Rd (fun _ => True) W (.slice e sz) cs xs := by
  rcases DataW.trod_slice hu h with ⟨hcs, hd⟩ | ⟨x, len, c, elems, rest, m, _, hcs, hd, _, hl, hm, hlen, hel, _, _⟩
  · exact ⟨[], Rd.slice_mk ⟨none, 0, 0, hcs, rfl, by omega, by omega, Nat.le_refl _, fun _ => ⟨rfl, rfl⟩, .inl rfl⟩⟩
  · simp only [Prod.mk.injEq] at hd
    obtain ⟨rfl, rfl⟩ := hd
    have hsz := hw ((elems.length + rest.length) * P.bytesOf u) (by rw [DataW.weights, hu]; simp)
    rw [hb, hlen] at hsz
    simp only [reachBytes] at hsz
    have hsz1 : len * sz ≤ 140737488351232 := Nat.le_trans (Nat.mul_le_mul_right sz (Nat.le_add_right _ _)) hsz
    have hsz2 : len ≤ 140737488351232 := Nat.le_trans (by have := Nat.mul_le_mul_left len h0; omega) hsz1
    rw [hc] at hel
    obtain ⟨l, hl1, hl2⟩ := list_of_each (n := len) (q := fun i x' => ∃ vs, vs.length = e.cells ∧ (∀ j, j < e.cells → W.cell? ((x.add (i * e.cells)).add j) = vs[j]?) ∧ Rd (fun _ => True) W e vs x') (by
      intro i hi
      have h1 := hel i hi
      obtain ⟨y, hy⟩ : ∃ y, elems[i]? = some y := ⟨_, List.getElem?_eq_getElem (by omega)⟩
      rw [hy, Option.bind_eq_some_iff] at h1
      obtain ⟨vs, hvs, hyt⟩ := h1
      have hmem : y ∈ elems := List.mem_of_getElem? hy
      obtain ⟨_, hvl, hvc⟩ := World.cells?_some hvs
      obtain ⟨x', hx'⟩ := each m vs y.1 y.2 hyt (fun z hz => hq z (List.mem_append.2 (.inr (List.mem_flatMap.2 ⟨y, by simp [hmem], hz⟩)))) (fun k hk => hw k (by
        rw [DataW.weights, hu]
        exact List.mem_cons.2 (.inr (List.mem_append.2 (.inl (sh_weights_all (d := y.1) (List.mem_map.2 ⟨y, hmem, rfl⟩) _ hk))))))
      exact ⟨x', vs, hvl, hvc, hx'⟩)
    refine ⟨l, Rd.slice_mk ?_⟩
    refine ⟨some x, len, c, hcs, hl1, hsz1, hsz2, hl, (fun h => by cases h), ?_⟩
    by_cases hn : len = 0
    · exact .inl hn
    · right
      obtain ⟨b, off, spot⟩ := x
      have hspot : spot = none := by
        obtain ⟨vs, hvl, hvc, _⟩ := hl2 0 (l[0]'(by omega)) (List.getElem?_eq_getElem _)
        have h1 := hvc 0 hc0
        rw [List.getElem?_eq_getElem (by omega)] at h1
        simpa [Addr.add] using World.cell?_spot h1
      subst hspot
      refine ⟨b, off, rfl, trivial, hq (.cell b off) (List.mem_append.2 (.inl (MemPlace.mem_row.2 ⟨0, by rw [hc]; have := Nat.mul_le_mul (show 1 ≤ elems.length + rest.length by omega) hc0; omega, by simp⟩))), fun i x' hx' => ?_⟩
      obtain ⟨vs, hvl, hvc, hr⟩ := hl2 i x' hx'
      refine ⟨vs, hvl, fun j hj => ?_, hr⟩
      rw [← hvc j hj, add_plain, add_plain, Nat.add_assoc]

theorem open_sh : ∀ (s : Sh),
    (∀ (t : TypeId) (fuel : Nat) (cs : List Value) (d : DataW H) (q : List MemPlace), (s.fit P).1 t = true → DataW.trod enc P W 0 (fun _ => true) true fuel t cs = some (d, q) → (∀ x ∈ q, x.block < W.heap.size) → (∀ n ∈ d.weights P t, n ≤ reachBytes) → ∃ x, Rd (fun _ => True) W s cs x) ∧
    (∀ (fs : List Field) (off m : Nat) (cs : List Value) (ys : List (DataW H × List MemPlace)), (s.fit P).2 fs off = true → cs.length = off + s.cells → (∀ (i : Nat) (f : Field), fs[i]? = some f → DataW.trod enc P W 0 (fun _ => true) true m f.type ((cs.drop f.offset).take (P.cellsOf f.type)) = ys[i]? ∧ i < ys.length) →
      (∀ (i : Nat) (f : Field) (y : DataW H × List MemPlace), fs[i]? = some f → ys[i]? = some y → (∀ x ∈ y.2, x.block < W.heap.size) ∧ ∀ n ∈ y.1.weights P f.type, n ≤ reachBytes) → ∃ x, Rd (fun _ => True) W s (cs.drop off) x)
  | .bool => by
    refine ⟨fun t fuel cs d q hf h hq hw => ?_, fun fs off m cs ys hf => by simp [Sh.fit] at hf⟩
    simp only [Sh.fit] at hf
    split at hf
    · rename_i hu
      obtain ⟨b, hcs, _⟩ := DataW.trod_bool hu h
      exact ⟨b, Rd.bool_mk hcs⟩
    · cases hf
  | .int k => by
    refine ⟨fun t fuel cs d q hf h hq hw => ?_, fun fs off m cs ys hf => by simp [Sh.fit] at hf⟩
    simp only [Sh.fit] at hf
    split at hf
    · rename_i hu
      replace hf := of_decide_eq_true hf
      subst hf
      obtain ⟨b, hcs, _, hwf⟩ := DataW.trod_int hu h
      exact ⟨b, Rd.int_mk hcs hwf⟩
    · cases hf
  | .str => by
    refine ⟨fun t fuel cs d q hf h hq hw => ?_, fun fs off m cs ys hf => by simp [Sh.fit] at hf⟩
    simp only [Sh.fit] at hf
    split at hf
    · rename_i hu
      obtain ⟨b, hcs, hd, _⟩ := DataW.trod_string hu h
      simp only [Prod.mk.injEq] at hd
      obtain ⟨rfl, _⟩ := hd
      have := hw b.data.toList.length (by simp [DataW.weights])
      simp only [reachBytes, Array.length_toList] at this
      exact ⟨b, Rd.str_mk hcs this⟩
    · cases hf
  | .slice e sz => by
    refine ⟨fun t fuel cs d q hf h hq hw => ?_, fun fs off m cs ys hf => by simp [Sh.fit] at hf⟩
    simp only [Sh.fit] at hf
    split at hf
    · rename_i u hu
      simp only [Bool.and_eq_true, decide_eq_true_eq] at hf
      obtain ⟨⟨⟨⟨h1, h2⟩, h3⟩, h4⟩, h5⟩ := hf
      exact open_rows hu h2 h3 h4 h5 (fun m vs d' q' h' hq' hw' => (open_sh e).1 u m vs d' q' h1 h' hq' hw') h hq hw
    · cases hf
  | .unit => by
    refine ⟨fun t fuel cs d q hf h hq hw => ?_, fun fs off m cs ys hf hl _ _ => ⟨(), ?_⟩⟩
    · simp only [Sh.fit] at hf
      split at hf
      · rename_i fs hu
        simp only [Bool.and_eq_true, decide_eq_true_eq] at hf
        obtain ⟨xs, n, _, _, hl, _⟩ := DataW.trod_struct hu h
        refine ⟨(), Rd.unit_mk ?_⟩
        exact List.eq_nil_of_length_eq_zero (by rw [hl]; exact hf.2)
      · cases hf
    · refine Rd.unit_mk ?_
      exact List.eq_nil_of_length_eq_zero (by rw [List.length_drop, hl]; simp [Sh.cells])
  | .pair a b => by
    have key : ∀ (f : Field) (r : List Field) (off m : Nat) (cs : List Value) (y : DataW H × List MemPlace) (ys : List (DataW H × List MemPlace)), f.offset = off → (a.fit P).1 f.type = true → P.cellsOf f.type = a.cells → (b.fit P).2 r (off + a.cells) = true → cs.length = off + (a.cells + b.cells) →
        (∀ (i : Nat) (g : Field), (f :: r)[i]? = some g → DataW.trod enc P W 0 (fun _ => true) true m g.type ((cs.drop g.offset).take (P.cellsOf g.type)) = (y :: ys)[i]? ∧ i < (y :: ys).length) →
        (∀ (i : Nat) (g : Field) (z : DataW H × List MemPlace), (f :: r)[i]? = some g → (y :: ys)[i]? = some z → (∀ x ∈ z.2, x.block < W.heap.size) ∧ ∀ n ∈ z.1.weights P g.type, n ≤ reachBytes) → ∃ x : (Sh.pair a b).T, Rd (fun _ => True) W (.pair a b) (cs.drop off) x := by
      intro f r off m cs y ys h1 h2 h3 h4 hl ht hz
      have t0 := (ht 0 f rfl).1
      rw [h1, h3] at t0
      obtain ⟨x1, hx1⟩ := (open_sh a).1 f.type m _ y.1 y.2 h2 (by simpa using t0) (hz 0 f y rfl rfl).1 (hz 0 f y rfl rfl).2
      obtain ⟨x2, hx2⟩ := (open_sh b).2 r (off + a.cells) m cs ys h4 (by omega) (fun i g hg => by
        have := ht (i + 1) g (by simpa using hg)
        simpa using this) (fun i g z hg hz' => hz (i + 1) g z (by simpa using hg) (by simpa using hz'))
      refine ⟨(x1, x2), Rd.pair_mk ?_ hx1 hx2⟩
      rw [← List.drop_drop, List.take_append_drop]
    refine ⟨fun t fuel cs d q hf h hq hw => ?_, fun fs off m cs ys hf hl ht hz => ?_⟩
    · simp only [Sh.fit] at hf
      split at hf
      · rename_i fs hu
        simp only [Bool.and_eq_true, decide_eq_true_eq] at hf
        obtain ⟨hf, hc⟩ := hf
        obtain ⟨xs, n, _, hd, hl, hxl, ht⟩ := DataW.trod_struct hu h
        simp only [Prod.mk.injEq] at hd
        obtain ⟨rfl, rfl⟩ := hd
        split at hf
        · rename_i f r hfs
          simp only [Bool.and_eq_true, decide_eq_true_eq] at hf
          obtain ⟨⟨⟨h1, h2⟩, h3⟩, h4⟩ := hf
          have hsz : xs.length = (f :: r).length := by rw [hxl, ← hfs, Array.length_toList]
          obtain ⟨y, ys, rfl⟩ : ∃ y ys, xs = y :: ys := by
            cases xs with
            | nil => simp at hsz
            | cons y ys => exact ⟨y, ys, rfl⟩
          have hget : ∀ (i : Nat) (g : Field), (f :: r)[i]? = some g → fs[i]? = some g := fun i g hg => by rw [← hfs] at hg; simpa using hg
          have := key f r 0 n cs y ys h1 h2 h3 (by rw [Nat.zero_add]; exact h4) (by rw [hl, hc, Nat.zero_add]) (fun i g hg => ⟨ht i g (hget i g hg), by rw [hsz]; exact (List.getElem?_eq_some_iff.1 hg).1⟩) (fun i g z hg hz => ⟨fun x hx => hq x (List.mem_flatMap.2 ⟨z, List.mem_of_getElem? hz, hx⟩), fun k hk => hw k (by
            rw [DataW.weights, hu]
            refine DataW.weights_mem_each (j := i) (t := g.type) (d := z.1) ?_ ?_ k hk
            · rw [hfs, List.getElem?_map, hg]; rfl
            · rw [List.getElem?_map, hz]; rfl)⟩)
          simpa using this
        · cases hf
      · cases hf
    · simp only [Sh.fit] at hf
      split at hf
      · rename_i f r
        simp only [Bool.and_eq_true, decide_eq_true_eq] at hf
        obtain ⟨⟨⟨h1, h2⟩, h3⟩, h4⟩ := hf
        obtain ⟨y, ys', rfl⟩ : ∃ y ys', ys = y :: ys' := by
          cases ys with
          | nil => have := (ht 0 f rfl).2; simp at this
          | cons y ys => exact ⟨y, ys, rfl⟩
        exact key f r off m cs y ys' h1 h2 h3 h4 (by rw [hl, Sh.cells]) ht hz
      · cases hf
end

section
variable {H : Type} {enc : TypeId × Value → H} {P : Program} {W : World} {base : Nat} {ts : Array TypeId} {args : Array Value} {ds : List (DataW H)} {p : List MemPlace}
/-- An argument of any shape: its cells read. -/
theorem Given.sh (g : Given enc P W base ts args ds p) (j : Nat) {t : TypeId} (ht : ts[j]? = some t) (s : Sh) (hf : (s.fit P).1 t = true) :
    ∃ v x, args[j]? = some v ∧ Rd (fun _ => True) W s v.cells.toList x ∧ Value.okWide P W .any base t v := by
  obtain ⟨v, d, q, e1, e2, ⟨fuel, h0⟩, hq, hok⟩ := g.at j ht
  obtain ⟨x, hx⟩ := (open_sh (enc := enc) (P := P) (W := W) s).1 t fuel _ d q hf h0 (fun z hz => g.lt z (hq z hz)) (fun n hn => by
    have := List.all_eq_true.1 g.size _ (DataW.weights_mem_each (j := j) (t := t) (by simpa using ht) e2 n hn)
    simpa using this)
  exact ⟨v, x, e1, hx, hok⟩
/-- One of one cell. -/
theorem Given.sh1 (g : Given enc P W base ts args ds p) (j : Nat) {t : TypeId} (ht : ts[j]? = some t) (s : Sh) (hf : (s.fit P).1 t = true) (hs : (∃ e, P.underlying t = some (.slice e)) ∨ (∃ k, P.underlying t = some (.int k)) ∨ P.underlying t = some .bool ∨ P.underlying t = some .string) :
    ∃ v x, args[j]? = some v ∧ Rd (fun _ => True) W s [v] x := by
  obtain ⟨v, x, e1, hx, hok⟩ := g.sh j ht s hf
  have : v.cells.toList = [v] := by
    rcases hs with ⟨e, hs⟩ | ⟨k, hs⟩ | hs | hs
    · obtain ⟨a, n, c, rfl⟩ := okWide_slice hs hok
      rfl
    · obtain ⟨n, rfl⟩ := okWide_int hs hok
      rfl
    all_goals
      unfold Value.okWide at hok
      rw [hs] at hok
      simp only [Cell.okWide, hs] at hok
      unfold Cell.ok at hok
      rw [hs] at hok
      cases v <;> first | rfl | (simp at hok)
  rw [this] at hx
  exact ⟨v, x, e1, hx⟩
/-- A struct. -/
theorem Given.shs (g : Given enc P W base ts args ds p) (j : Nat) {t : TypeId} {fs : Array Field} (ht : ts[j]? = some t) (s : Sh) (hf : (s.fit P).1 t = true) (hu : P.underlying t = some (.struct fs)) :
    ∃ cs x, args[j]? = some (.agg cs) ∧ Rd (fun _ => True) W s cs.toList x := by
  obtain ⟨v, x, e1, hx, hok⟩ := g.sh j ht s hf
  obtain ⟨cs, rfl, _⟩ := okWide_struct hu hok
  exact ⟨cs, x, e1, hx⟩
end
end Go.Proofs.Ytdgiellnklcioaa
