/-
  Plain words and lemmas on slices of strings that a call reads or owns: no program stands here.
-/
import Derived.Test.YtdgiellnklcioaaFr
import Derived.Test.YtdgiellnklcioaaBk
import Derived.SliceStrings
import Derived.ChangeMaps5
import Derived.Lib.SmallJoins
import Derived.Lib.SlicesS
import Derived.Deep.Strs
import Derived.Laws.AppendOwnNone
namespace Go.Proofs.Ytdgiellnklcioaa
open Go.RowKit Go.ChangeShapes Go.WideShapes Go.ChangeAt

/-- The string at a place of a list. -/
def strAt (ss : List ByteArray) (i : Nat) : ByteArray := ss.getD i ByteArray.empty

/-- The slice value (a, n, c) reads in w as the strings ss. -/
structure SReads (w : World) (a : Option Addr) (n c : Nat) (ss : List ByteArray) : Prop where
  len : ss.length = n
  small : n * 16 ≤ 140737488351232
  nilOk : a = none → n = 0 ∧ c = 0
  cells : n = 0 ∨ ∃ b off, a = some ⟨b, off, none⟩ ∧ b < w.heap.size ∧ ∀ i, i < n → w.cell? ⟨b, off + i, none⟩ = some (.string (strAt ss i))

theorem SReads.below {w w' : World} {a : Option Addr} {n c : Nat} {ss : List ByteArray} (h : SReads w a n c ss) {B : Nat} (hB : w.heap.size ≤ B) (hb : Below B w w') : SReads w' a n c ss := by
  refine ⟨h.len, h.small, h.nilOk, ?_⟩
  rcases h.cells with h4 | ⟨b, off, ha, hlt, hc⟩
  · exact .inl h4
  · refine .inr ⟨b, off, ha, Nat.lt_of_lt_of_le hlt hb.size, fun i hi => ?_⟩
    rw [hb.cell (p := ⟨b, off + i, none⟩) (Nat.lt_of_lt_of_le hlt hB)]
    exact hc i hi
theorem SReads.on {w w' : World} {a : Option Addr} {n c : Nat} {ss : List ByteArray} (h : SReads w a n c ss) (hb : Below w.heap.size w w') : SReads w' a n c ss := h.below (Nat.le_refl _) hb
theorem SReads.alloc {w : World} {a : Option Addr} {n c : Nat} {ss : List ByteArray} (h : SReads w a n c ss) (o : Obj) : SReads (w.alloc o) a n c ss :=
  h.below (Nat.le_refl _) ((Below.refl _ _).alloc (Nat.le_refl _) o)
theorem SReads.drew {w : World} {a : Option Addr} {n c : Nat} {ss : List ByteArray} (h : SReads w a n c ss) : SReads w.drew a n c ss :=
  h.below (Nat.le_refl _) (Below.refl _ _).drew
theorem SReads.nil (w : World) : SReads w none 0 0 [] := ⟨rfl, by decide, fun _ => ⟨rfl, rfl⟩, .inl rfl⟩

/-- A slice that a text has built: one new block. -/
theorem SReads.built (w : World) (ss : List ByteArray) (e : TypeId) (h1 : ss.length ≤ 1000000) :
    SReads (w.alloc (.cells (ss.map Value.string).toArray e)) (some ⟨w.heap.size, 0, none⟩) ss.length ss.length ss := by
  refine ⟨rfl, by omega, (fun h => by cases h), .inr ⟨_, _, rfl, by simp, fun i hi => ?_⟩⟩
  rw [World.cell?_alloc_at _ _ _ _ rfl]
  simp [strAt, List.getD, hi]

/-- A slice of strings of the call's own. -/
def OwnS (w : World) (B : Nat) (t : TypeId) (v : Value) (ss : List ByteArray) : Prop := w.ownsRow B t 1 v ss.length (ss.map Value.string)

theorem OwnS.form {w : World} {B : Nat} {t : TypeId} {v : Value} {ss : List ByteArray} (h : OwnS w B t v ss) : (v = .slice none 0 0 ∧ ss = []) ∨ ∃ g cap rest, v = .slice (some ⟨g, 0, none⟩) ss.length cap ∧ B ≤ g ∧ Blk w g t (ss.map Value.string ++ rest) ∧ ss.length ≤ cap ∧ cap ≤ maxLen ∧ (ss.map Value.string ++ rest).length = cap := by
  obtain ⟨h1, h2⟩ := h
  rcases h2 with ⟨rfl, h2⟩ | ⟨g, cap, cur, rfl, hg, hh, hn, hcap, hsz, htake⟩
  · left
    exact ⟨rfl, List.eq_nil_of_length_eq_zero (by simpa using h2)⟩
  · right
    rw [Nat.mul_one] at htake hsz
    refine ⟨g, cap, cur.toList.drop ss.length, rfl, hg, ?_, hn, hcap, ?_⟩
    · unfold Blk
      rw [hh, ← htake, List.take_append_drop]
    · rw [← htake, List.take_append_drop]; simpa using hsz

theorem OwnS.reads {w : World} {B : Nat} {t : TypeId} {v : Value} {ss : List ByteArray} (h : OwnS w B t v ss) (hs : ss.length * 16 ≤ 140737488351232) : ∃ a c, v = .slice a ss.length c ∧ SReads w a ss.length c ss ∧ ∀ b off, a = some ⟨b, off, none⟩ → B ≤ b := by
  rcases h.form with ⟨rfl, rfl⟩ | ⟨g, cap, rest, rfl, hg, hb, hn, hcap, hl⟩
  · exact ⟨none, 0, rfl, SReads.nil w, fun _ _ h => by cases h⟩
  · refine ⟨_, cap, rfl, ⟨rfl, hs, (fun h => by cases h), .inr ⟨g, 0, rfl, hb.lt, fun i hi => ?_⟩⟩, fun _ _ h => by cases h; exact hg⟩
    rw [Nat.zero_add, hb.cell, List.getElem?_append_left (by simpa using hi)]
    simp [strAt, List.getD, hi]

section
variable {H : Type} {enc : TypeId × Value → H} {P : Program} {W : World} {base : Nat} {ts : Array TypeId} {args : Array Value} {ds : List (DataW H)} {p : List MemPlace}

theorem reads_of_trod {t e : TypeId} {fuel : Nat} {v : Value} {d : DataW H} {q : List MemPlace} {a0 : Option Addr} {n0 c0 : Nat} (hv : v = .slice a0 n0 c0) (hu : P.underlying t = some (.slice e)) (he : P.underlying e = some .string) (hc : P.cellsOf e = 1)
    (hf : DataW.trod enc P W 0 (fun _ => true) true fuel t [v] = some (d, q)) (hq : ∀ x ∈ q, x.block < W.heap.size) (hs : ∀ xs ys, d = .slice xs ys → xs.length * 16 ≤ 140737488351232) :
    ∃ ss, SReads W a0 n0 c0 ss ∧ ∀ s ∈ ss, s.size ≤ maxLen := by
  subst hv
  rcases open_strings hu he hc hf with ⟨hcs, _⟩ | ⟨x, l, c, zs, hcs, _, hl, hm, hz, hx, hcell, hwz⟩
  · simp at hcs
    obtain ⟨rfl, rfl, rfl⟩ := hcs
    exact ⟨[], SReads.nil W, by simp⟩
  · simp at hcs
    obtain ⟨rfl, rfl, rfl⟩ := hcs
    simp only [Prod.mk.injEq] at hx
    obtain ⟨rfl, rfl⟩ := hx
    simp only [if_true] at hz
    have hs' := hs _ _ rfl
    simp only [strs, List.length_map, List.length_take] at hs'
    refine ⟨zs.take n0, ⟨by simp; omega, by omega, (fun h => by cases h), ?_⟩, fun s h => hwz s (List.mem_of_mem_take h)⟩
    by_cases h0 : n0 = 0
    · exact .inl h0
    · right
      obtain ⟨b, off, spot⟩ := x
      have hspot : spot = none := by simpa [Addr.add] using World.cell?_spot (hcell 0 (by omega))
      subst hspot
      refine ⟨b, off, rfl, hq (.cell b off) (MemPlace.mem_row.2 ⟨0, by omega, by simp⟩), fun i hi => ?_⟩
      rw [← add_plain, hcell i (by omega)]
      simp [strAt, List.getD, hi]

/-- A parameter that is a slice of strings. -/
theorem Given.strs (g : Given enc P W base ts args ds p) (j : Nat) {t e : TypeId} (ht : ts[j]? = some t) (hu : P.underlying t = some (.slice e)) (he : P.underlying e = some .string) (hc : P.cellsOf e = 1) (hb : P.bytesOf e = 16) :
    ∃ a n cap ss, args[j]? = some (.slice a n cap) ∧ SReads W a n cap ss ∧ ∀ s ∈ ss, s.size ≤ maxLen := by
  obtain ⟨v, d, q, e1, e2, h0, hq, hok⟩ := g.at j ht
  obtain ⟨a, n, cap, rfl⟩ := okWide_slice hu hok
  obtain ⟨fuel, hf⟩ := h0
  obtain ⟨ss, h1, h2⟩ := reads_of_trod rfl hu he hc (by simpa [Value.cells] using hf) (fun x hx => g.lt x (hq x hx)) (fun xs ys hd => by
    subst hd
    have hs := sized_slice g.size (j := j) (t := t) (e := e) (by simpa using ht) e2 hu
    rw [hb] at hs
    simp only [reachBytes] at hs
    exact Nat.le_trans (Nat.mul_le_mul_right 16 (Nat.le_add_right _ _)) hs)
  exact ⟨a, n, cap, ss, e1, h1, h2⟩

theorem Given.string (g : Given enc P W base ts args ds p) (j : Nat) {t : TypeId} (ht : ts[j]? = some t) (hu : P.underlying t = some .string) :
    ∃ s, args[j]? = some (.string s) ∧ s.size ≤ maxLen := by
  obtain ⟨v, d, q, e1, e2, h0, hq, hok⟩ := g.at j ht
  obtain ⟨s, rfl, rfl, rfl, hs⟩ := Go.ChangeMaps.open_string hu hok h0
  exact ⟨s, e1, hs⟩
end

section
variable {H : Type} {enc : TypeId × Value → H} {P : Program} {W : World} {base : Nat} {ts : Array TypeId} {args : Array Value} {ds : List (DataW H)} {p : List MemPlace}

/-- A parameter that is a struct of three slices of strings. -/
theorem Given.three (g : Given enc P W base ts args ds p) (j : Nat) {t st e : TypeId} {f0 f1 f2 : Field} (ht : ts[j]? = some t) (hu : P.underlying t = some (.struct #[f0, f1, f2])) (hone : Go.Deep.oneCellFields P #[f0, f1, f2] = true) (hC : P.cellsOf t = 3)
    (h0 : f0.type = st) (h1 : f1.type = st) (h2 : f2.type = st) (hs : P.underlying st = some (.slice e)) (he : P.underlying e = some .string) (hc : P.cellsOf e = 1) (hb : P.bytesOf e = 16) :
    ∃ a0 n0 c0 s0 a1 n1 c1 s1 a2 n2 c2 s2, args[j]? = some (.agg #[.slice a0 n0 c0, .slice a1 n1 c1, .slice a2 n2 c2]) ∧ SReads W a0 n0 c0 s0 ∧ SReads W a1 n1 c1 s1 ∧ SReads W a2 n2 c2 s2 ∧ (∀ s ∈ s0, s.size ≤ maxLen) ∧ (∀ s ∈ s1, s.size ≤ maxLen) ∧ (∀ s ∈ s2, s.size ≤ maxLen) := by
  obtain ⟨v, d, q, e1, e2, hd, hq, hok⟩ := g.at j ht
  obtain ⟨v0, v1, v2, y0, y1, y2, m, rfl, rfl, rfl, t0, t1, t2⟩ := Go.Joins.open_agg3 hu hone hC hok hd
  rw [h0] at t0
  rw [h1] at t1
  rw [h2] at t2
  have hw : ∀ (k : Nat) (y : DataW H × List MemPlace), [y0.1, y1.1, y2.1][k]? = some y.1 → [f0.type, f1.type, f2.type][k]? = some st → ∀ xs ys, y.1 = .slice xs ys → xs.length * 16 ≤ 140737488351232 := by
    intro k y hy hk xs ys hx
    have hin : (xs.length + ys.length) * P.bytesOf e ∈ DataW.weights P t (.agg [y0.1, y1.1, y2.1]) := by
      rw [DataW.weights, hu]
      refine DataW.weights_mem_each (j := k) (t := st) (d := y.1) (by simpa using hk) hy _ ?_
      rw [hx, DataW.weights, hs]
      simp
    have := List.all_eq_true.1 g.size _ (DataW.weights_mem_each (j := j) (t := t) (by simpa using ht) e2 _ hin)
    rw [hb] at this
    replace this := of_decide_eq_true this
    simp only [reachBytes] at this
    exact Nat.le_trans (Nat.mul_le_mul_right 16 (Nat.le_add_right _ _)) this
  have form : ∀ (v : Value) (y : DataW H × List MemPlace), DataW.trod enc P W 0 (fun _ => true) true m st [v] = some y → ∃ a n c, v = .slice a n c := by
    intro v y hy
    rcases open_strings hs he hc hy with ⟨hcs, _⟩ | ⟨x, l, c, zs, hcs, _⟩
    · simp at hcs
      exact ⟨_, _, _, hcs⟩
    · simp at hcs
      exact ⟨_, _, _, hcs⟩
  obtain ⟨a0, n0, c0, rfl⟩ := form _ _ t0
  obtain ⟨a1, n1, c1, rfl⟩ := form _ _ t1
  obtain ⟨a2, n2, c2, rfl⟩ := form _ _ t2
  obtain ⟨s0, r0, z0⟩ := reads_of_trod rfl hs he hc t0 (fun x hx => g.lt x (hq x (by simp [hx]))) (hw 0 y0 rfl (by simp [h0]))
  obtain ⟨s1, r1, z1⟩ := reads_of_trod rfl hs he hc t1 (fun x hx => g.lt x (hq x (by simp [hx]))) (hw 1 y1 rfl (by simp [h1]))
  obtain ⟨s2, r2, z2⟩ := reads_of_trod rfl hs he hc t2 (fun x hx => g.lt x (hq x (by simp [hx]))) (hw 2 y2 rfl (by simp [h2]))
  exact ⟨a0, n0, c0, s0, a1, n1, c1, s1, a2, n2, c2, s2, e1, r0, r1, r2, z0, z1, z2⟩
end

theorem map_string_one (l : List ByteArray) : ∀ u ∈ l.map Value.string, u.oneCell' = true := by
  intro u hu
  obtain ⟨s, _, rfl⟩ := List.mem_map.1 hu
  rfl

/-- append(v, xs..), v a row of strings of the call's own, the source any slice of strings that reads. -/
theorem app_strs {P : Program} {ops : Array Oper} {rest : List Oper} {o : Oper} {act : Act} {Q : Exit → Act → World → Prop} (w : World) (hg : o.guard = none) (s x : Operand) (st e : TypeId)
    (hop : o.op = .call { callee := .builtin .append, args := #[s, x], argTypes := #[st, st] }) (hu : P.underlying st = some (.slice e)) (hi : (P.info? e).map (fun i => (i.zero, i.size, i.bytes)) = some (some (.string ⟨#[]⟩), 1, 16))
    (B : Nat) (v : Value) (zs : List ByteArray) (hs : act.eval s = v)
    (hown : OwnS w B e v zs) (a : Option Addr) (n cap : Nat) (xs : List ByteArray) (hx : act.eval x = .slice a n cap) (h : SReads w a n cap xs)
    (hb : (zs.length + n) * 16 ≤ 140737488355328) (hbase : B ≤ w.heap.size)
    (K : ∀ v' w', OwnS w' B e v' (zs ++ xs) → w.grownBy w' v.ownBlock → wpList P ops Q rest (act.put o.dst v') w') : wpList P ops Q (o :: rest) act w := by
  obtain ⟨i0, hi, hz0, hz1, hz2⟩ := info_parts hi
  cases a with
  | none =>
    obtain ⟨rfl, rfl⟩ := h.nilOk rfl
    have hxs : xs = [] := List.eq_nil_of_length_eq_zero h.len
    subst hxs
    refine wpList_append_own_none hg s x st hop B e i0 1 hu hi v zs.length _ hs hown hx ?_
    exact K v w (by simpa using hown) (World.grownBy.refl _ _)
  | some ad =>
    refine wpList_append_own _ hg s x st hop B e i0 _ 1 16 hu hi hz0 hz1 hz2 rfl (by decide) v zs.length _ hs hown ad n cap (xs.map Value.string) hx (by simp [h.len]) ?_ (map_string_one xs) (by unfold maxLen; omega) (by omega) hbase ?_
    · intro j u hj
      rcases h.cells with h0 | ⟨b, off, e, _, hc⟩
      · have hl := h.len
        rw [h0] at hl
        have : xs = [] := List.eq_nil_of_length_eq_zero hl
        subst this
        simp at hj
      · obtain rfl := Option.some.inj e
        have hl := h.len
        have hj' : j < n := by
          have := (List.getElem?_eq_some_iff.1 hj).1
          simp at this
          omega
        rw [add_plain, hc j hj', ← hj]
        simp [strAt, List.getD, hl, hj']
    · intro v' w' h1 h2 _
      refine K v' w' ?_ h2
      unfold OwnS
      rw [List.length_append, h.len, List.map_append]
      exact h1

/-- append(v, x), x one string that the text has laid as a row of one. -/
theorem OwnS.parts {w : World} {B : Nat} {t : TypeId} {v : Value} {ss : List ByteArray} (h : OwnS w B t v ss) : ∃ a n c, v = .slice a n c ∧ Hid (ss.length = n) := by
  rcases h.form with ⟨rfl, rfl⟩ | ⟨g, cap, _, rfl, _⟩
  · exact ⟨none, 0, 0, rfl, rfl⟩
  · exact ⟨_, _, cap, rfl, rfl⟩
theorem OwnS.lt {w : World} {B : Nat} {t : TypeId} {v : Value} {ss : List ByteArray} (h : OwnS w B t v ss) : ∀ k, v.ownBlock = some k → B ≤ k ∧ k < w.heap.size := fun k hk => World.ownsRow.lt h k hk
theorem OwnS.nil (w : World) (B : Nat) (t : TypeId) : OwnS w B t (.slice none 0 0) [] := ⟨rfl, .inl ⟨rfl, rfl⟩⟩
end Go.Proofs.Ytdgiellnklcioaa
