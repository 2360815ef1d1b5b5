/-
  Plain words and lemmas on blocks that a call has made, on the blocks that a step may touch, and on slices of hits (two cells each): no program stands here.
-/
import Derived.Test.YtdgiellnklcioaaSl
import Derived.Below
import Derived.Laws.OwnMore
import Derived.Laws.Rows
import Derived.Deep.Draws
namespace Go.Proofs.Ytdgiellnklcioaa
open Go.RowKit

/-- Block g holds just these cells, of element type t. -/
def Blk (w : World) (g : Nat) (t : TypeId) (cs : List Value) : Prop := w.heap[g]? = some (.cells cs.toArray t (0, 0))

section
variable {w w' : World} {g : Nat} {t : TypeId} {cs : List Value}
theorem Blk.lt (h : Blk w g t cs) : g < w.heap.size := (Array.getElem?_eq_some_iff.1 h).1
theorem Blk.cell (h : Blk w g t cs) (i : Nat) : w.cell? ⟨g, i, none⟩ = cs[i]? := by
  rw [cell_of_row w g i _ t (0, 0) h]; simp
theorem Blk.frozen (h : Blk w g t cs) (i : Nat) : w.frozen? ⟨g, i, none⟩ = false := by
  unfold Blk at h
  simp [World.frozen?, h]
theorem Blk.new (w : World) (t : TypeId) (cs : Array Value) : Blk (w.alloc (.cells cs t)) w.heap.size t cs.toList := by
  unfold Blk
  simpa using heap_alloc_new w (.cells cs t)
theorem Blk.set (h : Blk w g t cs) (i : Nat) (u : Value) : Blk (w.setCell ⟨g, i, none⟩ u) g t (cs.set i u) := by
  unfold Blk at h ⊢
  simp [World.setCell, Array.getElem?_modify, h]
theorem Blk.of_eq (h : Blk w g t cs) (e : w'.heap[g]? = w.heap[g]?) : Blk w' g t cs := e.trans h
end

/-- From w to w' no block of w has turned but those of F; blocks may have come. -/
structure Kept (F : List Nat) (w w' : World) : Prop where
  os : w'.os = w.os
  tape : w'.tape = w.tape
  output : w'.output = w.output
  size : w.heap.size ≤ w'.heap.size
  block : ∀ k, k < w.heap.size → k ∉ F → w'.heap[k]? = w.heap[k]?

/-- What is in F' was in F, or is new behind w. -/
def Grows (w : World) (F F' : List Nat) : Prop := ∀ x ∈ F', x ∈ F ∨ w.heap.size ≤ x
def Apart (F G : List Nat) : Prop := ∀ x ∈ F, x ∉ G

section
variable {w w1 w2 : World} {F F' G G' : List Nat} {B : Nat}
theorem Kept.refl (F : List Nat) (w : World) : Kept F w w := ⟨rfl, rfl, rfl, Nat.le_refl _, fun _ _ _ => rfl⟩
theorem Kept.trans (h : Kept F w w1) (k : Kept F' w1 w2) (hg : Grows w F F') : Kept F w w2 :=
  ⟨k.os.trans h.os, k.tape.trans h.tape, k.output.trans h.output, Nat.le_trans h.size k.size, fun i hi hf =>
    (k.block i (Nat.lt_of_lt_of_le hi h.size) (fun hx => by rcases hg i hx with h1 | h1; exact hf h1; omega)).trans (h.block i hi hf)⟩
theorem Kept.of_below (h : Below B w w1) (hB : w.heap.size ≤ B) : Kept F w w1 := ⟨h.os, h.tape, h.output, h.size, fun k hk _ => h.block k (by omega)⟩
theorem Kept.below (h : Kept F w w1) (hF : ∀ x ∈ F, B ≤ x) (hB : B ≤ w.heap.size) : Below B w w1 := ⟨h.os, h.tape, h.output, h.size, fun k hk => h.block k (by omega) (fun hx => by have := hF k hx; omega)⟩
theorem Kept.mono (h : Kept F w w1) (hF : ∀ x ∈ F, x ∈ G) : Kept G w w1 := ⟨h.os, h.tape, h.output, h.size, fun k hk hx => h.block k hk (fun h1 => hx (hF k h1))⟩
theorem Kept.alloc (h : Kept F w w1) (o : Obj) : Kept F w (w1.alloc o) :=
  ⟨h.os, h.tape, h.output, by simp; exact Nat.le_succ_of_le h.size, fun k hk hx => by rw [Below.heap_alloc _ _ _ (Nat.lt_of_lt_of_le hk h.size)]; exact h.block k hk hx⟩
theorem Kept.drew (h : Kept F w w1) : Kept F w w1.drew := ⟨h.os, h.tape, h.output, h.size, h.block⟩
theorem Kept.setCell (h : Kept F w w1) (p : Addr) (u : Value) (hp : p.block ∈ F ∨ w.heap.size ≤ p.block) : Kept F w (w1.setCell p u) :=
  ⟨h.os, h.tape, h.output, by simp [World.setCell]; exact h.size, fun k hk hx => by
    rw [Below.heap_setCell _ _ _ _ (by rintro rfl; rcases hp with hp | hp; exact hx hp; omega)]; exact h.block k hk hx⟩
theorem Kept.grown {row : Option Nat} (h : Kept F w w1) (hg : w1.grownBy w2 row) (hr : ∀ k, row = some k → k ∈ F ∨ w.heap.size ≤ k) : Kept F w w2 :=
  ⟨hg.os.trans h.os, hg.tape.trans h.tape, hg.output.trans h.output, Nat.le_trans h.size hg.size, fun k hk hx =>
    (hg.block k (Nat.lt_of_lt_of_le hk h.size) (fun e => by rcases hr k e.symm with h1 | h1; exact hx h1; omega)).trans (h.block k hk hx)⟩
theorem Kept.cell (h : Kept F w w1) {p : Addr} (hp : p.block < w.heap.size) (hF : p.block ∉ F) : w1.cell? p = w.cell? p := World.cell?_of_block (w := w) (h.block p.block hp hF)
theorem Kept.blk (h : Kept F w w1) {g : Nat} {t : TypeId} {cs : List Value} (hb : Blk w g t cs) (hF : g ∉ F) : Blk w1 g t cs := hb.of_eq (h.block g hb.lt hF)
theorem Kept.own (h : Kept F w w1) {base e size n : Nat} {v : Value} {xs : List Value} (ho : w.ownsRow base e size v n xs) (hF : ∀ k, v.ownBlock = some k → k ∉ F) : w1.ownsRow base e size v n xs := by
  obtain ⟨h1, h2⟩ := ho
  refine ⟨h1, ?_⟩
  rcases h2 with h2 | ⟨g, cap, cur, rfl, hg, hh, r⟩
  · exact .inl h2
  · exact .inr ⟨g, cap, cur, rfl, hg, (h.block g (Array.getElem?_eq_some_iff.1 hh).1 (hF g rfl)).trans hh, r⟩
theorem Grows.refl (w : World) (F : List Nat) : Grows w F F := fun _ h => .inl h
theorem Grows.trans {F'' : List Nat} (h : Grows w F F') (k : Grows w1 F' F'') (hs : w.heap.size ≤ w1.heap.size) : Grows w F F'' := fun x hx => by
  rcases k x hx with h1 | h1
  · exact h x h1
  · exact .inr (by omega)
theorem Apart.grows (h : Apart F G) (hg : Grows w F F') (hG : ∀ x ∈ G, x < w.heap.size) : Apart F' G := fun x hx hxG => by
  rcases hg x hx with h1 | h1
  · exact h x h1 hxG
  · have := hG x hxG; omega
theorem Apart.symm (h : Apart F G) : Apart G F := fun x hx hxF => h x hxF hx
end

theorem Blk.grown {w w' : World} {g : Nat} {t : TypeId} {cs : List Value} {row : Option Nat} (h : Blk w g t cs) (hg : w.grownBy w' row) (hr : row ≠ some g) : Blk w' g t cs := h.of_eq (hg.block g h.lt (fun e => hr e.symm))
theorem news_two (w : World) (o o' : Obj) : ((w.alloc o).alloc o').drew.heap[w.heap.size + 1]? = some o' := by
  have h := heap_alloc_new (w.alloc o) o'
  rw [show (w.alloc o).heap.size = w.heap.size + 1 from by simp] at h
  exact h
theorem news_one (w : World) (o : Obj) : (w.alloc o).heap[w.heap.size]? = some o := heap_alloc_new w o
theorem Kept.drewN {F : List Nat} {w w1 : World} (h : Kept F w w1) (n : Nat) : Kept F w (w1.drewN n) := ⟨h.os, h.tape, h.output, h.size, h.block⟩
theorem below_draws {B : Nat} {a w : World} (h : Below B a w) (n : Nat) : Below B a (w.drewN n) := ⟨h.os, h.tape, h.output, h.size, h.block⟩
theorem below_on {w w1 w2 : World} (h : Below w.heap.size w w1) (k : Below w1.heap.size w1 w2) : Below w.heap.size w w2 := h.trans (k.mono h.size)

/-- The cells of a list of hits, one behind the other. -/
def flat : List (Int × Int) → List Value
  | [] => []
  | h :: l => .int .i64 h.1 :: .int .u32 h.2 :: flat l
theorem flat_len (l : List (Int × Int)) : (flat l).length = l.length * 2 := by
  induction l with
  | nil => rfl
  | cons h l ih => simp [flat, ih]; omega
theorem flat_app (l m : List (Int × Int)) : flat (l ++ m) = flat l ++ flat m := by
  induction l with
  | nil => rfl
  | cons h l ih => simp [flat, ih]
theorem flat_fst (l : List (Int × Int)) (i : Nat) (h : i < l.length) : (flat l)[i * 2]? = some (.int .i64 (l.getD i (0, 0)).1) := by
  induction l generalizing i with
  | nil => simp at h
  | cons x l ih =>
    cases i with
    | zero => simp [flat]
    | succ i =>
      rw [show (i + 1) * 2 = i * 2 + 1 + 1 by omega]
      simpa [flat] using ih i (by simpa using h)
theorem flat_snd (l : List (Int × Int)) (i : Nat) (h : i < l.length) : (flat l)[i * 2 + 1]? = some (.int .u32 (l.getD i (0, 0)).2) := by
  induction l generalizing i with
  | nil => simp at h
  | cons x l ih =>
    cases i with
    | zero => simp [flat]
    | succ i =>
      rw [show (i + 1) * 2 + 1 = i * 2 + 1 + 1 + 1 by omega]
      simpa [flat] using ih i (by simpa using h)
theorem flat_set (l : List (Int × Int)) (i : Nat) (a b : Int) : ((flat l).set (i * 2) (.int .i64 a)).set (i * 2 + 1) (.int .u32 b) = flat (l.set i (a, b)) := by
  induction l generalizing i with
  | nil => simp [flat]
  | cons x l ih =>
    cases i with
    | zero => simp [flat]
    | succ i =>
      rw [show (i + 1) * 2 = i * 2 + 1 + 1 by omega]
      simp only [flat, List.set_cons_succ]
      rw [ih]
theorem flat_take (l : List (Int × Int)) (k : Nat) : (flat l).take (k * 2) = flat (l.take k) := by
  induction l generalizing k with
  | nil => simp [flat]
  | cons x l ih =>
    cases k with
    | zero => simp [flat]
    | succ k =>
      rw [show (k + 1) * 2 = k * 2 + 1 + 1 by omega]
      simp [flat, ih]
theorem flat_one (l : List (Int × Int)) : ∀ u ∈ flat l, u.oneCell' = true := by
  induction l with
  | nil => simp [flat]
  | cons x l ih =>
    intro u hu
    simp only [flat, List.mem_cons] at hu
    rcases hu with rfl | rfl | hu
    · rfl
    · rfl
    · exact ih u hu

/-- A slice value of a call's own reads in w as the hits xs. -/
def Own (w : World) (t : TypeId) (v : Value) (xs : List (Int × Int)) : Prop := w.ownsRow 0 t 2 v xs.length (flat xs)

section
variable {w w' : World} {t : TypeId} {v : Value} {xs : List (Int × Int)} {g n cap : Nat}
theorem Own.form (h : Own w t v xs) : (v = .slice none 0 0 ∧ xs = []) ∨ ∃ g cap rest, v = .slice (some ⟨g, 0, none⟩) xs.length cap ∧ Blk w g t (flat xs ++ rest) ∧ xs.length ≤ cap ∧ cap ≤ maxLen ∧ (flat xs ++ rest).length = cap * 2 := by
  obtain ⟨h1, h2⟩ := h
  rcases h2 with ⟨rfl, h2⟩ | ⟨g, cap, cur, rfl, _, hh, hn, hcap, hsz, htake⟩
  · left
    refine ⟨rfl, ?_⟩
    cases xs with
    | nil => rfl
    | cons x xs => simp at h2
  · right
    refine ⟨g, cap, cur.toList.drop (xs.length * 2), rfl, ?_, hn, hcap, ?_⟩
    · unfold Blk
      rw [hh, ← htake, List.take_append_drop]
    · rw [← htake, List.take_append_drop]; simpa using hsz
theorem Own.mk {rest : List Value} (hb : Blk w g t (flat xs ++ rest)) (hn : xs.length ≤ cap) (hcap : cap ≤ maxLen) (hl : (flat xs ++ rest).length = cap * 2) : Own w t (.slice (some ⟨g, 0, none⟩) xs.length cap) xs :=
  ⟨flat_len xs, .inr ⟨g, cap, _, rfl, Nat.zero_le _, hb, hn, hcap, by simpa using hl, by
    have := flat_len xs
    simp [this]⟩⟩
theorem Own.blk (h : Own w t (.slice (some ⟨g, 0, none⟩) n cap) xs) : ∃ rest, n = xs.length ∧ Blk w g t (flat xs ++ rest) ∧ xs.length ≤ cap ∧ cap ≤ maxLen ∧ (flat xs ++ rest).length = cap * 2 := by
  rcases h.form with ⟨h1, _⟩ | ⟨g', cap', rest, h1, r⟩
  · cases h1
  · simp at h1
    obtain ⟨rfl, rfl, rfl⟩ := h1
    exact ⟨rest, rfl, r⟩
theorem Own.set (h : Own w t (.slice (some ⟨g, 0, none⟩) n cap) xs) (i : Nat) (hi : i < xs.length) (y : Int × Int) :
    Own ((w.setCell ⟨g, i * 2, none⟩ (.int .i64 y.1)).setCell ⟨g, i * 2 + 1, none⟩ (.int .u32 y.2)) t (.slice (some ⟨g, 0, none⟩) n cap) (xs.set i y) := by
  obtain ⟨rest, rfl, hb, hn, hcap, hl⟩ := h.blk
  have h1 := (hb.set (i * 2) (.int .i64 y.1)).set (i * 2 + 1) (.int .u32 y.2)
  have hf := flat_len xs
  rw [List.set_append_left _ _ (by omega), List.set_append_left _ _ (by simp; omega), flat_set] at h1
  rw [show xs.length = (xs.set i y).length by simp]
  exact Own.mk h1 (by simpa using hn) hcap (by have := flat_len (xs.set i y); simp at this hl ⊢; omega)
theorem flat_split (l : List (Int × Int)) (m : Nat) : flat l = flat (l.take m) ++ flat (l.drop m) := by rw [← flat_app, List.take_append_drop]
theorem Own.take (h : Own w t (.slice (some ⟨g, 0, none⟩) n cap) xs) (m : Nat) (hm : m ≤ xs.length) : Own w t (.slice (some ⟨g, 0, none⟩) m cap) (xs.take m) := by
  obtain ⟨rest, rfl, hb, hn, hcap, hl⟩ := h.blk
  have e : (xs.take m).length = m := by simp; omega
  rw [flat_split xs m, List.append_assoc] at hb hl
  have := Own.mk (xs := xs.take m) hb (by omega) hcap hl
  rwa [e] at this
theorem Own.lt (h : Own w t v xs) : ∀ k, v.ownBlock = some k → k < w.heap.size := fun k hk => (World.ownsRow.lt h k hk).2
theorem Own.kept {F : List Nat} (h : Own w t v xs) (hk : Kept F w w') (hF : ∀ k, v.ownBlock = some k → k ∉ F) : Own w' t v xs := hk.own h hF
theorem Own.size (h : Own w t v xs) : ∃ a cap, v = .slice a xs.length cap := by
  rcases h.form with ⟨rfl, rfl⟩ | ⟨g, cap, _, rfl, _⟩
  · exact ⟨none, 0, rfl⟩
  · exact ⟨_, cap, rfl⟩
end
theorem Blk.ne {w : World} {g g' : Nat} {t t' : TypeId} {cs cs' : List Value} (h : Blk w g t cs) (h' : Blk w g' t' cs') (hne : t ≠ t') : g ≠ g' := by
  rintro rfl
  unfold Blk at h h'
  rw [h] at h'
  injection h' with h'
  injection h' with _ ht
  exact hne ht
theorem Blk.far {w : World} {g : Nat} {t : TypeId} {cs : List Value} (h : Blk w g t cs) {p : Addr} (hp : g ≠ p.block) (u : Value) : Blk (w.setCell p u) g t cs := h.of_eq (Below.heap_setCell w p u g hp)
theorem Blk.drew {w : World} {g : Nat} {t : TypeId} {cs : List Value} (h : Blk w g t cs) : Blk w.drew g t cs := h
theorem Blk.alloc {w : World} {g : Nat} {t : TypeId} {cs : List Value} (h : Blk w g t cs) (o : Obj) : Blk (w.alloc o) g t cs := h.of_eq (Below.heap_alloc w o g h.lt)
end Go.Proofs.Ytdgiellnklcioaa
