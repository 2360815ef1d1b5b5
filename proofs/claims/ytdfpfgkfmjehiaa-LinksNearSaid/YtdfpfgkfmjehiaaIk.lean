/-
  What layer 11's laws have in common: a build of their own; near hits as they stand; begin of slices.
-/
import Derived.Test.YtdfpfgkfmjehiaaIh
import Derived.Test.YtdfpfgkfmjehiaaIN
import Derived.Test.YtdfpfgkfmjehiaaPr
namespace Go.Proofs.Ytdfpfgkfmjehiaa
open Go.ChangeShapes Go.WideShapes Go.ChangeAt Go.RowKit

theorem built (w w1 w2 W3 : World) (mm : Nat) (hmm : mm < 256) (h2 : GraphIs w2 w1.heap.size w1.heap.size [w1.heap.size] ⟨mm, []⟩) (hs1 : w.heap.size ≤ w1.heap.size) (hs2 : w1.heap.size ≤ w2.heap.size) (hW3 : w2.alloc (.cells #[.int .i64 (mm : Int), .slice none 0 0] 30) = W3)
    (a : Option Addr) (n c : Nat) (xs : List shOp11.T) (hx : Rd (· < w.heap.size) W3 shOps11 [.slice a n c] xs) (most : Nat) (hmost : most ≤ 100) :
    Calls Try.prog 10 #[.pointer (some ⟨w1.heap.size, 0, none⟩), .pointer (some ⟨w2.heap.size, 0, none⟩), .slice a n c, .int .i64 (most : Int)] W3 (BuildPost w.heap.size w1.heap.size w2.heap.size w1.heap.size w2.heap.size mm W3) := by
  have hb3 : Below w2.heap.size w2 W3 := by rw [← hW3]; exact (Below.refl _ _).alloc (Nat.le_refl _) _
  have H3 : BothG w.heap.size w1.heap.size w2.heap.size w1.heap.size w2.heap.size [w1.heap.size] [w2.heap.size] ⟨mm, []⟩ W3 := by
    refine ⟨h2.on hb3, DGraphIs.new hmm ⟨by decide, by decide, by decide⟩ (by rw [← hW3]; exact Blk.new _ _ _) (Nat.le_trans hs1 hs2), fun x hx hh => ?_, hs1⟩
    have := (h2.lt x hx).2
    simp at hh
    omega
  exact build_any W3 w.heap.size _ _ _ _ _ _ _ H3 rfl a n c xs hx most hmost
theorem near_strict (gv : GraphV) (q l : List Int) (i : Nat) (h0 : 0 < i) (hi : i < (gv.near q l).length) : ltH ((gv.near q l).getD (i - 1) (0, 0)) ((gv.near q l).getD i (0, 0)) = true := by
  have ho : InOrder (gv.near q l) := sortL_order _
  have hd := gv.near_ids q l
  unfold InOrder at ho
  rw [List.pairwise_iff_getElem] at ho
  have h1 := ho (i - 1) i (by omega) hi (by omega)
  rw [List.getD_eq_getElem?_getD, List.getD_eq_getElem?_getD, List.getElem?_eq_getElem hi, List.getElem?_eq_getElem (by omega)]
  show ltH (gv.near q l)[i - 1] (gv.near q l)[i] = true
  cases hlt : ltH (gv.near q l)[i - 1] (gv.near q l)[i] with
  | true => rfl
  | false =>
    have e := ge_antisymm hlt h1
    rw [List.nodup_iff_pairwise_ne, List.pairwise_map, List.pairwise_iff_getElem] at hd
    exact absurd (by rw [e]) (hd (i - 1) i (by omega) hi (by omega))
theorem Reads.takes {k : IntKind} {w : World} {a : Option Addr} {n m : Nat} {xs : List Int} (h : Reads k w a n xs) (hm : m ≤ n) : Reads k w a m (xs.take m) := by
  obtain ⟨h1, h2, h3, h4, h5⟩ := h
  refine ⟨by rw [List.length_take]; omega, by omega, Nat.le_trans (Nat.mul_le_mul_right _ hm) h3, fun x hx => h4 x (List.mem_of_mem_take hx), ?_⟩
  rcases h5 with h5 | ⟨b, off, e, hlt, hc⟩
  · exact .inl (by omega)
  · refine .inr ⟨b, off, e, hlt, fun i hi => ?_⟩
    rw [hc i (by omega)]
    simp [List.getD, hi]
theorem pick_len_step {p : Int → Bool} {l : List Int} {i : Nat} {x : Int} (hn : ∀ y, p y = true → 0 ≤ y) (hx : l.take (i + 1) = l.take i ++ [x]) : (pick p (l.take (i + 1))).length = (pick p (l.take i)).length + (if p x = true ∧ x ∉ l.take i then 1 else 0) := by
  rw [hx, pick_snoc]
  unfold pickS
  by_cases hp : p x = true
  · have e : x.toNat ∈ pick p (l.take i) ↔ x ∈ l.take i := by
      rw [mem_pick]
      constructor
      · rintro ⟨y, hy, hpy, hxy⟩
        have := hn y hpy
        have := hn x hp
        have : x = y := by omega
        rw [this]
        exact hy
      · exact fun h => ⟨x, h, hp, rfl⟩
    by_cases hm : x ∈ l.take i
    · rw [if_neg (fun h => h.2 (e.2 hm)), if_neg (fun h => h.2 hm)]
      rfl
    · rw [if_pos ⟨hp, fun h => hm (e.1 h)⟩, if_pos ⟨hp, hm⟩]
      simp
  · rw [if_neg (fun h => hp h.1), if_neg (fun h => hp h.1)]
    rfl
theorem pick_range (gv : GraphV) (hr : gv.Right) (n : Nat) (hn : n ≤ gv.L.length) : pick (fun i => gv.onB i 0) (natsI (List.range n)) = List.range n := by
  induction n with
  | zero => rfl
  | succ n ih =>
    have e : natsI (List.range (n + 1)) = natsI (List.range n) ++ [(n : Int)] := by
      rw [List.range_succ]
      simp [natsI]
    rw [e, pick_snoc, ih (by omega), List.range_succ, pickS, if_pos]
    · simp
    · refine ⟨?_, by simp⟩
      rw [← hr.there]
      unfold GraphV.thereB
      exact decide_eq_true ⟨by omega, by omega⟩
/-- A walk that is wide enough finds all. -/
theorem walk_all (gv : GraphV) (hr : gv.Right) (q : List Int) (i : Nat) (hi : i < gv.L.length) (hl : gv.L.length ≤ 256) : gv.walk q [(i : Int)] (gv.L.length : Int) 0 = gv.near q (natsI (List.range gv.L.length)) := by
  have hon : gv.onB (i : Int) 0 = true := by
    rw [← hr.there]
    unfold GraphV.thereB
    exact decide_eq_true ⟨by omega, by omega⟩
  have hw : widthN (gv.L.length : Int) = gv.L.length := by unfold widthN; omega
  have hp : pick (fun i => gv.onB i 0) [(i : Int)] = [i] := by
    show pickS (fun i => gv.onB i 0) [] (i : Int) = [i]
    unfold pickS
    rw [if_pos ⟨hon, by simp⟩]
    simp
  have hlv : 0 < gv.lv i := by
    have h1 : gv.onB (i : Int) ((0 : Nat) : Int) = true := hon
    rw [GraphV.on_iff] at h1
    exact of_decide_eq_true h1
  unfold GraphV.walk
  rw [hw, hp]
  have hs := gv.start_ok q gv.L.length 0 [i] (by simp) (by simpa using hlv)
  have hbest : (gv.start q gv.L.length [i]).best = [gv.hit q i] := by
    show (sortL [gv.hit q i]).take gv.L.length = _
    rw [List.take_of_length_le (by rw [sortL_len]; simp; omega)]
    rfl
  have e := walkF_full hr q (gv.L.length + 1) (gv.start q gv.L.length [i]) hs.1 ⟨by rw [hbest]; exact .refl _, fun j hj => .inl (by
    have : j = i := by simpa [GraphV.start] using hj
    subst this
    show gv.hit q j ∈ sortL [gv.hit q j]
    simp [sortL, ins])⟩ (by simp [GraphV.start]) hs.2
  rw [show ((0 : Int).toNat) = 0 from rfl, e]
  unfold GraphV.near
  rw [pick_range gv hr _ (Nat.le_refl _)]
/-- What a link leaves: within its bounds, and nothing but what was there, and the new one. -/
theorem linkL_len (gv : GraphV) (a b k : Nat) (most : Int) : ((gv.linkL a b k most).length : Int) ≤ max 0 most := by
  unfold GraphV.linkL
  split
  · have := (gv.choose_is (gv.vec a) ((putIn (gv.links a k) b).map fun (j : Nat) => (j : Int)) most.toNat).2.1
    omega
  · omega
section
variable {H : Type} {enc : TypeId × Value → H} {W : World} {base : Nat} {ts : Array TypeId} {args : Array Value} {ds : List (DataW H)} {p : List MemPlace}
set_option maxRecDepth 100000 in
theorem fit_ints11 : ((Sh.slice (.int .i64) 8).fit Try.prog).1 46 = true := by kernel_rfl
/-- A list of places that comes in. -/
theorem Given.places11 (g : Given enc Try.prog W base ts args ds p) (j : Nat) (ht : ts[j]? = some 46) : ∃ (a : Option Addr) (n c : Nat) (xs : List Int), args[j]? = some (.slice a n c) ∧ Reads .i64 W a n xs ∧ n ≤ c := by
  obtain ⟨v, x, e1, hx⟩ := g.sh1 j ht (.slice (.int .i64) 8) fit_ints11 (.inl ⟨_, Try.underlying46⟩)
  obtain ⟨a, n, c, hcs, _, _, _, hc, _⟩ := Rd.slice_part (e := .int .i64) hx
  simp only [List.cons.injEq, and_true] at hcs
  subst hcs
  exact ⟨a, n, c, x, e1, Rd.ints hx rfl, hc⟩
end
end Go.Proofs.Ytdfpfgkfmjehiaa
