/-
  Layer 14: hits, lists of hits, numbers and ops as arguments.
-/
import Derived.Test.YtadkfedglkhgjaaQrm
namespace Go.Proofs.Ytadkfedglkhgjaa
open Go.RowKit Go.ChangeShapes Go.WideShapes Go.ChangeAt Go.Maps

/-- Hits as pairs. -/
def hitP : shHit.T → Int × Int := fun (x : Int × Int × Unit) => (x.1, x.2.1)
def pairsQ (xs : List shHit.T) : List (Int × Int) := xs.map hitP
theorem hitsQ_of {B : Nat} {w : World} {a : Option Addr} {n c : Nat} {xs : List shHit.T} (h : Rd (· < B) w shHits [.slice a n c] xs) : HitsQ w a n (pairsQ xs) ∧ (n ≠ 0 → ∀ b off, a = some ⟨b, off, none⟩ → b < B) := by
  obtain ⟨a', n', c', h0, h1, h2, h3, h4, h5, h6⟩ := Rd.slice_part (e := shHit) (xs := xs) h
  simp only [List.cons.injEq, Value.slice.injEq, and_true] at h0
  obtain ⟨rfl, rfl, rfl⟩ := h0
  refine ⟨⟨by unfold pairsQ; rw [List.length_map]; exact h1, h3, ?_⟩, fun h0 b off e => ?_⟩
  · rcases h6 with h6 | ⟨b, off, ha, ho, hlt, hc⟩
    · exact .inl h6
    · refine .inr ⟨b, off, ha, hlt, fun i x hx => ?_⟩
      unfold pairsQ at hx
      rw [List.getElem?_map] at hx
      cases hxi : xs[i]? with
      | none => rw [hxi] at hx; cases hx
      | some y =>
        rw [hxi] at hx
        simp only [Option.map_some, Option.some.injEq] at hx
        obtain ⟨vs, v1, v2, v3⟩ := hc i y hxi
        obtain ⟨d, k, u⟩ := y
        obtain ⟨c1, c2, rfl, r1, r2⟩ := Rd.pair_is v3
        obtain ⟨c3, c4, rfl, r3, r4⟩ := Rd.pair_is r2
        obtain rfl := Rd.unit_is r4
        obtain ⟨rfl, _⟩ := Rd.int_part (x := d) r1
        obtain ⟨rfl, _⟩ := Rd.int_part (x := k) r3
        subst hx
        exact ⟨v2 0 (by decide), v2 1 (by decide)⟩
  · rcases h6 with h6 | ⟨b', off', ha, ho, hlt, hc⟩
    · exact absurd h6 h0
    · rw [ha] at e
      cases e
      exact ho
theorem fit_hits14 : (shHits.fit Try.prog).1 35 = true := by kernel_rfl
theorem Given.hits14 {H : Type} {enc : TypeId × Value → H} {W : World} {base : Nat} {ts : Array TypeId} {args : Array Value} {ds : List (DataW H)} {p : List MemPlace} (g : Given enc Try.prog W base ts args ds p) (j : Nat) (ht : ts[j]? = some 35) :
    ∃ (a : Option Addr) (n c : Nat) (l : List (Int × Int)), args[j]? = some (.slice a n c) ∧ HitsQ W a n l ∧ (n ≠ 0 → ∀ b off, a = some ⟨b, off, none⟩ → b < W.heap.size) := by
  obtain ⟨v, x, e1, hx⟩ := g.sh1 j ht shHits fit_hits14 (.inl ⟨_, Try.underlying35⟩)
  obtain ⟨a, n, c, hcs, _, _, h⟩ := Rd.slice_is (e := shHit) hx
  simp only [List.cons.injEq, and_true] at hcs
  subst hcs
  obtain ⟨r1, r2⟩ := hitsQ_of (h.mono fun _ _ hk => hk : Rd (· < W.heap.size) W shHits [.slice a n c] x)
  exact ⟨a, n, c, _, e1, r1, r2⟩
end Go.Proofs.Ytadkfedglkhgjaa
