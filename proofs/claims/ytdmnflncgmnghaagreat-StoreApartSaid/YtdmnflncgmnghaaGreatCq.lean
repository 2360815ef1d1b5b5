/-
  Items that are told as lists that are read; what a row that is laid leaves, in plain words.
-/
import Derived.Test.YtdmnflncgmnghaaGreatCw
import Derived.Test.YtdmnflncgmnghaaGreatJp
import Derived.Test.YtdmnflncgmnghaaGreatPr
import Derived.Test.YtdmnflncgmnghaaGreatSn
namespace Go.Proofs.YtdmnflncgmnghaaGreat
open Go.RowKit Go.ChangeShapes Go.WideShapes Go.ChangeAt

theorem ItL.In.any {B : Nat} {w : World} {x : ItL} (h : x.In (· < B) w) : x.In (fun _ => True) w := ⟨h.hid, h.hvec.mono (fun _ _ _ => trivial), h.htags.mono (fun _ _ _ => trivial)⟩
def ItL.tup (x : ItL) : shItem.T := ((x.id : Int), x.vec, x.tags, ())
theorem tup_item (x : ItL) : toItem x.tup = x.toI := rfl
/-- Items that a call has told, as they are read. -/
theorem its_rd {lo : Nat} {w : World} {v : Value} {xs : List ItL} (h : ItsAt lo w v xs) (ho : ∀ x ∈ xs, x.OwnI lo w) (hl : xs.length ≤ 1000000) : ∃ (a : Option Addr) (n c : Nat), v = .slice a n c ∧ Rd (fun _ => True) w shItems [.slice a n c] (xs.map ItL.tup) := by
  obtain ⟨a, c, e, hc⟩ := RowC.form h
  rw [List.length_map] at e hc
  refine ⟨a, xs.length, c, e, ?_⟩
  subst e
  refine Rd.slice_mk ⟨a, xs.length, c, rfl, by simp, by omega, by omega, hc, ?_, ?_⟩
  · intro ha
    rcases h.2.2 with ⟨h1, h2⟩ | ⟨g, cap, cur, h1, _⟩
    · simp only [Value.slice.injEq] at h1
      exact ⟨h1.2.1, h1.2.2⟩
    · subst ha
      simp at h1
  · by_cases h0 : xs.length = 0
    · exact .inl h0
    · obtain ⟨x0, hx0⟩ : ∃ x0, xs[0]? = some x0 := ⟨_, List.getElem?_eq_getElem (by omega)⟩
      obtain ⟨g, c', e, hg, hgw, _⟩ := RowC.at h 0 x0.cells (by rw [List.getElem?_map, hx0]; rfl)
      simp only [Value.slice.injEq] at e
      obtain ⟨rfl, -, rfl⟩ := e
      refine .inr ⟨g, 0, rfl, trivial, hgw, fun i y hy => ?_⟩
      have hy' : (xs.map ItL.tup)[i]? = some y := hy
      rw [List.getElem?_map] at hy'
      cases hx : xs[i]? with
      | none =>
        rw [hx] at hy'
        cases hy'
      | some x =>
        rw [hx] at hy'
        cases hy'
        obtain ⟨g2, c2, e2, _, _, hrg⟩ := RowC.at h i x.cells (by rw [List.getElem?_map, hx]; rfl)
        simp only [Value.slice.injEq, Option.some.injEq, Addr.mk.injEq] at e2
        obtain ⟨⟨rfl, -⟩, -, rfl⟩ := e2
        have hox := (ho x (List.mem_of_getElem? hx)).in
        refine ⟨x.cells, rfl, fun j hj => ?_, rd_item_mk hox.hid hox.hvec hox.htags⟩
        rw [Nat.zero_add]
        have h3 : j < x.cells.length := hj
        rw [List.getElem?_eq_getElem h3]
        exact hrg j _ (List.getElem?_eq_getElem h3)
/-- What a row that is laid leaves, in plain words. -/
theorem lay_cases (p : PastV) (r : RowV) : (p.lay r).1 = p ∨ ((p.lay r).1 = { p with rows := p.rows ++ [r], last := r.v } ∧ p.last ≤ r.v) := by
  unfold PastV.lay
  split
  · exact .inl rfl
  · rename_i h
    split
    · exact .inl rfl
    · split
      · exact .inl rfl
      · exact .inr ⟨rfl, by omega⟩
theorem lay_known (p : PastV) (r : RowV) (v : Nat) : (p.lay r).1.known v = p.known v := by
  rcases lay_cases p r with h | ⟨h, _⟩
  · rw [h]
  · rw [h]
    rfl
theorem lay_last (p : PastV) (r : RowV) : p.last ≤ (p.lay r).1.last := by
  rcases lay_cases p r with h | ⟨h, h2⟩
  · rw [h]
    exact Nat.le_refl _
  · rw [h]
    exact h2
theorem lay_few (p : PastV) (r : RowV) : (p.lay r).1.rows.length ≤ p.rows.length + 1 := by
  rcases lay_cases p r with h | ⟨h, h2⟩
  · rw [h]
    omega
  · rw [h]
    simp
theorem allI_len (L : List RowV) (v : Nat) : ∀ i, (allI L v i).length ≤ i := by
  intro i
  induction i with
  | zero => exact Nat.le_refl _
  | succ i ih =>
    unfold allI
    split
    · omega
    · split
      · rw [insI, insG_len]
        omega
      · omega
theorem all_len (p : PastV) (v : Nat) : (p.all v).1.length ≤ p.rows.length := by
  unfold PastV.all
  split
  · exact allI_len _ _ _
  · exact Nat.zero_le _
end Go.Proofs.YtdmnflncgmnghaaGreat
