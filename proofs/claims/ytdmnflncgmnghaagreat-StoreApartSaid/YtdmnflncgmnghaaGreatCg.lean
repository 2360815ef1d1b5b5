/-
  The program's past: what seen tells of each row: mathematics of going backwards with a map of the next younger rows.
-/
import Derived.Test.YtdmnflncgmnghaaGreatCm
import Derived.Test.YtdmnflncgmnghaaGreatCb
import Derived.Test.YtdmnflncgmnghaaGreatJp
namespace Go.Proofs.YtdmnflncgmnghaaGreat
open Go.RowKit

/-- What is told of a row whose next younger one has the version o. -/
def bval (ks : List Nat) (o : Option Nat) (v : Nat) : Bool := match o with
  | none => true
  | some e => ks.any fun k => decide (v ≤ k) && decide (k < e)
def seenS {L : List RowL} (ks : List Nat) (pre : List (BackT L)) : (Nat → Option Nat) × List Bool := pre.foldl (fun s x => (fun j => if j = x.1.2.id then some x.1.2.v else s.1 j, s.2.set x.1.1 (bval ks (s.1 x.1.2.id) x.1.2.v))) (fun _ => none, List.replicate L.length false)
theorem seenS_snoc {L : List RowL} (ks : List Nat) (pre : List (BackT L)) (x : BackT L) : seenS ks (pre ++ [x]) = (fun j => if j = x.1.2.id then some x.1.2.v else (seenS ks pre).1 j, (seenS ks pre).2.set x.1.1 (bval ks ((seenS ks pre).1 x.1.2.id) x.1.2.v)) := by simp [seenS]
theorem seenS_len {L : List RowL} (ks : List Nat) (pre : List (BackT L)) : (seenS ks pre).2.length = L.length := by
  have h : ∀ (pre : List (BackT L)) (s : (Nat → Option Nat) × List Bool), (pre.foldl (fun (s : (Nat → Option Nat) × List Bool) (x : BackT L) => (fun j => if j = x.1.2.id then some x.1.2.v else s.1 j, s.2.set x.1.1 (bval ks (s.1 x.1.2.id) x.1.2.v))) s).2.length = s.2.length := by
    intro pre
    induction pre with
    | nil => exact fun _ => rfl
    | cons x pre ih =>
      intro s
      rw [List.foldl_cons, ih]
      simp
  rw [seenS, h]
  simp
/-- f tells of each id the version of its first row from t on. -/
def NextOf (L : List RowL) (t : Nat) (f : Nat → Option Nat) : Prop := ∀ id, (f id = none ∧ ∀ j q, t ≤ j → L[j]? = some q → q.id ≠ id) ∨ (∃ j q, t ≤ j ∧ L[j]? = some q ∧ q.id = id ∧ f id = some q.v ∧ ∀ j' q', t ≤ j' → j' < j → L[j']? = some q' → q'.id ≠ id)
theorem NextOf.step {L : List RowL} {m : Nat} {r : RowL} {f : Nat → Option Nat} (h : NextOf L (m + 1) f) (hr : L[m]? = some r) : NextOf L m (fun j => if j = r.id then some r.v else f j) := by
  intro id
  by_cases hid : id = r.id
  · exact .inr ⟨m, r, Nat.le_refl _, hr, hid.symm, by simp [hid], fun j' q' h1 h2 => by omega⟩
  · rcases h id with ⟨h1, h2⟩ | ⟨j, q, h1, h2, h3, h4, h5⟩
    · refine .inl ⟨by simp [hid, h1], fun j q hj hq => ?_⟩
      by_cases hjm : j = m
      · subst hjm
        rw [hr] at hq
        cases hq
        exact fun h => hid h.symm
      · exact h2 j q (by omega) hq
    · refine .inr ⟨j, q, by omega, h2, h3, by simp [hid, h4], fun j' q' h6 h7 h8 => ?_⟩
      by_cases hjm : j' = m
      · subst hjm
        rw [hr] at h8
        cases h8
        exact fun h => hid h.symm
      · exact h5 j' q' (by omega) h7 h8
theorem rowsV_at {L : List RowL} {i : Nat} {r : RowL} (h : L[i]? = some r) : (rowsV L)[i]? = some r.toR := by rw [rowsV, List.getElem?_map, h]; rfl
theorem rowsV_at' {L : List RowL} {i : Nat} {s : RowV} (h : (rowsV L)[i]? = some s) : ∃ r, L[i]? = some r ∧ s = r.toR := by
  rw [rowsV, List.getElem?_map] at h
  cases hr : L[i]? with
  | none =>
    rw [hr] at h
    cases h
  | some r =>
    rw [hr] at h
    cases h
    exact ⟨r, rfl, rfl⟩
theorem lastR_ge (p : RowV → Bool) : ∀ (l : List RowV) (m : Nat) (r : RowV), l.reverse[m]? = some r → p r = true → (m : Int) ≤ lastR p l := by
  intro l m r hm hp
  by_cases h : (m : Int) ≤ lastR p l
  · exact h
  · have := lastR_after p l m r (by omega) hm
    rw [hp] at this
    cases this
theorem atP_ge {L : List RowV} {id v m : Nat} {r : RowV} (hr : L[m]? = some r) (h : r.hit id v = true) : (m : Int) ≤ atP L id v := lastR_ge _ L.reverse m r (by rw [List.reverse_reverse]; exact hr) h
/-- The place of an id's row at a version is i just if that row hits, and none behind it does. -/
theorem atP_is {L : List RowV} {id v i : Nat} {r : RowV} (hr : L[i]? = some r) : atP L id v = (i : Int) ↔ r.hit id v = true ∧ ∀ j s, i < j → L[j]? = some s → s.hit id v = false := by
  constructor
  · intro h
    obtain ⟨r', h1, h2, h3⟩ := atP_hit h
    rw [hr] at h1
    cases h1
    exact ⟨by simp [RowV.hit, h2, h3], fun j s hj hs => atP_after (by omega) hs⟩
  · rintro ⟨h1, h2⟩
    have h3 := atP_ge hr h1
    have h4 := atP_lt L id v
    by_cases h5 : atP L id v = (i : Int)
    · exact h5
    · obtain ⟨j, hj⟩ := Int.eq_ofNat_of_zero_le (a := atP L id v) (by omega)
      obtain ⟨s, hs, h6, h7⟩ := atP_hit hj
      have h8 := h2 j s (by omega) hs
      simp [RowV.hit, h6] at h8
      omega
theorem sorted_at {L : List RowL} (hs : L.Pairwise fun a b => a.v ≤ b.v) {i j : Nat} {r s : RowL} (hij : i ≤ j) (hr : L[i]? = some r) (hs' : L[j]? = some s) : r.v ≤ s.v := by
  rcases Nat.lt_or_eq_of_le hij with h | rfl
  · obtain ⟨hi, rfl⟩ := List.getElem?_eq_some_iff.1 hr
    obtain ⟨hj, rfl⟩ := List.getElem?_eq_some_iff.1 hs'
    exact List.pairwise_iff_getElem.1 hs i j hi hj h
  · rw [hr] at hs'
    cases hs'
    exact Nat.le_refl _
/-- What seen tells of a row is whether it is needed. -/
theorem need_next {L : List RowL} {last m : Nat} {r : RowL} {f : Nat → Option Nat} {ks kk : List Nat} (hs : L.Pairwise fun a b => a.v ≤ b.v) (hv : ∀ r ∈ L, r.v ≤ last) (hr : L[m]? = some r) (h : NextOf L (m + 1) f) (hk : ∀ x, x ∈ ks ↔ x ∈ kk ∧ x < last) : bval ks (f r.id) r.v = needP (rowsV L) last kk r.toR m := by
  have hrv := rowsV_at hr
  have hrl := hv r (List.mem_of_getElem? hr)
  unfold needP
  rcases h r.id with ⟨h1, h2⟩ | ⟨j, q, h1, h2, h3, h4, h5⟩
  · rw [h1]
    have : atP (rowsV L) r.toR.item.id last = (m : Int) := (atP_is hrv).2 ⟨by simp [RowV.hit, RowL.toR, RowL.item, hrl], fun j s hj hs' => by
      obtain ⟨q, hq, rfl⟩ := rowsV_at' hs'
      have := h2 j q (by omega) hq
      simp [RowV.hit, RowL.toR, RowL.item, this]⟩
    rw [decide_eq_true this]
    rfl
  · rw [h4]
    have hql := hv q (List.mem_of_getElem? h2)
    have hn : ¬ atP (rowsV L) r.toR.item.id last = (m : Int) := fun h => by
      have h6 := ((atP_is hrv).1 h).2 j q.toR (by omega) (rowsV_at h2)
      simp [RowV.hit, RowL.toR, RowL.item, h3] at h6
      omega
    rw [decide_eq_false hn, Bool.false_or]
    have key : ∀ k, (decide (r.v ≤ k) && decide (k < q.v)) = decide (atP (rowsV L) r.toR.item.id k = (m : Int)) := fun k => by
      rw [Bool.eq_iff_iff]
      simp only [Bool.and_eq_true, decide_eq_true_eq]
      rw [atP_is hrv]
      constructor
      · rintro ⟨h6, h7⟩
        refine ⟨by simp [RowV.hit, RowL.toR, RowL.item, h6], fun j' s hj hs' => ?_⟩
        obtain ⟨q', hq', rfl⟩ := rowsV_at' hs'
        by_cases hjj : j' < j
        · have := h5 j' q' (by omega) hjj hq'
          simp [RowV.hit, RowL.toR, RowL.item, this]
        · have := sorted_at hs (show j ≤ j' by omega) h2 hq'
          show (_ && decide (q'.v ≤ k)) = false
          rw [decide_eq_false (by omega : ¬ q'.v ≤ k), Bool.and_false]
      · rintro ⟨h6, h7⟩
        simp [RowV.hit, RowL.toR, RowL.item] at h6
        have h8 := h7 j q.toR (by omega) (rowsV_at h2)
        refine ⟨of_decide_eq_true h6, ?_⟩
        by_cases h9 : k < q.v
        · exact h9
        · have h10 : q.toR.hit r.toR.item.id k = true := by
            unfold RowV.hit
            rw [Bool.and_eq_true, beq_iff_eq, decide_eq_true_eq]
            exact ⟨by simp [RowL.toR, RowL.item, h3], by simp [RowL.toR]; omega⟩
          rw [h8] at h10
          cases h10
    show (ks.any fun k => decide (r.v ≤ k) && decide (k < q.v)) = _
    rw [Bool.eq_iff_iff, List.any_eq_true, List.any_eq_true]
    constructor
    · rintro ⟨k, hk1, hk2⟩
      exact ⟨k, ((hk k).1 hk1).1, by rw [← key]; exact hk2⟩
    · rintro ⟨k, hk1, hk2⟩
      rw [← key] at hk2
      refine ⟨k, (hk k).2 ⟨hk1, ?_⟩, hk2⟩
      simp at hk2
      omega
theorem seen_all {L : List RowL} {last : Nat} {ks kk : List Nat} (hs : L.Pairwise fun a b => a.v ≤ b.v) (hv : ∀ r ∈ L, r.v ≤ last) (hk : ∀ x, x ∈ ks ↔ x ∈ kk ∧ x < last) : ∀ i r, L[i]? = some r → (seenS ks (bk L last L.length)).2[i]? = some (needP (rowsV L) last kk r.toR i) := by
  have key : ∀ d, d ≤ L.length → ∃ pre, bk L last L.length = pre ++ bk L last (L.length - d) ∧ NextOf L (L.length - d) (seenS ks pre).1 ∧ ∀ j q, L.length - d ≤ j → L[j]? = some q → (seenS ks pre).2[j]? = some (needP (rowsV L) last kk q.toR j) := by
    intro d
    induction d with
    | zero =>
      intro _
      refine ⟨[], rfl, fun id => .inl ⟨rfl, fun j q hj hq => ?_⟩, fun j q hj hq => ?_⟩
      · have := (List.getElem?_eq_some_iff.1 hq).1
        omega
      · have := (List.getElem?_eq_some_iff.1 hq).1
        omega
    | succ d ih =>
      intro hd
      obtain ⟨pre, h1, h2, h3⟩ := ih (by omega)
      obtain ⟨m, hm⟩ : ∃ m, L.length - (d + 1) = m := ⟨_, rfl⟩
      have hm1 : L.length - d = m + 1 := by omega
      rw [hm1] at h1 h2 h3
      rw [hm]
      obtain ⟨r, hr⟩ : ∃ r, L[m]? = some r := ⟨_, List.getElem?_eq_getElem (by omega)⟩
      rw [bk_take hr (hv r (List.mem_of_getElem? hr))] at h1
      refine ⟨pre ++ [⟨(m, r), hr⟩], by rw [h1]; simp, ?_, fun j q hj hq => ?_⟩
      · rw [seenS_snoc]
        exact h2.step hr
      · rw [seenS_snoc]
        simp only
        by_cases hjm : j = m
        · subst hjm
          rw [hr] at hq
          cases hq
          rw [List.getElem?_set_self (by rw [seenS_len]; omega)]
          rw [need_next hs hv hr h2 hk]
        · rw [List.getElem?_set_ne (by omega)]
          exact h3 j q (by omega) hq
  obtain ⟨pre, h1, _, h3⟩ := key L.length (Nat.le_refl _)
  rw [Nat.sub_self] at h1 h3
  have : pre = bk L last L.length := by rw [h1]; simp [bk]
  rw [this] at h3
  exact fun i r hr => h3 i r (Nat.zero_le _) hr
end Go.Proofs.YtdmnflncgmnghaaGreat
