/-
  Mathematics of sweeps: what is told at known versions stays. No program stands here.
-/
import Derived.Test.YtdmnflncgmnghaaGreatJm
namespace Go.Proofs.YtdmnflncgmnghaaGreat

/-- The row of an id at a version. -/
def toldP (L : List RowV) (id v : Nat) : Option RowV := if atP L id v < 0 then none else L[(atP L id v).toNat]?
theorem toldP_nil (id v : Nat) : toldP [] id v = none := rfl
theorem toldP_snoc (L : List RowV) (r : RowV) (id v : Nat) : toldP (L ++ [r]) id v = if r.hit id v then some r else toldP L id v := by
  unfold toldP
  rw [atP_snoc]
  cases h : r.hit id v
  · have hl := atP_lt L id v
    simp only [Bool.false_eq_true, if_false]
    split
    · rfl
    · rw [List.getElem?_append_left (by omega)]
  · simp only [if_true]
    rw [if_neg (by omega), Int.toNat_natCast, List.getElem?_append_right (Nat.le_refl _)]
    simp
theorem thereP_told (L : List RowV) (id v : Nat) : thereP L id v = (toldP L id v).filter fun r => !r.gone := by
  unfold thereP toldP
  split <;> rfl
theorem lastR_after (p : RowV → Bool) : ∀ (l : List RowV) (m : Nat) (r : RowV), lastR p l < m → l.reverse[m]? = some r → p r = false := by
  intro l
  induction l with
  | nil =>
    intro m r _ h
    simp at h
  | cons x l ih =>
    intro m r hm hr
    rw [List.reverse_cons] at hr
    unfold lastR at hm
    split at hm
    · rename_i hx
      have hl := (List.getElem?_eq_some_iff.1 hr).1
      simp at hl
      omega
    · rename_i hx
      by_cases hml : m < l.reverse.length
      · rw [List.getElem?_append_left hml] at hr
        exact ih m r hm hr
      · rw [List.getElem?_append_right (by omega)] at hr
        have : m - l.reverse.length = 0 := by
          have := (List.getElem?_eq_some_iff.1 hr).1
          simp at this
          rw [List.length_reverse]
          omega
        rw [this] at hr
        simp at hr
        subst hr
        simpa using hx
theorem atP_after {L : List RowV} {id v m : Nat} {r : RowV} (h : atP L id v < m) (hr : L[m]? = some r) : r.hit id v = false :=
  lastR_after _ L.reverse m r h (by rw [List.reverse_reverse]; exact hr)
theorem sweepI_succ (L : List RowV) (last : Nat) (ks : List Nat) {i : Nat} {r : RowV} (h : L[i]? = some r) : sweepI L last ks (i + 1) = if needP L last ks r i && (!r.gone || (sweepI L last ks i).any fun s => s.item.id == r.item.id) then sweepI L last ks i ++ [r] else sweepI L last ks i := by
  rw [sweepI, h]
/-- Behind the last row that counts a sweep lays nothing that counts. -/
theorem told_stays (L : List RowV) (last : Nat) (ks : List Nat) (id v j : Nat) (h : ∀ m r, j ≤ m → L[m]? = some r → r.hit id v = false) : ∀ i, j ≤ i → toldP (sweepI L last ks i) id v = toldP (sweepI L last ks j) id v := by
  intro i hi
  induction i with
  | zero =>
    obtain rfl : j = 0 := by omega
    rfl
  | succ i ih =>
    by_cases hji : j = i + 1
    · rw [hji]
    · rw [← ih (by omega)]
      cases hr : L[i]? with
      | none =>
        rw [sweepI, hr]
      | some r =>
        rw [sweepI_succ L last ks hr]
        split
        · rw [toldP_snoc, h i r (by omega) hr]
          rfl
        · rfl
theorem told_none_of {l : List RowV} {id v : Nat} (h : ∀ s ∈ l, s.item.id ≠ id) : toldP l id v = none := by
  unfold toldP
  by_cases hn : atP l id v < 0
  · rw [if_pos hn]
  · obtain ⟨i, hi⟩ := Int.eq_ofNat_of_zero_le (a := atP l id v) (by omega)
    obtain ⟨r, hr, h1, _⟩ := atP_hit hi
    exact absurd h1 (h r (List.mem_of_getElem? hr))
/-- What is told at the last version, or at one that is kept, stays. -/
theorem sweep_tells (L : List RowV) (last : Nat) (ks : List Nat) (id v : Nat) (hv : v = last ∨ v ∈ ks) : thereP (sweepI L last ks L.length) id v = thereP L id v := by
  rw [thereP_told, thereP_told]
  by_cases hn : atP L id v < 0
  · have e1 : toldP L id v = none := by
      unfold toldP
      rw [if_pos hn]
    have e2 := told_stays L last ks id v 0 (fun m r _ hr => atP_after (by omega) hr) L.length (Nat.zero_le _)
    rw [e1, e2]
    rfl
  · obtain ⟨i, hi⟩ := Int.eq_ofNat_of_zero_le (a := atP L id v) (by omega)
    obtain ⟨r, hr, hid, hrv⟩ := atP_hit hi
    have hil := (List.getElem?_eq_some_iff.1 hr).1
    have e1 : toldP L id v = some r := by
      unfold toldP
      rw [if_neg hn, hi, Int.toNat_natCast, hr]
    have e2 := told_stays L last ks id v (i + 1) (fun m s hm hs => atP_after (by omega) hs) L.length hil
    have hhit : r.hit id v = true := by simp [RowV.hit, hid, hrv]
    have hneed : needP L last ks r i = true := by
      unfold needP
      rw [hid]
      rcases hv with rfl | hv
      · rw [decide_eq_true hi]
        rfl
      · rw [Bool.or_eq_true]
        exact .inr (List.any_eq_true.2 ⟨v, hv, decide_eq_true hi⟩)
    rw [e1, e2, sweepI_succ L last ks hr, hneed, Bool.true_and]
    split
    · rw [toldP_snoc, hhit]
      rfl
    · rename_i hg
      simp only [Bool.or_eq_true, Bool.not_eq_true', not_or, Bool.not_eq_false, Bool.not_eq_true] at hg
      have hnone : toldP (sweepI L last ks i) id v = none := told_none_of (fun s hs he => by
        have h2 := List.any_eq_false.1 hg.2 s hs
        rw [hid, he] at h2
        simp at h2)
      rw [hnone]
      have hg1 := hg.1
      show none = Option.filter (fun r => !r.gone) (some r)
      rw [Option.filter_some, hg1]
      rfl
/-- Versions behind the last one tell what the last one does. -/
theorem lastR_same (p q : RowV → Bool) : ∀ l : List RowV, (∀ r ∈ l, p r = q r) → lastR p l = lastR q l := by
  intro l
  induction l with
  | nil => exact fun _ => rfl
  | cons x l ih =>
    intro h
    unfold lastR
    rw [h x (by simp), ih (fun r hr => h r (List.mem_cons_of_mem _ hr))]
theorem atP_behind {L : List RowV} {last id v : Nat} (hL : ∀ r ∈ L, r.v ≤ last) (hv : last ≤ v) : atP L id v = atP L id last :=
  lastR_same _ _ _ fun r hr => by
    have hx := hL r (by simpa using hr)
    unfold RowV.hit
    rw [decide_eq_true (show r.v ≤ v by omega), decide_eq_true hx]
/-- Rows of later versions change nothing of an earlier one. -/
theorem told_earlier (id v : Nat) : ∀ (M L : List RowV), (∀ r ∈ M, v < r.v) → toldP (L ++ M) id v = toldP L id v := by
  intro M
  induction M with
  | nil =>
    intro L _
    rw [List.append_nil]
  | cons r M ih =>
    intro L h
    have e : L ++ r :: M = (L ++ [r]) ++ M := by simp
    rw [e, ih (L ++ [r]) (fun s hs => h s (List.mem_cons_of_mem _ hs)), toldP_snoc]
    have hr := h r (by simp)
    have : r.hit id v = false := by
      unfold RowV.hit
      rw [decide_eq_false (by omega), Bool.and_false]
    rw [this]
    rfl
/-- Of two lists that tell the same at a version, the same rows put behind both tell the same. -/
theorem told_both (id v : Nat) : ∀ (M L L' : List RowV), toldP L id v = toldP L' id v → toldP (L ++ M) id v = toldP (L' ++ M) id v := by
  intro M
  induction M with
  | nil =>
    intro L L' h
    simpa using h
  | cons r M ih =>
    intro L L' h
    have e : ∀ K : List RowV, K ++ r :: M = (K ++ [r]) ++ M := fun K => by simp
    rw [e, e]
    refine ih _ _ ?_
    rw [toldP_snoc, toldP_snoc, h]
theorem thereP_snoc (L : List RowV) (r : RowV) (id v : Nat) : thereP (L ++ [r]) id v = if r.hit id v then (some r).filter (fun r => !r.gone) else thereP L id v := by
  rw [thereP_told, thereP_told, toldP_snoc]
  split <;> rfl
theorem there_both (id v : Nat) : ∀ (M L L' : List RowV), thereP L id v = thereP L' id v → thereP (L ++ M) id v = thereP (L' ++ M) id v := by
  intro M
  induction M with
  | nil =>
    intro L L' h
    simpa using h
  | cons r M ih =>
    intro L L' h
    have e : ∀ K : List RowV, K ++ r :: M = (K ++ [r]) ++ M := fun K => by simp
    rw [e, e]
    refine ih _ _ ?_
    rw [thereP_snoc, thereP_snoc, h]
theorem insG_iff {α : Type} (key : α → Nat) (x : α) : ∀ l z, z ∈ insG key x l ↔ z = x ∨ z ∈ l := by
  intro l z
  refine ⟨insG_mem key x l z, ?_⟩
  induction l with
  | nil =>
    intro h
    simpa [insG] using h
  | cons y l ih =>
    intro h
    unfold insG
    split
    · simpa using h
    · rcases h with h | h
      · exact List.mem_cons_of_mem _ (ih (.inl h))
      · rcases List.mem_cons.1 h with h | h
        · simp [h]
        · exact List.mem_cons_of_mem _ (ih (.inr h))
/-- By rising ids, strictly. -/
def RisingI (l : List ItemV) : Prop := l.Pairwise fun x y => x.id < y.id
theorem insI_rising (x : ItemV) : ∀ l, RisingI l → (∀ y ∈ l, y.id ≠ x.id) → RisingI (insI x l) := by
  intro l
  induction l with
  | nil => exact fun _ _ => by simp [RisingI, insI, insG]
  | cons y l ih =>
    intro h hn
    have h1 := List.pairwise_cons.1 h
    have hy := hn y (by simp)
    unfold insI insG
    split
    · rename_i hlt
      refine List.pairwise_cons.2 ⟨fun z hz => ?_, h⟩
      rcases List.mem_cons.1 hz with rfl | hz
      · exact hlt
      · have := h1.1 z hz
        omega
    · rename_i hlt
      refine List.pairwise_cons.2 ⟨fun z hz => ?_, ih h1.2 (fun z hz => hn z (List.mem_cons_of_mem _ hz))⟩
      rcases insG_mem _ _ _ _ hz with rfl | hz
      · omega
      · exact h1.1 z hz
theorem rising_ext : ∀ (l m : List ItemV), RisingI l → RisingI m → (∀ x, x ∈ l ↔ x ∈ m) → l = m := by
  intro l
  induction l with
  | nil =>
    intro m _ _ h
    cases m with
    | nil => rfl
    | cons y m => exact absurd ((h y).2 (by simp)) (by simp)
  | cons x l ih =>
    intro m hl hm h
    cases m with
    | nil => exact absurd ((h x).1 (by simp)) (by simp)
    | cons y m =>
      have h1 := List.pairwise_cons.1 hl
      have h2 := List.pairwise_cons.1 hm
      have hxy : x = y := by
        rcases List.mem_cons.1 ((h x).1 (by simp)) with e | hx
        · exact e
        · rcases List.mem_cons.1 ((h y).2 (by simp)) with e | hy
          · exact e.symm
          · have := h1.1 y hy
            have := h2.1 x hx
            omega
      subst hxy
      rw [ih m h1.2 h2.2 (fun z => ?_)]
      constructor
      · intro hz
        rcases List.mem_cons.1 ((h z).1 (List.mem_cons_of_mem _ hz)) with rfl | e
        · have := h1.1 z hz
          omega
        · exact e
      · intro hz
        rcases List.mem_cons.1 ((h z).2 (List.mem_cons_of_mem _ hz)) with rfl | e
        · have := h2.1 z hz
          omega
        · exact e
theorem allI_mem (L : List RowV) (v : Nat) : ∀ i x, x ∈ allI L v i ↔ ∃ j r, j < i ∧ L[j]? = some r ∧ atP L r.item.id v = (j : Int) ∧ r.gone = false ∧ r.item = x := by
  intro i
  induction i with
  | zero => exact fun x => ⟨fun h => (by cases h), fun ⟨j, _, h, _⟩ => (by omega)⟩
  | succ i ih =>
    intro x
    rw [allI]
    cases hr : L[i]? with
    | none =>
      simp only
      rw [ih]
      constructor
      · rintro ⟨j, r, h, k⟩
        exact ⟨j, r, by omega, k⟩
      · rintro ⟨j, r, h, k⟩
        by_cases hj : j = i
        · rw [hj, hr] at k
          cases k.1
        · exact ⟨j, r, by omega, k⟩
    | some s =>
      simp only
      split
      · rename_i hs
        rw [insI, insG_iff, ih]
        constructor
        · rintro (rfl | ⟨j, r, h, k⟩)
          · exact ⟨i, s, by omega, hr, hs.1, hs.2, rfl⟩
          · exact ⟨j, r, by omega, k⟩
        · rintro ⟨j, r, h, k1, k2, k3, k4⟩
          by_cases hj : j = i
          · rw [hj, hr] at k1
            cases k1
            exact .inl k4.symm
          · exact .inr ⟨j, r, by omega, k1, k2, k3, k4⟩
      · rename_i hs
        rw [ih]
        constructor
        · rintro ⟨j, r, h, k⟩
          exact ⟨j, r, by omega, k⟩
        · rintro ⟨j, r, h, k1, k2, k3, k4⟩
          by_cases hj : j = i
          · rw [hj, hr] at k1
            cases k1
            rw [hj] at k2
            exact absurd ⟨k2, k3⟩ hs
          · exact ⟨j, r, by omega, k1, k2, k3, k4⟩
theorem allI_rising (L : List RowV) (v : Nat) : ∀ i, RisingI (allI L v i) := by
  intro i
  induction i with
  | zero => exact List.Pairwise.nil
  | succ i ih =>
    rw [allI]
    cases hr : L[i]? with
    | none => exact ih
    | some s =>
      simp only
      split
      · rename_i hs
        refine insI_rising _ _ ih (fun y hy he => ?_)
        obtain ⟨j, r, h, _, k2, _, k4⟩ := (allI_mem L v i y).1 hy
        rw [k4, he, hs.1] at k2
        omega
      · exact ih
/-- All that is there: what is there of each id. -/
theorem all_there (L : List RowV) (v : Nat) (x : ItemV) : x ∈ allI L v L.length ↔ ∃ r, thereP L x.id v = some r ∧ r.item = x := by
  rw [allI_mem]
  constructor
  · rintro ⟨j, r, _, k1, k2, k3, rfl⟩
    refine ⟨r, ?_, rfl⟩
    unfold thereP
    rw [if_neg (by omega), k2, Int.toNat_natCast, k1]
    simp [k3]
  · rintro ⟨r, h, rfl⟩
    unfold thereP at h
    split at h
    · cases h
    · rename_i hn
      obtain ⟨i, hi⟩ := Int.eq_ofNat_of_zero_le (a := atP L r.item.id v) (by omega)
      rw [hi, Int.toNat_natCast] at h
      cases hr : L[i]? with
      | none =>
        rw [hr] at h
        cases h
      | some s =>
        rw [hr, Option.filter_some] at h
        split at h
        · rename_i hg
          cases h
          exact ⟨i, r, (List.getElem?_eq_some_iff.1 hr).1, hr, hi, by simpa using hg, rfl⟩
        · cases h
/-- Two pasts that have the same there at a version tell the same of all. -/
theorem all_same {L M : List RowV} {v v' : Nat} (h : ∀ id, thereP L id v = thereP M id v') : allI L v L.length = allI M v' M.length :=
  rising_ext _ _ (allI_rising _ _ _) (allI_rising _ _ _) (fun x => by rw [all_there, all_there, h x.id])
end Go.Proofs.YtdmnflncgmnghaaGreat
