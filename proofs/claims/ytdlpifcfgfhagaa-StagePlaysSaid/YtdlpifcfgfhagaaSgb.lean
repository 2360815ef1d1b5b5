/-
  Layer 13: mathematics of tables of uploads (no program stands here): what stays true whatever is done.
-/
import Derived.Test.YtdlpifcfgfhagaaSga
namespace Go.Proofs.Ytdlpifcfgfhagaa

section
variable {k k' n page owner : Nat} {s : TabV} {b : List Nat} {u : UpV} {name : ByteArray}
theorem TabV.Few.mono (h : s.Few k) (hk : k ≤ k') : s.Few k' := ⟨Nat.le_trans h.last hk, h.low, fun u hu => Nat.le_trans (h.page u hu) hk, h.most, h.four, h.apart⟩
theorem TabV.few_new (k : Nat) : (⟨[], 0⟩ : TabV).Few k := ⟨Nat.zero_le _, by simp, by simp, by simp, by simp, by simp⟩
theorem TabV.Few.start (h : s.Few k) (hl : s.ups.length < 4) : (s.start owner name).Few (k + 1) := by
  refine ⟨Nat.succ_le_succ h.last, fun u hu => ?_, fun u hu => ?_, fun u hu => ?_, by simp [TabV.start]; omega, ?_⟩
  · rcases List.mem_append.1 hu with hu | hu
    · have := h.low u hu
      exact ⟨this.1, Nat.le_succ_of_le this.2⟩
    · rw [List.mem_singleton.1 hu]
      exact ⟨Nat.succ_le_succ (Nat.zero_le _), Nat.le_refl _⟩
  · rcases List.mem_append.1 hu with hu | hu
    · exact Nat.le_succ_of_le (h.page u hu)
    · rw [List.mem_singleton.1 hu]
      exact Nat.zero_le _
  · rcases List.mem_append.1 hu with hu | hu
    · exact h.most u hu
    · rw [List.mem_singleton.1 hu]
      exact Nat.zero_le _
  · refine List.pairwise_append.2 ⟨h.apart, by simp, fun u hu v hv => ?_⟩
    rw [List.mem_singleton.1 hv]
    have := (h.low u hu).2
    simp only
    omega
theorem TabV.Few.fewer {q : UpV → Bool} (h : s.Few k) : ({ s with ups := s.ups.filter q } : TabV).Few k :=
  ⟨h.last, fun u hu => h.low u (List.mem_filter.1 hu).1, fun u hu => h.page u (List.mem_filter.1 hu).1, fun u hu => h.most u (List.mem_filter.1 hu).1, Nat.le_trans (List.length_filter_le _ _) h.four, h.apart.filter _⟩
theorem TabV.Few.cut (h : s.Few k) : (s.cut n).Few k := h.fewer
theorem TabV.Few.leave (h : s.Few k) : (s.leave owner).Few k := h.fewer
theorem TabV.Few.grow (h : s.Few k) (hb : ∀ u ∈ s.ups, u.n = n → u.b.length + b.length ≤ 4096) : (s.grow n b).Few (k + 1) := by
  have old : ∀ u ∈ (s.grow n b).ups, ∃ v ∈ s.ups, u = if v.n = n then v.put b else v := by
    intro u hu
    obtain ⟨v, hv, rfl⟩ := List.mem_map.1 hu
    exact ⟨v, hv, rfl⟩
  have num : ∀ v : UpV, (if v.n = n then v.put b else v).n = v.n := by
    intro v
    split <;> rfl
  refine ⟨Nat.le_succ_of_le h.last, fun u hu => ?_, fun u hu => ?_, fun u hu => ?_, by simpa [TabV.grow] using h.four, ?_⟩
  · obtain ⟨v, hv, rfl⟩ := old u hu
    rw [num]
    exact h.low v hv
  · obtain ⟨v, hv, rfl⟩ := old u hu
    have := h.page v hv
    split
    · exact Nat.succ_le_succ this
    · omega
  · obtain ⟨v, hv, rfl⟩ := old u hu
    split
    · rename_i e
      have := hb v hv e
      simpa [UpV.put] using this
    · exact h.most v hv
  · unfold TabV.grow
    simp only
    rw [List.pairwise_map]
    exact h.apart.imp fun hh => by rw [num, num]; exact hh
theorem TabV.chunk_ok (h : s.chunkE owner n page b = 0) : ∃ u, s.own owner n = some u ∧ page = u.page + 1 ∧ u.b.length + b.length ≤ 4096 := by
  unfold TabV.chunkE at h
  split at h
  · cases h
  · rename_i u hu
    refine ⟨u, hu, ?_⟩
    by_cases h1 : page = u.page + 1
    · rw [if_neg (fun hh => hh h1)] at h
      by_cases h2 : u.b.length + b.length > 4096
      · rw [if_pos h2] at h
        cases h
      · exact ⟨h1, by omega⟩
    · rw [if_pos h1] at h
      cases h
theorem pair_uniq {l : List UpV} (h : l.Pairwise fun u v => u.n ≠ v.n) : ∀ a ∈ l, ∀ c ∈ l, a.n = c.n → a = c := by
  intro a ha c hc e
  rcases pair_one (fun a b hh ee => hh ee.symm) h a ha c hc with h2 | h2
  · exact h2
  · exact absurd e h2
theorem TabV.Few.chunk (h : s.Few k) : (s.chunk owner n page b).Few (k + 1) := by
  unfold TabV.chunk
  split
  · rename_i he
    obtain ⟨u, hu, -, hl⟩ := TabV.chunk_ok he
    obtain ⟨h1, h2, -⟩ := own_some hu
    refine h.grow fun v hv e => ?_
    rw [pair_uniq h.apart v hv u h1 (e.trans h2.symm)]
    exact hl
  · exact h.mono (Nat.le_succ _)
theorem sum_le {l : List Nat} {m : Nat} (h : ∀ x ∈ l, x ≤ m) : l.sum ≤ l.length * m := by
  induction l with
  | nil => simp
  | cons x l ih =>
    have h1 := h x (by simp)
    have h2 := ih fun y hy => h y (by simp [hy])
    simp only [List.sum_cons, List.length_cons, Nat.add_mul, Nat.one_mul]
    omega
theorem TabV.Few.bytes (h : s.Few k) : s.bytes ≤ 16384 := by
  have h1 : s.bytes ≤ _ := sum_le (l := s.ups.map fun u => u.b.length) (m := 4096) (by
    intro x hx
    obtain ⟨u, hu, rfl⟩ := List.mem_map.1 hx
    exact h.most u hu)
  rw [List.length_map] at h1
  have h2 := h.four
  have := Nat.mul_le_mul_right 4096 h2
  omega
theorem TabV.start_full (s : TabV) : ¬ s.ups.length < 4 → 4 ≤ s.ups.length := by omega
end
end Go.Proofs.Ytdlpifcfgfhagaa
