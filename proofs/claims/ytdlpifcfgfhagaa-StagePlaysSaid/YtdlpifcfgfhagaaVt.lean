/-
  What is cut off a slice of bytes in front: the rest reads. No program stands here.
-/
import Derived.Test.YtdlpifcfgfhagaaVs
import Derived.WalkKit
namespace Go.Proofs.Ytdlpifcfgfhagaa
open Go.RowKit Go.ChangeShapes Go.WideShapes Go.ChangeAt

/-- 'b[k:]' of any slice of bytes that is long enough. -/
theorem block_add (a : Addr) (k : Nat) : (a.add k).block = a.block := by
  unfold Addr.add
  split <;> rfl
theorem cut_bytes3 {P : Program} (t e : TypeId) (hu : P.underlying t = some (.slice e)) (he : P.elem t = e) (hi : (P.info? e).map (fun i => (i.zero, i.size, i.bytes)) = some (some (.int .u8 0), 1, 1))
    (a : Option Addr) (n c k : Nat) (l : Int) (hl : l = (k : Int)) (hk : k ≤ n) :
    ∃ a', (∀ w, (Instr.slice t (.slice a n c) (some (.int .i64 l)) none none).run P w = .ok (.slice a' (n - k) (c - k)) w) ∧ (∀ w bs, BReads w a n c bs → BReads w a' (n - k) (c - k) (bs.drop k)) ∧ ∀ ad, a' = some ad → ∃ ad0, a = some ad0 ∧ ad0.block = ad.block := by
  obtain ⟨i0, hi, hz0, hz1, hz2⟩ := info_parts hi
  refine ⟨if c = k then a else a.map (·.add k), fun w => ?_, fun w bs h => ?_, fun ad had => ?_⟩
  · have hs : (sizeOf (P.elem t)).run P w = .ok 1 w := by
      rw [he]
      simp [sizeOf, typeInfo, hi, hz1]
    rw [run_slice_l (P := P) w t a n c (by rw [he]; exact hu) .i64 l (by omega) (by omega), hs]
    subst hl
    simp [Result.andThen, sliced]
  · have hroom := h.room
    have hlen := h.len
    refine ⟨by simp; omega, by have := h.small; omega, fun b hb => h.byte b (List.mem_of_mem_drop hb), fun e => ?_, by omega, ?_⟩
    · split at e
      · omega
      · have ha : a = none := by cases a <;> simp at e ⊢
        have := h.nilOk ha
        omega
    · by_cases hn : n - k = 0
      · exact .inl hn
      · rcases h.cells with h0 | ⟨b, off, rfl, hlt, hc⟩
        · omega
        · refine .inr ⟨b, off + k, ?_, hlt, fun i hi => ?_⟩
          · rw [if_neg (by omega)]
            simp [add_plain]
          · rw [Nat.add_assoc, hc (k + i) (by omega)]
            simp [byteAt, List.getD]
  · split at had
    · exact ⟨ad, had, rfl⟩
    · rw [Option.map_eq_some_iff] at had
      obtain ⟨ad0, h1, h2⟩ := had
      exact ⟨ad0, h1, by rw [← h2, block_add]⟩
theorem cut_bytes {P : Program} (t e : TypeId) (hu : P.underlying t = some (.slice e)) (he : P.elem t = e) (hi : (P.info? e).map (fun i => (i.zero, i.size, i.bytes)) = some (some (.int .u8 0), 1, 1))
    (a : Option Addr) (n c k : Nat) (l : Int) (hl : l = (k : Int)) (hk : k ≤ n) :
    ∃ a', (∀ w, (Instr.slice t (.slice a n c) (some (.int .i64 l)) none none).run P w = .ok (.slice a' (n - k) (c - k)) w) ∧ ∀ w bs, BReads w a n c bs → BReads w a' (n - k) (c - k) (bs.drop k) := by
  obtain ⟨a', h1, h2, _⟩ := cut_bytes3 t e hu he hi a n c k l hl hk
  exact ⟨a', h1, h2⟩
end Go.Proofs.Ytdlpifcfgfhagaa
