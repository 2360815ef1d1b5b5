/-
  Layer 16, what its laws share: the table as a law has it, its calls.
-/
import Derived.Test.YtdgiellnklcioaaDdh
import Derived.Test.YtdgiellnklcioaaFr
namespace Go.Proofs.Ytdgiellnklcioaa
open Go.ChangeShapes Go.WideShapes Go.ChangeAt Go.RowKit Go.Maps

/-- A table that a law has made. -/
def At16 (w0 : World) (G : List Nat) (x : Nat) (t : TV) (w : World) : Prop := DIs w w0.heap.size G x t ∧ Below w0.heap.size w0 w
section
variable {w0 w w' : World} {G : List Nat} {x : Nat} {t : TV}
theorem At16.on (h : At16 w0 G x t w) (hb : Below w.heap.size w w') : At16 w0 G x t w' := ⟨h.1.on hb, h.2.trans (hb.mono h.2.size)⟩
theorem At16.kept (h : At16 w0 G x t w) {F : List Nat} (hk : Kept F w w') (hF : ∀ k ∈ F, k ∈ G ∧ w0.heap.size ≤ k) : At16 w0 G x t w' := ⟨h.1.kept hk fun k hk => .inl (hF k hk).1, h.2.trans (hk.below (fun b hb => (hF b hb).2) h.2.size)⟩
theorem At16.grow (h : At16 w0 G x t w) {G' : List Nat} (hG : ∀ k ∈ G', k < w'.heap.size ∧ (k ∈ G ∨ w.heap.size ≤ k)) (hb : Below w.heap.size w w') : At16 w0 G' x t w' := ⟨h.1.grow hG hb, h.2.trans (hb.mono h.2.size)⟩
end
theorem a_new (w0 w : World) (hb : Below w0.heap.size w0 w) : Calls Try.prog 8 #[] w fun e w' => ∃ x, e = .returned (.pointer (some ⟨x, 0, none⟩)) ∧ At16 w0 [] x ⟨[], 0⟩ w' ∧ Below w.heap.size w w' := by
  refine (dnew_any w w0.heap.size hb.size).mono ?_
  rintro e w' ⟨x, rfl, h1, h2⟩
  exact ⟨x, rfl, ⟨h2, hb.trans (h1.mono hb.size)⟩, h1⟩
section
variable {w0 w : World} {G : List Nat} {x : Nat} {t : TV} (h : At16 w0 G x t w)
include h
theorem a_keep (req : Nat) (hr : req < 4294967296) (m : MsgL) (hm : m.In (· < w0.heap.size) w) : Calls Try.prog 13 #[.pointer (some ⟨x, 0, none⟩), .int .u32 (req : Int), .agg m.cells.toArray] w fun e w' => e = .returned (.int .i64 ((t.keep req m.toM).1 : Int)) ∧ At16 w0 G x (t.keep req m.toM).2 w' ∧ Spare w0.heap.size G w w' := by
  refine (dkeep_any w _ x G t h.1 req hr m hm).mono ?_
  rintro e w' ⟨rfl, h1, h2⟩
  exact ⟨rfl, ⟨h1, h.2.trans h2.below⟩, h2⟩
theorem a_ack (n : Nat) : Calls Try.prog 15 #[.pointer (some ⟨x, 0, none⟩), .int .u32 (n : Int)] w fun e w' => e = .returned (.int .i64 ((t.ack n).1 : Int)) ∧ At16 w0 G x (t.ack n).2 w' ∧ Spare w0.heap.size G w w' := by
  refine (dack_any w _ x G t h.1 n).mono ?_
  rintro e w' ⟨rfl, h1, h2⟩
  exact ⟨rfl, ⟨h1, h.2.trans h2.below⟩, h2⟩
theorem a_ask (req : Nat) (hr : req < 4294967296) : Calls Try.prog 10 #[.pointer (some ⟨x, 0, none⟩), .int .u32 (req : Int)] w (AskPost t req w) := dask_any w _ x G t h.1 req hr
theorem a_done : Calls Try.prog 17 #[.pointer (some ⟨x, 0, none⟩)] w fun e w' => e = .returned (.int .u32 (t.L.length : Int)) ∧ w = w' := ddone_any w _ x G t h.1
theorem a_acked : Calls Try.prog 18 #[.pointer (some ⟨x, 0, none⟩)] w fun e w' => e = .returned (.int .u32 (t.acked : Int)) ∧ w = w' := dacked_any w _ x G t h.1
theorem a_len : Calls Try.prog 19 #[.pointer (some ⟨x, 0, none⟩)] w fun e w' => e = .returned (.int .i64 ((t.L.length - t.acked : Nat) : Int)) ∧ w = w' := dlen_any w _ x G t h.1
end
/-- The first k answers of numbers. -/
def numsT (k : Nat) : List MsgV := (List.range k).map fun j => (numL (j + 1)).toM
theorem numsT_len (k : Nat) : (numsT k).length = k := by simp [numsT]
theorem numsT_succ (k : Nat) : numsT (k + 1) = numsT k ++ [(numL (k + 1)).toM] := by simp [numsT, List.range_succ]
theorem keep_ok {t : TV} {req : Nat} {a : MsgV} (h1 : req = t.L.length + 1) (h2 : t.L.length < 1073741824) (h3 : t.L.length - t.acked < 16) : t.keep req a = (0, ⟨t.L ++ [a], t.acked⟩) := by
  unfold TV.keep
  rw [if_neg (by omega), if_neg (by omega), if_neg (by omega)]
theorem keep_full {t : TV} {req : Nat} {a : MsgV} (h1 : req = t.L.length + 1) (h2 : t.L.length < 1073741824) (h3 : 16 ≤ t.L.length - t.acked) : t.keep req a = (4, t) := by
  unfold TV.keep
  rw [if_neg (by omega), if_neg (by omega), if_pos h3]
theorem keep_arg {t : TV} {req : Nat} {a : MsgV} (h1 : req ≠ t.L.length + 1) : t.keep req a = (1, t) := by
  unfold TV.keep
  rw [if_pos h1]
theorem ack_ok {t : TV} {n : Nat} (h : n ≤ t.L.length) : t.ack n = (0, ⟨t.L, max t.acked n⟩) := by
  unfold TV.ack
  rw [if_neg (by omega)]
theorem ack_from0 (L : List MsgV) (n : Nat) (h : n ≤ L.length) : (TV.mk L 0).ack n = (0, ⟨L, n⟩) := by
  rw [ack_ok (t := ⟨L, 0⟩) h]
  show (0, TV.mk L (max 0 n)) = _
  rw [Nat.zero_max]
theorem ack_arg {t : TV} {n : Nat} (h : t.L.length < n) : t.ack n = (1, t) := by
  unfold TV.ack
  rw [if_pos h]
end Go.Proofs.Ytdgiellnklcioaa
