/-
  Plain words and lemmas on slices of integers that a call reads: no program stands here.
-/
import Derived.WalkKit
import Derived.ProofKit
import Derived.OpenShut
import Derived.Lib.Hide
namespace Go.Proofs.Ytdgiellnklcioaa
open Go.RowKit

/-- How many bytes a number of a kind takes. -/
def kbytes : IntKind → Nat
  | .i8 | .u8 => 1
  | .i16 | .u16 => 2
  | .i32 | .u32 => 4
  | _ => 8

/-- The slice value (a, n, _) reads in w as the integers xs of kind k. -/
structure Reads (k : IntKind) (w : World) (a : Option Addr) (n : Nat) (xs : List Int) : Prop where
  len : xs.length = n
  small : n ≤ 140737488351232
  bytes : n * kbytes k ≤ 140737488351232
  wf : ∀ x ∈ xs, (Lit.int k x).wf = true
  cells : n = 0 ∨ ∃ b off, a = some ⟨b, off, none⟩ ∧ b < w.heap.size ∧ ∀ i, i < n → w.cell? ⟨b, off + i, none⟩ = some (.int k (xs.getD i 0))

theorem Reads.below {k : IntKind} {w w' : World} {a : Option Addr} {n : Nat} {xs : List Int} (h : Reads k w a n xs) {B : Nat} (hB : w.heap.size ≤ B) (hb : Below B w w') : Reads k w' a n xs := by
  refine ⟨h.len, h.small, h.bytes, h.wf, ?_⟩
  rcases h.cells with h4 | ⟨b, off, ha, hlt, hc⟩
  · exact .inl h4
  · refine .inr ⟨b, off, ha, Nat.lt_of_lt_of_le hlt hb.size, fun i hi => ?_⟩
    rw [hb.cell (p := ⟨b, off + i, none⟩) (Nat.lt_of_lt_of_le hlt hB)]
    exact hc i hi

/-- A slice that a text has built: one new block. -/
theorem Reads.built {k : IntKind} (w : World) (xs : List Int) (e : TypeId) (h1 : xs.length ≤ 1000000) (h3 : ∀ x ∈ xs, (Lit.int k x).wf = true) :
    Reads k (w.alloc (.cells (xs.map (Value.int k)).toArray e)) (some ⟨w.heap.size, 0, none⟩) xs.length xs := by
  refine ⟨rfl, by omega, ?_, h3, .inr ⟨_, _, rfl, by simp, fun i hi => ?_⟩⟩
  · have : kbytes k ≤ 8 := by cases k <;> simp [kbytes]
    have := Nat.mul_le_mul h1 this
    omega
  rw [World.cell?_alloc_at _ _ _ _ rfl]
  simp [List.getD, hi]

theorem Reads.alloc {k : IntKind} {w : World} {a : Option Addr} {n : Nat} {xs : List Int} (h : Reads k w a n xs) (o : Obj) : Reads k (w.alloc o) a n xs :=
  h.below (Nat.le_refl _) ((Below.refl _ _).alloc (Nat.le_refl _) o)

theorem ret_int {k : IntKind} {a b : Int} (h : a = b) : Ending.returned (.int k a) = .returned (.int k b) := by rw [h]
theorem ret_bool {a b : Bool} (h : a = b) : Ending.returned (.bool a) = .returned (.bool b) := by rw [h]
end Go.Proofs.Ytdgiellnklcioaa
