/-
  Shapes of plain data: what is read of slices of numbers, of texts, of bytes, of structs, in the elder words; elements. No program stands here.
-/
import Derived.Test.YtdgiellnklcioaaSh
import Derived.Test.YtdgiellnklcioaaGs
import Derived.Test.YtdgiellnklcioaaVs
namespace Go.Proofs.Ytdgiellnklcioaa
open Go.RowKit

/-- A struct of these fields. -/
def st : List Sh → Sh
  | [] => .unit
  | a :: l => .pair a (st l)

section
variable {ok : Nat → Prop} {w w' : World} {B : Nat}
theorem Rd.under {s : Sh} {cs : List Value} {x : s.T} (h : Rd (· < B) w s cs x) (hb : Below B w w') : Rd (· < B) w' s cs x := h.stay hb.size (fun k hk _ => hb.block k hk) (fun _ h _ => h)
theorem Rd.pair_parts {a b : Sh} {cs : List Value} {x : a.T} {y : b.T} (h : Rd ok w (.pair a b) cs (x, y)) : ∃ c1 c2, cs = c1 ++ c2 ∧ Rd ok w a c1 x ∧ Rd ok w b c2 y := Rd.pair_is h
theorem Rd.int_part {k : IntKind} {cs : List Value} {x : Int} (h : Rd ok w (.int k) cs x) : cs = [.int k x] ∧ (Lit.int k x).wf = true := Rd.int_is h
theorem Rd.bool_part {cs : List Value} {x : Bool} (h : Rd ok w .bool cs x) : cs = [.bool x] := Rd.bool_is h
theorem Rd.str_part {cs : List Value} {x : ByteArray} (h : Rd ok w .str cs x) : cs = [.string x] ∧ x.size ≤ 140737488351232 := Rd.str_is h
theorem Rd.unit_part {cs : List Value} {x : Unit} (h : Rd ok w .unit cs x) : cs = [] := Rd.unit_is h
theorem Rd.slice_part {e : Sh} {sz : Nat} {cs : List Value} {xs : List e.T} (h : Rd ok w (.slice e sz) cs xs) : ∃ a n c, cs = [.slice a n c] ∧ xs.length = n ∧ n * sz ≤ 140737488351232 ∧ n ≤ 140737488351232 ∧ n ≤ c ∧ (a = none → n = 0 ∧ c = 0) ∧
    (n = 0 ∨ ∃ b off, a = some ⟨b, off, none⟩ ∧ ok b ∧ b < w.heap.size ∧ ∀ i x, xs[i]? = some x → ∃ vs, vs.length = e.cells ∧ (∀ j, j < e.cells → w.cell? ⟨b, off + i * e.cells + j, none⟩ = vs[j]?) ∧ Rd ok w e vs x) := Rd.slice_is0 h
theorem Rd.slice_is {e : Sh} {sz : Nat} {cs : List Value} {xs : List e.T} (h : Rd ok w (.slice e sz) cs xs) : ∃ a n c, cs = [.slice a n c] ∧ Hid (xs.length = n) ∧ n ≤ 140737488351232 ∧ Rd ok w (.slice e sz) [.slice a n c] xs := by
  obtain ⟨a, n, c, rfl, h1, _, h3, _⟩ := h.slice_part
  exact ⟨a, n, c, rfl, h1, h3, h⟩
/-- An element of a slice. -/
theorem Rd.elem {e : Sh} {sz : Nat} {a : Option Addr} {n c : Nat} {xs : List e.T} (h : Rd ok w (.slice e sz) [.slice a n c] xs) (i : Nat) (hi : i < n) :
    ∃ b off x vs, a = some ⟨b, off, none⟩ ∧ ok b ∧ b < w.heap.size ∧ xs[i]? = some x ∧ vs.length = e.cells ∧ (∀ j, j < e.cells → w.cell? ⟨b, off + i * e.cells + j, none⟩ = vs[j]?) ∧ Rd ok w e vs x := by
  obtain ⟨a', n', c', h0, h1, h2, h3, h4, h5, h6⟩ := h.slice_part
  simp only [List.cons.injEq, Value.slice.injEq, and_true] at h0
  obtain ⟨rfl, rfl, rfl⟩ := h0
  rcases h6 with h6 | ⟨b, off, ha, ho, hlt, hc⟩
  · omega
  · obtain ⟨vs, e1, e2, e3⟩ := hc i (xs[i]'(by omega)) (List.getElem?_eq_getElem _)
    exact ⟨b, off, _, vs, ha, ho, hlt, List.getElem?_eq_getElem _, e1, e2, e3⟩
theorem Rd.ints {k : IntKind} {sz : Nat} {a : Option Addr} {n c : Nat} {xs : List Int} (h : Rd ok w (.slice (.int k) sz) [.slice a n c] xs) (hk : sz = kbytes k) : Reads k w a n xs := by
  obtain ⟨a', n', c', h0, h1, h2, h3, h4, h5, h6⟩ := h.slice_part
  simp only [List.cons.injEq, Value.slice.injEq, and_true] at h0
  obtain ⟨rfl, rfl, rfl⟩ := h0
  subst hk
  have hwf : n = 0 ∨ ∀ x ∈ xs, (Lit.int k x).wf = true := by
    rcases h6 with h6 | ⟨b, off, ha, ho, hlt, hc⟩
    · exact .inl h6
    · refine .inr fun x hx => ?_
      obtain ⟨i, hi⟩ := List.getElem?_of_mem hx
      obtain ⟨vs, e1, e2, e3⟩ := hc i x hi
      exact e3.int_part.2
  refine ⟨h1, h3, h2, ?_, ?_⟩
  · rcases hwf with h0 | hwf
    · subst h0
      exact fun x hx => absurd h1 (Nat.ne_of_gt (List.length_pos_of_mem hx))
    · exact hwf
  · rcases h6 with h6 | ⟨b, off, ha, ho, hlt, hc⟩
    · exact .inl h6
    · refine .inr ⟨b, off, ha, hlt, fun i hi => ?_⟩
      have hil : i < List.length xs := Nat.lt_of_lt_of_eq hi h1.symm
      obtain ⟨vs, e1, e2, e3⟩ := hc i _ (List.getElem?_eq_getElem hil)
      have h7 := e2 0 (Nat.zero_lt_one)
      rw [e3.int_part.1] at h7
      simp only [Sh.cells, Nat.mul_one, Nat.add_zero, List.getElem?_cons_zero] at h7
      rw [h7]
      simp [List.getD, hil]
theorem Rd.strs {sz : Nat} {a : Option Addr} {n c : Nat} {xs : List ByteArray} (h : Rd ok w (.slice .str sz) [.slice a n c] xs) (hk : sz = 16) : SReads w a n c xs ∧ ∀ s ∈ xs, s.size ≤ maxLen := by
  obtain ⟨a', n', c', h0, h1, h2, h3, h4, h5, h6⟩ := h.slice_part
  simp only [List.cons.injEq, Value.slice.injEq, and_true] at h0
  obtain ⟨rfl, rfl, rfl⟩ := h0
  subst hk
  refine ⟨⟨h1, h2, h5, ?_⟩, ?_⟩
  · rcases h6 with h6 | ⟨b, off, ha, ho, hlt, hc⟩
    · exact .inl h6
    · refine .inr ⟨b, off, ha, hlt, fun i hi => ?_⟩
      have hil : i < List.length xs := Nat.lt_of_lt_of_eq hi h1.symm
      obtain ⟨vs, e1, e2, e3⟩ := hc i _ (List.getElem?_eq_getElem hil)
      have h7 := e2 0 (Nat.zero_lt_one)
      rw [e3.str_part.1] at h7
      simp only [Sh.cells, Nat.mul_one, Nat.add_zero, List.getElem?_cons_zero] at h7
      rw [h7]
      simp [strAt, List.getD, hil]
  · rcases h6 with h6 | ⟨b, off, ha, ho, hlt, hc⟩
    · subst h6
      exact fun x hx => absurd h1 (Nat.ne_of_gt (List.length_pos_of_mem hx))
    · intro x hx
      obtain ⟨i, hi⟩ := List.getElem?_of_mem hx
      obtain ⟨vs, e1, e2, e3⟩ := hc i x hi
      have := e3.str_part.2
      unfold maxLen
      omega
theorem u8_wf {x : Int} (h : (Lit.int .u8 x).wf = true) : 0 ≤ x ∧ x < 256 := by
  simp [Lit.wf, IntKind.min, IntKind.max, IntKind.signed, IntKind.bits] at h
  omega
theorem u32_wf {x : Int} (h : (Lit.int .u32 x).wf = true) : 0 ≤ x ∧ x < 4294967296 := by
  simp [Lit.wf, IntKind.min, IntKind.max, IntKind.signed, IntKind.bits] at h
  omega
theorem u16_wf {x : Int} (h : (Lit.int .u16 x).wf = true) : 0 ≤ x ∧ x < 65536 := by
  simp [Lit.wf, IntKind.min, IntKind.max, IntKind.signed, IntKind.bits] at h
  omega
theorem u64_wf {x : Int} (h : (Lit.int .u64 x).wf = true) : 0 ≤ x ∧ x < 18446744073709551616 := by
  simp [Lit.wf, IntKind.min, IntKind.max, IntKind.signed, IntKind.bits] at h
  omega
theorem i64_wf {x : Int} (h : (Lit.int .i64 x).wf = true) : -9223372036854775808 ≤ x ∧ x ≤ 9223372036854775807 := by
  simp [Lit.wf, IntKind.min, IntKind.max, IntKind.signed, IntKind.bits] at h
  omega
theorem Rd.bytes {a : Option Addr} {n c : Nat} {xs : List Int} (h : Rd ok w (.slice (.int .u8) 1) [.slice a n c] xs) : BReads w a n c (xs.map Int.toNat) ∧ (xs.map Int.toNat).map Int.ofNat = xs := by
  have hr := h.ints rfl
  obtain ⟨a', n', c', h0, h1, h2, h3, h4, h5, h6⟩ := h.slice_part
  simp only [List.cons.injEq, Value.slice.injEq, and_true] at h0
  obtain ⟨rfl, rfl, rfl⟩ := h0
  have hw : ∀ x ∈ xs, 0 ≤ x ∧ x < 256 := fun x hx => u8_wf (hr.wf x hx)
  refine ⟨⟨by rw [List.length_map]; exact h1, by omega, ?_, h5, h4, ?_⟩, ?_⟩
  · intro b hb
    obtain ⟨x, hx, rfl⟩ := List.mem_map.1 hb
    have := hw x hx
    omega
  · rcases hr.cells with h4 | ⟨b, off, ha, hlt, hcl⟩
    · exact .inl h4
    · refine .inr ⟨b, off, ha, hlt, fun i hi => ?_⟩
      rw [hcl i hi]
      have hil : i < List.length xs := Nat.lt_of_lt_of_eq hi h1.symm
      have := hw xs[i] (List.getElem_mem hil)
      simp [byteAt, List.getD, hil]
      omega
  · rw [List.map_map]
    conv => rhs; rw [← List.map_id xs]
    apply List.map_congr_left
    intro x hx
    have := hw x hx
    simp
    omega
end
end Go.Proofs.Ytdgiellnklcioaa
