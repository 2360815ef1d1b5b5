/-
  Lists of items that a statement builds out of those that came in: rows of its own, the items' lists where they were.
-/
import Derived.Test.YteaomjabanhblaaLe
import Derived.Test.YteaomjabanhblaaEm
namespace Go.Proofs.Yteaomjabanhblaa
open Go.RowKit

theorem item_info10 : (Try.prog.info? 44).map (fun i => (i.zero, i.size, i.bytes)) = some (some (.agg #[.int .u32 0, .slice none 0 0, .slice none 0 0]), 3, 56) := by kernel_rfl
/-- Cells that read as items whose lists lie below lo. -/
def EachI (lo : Nat) (w : World) (css : List (List Value)) (xs : List shItem.T) : Prop :=
  css.length = xs.length ∧ ∀ (i : Nat) (x : shItem.T), xs[i]? = some x → ∃ cs, css[i]? = some cs ∧ Rd (· < lo) w shItem cs x
theorem EachI.nil (lo : Nat) (w : World) : EachI lo w [] [] := ⟨rfl, fun i x h => by simp at h⟩
theorem EachI.on {lo : Nat} {w w' : World} {css : List (List Value)} {xs : List shItem.T} (h : EachI lo w css xs) (hb : Below lo w w') : EachI lo w' css xs :=
  ⟨h.1, fun i x hx => by
    obtain ⟨cs, h1, h2⟩ := h.2 i x hx
    exact ⟨cs, h1, h2.under hb⟩⟩
theorem EachI.snoc {lo : Nat} {w : World} {css : List (List Value)} {xs : List shItem.T} (h : EachI lo w css xs) {cs : List Value} {x : shItem.T} (hx : Rd (· < lo) w shItem cs x) : EachI lo w (css ++ [cs]) (xs ++ [x]) := by
  refine ⟨by simp [h.1], fun i y hy => ?_⟩
  rcases Nat.lt_trichotomy i xs.length with hi | hi | hi
  · rw [List.getElem?_append_left hi] at hy
    obtain ⟨cs', h1, h2⟩ := h.2 i y hy
    exact ⟨cs', by rw [List.getElem?_append_left (by rw [h.1]; exact hi)]; exact h1, h2⟩
  · subst hi
    rw [List.getElem?_append_right (Nat.le_refl _), Nat.sub_self] at hy
    obtain rfl : x = y := Option.some.inj hy
    exact ⟨cs, by rw [List.getElem?_append_right (by rw [h.1]; exact Nat.le_refl _), h.1, Nat.sub_self]; rfl, hx⟩
  · rw [List.getElem?_eq_none (by simp; omega)] at hy
    cases hy
theorem RowC.items {lo lo' : Nat} {w : World} {v : Value} {css : List (List Value)} {xs : List shItem.T} (h : RowC lo' w 44 3 v css) (he : EachI lo w css xs) (hs : xs.length ≤ 1000000) :
    ∃ a c, v = .slice a xs.length c ∧ Rd (fun _ => True) w shItems [.slice a xs.length c] xs := by
  have hlt := h.lt
  rcases h.2.2 with ⟨rfl, h0⟩ | ⟨g, cap, cur, rfl, hg, hh, hn, hcap, hsz, htake⟩
  · have hx : xs.length = 0 := by rw [← he.1]; exact h0
    refine ⟨none, 0, by rw [hx], Rd.slice_mk (e := shItem) ⟨none, xs.length, 0, rfl, rfl, by omega, by omega, by omega, fun _ => ⟨hx, rfl⟩, .inl hx⟩⟩
  · rw [he.1] at *
    refine ⟨some ⟨g, 0, none⟩, cap, rfl, Rd.slice_mk (e := shItem) ⟨some ⟨g, 0, none⟩, xs.length, cap, rfl, rfl, by omega, by omega, hn, (fun h => by cases h), .inr ⟨g, 0, rfl, trivial, (hlt g rfl).2, fun i x hx => ?_⟩⟩⟩
    obtain ⟨cs, h4, h5⟩ := he.2 i x hx
    refine ⟨cs, h5.len, fun j hj => ?_, h5.mono fun _ _ _ => trivial⟩
    rw [show shItem.cells = 3 from rfl, Nat.zero_add, cell_of_row w g (i * 3 + j) _ 44 (0, 0) hh, ← flatten_at css 3 h.1 i cs h4 j hj, ← htake, List.getElem?_take_of_lt, ← Array.getElem?_toList]
    have hi : i < xs.length := (List.getElem?_eq_some_iff.1 hx).1
    have := Nat.mul_le_mul_right 3 (show i + 1 ≤ xs.length from hi)
    rw [Nat.add_mul] at this
    have : j < 3 := hj
    omega
theorem Given.sizes10 {H : Type} {enc : TypeId × Value → H} {W : World} {base : Nat} {ts : Array TypeId} {args : Array Value} {ds : List (DataW H)} {p : List MemPlace} (g : Given enc Try.prog W base ts args ds p) (j : Nat) (ht : ts[j]? = some 42) : ∃ (a : Option Addr) (n c : Nat) (xs : List Int), args[j]? = some (.slice a n c) ∧ Reads .u8 W a n xs := by
  obtain ⟨v, x, e1, hx⟩ := g.sh1 j ht (.slice (.int .u8) 1) (by kernel_rfl) (.inl ⟨_, Try.underlying42⟩)
  obtain ⟨a, n, c, hcs, _, _, h⟩ := Rd.slice_is (e := .int .u8) hx
  simp only [List.cons.injEq, and_true] at hcs
  subst hcs
  exact ⟨a, n, c, x, e1, Rd.ints h rfl⟩
theorem args5 {args : Array Value} {a b c d e : Value} (h : args.size = 5) (h0 : args[0]? = some a) (h1 : args[1]? = some b) (h2 : args[2]? = some c) (h3 : args[3]? = some d) (h4 : args[4]? = some e) : args = #[a, b, c, d, e] := by
  apply Array.ext_getElem?
  intro i
  match i with
  | 0 => rw [h0]; rfl
  | 1 => rw [h1]; rfl
  | 2 => rw [h2]; rfl
  | 3 => rw [h3]; rfl
  | 4 => rw [h4]; rfl
  | i + 5 => simp [h]
/-- An item out of its parts. -/
def mkI (id : Nat) (vec : List Int) (tags : List ByteArray) : shItem.T := (((id : Int), vec, tags, ()) : Int × List Int × List ByteArray × Unit)
/-- An item's cells in a list that came in. -/
theorem rd_item10 {B : Nat} {w : World} {a : Option Addr} {n c : Nat} {xs : List shItem.T} (h : Rd (· < B) w shItems [.slice a n c] xs) (i : Nat) (hi : i < n) :
    ∃ (b off id : Nat) (vec : List Int) (tags : List ByteArray) (va : Option Addr) (vn vc : Nat) (ta : Option Addr) (tn tc : Nat), a = some ⟨b, off, none⟩ ∧ xs[i]? = some (mkI id vec tags) ∧ id ≤ 4294967295 ∧
      Hid (∀ w', Below B w w' → b < w'.heap.size ∧ w'.cell? ⟨b, off + i * 3, none⟩ = some (.int .u32 (id : Int)) ∧ w'.cell? ⟨b, off + i * 3 + 1, none⟩ = some (.slice va vn vc) ∧ w'.cell? ⟨b, off + i * 3 + 2, none⟩ = some (.slice ta tn tc) ∧ Rd (· < B) w' shItem [.int .u32 (id : Int), .slice va vn vc, .slice ta tn tc] (mkI id vec tags) ∧
        Rd (· < B) w' shVec [.slice va vn vc] vec ∧ Rd (· < B) w' shTags [.slice ta tn tc] tags) := by
  obtain ⟨b, off, x, vs, ha, hok, hlt, hx, hl, hc, hr⟩ := Rd.elem (e := shItem) h i hi
  have hr0 := hr
  obtain ⟨id, vec, tags, va, vn, vc, ta, tn, tc, rfl, hcs, hid, rv, rt, _, _, _, _⟩ := rd_item hr
  subst hcs
  have hbB : b < B := hok
  refine ⟨b, off, id, vec, tags, va, vn, vc, ta, tn, tc, ha, hx, hid, fun w' hw => ⟨Nat.lt_of_lt_of_le hlt hw.size, ?_, ?_, ?_, hr0.under hw, rv.under hw, rt.under hw⟩⟩
  · exact (hw.cell (p := ⟨b, _, none⟩) hbB).trans (hc 0 (by decide))
  · exact (hw.cell (p := ⟨b, _, none⟩) hbB).trans (hc 1 (by decide))
  · exact (hw.cell (p := ⟨b, _, none⟩) hbB).trans (hc 2 (by decide))
end Go.Proofs.Yteaomjabanhblaa
