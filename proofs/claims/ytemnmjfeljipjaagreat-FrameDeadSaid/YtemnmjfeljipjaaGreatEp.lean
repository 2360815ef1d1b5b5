/-
  An argument that is a list of messages: its elements.
-/
import Derived.Test.YtemnmjfeljipjaaGreatMz
import Derived.Test.YtemnmjfeljipjaaGreatEm
namespace Go.Proofs.YtemnmjfeljipjaaGreat
open Go.ChangeShapes Go.WideShapes Go.ChangeAt Go.RowKit

set_option maxRecDepth 100000 in
theorem fit_msgs : ((Sh.slice shMsg 320).fit Tryz.prog).1 64 = true := by kernel_rfl
/-- A list of messages, all blocks that it leads to below B. -/
def Msgs (B : Nat) (w : World) (a : Option Addr) (n c : Nat) : Prop := ∃ xs, Rd (· < B) w (.slice shMsg 320) [.slice a n c] xs
theorem Msgs.under {B : Nat} {w w' : World} {a : Option Addr} {n c : Nat} (h : Msgs B w a n c) (hb : Below B w w') : Msgs B w' a n c :=
  h.imp fun _ hx => hx.stay hb.size (fun k hk _ => hb.block k hk) (fun _ h _ => h)
theorem Msgs.at {B : Nat} {w : World} {a : Option Addr} {n c : Nat} (h : Msgs B w a n c) (i : Nat) (hi : i < n) : ∃ (b off : Nat) (m : MsgL), a = some ⟨b, off, none⟩ ∧ b < w.heap.size ∧ w.rangeAt b (off + i * 28) m.cells ∧ m.In (· < B) w := by
  obtain ⟨xs, hx⟩ := h
  obtain ⟨b, off, x, vs, h1, _, h3, _, h5, h6, h7⟩ := hx.elem i hi
  obtain ⟨m, hm, hmi⟩ := rd_msg h7
  subst hm
  refine ⟨b, off, m, h1, h3, fun j v hj => ?_, hmi⟩
  have h8 := h6 j (by
    have := (List.getElem?_eq_some_iff.1 hj).1
    rw [h5] at this
    exact this)
  rw [hj] at h8
  exact h8
section
variable {H : Type} {enc : TypeId × Value → H} {W : World} {base : Nat} {ts : Array TypeId} {args : Array Value} {ds : List (DataW H)} {p : List MemPlace}
theorem Given.msgs (g : Given enc Tryz.prog W base ts args ds p) (j : Nat) (ht : ts[j]? = some 64) : ∃ (a : Option Addr) (n c : Nat), args[j]? = some (.slice a n c) ∧ n ≤ 140737488351232 ∧ Msgs W.heap.size W a n c := by
  obtain ⟨v, x, e1, hx⟩ := g.sh1 j ht (.slice shMsg 320) fit_msgs (.inl ⟨_, Tryz.underlying64⟩)
  obtain ⟨a, n, c, hcs, _, hn, h⟩ := Rd.slice_is (e := shMsg) hx
  simp only [List.cons.injEq, and_true] at hcs
  subst hcs
  exact ⟨a, n, c, e1, by omega, x, h.mono fun _ _ hk => hk⟩
end
end Go.Proofs.YtemnmjfeljipjaaGreat
