/-
  How long what is written is, what lists fit, what is read of a list's element. No program stands here.
-/
import Derived.Test.YtdgiellnklcioaaMg
import Derived.Test.YtdgiellnklcioaaGs
namespace Go.Proofs.Ytdgiellnklcioaa
open Go.RowKit
theorem cMany_fits {α : Type} (C : Cod α) (l : List α) : (cMany C).fits l ↔ l.length ≤ 128 ∧ ∀ a ∈ l, C.fits a := by
  show ((l.length ≤ 128 ∧ l.length = l.length ∧ ∀ a ∈ l, C.fits a) ∧ l = l) ↔ _
  constructor
  · exact fun h => ⟨h.1.1, h.1.2.2⟩
  · exact fun h => ⟨⟨h.1, rfl, h.2⟩, rfl⟩
theorem cMany_enc {α : Type} (C : Cod α) (l : List α) : (cMany C).enc l = vput l.length ++ encN C l := rfl
theorem encN_snoc {α : Type} (C : Cod α) (l : List α) (a : α) : encN C (l ++ [a]) = encN C l ++ C.enc a := by simp [encN]
theorem encN_len {α : Type} (C : Cod α) (l : List α) (m : Nat) (h : ∀ a ∈ l, (C.enc a).length ≤ m) : (encN C l).length ≤ l.length * m := by
  induction l with
  | nil => simp [encN]
  | cons a l ih =>
    have e : encN C (a :: l) = C.enc a ++ encN C l := by simp [encN]
    rw [e, List.length_append, List.length_cons, Nat.add_mul]
    have h1 := h a (by simp)
    have h2 := ih (fun b hb => h b (by simp [hb]))
    omega

/-- Of a list i things are gone by: all of them written, or one couldn't be. -/
def ManyI {α : Type} (C : Cod α) (B : Nat) (v0 : Value) (bs : List Nat) (l : List α) (i : Nat) (t : Bool) (v : Value) (w w' : World) : Prop :=
  (t = true ∧ (∀ a ∈ l.take i, C.fits a) ∧ Wrote B v0 v (bs ++ (vput l.length ++ encN C (l.take i))) w w') ∨ (t = false ∧ (¬ ∀ a ∈ l, C.fits a) ∧ Hid (Kept (ownL v0) w w'))

theorem ManyI.yes {α : Type} {C : Cod α} {B : Nat} {bs : List Nat} {l : List α} {i : Nat} {v0 v : Value} {w w' : World} (h : ManyI C B v0 bs l i true v w w') : (∀ a ∈ l.take i, C.fits a) ∧ Wrote B v0 v (bs ++ (vput l.length ++ encN C (l.take i))) w w' := by
  rcases h with ⟨_, h1, h2⟩ | ⟨h0, _⟩
  · exact ⟨h1, h2⟩
  · cases h0
theorem ManyI.no {α : Type} {C : Cod α} {B : Nat} {bs : List Nat} {l : List α} {i : Nat} {v0 v : Value} {w w' : World} (h : ManyI C B v0 bs l i false v w w') : (¬ ∀ a ∈ l, C.fits a) ∧ Hid (Kept (ownL v0) w w') := by
  rcases h with ⟨h0, _⟩ | ⟨_, h1, h2⟩
  · cases h0
  · exact ⟨h1, h2⟩
theorem cStr_len (s : List Nat) (h : cStr.fits s) : (cStr.enc s).length ≤ 4106 := by
  have h1 : s.length ≤ 4096 := h.1.1
  have h2 := vput_len10 (n := s.length) (by omega)
  rw [cStr_enc, List.length_append]
  omega

theorem cInt_fits (low high x : Int) (h0 : -9223372036854775808 ≤ x) (h1 : x ≤ 9223372036854775807) : (cInt low high).fits x ↔ low ≤ x ∧ x ≤ high := by
  show ((vfold x ≤ 18446744073709551615 ∧ vopen (vfold x) = x) ∧ decide (low ≤ x ∧ x ≤ high) = true) ↔ _
  have hlt := vfold_lt h0 h1
  constructor
  · exact fun h => of_decide_eq_true h.2
  · exact fun h => ⟨⟨by omega, vopen_fold x⟩, decide_eq_true h⟩
theorem cInt_enc (low high x : Int) : (cInt low high).enc x = vput (vfold x) := rfl
theorem cInt_len (low high x : Int) (h : (cInt low high).fits x) : ((cInt low high).enc x).length ≤ 10 := by
  have h1 : vfold x ≤ 18446744073709551615 := h.1.1
  rw [cInt_enc]
  exact vput_len10 (by omega)
theorem i32_wf {x : Int} (h : (Lit.int .i32 x).wf = true) : -2147483648 ≤ x ∧ x ≤ 2147483647 := by
  simp [Lit.wf, IntKind.min, IntKind.max, IntKind.signed, IntKind.bits] at h
  omega
theorem cStrs_len (v : List (List Nat)) (h : cStrs.fits v) : (cStrs.enc v).length ≤ 600000 := by
  obtain ⟨h1, h2⟩ := (cMany_fits cStr v).1 h
  have e : cStrs.enc v = vput v.length ++ encN cStr v := rfl
  have l1 := vput_len10 (n := v.length) (by omega)
  have l2 := encN_len cStr v 4106 (fun a ha => cStr_len a (h2 a ha))
  have l3 : v.length * 4106 ≤ 128 * 4106 := Nat.mul_le_mul_right _ h1
  rw [e, List.length_append]
  omega
theorem cItem_len (x : ItemV) (h : cItem.fits x) : (cItem.enc x).length ≤ 700000 := by
  obtain ⟨h0, h1, h2⟩ := (cItem_fits x).1 h
  have l0 := vput_len10 (n := x.id) (by omega)
  have l1 := cVec_len _ h1
  have l2 := cStrs_len _ h2
  rw [cItem_enc, List.length_append, List.length_append]
  omega
theorem many_len {α : Type} (C : Cod α) (m : Nat) (h : ∀ a, C.fits a → (C.enc a).length ≤ m) (l : List α) (hl : ∀ a ∈ l, C.fits a) (n : Nat) (hn : l.length ≤ 128) (bs : List Nat) (k : Nat) (hk : n ≤ 18446744073709551615) (hb : bs.length + 10 + 128 * m ≤ k) : (bs ++ (vput n ++ encN C l)).length ≤ k := by
  have h1 := vput_len10 (n := n) (by omega)
  have h2 := encN_len C l m (fun a ha => h a (hl a ha))
  have h3 : l.length * m ≤ 128 * m := Nat.mul_le_mul_right _ hn
  rw [List.length_append, List.length_append]
  omega
/-- What is read of an element of a list that is below B. -/
theorem rd_item_at {B : Nat} {w : World} {a : Option Addr} {n c : Nat} {xs : List shItem.T} (h : Rd (· < B) w shItems [.slice a n c] xs) (i : Nat) (hi : i < n) :
    ∃ b off x c0 c1 c2, a = some ⟨b, off, none⟩ ∧ b < w.heap.size ∧ xs[i]? = some x ∧ Hid (Rd (· < B) w shItem [c0, c1, c2] x) ∧ w.cell? ⟨b, off + i * 3, none⟩ = some c0 ∧ w.cell? ⟨b, off + i * 3 + 1, none⟩ = some c1 ∧ w.cell? ⟨b, off + i * 3 + 2, none⟩ = some c2 := by
  obtain ⟨b, off, x, vs, ha, _, hlt, hx, hl, hc, hr⟩ := Rd.elem (e := shItem) h i hi
  obtain ⟨_, _, _, _, _, _, _, _, _, _, hcs, _⟩ := rd_item hr
  subst hcs
  exact ⟨b, off, x, _, _, _, ha, hlt, hx, hr, hc 0 (by decide), hc 1 (by decide), hc 2 (by decide)⟩

theorem cHit_fits (x : HitV) (h0 : -9223372036854775808 ≤ x.dist) (h1 : x.dist ≤ 9223372036854775807) (h2 : x.id ≤ 4294967295) : cHit.fits x :=
  ⟨⟨(cInt_fits _ _ x.dist h0 h1).2 ⟨h0, h1⟩, h2⟩, rfl⟩
theorem cHit_enc (x : HitV) : cHit.enc x = vput (vfold x.dist) ++ vput x.id := rfl
theorem cHit_len (x : HitV) (h : cHit.fits x) : (cHit.enc x).length ≤ 20 := by
  have h1 : vfold x.dist ≤ 18446744073709551615 := h.1.1.1.1
  have h2 : x.id ≤ 4294967295 := h.1.2
  have l1 := vput_len10 (n := vfold x.dist) (by omega)
  have l2 := vput_len10 (n := x.id) (by omega)
  rw [cHit_enc, List.length_append]
  omega
theorem rd_hit_at {ok : Nat → Prop} {w : World} {a : Option Addr} {n c : Nat} {xs : List shHit.T} (h : Rd ok w shHits [.slice a n c] xs) (i : Nat) (hi : i < n) :
    ∃ (b off : Nat) (x : shHit.T) (d : Int) (id : Nat), a = some ⟨b, off, none⟩ ∧ b < w.heap.size ∧ xs[i]? = some x ∧ toHit x = ⟨d, id⟩ ∧ -9223372036854775808 ≤ d ∧ d ≤ 9223372036854775807 ∧ id ≤ 4294967295 ∧ w.cell? ⟨b, off + i * 2, none⟩ = some (.int .i64 d) ∧ w.cell? ⟨b, off + i * 2 + 1, none⟩ = some (.int .u32 (id : Int)) := by
  obtain ⟨b, off, x, vs, ha, _, hlt, hx, hl, hc, hr⟩ := Rd.elem (e := shHit) h i hi
  obtain ⟨d, id, rfl, hcs, h1, h2, h3⟩ := rd_hit hr
  subst hcs
  exact ⟨b, off, _, d, id, ha, hlt, hx, rfl, h2, h3, h1, hc 0 (by decide), hc 1 (by decide)⟩
theorem cChange_gone (i : ItemV) : cChange.fits ⟨true, i⟩ ↔ i.id ≤ 4294967295 ∧ i.vec = [] ∧ i.tags = [] := by
  show (((if true then 1 else 0 : Nat) ≤ 1 ∧ ((if true then 1 else 0 : Nat) == 1) = true) ∧ i.id ≤ 4294967295 ∧ (⟨i.id, [], []⟩ : ItemV) = i) ∧ (⟨true, i⟩ : ChangeV) = ⟨true, i⟩ ↔ _
  obtain ⟨id, vec, tags⟩ := i
  simp [eq_comm]
theorem cChange_item (i : ItemV) : cChange.fits ⟨false, i⟩ ↔ cItem.fits i := by
  show (((if false then 1 else 0 : Nat) ≤ 1 ∧ ((if false then 1 else 0 : Nat) == 1) = false) ∧ cItem.fits i) ∧ (⟨false, i⟩ : ChangeV) = ⟨false, i⟩ ↔ _
  simp
theorem cChange_enc_gone (i : ItemV) : cChange.enc ⟨true, i⟩ = cFlag.enc true ++ vput i.id := rfl
theorem cChange_enc_item (i : ItemV) : cChange.enc ⟨false, i⟩ = cFlag.enc false ++ cItem.enc i := rfl
theorem cFlag_len (b : Bool) : (cFlag.enc b).length = 1 := by
  cases b
  · rw [show cFlag.enc false = vput 0 from rfl, vput_small (by decide)]
    rfl
  · rw [show cFlag.enc true = vput 1 from rfl, vput_small (by decide)]
    rfl
theorem cChange_len (c : ChangeV) (h : cChange.fits c) : (cChange.enc c).length ≤ 800000 := by
  obtain ⟨g, i⟩ := c
  cases g
  · have h1 := cItem_len i ((cChange_item i).1 h)
    have h2 := cFlag_len false
    rw [cChange_enc_item, List.length_append]
    omega
  · have h1 := ((cChange_gone i).1 h).1
    have h2 := vput_len10 (n := i.id) (by omega)
    have h3 := cFlag_len true
    rw [cChange_enc_gone, List.length_append]
    omega
theorem toItem_id (id : Nat) (vec : List Int) (tags : List ByteArray) : toItem ((id : Int), vec, tags, ()) = ⟨id, vec, toTags tags⟩ := rfl
/-- What is read of a change in a list. -/
theorem rd_change_at {ok : Nat → Prop} {w : World} {a : Option Addr} {n c : Nat} {xs : List shChange.T} (h : Rd ok w shChanges [.slice a n c] xs) (i : Nat) (hi : i < n) :
    ∃ (b off : Nat) (x : shChange.T) (g : Bool) (id : Nat) (vec : List Int) (tags : List ByteArray) (a1 : Option Addr) (n1 k1 : Nat) (a2 : Option Addr) (n2 k2 : Nat), a = some ⟨b, off, none⟩ ∧ ok b ∧ b < w.heap.size ∧ xs[i]? = some x ∧ toChange x = ⟨g, ⟨id, vec, toTags tags⟩⟩ ∧ id ≤ 4294967295 ∧
      Hid (Rd ok w shItem [.int .u32 (id : Int), .slice a1 n1 k1, .slice a2 n2 k2] ((id : Int), vec, tags, ())) ∧ Hid (vec.length = n1) ∧ Hid (tags.length = n2) ∧ n1 ≤ 140737488351232 ∧ n2 ≤ 140737488351232 ∧
      w.cell? ⟨b, off + i * 4, none⟩ = some (.bool g) ∧ w.cell? ⟨b, off + i * 4 + 1, none⟩ = some (.int .u32 (id : Int)) ∧ w.cell? ⟨b, off + i * 4 + 2, none⟩ = some (.slice a1 n1 k1) ∧ w.cell? ⟨b, off + i * 4 + 3, none⟩ = some (.slice a2 n2 k2) := by
  obtain ⟨b, off, x, vs, ha, hok, hlt, hx, hl, hc, hr⟩ := Rd.elem (e := shChange) h i hi
  obtain ⟨g, y, c0, c1, c2, rfl, hcs, hy⟩ := rd_change hr
  subst hcs
  obtain ⟨id, vec, tags, a1, n1, k1, a2, n2, k2, rfl, hcs, hid, _, _, e1, e2, l1, l2⟩ := rd_item hy
  simp only [List.cons.injEq, and_true] at hcs
  obtain ⟨rfl, rfl, rfl⟩ := hcs
  exact ⟨b, off, _, g, id, vec, tags, a1, n1, k1, a2, n2, k2, ha, hok, hlt, hx, rfl, hid, hy, e1, e2, l1, l2, hc 0 (by decide), hc 1 (by decide), hc 2 (by decide), hc 3 (by decide)⟩
end Go.Proofs.Ytdgiellnklcioaa
