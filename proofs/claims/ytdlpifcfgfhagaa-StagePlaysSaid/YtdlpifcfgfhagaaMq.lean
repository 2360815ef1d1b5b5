/-
  What readers share: steps from one state to the next; values as things of a shape. No program stands here.
-/
import Derived.Test.YtdlpifcfgfhagaaMp
import Derived.Test.YtdlpifcfgfhagaaSq
import Derived.Test.YtdlpifcfgfhagaaVt
import Derived.KernelRfl
namespace Go.Proofs.Ytdlpifcfgfhagaa
open Go.RowKit
theorem strB_of (l : List Nat) (h : ∀ b ∈ l, b < 256) : strB (strOfB l) = l := by
  simp only [strB, strOfB, strOfNums_data, List.map_map]
  conv => rhs; rw [← List.map_id l]
  apply List.map_congr_left
  intro b hb
  simp
  exact h b hb
theorem cNum_le {most : Nat} {hm : most < 18446744073709551616} {l r : List Nat} {n : Nat} (h : (cNum most hm).dec l = .inl (n, r)) : n ≤ most := by
  simp only [cNum] at h
  split at h
  · cases h
  · split at h
    · cases h
    · simp only [Sum.inl.injEq, Prod.mk.injEq] at h
      omega
theorem cText_dec {most : Nat} {hm : most < 18446744073709551616} (l : List Nat) : (cText most hm).dec l = match (cNum most hm).dec l with
    | .inr e => .inr e
    | .inl (n, r) => if r.length < n then .inr 40 else .inl (r.take n, r.drop n) := by
  simp only [cText, cMap, cDep]
  cases (cNum most hm).dec l with
  | inr e => rfl
  | inl x =>
    obtain ⟨n, r⟩ := x
    simp only [cRaw]
    by_cases h : r.length < n
    · rw [if_pos h]
    · rw [if_neg h]
def IsStr (_ : World) (v : Value) (a : List Nat) : Prop := ∃ s, v = .string s ∧ strB s = a

/-- 'b[:k]' of any slice of bytes. -/
theorem head_bytes {P : Program} (t e : TypeId) (hu : P.underlying t = some (.slice e)) (he : P.elem t = e) (hi : (P.info? e).map (fun i => (i.zero, i.size, i.bytes)) = some (some (.int .u8 0), 1, 1))
    (a : Option Addr) (n c k : Nat) (l : Int) (hl : l = (k : Int)) (hk : k ≤ c) :
    ∃ a', (∀ w, (Instr.slice t (.slice a n c) none (some (.int .i64 l)) none).run P w = .ok (.slice a' k c) w) ∧ a' = a := by
  obtain ⟨i0, hi, hz0, hz1, hz2⟩ := info_parts hi
  refine ⟨a, fun w => ?_, rfl⟩
  have hs : (sizeOf (P.elem t)).run P w = .ok 1 w := by
    rw [he]
    simp [sizeOf, typeInfo, hi, hz1]
  rw [run_slice_h (P := P) w t a n c (by rw [he]; exact hu) .i64 l (by omega) (by omega), hs]
  subst hl
  have h0 : ∀ ad : Addr, ad.add 0 = ad := fun ad => by simp [Addr.add]
  cases a <;> simp [Result.andThen, sliced, h0]
theorem cInt_dec (low high : Int) (l : List Nat) (r1 r2 r3 : Nat) (hv : vget 0 0 l = (r1, r2, r3)) : (cInt low high).dec l = if r3 ≠ 0 then .inr r3 else if low ≤ vopen r1 ∧ vopen r1 ≤ high then .inl (vopen r1, l.drop r2) else .inr 62 := by
  have hlt := vget_lt l
  rw [hv] at hlt
  simp only at hlt
  simp only [cInt, cOnly, cMap, cNum, hv]
  by_cases h3 : r3 = 0
  · subst h3
    simp only [ne_eq, not_true_eq_false, if_false]
    rw [if_neg (by omega)]
    simp only [decide_eq_true_eq]
  · simp only [ne_eq, h3, not_false_eq_true, if_true]
theorem cMany_dec {α : Type} (C : Cod α) (l : List Nat) : (cMany C).dec l = match (cNum 128 (by decide)).dec l with
    | .inr e => .inr e
    | .inl (n, r) => decN C n r := by
  simp only [cMany, cList, cMap, cDep]
  cases (cNum 128 (by decide)).dec l with
  | inr e => rfl
  | inl x =>
    obtain ⟨n, r⟩ := x
    simp only [cTimes]
    cases decN C n r with
    | inr e => rfl
    | inl y => rfl
/-- Of n things i are gone by: what is told of all, the reader being in this state. -/
def ManyR {α : Type} (C : Cod α) (n i : Nat) (r0 : List Nat) (done : List α) (s : List Nat ⊕ Nat) : Prop :=
  match s with
  | .inr k => decN C n r0 = .inr k
  | .inl r => done.length = i ∧ decN C n r0 = match decN C (n - i) r with
    | .inr e => .inr e
    | .inl (more, r') => .inl (done ++ more, r')
theorem ManyR.start {α : Type} (C : Cod α) (n : Nat) (r0 : List Nat) : ManyR C n 0 r0 [] (.inl r0) := by
  refine ⟨rfl, ?_⟩
  rw [Nat.sub_zero]
  cases decN C n r0 with
  | inr e => rfl
  | inl y => rfl
theorem ManyR.ok {α : Type} {C : Cod α} {n i : Nat} {r0 r r' : List Nat} {done : List α} {a : α} (h : ManyR C n i r0 done (.inl r)) (hi : i < n) (hd : C.dec r = .inl (a, r')) : ManyR C n (i + 1) r0 (done ++ [a]) (.inl r') := by
  obtain ⟨h1, h2⟩ := h
  refine ⟨by simp [h1], ?_⟩
  rw [h2, show n - i = n - (i + 1) + 1 by omega, decN, hd]
  simp only
  cases decN C (n - (i + 1)) r' with
  | inr e => rfl
  | inl y => simp
theorem ManyR.bad {α : Type} {C : Cod α} {n i j : Nat} {r0 r : List Nat} {done done' : List α} {k : Nat} (h : ManyR C n i r0 done (.inl r)) (hi : i < n) (hd : C.dec r = .inr k) : ManyR C n j r0 done' (.inr k) := by
  obtain ⟨h1, h2⟩ := h
  show decN C n r0 = .inr k
  rw [h2, show n - i = n - (i + 1) + 1 by omega, decN, hd]
theorem ManyR.fin {α : Type} {C : Cod α} {n : Nat} {r0 r : List Nat} {done : List α} (h : ManyR C n n r0 done (.inl r)) : decN C n r0 = .inl (done, r) := by
  have := h.2
  rw [Nat.sub_self] at this
  simpa [decN] using this

theorem string_info : (Try.prog.info? 9).map (fun i => (i.zero, i.size, i.bytes)) = some (some (.string ⟨#[]⟩), 1, 16) := by kernel_rfl
/-- A slice of the call's own that reads as things. -/
def IsSl {α : Type} (lo : Nat) (e : Sh) (sz : Nat) (to : List e.T → α) (w : World) (v : Value) (a : α) : Prop := ∃ xs : List e.T, Rd (lo ≤ ·) w (.slice e sz) [v] xs ∧ to xs = a
theorem cInt_range {low high x : Int} {l r : List Nat} (hb : ∀ b ∈ l, b < 256) (h : (cInt low high).dec l = .inl (x, r)) : low ≤ x ∧ x ≤ high := of_decide_eq_true ((cInt low high).only l x r hb h).1.2
theorem i32_info : (Try.prog.info? 21).map (fun i => (i.zero, i.size, i.bytes)) = some (some (.int .i32 0), 1, 4) := by kernel_rfl
theorem i32_mk {x : Int} (h : -2147483648 ≤ x ∧ x ≤ 2147483647) : (Lit.int .i32 x).wf = true := by
  simp [Lit.wf, IntKind.min, IntKind.max, IntKind.signed, IntKind.bits]
  omega

/-- A thing is read: from one state to the next; an error stays, and what is told then is no matter. -/
def Step {α : Type} (C : Cod α) : (List Nat ⊕ Nat) → α → (List Nat ⊕ Nat) → Prop
  | .inl l, a, .inl r => C.dec l = .inl (a, r)
  | .inl l, _, .inr k => C.dec l = .inr k
  | .inr k, _, .inr k' => k' = k
  | .inr _, _, .inl _ => False
theorem Step.dep {α β : Type} {A : Cod α} {B : α → Cod β} {s s1 s2 : List Nat ⊕ Nat} {a : α} {b : β} (h : Step A s a s1) (k : Step (B a) s1 b s2) : Step (cDep A B) s (a, b) s2 := by
  rcases s with l | e <;> rcases s1 with r | e1 <;> rcases s2 with r2 | e2 <;> simp only [Step] at h k ⊢
  · simp only [cDep, h, k]
  · simp only [cDep, h, k]
  · simp only [cDep, h, k]
  · rw [k, h]
theorem Step.pair {α β : Type} {A : Cod α} {B : Cod β} {s s1 s2 : List Nat ⊕ Nat} {a : α} {b : β} (h : Step A s a s1) (k : Step B s1 b s2) : Step (cPair A B) s (a, b) s2 := Step.dep (B := fun _ => B) h k
theorem Step.map {α β : Type} {A : Cod α} {to : α → β} {of : β → α} {hh : ∀ a, A.fits a → of (to a) = a} {s s1 : List Nat ⊕ Nat} {a : α} (h : Step A s a s1) : Step (cMap A to of hh) s (to a) s1 := by
  rcases s with l | e <;> rcases s1 with r | e1 <;> simp only [Step] at h ⊢
  · simp only [cMap, h]
  · simp only [cMap, h]
  · exact h
/-- In an error's state anything is told. -/
theorem Step.bad {α : Type} {C : Cod α} {s : List Nat ⊕ Nat} {a b : α} {k : Nat} (h : Step C s a (.inr k)) : Step C s b (.inr k) := by
  rcases s with l | e <;> exact h
theorem ManyR.step {α : Type} {C : Cod α} {n i : Nat} {r0 q : List Nat} {done : List α} {a : α} {st : List Nat ⊕ Nat} (h : ManyR C n i r0 done (.inl q)) (hi : i < n) (k : Step C (.inl q) a st) : ManyR C n (i + 1) r0 (done ++ [a]) st := by
  rcases st with r | e
  · exact h.ok hi k
  · exact h.bad hi k
/-- A number of at most so much. -/
def IsNum (most : Nat) (_ : World) (v : Value) (n : Nat) : Prop := v = .int .u64 (n : Int) ∧ n ≤ most
/-- A whole number from low to high. -/
def IsInt (low high : Int) (_ : World) (v : Value) (n : Int) : Prop := v = .int .i64 n ∧ low ≤ n ∧ n ≤ high
/-- A text. -/
def IsTx (_ : World) (v : Value) (a : List Nat) : Prop := ∃ x : ByteArray, v = .string x ∧ strB x = a ∧ x.size ≤ 4096
/-- A struct of a shape. -/
def IsSt {α : Type} (lo : Nat) (e : Sh) (to : e.T → α) (w : World) (v : Value) (a : α) : Prop := ∃ (cs : List Value) (x : e.T), v = .agg cs.toArray ∧ Rd (lo ≤ ·) w e cs x ∧ to x = a

theorem IsSl.one {α : Type} {lo : Nat} {e : Sh} {sz : Nat} {to : List e.T → α} {w : World} {v : Value} {a : α} (h : IsSl lo e sz to w v a) : ∃ (p : Option Addr) (n c : Nat) (xs : List e.T), v = .slice p n c ∧ Rd (lo ≤ ·) w (.slice e sz) [.slice p n c] xs ∧ to xs = a := by
  obtain ⟨xs, h1, h2⟩ := h
  obtain ⟨p, n, c, hcs, _, _, h3⟩ := Rd.slice_is h1
  simp only [List.cons.injEq, and_true] at hcs
  subst hcs
  exact ⟨p, n, c, xs, rfl, h3, h2⟩
theorem u32_mk {n : Nat} (h : n ≤ 4294967295) : (Lit.int .u32 (n : Int)).wf = true := by
  simp [Lit.wf, IntKind.min, IntKind.max, IntKind.signed, IntKind.bits]
  omega
theorem item_mk {ok : Nat → Prop} {w : World} {id : Nat} {p p' : Option Addr} {n c n' c' : Nat} {vec : List Int} {tags : List ByteArray} (hid : id ≤ 4294967295) (h1 : Rd ok w shVec [.slice p n c] vec) (h2 : Rd ok w shTags [.slice p' n' c'] tags) :
    Rd ok w shItem [.int .u32 (id : Int), .slice p n c, .slice p' n' c'] ((id : Int), vec, tags, ()) :=
  Rd.pair_mk (c1 := [_]) (c2 := [_, _]) rfl (Rd.int_mk rfl (u32_mk hid)) (Rd.pair_mk (c1 := [_]) (c2 := [_]) rfl h1 (Rd.pair_mk (c1 := [_]) (c2 := []) rfl h2 (Rd.unit_mk rfl)))
theorem change_info : (Try.prog.info? 81).map (fun i => (i.zero, i.size, i.bytes)) = some (some (.agg #[.bool false, .int .u32 0, .slice none 0 0, .slice none 0 0]), 4, 64) := by kernel_rfl
theorem change_mk {ok : Nat → Prop} {w : World} {g : Bool} {c0 c1 c2 : Value} {y : shItem.T} (h : Rd ok w shItem [c0, c1, c2] y) : Rd ok w shChange [.bool g, c0, c1, c2] (g, y, ()) :=
  Rd.pair_mk (c1 := [_]) (c2 := [_, _, _]) rfl (Rd.bool_mk rfl) (Rd.pair_mk (c1 := [_, _, _]) (c2 := []) rfl h (Rd.unit_mk rfl))
theorem bare_mk {ok : Nat → Prop} {w : World} {id : Nat} (hid : id ≤ 4294967295) : Rd ok w shItem [.int .u32 (id : Int), .slice none 0 0, .slice none 0 0] ((id : Int), [], [], ()) :=
  item_mk hid (Rd.slice_mk ⟨none, 0, 0, rfl, rfl, by decide, by decide, Nat.le_refl _, fun _ => ⟨rfl, rfl⟩, .inl rfl⟩) (Rd.slice_mk ⟨none, 0, 0, rfl, rfl, by decide, by decide, Nat.le_refl _, fun _ => ⟨rfl, rfl⟩, .inl rfl⟩)

theorem step_change {s s1 s2 : List Nat ⊕ Nat} {g : Bool} {it : ItemV} (h : Step cFlag s g s1) (k : Step (if g then cBare else cItem) s1 it s2) : Step cChange s ⟨g, it⟩ s2 := Step.map (a := (g, it)) (Step.dep (B := fun g => if g then cBare else cItem) h k)
end Go.Proofs.Ytdlpifcfgfhagaa
