/-
  The mathematics of messages: texts, lists, items, changes, and the fields of each kind. No program stands here.
-/
import Derived.Test.YtdocoioenkajeaaMm
namespace Go.Proofs.Ytdocoioenkajeaa

/-- The same written of other things. -/
def cMap {α β : Type} (A : Cod α) (to : α → β) (of : β → α) (h : ∀ a, A.fits a → of (to a) = a) : Cod β where
  enc b := A.enc (of b)
  fits b := A.fits (of b) ∧ to (of b) = b
  dec l := match A.dec l with
    | .inr e => .inr e
    | .inl (a, r) => .inl (to a, r)
  back := by
    rintro b r ⟨h1, h2⟩
    rw [A.back _ r h1]
    simp only
    rw [h2]
  only := by
    intro l b r hl hd
    cases hA : A.dec l with
    | inr e => rw [hA] at hd; cases hd
    | inl x =>
      obtain ⟨a, r'⟩ := x
      rw [hA] at hd
      simp only [Sum.inl.injEq, Prod.mk.injEq] at hd
      obtain ⟨rfl, rfl⟩ := hd
      obtain ⟨h1, h2⟩ := A.only l a r' hl hA
      rw [h a h1]
      exact ⟨⟨h1, rfl⟩, h2⟩
  cut := by
    rintro b k ⟨h1, _⟩ hk
    rw [A.cut _ k h1 hk]
  bytes := fun b hb => A.bytes _ hb.1
  err := by
    intro l e hd
    cases hA : A.dec l with
    | inr e' =>
      rw [hA] at hd
      simp only [Sum.inr.injEq] at hd
      subst hd
      exact A.err l _ hA
    | inl x => rw [hA] at hd; cases hd

/-- Just those that are let by; an error of one's own for the others. -/
def cOnly {α : Type} (A : Cod α) (q : α → Bool) (e : Nat) (he : e ≠ 0) : Cod α where
  enc := A.enc
  fits a := A.fits a ∧ q a = true
  dec l := match A.dec l with
    | .inr e => .inr e
    | .inl (a, r) => if q a = true then .inl (a, r) else .inr e
  back := by
    rintro a r ⟨h1, h2⟩
    rw [A.back _ r h1]
    simp only
    rw [if_pos h2]
  only := by
    intro l a r hl hd
    cases hA : A.dec l with
    | inr e => rw [hA] at hd; cases hd
    | inl x =>
      obtain ⟨a', r'⟩ := x
      rw [hA] at hd
      simp only at hd
      by_cases hq : q a' = true
      · rw [if_pos hq] at hd
        simp only [Sum.inl.injEq, Prod.mk.injEq] at hd
        obtain ⟨rfl, rfl⟩ := hd
        obtain ⟨h1, h2⟩ := A.only l a' r' hl hA
        exact ⟨⟨h1, hq⟩, h2⟩
      · rw [if_neg hq] at hd
        cases hd
  cut := by
    rintro a k ⟨h1, _⟩ hk
    rw [A.cut _ k h1 hk]
  bytes := fun a ha => A.bytes _ ha.1
  err := by
    intro l e' hd
    cases hA : A.dec l with
    | inr e'' =>
      rw [hA] at hd
      simp only [Sum.inr.injEq] at hd
      subst hd
      exact A.err l _ hA
    | inl x =>
      obtain ⟨a', r'⟩ := x
      rw [hA] at hd
      simp only at hd
      split at hd
      · cases hd
      · simp only [Sum.inr.injEq] at hd
        subst hd
        exact he

/-- So many bytes as they are. -/
def cRaw (n : Nat) : Cod (List Nat) where
  enc s := s
  fits s := s.length = n ∧ ∀ b ∈ s, b < 256
  dec l := if l.length < n then .inr 40 else .inl (l.take n, l.drop n)
  back := by
    rintro s r ⟨h, _⟩
    rw [if_neg (by simp; omega), ← h]
    (simp)
  only := by
    intro l s r hl h
    by_cases hlt : l.length < n
    · rw [if_pos hlt] at h; cases h
    · rw [if_neg hlt] at h
      simp only [Sum.inl.injEq, Prod.mk.injEq] at h
      obtain ⟨rfl, rfl⟩ := h
      exact ⟨⟨by simp; omega, fun b hb => hl b (List.mem_of_mem_take hb)⟩, (List.take_append_drop _ _).symm⟩
  cut := by
    rintro s k ⟨h, _⟩ hk
    rw [if_pos (by simp; omega)]
  bytes := fun s hs => hs.2
  err := by
    intro l e h
    split at h
    · simp only [Sum.inr.injEq] at h
      omega
    · cases h

/-- A text of at most so many bytes; a list of at most so many things. -/
def cText (most : Nat) (hm : most < 18446744073709551616) : Cod (List Nat) :=
  cMap (cDep (cNum most hm) cRaw) (·.2) (fun s => (s.length, s)) (by rintro ⟨n, s⟩ ⟨_, h⟩; exact Prod.ext h.1 rfl)
def cList {α : Type} (most : Nat) (hm : most < 18446744073709551616) (A : Cod α) : Cod (List α) :=
  cMap (cDep (cNum most hm) (cTimes A)) (·.2) (fun l => (l.length, l)) (by rintro ⟨n, s⟩ ⟨_, h⟩; exact Prod.ext h.1 rfl)
/-- A flag. -/
def cFlag : Cod Bool :=
  cMap (cNum 1 (by decide)) (fun n => n == 1) (fun b => if b then 1 else 0) (by
    intro n (hn : n ≤ 1)
    rcases Nat.lt_or_ge n 1 with h | h
    · have : n = 0 := by omega
      subst this
      rfl
    · have : n = 1 := by omega
      subst this
      rfl)
theorem vfold_open (u : Nat) : vfold (vopen u) = u := by
  unfold vfold vopen
  by_cases h : u % 2 = 0
  · rw [if_pos h, if_pos (by omega)]; omega
  · rw [if_neg h, if_neg (by omega)]; omega
/-- A whole number, from low to high. -/
def cInt (low high : Int) : Cod Int :=
  cOnly (cMap (cNum 18446744073709551615 (by decide)) vopen vfold (fun u _ => vfold_open u)) (fun n => decide (low ≤ n ∧ n ≤ high)) 62 (by decide)

structure ConfV where
  name : List Nat
  dim : Nat
  metric : Nat
  graph : Bool
  links : Nat
  width : Nat
structure ItemV where
  id : Nat
  vec : List Int
  tags : List (List Nat)
structure ChangeV where
  gone : Bool
  item : ItemV
structure HitV where
  dist : Int
  id : Nat
structure FilterV where
  all : List (List Nat)
  any : List (List Nat)
  no : List (List Nat)

def cU8 : Cod Nat := cNum 255 (by decide)
def cU16 : Cod Nat := cNum 65535 (by decide)
def cU32 : Cod Nat := cNum 4294967295 (by decide)
def cU64 : Cod Nat := cNum 18446744073709551615 (by decide)
def cStr : Cod (List Nat) := cText 4096 (by decide)
def cMany {α : Type} (A : Cod α) : Cod (List α) := cList 128 (by decide) A
def cVec : Cod (List Int) := cMany (cInt (-2147483648) 2147483647)
def cStrs : Cod (List (List Nat)) := cMany cStr
def cConf : Cod ConfV :=
  cMap (cPair cStr (cPair cU8 (cPair (cNum 1 (by decide)) (cPair cFlag (cPair cU8 cU16))))) (fun x => ⟨x.1, x.2.1, x.2.2.1, x.2.2.2.1, x.2.2.2.2.1, x.2.2.2.2.2⟩)
    (fun c => (c.name, c.dim, c.metric, c.graph, c.links, c.width)) (fun _ _ => rfl)
def cItem : Cod ItemV := cMap (cPair cU32 (cPair cVec cStrs)) (fun x => ⟨x.1, x.2.1, x.2.2⟩) (fun i => (i.id, i.vec, i.tags)) (fun _ _ => rfl)
/-- An item of which the number alone is written. -/
def cBare : Cod ItemV := cMap cU32 (fun n => ⟨n, [], []⟩) (fun i => i.id) (fun _ _ => rfl)
def cChange : Cod ChangeV := cMap (cDep cFlag fun g => if g then cBare else cItem) (fun x => ⟨x.1, x.2⟩) (fun c => (c.gone, c.item)) (fun _ _ => rfl)
def cHit : Cod HitV := cMap (cPair (cInt (-9223372036854775808) 9223372036854775807) cU32) (fun x => ⟨x.1, x.2⟩) (fun h => (h.dist, h.id)) (fun _ _ => rfl)
def cFilter : Cod FilterV := cMap (cPair cStrs (cPair cStrs cStrs)) (fun x => ⟨x.1, x.2.1, x.2.2⟩) (fun f => (f.all, f.any, f.no)) (fun _ _ => rfl)
end Go.Proofs.Ytdocoioenkajeaa
