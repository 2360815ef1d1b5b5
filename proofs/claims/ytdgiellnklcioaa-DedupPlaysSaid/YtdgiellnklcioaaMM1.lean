/-
  Mathematics of messages. (Mm, Mn, Mo merged.)
-/
import Derived.Test.YtdgiellnklcioaaVm
namespace Go.Proofs.Ytdgiellnklcioaa


/-- How a thing is written, which things can be, and how it is read: the thing and what is left, or an error's number. -/
structure Cod (α : Type) where
  enc : α → List Nat
  fits : α → Prop
  dec : List Nat → (α × List Nat) ⊕ Nat
  back : ∀ a r, fits a → dec (enc a ++ r) = .inl (a, r)
  only : ∀ l a r, (∀ b ∈ l, b < 256) → dec l = .inl (a, r) → fits a ∧ l = enc a ++ r
  cut : ∀ a k, fits a → k < (enc a).length → dec ((enc a).take k) = .inr 40
  bytes : ∀ a, fits a → ∀ b ∈ enc a, b < 256
  err : ∀ l e, dec l = .inr e → e ≠ 0

/-- What a number's bytes are read from are just these. -/
theorem vget_only : ∀ (l : List Nat) (i A N u : Nat), i ≤ 9 → (∀ b ∈ l, b < 256) → vget i A l = (N, u, 0) → ∃ m, N = A + m * 128 ^ i ∧ u = i + (vput m).length ∧ l = vput m ++ l.drop (vput m).length ∧ (0 < m ∨ i = 0)
  | [], i, A, N, u, _, _, h => by simp [vget] at h
  | p :: r, i, A, N, u, hi, hb, h => by
    have hp : p < 256 := hb p (by simp)
    simp only [vget] at h
    by_cases h9 : i = 9 ∧ 1 < p
    · rw [if_pos h9] at h
      simp at h
    · rw [if_neg h9] at h
      by_cases h128 : 128 ≤ p
      · rw [if_pos h128] at h
        obtain ⟨m, h1, h2, h3, h4⟩ := vget_only r (i + 1) _ N u (by omega) (fun b hb' => hb b (by simp [hb'])) h
        have hm : 0 < m := by omega
        have hv : vput (p % 128 + 128 * m) = p :: vput m := by
          rw [vput_big (by omega)]
          have e1 : (p % 128 + 128 * m) % 128 + 128 = p := by omega
          have e2 : (p % 128 + 128 * m) / 128 = m := by omega
          rw [e1, e2]
        refine ⟨p % 128 + 128 * m, ?_, ?_, ?_, .inl (by omega)⟩
        · rw [h1, Nat.pow_succ, Nat.add_mul, Nat.add_assoc, Nat.mul_comm (128 ^ i) 128, ← Nat.mul_assoc, Nat.mul_comm m 128]
        · rw [h2, hv, List.length_cons]; omega
        · rw [hv]
          simp only [List.cons_append, List.length_cons, List.drop_succ_cons]
          rw [← h3]
      · rw [if_neg h128] at h
        by_cases hz : p = 0 ∧ 0 < i
        · rw [if_pos hz] at h
          simp at h
        · rw [if_neg hz] at h
          simp only [Prod.mk.injEq, and_true] at h
          refine ⟨p, h.1.symm, ?_, ?_, by omega⟩
          · rw [vput_small (by omega)]; simp; omega
          · rw [vput_small (by omega)]; simp

theorem vget_errs : ∀ (l : List Nat) (i A : Nat), (vget i A l).2.2 = 0 ∨ (vget i A l).2.2 = 40 ∨ (vget i A l).2.2 = 41
  | [], i, A => by simp [vget]
  | p :: r, i, A => by
    simp only [vget]
    split
    · simp
    · split
      · exact vget_errs r _ _
      · split
        · simp
        · simp

/-- A number, at most so much. -/
def cNum (most : Nat) (hm : most < 18446744073709551616) : Cod Nat where
  enc := vput
  fits n := n ≤ most
  dec l := if (vget 0 0 l).2.2 ≠ 0 then .inr (vget 0 0 l).2.2 else if most < (vget 0 0 l).1 then .inr 62 else .inl ((vget 0 0 l).1, l.drop (vget 0 0 l).2.1)
  back := by
    intro n r hn
    rw [vget_put0 n r (by omega)]
    simp
    omega
  only := by
    intro l n r hb h
    have herr := vget_errs l 0 0
    obtain ⟨N, u, e, hv⟩ : ∃ N u e, vget 0 0 l = (N, u, e) := ⟨_, _, _, rfl⟩
    rw [hv] at h herr
    simp only at h herr
    by_cases he : e = 0
    · subst he
      simp only [ne_eq, not_true_eq_false, if_false] at h
      by_cases hN : most < N
      · rw [if_pos hN] at h
        cases h
      · rw [if_neg hN] at h
        simp only [Sum.inl.injEq, Prod.mk.injEq] at h
        obtain ⟨rfl, rfl⟩ := h
        obtain ⟨m, h1, h2, h3, _⟩ := vget_only l 0 0 N u (by omega) hb hv
        have hm : m = N := by simpa using h1.symm
        subst hm
        refine ⟨by omega, ?_⟩
        rw [h2, Nat.zero_add]
        exact h3
    · rw [if_pos (by simpa using he)] at h
      cases h
  cut := by
    intro n k hn hk
    rw [vget_cut0 n k (by omega) hk]
    simp
  bytes := fun n _ => vput_byte n
  err := by
    intro l e h
    split at h
    · simp only [Sum.inr.injEq] at h
      omega
    · split at h
      · simp only [Sum.inr.injEq] at h
        omega
      · cases h

/-- One thing behind the other; how the second is written may hang on the first. -/
def cDep {α β : Type} (A : Cod α) (B : α → Cod β) : Cod (α × β) where
  enc x := A.enc x.1 ++ (B x.1).enc x.2
  fits x := A.fits x.1 ∧ (B x.1).fits x.2
  dec l := match A.dec l with
    | .inr e => .inr e
    | .inl (a, r) => match (B a).dec r with
      | .inr e => .inr e
      | .inl (b, r') => .inl ((a, b), r')
  back := by
    rintro ⟨a, b⟩ r ⟨ha, hb⟩
    simp only [List.append_assoc]
    rw [A.back a _ ha]
    simp only
    rw [(B a).back b r hb]
  only := by
    rintro l ⟨a, b⟩ r hl h
    cases hA : A.dec l with
    | inr e => rw [hA] at h; cases h
    | inl x =>
      obtain ⟨a', r'⟩ := x
      rw [hA] at h
      simp only at h
      obtain ⟨h1, h2⟩ := A.only l a' r' hl hA
      cases hB : (B a').dec r' with
      | inr e => rw [hB] at h; cases h
      | inl y =>
        obtain ⟨b', r''⟩ := y
        rw [hB] at h
        simp only [Sum.inl.injEq, Prod.mk.injEq] at h
        obtain ⟨⟨rfl, rfl⟩, rfl⟩ := h
        obtain ⟨h3, h4⟩ := (B a').only r' b' r'' (fun x hx => hl x (by rw [h2]; simp [hx])) hB
        refine ⟨⟨h1, h3⟩, ?_⟩
        rw [h2, h4, List.append_assoc]
  cut := by
    rintro ⟨a, b⟩ k ⟨ha, hb⟩ hk
    simp only at hk ⊢
    by_cases h : k < (A.enc a).length
    · rw [List.take_append_of_le_length (by omega), A.cut a k ha h]
    · have e : (A.enc a ++ (B a).enc b).take k = A.enc a ++ ((B a).enc b).take (k - (A.enc a).length) := by
        rw [List.take_append, List.take_of_length_le (by omega)]
      rw [e, A.back a _ ha]
      simp only
      rw [(B a).cut b _ hb (by rw [List.length_append] at hk; omega)]
  bytes := by
    rintro ⟨a, b⟩ ⟨ha, hb⟩ x hx
    rcases List.mem_append.1 hx with hx | hx
    · exact A.bytes a ha x hx
    · exact (B a).bytes b hb x hx
  err := by
    intro l e h
    cases hA : A.dec l with
    | inr e' =>
      rw [hA] at h
      simp only [Sum.inr.injEq] at h
      subst h
      exact A.err l _ hA
    | inl x =>
      obtain ⟨a', r'⟩ := x
      rw [hA] at h
      simp only at h
      cases hB : (B a').dec r' with
      | inr e' =>
        rw [hB] at h
        simp only [Sum.inr.injEq] at h
        subst h
        exact (B a').err r' _ hB
      | inl y => rw [hB] at h; cases h
/-- Two things. -/
def cPair {α β : Type} (A : Cod α) (B : Cod β) : Cod (α × β) := cDep A fun _ => B

/-- So many things of one kind. -/
def decN {α : Type} (A : Cod α) : Nat → List Nat → (List α × List Nat) ⊕ Nat
  | 0, l => .inl ([], l)
  | n + 1, l => match A.dec l with
    | .inr e => .inr e
    | .inl (a, r) => match decN A n r with
      | .inr e => .inr e
      | .inl (as, r') => .inl (a :: as, r')
def encN {α : Type} (A : Cod α) (l : List α) : List Nat := (l.map A.enc).flatten
def cTimes {α : Type} (A : Cod α) (n : Nat) : Cod (List α) where
  enc := encN A
  fits l := l.length = n ∧ ∀ a ∈ l, A.fits a
  dec := decN A n
  back := by
    intro l
    induction l generalizing n with
    | nil =>
      rintro r ⟨h, _⟩
      simp at h
      subst h
      simp [decN, encN]
    | cons a l ih =>
      rintro r ⟨h, hf⟩
      obtain ⟨m, rfl⟩ : ∃ m, n = m + 1 := ⟨n - 1, by simp at h; omega⟩
      have e : encN A (a :: l) ++ r = A.enc a ++ (encN A l ++ r) := by simp [encN]
      rw [e, decN, A.back a _ (hf a (by simp))]
      simp only
      rw [ih m r ⟨by simpa using h, fun b hb => hf b (by simp [hb])⟩]
  only := by
    induction n with
    | zero =>
      intro l as r _ h
      simp only [decN, Sum.inl.injEq, Prod.mk.injEq] at h
      obtain ⟨rfl, rfl⟩ := h
      exact ⟨⟨rfl, by simp⟩, by simp [encN]⟩
    | succ n ih =>
      intro l as r hl h
      simp only [decN] at h
      cases hA : A.dec l with
      | inr e => rw [hA] at h; cases h
      | inl x =>
        obtain ⟨a, r1⟩ := x
        rw [hA] at h
        simp only at h
        obtain ⟨h1, h2⟩ := A.only l a r1 hl hA
        cases hN : decN A n r1 with
        | inr e => rw [hN] at h; cases h
        | inl y =>
          obtain ⟨as', r2⟩ := y
          rw [hN] at h
          simp only [Sum.inl.injEq, Prod.mk.injEq] at h
          obtain ⟨rfl, rfl⟩ := h
          obtain ⟨⟨h3, h4⟩, h5⟩ := ih r1 as' r2 (fun x hx => hl x (by rw [h2]; simp [hx])) hN
          refine ⟨⟨by simp [h3], fun b hb => ?_⟩, ?_⟩
          · rcases List.mem_cons.1 hb with rfl | hb
            · exact h1
            · exact h4 b hb
          · rw [h2, h5]
            simp [encN]
  cut := by
    intro l
    induction l generalizing n with
    | nil =>
      rintro k ⟨h, _⟩ hk
      simp [encN] at hk
    | cons a l ih =>
      rintro k ⟨h, hf⟩ hk
      obtain ⟨m, rfl⟩ : ∃ m, n = m + 1 := ⟨n - 1, by simp at h; omega⟩
      have e : encN A (a :: l) = A.enc a ++ encN A l := by simp [encN]
      rw [e] at hk ⊢
      rw [decN]
      by_cases hka : k < (A.enc a).length
      · rw [List.take_append_of_le_length (by omega), A.cut a k (hf a (by simp)) hka]
      · have e2 : (A.enc a ++ encN A l).take k = A.enc a ++ (encN A l).take (k - (A.enc a).length) := by
          rw [List.take_append, List.take_of_length_le (by omega)]
        rw [e2, A.back a _ (hf a (by simp))]
        simp only
        rw [ih m (k - (A.enc a).length) ⟨by simpa using h, fun b hb => hf b (by simp [hb])⟩ (by rw [List.length_append] at hk; omega)]
  bytes := by
    rintro l ⟨_, hf⟩ b hb
    obtain ⟨x, hx, hb⟩ := List.mem_flatten.1 hb
    obtain ⟨a, ha, rfl⟩ := List.mem_map.1 hx
    exact A.bytes a (hf a ha) b hb
  err := by
    induction n with
    | zero => intro l e h; cases h
    | succ n ih =>
      intro l e h
      simp only [decN] at h
      cases hA : A.dec l with
      | inr e' =>
        rw [hA] at h
        simp only [Sum.inr.injEq] at h
        subst h
        exact A.err l _ hA
      | inl x =>
        obtain ⟨a, r1⟩ := x
        rw [hA] at h
        simp only at h
        cases hN : decN A n r1 with
        | inr e' =>
          rw [hN] at h
          simp only [Sum.inr.injEq] at h
          subst h
          exact ih r1 _ hN
        | inl y => rw [hN] at h; cases h

/-- The same written of other things. -/
def cMap {α β : Type} (A : Cod α) (to : α → β) (of : β → α) (h : ∀ a, A.fits a → of (to a) = a) : Cod β where
  enc b := A.enc (of b)
  fits b := A.fits (of b) ∧ to (of b) = b
  dec l := match A.dec l with
    | .inr e => .inr e
    | .inl (a, r) => .inl (to a, r)
  back := by
    rintro b r ⟨h1, h2⟩
    rw [A.back _ r h1]
    simp only
    rw [h2]
  only := by
    intro l b r hl hd
    cases hA : A.dec l with
    | inr e => rw [hA] at hd; cases hd
    | inl x =>
      obtain ⟨a, r'⟩ := x
      rw [hA] at hd
      simp only [Sum.inl.injEq, Prod.mk.injEq] at hd
      obtain ⟨rfl, rfl⟩ := hd
      obtain ⟨h1, h2⟩ := A.only l a r' hl hA
      rw [h a h1]
      exact ⟨⟨h1, rfl⟩, h2⟩
  cut := by
    rintro b k ⟨h1, _⟩ hk
    rw [A.cut _ k h1 hk]
  bytes := fun b hb => A.bytes _ hb.1
  err := by
    intro l e hd
    cases hA : A.dec l with
    | inr e' =>
      rw [hA] at hd
      simp only [Sum.inr.injEq] at hd
      subst hd
      exact A.err l _ hA
    | inl x => rw [hA] at hd; cases hd

/-- Just those that are let by; an error of one's own for the others. -/
def cOnly {α : Type} (A : Cod α) (q : α → Bool) (e : Nat) (he : e ≠ 0) : Cod α where
  enc := A.enc
  fits a := A.fits a ∧ q a = true
  dec l := match A.dec l with
    | .inr e => .inr e
    | .inl (a, r) => if q a = true then .inl (a, r) else .inr e
  back := by
    rintro a r ⟨h1, h2⟩
    rw [A.back _ r h1]
    simp only
    rw [if_pos h2]
  only := by
    intro l a r hl hd
    cases hA : A.dec l with
    | inr e => rw [hA] at hd; cases hd
    | inl x =>
      obtain ⟨a', r'⟩ := x
      rw [hA] at hd
      simp only at hd
      by_cases hq : q a' = true
      · rw [if_pos hq] at hd
        simp only [Sum.inl.injEq, Prod.mk.injEq] at hd
        obtain ⟨rfl, rfl⟩ := hd
        obtain ⟨h1, h2⟩ := A.only l a' r' hl hA
        exact ⟨⟨h1, hq⟩, h2⟩
      · rw [if_neg hq] at hd
        cases hd
  cut := by
    rintro a k ⟨h1, _⟩ hk
    rw [A.cut _ k h1 hk]
  bytes := fun a ha => A.bytes _ ha.1
  err := by
    intro l e' hd
    cases hA : A.dec l with
    | inr e'' =>
      rw [hA] at hd
      simp only [Sum.inr.injEq] at hd
      subst hd
      exact A.err l _ hA
    | inl x =>
      obtain ⟨a', r'⟩ := x
      rw [hA] at hd
      simp only at hd
      split at hd
      · cases hd
      · simp only [Sum.inr.injEq] at hd
        subst hd
        exact he

/-- So many bytes as they are. -/
def cRaw (n : Nat) : Cod (List Nat) where
  enc s := s
  fits s := s.length = n ∧ ∀ b ∈ s, b < 256
  dec l := if l.length < n then .inr 40 else .inl (l.take n, l.drop n)
  back := by
    rintro s r ⟨h, _⟩
    rw [if_neg (by simp; omega), ← h]
    (simp)
  only := by
    intro l s r hl h
    by_cases hlt : l.length < n
    · rw [if_pos hlt] at h; cases h
    · rw [if_neg hlt] at h
      simp only [Sum.inl.injEq, Prod.mk.injEq] at h
      obtain ⟨rfl, rfl⟩ := h
      exact ⟨⟨by simp; omega, fun b hb => hl b (List.mem_of_mem_take hb)⟩, (List.take_append_drop _ _).symm⟩
  cut := by
    rintro s k ⟨h, _⟩ hk
    rw [if_pos (by simp; omega)]
  bytes := fun s hs => hs.2
  err := by
    intro l e h
    split at h
    · simp only [Sum.inr.injEq] at h
      omega
    · cases h

/-- A text of at most so many bytes; a list of at most so many things. -/
def cText (most : Nat) (hm : most < 18446744073709551616) : Cod (List Nat) :=
  cMap (cDep (cNum most hm) cRaw) (·.2) (fun s => (s.length, s)) (by rintro ⟨n, s⟩ ⟨_, h⟩; exact Prod.ext h.1 rfl)
def cList {α : Type} (most : Nat) (hm : most < 18446744073709551616) (A : Cod α) : Cod (List α) :=
  cMap (cDep (cNum most hm) (cTimes A)) (·.2) (fun l => (l.length, l)) (by rintro ⟨n, s⟩ ⟨_, h⟩; exact Prod.ext h.1 rfl)
/-- A flag. -/
def cFlag : Cod Bool :=
  cMap (cNum 1 (by decide)) (fun n => n == 1) (fun b => if b then 1 else 0) (by
    intro n (hn : n ≤ 1)
    rcases Nat.lt_or_ge n 1 with h | h
    · have : n = 0 := by omega
      subst this
      rfl
    · have : n = 1 := by omega
      subst this
      rfl)
theorem vfold_open (u : Nat) : vfold (vopen u) = u := by
  unfold vfold vopen
  by_cases h : u % 2 = 0
  · rw [if_pos h, if_pos (by omega)]; omega
  · rw [if_neg h, if_neg (by omega)]; omega
/-- A whole number, from low to high. -/
def cInt (low high : Int) : Cod Int :=
  cOnly (cMap (cNum 18446744073709551615 (by decide)) vopen vfold (fun u _ => vfold_open u)) (fun n => decide (low ≤ n ∧ n ≤ high)) 62 (by decide)

structure ConfV where
  name : List Nat
  dim : Nat
  metric : Nat
  graph : Bool
  links : Nat
  width : Nat
structure ItemV where
  id : Nat
  vec : List Int
  tags : List (List Nat)
structure ChangeV where
  gone : Bool
  item : ItemV
structure HitV where
  dist : Int
  id : Nat
structure FilterV where
  all : List (List Nat)
  any : List (List Nat)
  no : List (List Nat)

def cU8 : Cod Nat := cNum 255 (by decide)
def cU16 : Cod Nat := cNum 65535 (by decide)
def cU32 : Cod Nat := cNum 4294967295 (by decide)
def cU64 : Cod Nat := cNum 18446744073709551615 (by decide)
def cStr : Cod (List Nat) := cText 4096 (by decide)
def cMany {α : Type} (A : Cod α) : Cod (List α) := cList 128 (by decide) A
def cVec : Cod (List Int) := cMany (cInt (-2147483648) 2147483647)
def cStrs : Cod (List (List Nat)) := cMany cStr
def cConf : Cod ConfV :=
  cMap (cPair cStr (cPair cU8 (cPair (cNum 1 (by decide)) (cPair cFlag (cPair cU8 cU16))))) (fun x => ⟨x.1, x.2.1, x.2.2.1, x.2.2.2.1, x.2.2.2.2.1, x.2.2.2.2.2⟩)
    (fun c => (c.name, c.dim, c.metric, c.graph, c.links, c.width)) (fun _ _ => rfl)
def cItem : Cod ItemV := cMap (cPair cU32 (cPair cVec cStrs)) (fun x => ⟨x.1, x.2.1, x.2.2⟩) (fun i => (i.id, i.vec, i.tags)) (fun _ _ => rfl)
/-- An item of which the number alone is written. -/
def cBare : Cod ItemV := cMap cU32 (fun n => ⟨n, [], []⟩) (fun i => i.id) (fun _ _ => rfl)
def cChange : Cod ChangeV := cMap (cDep cFlag fun g => if g then cBare else cItem) (fun x => ⟨x.1, x.2⟩) (fun c => (c.gone, c.item)) (fun _ _ => rfl)
def cHit : Cod HitV := cMap (cPair (cInt (-9223372036854775808) 9223372036854775807) cU32) (fun x => ⟨x.1, x.2⟩) (fun h => (h.dist, h.id)) (fun _ _ => rfl)
def cFilter : Cod FilterV := cMap (cPair cStrs (cPair cStrs cStrs)) (fun x => ⟨x.1, x.2.1, x.2.2⟩) (fun f => (f.all, f.any, f.no)) (fun _ _ => rfl)

structure MsgV where
  kind : Nat
  req : Nat
  caps : Nat
  token : Nat
  code : Nat
  n : Nat
  name : List Nat
  conf : ConfV
  changes : List ChangeV
  id : Nat
  vec : List Int
  k : Nat
  width : Nat
  filter : FilterV
  num : Nat
  page : Nat
  bytes : List Nat
  version : Nat
  names : List (List Nat)
  items : List ItemV
  hits : List HitV
/-- The message of a kind of which all else is zero. -/
def zeroM (kind : Nat) : MsgV := ⟨kind, 0, 0, 0, 0, 0, [], ⟨[], 0, 0, false, 0, 0⟩, [], 0, [], 0, 0, ⟨[], [], []⟩, 0, 0, [], 0, [], [], []⟩

inductive Fld where
  | req | caps | token | code | n | name | conf | changes | id | vec | k | width | filter | num | page | bytes | version | names | items | hits
def Fld.no : Fld → Nat
  | .req => 0 | .caps => 1 | .token => 2 | .code => 3 | .n => 4 | .name => 5 | .conf => 6 | .changes => 7 | .id => 8 | .vec => 9 | .k => 10 | .width => 11 | .filter => 12 | .num => 13 | .page => 14 | .bytes => 15 | .version => 16 | .names => 17 | .items => 18 | .hits => 19
def Fld.T : Fld → Type
  | .req | .caps | .token | .code | .n | .id | .k | .width | .num | .page | .version => Nat
  | .name | .bytes => List Nat
  | .conf => ConfV
  | .changes => List ChangeV
  | .vec => List Int
  | .filter => FilterV
  | .names => List (List Nat)
  | .items => List ItemV
  | .hits => List HitV
def Fld.cod : (f : Fld) → Cod f.T
  | .req | .caps | .n | .id | .num | .page => cU32
  | .token | .version => cU64
  | .code => cU8
  | .k | .width => cU16
  | .name | .bytes => cStr
  | .conf => cConf
  | .changes => cMany cChange
  | .vec => cVec
  | .filter => cFilter
  | .names => cStrs
  | .items => cMany cItem
  | .hits => cMany cHit
def Fld.get : (f : Fld) → MsgV → f.T
  | .req, m => m.req | .caps, m => m.caps | .token, m => m.token | .code, m => m.code | .n, m => m.n | .name, m => m.name | .conf, m => m.conf | .changes, m => m.changes | .id, m => m.id | .vec, m => m.vec
  | .k, m => m.k | .width, m => m.width | .filter, m => m.filter | .num, m => m.num | .page, m => m.page | .bytes, m => m.bytes | .version, m => m.version | .names, m => m.names | .items, m => m.items | .hits, m => m.hits
def Fld.set : (f : Fld) → MsgV → f.T → MsgV
  | .req, m, v => { m with req := v } | .caps, m, v => { m with caps := v } | .token, m, v => { m with token := v } | .code, m, v => { m with code := v } | .n, m, v => { m with n := v } | .name, m, v => { m with name := v }
  | .conf, m, v => { m with conf := v } | .changes, m, v => { m with changes := v } | .id, m, v => { m with id := v } | .vec, m, v => { m with vec := v } | .k, m, v => { m with k := v } | .width, m, v => { m with width := v }
  | .filter, m, v => { m with filter := v } | .num, m, v => { m with num := v } | .page, m, v => { m with page := v } | .bytes, m, v => { m with bytes := v } | .version, m, v => { m with version := v } | .names, m, v => { m with names := v }
  | .items, m, v => { m with items := v } | .hits, m, v => { m with hits := v }
theorem Fld.get_set (f : Fld) (m : MsgV) (v : f.T) : f.get (f.set m v) = v := by cases f <;> rfl
theorem Fld.get_other (f g : Fld) (m : MsgV) (v : f.T) (h : f.no ≠ g.no) : g.get (f.set m v) = g.get m := by
  cases f <;> cases g <;> first | rfl | exact absurd rfl h
theorem Fld.set_kind (f : Fld) (m : MsgV) (v : f.T) : (f.set m v).kind = m.kind := by cases f <;> rfl

/-- The fields of a kind, in their order. -/
def formM (kind : Nat) : Option (List Fld) :=
  match kind with
  | 1 => some [.caps]
  | 2 => some [.caps, .token, .n]
  | 3 => some [.token, .n]
  | 4 => some [.n]
  | 5 => some [.code]
  | 6 => some [.code]
  | 7 => some [.n]
  | 8 => some [.n]
  | 9 => some [.n]
  | 10 => some [.n]
  | 11 => some [.req, .conf]
  | 12 => some [.req, .name]
  | 13 => some [.req]
  | 14 => some [.req, .name, .changes]
  | 15 => some [.req, .name, .id]
  | 16 => some [.req, .name, .vec, .k, .width, .filter]
  | 17 => some [.req, .name, .vec, .filter]
  | 18 => some [.req, .num, .page, .k]
  | 19 => some [.req, .num]
  | 20 => some [.req, .name]
  | 21 => some [.req, .num, .page, .bytes]
  | 22 => some [.req, .num]
  | 23 => some [.req, .num]
  | 24 => some [.req, .code, .version, .num, .names, .items, .hits]
  | _ => none
/-- No field stands twice. -/
def Apartly : List Fld → Prop
  | [] => True
  | f :: fs => (∀ g ∈ fs, f.no ≠ g.no) ∧ Apartly fs
theorem form_apart (kind : Nat) (fs : List Fld) (h : formM kind = some fs) : Apartly fs := by
  unfold formM at h
  split at h <;> first | (cases h; simp [Apartly, Fld.no]) | cases h

def encF (fs : List Fld) (x : MsgV) : List Nat := (fs.map fun f => f.cod.enc (f.get x)).flatten
def fitF (fs : List Fld) (x : MsgV) : Prop := ∀ f ∈ fs, f.cod.fits (f.get x)
def setF : List Fld → MsgV → MsgV → MsgV
  | [], m, _ => m
  | f :: fs, m, x => setF fs (f.set m (f.get x)) x
def decF : List Fld → MsgV → List Nat → (MsgV × List Nat) ⊕ Nat
  | [], m, l => .inl (m, l)
  | f :: fs, m, l => match f.cod.dec l with
    | .inr e => .inr e
    | .inl (v, r) => decF fs (f.set m v) r

theorem setF_kind (fs : List Fld) (m x : MsgV) : (setF fs m x).kind = m.kind := by
  induction fs generalizing m with
  | nil => rfl
  | cons f fs ih => rw [setF, ih, Fld.set_kind]
theorem backF (fs : List Fld) (m x : MsgV) (r : List Nat) (h : fitF fs x) : decF fs m (encF fs x ++ r) = .inl (setF fs m x, r) := by
  induction fs generalizing m with
  | nil => simp [decF, encF, setF]
  | cons f fs ih =>
    have e : encF (f :: fs) x ++ r = f.cod.enc (f.get x) ++ (encF fs x ++ r) := by simp [encF]
    rw [e, decF, f.cod.back _ _ (h f (by simp))]
    simp only
    rw [ih _ (fun g hg => h g (by simp [hg]))]
    rfl
theorem decF_other (fs : List Fld) (m m' : MsgV) (l r : List Nat) (h : decF fs m l = .inl (m', r)) (g : Fld) (hg : ∀ f ∈ fs, f.no ≠ g.no) : g.get m' = g.get m := by
  induction fs generalizing m l with
  | nil =>
    simp only [decF, Sum.inl.injEq, Prod.mk.injEq] at h
    rw [h.1]
  | cons f fs ih =>
    simp only [decF] at h
    cases hd : f.cod.dec l with
    | inr e => rw [hd] at h; cases h
    | inl x =>
      obtain ⟨v, r'⟩ := x
      rw [hd] at h
      rw [ih _ _ h (fun f' hf' => hg f' (by simp [hf'])), Fld.get_other f g m v (hg f (by simp))]
theorem onlyF (fs : List Fld) (m m' : MsgV) (l r : List Nat) (ha : Apartly fs) (hl : ∀ b ∈ l, b < 256) (h : decF fs m l = .inl (m', r)) : fitF fs m' ∧ l = encF fs m' ++ r ∧ m' = setF fs m m' := by
  induction fs generalizing m l with
  | nil =>
    simp only [decF, Sum.inl.injEq, Prod.mk.injEq] at h
    obtain ⟨rfl, rfl⟩ := h
    exact ⟨fun _ hf => by simp at hf, by simp [encF], rfl⟩
  | cons f fs ih =>
    simp only [decF] at h
    cases hd : f.cod.dec l with
    | inr e => rw [hd] at h; cases h
    | inl x =>
      obtain ⟨v, r'⟩ := x
      rw [hd] at h
      simp only at h
      obtain ⟨h1, h2⟩ := f.cod.only l v r' hl hd
      obtain ⟨h3, h4, h5⟩ := ih (f.set m v) r' ha.2 (fun b hb => hl b (by rw [h2]; simp [hb])) h
      have hv : f.get m' = v := by
        rw [decF_other fs _ _ _ _ h f (fun g hg => (ha.1 g hg).symm), Fld.get_set]
      refine ⟨fun g hg => ?_, ?_, ?_⟩
      · rcases List.mem_cons.1 hg with rfl | hg
        · rw [hv]; exact h1
        · exact h3 g hg
      · rw [h2]
        have e : encF (f :: fs) m' = f.cod.enc (f.get m') ++ encF fs m' := by simp [encF]
        rw [e, hv, List.append_assoc, ← h4]
      · rw [setF, hv]
        exact h5
theorem cutF (fs : List Fld) (m x : MsgV) (k : Nat) (h : fitF fs x) (hk : k < (encF fs x).length) : decF fs m ((encF fs x).take k) = .inr 40 := by
  induction fs generalizing m k with
  | nil => simp [encF] at hk
  | cons f fs ih =>
    have e : encF (f :: fs) x = f.cod.enc (f.get x) ++ encF fs x := by simp [encF]
    rw [e] at hk ⊢
    rw [decF]
    by_cases hka : k < (f.cod.enc (f.get x)).length
    · rw [List.take_append_of_le_length (by omega), f.cod.cut _ k (h f (by simp)) hka]
    · have e2 : (f.cod.enc (f.get x) ++ encF fs x).take k = f.cod.enc (f.get x) ++ (encF fs x).take (k - (f.cod.enc (f.get x)).length) := by
        rw [List.take_append, List.take_of_length_le (by omega)]
      rw [e2, f.cod.back _ _ (h f (by simp))]
      simp only
      exact ih _ _ (fun g hg => h g (by simp [hg])) (by rw [List.length_append] at hk; omega)

/-- What bytes are read as, as a message of a kind. -/
def readM (kind : Nat) (l : List Nat) : MsgV ⊕ Nat :=
  match formM kind with
  | none => .inr 61
  | some fs => match decF fs (zeroM kind) l with
    | .inr e => .inr e
    | .inl (m, r) => if r = [] then .inl m else .inr 60
/-- A message can be written, and its bytes. -/
def fitM (x : MsgV) : Prop := ∃ fs, formM x.kind = some fs ∧ x = setF fs (zeroM x.kind) x ∧ fitF fs x
def bytesM (x : MsgV) : List Nat := encF ((formM x.kind).getD []) x

theorem readM_back (x : MsgV) (h : fitM x) : readM x.kind (bytesM x) = .inl x := by
  obtain ⟨fs, h1, h2, h3⟩ := h
  have hb := backF fs (zeroM x.kind) x [] h3
  rw [List.append_nil, ← h2] at hb
  simp only [readM, bytesM, h1, Option.getD_some, hb, if_true]
theorem readM_more (x : MsgV) (h : fitM x) (r : List Nat) (hr : r ≠ []) : readM x.kind (bytesM x ++ r) = .inr 60 := by
  obtain ⟨fs, h1, h2, h3⟩ := h
  have hb := backF fs (zeroM x.kind) x r h3
  simp only [readM, bytesM, h1, Option.getD_some, hb, if_neg hr]
theorem readM_cut (x : MsgV) (h : fitM x) (k : Nat) (hk : k < (bytesM x).length) : readM x.kind ((bytesM x).take k) = .inr 40 := by
  obtain ⟨fs, h1, h2, h3⟩ := h
  simp only [bytesM, h1, Option.getD_some] at hk ⊢
  simp only [readM, h1, cutF fs (zeroM x.kind) x k h3 hk]
theorem readM_only (kind : Nat) (l : List Nat) (x : MsgV) (hl : ∀ b ∈ l, b < 256) (h : readM kind l = .inl x) : x.kind = kind ∧ fitM x ∧ bytesM x = l := by
  unfold readM at h
  cases hf : formM kind with
  | none => rw [hf] at h; cases h
  | some fs =>
    rw [hf] at h
    simp only at h
    cases hd : decF fs (zeroM kind) l with
    | inr e => rw [hd] at h; cases h
    | inl y =>
      obtain ⟨m, r⟩ := y
      rw [hd] at h
      simp only at h
      by_cases hr : r = []
      · rw [if_pos hr] at h
        simp only [Sum.inl.injEq] at h
        subst h
        subst hr
        obtain ⟨h1, h2, h3⟩ := onlyF fs _ _ _ _ (form_apart kind fs hf) hl hd
        have hk : m.kind = kind := by
          have := congrArg MsgV.kind h3
          rw [setF_kind] at this
          exact this
        refine ⟨hk, ⟨fs, by rw [hk]; exact hf, by rw [hk]; exact h3, h1⟩, ?_⟩
        simp only [bytesM, hk, hf, Option.getD_some]
        rw [h2, List.append_nil]
      · rw [if_neg hr] at h
        cases h
end Go.Proofs.Ytdgiellnklcioaa
