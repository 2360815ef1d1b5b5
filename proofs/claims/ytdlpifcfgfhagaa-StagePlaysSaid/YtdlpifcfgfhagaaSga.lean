/-
  Layer 13, plain words: uploads, a table of them as pure functions; the program's table as blocks.
-/
import Derived.Test.YtdlpifcfgfhagaaMe
import Derived.Test.YtdlpifcfgfhagaaProg
import Derived.Test.YtdlpifcfgfhagaaVs
namespace Go.Proofs.Ytdlpifcfgfhagaa
open Go.RowKit Go.ChangeShapes Go.WideShapes Go.ChangeAt Go.Maps

/-- An upload: its number, owner, collection's name, bytes, how many pieces came. -/
structure UpV where
  n : Nat
  owner : Nat
  name : ByteArray
  b : List Nat
  page : Nat
structure TabV where
  ups : List UpV
  last : Nat
def UpV.put (u : UpV) (b : List Nat) : UpV := { u with b := u.b ++ b, page := u.page + 1 }
def UpV.is (u : UpV) (owner n : Nat) : Bool := decide (u.n = n ∧ u.owner = owner)
def TabV.own (s : TabV) (owner n : Nat) : Option UpV := s.ups.find? fun u => u.is owner n
def TabV.start (s : TabV) (owner : Nat) (name : ByteArray) : TabV := ⟨s.ups ++ [⟨s.last + 1, owner, name, [], 0⟩], s.last + 1⟩
def TabV.cut (s : TabV) (n : Nat) : TabV := { s with ups := s.ups.filter fun u => decide (u.n ≠ n) }
def TabV.grow (s : TabV) (n : Nat) (b : List Nat) : TabV := { s with ups := s.ups.map fun u => if u.n = n then u.put b else u }
def TabV.chunkE (s : TabV) (owner n page : Nat) (b : List Nat) : Nat :=
  match s.own owner n with
  | none => 130
  | some u => if page ≠ u.page + 1 then 130 else if u.b.length + b.length > 4096 then 4 else 0
def TabV.chunk (s : TabV) (owner n page : Nat) (b : List Nat) : TabV := if s.chunkE owner n page b = 0 then s.grow n b else s
def TabV.leave (s : TabV) (owner : Nat) : TabV := { s with ups := s.ups.filter fun u => decide (u.owner ≠ owner) }
def TabV.bytes (s : TabV) : Nat := (s.ups.map fun u => u.b.length).sum
/-- What is so as long as no more than k things were done. -/
structure TabV.Few (k : Nat) (s : TabV) : Prop where
  last : s.last ≤ k
  low : ∀ u ∈ s.ups, 1 ≤ u.n ∧ u.n ≤ s.last
  page : ∀ u ∈ s.ups, u.page ≤ k
  most : ∀ u ∈ s.ups, u.b.length ≤ 4096
  four : s.ups.length ≤ 4
  apart : s.ups.Pairwise fun u v => u.n ≠ v.n

def keyS (x : Nat) : Lit := .int .u32 (x : Int)
theorem keyS_inj : ∀ a b : Nat, keyS a = keyS b → a = b := (fun a b h => by have h2 := (Lit.int.inj h).2; omega)
theorem keyS_lit (x : Nat) : WideAt.IsKeyLit (keyS x) := by trivial
theorem keyS_wf {v : Nat} (h : v < 4294967296) : (Lit.int .u32 (v : Int)).wf = true := by
  simp [Lit.wf, IntKind.min, IntKind.max, IntKind.signed, IntKind.bits]
  omega

/-- An upload as it lies: its block, the slice of its bytes. -/
structure UpL where
  g : Nat
  v : Value
  u : UpV
def UpL.cells (t : UpL) : List Value := [.int .u64 (t.u.owner : Int), .string t.u.name, t.v, .int .u32 (t.u.page : Int)]
structure UpL.At (w : World) (lo : Nat) (t : UpL) : Prop where
  blk : Blk w t.g 67 t.cells
  glo : lo ≤ t.g
  row : OwnV w lo 5 t.v t.u.b
  n32 : t.u.n < 4294967296
  o64 : t.u.owner < 18446744073709551616
  p32 : t.u.page < 4294967296
  most : t.u.b.length ≤ 4096
def fpU (t : UpL) : List Nat := t.g :: t.v.ownBlock.toList
theorem mem_fpU {t : UpL} {b : Nat} : b ∈ fpU t ↔ b = t.g ∨ t.v.ownBlock = some b := by simp [fpU]
def upE (L : List UpL) : List (Lit × Value) := L.map fun t => (keyS t.u.n, .pointer (some ⟨t.g, 0, none⟩))
structure TabC (w : World) (lo x m : Nat) (L : List UpL) (last : Nat) : Prop where
  blk : Blk w x 64 [.map (some m), .int .u32 (last : Int)]
  xlo : lo ≤ x
  mlo : lo ≤ m
  map : MapE w Try.prog 28 m (upE L)
  each : ∀ t ∈ L, t.At w lo
  apart : L.Pairwise fun s t => s.g ≠ t.g ∧ ∀ k, s.v.ownBlock = some k → t.v.ownBlock ≠ some k
  few : L.length ≤ 4
  l32 : last < 4294967296
def fpT (x m : Nat) (L : List UpL) : List Nat := x :: m :: L.flatMap fpU
theorem mem_fpT {x m b : Nat} {L : List UpL} : b ∈ fpT x m L ↔ b = x ∨ b = m ∨ ∃ t ∈ L, b ∈ fpU t := by simp [fpT]
/-- The program's table in plain words: in block x; F are all its blocks. -/
def TabIs (w : World) (lo x : Nat) (F : List Nat) (s : TabV) : Prop := ∃ (m : Nat) (L : List UpL), TabC w lo x m L s.last ∧ s.ups = L.map (·.u) ∧ F = fpT x m L

section
variable {w w' : World} {lo x m last : Nat} {F G : List Nat} {s : TabV} {L : List UpL} {t : UpL}
theorem own_blk {k : Nat} {v : Value} {bs : List Nat} (h : OwnV w lo 5 v bs) (hk : v.ownBlock = some k) : ∃ cs, Blk w k 5 cs := by
  rcases h.form with ⟨rfl, _⟩ | ⟨g, cap, rest, rfl, _, hb, _⟩
  · cases hk
  · cases hk
    exact ⟨_, hb⟩
theorem UpL.At.kept (h : t.At w lo) (hk : Kept G w w') (hG : ∀ b ∈ fpU t, b ∉ G) : t.At w' lo :=
  ⟨hk.blk h.blk (hG _ (mem_fpU.2 (.inl rfl))), h.glo, h.row.kept hk fun k e => hG k (mem_fpU.2 (.inr e)), h.n32, h.o64, h.p32, h.most⟩
theorem UpL.At.lt (h : t.At w lo) : ∀ b ∈ fpU t, lo ≤ b ∧ b < w.heap.size := by
  intro b hb
  rcases mem_fpU.1 hb with rfl | hb
  · exact ⟨h.glo, h.blk.lt⟩
  · exact h.row.lt b hb
theorem TabC.kept (h : TabC w lo x m L last) (hk : Kept G w w') (hG : ∀ b ∈ fpT x m L, b ∉ G) : TabC w' lo x m L last :=
  ⟨hk.blk h.blk (hG _ (mem_fpT.2 (.inl rfl))), h.xlo, h.mlo, h.map.kept hk (hG _ (mem_fpT.2 (.inr (.inl rfl)))), fun t ht => (h.each t ht).kept hk fun b hb => hG b (mem_fpT.2 (.inr (.inr ⟨t, ht, hb⟩))), h.apart, h.few, h.l32⟩
theorem TabC.lt (h : TabC w lo x m L last) : ∀ b ∈ fpT x m L, lo ≤ b ∧ b < w.heap.size := by
  intro b hb
  rcases mem_fpT.1 hb with rfl | rfl | ⟨t, ht, hb⟩
  · exact ⟨h.xlo, h.blk.lt⟩
  · exact ⟨h.mlo, h.map.lt⟩
  · exact (h.each t ht).lt b hb
theorem TabC.xm (h : TabC w lo x m L last) : m ≠ x := h.map.ne_blk h.blk
theorem TabC.x_not (h : TabC w lo x m L last) : ∀ t ∈ L, x ∉ fpU t := by
  intro t ht hb
  rcases mem_fpU.1 hb with e | e
  · exact h.blk.ne (h.each t ht).blk (by decide) e
  · obtain ⟨cs, hc⟩ := own_blk (h.each t ht).row e
    exact h.blk.ne hc (by decide) rfl
theorem TabC.m_not (h : TabC w lo x m L last) : ∀ t ∈ L, m ∉ fpU t := by
  intro t ht hb
  rcases mem_fpU.1 hb with e | e
  · exact h.map.ne_blk (h.each t ht).blk e
  · obtain ⟨cs, hc⟩ := own_blk (h.each t ht).row e
    exact h.map.ne_blk hc rfl
theorem TabC.nums (h : TabC w lo x m L last) : (L.map (·.u)).Pairwise fun u v => u.n ≠ v.n := by
  have h1 := h.map.apart
  unfold upE at h1
  rw [List.pairwise_map] at h1
  rw [List.pairwise_map]
  exact h1.imp fun hh e => hh (by simp only [e])
theorem pair_one {α : Type} {R : α → α → Prop} (hs : ∀ a b, R a b → R b a) : ∀ {l : List α}, l.Pairwise R → ∀ a ∈ l, ∀ b ∈ l, a = b ∨ R a b
  | [], _, a, ha, _, _ => by simp at ha
  | c :: l, h, a, ha, b, hb => by
    obtain ⟨h1, h2⟩ := List.pairwise_cons.1 h
    rcases List.mem_cons.1 ha with ea | ha
    · rcases List.mem_cons.1 hb with eb | hb
      · exact .inl (ea.trans eb.symm)
      · exact .inr (ea ▸ h1 b hb)
    · rcases List.mem_cons.1 hb with eb | hb
      · exact .inr (hs _ _ (eb ▸ h1 a ha))
      · exact pair_one hs h2 a ha b hb
theorem TabC.uniq (h : TabC w lo x m L last) : ∀ a ∈ L, ∀ b ∈ L, a.u.n = b.u.n → a = b := by
  intro a ha b hb e
  have h1 := h.nums
  rw [List.pairwise_map] at h1
  rcases pair_one (fun a b hh ee => hh ee.symm) h1 a ha b hb with h2 | h2
  · exact h2
  · exact absurd e h2
theorem TabC.fp_apart (h : TabC w lo x m L last) : ∀ a ∈ L, ∀ b ∈ L, a.u.n ≠ b.u.n → ∀ k ∈ fpU a, k ∉ fpU b := by
  intro a ha b hb hne k hk hk'
  rcases pair_one (R := fun s t : UpL => s.g ≠ t.g ∧ ∀ k, s.v.ownBlock = some k → t.v.ownBlock ≠ some k) (fun a b hh => ⟨hh.1.symm, fun k e1 e2 => hh.2 k e2 e1⟩) h.apart a ha b hb with rfl | ⟨h1, h2⟩
  · exact hne rfl
  · rcases mem_fpU.1 hk with e | e <;> rcases mem_fpU.1 hk' with e' | e'
    · exact h1 (e.symm.trans e')
    · obtain ⟨cs, hc⟩ := own_blk (h.each b hb).row e'
      subst e
      exact (h.each a ha).blk.ne hc (by decide) rfl
    · obtain ⟨cs, hc⟩ := own_blk (h.each a ha).row e
      subst e'
      exact (h.each b hb).blk.ne hc (by decide) rfl
    · exact h2 k e e'
/-- Some uploads are gone. -/
theorem TabC.fewer {q : UpL → Bool} (h : TabC w lo x m L last) (hm : MapE w' Try.prog 28 m (upE (L.filter q))) (hk : Kept [m] w w') : TabC w' lo x m (L.filter q) last :=
  ⟨hk.blk h.blk (by simpa using h.xm.symm), h.xlo, h.mlo, hm, fun t ht => (h.each t (List.mem_filter.1 ht).1).kept hk (fun b hb e => by
    rw [List.mem_singleton] at e
    subst e
    exact h.m_not t (List.mem_filter.1 ht).1 hb), h.apart.filter _, Nat.le_trans (List.length_filter_le _ _) h.few, h.l32⟩
/-- One upload has turned. -/
def turnU (L : List UpL) (t' : UpL) : List UpL := L.map fun s => if s.u.n = t'.u.n then t' else s
theorem TabC.turned {t' : UpL} (h : TabC w lo x m L last) (ht : t ∈ L) (hg : t'.g = t.g) (hn : t'.u.n = t.u.n) (ha : t'.At w' lo) (hk : Kept (fpU t) w w') (hv : ∀ k, t'.v.ownBlock = some k → t.v.ownBlock = some k ∨ w.heap.size ≤ k) : TabC w' lo x m (turnU L t') last := by
  have hE : upE (turnU L t') = upE L := by
    unfold upE turnU
    rw [List.map_map]
    refine List.map_congr_left fun s hs => ?_
    show (keyS (if s.u.n = t'.u.n then t' else s).u.n, Value.pointer (some ⟨(if s.u.n = t'.u.n then t' else s).g, 0, none⟩)) = _
    split
    · rename_i e
      have := h.uniq s hs t ht (e.trans hn)
      subst this
      rw [hn, hg]
    · rfl
  refine ⟨hk.blk h.blk (h.x_not t ht), h.xlo, h.mlo, by rw [hE]; exact h.map.kept hk (h.m_not t ht), fun s hs => ?_, ?_, by unfold turnU; simpa using h.few, h.l32⟩
  · obtain ⟨s0, hs0, rfl⟩ := List.mem_map.1 hs
    split
    · exact ha
    · rename_i e
      exact (h.each s0 hs0).kept hk fun b hb => h.fp_apart s0 hs0 t ht (by rw [← hn]; exact e) b hb
  · unfold turnU
    rw [List.pairwise_map]
    refine List.Pairwise.imp_of_mem ?_ h.apart
    intro a b ha' hb' hab
    have old : ∀ c ∈ L, c.u.n ≠ t.u.n → t'.g ≠ c.g ∧ ∀ k, t'.v.ownBlock = some k → c.v.ownBlock ≠ some k := by
      intro c hc hne
      have hf := h.fp_apart t ht c hc hne.symm
      refine ⟨fun e => hf t.g (mem_fpU.2 (.inl rfl)) (mem_fpU.2 (.inl (hg.symm.trans e))), fun k e1 e2 => ?_⟩
      rcases hv k e1 with e3 | e3
      · exact hf k (mem_fpU.2 (.inr e3)) (mem_fpU.2 (.inr e2))
      · have := ((h.each c hc).row.lt k e2).2
        omega
    by_cases h1 : a.u.n = t'.u.n <;> by_cases h2 : b.u.n = t'.u.n
    · have e1 := h.uniq a ha' t ht (h1.trans hn)
      have e2 := h.uniq b hb' t ht (h2.trans hn)
      subst e1 e2
      exact absurd rfl hab.1
    · rw [if_pos h1, if_neg h2]
      exact old b hb' (by rw [← hn]; exact h2)
    · rw [if_neg h1, if_pos h2]
      obtain ⟨o1, o2⟩ := old a ha' (by rw [← hn]; exact h1)
      exact ⟨o1.symm, fun k e1 e2 => o2 k e2 e1⟩
    · rw [if_neg h1, if_neg h2]
      exact hab
/-- One upload more. -/
theorem TabC.more {last' : Nat} {t : UpL} (h : TabC w lo x m L last) (hb : Blk w' x 64 [.map (some m), .int .u32 (last' : Int)]) (hm : MapE w' Try.prog 28 m (upE (L ++ [t]))) (hk : Kept [x, m] w w') (ha : t.At w' lo) (hg : w.heap.size ≤ t.g) (hv : t.v.ownBlock = none) (hl : L.length < 4) (h32 : last' < 4294967296) : TabC w' lo x m (L ++ [t]) last' := by
  refine ⟨hb, h.xlo, h.mlo, hm, fun s hs => ?_, List.pairwise_append.2 ⟨h.apart, by simp, fun s hs u hu => ?_⟩, by simp; omega, h32⟩
  · rcases List.mem_append.1 hs with hs | hs
    · refine (h.each s hs).kept hk fun c hc e => ?_
      simp only [List.mem_cons, List.not_mem_nil, or_false] at e
      rcases e with e | e
      · exact h.x_not s hs (e ▸ hc)
      · exact h.m_not s hs (e ▸ hc)
    · rw [List.mem_singleton.1 hs]
      exact ha
  · rw [List.mem_singleton.1 hu, hv]
    have := (h.each s hs).blk.lt
    exact ⟨by omega, fun k _ e => by cases e⟩
theorem TabIs.kept (h : TabIs w lo x F s) (hk : Kept G w w') (hF : Apart G F) : TabIs w' lo x F s := by
  obtain ⟨m, L, h1, h2, rfl⟩ := h
  exact ⟨m, L, h1.kept hk fun b hb e => hF b e hb, h2, rfl⟩
theorem TabIs.on (h : TabIs w lo x F s) (hb : Below w.heap.size w w') : TabIs w' lo x F s := h.kept (G := []) (Kept.of_below hb (Nat.le_refl _)) (fun x hx => by simp at hx)
theorem TabIs.lt (h : TabIs w lo x F s) : ∀ b ∈ F, lo ≤ b ∧ b < w.heap.size := by
  obtain ⟨m, L, h1, h2, rfl⟩ := h
  exact h1.lt
theorem TabIs.size1 (h : TabIs w lo x F s) : lo ≤ w.heap.size := by
  obtain ⟨m, L, h1, h2, rfl⟩ := h
  exact Nat.le_of_lt (Nat.lt_of_le_of_lt h1.xlo h1.blk.lt)
theorem TabIs.below (h : TabIs w lo x F s) (hk : Kept F w w') : Below lo w w' := hk.below (fun b hb => (h.lt b hb).1) h.size1
/-- An upload of its own stands among them. -/
theorem own_some {owner n : Nat} {u : UpV} (h : s.own owner n = some u) : u ∈ s.ups ∧ u.n = n ∧ u.owner = owner := by
  have h1 := List.find?_some h
  exact ⟨List.mem_of_find?_eq_some h, of_decide_eq_true h1⟩
theorem own_none {owner n : Nat} (h : s.own owner n = none) : ∀ u ∈ s.ups, ¬ (u.n = n ∧ u.owner = owner) := by
  intro u hu e
  have := List.find?_eq_none.1 h u hu
  exact this (decide_eq_true e)
end
end Go.Proofs.Ytdlpifcfgfhagaa
