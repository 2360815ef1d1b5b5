/-
  The region of TagsMore's law: what holds of it whatever has come up, and that each operation keeps it.
-/
import Derived.Test.YtpaehifgccfpoaaRm
namespace Go.Proofs.Ytpaehifgccfpoaa
open Go.RowKit

/-- One operation more has come up; one slot more is filled. -/
def upd (L : Nat → Bool) (i : Nat) : Nat → Bool := fun k => bif Nat.beq k i then true else L k
def updE (E : Nat → Value) (d : Nat) (v : Value) : Nat → Value := fun k => bif Nat.beq k d then v else E k

def curA (L : Nat → Bool) (E : Nat → Value) : Value := bif L 6 then E 46 else bif L 3 then E 43 else E 40
def listA (L : Nat → Bool) (s0 : List ByteArray) (t : ByteArray) : List ByteArray := bif L 6 then s0 ++ [t] else bif L 3 then s0 else []
def curB (L : Nat → Bool) (E : Nat → Value) : Value := bif L 15 then E 55 else bif L 12 then E 52 else E 49
def listB (L : Nat → Bool) (s2 : List ByteArray) (t : ByteArray) : List ByteArray := bif L 15 then s2 ++ [t] else bif L 12 then s2 else []

structure RI (w0 : World) (pb : Nat) (v0 v1 v2 : Value) (s0 s2 : List ByteArray) (t : ByteArray) (L : Nat → Bool) (E : Nat → Value) (w : World) : Prop where
  below : Below w0.heap.size w0 w
  o3 : L 3 = true → L 0 = true
  o6 : L 6 = true → L 3 = true ∧ L 5 = true
  o12 : L 12 = true → L 6 = true ∧ L 9 = true
  o15 : L 15 = true → L 12 = true ∧ L 14 = true
  o16 : L 16 = true → L 6 = true ∧ L 8 = true ∧ L 15 = true
  p1 : L 1 = true → E 41 = .pointer (some ⟨pb, 0, none⟩)
  p2 : L 2 = true → E 42 = v0
  p4 : L 4 = true → E 44 = .string t
  p7 : L 7 = true → E 47 = .pointer (some ⟨pb, 1, none⟩)
  p8 : L 8 = true → E 48 = v1
  p10 : L 10 = true → E 50 = .pointer (some ⟨pb, 2, none⟩)
  p11 : L 11 = true → E 51 = v2
  p13 : L 13 = true → E 53 = .string t
  p16 : L 16 = true → E 56 = .agg #[E 46, E 48, E 55]
  rowA : L 0 = true → OwnS w w0.heap.size 9 (curA L E) (listA L s0 t)
  rowB : L 9 = true → OwnS w w0.heap.size 9 (curB L E) (listB L s2 t)
  one5 : L 5 = true → L 6 = false → One w w0.heap.size t (E 45)
  one14 : L 14 = true → One w w0.heap.size t (E 54)
  dAB : L 0 = true → L 9 = true → Far (curA L E) (curB L E)
  dA5 : L 0 = true → L 5 = true → L 6 = false → Far (curA L E) (E 45)
  dA14 : L 0 = true → L 14 = true → Far (curA L E) (E 54)
  dB14 : L 9 = true → L 14 = true → Far (curB L E) (E 54)
  box : L 17 = true → Box w w0.heap.size (E 9)

section
variable {w0 : World} {pb : Nat} {v0 v1 v2 : Value} {s0 s2 : List ByteArray} {t : ByteArray} {L : Nat → Bool} {E : Nat → Value} {w w' : World}

theorem no {a b : Bool} (h : a = true → b = true) (hb : b = false) : a = false := by
  cases a
  · rfl
  · rw [h rfl] at hb
    cases hb

theorem RI.on (h : RI w0 pb v0 v1 v2 s0 s2 t L E w) (hb : Below w.heap.size w w') : RI w0 pb v0 v1 v2 s0 s2 t L E w' :=
  { h with
    below := h.below.trans (hb.mono h.below.size)
    rowA := fun a => (h.rowA a).on hb
    rowB := fun a => (h.rowB a).on hb
    one5 := fun a b => (h.one5 a b).on hb
    one14 := fun a => (h.one14 a).on hb
    box := fun a => (h.box a).on hb }

theorem own_new (w : World) (B : Nat) (hB : B ≤ w.heap.size) : OwnS (w.alloc (.cells #[] 9)) B 9 (.slice (some ⟨w.heap.size, 0, none⟩) 0 0) [] := World.ownsRow_made w #[] 0 hB (by decide) rfl
theorem one_new (w : World) (B : Nat) (t : ByteArray) (hB : B ≤ w.heap.size) : One (w.alloc (.cells #[.string t] 9)) B t (.slice (some ⟨w.heap.size, 0, none⟩) 1 1) := ⟨_, rfl, hB, Blk.new w 9 #[.string t]⟩
theorem alloc_below (w : World) (o : Obj) : Below w.heap.size w (w.alloc o) := (Below.refl _ w).alloc (Nat.le_refl _) o

theorem RI.st1 (h : RI w0 pb v0 v1 v2 s0 s2 t L E w) : RI w0 pb v0 v1 v2 s0 s2 t (upd L 1) (updE E 41 (.pointer (some ⟨pb, 0, none⟩))) w :=
  { h with p1 := fun _ => rfl }
theorem RI.st2 (h : RI w0 pb v0 v1 v2 s0 s2 t L E w) : RI w0 pb v0 v1 v2 s0 s2 t (upd L 2) (updE E 42 (v0)) w :=
  { h with p2 := fun _ => rfl }
theorem RI.st4 (h : RI w0 pb v0 v1 v2 s0 s2 t L E w) : RI w0 pb v0 v1 v2 s0 s2 t (upd L 4) (updE E 44 (.string t)) w :=
  { h with p4 := fun _ => rfl }
theorem RI.st7 (h : RI w0 pb v0 v1 v2 s0 s2 t L E w) : RI w0 pb v0 v1 v2 s0 s2 t (upd L 7) (updE E 47 (.pointer (some ⟨pb, 1, none⟩))) w :=
  { h with p7 := fun _ => rfl }
theorem RI.st8 (h : RI w0 pb v0 v1 v2 s0 s2 t L E w) (h8 : L 8 = false) : RI w0 pb v0 v1 v2 s0 s2 t (upd L 8) (updE E 48 v1) w :=
  { h with
    p8 := fun _ => rfl
    o16 := fun a => ⟨(h.o16 a).1, rfl, (h.o16 a).2.2⟩
    p16 := fun a => by
      have := (h.o16 a).2.1
      rw [h8] at this
      cases this }
theorem RI.st10 (h : RI w0 pb v0 v1 v2 s0 s2 t L E w) : RI w0 pb v0 v1 v2 s0 s2 t (upd L 10) (updE E 50 (.pointer (some ⟨pb, 2, none⟩))) w :=
  { h with p10 := fun _ => rfl }
theorem RI.st11 (h : RI w0 pb v0 v1 v2 s0 s2 t L E w) : RI w0 pb v0 v1 v2 s0 s2 t (upd L 11) (updE E 51 (v2)) w :=
  { h with p11 := fun _ => rfl }
theorem RI.st13 (h : RI w0 pb v0 v1 v2 s0 s2 t L E w) : RI w0 pb v0 v1 v2 s0 s2 t (upd L 13) (updE E 53 (.string t)) w :=
  { h with p13 := fun _ => rfl }

theorem RI.st0 (h : RI w0 pb v0 v1 v2 s0 s2 t L E w) (h0 : L 0 = false) : RI w0 pb v0 v1 v2 s0 s2 t (upd L 0) (updE E 40 (.slice (some ⟨w.heap.size, 0, none⟩) 0 0)) (w.alloc (.cells #[] 9)) := by
  have h3 : L 3 = false := no h.o3 h0
  have h6 : L 6 = false := no (fun a => (h.o6 a).1) h3
  have g := h.on (alloc_below w (.cells #[] 9))
  have e : curA (upd L 0) (updE E 40 (.slice (some ⟨w.heap.size, 0, none⟩) 0 0)) = .slice (some ⟨w.heap.size, 0, none⟩) 0 0 := by
    show (bif L 6 then E 46 else bif L 3 then E 43 else _) = _
    rw [h6, h3]
    rfl
  have el : listA (upd L 0) s0 t = [] := by
    show (bif L 6 then _ else bif L 3 then _ else _) = _
    rw [h6, h3]
    rfl
  exact { g with
    o3 := fun _ => rfl
    rowA := fun _ => by rw [e, el]; exact own_new w _ h.below.size
    dAB := fun _ a => by rw [e]; exact far_new (h.rowB a).block
    dA5 := fun _ a b => by rw [e]; exact far_new (h.one5 a b).block
    dA14 := fun _ a => by rw [e]; exact far_new (h.one14 a).block }

theorem RI.st9 (h : RI w0 pb v0 v1 v2 s0 s2 t L E w) (h9 : L 9 = false) : RI w0 pb v0 v1 v2 s0 s2 t (upd L 9) (updE E 49 (.slice (some ⟨w.heap.size, 0, none⟩) 0 0)) (w.alloc (.cells #[] 9)) := by
  have h12 : L 12 = false := no (fun a => (h.o12 a).2) h9
  have h15 : L 15 = false := no (fun a => (h.o15 a).1) h12
  have g := h.on (alloc_below w (.cells #[] 9))
  have e : curB (upd L 9) (updE E 49 (.slice (some ⟨w.heap.size, 0, none⟩) 0 0)) = .slice (some ⟨w.heap.size, 0, none⟩) 0 0 := by
    show (bif L 15 then E 55 else bif L 12 then E 52 else _) = _
    rw [h15, h12]
    rfl
  have el : listB (upd L 9) s2 t = [] := by
    show (bif L 15 then _ else bif L 12 then _ else _) = _
    rw [h15, h12]
    rfl
  exact { g with
    o12 := fun a => ⟨(h.o12 a).1, rfl⟩
    rowB := fun _ => by rw [e, el]; exact own_new w _ h.below.size
    dAB := fun a _ => by rw [e]; exact (far_new (h.rowA a).block).symm
    dB14 := fun _ a => by rw [e]; exact far_new (h.one14 a).block }

theorem RI.st5 (h : RI w0 pb v0 v1 v2 s0 s2 t L E w) : RI w0 pb v0 v1 v2 s0 s2 t (upd L 5) (updE E 45 (.slice (some ⟨w.heap.size, 0, none⟩) 1 1)) (w.alloc (.cells #[.string t] 9)) := by
  have g := h.on (alloc_below w (.cells #[.string t] 9))
  exact { g with
    o6 := fun a => ⟨(h.o6 a).1, rfl⟩
    one5 := fun _ _ => one_new w _ t h.below.size
    dA5 := fun a _ _ => (far_new (h.rowA a).block).symm }

theorem RI.st14 (h : RI w0 pb v0 v1 v2 s0 s2 t L E w) : RI w0 pb v0 v1 v2 s0 s2 t (upd L 14) (updE E 54 (.slice (some ⟨w.heap.size, 0, none⟩) 1 1)) (w.alloc (.cells #[.string t] 9)) := by
  have g := h.on (alloc_below w (.cells #[.string t] 9))
  exact { g with
    o15 := fun a => ⟨(h.o15 a).1, rfl⟩
    one14 := fun _ => one_new w _ t h.below.size
    dA14 := fun a _ => (far_new (h.rowA a).block).symm
    dB14 := fun a _ => (far_new (h.rowB a).block).symm }

theorem RI.st17 (h : RI w0 pb v0 v1 v2 s0 s2 t L E w) : RI w0 pb v0 v1 v2 s0 s2 t (upd L 17) (updE E 9 (.pointer (some ⟨w.heap.size, 0, none⟩))) (w.alloc (.cells #[.slice none 0 0, .slice none 0 0, .slice none 0 0] 24)) := by
  have g := h.on (alloc_below w (.cells #[.slice none 0 0, .slice none 0 0, .slice none 0 0] 24))
  exact { g with
    box := fun _ => ⟨_, rfl, h.below.size, Blk.new w 24 #[.slice none 0 0, .slice none 0 0, .slice none 0 0]⟩ }

theorem RI.st16 (h : RI w0 pb v0 v1 v2 s0 s2 t L E w) (h6 : L 6 = true) (h8 : L 8 = true) (h15 : L 15 = true) : RI w0 pb v0 v1 v2 s0 s2 t (upd L 16) (updE E 56 (.agg #[E 46, E 48, E 55])) w :=
  { h with
    o16 := fun _ => ⟨h6, h8, h15⟩
    p16 := fun _ => rfl }

theorem RI.st3 (h : RI w0 pb v0 v1 v2 s0 s2 t L E w) (h3 : L 3 = false) (h0 : L 0 = true) {v' : Value} (hn : OwnS w' w0.heap.size 9 v' s0) (hg : w.grownBy w' (E 40).ownBlock) (hat : v'.ownBlock = (E 40).ownBlock ∨ v'.ownBlock = some w.heap.size) :
    RI w0 pb v0 v1 v2 s0 s2 t (upd L 3) (updE E 43 v') w' := by
  have h6 : L 6 = false := no (fun a => (h.o6 a).1) h3
  have e0 : curA L E = E 40 := by unfold curA; rw [h6, h3]; rfl
  have e : curA (upd L 3) (updE E 43 v') = v' := by
    show (bif L 6 then E 46 else v') = _
    rw [h6]
    rfl
  have el : listA (upd L 3) s0 t = s0 := by
    show (bif L 6 then _ else s0) = _
    rw [h6]
    rfl
  have r := h.rowA h0
  have d1 := h.dAB h0
  have d2 := h.dA5 h0
  have d3 := h.dA14 h0
  rw [e0] at r d1 d2 d3
  exact { h with
    below := grown_below r hg h.below
    o3 := fun _ => h0
    o6 := fun a => ⟨rfl, (h.o6 a).2⟩
    rowA := fun _ => by rw [e, el]; exact hn
    rowB := fun a => grown_own (d1 a) hg (h.rowB a)
    one5 := fun a b => grown_one (d2 a b) hg (h.one5 a b)
    one14 := fun a => grown_one (d3 a) hg (h.one14 a)
    dAB := fun _ a => by rw [e]; exact far_app (d1 a) hat (h.rowB a).block
    dA5 := fun _ a b => by rw [e]; exact far_app (d2 a b) hat (h.one5 a b).block
    dA14 := fun _ a => by rw [e]; exact far_app (d3 a) hat (h.one14 a).block
    box := fun a => grown_box r hg (h.box a) }

theorem RI.st6 (h : RI w0 pb v0 v1 v2 s0 s2 t L E w) (h6 : L 6 = false) (h3 : L 3 = true) (h5 : L 5 = true) {v' : Value} (hn : OwnS w' w0.heap.size 9 v' (s0 ++ [t])) (hg : w.grownBy w' (E 43).ownBlock) (hat : v'.ownBlock = (E 43).ownBlock ∨ v'.ownBlock = some w.heap.size) :
    RI w0 pb v0 v1 v2 s0 s2 t (upd L 6) (updE E 46 v') w' := by
  have h0 := h.o3 h3
  have e0 : curA L E = E 43 := by unfold curA; rw [h6, h3]; rfl
  have e : curA (upd L 6) (updE E 46 v') = v' := rfl
  have r := h.rowA h0
  have d1 := h.dAB h0
  have d3 := h.dA14 h0
  rw [e0] at r d1 d3
  exact { h with
    below := grown_below r hg h.below
    o6 := fun _ => ⟨h3, h5⟩
    o12 := fun a => ⟨rfl, (h.o12 a).2⟩
    o16 := fun a => ⟨rfl, (h.o16 a).2⟩
    p16 := fun a => by
      have := (h.o16 a).1
      rw [h6] at this
      cases this
    rowA := fun _ => hn
    rowB := fun a => grown_own (d1 a) hg (h.rowB a)
    one5 := fun _ b => by cases b
    one14 := fun a => grown_one (d3 a) hg (h.one14 a)
    dAB := fun _ a => far_app (d1 a) hat (h.rowB a).block
    dA5 := fun _ _ b => by cases b
    dA14 := fun _ a => far_app (d3 a) hat (h.one14 a).block
    box := fun a => grown_box r hg (h.box a) }

theorem RI.st12 (h : RI w0 pb v0 v1 v2 s0 s2 t L E w) (h12 : L 12 = false) (h6 : L 6 = true) (h9 : L 9 = true) {v' : Value} (hn : OwnS w' w0.heap.size 9 v' s2) (hg : w.grownBy w' (E 49).ownBlock) (hat : v'.ownBlock = (E 49).ownBlock ∨ v'.ownBlock = some w.heap.size) :
    RI w0 pb v0 v1 v2 s0 s2 t (upd L 12) (updE E 52 v') w' := by
  have h15 : L 15 = false := no (fun a => (h.o15 a).1) h12
  have h0 : L 0 = true := h.o3 (h.o6 h6).1
  have e0 : curB L E = E 49 := by unfold curB; rw [h15, h12]; rfl
  have e : curB (upd L 12) (updE E 52 v') = v' := by
    show (bif L 15 then E 55 else v') = _
    rw [h15]
    rfl
  have el : listB (upd L 12) s2 t = s2 := by
    show (bif L 15 then _ else s2) = _
    rw [h15]
    rfl
  have r := h.rowB h9
  have d1 := h.dAB h0 h9
  have d3 := h.dB14 h9
  rw [e0] at r d1 d3
  exact { h with
    below := grown_below r hg h.below
    o12 := fun _ => ⟨h6, h9⟩
    o15 := fun a => ⟨rfl, (h.o15 a).2⟩
    rowA := fun a => grown_own d1.symm hg (h.rowA a)
    rowB := fun _ => by rw [e, el]; exact hn
    one5 := fun _ b => by
      have b : L 6 = false := b
      rw [h6] at b
      cases b
    one14 := fun a => grown_one (d3 a) hg (h.one14 a)
    dAB := fun a _ => by rw [e]; exact (far_app d1.symm hat (h.rowA a).block).symm
    dB14 := fun _ a => by rw [e]; exact far_app (d3 a) hat (h.one14 a).block
    box := fun a => grown_box r hg (h.box a) }

theorem RI.st15 (h : RI w0 pb v0 v1 v2 s0 s2 t L E w) (h15 : L 15 = false) (h12 : L 12 = true) (h14 : L 14 = true) {v' : Value} (hn : OwnS w' w0.heap.size 9 v' (s2 ++ [t])) (hg : w.grownBy w' (E 52).ownBlock) (hat : v'.ownBlock = (E 52).ownBlock ∨ v'.ownBlock = some w.heap.size) :
    RI w0 pb v0 v1 v2 s0 s2 t (upd L 15) (updE E 55 v') w' := by
  have h6 := (h.o12 h12).1
  have h9 := (h.o12 h12).2
  have h0 : L 0 = true := h.o3 (h.o6 h6).1
  have e0 : curB L E = E 52 := by unfold curB; rw [h15, h12]; rfl
  have r := h.rowB h9
  have d1 := h.dAB h0 h9
  have d3 := h.dB14 h9
  rw [e0] at r d1 d3
  exact { h with
    below := grown_below r hg h.below
    o15 := fun _ => ⟨h12, h14⟩
    o16 := fun a => ⟨(h.o16 a).1, (h.o16 a).2.1, rfl⟩
    p16 := fun a => by
      have := (h.o16 a).2.2
      rw [h15] at this
      cases this
    rowA := fun a => grown_own d1.symm hg (h.rowA a)
    rowB := fun _ => hn
    one5 := fun _ b => by
      have b : L 6 = false := b
      rw [h6] at b
      cases b
    one14 := fun a => grown_one (d3 a) hg (h.one14 a)
    dAB := fun a _ => (far_app d1.symm hat (h.rowA a).block).symm
    dB14 := fun _ a => far_app (d3 a) hat (h.one14 a).block
    box := fun a => grown_box r hg (h.box a) }
end
end Go.Proofs.Ytpaehifgccfpoaa
