/-
  The region of PastOwn's law that lays copies of an item's two lists, whatever order is drawn.
-/
import Derived.Test.YtkfoakabdhllkaaRi
import Derived.Test.YtkfoakabdhllkaaCy
import Derived.Maps.AppendAt
namespace Go.Proofs.Ytkfoakabdhllkaa
open Go.RowKit Go.ChangeShapes Go.WideShapes Go.ChangeAt

theorem o_field0 (pb : Nat) (w : World) : (Instr.fieldAt 37 (.pointer (some ⟨pb, 0, none⟩)) 0).run Try.prog w = .ok (.pointer (some ⟨pb, 0, none⟩)) w := by go_simp
theorem o_field1 (pb : Nat) (w : World) : (Instr.fieldAt 37 (.pointer (some ⟨pb, 0, none⟩)) 1).run Try.prog w = .ok (.pointer (some ⟨pb, 1, none⟩)) w := by go_simp
theorem o_field2 (pb : Nat) (w : World) : (Instr.fieldAt 37 (.pointer (some ⟨pb, 0, none⟩)) 2).run Try.prog w = .ok (.pointer (some ⟨pb, 2, none⟩)) w := by go_simp
theorem o_load0 (pb id : Nat) (w : World) (h : w.cell? ⟨pb, 0, none⟩ = some (.int .u32 (id : Int))) : (Instr.loadAt 33 (.pointer (some ⟨pb, 0, none⟩))).run Try.prog w = .ok (.int .u32 (id : Int)) w := by go_simp
theorem o_load1 (pb n c : Nat) (a : Option Addr) (w : World) (h : w.cell? ⟨pb, 1, none⟩ = some (.slice a n c)) : (Instr.loadAt 34 (.pointer (some ⟨pb, 1, none⟩))).run Try.prog w = .ok (.slice a n c) w := by go_simp
theorem o_load2 (pb n c : Nat) (a : Option Addr) (w : World) (h : w.cell? ⟨pb, 2, none⟩ = some (.slice a n c)) : (Instr.loadAt 35 (.pointer (some ⟨pb, 2, none⟩))).run Try.prog w = .ok (.slice a n c) w := by go_simp
theorem o_bsI (w : World) : (Instr.buildSlice 34 0 #[]).run Try.prog w = .ok (.slice (some ⟨w.heap.size, 0, none⟩) 0 0) (w.alloc (.cells #[] 21)) := by go_simp
theorem o_bsS (w : World) : (Instr.buildSlice 35 0 #[]).run Try.prog w = .ok (.slice (some ⟨w.heap.size, 0, none⟩) 0 0) (w.alloc (.cells #[] 9)) := by go_simp
theorem o_build (id : Nat) (a1 a2 : Option Addr) (n1 c1 n2 c2 : Nat) (w : World) : (Instr.build 37 #[(0, .int .u32 (id : Int)), (1, .slice a1 n1 c1), (2, .slice a2 n2 c2)]).run Try.prog w = .ok (.agg #[.int .u32 (id : Int), .slice a1 n1 c1, .slice a2 n2 c2]) w := by go_simp
theorem o_alloc (w : World) : (Instr.alloc 37 true (.tuple #[])).run Try.prog w = .ok (.pointer (some ⟨w.heap.size, 0, none⟩)) (w.alloc (.cells #[.int .u32 0, .slice none 0 0, .slice none 0 0] 37)) := by go_simp
theorem o_store (bb id : Nat) (a1 a2 : Option Addr) (n1 c1 n2 c2 : Nat) (w : World) (hb : Blk w bb 37 [.int .u32 0, .slice none 0 0, .slice none 0 0]) :
    (Instr.storeAt 37 (.pointer (some ⟨bb, 0, none⟩)) (.agg #[.int .u32 (id : Int), .slice a1 n1 c1, .slice a2 n2 c2])).run Try.prog w = .ok () (((w.setCell ⟨bb, 0, none⟩ (.int .u32 (id : Int))).setCell ⟨bb, 1, none⟩ (.slice a1 n1 c1)).setCell ⟨bb, 2, none⟩ (.slice a2 n2 c2)) := by
  have f0 := hb.frozen 0
  have f1 := hb.frozen 1
  have f2 := hb.frozen 2
  have c0 := hb.cell 0
  have c1 := hb.cell 1
  have c2 := hb.cell 2
  have l0 := hb.lt
  simp only [List.getElem?_cons_zero, List.getElem?_cons_succ] at c0 c1 c2
  go_simp
theorem own_keep {w w' : World} {F : List Nat} {lo k n : Nat} {t : TypeId} {v : Value} {xs : List Value} (h : w.ownsRow lo t k v n xs) (hk : Kept F w w') (hF : ∀ g, v.ownBlock = some g → g ∉ F) : w'.ownsRow lo t k v n xs := by
  refine ⟨h.1, ?_⟩
  rcases h.2 with h2 | ⟨g, cap, cur, rfl, hb, hh, h3⟩
  · exact .inl h2
  · exact .inr ⟨g, cap, cur, rfl, hb, (hk.block g (Array.getElem?_eq_some_iff.1 hh).1 (hF g rfl)).trans hh, h3⟩
theorem own_lt {w : World} {lo k n g : Nat} {t : TypeId} {v : Value} {xs : List Value} (h : w.ownsRow lo t k v n xs) (hg : v.ownBlock = some g) : lo ≤ g ∧ g < w.heap.size := by
  rcases h.2 with ⟨rfl, _⟩ | ⟨g', cap, cur, rfl, hb, hh, h3⟩
  · cases hg
  · cases hg
    exact ⟨hb, (Array.getElem?_eq_some_iff.1 hh).1⟩
theorem own_made {w : World} {lo : Nat} (t : TypeId) (hlo : lo ≤ w.heap.size) : (w.alloc (.cells #[] t)).ownsRow lo t 1 (.slice (some ⟨w.heap.size, 0, none⟩) 0 0) 0 [] :=
  ⟨rfl, .inr ⟨w.heap.size, 0, #[], rfl, hlo, Blk.new w t #[], Nat.le_refl _, by decide, rfl, rfl⟩⟩
/-- append of what reads as cs to an empty row, as one operation of a region. -/
theorem wp_app8 {P : Program} {o : Oper} {act : Act} {K : Act → World → Prop} {Q : Exit → Act → World → Prop} (w : World) (s x : Operand) (st e : TypeId) (ho : o.op = .call { callee := .builtin .append, args := #[s, x], argTypes := #[st, st] }) (hu : P.underlying st = some (.slice e)) (z : Value) (sz : Nat) (hi : (P.info? e).map (fun i => (i.zero, i.size, i.bytes)) = some (some z, 1, sz)) (hz : z.cells.size = 1)
    (B : Nat) (v : Value) (hs : act.eval s = v) (hown : w.ownsRow B e 1 v 0 []) (a : Option Addr) (n c : Nat) (cs : List Value) (hx : act.eval x = .slice a n c) (hl : cs.length = n) (hnil : a = none → n = 0 ∧ c = 0) (hc : n = 0 ∨ ∃ b off, a = some ⟨b, off, none⟩ ∧ ∀ i, i < n → w.cell? ⟨b, off + i, none⟩ = cs[i]?) (h1 : ∀ u ∈ cs, u.oneCell' = true) (hb : n * sz ≤ 140737488355328) (hm : n ≤ 140737488355328) (hbase : B ≤ w.heap.size)
    (hK : ∀ v' w', w'.ownsRow B e 1 v' n cs → w.grownBy w' v.ownBlock → K (act.put o.dst v') w') : o.wp P act w K Q := by
  obtain ⟨i0, hi, hz0, hz1, hz2⟩ := info_parts hi
  cases a with
  | none =>
    obtain ⟨rfl, rfl⟩ := hnil rfl
    obtain rfl : cs = [] := List.eq_nil_of_length_eq_zero hl
    have hrun := run_append_owned_none (P := P) (w := w) B st o.type e i0 1 hu hi v 0 _ hown
    unfold Oper.wp execOp
    simp only [ho, resolve, invoke, builtin, Sem.run_bind, Sem.run_pure, Result.andThen_ok, List.map_toArray, List.map_cons, List.map_nil, hs, hx, hrun]
    exact hK v w hown (World.grownBy.refl _ _)
  | some ad =>
    have hnews : ∀ j u, cs[j]? = some u → w.cell? (ad.add j) = some u := by
      intro j u hj
      have hjl := (List.getElem?_eq_some_iff.1 hj).1
      rcases hc with h0 | ⟨b, off, e, hc⟩
      · omega
      · obtain rfl := Option.some.inj e
        rw [add_plain, hc j (by omega), ← hj]
    obtain ⟨v', w', hr, h2, h3, _, _⟩ := run_append_own_at (P := P) w B st o.type e i0 z 1 sz hu hi hz0 hz1 hz2 hz (by decide) v 0 [] hown ad n c cs (by simp [hl]) hnews h1 (by unfold maxLen; omega) (by rw [Nat.zero_add]; exact hb) hbase
    unfold Oper.wp execOp
    simp only [ho, resolve, invoke, builtin, Sem.run_bind, Sem.run_pure, Result.andThen_ok, List.map_toArray, List.map_cons, List.map_nil, hs, hx, hr]
    exact hK v' w' (by simpa using h2) h3

def updL (L : Nat → Bool) (i : Nat) : Nat → Bool := fun k => bif Nat.beq k i then true else L k
def updV (E : Nat → Value) (d : Nat) (v : Value) : Nat → Value := fun k => bif Nat.beq k d then v else E k
def BoxI (w : World) (B : Nat) (v : Value) : Prop := ∃ b, v = .pointer (some ⟨b, 0, none⟩) ∧ B ≤ b ∧ Blk w b 37 [.int .u32 0, .slice none 0 0, .slice none 0 0]
/-- What holds whatever has come up. -/
structure RO (w0 : World) (pb id : Nat) (v1 v2 : Value) (vec : List Int) (tags : List ByteArray) (L : Nat → Bool) (E : Nat → Value) (w : World) : Prop where
  below : Below w0.heap.size w0 w
  p0 : L 0 = true → E 22 = .pointer (some ⟨pb, 0, none⟩)
  p1 : L 1 = true → E 23 = .int .u32 (id : Int)
  p3 : L 3 = true → E 25 = .pointer (some ⟨pb, 1, none⟩)
  p4 : L 4 = true → E 26 = v1
  p7 : L 7 = true → E 29 = .pointer (some ⟨pb, 2, none⟩)
  p8 : L 8 = true → E 30 = v2
  p10 : L 10 = true → E 32 = .agg #[E 23, E 27, E 31]
  rowA : L 2 = true → L 5 = false → w.ownsRow w0.heap.size 21 1 (E 24) 0 []
  rowA2 : L 5 = true → w.ownsRow w0.heap.size 21 1 (E 27) vec.length (vec.map (Value.int .i32))
  rowB : L 6 = true → L 9 = false → w.ownsRow w0.heap.size 9 1 (E 28) 0 []
  rowB2 : L 9 = true → w.ownsRow w0.heap.size 9 1 (E 31) tags.length (tags.map Value.string)
  box : L 11 = true → BoxI w w0.heap.size (E 4)
  o10 : L 10 = true → L 1 = true ∧ L 5 = true ∧ L 9 = true
section
variable {w0 : World} {pb id : Nat} {v1 v2 : Value} {vec : List Int} {tags : List ByteArray} {L : Nat → Bool} {E : Nat → Value} {w w' : World}
theorem RO.on (h : RO w0 pb id v1 v2 vec tags L E w) (hb : Below w.heap.size w w') : RO w0 pb id v1 v2 vec tags L E w' :=
  have k : Kept [] w w' := Kept.of_below hb (Nat.le_refl _)
  { h with
    below := h.below.trans (hb.mono h.below.size)
    rowA := fun a b => own_keep (h.rowA a b) k (by simp)
    rowA2 := fun a => own_keep (h.rowA2 a) k (by simp)
    rowB := fun a b => own_keep (h.rowB a b) k (by simp)
    rowB2 := fun a => own_keep (h.rowB2 a) k (by simp)
    box := fun a => by
      obtain ⟨b, e, h1, h2⟩ := h.box a
      exact ⟨b, e, h1, h2.of_eq (hb.block b h2.lt)⟩ }
theorem RO.st0 (h : RO w0 pb id v1 v2 vec tags L E w) : RO w0 pb id v1 v2 vec tags (updL L 0) (updV E 22 (.pointer (some ⟨pb, 0, none⟩))) w := { h with p0 := fun _ => rfl }
theorem RO.st1 (h : RO w0 pb id v1 v2 vec tags L E w) (h10 : L 10 = false) : RO w0 pb id v1 v2 vec tags (updL L 1) (updV E 23 (.int .u32 (id : Int))) w := { h with p1 := fun _ => rfl, p10 := fun a => by { rw [show (updL L 1) 10 = L 10 from rfl, h10] at a; cases a }, o10 := fun a => by { rw [show (updL L 1) 10 = L 10 from rfl, h10] at a; cases a } }
theorem RO.st2 (h : RO w0 pb id v1 v2 vec tags L E w) : RO w0 pb id v1 v2 vec tags (updL L 2) (updV E 24 (.slice (some ⟨w.heap.size, 0, none⟩) 0 0)) (w.alloc (.cells #[] 21)) :=
  { h.on ((Below.refl _ w).alloc (Nat.le_refl _) _) with rowA := fun _ _ => own_made _ h.below.size }
theorem RO.st3 (h : RO w0 pb id v1 v2 vec tags L E w) : RO w0 pb id v1 v2 vec tags (updL L 3) (updV E 25 (.pointer (some ⟨pb, 1, none⟩))) w := { h with p3 := fun _ => rfl }
theorem RO.st4 (h : RO w0 pb id v1 v2 vec tags L E w) : RO w0 pb id v1 v2 vec tags (updL L 4) (updV E 26 v1) w := { h with p4 := fun _ => rfl }
theorem RO.st6 (h : RO w0 pb id v1 v2 vec tags L E w) : RO w0 pb id v1 v2 vec tags (updL L 6) (updV E 28 (.slice (some ⟨w.heap.size, 0, none⟩) 0 0)) (w.alloc (.cells #[] 9)) :=
  { h.on ((Below.refl _ w).alloc (Nat.le_refl _) _) with rowB := fun _ _ => own_made _ h.below.size }
theorem RO.st7 (h : RO w0 pb id v1 v2 vec tags L E w) : RO w0 pb id v1 v2 vec tags (updL L 7) (updV E 29 (.pointer (some ⟨pb, 2, none⟩))) w := { h with p7 := fun _ => rfl }
theorem RO.st8 (h : RO w0 pb id v1 v2 vec tags L E w) : RO w0 pb id v1 v2 vec tags (updL L 8) (updV E 30 v2) w := { h with p8 := fun _ => rfl }
theorem RO.st10 (h : RO w0 pb id v1 v2 vec tags L E w) (hd : L 1 = true ∧ L 5 = true ∧ L 9 = true) : RO w0 pb id v1 v2 vec tags (updL L 10) (updV E 32 (.agg #[E 23, E 27, E 31])) w := { h with p10 := fun _ => rfl, o10 := fun _ => hd }
theorem RO.st11 (h : RO w0 pb id v1 v2 vec tags L E w) : RO w0 pb id v1 v2 vec tags (updL L 11) (updV E 4 (.pointer (some ⟨w.heap.size, 0, none⟩))) (w.alloc (.cells #[.int .u32 0, .slice none 0 0, .slice none 0 0] 37)) :=
  { h.on ((Below.refl _ w).alloc (Nat.le_refl _) _) with box := fun _ => ⟨_, rfl, h.below.size, Blk.new w 37 #[.int .u32 0, .slice none 0 0, .slice none 0 0]⟩ }
theorem RO.st5 (h : RO w0 pb id v1 v2 vec tags L E w) (h5 : L 5 = false) (h2 : L 2 = true) (h10 : L 10 = false) {v' : Value} (hn : w'.ownsRow w0.heap.size 21 1 v' vec.length (vec.map (Value.int .i32))) (hg : w.grownBy w' (E 24).ownBlock) : RO w0 pb id v1 v2 vec tags (updL L 5) (updV E 27 v') w' :=
  have r := h.rowA h2 h5
  have hk : Kept (ownB (E 24)) w w' := (Kept.refl _ _).grown hg (fun k hk => .inl (mem_ownB.2 hk))
  { h with
    below := h.below.grown hg h.below.size (fun k hk => (own_lt r hk).1)
    p10 := fun a => by { rw [show (updL L 5) 10 = L 10 from rfl, h10] at a; cases a }
    o10 := fun a => by { rw [show (updL L 5) 10 = L 10 from rfl, h10] at a; cases a }
    rowA := fun _ e => by cases e
    rowA2 := fun _ => hn
    rowB := fun a b => own_keep (h.rowB a b) hk (fun g hg hh => row_apart8 r (h.rowB a b) (by decide) g (mem_ownB.1 hh) hg)
    rowB2 := fun a => own_keep (h.rowB2 a) hk (fun g hg hh => row_apart8 r (h.rowB2 a) (by decide) g (mem_ownB.1 hh) hg)
    box := fun a => by
      obtain ⟨b, e, h1, h2⟩ := h.box a
      exact ⟨b, e, h1, hk.blk h2 (fun hh => row_blk8 r h2 (by decide) (mem_ownB.1 hh))⟩ }
theorem RO.st9 (h : RO w0 pb id v1 v2 vec tags L E w) (h9 : L 9 = false) (h6 : L 6 = true) (h10 : L 10 = false) {v' : Value} (hn : w'.ownsRow w0.heap.size 9 1 v' tags.length (tags.map Value.string)) (hg : w.grownBy w' (E 28).ownBlock) : RO w0 pb id v1 v2 vec tags (updL L 9) (updV E 31 v') w' :=
  have r := h.rowB h6 h9
  have hk : Kept (ownB (E 28)) w w' := (Kept.refl _ _).grown hg (fun k hk => .inl (mem_ownB.2 hk))
  { h with
    below := h.below.grown hg h.below.size (fun k hk => (own_lt r hk).1)
    p10 := fun a => by { rw [show (updL L 9) 10 = L 10 from rfl, h10] at a; cases a }
    o10 := fun a => by { rw [show (updL L 9) 10 = L 10 from rfl, h10] at a; cases a }
    rowA := fun a b => own_keep (h.rowA a b) hk (fun g hg hh => row_apart8 r (h.rowA a b) (by decide) g (mem_ownB.1 hh) hg)
    rowA2 := fun a => own_keep (h.rowA2 a) hk (fun g hg hh => row_apart8 r (h.rowA2 a) (by decide) g (mem_ownB.1 hh) hg)
    rowB := fun _ e => by cases e
    rowB2 := fun _ => hn
    box := fun a => by
      obtain ⟨b, e, h1, h2⟩ := h.box a
      exact ⟨b, e, h1, hk.blk h2 (fun hh => row_blk8 r h2 (by decide) (mem_ownB.1 hh))⟩ }
end
def LofO (l : Array Bool) : Nat → Bool := fun k => l.getD k false
def EofO (a : Act) : Nat → Value := fun k => a.tmps.getD k undef
/-- The frame beside the slots that the region fills. -/
structure LkO (T0 : Array Value) (l : Array Bool) (a : Act) : Prop where
  lsz : l.size = 13
  tsz : a.tmps.size = 125
  dfs : a.defers = []
  far : ∀ k, k ≠ 4 → ¬ (22 ≤ k ∧ k ≤ 32) → a.tmps[k]? = T0[k]?
theorem LkO.put {T0 : Array Value} {l : Array Bool} {a : Act} (h : LkO T0 l a) {i d : Nat} (v : Value) (hi : i < 13) (hd : d = 4 ∨ (22 ≤ d ∧ d ≤ 32)) :
    LkO T0 (l.setIfInBounds i true) (a.put (some d) v) ∧ LofO (l.setIfInBounds i true) = updL (LofO l) i ∧ EofO (a.put (some d) v) = updV (EofO a) d v := by
  have h1 := h.lsz
  have h2 := h.tsz
  refine ⟨⟨by simp [h1], by simp [Act.put, h2], h.dfs, fun k hk hk' => ?_⟩, funext fun k => ?_, funext fun k => ?_⟩
  · rw [← h.far k hk hk']
    have : d ≠ k := by rintro rfl; rcases hd with h | h; exact hk h; exact hk' h
    simp [Act.put, this]
  · show (l.setIfInBounds i true).getD k false = bif Nat.beq k i then true else l.getD k false
    rw [Array.getD_eq_getD_getElem?, Array.getD_eq_getD_getElem?, Array.getElem?_setIfInBounds]
    by_cases hk : i = k
    · subst hk
      simp [h1, hi]
    · have : Nat.beq k i = false := by
        rw [← Bool.not_eq_true]
        intro e
        exact hk (Nat.eq_of_beq_eq_true e).symm
      simp [hk, this]
  · have hd' : d < 125 := by omega
    show (a.tmps.setIfInBounds d v).getD k undef = bif Nat.beq k d then v else a.tmps.getD k undef
    rw [Array.getD_eq_getD_getElem?, Array.getD_eq_getD_getElem?, Array.getElem?_setIfInBounds]
    by_cases hk : d = k
    · subst hk
      simp [h2, hd']
    · have : Nat.beq k d = false := by
        rw [← Bool.not_eq_true]
        intro e
        exact hk (Nat.eq_of_beq_eq_true e).symm
      simp [hk, this]
/-- What the region leaves. -/
def FinO (w0 : World) (id : Nat) (vec : List Int) (tags : List ByteArray) (E : Nat → Value) (w : World) : Prop :=
  ∃ (bb : Nat) (a1 : Option Addr) (n1 c1 : Nat) (a2 : Option Addr) (n2 c2 : Nat), E 4 = .pointer (some ⟨bb, 0, none⟩) ∧ w0.heap.size ≤ bb ∧ Blk w bb 37 [.int .u32 (id : Int), .slice a1 n1 c1, .slice a2 n2 c2] ∧ w.ownsRow w0.heap.size 21 1 (.slice a1 n1 c1) vec.length (vec.map (Value.int .i32)) ∧ w.ownsRow w0.heap.size 9 1 (.slice a2 n2 c2) tags.length (tags.map Value.string) ∧ Below w0.heap.size w0 w
def MInvO (w0 : World) (pb id : Nat) (v1 v2 : Value) (vec : List Int) (tags : List ByteArray) (T0 : Array Value) (l : Array Bool) (a : Act) (w : World) : Prop :=
  LkO T0 l a ∧ ((LofO l 12 = false ∧ RO w0 pb id v1 v2 vec tags (LofO l) (EofO a) w) ∨ ((∀ k, k < 13 → LofO l k = true) ∧ FinO w0 id vec tags (EofO a) w))
theorem MInvO.next {w0 : World} {pb id : Nat} {v1 v2 : Value} {vec : List Int} {tags : List ByteArray} {T0 : Array Value} {l : Array Bool} {a : Act} {w' : World} {i d : Nat} {v : Value} (hk : LkO T0 l a) (hi : i < 12) (hd : d = 4 ∨ (22 ≤ d ∧ d ≤ 32)) (h12 : LofO l 12 = false)
    (h : RO w0 pb id v1 v2 vec tags (updL (LofO l) i) (updV (EofO a) d v) w') : MInvO w0 pb id v1 v2 vec tags T0 (l.setIfInBounds i true) (a.put (some d) v) w' := by
  obtain ⟨h1, h2, h3⟩ := hk.put (i := i) v (by omega) hd
  refine ⟨h1, .inl ⟨?_, by rw [h2, h3]; exact h⟩⟩
  rw [h2]
  show (bif Nat.beq 12 i then true else LofO l 12) = false
  have : Nat.beq 12 i = false := by
    rw [← Bool.not_eq_true]
    intro e
    have := Nat.eq_of_beq_eq_true e
    omega
  rw [this]
  exact h12
section
variable {o : Oper} {a : Act} {K : Act → World → Prop} {Q : Exit → Act → World → Prop} {w w' : World}
theorem wo_field {x : Operand} {k : Nat} {u v : Value} (ho : o.op = .fieldAddr 37 x k) (hx : a.eval x = u) (hr : (Instr.fieldAt 37 u k).run Try.prog w = .ok v w) (h : K (a.put o.dst v) w) : o.wp Try.prog a w K Q := by
  unfold Oper.wp execOp
  simp only [ho, hx, Sem.run_bind, Sem.run_pure, hr, Result.andThen_ok]
  exact h
theorem wo_load {t : TypeId} {x : Operand} {u v : Value} (ho : o.op = .load t x) (hx : a.eval x = u) (hr : (Instr.loadAt t u).run Try.prog w = .ok v w) (h : K (a.put o.dst v) w) : o.wp Try.prog a w K Q := by
  unfold Oper.wp execOp
  simp only [ho, hx, Sem.run_bind, Sem.run_pure, hr, Result.andThen_ok]
  exact h
theorem wo_bs0 {t : TypeId} {v : Value} (ho : o.op = .buildSlice t 0 #[]) (hr : (Instr.buildSlice t 0 #[]).run Try.prog w = .ok v w') (h : K (a.put o.dst v) w') : o.wp Try.prog a w K Q := by
  unfold Oper.wp execOp
  simp only [ho, List.map_toArray, List.map_nil, Sem.run_bind, Sem.run_pure, hr, Result.andThen_ok]
  exact h
theorem wo_build {x y z : Operand} {ux uy uz v : Value} (ho : o.op = .build 37 #[(0, x), (1, y), (2, z)]) (hx : a.eval x = ux) (hy : a.eval y = uy) (hz : a.eval z = uz) (hr : (Instr.build 37 #[(0, ux), (1, uy), (2, uz)]).run Try.prog w = .ok v w) (h : K (a.put o.dst v) w) : o.wp Try.prog a w K Q := by
  unfold Oper.wp execOp
  simp only [ho, List.map_toArray, List.map_cons, List.map_nil, hx, hy, hz, Sem.run_bind, Sem.run_pure, hr, Result.andThen_ok]
  exact h
theorem wo_alloc {v : Value} (ho : o.op = .alloc 37) (hr : (Instr.alloc 37 true (.tuple #[])).run Try.prog w = .ok v w') (h : K (a.put o.dst v) w') : o.wp Try.prog a w K Q := by
  unfold Oper.wp execOp
  simp only [ho, Sem.run_bind, Sem.run_pure, hr, Result.andThen_ok]
  exact h
theorem wo_store {x y : Operand} {ux uy : Value} (ho : o.op = .store 37 x y) (hx : a.eval x = ux) (hy : a.eval y = uy) (hr : (Instr.storeAt 37 ux uy).run Try.prog w = .ok () w') (h : K (a.put o.dst undef) w') : o.wp Try.prog a w K Q := by
  unfold Oper.wp execOp
  simp only [ho, hx, hy, Sem.run_bind, Sem.run_pure, hr, Result.andThen_ok]
  exact h
end
theorem noO {a b : Bool} (h : a = true → b = true) (hb : b = false) : a = false := by
  cases a
  · rfl
  · rw [h rfl] at hb
    cases hb
end Go.Proofs.Ytkfoakabdhllkaa
