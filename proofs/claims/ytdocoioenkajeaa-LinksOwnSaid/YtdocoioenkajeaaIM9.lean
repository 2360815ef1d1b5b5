/-
  LinksOwn: its region, SameNode, its walk. (I8, I9, I0 merged.)
-/
import Derived.Test.YtdocoioenkajeaaRi
import Derived.Test.YtdocoioenkajeaaIM8
import Derived.Maps.AppendAt
import Derived.Test.YtdocoioenkajeaaSn1
import Derived.StillTailTactics
import Derived.Test.YtdocoioenkajeaaId
namespace Go.Proofs.Ytdocoioenkajeaa
open Go.RowKit Go.ChangeShapes Go.WideShapes Go.ChangeAt

theorem o_field0 (pb : Nat) (w : World) : (Instr.fieldAt 36 (.pointer (some ⟨pb, 0, none⟩)) 0).run Try.prog w = .ok (.pointer (some ⟨pb, 0, none⟩)) w := by go_simp
theorem o_field1 (pb : Nat) (w : World) : (Instr.fieldAt 36 (.pointer (some ⟨pb, 0, none⟩)) 1).run Try.prog w = .ok (.pointer (some ⟨pb, 1, none⟩)) w := by go_simp
theorem o_field2 (pb : Nat) (w : World) : (Instr.fieldAt 36 (.pointer (some ⟨pb, 0, none⟩)) 2).run Try.prog w = .ok (.pointer (some ⟨pb, 2, none⟩)) w := by go_simp
theorem o_load0 (pb id : Nat) (w : World) (h : w.cell? ⟨pb, 0, none⟩ = some (.int .u32 (id : Int))) : (Instr.loadAt 32 (.pointer (some ⟨pb, 0, none⟩))).run Try.prog w = .ok (.int .u32 (id : Int)) w := by go_simp
theorem o_load1 (pb n c : Nat) (a : Option Addr) (w : World) (h : w.cell? ⟨pb, 1, none⟩ = some (.slice a n c)) : (Instr.loadAt 33 (.pointer (some ⟨pb, 1, none⟩))).run Try.prog w = .ok (.slice a n c) w := by go_simp
theorem o_load2 (pb n c : Nat) (a : Option Addr) (w : World) (h : w.cell? ⟨pb, 2, none⟩ = some (.slice a n c)) : (Instr.loadAt 34 (.pointer (some ⟨pb, 2, none⟩))).run Try.prog w = .ok (.slice a n c) w := by go_simp
theorem o_bsI (w : World) : (Instr.buildSlice 33 0 #[]).run Try.prog w = .ok (.slice (some ⟨w.heap.size, 0, none⟩) 0 0) (w.alloc (.cells #[] 21)) := by go_simp
theorem o_bsS (w : World) : (Instr.buildSlice 34 0 #[]).run Try.prog w = .ok (.slice (some ⟨w.heap.size, 0, none⟩) 0 0) (w.alloc (.cells #[] 9)) := by go_simp
theorem o_build (id : Nat) (a1 a2 : Option Addr) (n1 c1 n2 c2 : Nat) (w : World) : (Instr.build 36 #[(0, .int .u32 (id : Int)), (1, .slice a1 n1 c1), (2, .slice a2 n2 c2)]).run Try.prog w = .ok (.agg #[.int .u32 (id : Int), .slice a1 n1 c1, .slice a2 n2 c2]) w := by go_simp
theorem o_alloc (w : World) : (Instr.alloc 36 true (.tuple #[])).run Try.prog w = .ok (.pointer (some ⟨w.heap.size, 0, none⟩)) (w.alloc (.cells #[.int .u32 0, .slice none 0 0, .slice none 0 0] 36)) := by go_simp
theorem o_store (bb id : Nat) (a1 a2 : Option Addr) (n1 c1 n2 c2 : Nat) (w : World) (hb : Blk w bb 36 [.int .u32 0, .slice none 0 0, .slice none 0 0]) :
    (Instr.storeAt 36 (.pointer (some ⟨bb, 0, none⟩)) (.agg #[.int .u32 (id : Int), .slice a1 n1 c1, .slice a2 n2 c2])).run Try.prog w = .ok () (((w.setCell ⟨bb, 0, none⟩ (.int .u32 (id : Int))).setCell ⟨bb, 1, none⟩ (.slice a1 n1 c1)).setCell ⟨bb, 2, none⟩ (.slice a2 n2 c2)) := by
  have f0 := hb.frozen 0
  have f1 := hb.frozen 1
  have f2 := hb.frozen 2
  have c0 := hb.cell 0
  have c1 := hb.cell 1
  have c2 := hb.cell 2
  have l0 := hb.lt
  simp only [List.getElem?_cons_zero, List.getElem?_cons_succ] at c0 c1 c2
  go_simp
theorem own_keep {w w' : World} {F : List Nat} {lo k n : Nat} {t : TypeId} {v : Value} {xs : List Value} (h : w.ownsRow lo t k v n xs) (hk : Kept F w w') (hF : ∀ g, v.ownBlock = some g → g ∉ F) : w'.ownsRow lo t k v n xs := by
  refine ⟨h.1, ?_⟩
  rcases h.2 with h2 | ⟨g, cap, cur, rfl, hb, hh, h3⟩
  · exact .inl h2
  · exact .inr ⟨g, cap, cur, rfl, hb, (hk.block g (Array.getElem?_eq_some_iff.1 hh).1 (hF g rfl)).trans hh, h3⟩
theorem own_lt {w : World} {lo k n g : Nat} {t : TypeId} {v : Value} {xs : List Value} (h : w.ownsRow lo t k v n xs) (hg : v.ownBlock = some g) : lo ≤ g ∧ g < w.heap.size := by
  rcases h.2 with ⟨rfl, _⟩ | ⟨g', cap, cur, rfl, hb, hh, h3⟩
  · cases hg
  · cases hg
    exact ⟨hb, (Array.getElem?_eq_some_iff.1 hh).1⟩
theorem own_made {w : World} {lo : Nat} (t : TypeId) (hlo : lo ≤ w.heap.size) : (w.alloc (.cells #[] t)).ownsRow lo t 1 (.slice (some ⟨w.heap.size, 0, none⟩) 0 0) 0 [] :=
  ⟨rfl, .inr ⟨w.heap.size, 0, #[], rfl, hlo, Blk.new w t #[], Nat.le_refl _, by decide, rfl, rfl⟩⟩
/-- append of what reads as cs to an empty row, as one operation of a region. -/
theorem wp_app8 {P : Program} {o : Oper} {act : Act} {K : Act → World → Prop} {Q : Exit → Act → World → Prop} (w : World) (s x : Operand) (st e : TypeId) (ho : o.op = .call { callee := .builtin .append, args := #[s, x], argTypes := #[st, st] }) (hu : P.underlying st = some (.slice e)) (z : Value) (sz : Nat) (hi : (P.info? e).map (fun i => (i.zero, i.size, i.bytes)) = some (some z, 1, sz)) (hz : z.cells.size = 1)
    (B : Nat) (v : Value) (hs : act.eval s = v) (hown : w.ownsRow B e 1 v 0 []) (a : Option Addr) (n c : Nat) (cs : List Value) (hx : act.eval x = .slice a n c) (hl : cs.length = n) (hnil : a = none → n = 0 ∧ c = 0) (hc : n = 0 ∨ ∃ b off, a = some ⟨b, off, none⟩ ∧ ∀ i, i < n → w.cell? ⟨b, off + i, none⟩ = cs[i]?) (h1 : ∀ u ∈ cs, u.oneCell' = true) (hb : n * sz ≤ 140737488355328) (hm : n ≤ 140737488355328) (hbase : B ≤ w.heap.size)
    (hK : ∀ v' w', w'.ownsRow B e 1 v' n cs → w.grownBy w' v.ownBlock → K (act.put o.dst v') w') : o.wp P act w K Q := by
  obtain ⟨i0, hi, hz0, hz1, hz2⟩ := info_parts hi
  cases a with
  | none =>
    obtain ⟨rfl, rfl⟩ := hnil rfl
    obtain rfl : cs = [] := List.eq_nil_of_length_eq_zero hl
    have hrun := run_append_owned_none (P := P) (w := w) B st o.type e i0 1 hu hi v 0 _ hown
    unfold Oper.wp execOp
    simp only [ho, resolve, invoke, builtin, Sem.run_bind, Sem.run_pure, Result.andThen_ok, List.map_toArray, List.map_cons, List.map_nil, hs, hx, hrun]
    exact hK v w hown (World.grownBy.refl _ _)
  | some ad =>
    have hnews : ∀ j u, cs[j]? = some u → w.cell? (ad.add j) = some u := by
      intro j u hj
      have hjl := (List.getElem?_eq_some_iff.1 hj).1
      rcases hc with h0 | ⟨b, off, e, hc⟩
      · omega
      · obtain rfl := Option.some.inj e
        rw [add_plain, hc j (by omega), ← hj]
    obtain ⟨v', w', hr, h2, h3, _, _⟩ := run_append_own_at (P := P) w B st o.type e i0 z 1 sz hu hi hz0 hz1 hz2 hz (by decide) v 0 [] hown ad n c cs (by simp [hl]) hnews h1 (by unfold maxLen; omega) (by rw [Nat.zero_add]; exact hb) hbase
    unfold Oper.wp execOp
    simp only [ho, resolve, invoke, builtin, Sem.run_bind, Sem.run_pure, Result.andThen_ok, List.map_toArray, List.map_cons, List.map_nil, hs, hx, hr]
    exact hK v' w' (by simpa using h2) h3

def updL (L : Nat → Bool) (i : Nat) : Nat → Bool := fun k => bif Nat.beq k i then true else L k
def updV (E : Nat → Value) (d : Nat) (v : Value) : Nat → Value := fun k => bif Nat.beq k d then v else E k
def BoxI (w : World) (B : Nat) (v : Value) : Prop := ∃ b, v = .pointer (some ⟨b, 0, none⟩) ∧ B ≤ b ∧ Blk w b 36 [.int .u32 0, .slice none 0 0, .slice none 0 0]
/-- What holds whatever has come up. -/
structure RO (w0 : World) (pb id : Nat) (v1 v2 : Value) (vec : List Int) (tags : List ByteArray) (L : Nat → Bool) (E : Nat → Value) (w : World) : Prop where
  below : Below w0.heap.size w0 w
  p0 : L 0 = true → E 23 = .pointer (some ⟨pb, 0, none⟩)
  p1 : L 1 = true → E 24 = .int .u32 (id : Int)
  p3 : L 3 = true → E 26 = .pointer (some ⟨pb, 1, none⟩)
  p4 : L 4 = true → E 27 = v1
  p7 : L 7 = true → E 30 = .pointer (some ⟨pb, 2, none⟩)
  p8 : L 8 = true → E 31 = v2
  p10 : L 10 = true → E 33 = .agg #[E 24, E 28, E 32]
  rowA : L 2 = true → L 5 = false → w.ownsRow w0.heap.size 21 1 (E 25) 0 []
  rowA2 : L 5 = true → w.ownsRow w0.heap.size 21 1 (E 28) vec.length (vec.map (Value.int .i32))
  rowB : L 6 = true → L 9 = false → w.ownsRow w0.heap.size 9 1 (E 29) 0 []
  rowB2 : L 9 = true → w.ownsRow w0.heap.size 9 1 (E 32) tags.length (tags.map Value.string)
  box : L 11 = true → BoxI w w0.heap.size (E 6)
  o10 : L 10 = true → L 1 = true ∧ L 5 = true ∧ L 9 = true
section
variable {w0 : World} {pb id : Nat} {v1 v2 : Value} {vec : List Int} {tags : List ByteArray} {L : Nat → Bool} {E : Nat → Value} {w w' : World}
theorem RO.on (h : RO w0 pb id v1 v2 vec tags L E w) (hb : Below w.heap.size w w') : RO w0 pb id v1 v2 vec tags L E w' :=
  have k : Kept [] w w' := Kept.of_below hb (Nat.le_refl _)
  { h with
    below := h.below.trans (hb.mono h.below.size)
    rowA := fun a b => own_keep (h.rowA a b) k (by simp)
    rowA2 := fun a => own_keep (h.rowA2 a) k (by simp)
    rowB := fun a b => own_keep (h.rowB a b) k (by simp)
    rowB2 := fun a => own_keep (h.rowB2 a) k (by simp)
    box := fun a => by
      obtain ⟨b, e, h1, h2⟩ := h.box a
      exact ⟨b, e, h1, h2.of_eq (hb.block b h2.lt)⟩ }
theorem RO.st0 (h : RO w0 pb id v1 v2 vec tags L E w) : RO w0 pb id v1 v2 vec tags (updL L 0) (updV E 23 (.pointer (some ⟨pb, 0, none⟩))) w := { h with p0 := fun _ => rfl }
theorem RO.st1 (h : RO w0 pb id v1 v2 vec tags L E w) (h10 : L 10 = false) : RO w0 pb id v1 v2 vec tags (updL L 1) (updV E 24 (.int .u32 (id : Int))) w := { h with p1 := fun _ => rfl, p10 := fun a => by { rw [show (updL L 1) 10 = L 10 from rfl, h10] at a; cases a }, o10 := fun a => by { rw [show (updL L 1) 10 = L 10 from rfl, h10] at a; cases a } }
theorem RO.st2 (h : RO w0 pb id v1 v2 vec tags L E w) : RO w0 pb id v1 v2 vec tags (updL L 2) (updV E 25 (.slice (some ⟨w.heap.size, 0, none⟩) 0 0)) (w.alloc (.cells #[] 21)) :=
  { h.on ((Below.refl _ w).alloc (Nat.le_refl _) _) with rowA := fun _ _ => own_made _ h.below.size }
theorem RO.st3 (h : RO w0 pb id v1 v2 vec tags L E w) : RO w0 pb id v1 v2 vec tags (updL L 3) (updV E 26 (.pointer (some ⟨pb, 1, none⟩))) w := { h with p3 := fun _ => rfl }
theorem RO.st4 (h : RO w0 pb id v1 v2 vec tags L E w) : RO w0 pb id v1 v2 vec tags (updL L 4) (updV E 27 v1) w := { h with p4 := fun _ => rfl }
theorem RO.st6 (h : RO w0 pb id v1 v2 vec tags L E w) : RO w0 pb id v1 v2 vec tags (updL L 6) (updV E 29 (.slice (some ⟨w.heap.size, 0, none⟩) 0 0)) (w.alloc (.cells #[] 9)) :=
  { h.on ((Below.refl _ w).alloc (Nat.le_refl _) _) with rowB := fun _ _ => own_made _ h.below.size }
theorem RO.st7 (h : RO w0 pb id v1 v2 vec tags L E w) : RO w0 pb id v1 v2 vec tags (updL L 7) (updV E 30 (.pointer (some ⟨pb, 2, none⟩))) w := { h with p7 := fun _ => rfl }
theorem RO.st8 (h : RO w0 pb id v1 v2 vec tags L E w) : RO w0 pb id v1 v2 vec tags (updL L 8) (updV E 31 v2) w := { h with p8 := fun _ => rfl }
theorem RO.st10 (h : RO w0 pb id v1 v2 vec tags L E w) (hd : L 1 = true ∧ L 5 = true ∧ L 9 = true) : RO w0 pb id v1 v2 vec tags (updL L 10) (updV E 33 (.agg #[E 24, E 28, E 32])) w := { h with p10 := fun _ => rfl, o10 := fun _ => hd }
theorem RO.st11 (h : RO w0 pb id v1 v2 vec tags L E w) : RO w0 pb id v1 v2 vec tags (updL L 11) (updV E 6 (.pointer (some ⟨w.heap.size, 0, none⟩))) (w.alloc (.cells #[.int .u32 0, .slice none 0 0, .slice none 0 0] 36)) :=
  { h.on ((Below.refl _ w).alloc (Nat.le_refl _) _) with box := fun _ => ⟨_, rfl, h.below.size, Blk.new w 36 #[.int .u32 0, .slice none 0 0, .slice none 0 0]⟩ }
theorem RO.st5 (h : RO w0 pb id v1 v2 vec tags L E w) (h5 : L 5 = false) (h2 : L 2 = true) (h10 : L 10 = false) {v' : Value} (hn : w'.ownsRow w0.heap.size 21 1 v' vec.length (vec.map (Value.int .i32))) (hg : w.grownBy w' (E 25).ownBlock) : RO w0 pb id v1 v2 vec tags (updL L 5) (updV E 28 v') w' :=
  have r := h.rowA h2 h5
  have hk : Kept (ownB (E 25)) w w' := (Kept.refl _ _).grown hg (fun k hk => .inl (mem_ownB.2 hk))
  { h with
    below := h.below.grown hg h.below.size (fun k hk => (own_lt r hk).1)
    p10 := fun a => by { rw [show (updL L 5) 10 = L 10 from rfl, h10] at a; cases a }
    o10 := fun a => by { rw [show (updL L 5) 10 = L 10 from rfl, h10] at a; cases a }
    rowA := fun _ e => by cases e
    rowA2 := fun _ => hn
    rowB := fun a b => own_keep (h.rowB a b) hk (fun g hg hh => row_apart8 r (h.rowB a b) (by decide) g (mem_ownB.1 hh) hg)
    rowB2 := fun a => own_keep (h.rowB2 a) hk (fun g hg hh => row_apart8 r (h.rowB2 a) (by decide) g (mem_ownB.1 hh) hg)
    box := fun a => by
      obtain ⟨b, e, h1, h2⟩ := h.box a
      exact ⟨b, e, h1, hk.blk h2 (fun hh => row_blk8 r h2 (by decide) (mem_ownB.1 hh))⟩ }
theorem RO.st9 (h : RO w0 pb id v1 v2 vec tags L E w) (h9 : L 9 = false) (h6 : L 6 = true) (h10 : L 10 = false) {v' : Value} (hn : w'.ownsRow w0.heap.size 9 1 v' tags.length (tags.map Value.string)) (hg : w.grownBy w' (E 29).ownBlock) : RO w0 pb id v1 v2 vec tags (updL L 9) (updV E 32 v') w' :=
  have r := h.rowB h6 h9
  have hk : Kept (ownB (E 29)) w w' := (Kept.refl _ _).grown hg (fun k hk => .inl (mem_ownB.2 hk))
  { h with
    below := h.below.grown hg h.below.size (fun k hk => (own_lt r hk).1)
    p10 := fun a => by { rw [show (updL L 9) 10 = L 10 from rfl, h10] at a; cases a }
    o10 := fun a => by { rw [show (updL L 9) 10 = L 10 from rfl, h10] at a; cases a }
    rowA := fun a b => own_keep (h.rowA a b) hk (fun g hg hh => row_apart8 r (h.rowA a b) (by decide) g (mem_ownB.1 hh) hg)
    rowA2 := fun a => own_keep (h.rowA2 a) hk (fun g hg hh => row_apart8 r (h.rowA2 a) (by decide) g (mem_ownB.1 hh) hg)
    rowB := fun _ e => by cases e
    rowB2 := fun _ => hn
    box := fun a => by
      obtain ⟨b, e, h1, h2⟩ := h.box a
      exact ⟨b, e, h1, hk.blk h2 (fun hh => row_blk8 r h2 (by decide) (mem_ownB.1 hh))⟩ }
end
def LofO (l : Array Bool) : Nat → Bool := fun k => l.getD k false
def EofO (a : Act) : Nat → Value := fun k => a.tmps.getD k undef
/-- The frame beside the slots that the region fills. -/
structure LkO (T0 : Array Value) (l : Array Bool) (a : Act) : Prop where
  lsz : l.size = 13
  tsz : a.tmps.size = 133
  dfs : a.defers = []
  far : ∀ k, k ≠ 6 → ¬ (23 ≤ k ∧ k ≤ 33) → a.tmps[k]? = T0[k]?
theorem LkO.put {T0 : Array Value} {l : Array Bool} {a : Act} (h : LkO T0 l a) {i d : Nat} (v : Value) (hi : i < 13) (hd : d = 6 ∨ (23 ≤ d ∧ d ≤ 33)) :
    LkO T0 (l.setIfInBounds i true) (a.put (some d) v) ∧ LofO (l.setIfInBounds i true) = updL (LofO l) i ∧ EofO (a.put (some d) v) = updV (EofO a) d v := by
  have h1 := h.lsz
  have h2 := h.tsz
  refine ⟨⟨by simp [h1], by simp [Act.put, h2], h.dfs, fun k hk hk' => ?_⟩, funext fun k => ?_, funext fun k => ?_⟩
  · rw [← h.far k hk hk']
    have : d ≠ k := by rintro rfl; rcases hd with h | h; exact hk h; exact hk' h
    simp [Act.put, this]
  · show (l.setIfInBounds i true).getD k false = bif Nat.beq k i then true else l.getD k false
    rw [Array.getD_eq_getD_getElem?, Array.getD_eq_getD_getElem?, Array.getElem?_setIfInBounds]
    by_cases hk : i = k
    · subst hk
      simp [h1, hi]
    · have : Nat.beq k i = false := by
        rw [← Bool.not_eq_true]
        intro e
        exact hk (Nat.eq_of_beq_eq_true e).symm
      simp [hk, this]
  · have hd' : d < 133 := by omega
    show (a.tmps.setIfInBounds d v).getD k undef = bif Nat.beq k d then v else a.tmps.getD k undef
    rw [Array.getD_eq_getD_getElem?, Array.getD_eq_getD_getElem?, Array.getElem?_setIfInBounds]
    by_cases hk : d = k
    · subst hk
      simp [h2, hd']
    · have : Nat.beq k d = false := by
        rw [← Bool.not_eq_true]
        intro e
        exact hk (Nat.eq_of_beq_eq_true e).symm
      simp [hk, this]
/-- What the region leaves. -/
def FinO (w0 : World) (id : Nat) (vec : List Int) (tags : List ByteArray) (E : Nat → Value) (w : World) : Prop :=
  ∃ (bb : Nat) (a1 : Option Addr) (n1 c1 : Nat) (a2 : Option Addr) (n2 c2 : Nat), E 6 = .pointer (some ⟨bb, 0, none⟩) ∧ w0.heap.size ≤ bb ∧ Blk w bb 36 [.int .u32 (id : Int), .slice a1 n1 c1, .slice a2 n2 c2] ∧ w.ownsRow w0.heap.size 21 1 (.slice a1 n1 c1) vec.length (vec.map (Value.int .i32)) ∧ w.ownsRow w0.heap.size 9 1 (.slice a2 n2 c2) tags.length (tags.map Value.string) ∧ Below w0.heap.size w0 w
def MInvO (w0 : World) (pb id : Nat) (v1 v2 : Value) (vec : List Int) (tags : List ByteArray) (T0 : Array Value) (l : Array Bool) (a : Act) (w : World) : Prop :=
  LkO T0 l a ∧ ((LofO l 12 = false ∧ RO w0 pb id v1 v2 vec tags (LofO l) (EofO a) w) ∨ ((∀ k, k < 13 → LofO l k = true) ∧ FinO w0 id vec tags (EofO a) w))
theorem MInvO.next {w0 : World} {pb id : Nat} {v1 v2 : Value} {vec : List Int} {tags : List ByteArray} {T0 : Array Value} {l : Array Bool} {a : Act} {w' : World} {i d : Nat} {v : Value} (hk : LkO T0 l a) (hi : i < 12) (hd : d = 6 ∨ (23 ≤ d ∧ d ≤ 33)) (h12 : LofO l 12 = false)
    (h : RO w0 pb id v1 v2 vec tags (updL (LofO l) i) (updV (EofO a) d v) w') : MInvO w0 pb id v1 v2 vec tags T0 (l.setIfInBounds i true) (a.put (some d) v) w' := by
  obtain ⟨h1, h2, h3⟩ := hk.put (i := i) v (by omega) hd
  refine ⟨h1, .inl ⟨?_, by rw [h2, h3]; exact h⟩⟩
  rw [h2]
  show (bif Nat.beq 12 i then true else LofO l 12) = false
  have : Nat.beq 12 i = false := by
    rw [← Bool.not_eq_true]
    intro e
    have := Nat.eq_of_beq_eq_true e
    omega
  rw [this]
  exact h12
section
variable {o : Oper} {a : Act} {K : Act → World → Prop} {Q : Exit → Act → World → Prop} {w w' : World}
theorem wo_field {x : Operand} {k : Nat} {u v : Value} (ho : o.op = .fieldAddr 36 x k) (hx : a.eval x = u) (hr : (Instr.fieldAt 36 u k).run Try.prog w = .ok v w) (h : K (a.put o.dst v) w) : o.wp Try.prog a w K Q := by
  unfold Oper.wp execOp
  simp only [ho, hx, Sem.run_bind, Sem.run_pure, hr, Result.andThen_ok]
  exact h
theorem wo_load {t : TypeId} {x : Operand} {u v : Value} (ho : o.op = .load t x) (hx : a.eval x = u) (hr : (Instr.loadAt t u).run Try.prog w = .ok v w) (h : K (a.put o.dst v) w) : o.wp Try.prog a w K Q := by
  unfold Oper.wp execOp
  simp only [ho, hx, Sem.run_bind, Sem.run_pure, hr, Result.andThen_ok]
  exact h
theorem wo_bs0 {t : TypeId} {v : Value} (ho : o.op = .buildSlice t 0 #[]) (hr : (Instr.buildSlice t 0 #[]).run Try.prog w = .ok v w') (h : K (a.put o.dst v) w') : o.wp Try.prog a w K Q := by
  unfold Oper.wp execOp
  simp only [ho, List.map_toArray, List.map_nil, Sem.run_bind, Sem.run_pure, hr, Result.andThen_ok]
  exact h
theorem wo_build {x y z : Operand} {ux uy uz v : Value} (ho : o.op = .build 36 #[(0, x), (1, y), (2, z)]) (hx : a.eval x = ux) (hy : a.eval y = uy) (hz : a.eval z = uz) (hr : (Instr.build 36 #[(0, ux), (1, uy), (2, uz)]).run Try.prog w = .ok v w) (h : K (a.put o.dst v) w) : o.wp Try.prog a w K Q := by
  unfold Oper.wp execOp
  simp only [ho, List.map_toArray, List.map_cons, List.map_nil, hx, hy, hz, Sem.run_bind, Sem.run_pure, hr, Result.andThen_ok]
  exact h
theorem wo_alloc {v : Value} (ho : o.op = .alloc 36) (hr : (Instr.alloc 36 true (.tuple #[])).run Try.prog w = .ok v w') (h : K (a.put o.dst v) w') : o.wp Try.prog a w K Q := by
  unfold Oper.wp execOp
  simp only [ho, Sem.run_bind, Sem.run_pure, hr, Result.andThen_ok]
  exact h
theorem wo_store {x y : Operand} {ux uy : Value} (ho : o.op = .store 36 x y) (hx : a.eval x = ux) (hy : a.eval y = uy) (hr : (Instr.storeAt 36 ux uy).run Try.prog w = .ok () w') (h : K (a.put o.dst undef) w') : o.wp Try.prog a w K Q := by
  unfold Oper.wp execOp
  simp only [ho, hx, hy, Sem.run_bind, Sem.run_pure, hr, Result.andThen_ok]
  exact h
end
theorem noO {a b : Bool} (h : a = true → b = true) (hb : b = false) : a = false := by
  cases a
  · rfl
  · rw [h rfl] at hb
    cases hb
def filledO (T0 : Array Value) (E : Nat → Value) : Array Value := (((((((((((((T0)).setIfInBounds 6 (E 6)).setIfInBounds 23 (E 23)).setIfInBounds 24 (E 24)).setIfInBounds 25 (E 25)).setIfInBounds 26 (E 26)).setIfInBounds 27 (E 27)).setIfInBounds 28 (E 28)).setIfInBounds 29 (E 29)).setIfInBounds 30 (E 30)).setIfInBounds 31 (E 31)).setIfInBounds 32 (E 32)).setIfInBounds 33 (E 33)
theorem filledO_eq {T0 : Array Value} {l : Array Bool} {a : Act} (hk : LkO T0 l a) (hT : T0.size = 133) : a.tmps = filledO T0 (EofO a) := by
  have h2 := hk.tsz
  have he : ∀ k, k < 133 → a.tmps[k]? = some (EofO a k) := fun k hlt => by
    unfold EofO
    rw [Array.getD_eq_getD_getElem?, Array.getElem?_eq_getElem (by omega)]
    rfl
  apply Array.ext_getElem?
  intro k
  unfold filledO
  simp only [Array.getElem?_setIfInBounds, Array.size_setIfInBounds, hT]
  by_cases h9 : k = 6 ∨ (23 ≤ k ∧ k ≤ 33)
  · have hlt : k < 133 := by omega
    have hcase : k = 6 ∨ k = 23 ∨ k = 24 ∨ k = 25 ∨ k = 26 ∨ k = 27 ∨ k = 28 ∨ k = 29 ∨ k = 30 ∨ k = 31 ∨ k = 32 ∨ k = 33 := by omega
    rw [he k hlt]
    rcases hcase with rfl | rfl | rfl | rfl | rfl | rfl | rfl | rfl | rfl | rfl | rfl | rfl <;> simp
  · rw [hk.far k (fun e => h9 (.inl e)) (fun e => h9 (.inr e))]
    have hns : 6 ≠ k ∧ 23 ≠ k ∧ 24 ≠ k ∧ 25 ≠ k ∧ 26 ≠ k ∧ 27 ≠ k ∧ 28 ≠ k ∧ 29 ≠ k ∧ 30 ≠ k ∧ 31 ≠ k ∧ 32 ≠ k ∧ 33 ≠ k := by omega
    simp [hns]
theorem OpIs.useO {ops : Array Oper} {i : Nat} {op : Op} {dst : Option Tmp} {deps : List Nat} (h : OpIs ops i op dst deps) {o : Oper} (ho : ops[i]? = some o) {l : Array Bool}
    (hd : ∀ e ∈ o.after, Region.binds .any e = true → l.getD e.on false = true) : o.op = op ∧ o.dst = dst ∧ o.guard = none ∧ ∀ d ∈ deps, LofO l d = true := by
  obtain ⟨o', ho', h1, h2, h3, h4⟩ := h
  rw [ho] at ho'
  injection ho' with e
  subst e
  refine ⟨h1, h2, h3, fun d hdd => ?_⟩
  obtain ⟨e, he, hb⟩ := Array.any_eq_true'.1 (List.all_eq_true.1 h4 d hdd)
  rw [Bool.and_eq_true] at hb
  have e1 : e.on = d := Nat.eq_of_beq_eq_true hb.2
  rw [← e1]
  exact hd e he hb.1
theorem stepO {ops : Array Oper} {o : Oper} {a : Act} {w : World} {K : Act → World → Prop} {Q : Exit → Act → World → Prop} (hg : o.guard = none) (h : o.wp Try.prog a w K Q) :
    if Region.wanted o (yielded ops a.tmps) = true then o.wp Try.prog a w K Q else K (a.put o.dst undef) w := by
  rw [if_pos (by simp [Region.wanted, hg])]
  exact h
theorem RO.init {w0 : World} {pb id : Nat} {v1 v2 : Value} {vec : List Int} {tags : List ByteArray} {L : Nat → Bool} {E : Nat → Value} {w : World} (hL : ∀ k, L k = false) (hb : Below w0.heap.size w0 w) : RO w0 pb id v1 v2 vec tags L E w := by
  have no : ∀ k, L k = true → False := fun k h => by rw [hL k] at h; cases h
  exact ⟨hb, fun h => (no _ h).elim, fun h => (no _ h).elim, fun h => (no _ h).elim, fun h => (no _ h).elim, fun h => (no _ h).elim, fun h => (no _ h).elim, fun h => (no _ h).elim, fun h => (no _ h).elim, fun h => (no _ h).elim, fun h => (no _ h).elim, fun h => (no _ h).elim, fun h => (no _ h).elim, fun h => (no _ h).elim⟩
theorem LkO.eval {T0 : Array Value} {l : Array Bool} {a : Act} (h : LkO T0 l a) {k : Nat} {v : Value} (h9 : k ≠ 6) (h4 : ¬ (23 ≤ k ∧ k ≤ 33)) (hT : T0[k]? = some v) : a.eval (.tmp k) = v := by
  show a.tmps.getD k undef = v
  rw [Array.getD_eq_getD_getElem?, h.far k h9 h4, hT]
  rfl
theorem own_form {w : World} {lo n : Nat} {t : TypeId} {v : Value} {xs : List Value} (h : w.ownsRow lo t 1 v n xs) : ∃ a c, v = .slice a n c := by
  rcases h.2 with ⟨rfl, rfl⟩ | ⟨g, cap, cur, rfl, _⟩
  · exact ⟨none, 0, rfl⟩
  · exact ⟨_, cap, rfl⟩
/-- What reads in a world as a list of such cells. -/
def ReadsO (w : World) (a : Option Addr) (n c : Nat) (cs : List Value) : Prop := cs.length = n ∧ (a = none → n = 0 ∧ c = 0) ∧ (n = 0 ∨ ∃ b off, a = some ⟨b, off, none⟩ ∧ b < w.heap.size ∧ ∀ i, i < n → w.cell? ⟨b, off + i, none⟩ = cs[i]?)
theorem ReadsO.on {w w' : World} {a : Option Addr} {n c : Nat} {cs : List Value} (h : ReadsO w a n c cs) (hb : Below w.heap.size w w') : cs.length = n ∧ (a = none → n = 0 ∧ c = 0) ∧ (n = 0 ∨ ∃ b off, a = some ⟨b, off, none⟩ ∧ ∀ i, i < n → w'.cell? ⟨b, off + i, none⟩ = cs[i]?) := by
  obtain ⟨h1, h2, h3⟩ := h
  refine ⟨h1, h2, ?_⟩
  rcases h3 with h3 | ⟨b, off, e, hlt, h3⟩
  · exact .inl h3
  · exact .inr ⟨b, off, e, fun i hi => (hb.cell (p := ⟨b, _, none⟩) hlt).trans (h3 i hi)⟩

set_option maxHeartbeats 3200000 in
theorem own_region {rid : Nat} {ops : Array Oper} {Q : Exit → Act → World → Prop} {T0 : Array Value} (w0 : World) (pb id : Nat) (a1 a2 : Option Addr) (n1 c1 n2 c2 : Nat) (vec : List Int) (tags : List ByteArray)
    (hsize : ops.size = 13) (hb : edgesB ops = true)
    (op0 : OpIs ops 0 (.fieldAddr 36 (.tmp 2) 0) (some 23) [])
    (op1 : OpIs ops 1 (.load 32 (.tmp 23)) (some 24) [0])
    (op2 : OpIs ops 2 (.buildSlice 33 0 #[]) (some 25) [])
    (op3 : OpIs ops 3 (.fieldAddr 36 (.tmp 2) 1) (some 26) [])
    (op4 : OpIs ops 4 (.load 33 (.tmp 26)) (some 27) [3])
    (op5 : OpIs ops 5 (.call { callee := .builtin .append, args := #[.tmp 25, .tmp 27], argTypes := #[33, 33] }) (some 28) [2, 4])
    (op6 : OpIs ops 6 (.buildSlice 34 0 #[]) (some 29) [])
    (op7 : OpIs ops 7 (.fieldAddr 36 (.tmp 2) 2) (some 30) [])
    (op8 : OpIs ops 8 (.load 34 (.tmp 30)) (some 31) [7])
    (op9 : OpIs ops 9 (.call { callee := .builtin .append, args := #[.tmp 29, .tmp 31], argTypes := #[34, 34] }) (some 32) [6, 8])
    (op10 : OpIs ops 10 (.build 36 #[(0, .tmp 24), (1, .tmp 28), (2, .tmp 32)]) (some 33) [1, 5, 9])
    (op11 : OpIs ops 11 (.alloc 36) (some 6) [])
    (op12 : OpIs ops 12 (.store 36 (.tmp 6) (.tmp 33)) (none) [0, 1, 2, 3, 4, 5, 6, 7, 8, 9, 10, 11])
    (hT : T0.size = 133) (t1 : T0[2]? = some (.pointer (some ⟨pb, 0, none⟩)))
    (k0 : w0.cell? ⟨pb, 0, none⟩ = some (.int .u32 (id : Int))) (k1 : w0.cell? ⟨pb, 1, none⟩ = some (.slice a1 n1 c1)) (k2 : w0.cell? ⟨pb, 2, none⟩ = some (.slice a2 n2 c2)) (lt : pb < w0.heap.size)
    (r1 : ReadsO w0 a1 n1 c1 (vec.map (Value.int .i32))) (r2 : ReadsO w0 a2 n2 c2 (tags.map Value.string)) (hn1 : n1 * 4 ≤ 140737488351232) (hn2 : n2 * 16 ≤ 140737488351232)
    (hQ : ∀ E w', FinO w0 id vec tags E w' → Q .normal ⟨filledO T0 E, []⟩ w') :
    (Code.region rid ops true).wp Try.prog Q ⟨T0, []⟩ w0 := by
  refine wp_region_any (by kernel_rfl) ?_
  refine wpAny_inv (MInvO w0 pb id (.slice a1 n1 c1) (.slice a2 n2 c2) vec tags T0) (fun l a w h => by rw [h.1.lsz, hsize]) (edges_of hb) ?_ ?_ ops.size _ _ _ ?_ ?_
  · intro l a w i o hI ho hl hd K hK
    have hi : i < 13 := by
      have := (Array.getElem?_eq_some_iff.1 ho).1
      omega
    have hk := hI.1
    have hLi : LofO l i = false := by
      have hs := hk.lsz
      unfold LofO
      rw [Array.getD_eq_getD_getElem?, Array.getElem?_eq_getElem (by omega)] at hl ⊢
      exact hl
    have hL' : LofO l 12 = false ∧ RO w0 pb id (.slice a1 n1 c1) (.slice a2 n2 c2) vec tags (LofO l) (EofO a) w := by
      rcases hI.2 with h | ⟨hall, _⟩
      · exact h
      · rw [hall i hi] at hLi
        cases hLi
    obtain ⟨h12, h⟩ := hL'
    have e1 : a.eval (.tmp 2) = .pointer (some ⟨pb, 0, none⟩) := hk.eval (by omega) (by omega) t1
    have q0 := (h.below.cell (p := ⟨pb, 0, none⟩) lt).trans k0
    have q1 := (h.below.cell (p := ⟨pb, 1, none⟩) lt).trans k1
    have q2 := (h.below.cell (p := ⟨pb, 2, none⟩) lt).trans k2
    have hw0 := h.below.size
    have hcase : i = 0 ∨ i = 1 ∨ i = 2 ∨ i = 3 ∨ i = 4 ∨ i = 5 ∨ i = 6 ∨ i = 7 ∨ i = 8 ∨ i = 9 ∨ i = 10 ∨ i = 11 ∨ i = 12 := by omega
    rcases hcase with rfl | rfl | rfl | rfl | rfl | rfl | rfl | rfl | rfl | rfl | rfl | rfl | rfl
    · obtain ⟨hop, hdst, hgd, hL⟩ := op0.useO ho hd
      refine stepO hgd (wo_field hop e1 (o_field0 pb w) ?_)
      rw [hdst]
      exact hK _ _ (MInvO.next hk (by omega) (by omega) h12 h.st0)
    · obtain ⟨hop, hdst, hgd, hL⟩ := op1.useO ho hd
      refine stepO hgd (wo_load hop (h.p0 (hL 0 (by simp))) (o_load0 pb id w q0) ?_)
      rw [hdst]
      exact hK _ _ (MInvO.next hk (by omega) (by omega) h12 (h.st1 (noO (fun a => (h.o10 a).1) hLi)))
    · obtain ⟨hop, hdst, hgd, hL⟩ := op2.useO ho hd
      refine stepO hgd (wo_bs0 hop (o_bsI w) ?_)
      rw [hdst]
      exact hK _ _ (MInvO.next hk (by omega) (by omega) h12 h.st2)
    · obtain ⟨hop, hdst, hgd, hL⟩ := op3.useO ho hd
      refine stepO hgd (wo_field hop e1 (o_field1 pb w) ?_)
      rw [hdst]
      exact hK _ _ (MInvO.next hk (by omega) (by omega) h12 h.st3)
    · obtain ⟨hop, hdst, hgd, hL⟩ := op4.useO ho hd
      refine stepO hgd (wo_load hop (h.p3 (hL 3 (by simp))) (o_load1 pb n1 c1 a1 w q1) ?_)
      rw [hdst]
      exact hK _ _ (MInvO.next hk (by omega) (by omega) h12 h.st4)
    · obtain ⟨hop, hdst, hgd, hL⟩ := op5.useO ho hd
      obtain ⟨f1, f2, f3⟩ := r1.on h.below
      refine stepO hgd (wp_app8 w (.tmp 25) (.tmp 27) 33 21 hop Try.underlying33 (.int .i32 0) 4 i32_info8 rfl w0.heap.size (EofO a 25) rfl (h.rowA (hL 2 (by simp)) hLi) a1 n1 c1 (vec.map (Value.int .i32)) (h.p4 (hL 4 (by simp))) f1 f2 f3 (by simp [Value.oneCell']) (by omega) (by omega) hw0 ?_)
      intro v' w' g1 g2
      rw [hdst]
      rw [List.length_map] at f1
      rw [← f1] at g1
      exact hK _ _ (MInvO.next hk (by omega) (by omega) h12 (h.st5 hLi (hL 2 (by simp)) (noO (fun a => (h.o10 a).2.1) hLi) g1 g2))
    · obtain ⟨hop, hdst, hgd, hL⟩ := op6.useO ho hd
      refine stepO hgd (wo_bs0 hop (o_bsS w) ?_)
      rw [hdst]
      exact hK _ _ (MInvO.next hk (by omega) (by omega) h12 h.st6)
    · obtain ⟨hop, hdst, hgd, hL⟩ := op7.useO ho hd
      refine stepO hgd (wo_field hop e1 (o_field2 pb w) ?_)
      rw [hdst]
      exact hK _ _ (MInvO.next hk (by omega) (by omega) h12 h.st7)
    · obtain ⟨hop, hdst, hgd, hL⟩ := op8.useO ho hd
      refine stepO hgd (wo_load hop (h.p7 (hL 7 (by simp))) (o_load2 pb n2 c2 a2 w q2) ?_)
      rw [hdst]
      exact hK _ _ (MInvO.next hk (by omega) (by omega) h12 h.st8)
    · obtain ⟨hop, hdst, hgd, hL⟩ := op9.useO ho hd
      obtain ⟨f1, f2, f3⟩ := r2.on h.below
      refine stepO hgd (wp_app8 w (.tmp 29) (.tmp 31) 34 9 hop Try.underlying34 (.string ⟨#[]⟩) 16 str_info8 rfl w0.heap.size (EofO a 29) rfl (h.rowB (hL 6 (by simp)) hLi) a2 n2 c2 (tags.map Value.string) (h.p8 (hL 8 (by simp))) f1 f2 f3 (by simp [Value.oneCell']) (by omega) (by omega) hw0 ?_)
      intro v' w' g1 g2
      rw [hdst]
      rw [List.length_map] at f1
      rw [← f1] at g1
      exact hK _ _ (MInvO.next hk (by omega) (by omega) h12 (h.st9 hLi (hL 6 (by simp)) (noO (fun a => (h.o10 a).2.2) hLi) g1 g2))
    · obtain ⟨hop, hdst, hgd, hL⟩ := op10.useO ho hd
      obtain ⟨x1, d1, f1⟩ := own_form (h.rowA2 (hL 5 (by simp)))
      obtain ⟨x2, d2, f2⟩ := own_form (h.rowB2 (hL 9 (by simp)))
      have f0 := h.p1 (hL 1 (by simp))
      refine stepO hgd (wo_build hop f0 f1 f2 (o_build id x1 x2 _ d1 _ d2 w) ?_)
      rw [hdst]
      have g := h.st10 ⟨hL 1 (by simp), hL 5 (by simp), hL 9 (by simp)⟩
      rw [f0, f1, f2] at g
      exact hK _ _ (MInvO.next hk (by omega) (by omega) h12 g)
    · obtain ⟨hop, hdst, hgd, hL⟩ := op11.useO ho hd
      refine stepO hgd (wo_alloc hop (o_alloc w) ?_)
      rw [hdst]
      exact hK _ _ (MInvO.next hk (by omega) (by omega) h12 h.st11)
    · obtain ⟨hop, hdst, hgd, hL⟩ := op12.useO ho hd
      have oA := h.rowA2 (hL 5 (by simp))
      have oB := h.rowB2 (hL 9 (by simp))
      obtain ⟨x1, d1, f1⟩ := own_form oA
      obtain ⟨x2, d2, f2⟩ := own_form oB
      have f0 := h.p1 (hL 1 (by simp))
      have f3 := h.p10 (hL 10 (by simp))
      rw [f0, f1, f2] at f3
      rw [f1] at oA
      rw [f2] at oB
      obtain ⟨bb, f4, hB, hblk⟩ := h.box (hL 11 (by simp))
      refine stepO hgd (wo_store hop f4 f3 (o_store bb id x1 x2 _ d1 _ d2 w hblk) ?_)
      rw [hdst]
      have hkept : Kept [bb] w (((w.setCell ⟨bb, 0, none⟩ (.int .u32 (id : Int))).setCell ⟨bb, 1, none⟩ (.slice x1 vec.length d1)).setCell ⟨bb, 2, none⟩ (.slice x2 tags.length d2)) := (((Kept.refl _ w).setCell _ _ (.inl (by simp))).setCell _ _ (.inl (by simp))).setCell _ _ (.inl (by simp))
      have hF : ∀ x ∈ [bb], w0.heap.size ≤ x := fun x hx => by rw [List.mem_singleton.1 hx]; exact hB
      refine hK _ _ ⟨⟨by simp [hk.lsz], hk.tsz, hk.dfs, hk.far⟩, .inr ⟨fun k hlt => ?_, bb, x1, vec.length, d1, x2, tags.length, d2, f4, hB, ((hblk.set 0 _).set 1 _).set 2 _, own_keep oA hkept (fun g hg hh => row_blk8 oA hblk (by decide) (by rw [hg]; simpa using hh)), own_keep oB hkept (fun g hg hh => row_blk8 oB hblk (by decide) (by rw [hg]; simpa using hh)), h.below.trans (hkept.below hF hw0)⟩⟩
      unfold LofO
      rw [Array.getD_eq_getD_getElem?, Array.getElem?_setIfInBounds]
      by_cases he : 12 = k
      · subst he
        simp [hk.lsz]
      · rw [if_neg he]
        have := hL k (by simp; omega)
        rw [LofO, Array.getD_eq_getD_getElem?] at this
        exact this
  · intro l a w hI hall
    rw [hsize] at hall
    obtain ⟨hk, ⟨h12, _⟩ | ⟨_, hf⟩⟩ := hI
    · have := hall 12 (by omega)
      unfold LofO at h12
      rw [h12] at this
      cases this
    · have e := filledO_eq hk hT
      have := hQ (EofO a) w hf
      rw [← e] at this
      have hd := hk.dfs
      cases a
      simp only at hd
      subst hd
      exact this
  · rw [hsize]
    refine ⟨⟨by simp, hT, rfl, fun _ _ _ => rfl⟩, .inl ⟨by simp [LofO, Array.getD_eq_getD_getElem?], RO.init (fun k => ?_) (Below.refl _ w0).drew⟩⟩
    unfold LofO
    rw [Array.getD_eq_getD_getElem?, Array.getElem?_replicate]
    split <;> rfl
  · simp

/-- A node that reads, whoever it is. -/
structure NodeR (w : World) (y : NodeL) : Prop where
  it : y.it.In (fun _ => True) w
  few : y.links.length ≤ 1000000
  pl : ∃ a c, y.pl = .slice a y.links.length c ∧ (y.links = [] ∨ ∃ b off, a = some ⟨b, off, none⟩ ∧ b < w.heap.size ∧ ∀ (k : Nat) (l : List Nat), y.links[k]? = some l → ∃ ka kn kc, w.cell? ⟨b, off + k, none⟩ = some (.slice ka kn kc) ∧ Reads .i64 w ka kn (natsI l))
theorem NodeR.on {w w' : World} {y : NodeL} (h : NodeR w y) (hb : Below w.heap.size w w') : NodeR w' y := by
  obtain ⟨a, c, e, h2⟩ := h.pl
  refine ⟨⟨h.it.hid, Rd.on h.it.hvec hb, Rd.on h.it.htags hb⟩, h.few, a, c, e, ?_⟩
  rcases h2 with h2 | ⟨b, off, e2, hlt, h2⟩
  · exact .inl h2
  · refine .inr ⟨b, off, e2, Nat.lt_of_lt_of_le hlt hb.size, fun k l hl => ?_⟩
    obtain ⟨ka, kn, kc, h3, h4⟩ := h2 k l hl
    exact ⟨ka, kn, kc, (hb.cell (p := ⟨b, off + k, none⟩) hlt).trans h3, h4.below (Nat.le_refl _) hb⟩
set_option maxRecDepth 100000 in
set_option maxHeartbeats 3200000 in
theorem samenode_any (w : World) (y z : NodeL) (hy : NodeR w y) (hz : NodeR w z) (he : y.toV = z.toV) :
    Calls Try.prog 13 #[.agg y.cells.toArray, .agg z.cells.toArray] w fun e w' => e = .returned (.bool true) ∧ Below w.heap.size w w' := by
  obtain ⟨⟨id, pv, pt, vec, tags⟩, frm, til, pl, ls, links⟩ := y
  obtain ⟨⟨id', pv', pt', vec', tags'⟩, frm', til', pl', ls', links'⟩ := z
  simp only [NodeL.toV, NodeV.mk.injEq] at he
  obtain ⟨rfl, rfl, rfl, rfl, rfl, rfl⟩ := he
  obtain ⟨a, c, e, hpl⟩ := hy.pl
  obtain ⟨a', c', e', hpl'⟩ := hz.pl
  simp only at e e' hpl hpl'
  subst e e'
  show Calls _ _ #[.agg #[.int .u32 (id : Int), .slice pv.1 pv.2.1 pv.2.2, .slice pt.1 pt.2.1 pt.2.2, .int .u64 (frm : Int), .int .u64 (til : Int), .slice a links.length c], .agg #[.int .u32 (id : Int), .slice pv'.1 pv'.2.1 pv'.2.2, .slice pt'.1 pt'.2.1 pt'.2.2, .int .u64 (frm : Int), .int .u64 (til : Int), .slice a' links.length c']] _ _
  obtain ⟨w2, hw2⟩ : ∃ w2, (w.alloc (.cells #[.int .u32 (id : Int), .slice pv.1 pv.2.1 pv.2.2, .slice pt.1 pt.2.1 pt.2.2, .int .u64 (frm : Int), .int .u64 (til : Int), .slice a links.length c] 40)).alloc (.cells #[.int .u32 (id : Int), .slice pv'.1 pv'.2.1 pv'.2.2, .slice pt'.1 pt'.2.1 pt'.2.2, .int .u64 (frm : Int), .int .u64 (til : Int), .slice a' links.length c'] 40) = w2 := ⟨_, rfl⟩
  have B2 : Below w.heap.size w w2 := by rw [← hw2]; exact ((Below.refl _ w).alloc (Nat.le_refl _) _).alloc (by simp) _
  have X2 : Blk w2 w.heap.size 40 [.int .u32 (id : Int), .slice pv.1 pv.2.1 pv.2.2, .slice pt.1 pt.2.1 pt.2.2, .int .u64 (frm : Int), .int .u64 (til : Int), .slice a links.length c] := by
    rw [← hw2]
    exact (Blk.new w _ _).alloc _
  have Y2 : Blk w2 (w.heap.size + 1) 40 [.int .u32 (id : Int), .slice pv'.1 pv'.2.1 pv'.2.2, .slice pt'.1 pt'.2.1 pt'.2.2, .int .u64 (frm : Int), .int .u64 (til : Int), .slice a' links.length c'] := by
    rw [← hw2]
    have := Blk.new (w.alloc (.cells #[.int .u32 (id : Int), .slice pv.1 pv.2.1 pv.2.2, .slice pt.1 pt.2.1 pt.2.2, .int .u64 (frm : Int), .int .u64 (til : Int), .slice a links.length c] 40)) 40 #[.int .u32 (id : Int), .slice pv'.1 pv'.2.1 pv'.2.2, .slice pt'.1 pt'.2.1 pt'.2.2, .int .u64 (frm : Int), .int .u64 (til : Int), .slice a' links.length c']
    simpa using this
  obtain ⟨x0, x1, x2, x3, x4, x5, -⟩ := six_load _ _ _ _ _ _ _ _ _ X2
  obtain ⟨y0, y1, y2, y3, y4, y5, -⟩ := six_load _ _ _ _ _ _ _ _ _ Y2
  have HY := hy.on B2
  have HZ := hz.on B2
  have SI := Lib.hid (sameItem _ _ _ _ _ _ _ _ w2 (rd_item_mk HY.it.hid HY.it.hvec HY.it.htags) (rd_item_mk HZ.it.hid HZ.it.hvec HZ.it.htags))
  obtain ⟨N, hN⟩ : ∃ N, links.length = N := ⟨_, rfl⟩
  have hfew := hy.few
  simp only at hfew
  have HPL := Lib.hid hpl
  have HPL' := Lib.hid hpl'
  have HB2 := Lib.hid B2
  have HXY := Lib.hid (And.intro X2 Y2)
  rw [hN] at x5 y5 hfew hw2
  have HN := Lib.hid hN
  have n3 : ((frm : Int) != (frm : Int)) = false := by simp
  have n4 : ((til : Int) != (til : Int)) = false := by simp
  have n5 : ((N : Int) != (N : Int)) = false := by simp
  rw [hN]
  clear hy hz B2 X2 Y2 HY HZ hpl hpl' hN
  go_enter Try.func13, Try.ntmps13
  go_wp2_with (first | (rw [hw2]) | fail)
  refine SI.out.mono ?_
  rintro e w3 ⟨zz, rfl, hzz, hb3⟩
  obtain rfl : zz = true := hzz.2 trivial
  obtain ⟨h1, h2⟩ := HXY.out
  have X3 := (Kept.of_below (F := []) hb3 (Nat.le_refl _)).blk h1 (by simp)
  have Y3 := (Kept.of_below (F := []) hb3 (Nat.le_refl _)).blk h2 (by simp)
  obtain ⟨x0, x1, x2, x3, x4, x5, -⟩ := six_load _ _ _ _ _ _ _ _ _ X3
  obtain ⟨y0, y1, y2, y3, y4, y5, -⟩ := six_load _ _ _ _ _ _ _ _ _ Y3
  rw [HN.out] at x5 y5
  have B3 := Lib.hid (HB2.out.trans (hb3.mono HB2.out.size))
  have HXY3 := Lib.hid (And.intro X3 Y3)
  have HS2 := Lib.hid HB2.out.size
  have hl2 : w.heap.size + 1 < w3.heap.size := Y3.lt
  have HP := Lib.hid (fun (W : World) (hb : Below w.heap.size w W) (k : Nat) (l : List Nat) (hl : links[k]? = some l) => show ∃ b off ka kn kc b' off' ka' kn' kc', a = some ⟨b, off, none⟩ ∧ a' = some ⟨b', off', none⟩ ∧ W.cell? ⟨b, off + k, none⟩ = some (.slice ka kn kc) ∧ W.cell? ⟨b', off' + k, none⟩ = some (.slice ka' kn' kc') ∧ Reads .i64 W ka kn (natsI l) ∧ Reads .i64 W ka' kn' (natsI l) from by
    have hne : links ≠ [] := fun e => by rw [e] at hl; simp at hl
    rcases HPL.out with h0 | ⟨b, off, e1, g1, g2⟩
    · exact absurd h0 hne
    rcases HPL'.out with h0 | ⟨b', off', e2, g3, g4⟩
    · exact absurd h0 hne
    obtain ⟨ka, kn, kc, q1, q2⟩ := g2 k l hl
    obtain ⟨ka', kn', kc', q3, q4⟩ := g4 k l hl
    exact ⟨b, off, ka, kn, kc, b', off', ka', kn', kc', e1, e2, (hb.cell (p := ⟨b, off + k, none⟩) g1).trans q1, (hb.cell (p := ⟨b', off' + k, none⟩) g3).trans q3, q2.below (Nat.le_refl _) hb, q4.below (Nat.le_refl _) hb⟩)
  clear hzz hb3 h1 h2 X3 Y3 SI HXY HPL HPL'
  go_wp2_with (fail)
  go_loopw [5] (fun s5 wr => ∃ i : Nat, s5 = .int .i64 i ∧ i ≤ N ∧ Hid (Below w.heap.size w wr) ∧ Hid (Blk wr w.heap.size 40 [.int .u32 (id : Int), .slice pv.1 pv.2.1 pv.2.2, .slice pt.1 pt.2.1 pt.2.2, .int .u64 (frm : Int), .int .u64 (til : Int), .slice a links.length c] ∧ Blk wr (w.heap.size + 1) 40 [.int .u32 (id : Int), .slice pv'.1 pv'.2.1 pv'.2.2, .slice pt'.1 pt'.2.1 pt'.2.2, .int .u64 (frm : Int), .int .u64 (til : Int), .slice a' links.length c'])) (fun s5 _ => N - (intOf s5).toNat)
  case atStart => exact ⟨0, rfl, Nat.zero_le _, B3, HXY3⟩
  case round =>
    clear B3 HXY3 hw2 hl2
    obtain ⟨i, rfl, hi, HB, HXY⟩ := hrel
    obtain ⟨h1, h2⟩ := HXY.out
    have x5 : wr.cell? ⟨w.heap.size, 5, none⟩ = some (.slice a N c) := by rw [← HN.out]; exact h1.cell 5
    have y5 : wr.cell? ⟨w.heap.size + 1, 5, none⟩ = some (.slice a' N c') := by rw [← HN.out]; exact h2.cell 5
    have l1 := h1.lt
    have l2 := h2.lt
    clear h1 h2
    by_cases hiN : i < N
    · obtain ⟨l, hl⟩ : ∃ l, links[i]? = some l := ⟨_, List.getElem?_eq_getElem (by rw [HN.out]; exact hiN)⟩
      obtain ⟨b, off, ka, kn, kc, b', off', ka', kn', kc', rfl, rfl, q1, q2, q3, q4⟩ := HP.out wr HB.out i l hl
      have CI := Lib.hid (ints_any wr.drew ka kn kc _ (q3.below (Nat.le_refl _) (Below.refl _ _).drew) ka' kn' kc' _ (q4.below (Nat.le_refl _) (Below.refl _ _).drew) true (by simp))
      clear q3 q4 hl HP
      go_wp2
      go_still_tail 10, (by kernel_rfl)
      change wpList _ _ _ _ _ wr.drew
      go_wp2_with (fail)
      refine CI.out.mono ?_
      rintro e w4 ⟨rfl, hb4⟩
      have bb := (Below.refl wr.heap.size wr).drew.trans hb4
      have HB4 := Lib.hid (HB.out.trans (bb.mono HB.out.size))
      have HXY4 := Lib.hid (And.intro ((Kept.of_below (F := []) bb (Nat.le_refl _)).blk HXY.out.1 (by simp)) ((Kept.of_below (F := []) bb (Nat.le_refl _)).blk HXY.out.2 (by simp)))
      clear bb hb4 CI HB HXY
      go_wp2
      go_roundw
      case rel => exact ⟨i + 1, by go_num, by omega, HB4, HXY4⟩
      case measure => simp [intOf]; omega
    · obtain rfl : i = N := by omega
      go_wp2
      go_ret
      exact ⟨rfl, HB.out⟩

theorem row_set {w : World} {lo n c g i : Nat} {t : TypeId} {xs : List Value} (h : w.ownsRow lo t 1 (.slice (some ⟨g, 0, none⟩) n c) n xs) (u : Value) : (w.setCell ⟨g, i, none⟩ u).ownsRow lo t 1 (.slice (some ⟨g, 0, none⟩) n c) n (xs.set i u) := by
  refine ⟨by rw [List.length_set]; exact h.1, ?_⟩
  rcases h.2 with ⟨h2, _⟩ | ⟨g', cap, cur, e, hb, hh, h1, h2, h3, h4⟩
  · cases h2
  · simp only [Value.slice.injEq, Option.some.injEq, Addr.mk.injEq] at e
    obtain ⟨⟨rfl, -⟩, -, rfl⟩ := e
    have hblk : Blk w g t cur.toList := by simpa [Blk] using hh
    refine .inr ⟨g, c, (cur.toList.set i u).toArray, rfl, hb, hblk.set i u, h1, h2, by simpa using h3, ?_⟩
    rw [← h4, List.take_set]
/-- A row of the call's own of such cells, whichever. -/
def SomeO (q : Value → Prop) (t : TypeId) (lo : Nat) (w : World) (v : Value) (n : Nat) : Prop := ∃ xs, w.ownsRow lo t 1 v n xs ∧ ∀ u ∈ xs, q u
theorem SomeO.at {q : Value → Prop} {t : TypeId} {lo n c i : Nat} {w : World} {a : Option Addr} (h : SomeO q t lo w (.slice a n c) n) (hi : i < n) :
    ∃ b u, a = some ⟨b, 0, none⟩ ∧ lo ≤ b ∧ b < w.heap.size ∧ w.cell? ⟨b, i, none⟩ = some u ∧ q u ∧ w.frozen? ⟨b, i, none⟩ = false ∧ ∀ u', q u' → SomeO q t lo (w.setCell ⟨b, i, none⟩ u') (.slice a n c) n := by
  obtain ⟨xs, h1, h2⟩ := h
  have h1' := h1
  rcases h1.2 with ⟨e, h0⟩ | ⟨g, cap, cur, e, hb, hh, g1, g2, g3, g4⟩
  · omega
  · simp only [Value.slice.injEq] at e
    obtain ⟨rfl, -, rfl⟩ := e
    have hblk : Blk w g t cur.toList := by simpa [Blk] using hh
    have hxl : xs.length = n := by rw [h1.1, Nat.mul_one]
    have hx : xs[i]? = some xs[i] := List.getElem?_eq_getElem (by omega)
    refine ⟨g, xs[i], rfl, hb, hblk.lt, ?_, h2 _ (List.getElem_mem _), hblk.frozen i, fun u' hu => ⟨_, row_set h1' u', fun y hy => ?_⟩⟩
    · rw [hblk.cell i, ← hx, ← g4, List.getElem?_take_of_lt (by omega)]
    · rcases List.mem_or_eq_of_mem_set hy with hy | rfl
      · exact h2 y hy
      · exact hu
theorem SomeO.kept {q : Value → Prop} {t : TypeId} {lo n : Nat} {w w' : World} {v : Value} {F : List Nat} (h : SomeO q t lo w v n) (hk : Kept F w w') (hF : ∀ g, v.ownBlock = some g → g ∉ F) : SomeO q t lo w' v n := by
  obtain ⟨xs, h1, h2⟩ := h
  exact ⟨xs, own_keep h1 hk hF, h2⟩
def IsI (u : Value) : Prop := ∃ z, u = .int .i32 z
def IsS (u : Value) : Prop := ∃ z, u = .string z
theorem OwnI.ints {lo : Nat} {w : World} {x : ItL} (h : x.OwnI lo w) : ∃ a n c, x.pv = (a, n, c) ∧ n = x.vec.length ∧ SomeO IsI 21 lo w (.slice a n c) n := by
  obtain ⟨a, c, e⟩ := own_form h.vec
  simp only [Value.slice.injEq] at e
  have h1 := h.vec
  refine ⟨x.pv.1, x.pv.2.1, x.pv.2.2, rfl, e.2.1, _, by rw [e.2.1] at h1 ⊢; exact h1, fun u hu => ?_⟩
  obtain ⟨z, _, rfl⟩ := List.mem_map.1 hu
  exact ⟨z, rfl⟩
theorem OwnI.strs {lo : Nat} {w : World} {x : ItL} (h : x.OwnI lo w) : ∃ a n c, x.pt = (a, n, c) ∧ n = x.tags.length ∧ SomeO IsS 9 lo w (.slice a n c) n := by
  obtain ⟨a, c, e⟩ := own_form h.tags
  simp only [Value.slice.injEq] at e
  have h1 := h.tags
  refine ⟨x.pt.1, x.pt.2.1, x.pt.2.2, rfl, e.2.1, _, by rw [e.2.1] at h1 ⊢; exact h1, fun u hu => ?_⟩
  obtain ⟨z, _, rfl⟩ := List.mem_map.1 hu
  exact ⟨z, rfl⟩
theorem reads_ints {ok : Nat → Prop} {w : World} {a : Option Addr} {n c : Nat} {xs : List Int} (h : Rd ok w shVec [.slice a n c] xs) : ReadsO w a n c (xs.map (Value.int .i32)) ∧ n * 4 ≤ 140737488351232 := by
  have hr := Rd.ints h rfl
  obtain ⟨a', n', c', h0, h1, h2, h3, h4, h5, h6⟩ := Rd.slice_part h
  simp only [List.cons.injEq, Value.slice.injEq, and_true] at h0
  obtain ⟨rfl, rfl, rfl⟩ := h0
  refine ⟨⟨by rw [List.length_map]; exact h1, h5, ?_⟩, h2⟩
  rcases hr.cells with h | ⟨b, off, e1, hlt, e2⟩
  · exact .inl h
  · refine .inr ⟨b, off, e1, hlt, fun i hi => ?_⟩
    have hl := hr.len
    rw [e2 i hi, List.getElem?_map, List.getElem?_eq_getElem (by omega)]
    simp [List.getD, show i < xs.length by omega]
theorem reads_strs {ok : Nat → Prop} {w : World} {a : Option Addr} {n c : Nat} {xs : List ByteArray} (h : Rd ok w shTags [.slice a n c] xs) : ReadsO w a n c (xs.map Value.string) ∧ n * 16 ≤ 140737488351232 := by
  have hr := (Rd.strs h rfl).1
  obtain ⟨a', n', c', h0, h1, h2, h3, h4, h5, h6⟩ := Rd.slice_part h
  simp only [List.cons.injEq, Value.slice.injEq, and_true] at h0
  obtain ⟨rfl, rfl, rfl⟩ := h0
  refine ⟨⟨by rw [List.length_map]; exact h1, h5, ?_⟩, h2⟩
  rcases hr.cells with h | ⟨b, off, e1, hlt, e2⟩
  · exact .inl h
  · refine .inr ⟨b, off, e1, hlt, fun i hi => ?_⟩
    have hl := hr.len
    rw [e2 i hi, List.getElem?_map, List.getElem?_eq_getElem (by omega)]
    simp [strAt, List.getD, show i < xs.length by omega]

def IsN (u : Value) : Prop := ∃ z, u = .int .i64 z
/-- A write of such a cell leaves a row of such cells one, wherever it goes. -/
theorem SomeO.write {q : Value → Prop} {t : TypeId} {lo n b i : Nat} {w : World} {v u : Value} (h : SomeO q t lo w v n) (hu : q u) : SomeO q t lo (w.setCell ⟨b, i, none⟩ u) v n := by
  by_cases hb : v.ownBlock = some b
  · obtain ⟨xs, h1, h2⟩ := h
    rcases h1.2 with ⟨rfl, h0⟩ | ⟨g, cap, cur, rfl, _⟩
    · cases hb
    · cases hb
      refine ⟨_, row_set h1 u, fun y hy => ?_⟩
      rcases List.mem_or_eq_of_mem_set hy with hy | rfl
      · exact h2 y hy
      · exact hu
  · exact h.kept ((Kept.refl [b] w).setCell _ _ (.inl (by simp))) fun g hg hh => by
      simp at hh
      subst hh
      exact hb hg
/-- The blocks of a node's lists. -/
def NodeL.bsN (y : NodeL) : List Nat := y.it.bs ++ (ownB y.pl ++ y.ls.flatMap ownB)
theorem NodeL.Own.kept {lo : Nat} {w w' : World} {y : NodeL} {F : List Nat} (h : y.Own lo w) (hk : Kept F w w') (hF : ∀ g ∈ y.bsN, g ∉ F) : y.Own lo w' := by
  refine ⟨h.it.kept hk fun g hg => hF g (List.mem_append.2 (.inl hg)), hk.own h.lrow fun g hg => hF g (List.mem_append.2 (.inr (List.mem_append.2 (.inl (mem_ownB.2 hg))))), h.lens, fun k v l h1 h2 => ?_⟩
  have hv : ∀ g, v.ownBlock = some g → g ∉ F := fun g hg => hF g (List.mem_append.2 (.inr (List.mem_append.2 (.inr (List.mem_flatMap.2 ⟨v, List.mem_of_getElem? h1, mem_ownB.2 hg⟩)))))
  exact (h.list k v l h1 h2).kept hk hv
theorem NodeL.Own.lt {lo : Nat} {w : World} {y : NodeL} (h : y.Own lo w) : ∀ g ∈ y.bsN, lo ≤ g ∧ g < w.heap.size := by
  intro g hg
  rcases List.mem_append.1 hg with hg | hg
  · exact h.it.lo g hg
  · rcases List.mem_append.1 hg with hg | hg
    · exact own_lt h.lrow (mem_ownB.1 hg)
    · obtain ⟨v, hv, hg⟩ := List.mem_flatMap.1 hg
      obtain ⟨k, hk, e⟩ := List.mem_iff_getElem.1 hv
      have h1 : y.ls[k]? = some v := by rw [List.getElem?_eq_getElem hk, e]
      have hl : k < y.links.length := by rw [← h.lens]; exact hk
      exact RowC.lt (h.list k v _ h1 (List.getElem?_eq_getElem hl)) g (mem_ownB.1 hg)
/-- What the loops may not touch: the graph, and the node that was told first. -/
structure KeepS (w : World) (lo g : Nat) (F : List Nat) (G : GraphV) (y : NodeL) (l1 b7 LO HI : Nat) (wr : World) : Prop where
  gr : GraphIs wr lo g F G
  own : y.Own l1 wr
  blk : Blk wr b7 40 y.cells
  below : Below w.heap.size w wr
  f1 : ∀ b ∈ F, b < LO ∨ HI ≤ b
  f2 : ∀ b ∈ y.bsN, b < LO ∨ HI ≤ b
  f3 : b7 < LO ∨ HI ≤ b7
  hlo : w.heap.size ≤ LO
theorem KeepS.set {w wr : World} {lo g l1 b7 LO HI b i : Nat} {F : List Nat} {G : GraphV} {y : NodeL} (h : KeepS w lo g F G y l1 b7 LO HI wr) (h1 : LO ≤ b) (h2 : b < HI) (u : Value) : KeepS w lo g F G y l1 b7 LO HI (wr.setCell ⟨b, i, none⟩ u) := by
  have hk : Kept [b] wr (wr.setCell ⟨b, i, none⟩ u) := (Kept.refl [b] wr).setCell _ _ (.inl (by simp))
  refine ⟨h.gr.kept hk fun x hx hF => ?_, h.own.kept hk fun x hx hF => ?_, hk.blk h.blk (by simp; have := h.f3; omega), h.below.setCell (p := ⟨b, i, none⟩) (Nat.le_trans h.hlo h1) u, h.f1, h.f2, h.f3, h.hlo⟩
  · simp at hx
    subst hx
    have := h.f1 _ hF
    omega
  · simp at hF
    subst hF
    have := h.f2 _ hx
    omega
theorem KeepS.on {w wr wx : World} {lo g l1 b7 LO HI : Nat} {F : List Nat} {G : GraphV} {y : NodeL} (h : KeepS w lo g F G y l1 b7 LO HI wr) (hb : Below wr.heap.size wr wx) : KeepS w lo g F G y l1 b7 LO HI wx :=
  ⟨h.gr.on hb, h.own.on hb, (Kept.of_below (F := []) hb (Nat.le_refl _)).blk h.blk (by simp), h.below.trans (hb.mono h.below.size), h.f1, h.f2, h.f3, h.hlo⟩
theorem KeepS.turn {w wr : World} {lo g l1 b7 LO HI LO' HI' : Nat} {F : List Nat} {G : GraphV} {y : NodeL} (h : KeepS w lo g F G y l1 b7 LO HI wr) (h' : wr.heap.size ≤ LO') : KeepS w lo g F G y l1 b7 LO' HI' wr :=
  ⟨h.gr, h.own, h.blk, h.below, fun b hb => .inl (Nat.lt_of_lt_of_le (h.gr.lt b hb).2 h'), fun b hb => .inl (Nat.lt_of_lt_of_le (h.own.lt b hb).2 h'), .inl (Nat.lt_of_lt_of_le h.blk.lt h'), Nat.le_trans h.below.size h'⟩
/-- A node of the call's own reads. -/
theorem NodeL.Own.reads {lo : Nat} {w : World} {y : NodeL} (h : y.Own lo w) (h1 : y.links.length ≤ 1000000) (h2 : ∀ l ∈ y.links, l.length ≤ 1000000 ∧ ∀ j ∈ l, j ≤ 1000000) : NodeR w y := by
  refine ⟨h.it.inn fun _ _ => trivial, h1, ?_⟩
  rcases own_cells1 (by have := h.lrow; exact this) with ⟨e, e2⟩ | ⟨b, c, e, _, _, hlt, hcell⟩
  · have e3 : y.links = [] := List.length_eq_zero_iff.1 (by rw [← h.lens, e2]; rfl)
    exact ⟨none, 0, by rw [e, e3]; rfl, .inl e3⟩
  · refine ⟨some ⟨b, 0, none⟩, c, by rw [e, h.lens], .inr ⟨b, 0, rfl, hlt, fun k l hl => ?_⟩⟩
    have hk := (List.getElem?_eq_some_iff.1 hl).1
    have hk2 : k < y.ls.length := by rw [h.lens]; exact hk
    have hv : y.ls[k]? = some y.ls[k] := List.getElem?_eq_getElem hk2
    have hi := h.list k _ l hv hl
    obtain ⟨a, n, c2, e4, -⟩ := hi.parts
    have hm := h2 l (List.mem_of_getElem? hl)
    rw [e4] at hi
    refine ⟨a, n, c2, ?_, hi.reads hm.1 hm.2⟩
    rw [Nat.zero_add, hcell k hk2, hv, e4]
/-- The graph of the law: two nodes, the first one joined to the other. -/
def lawG (x : ItL) (level : Int) : GraphV := (((⟨0, []⟩ : GraphV).add (newN x.id x.vec x.tags (topN level) 1)).add (newN 0 [] [] (topN level) 1)).link 0 1 0 3
theorem law_node (x : ItL) (level : Int) : (lawG x level).nodeOr 0 = ⟨x.id, x.vec, x.tags, 1, 0, [1] :: List.replicate (topN level) []⟩ ∧ (lawG x level).thereB 0 = true ∧ (((⟨0, []⟩ : GraphV).add (newN x.id x.vec x.tags (topN level) 1)).add (newN 0 [] [] (topN level) 1)).linkB 0 1 0 = true := by
  have hb : (((⟨0, []⟩ : GraphV).add (newN x.id x.vec x.tags (topN level) 1)).add (newN 0 [] [] (topN level) 1)).linkB 0 1 0 = true := by
    simp [GraphV.linkB, GraphV.onB, GraphV.add, newN, GraphV.lv]
  unfold lawG GraphV.link
  rw [if_pos hb]
  simp [GraphV.setLink, GraphV.linkL, GraphV.links, GraphV.add, newN, putIn, GraphV.nodeOr, GraphV.thereB, GraphV.linkB, GraphV.onB, GraphV.lv, List.replicate_succ]
theorem NodeL.Own.cells6 {lo : Nat} {w : World} {y : NodeL} (h : y.Own lo w) : ∃ ap cp, y.pl = .slice ap y.ls.length cp ∧ y.cells = [.int .u32 (y.it.id : Int), .slice y.it.pv.1 y.it.pv.2.1 y.it.pv.2.2, .slice y.it.pt.1 y.it.pt.2.1 y.it.pt.2.2, .int .u64 (y.frm : Int), .int .u64 (y.til : Int), .slice ap y.ls.length cp] := by
  obtain ⟨a, c, e⟩ := own_form h.lrow
  exact ⟨a, c, e, by unfold NodeL.cells; rw [e]⟩
section
variable {w wr : World} {lo g l1 b7 LO HI : Nat} {F : List Nat} {G : GraphV} {y : NodeL}
theorem loopY {bb la n c i : Nat} {a : Option Addr} {cs : List Value} (hK : KeepS w lo g F G y l1 b7 LO HI wr) (hB : Blk wr bb 36 cs) (hS : SomeO IsI 21 la wr (.slice a n c) n) (hi : i < n) (lA : ∀ k, (Value.slice a n c).ownBlock = some k → LO ≤ k ∧ k < HI) :
    ∃ b z, a = some ⟨b, 0, none⟩ ∧ b < wr.heap.size ∧ wr.cell? ⟨b, i, none⟩ = some (.int .i32 z) ∧ wr.frozen? ⟨b, i, none⟩ = false ∧ Hid (∀ z', KeepS w lo g F G y l1 b7 LO HI (wr.setCell ⟨b, i, none⟩ (.int .i32 z')) ∧ Blk (wr.setCell ⟨b, i, none⟩ (.int .i32 z')) bb 36 cs ∧ SomeO IsI 21 la (wr.setCell ⟨b, i, none⟩ (.int .i32 z')) (.slice a n c) n) := by
  obtain ⟨b, u, rfl, h1, h2, h3, ⟨z, rfl⟩, h4, h5⟩ := hS.at hi
  refine ⟨b, z, rfl, h2, h3, h4, fun z' => ⟨hK.set (lA b rfl).1 (lA b rfl).2 _, ((Kept.refl [b] wr).setCell _ _ (.inl (by simp))).blk hB ?_, h5 _ ⟨z', rfl⟩⟩⟩
  obtain ⟨xs, h6, _⟩ := hS
  simp
  rintro rfl
  exact row_not_blk h6 hB (by decide) rfl
/-- The node that was told second, whose lists are written over. -/
structure NSt (w : World) (lo g : Nat) (F : List Nat) (G : GraphV) (y : NodeL) (l1 b7 LO HI : Nat) (b10 l2 : Nat) (cs : List Value) (tv : Value) (tn : Nat) (pv : Value) (ls : List Value) (wr : World) : Prop where
  keep : KeepS w lo g F G y l1 b7 LO HI wr
  blk : Blk wr b10 40 cs
  tags : SomeO IsS 9 l2 wr tv tn
  lrow : wr.ownsRow l2 46 1 pv ls.length ls
  list : ∀ (k : Nat) (v : Value), ls[k]? = some v → ∃ a n c, v = .slice a n c ∧ n ≤ 1000000 ∧ SomeO IsN 3 l2 wr v n
variable {b10 l2 tn : Nat} {cs ls : List Value} {tv pv : Value}
theorem NSt.str {n c i : Nat} {a : Option Addr} (h : NSt w lo g F G y l1 b7 LO HI b10 l2 cs (.slice a n c) n pv ls wr) (hi : i < n) (lA : ∀ k, (Value.slice a n c).ownBlock = some k → LO ≤ k ∧ k < HI) :
    ∃ b z, a = some ⟨b, 0, none⟩ ∧ b < wr.heap.size ∧ wr.cell? ⟨b, i, none⟩ = some (.string z) ∧ wr.frozen? ⟨b, i, none⟩ = false ∧ Hid (∀ z', NSt w lo g F G y l1 b7 LO HI b10 l2 cs (.slice a n c) n pv ls (wr.setCell ⟨b, i, none⟩ (.string z'))) := by
  obtain ⟨b, u, rfl, h1, h2, h3, ⟨z, rfl⟩, h4, h5⟩ := h.tags.at hi
  obtain ⟨xs, h6, _⟩ := id h.tags
  have hk : ∀ u, Kept [b] wr (wr.setCell ⟨b, i, none⟩ u) := fun u => (Kept.refl [b] wr).setCell _ _ (.inl (by simp))
  refine ⟨b, z, rfl, h2, h3, h4, fun z' => ⟨h.keep.set (lA b rfl).1 (lA b rfl).2 _, (hk _).blk h.blk ?_, h5 _ ⟨z', rfl⟩, own_keep h.lrow (hk _) ?_, fun k v hv => ?_⟩⟩
  · simp
    rintro rfl
    exact row_not_blk h6 h.blk (by decide) rfl
  · intro k hk2 hh
    simp at hh
    subst hh
    exact rows_apart h.lrow h6 (by decide) k hk2 rfl
  · obtain ⟨a', n', c', rfl, h70, h7⟩ := h.list k v hv
    obtain ⟨ys, h8, h9⟩ := h7
    exact ⟨a', n', c', rfl, h70, SomeO.kept ⟨ys, h8, h9⟩ (hk _) fun k hk2 hh => by
      simp at hh
      subst hh
      exact rows_apart h8 h6 (by decide) k hk2 rfl⟩
theorem NSt.num {n c i k : Nat} {a : Option Addr} (h : NSt w lo g F G y l1 b7 LO HI b10 l2 cs tv tn pv ls wr) (hk : ls[k]? = some (.slice a n c)) (hi : i < n) (lA : ∀ k, (Value.slice a n c).ownBlock = some k → LO ≤ k ∧ k < HI) :
    ∃ b z, a = some ⟨b, 0, none⟩ ∧ b < wr.heap.size ∧ wr.cell? ⟨b, i, none⟩ = some (.int .i64 z) ∧ wr.frozen? ⟨b, i, none⟩ = false ∧ Hid (∀ z', NSt w lo g F G y l1 b7 LO HI b10 l2 cs tv tn pv ls (wr.setCell ⟨b, i, none⟩ (.int .i64 z'))) := by
  obtain ⟨a0, n0, c0, e, -, hS⟩ := h.list k _ hk
  simp only [Value.slice.injEq] at e
  obtain ⟨rfl, rfl, rfl⟩ := e
  obtain ⟨b, u, rfl, h1, h2, h3, ⟨z, rfl⟩, h4, h5⟩ := hS.at hi
  obtain ⟨xs, h6, _⟩ := id hS
  have hkk : ∀ u, Kept [b] wr (wr.setCell ⟨b, i, none⟩ u) := fun u => (Kept.refl [b] wr).setCell _ _ (.inl (by simp))
  refine ⟨b, z, rfl, h2, h3, h4, fun z' => ⟨h.keep.set (lA b rfl).1 (lA b rfl).2 _, (hkk _).blk h.blk ?_, ?_, own_keep h.lrow (hkk _) ?_, fun k v hv => ?_⟩⟩
  · simp
    rintro rfl
    exact row_not_blk h6 h.blk (by decide) rfl
  · obtain ⟨ys, h8, h9⟩ := h.tags
    exact SomeO.kept ⟨ys, h8, h9⟩ (hkk _) fun k hk2 hh => by
      simp at hh
      subst hh
      exact rows_apart h8 h6 (by decide) k hk2 rfl
  · intro k hk2 hh
    simp at hh
    subst hh
    exact rows_apart h.lrow h6 (by decide) k hk2 rfl
  · obtain ⟨a', n', c', rfl, h70, h7⟩ := h.list k v hv
    exact ⟨a', n', c', rfl, h70, h7.write ⟨z', rfl⟩⟩
end
theorem NSt.rowAt {w wr : World} {lo g l1 b7 LO HI b10 l2 tn nl cp r : Nat} {F : List Nat} {G : GraphV} {y : NodeL} {cs ls : List Value} {tv v : Value} {ap : Option Addr} (h : NSt w lo g F G y l1 b7 LO HI b10 l2 cs tv tn (.slice ap nl cp) ls wr) (hr : ls[r]? = some v) : ∃ gb, ap = some ⟨gb, 0, none⟩ ∧ gb < wr.heap.size ∧ wr.cell? ⟨gb, r, none⟩ = some v := by
  have hl := (List.getElem?_eq_some_iff.1 hr).1
  rcases own_cells1 h.lrow with ⟨_, e2⟩ | ⟨gb, c', e, _, _, hlt, hc⟩
  · rw [e2] at hl
    simp at hl
  · simp only [Value.slice.injEq] at e
    exact ⟨gb, e.1, hlt, by rw [hc r hl, hr]⟩
set_option maxRecDepth 100000 in
set_option maxHeartbeats 12800000 in
theorem own11_walk (x : ItL) (level : Int) (w : World) (hx : x.In (· < w.heap.size) w) :
    Calls Try.prog 8 #[.agg x.cells.toArray, .int .i64 level] w fun e w' => e = .returned (.bool true) ∧ Below w.heap.size w w' := by
  show Calls _ _ #[.agg #[.int .u32 (x.id : Int), .slice x.pv.1 x.pv.2.1 x.pv.2.2, .slice x.pt.1 x.pt.2.1 x.pt.2.2], .int .i64 level] _ _
  obtain ⟨w1, hw1⟩ : ∃ w1, w.alloc (.cells #[.int .u32 (x.id : Int), .slice x.pv.1 x.pv.2.1 x.pv.2.2, .slice x.pt.1 x.pt.2.1 x.pt.2.2] 36) = w1 := ⟨_, rfl⟩
  have B1 : Below w.heap.size w w1 := by rw [← hw1]; exact (Below.refl _ _).alloc (Nat.le_refl _) _
  have X1 : Blk w1 w.heap.size 36 x.cells := by rw [← hw1]; exact Blk.new w 36 x.cells.toArray
  have HX := Lib.hid hx
  clear hx
  go_enter Try.func8, Try.ntmps8
  go_wp2_with (fail)
  try rw [hw1]
  clear hw1
  refine (alive11 w1).mono ?_
  rintro e w2 ⟨rfl, hb2⟩
  have B2 := below_on B1 hb2
  have X2 := (Kept.of_below (F := []) hb2 (Nat.le_refl _)).blk X1 (by simp)
  have hl2 := X2.lt
  have k0 : w2.cell? ⟨w.heap.size, 0, none⟩ = some (.int .u32 (x.id : Int)) := X2.cell 0
  have k1 : w2.cell? ⟨w.heap.size, 1, none⟩ = some (.slice x.pv.1 x.pv.2.1 x.pv.2.2) := X2.cell 1
  have k2 : w2.cell? ⟨w.heap.size, 2, none⟩ = some (.slice x.pt.1 x.pt.2.1 x.pt.2.2) := X2.cell 2
  clear hb2 B1 X1
  go_wp2_with (fail)
  refine (small_any w.heap.size x w2 (HX.out.under B2) B2.size).mono ?_
  rintro e w3 ⟨⟨gs, rfl⟩, hb3⟩
  have B3 := below_on B2 (hb3)
  have X3 := (Kept.of_below (F := []) hb3 (Nat.le_refl _)).blk X2 (by simp)
  clear hb3 B2 X2 k0 k1 k2 hl2
  cases gs
  · go_wp2
    go_ret
    exact ⟨rfl, B3⟩
  go_wp2_with (fail)
  refine (gnew_any w3 0 (by decide)).mono ?_
  rintro e w4 ⟨rfl, h4, hb4⟩
  have B4 := below_on B3 hb4
  have X4 := (Kept.of_below (F := []) hb4 (Nat.le_refl _)).blk X3 (by simp)
  have hl4 := X4.lt
  have hs3 := B3.size
  have hs34 := hb4.size
  have k0 : w4.cell? ⟨w.heap.size, 0, none⟩ = some (.int .u32 (x.id : Int)) := X4.cell 0
  have k1 : w4.cell? ⟨w.heap.size, 1, none⟩ = some (.slice x.pv.1 x.pv.2.1 x.pv.2.2) := X4.cell 1
  have k2 : w4.cell? ⟨w.heap.size, 2, none⟩ = some (.slice x.pt.1 x.pt.2.1 x.pt.2.2) := X4.cell 2
  have HX4 := HX.out.under B4
  obtain ⟨r1, hn1⟩ := reads_ints HX4.hvec
  obtain ⟨r2, hn2⟩ := reads_strs HX4.htags
  have hl3 := X3.lt
  clear B3 X3 hb4
  go_wp2_with (fail)
  refine own_region w4 w.heap.size x.id x.pv.1 x.pt.1 x.pv.2.1 x.pv.2.2 x.pt.2.1 x.pt.2.2 x.vec x.tags rfl (by kernel_rfl) ⟨_, rfl, rfl, rfl, rfl, by kernel_rfl⟩ ⟨_, rfl, rfl, rfl, rfl, by kernel_rfl⟩ ⟨_, rfl, rfl, rfl, rfl, by kernel_rfl⟩ ⟨_, rfl, rfl, rfl, rfl, by kernel_rfl⟩ ⟨_, rfl, rfl, rfl, rfl, by kernel_rfl⟩ ⟨_, rfl, rfl, rfl, rfl, by kernel_rfl⟩ ⟨_, rfl, rfl, rfl, rfl, by kernel_rfl⟩ ⟨_, rfl, rfl, rfl, rfl, by kernel_rfl⟩ ⟨_, rfl, rfl, rfl, rfl, by kernel_rfl⟩ ⟨_, rfl, rfl, rfl, rfl, by kernel_rfl⟩ ⟨_, rfl, rfl, rfl, rfl, by kernel_rfl⟩ ⟨_, rfl, rfl, rfl, rfl, by kernel_rfl⟩ ⟨_, rfl, rfl, rfl, rfl, by kernel_rfl⟩ rfl rfl k0 k1 k2 hl4 r1 r2 hn1 hn2 ?_
  intro E w5 hfin
  obtain ⟨bb, a1, n1, c1, a2, n2, c2, h4E, hbb, hblk, oA, oB, hb5⟩ := hfin
  have wfv := rd_vec_wf HX4.hvec
  have wft := rd_tags_wf HX4.htags
  have OY : ItL.OwnI w4.heap.size w5 ⟨x.id, (a1, n1, c1), (a2, n2, c2), x.vec, x.tags⟩ := ⟨HX4.hid, oA, oB, wfv.1, wft.1, wfv.2, wft.2⟩
  have en1 : n1 = x.vec.length := by
    obtain ⟨_, _, e⟩ := own_form oA
    simp only [Value.slice.injEq] at e
    exact e.2.1
  have en2 : n2 = x.tags.length := by
    obtain ⟨_, _, e⟩ := own_form oB
    simp only [Value.slice.injEq] at e
    exact e.2.1
  have I5 : SomeO IsI 21 w4.heap.size w5 (.slice a1 n1 c1) n1 := ⟨_, by rw [← en1] at oA; exact oA, fun u hu => by
    obtain ⟨z, _, rfl⟩ := List.mem_map.1 hu
    exact ⟨z, rfl⟩⟩
  have S5 : SomeO IsS 9 w4.heap.size w5 (.slice a2 n2 c2) n2 := ⟨_, by rw [← en2] at oB; exact oB, fun u hu => by
    obtain ⟨z, _, rfl⟩ := List.mem_map.1 hu
    exact ⟨z, rfl⟩⟩
  have lA : ∀ g, (Value.slice a1 n1 c1).ownBlock = some g → w4.heap.size ≤ g ∧ g < w5.heap.size := fun g hg => own_lt oA hg
  have lB : ∀ g, (Value.slice a2 n2 c2).ownBlock = some g → w4.heap.size ≤ g ∧ g < w5.heap.size := fun g hg => own_lt oB hg
  have ltF := h4.lt
  have h5 := h4.on hb5
  have B5 := B4.trans (hb5.mono (by omega))
  have lt5 := hblk.lt
  have N1 : n1 ≤ 140737488351232 := by have := wfv.2; omega
  have EN1 := Lib.hid en1
  clear en1 en2
  unfold filledO
  rw [h4E]
  clear h4E k0 k1 k2 r1 r2 hn1 hn2 oA oB HX4 wfv wft h4 X4 B4
  have d0 : w5.cell? ⟨bb, 0, none⟩ = some (.int .u32 (x.id : Int)) := hblk.cell 0
  have d1 : w5.cell? ⟨bb, 1, none⟩ = some (.slice a1 n1 c1) := hblk.cell 1
  have d2 : w5.cell? ⟨bb, 2, none⟩ = some (.slice a2 n2 c2) := hblk.cell 2
  go_wp2_with (fail)
  have hs45 := hb5.size
  refine (add_any11 w5 _ _ _ _ h5 (by omega) (by simp) ⟨x.id, (a1, n1, c1), (a2, n2, c2), x.vec, x.tags⟩ (OY.inn fun _ _ => trivial) level 1 (by decide)).mono ?_
  rintro e w6 ⟨rfl, F6, h6, k6, g6⟩
  have nF : ∀ k, w4.heap.size ≤ k → k ∉ [w3.heap.size] := fun k h hh => by
    have := (ltF k hh).2
    omega
  have Y6 := k6.blk hblk (nF bb hbb)
  have I6 := I5.kept k6 (fun k hk => nF k (lA k hk).1)
  have B6 := B5.trans (k6.below (fun b hb => Nat.le_trans hs3 (ltF b hb).1) B5.size)
  have F6b : ∀ b ∈ F6, b < w4.heap.size ∨ w5.heap.size ≤ b := fun b hb => by
    rcases g6 b hb with h | h
    · exact .inl (ltF b h).2
    · exact .inr h
  clear hblk I5 S5 h5 B5 OY d0 d1 d2 lB g6 nF
  go_wp2_with (fail)
  have hs56 := k6.size
  refine (add_any11 w6 _ _ _ _ h6 (by omega) (by simp [GraphV.add]) ⟨0, (none, 0, 0), (none, 0, 0), [], []⟩ (ItL.OwnI.inn (lo := 0) ⟨by decide, World.ownsRow_nil _ _ _ _, World.ownsRow_nil _ _ _ _, by simp, by simp, by simp, by simp⟩ fun _ _ => trivial) level 1 (by decide)).mono ?_
  rintro e w7 ⟨rfl, F7, h7, k7, g7⟩
  have far : ∀ (Fx : List Nat), (∀ b ∈ Fx, b < w4.heap.size ∨ w5.heap.size ≤ b) → ∀ k, w4.heap.size ≤ k → k < w5.heap.size → k ∉ Fx := fun Fx h k h1 h2 hh => by
    have := h k hh
    omega
  have Y7 := k7.blk Y6 (far _ F6b bb hbb lt5)
  have I7 := I6.kept k7 (fun k hk => far _ F6b k (lA k hk).1 (lA k hk).2)
  have B7 := B6.trans (k7.below (fun b hb => Nat.le_trans hs3 (h6.lt b hb).1) B6.size)
  have F7b : ∀ b ∈ F7, b < w4.heap.size ∨ w5.heap.size ≤ b := fun b hb => by
    rcases g7 b hb with h | h
    · exact F6b b h
    · exact .inr (by omega)
  have hs67 := k7.size
  clear Y6 I6 B6 F6b h6 k6 k7 g7
  go_wp2_with (fail)
  have CL := link_is h7 0 1 0 3 (show (3 : Int) ≤ 9223372036854775807 by decide)
  unfold LinkPost at CL
  rw [(law_node x level).2.2] at CL
  refine CL.mono ?_
  rintro e w8 ⟨rfl, F8, h8, k8, g8⟩
  have h8 : GraphIs w8 w3.heap.size w3.heap.size F8 (lawG x level) := h8
  have Y8 := k8.blk Y7 (far _ F7b bb hbb lt5)
  have I8 := I7.kept k8 (fun k hk => far _ F7b k (lA k hk).1 (lA k hk).2)
  have B8 := B7.trans (k8.below (fun b hb => Nat.le_trans hs3 (h7.lt b hb).1) B7.size)
  have F8b : ∀ b ∈ F8, b < w4.heap.size ∨ w5.heap.size ≤ b := fun b hb => by
    rcases g8 b hb with h | h
    · exact F7b b h
    · exact .inr (by omega)
  have hs78 := k8.size
  clear Y7 I7 B7 F7b h7 k8 g8 CL
  go_wp2_with (fail)
  have CN := node_any w8 _ _ _ _ h8 0
  unfold NodesPost at CN
  rw [(law_node x level).2.1, (law_node x level).1] at CN
  refine CN.mono ?_
  rintro e w9 ⟨y1, rfl, hy1, hv1, hb9⟩
  obtain ⟨ap1, cp1, -, hc1⟩ := hy1.cells6
  rw [hc1]
  obtain ⟨w9b, hw9⟩ : ∃ w9b, w9.alloc (.cells #[.int .u32 (y1.it.id : Int), .slice y1.it.pv.1 y1.it.pv.2.1 y1.it.pv.2.2, .slice y1.it.pt.1 y1.it.pt.2.1 y1.it.pt.2.2, .int .u64 (y1.frm : Int), .int .u64 (y1.til : Int), .slice ap1 y1.ls.length cp1] 40) = w9b := ⟨_, rfl⟩
  have a9 : Below w9.heap.size w9 w9b := by rw [← hw9]; exact (Below.refl _ _).alloc (Nat.le_refl _) _
  have b8b : Below w8.heap.size w8 w9b := hb9.trans (a9.mono hb9.size)
  have K9 := Lib.hid (show KeepS w w3.heap.size w3.heap.size F8 (lawG x level) y1 w8.heap.size w9.heap.size w4.heap.size w5.heap.size w9b from
    ⟨h8.on b8b, hy1.on a9, by rw [hc1, ← hw9]; exact Blk.new _ _ _, B8.trans (b8b.mono B8.size), F8b, fun b hb => .inr (by have := (hy1.lt b hb).1; omega), .inr (by have := hb9.size; omega), by omega⟩)
  have kk := Kept.of_below (F := []) b8b (Nat.le_refl _)
  have Y9 := Lib.hid (kk.blk Y8 (by simp))
  have I9 := Lib.hid (I8.kept kk (by simp))
  have HV1 := Lib.hid hv1
  have HC1 := Lib.hid hc1
  clear Y8 I8 B8 F8b h8 CN hy1 hv1 hb9 hc1 a9 b8b kk far
  go_wp2_with (first | (rw [hw9]) | fail)
  obtain ⟨g0, hg0⟩ : ∃ g0, w3.heap.size = g0 := ⟨_, rfl⟩
  obtain ⟨b7, hb7⟩ : ∃ b7, w9.heap.size = b7 := ⟨_, rfl⟩
  obtain ⟨LO, hLO⟩ : ∃ LO, w4.heap.size = LO := ⟨_, rfl⟩
  obtain ⟨HI, hHI⟩ : ∃ HI, w5.heap.size = HI := ⟨_, rfl⟩
  rw [hLO, hHI] at lA
  rw [hg0, hb7, hLO, hHI] at K9
  rw [hLO] at I9
  clear ltF h8
  go_loopw [9] (fun s9 wr => ∃ i : Nat, s9 = .int .i64 i ∧ i ≤ n1 ∧ Hid (KeepS w g0 g0 F8 (lawG x level) y1 w8.heap.size b7 LO HI wr) ∧ Hid (Blk wr bb 36 [.int .u32 (x.id : Int), .slice a1 n1 c1, .slice a2 n2 c2]) ∧ Hid (SomeO IsI 21 LO wr (.slice a1 n1 c1) n1)) (fun s9 _ => n1 - (intOf s9).toNat)
  case atStart => exact ⟨0, rfl, by omega, K9, Y9, I9⟩
  case round =>
    clear K9 Y9 I9 hw9
    obtain ⟨i, rfl, hi, K9, Y9, I9⟩ := hrel
    have hbl := Y9.out.lt
    have d1 : wr.cell? ⟨bb, 1, none⟩ = some (.slice a1 n1 c1) := Y9.out.cell 1
    by_cases hin : i < n1
    · obtain ⟨b, z, rfl, hb1, kz, fz, NS⟩ := loopY K9.out Y9.out I9.out hin lA
      clear K9 Y9 I9
      go_wp2
      go_roundw
      case rel => exact ⟨i + 1, by go_num, by omega, (NS.out _).1, (NS.out _).2.1, (NS.out _).2.2⟩
      case measure => simp [intOf]; omega
    have K10 := K9.out
    clear Y9 I9 K9
    have CN := node_any wr _ _ _ _ K10.gr 0
    unfold NodesPost at CN
    rw [(law_node x level).2.1, (law_node x level).1] at CN
    have HCN := Lib.hid CN
    have HK10 := Lib.hid K10
    clear CN K10
    go_wp2_with (fail)
    refine HCN.out.mono ?_
    rintro e w11 ⟨y2, rfl, hy2, hv2, hb11⟩
    have K10 := HK10.out
    obtain ⟨ap2, cp2, hp2, hc2⟩ := hy2.cells6
    rw [hc2]
    obtain ⟨tn, htn⟩ : ∃ tn, y2.it.pt.2.1 = tn := ⟨_, rfl⟩
    obtain ⟨nl, hnl⟩ : ∃ nl, y2.ls.length = nl := ⟨_, rfl⟩
    rw [htn, hnl]
    obtain ⟨w11b, hw11⟩ : ∃ w11b, w11.alloc (.cells #[.int .u32 (y2.it.id : Int), .slice y2.it.pv.1 y2.it.pv.2.1 y2.it.pv.2.2, .slice y2.it.pt.1 tn y2.it.pt.2.2, .int .u64 (y2.frm : Int), .int .u64 (y2.til : Int), .slice ap2 nl cp2] 40) = w11b := ⟨_, rfl⟩
    have a11 : Below w11.heap.size w11 w11b := by rw [← hw11]; exact (Below.refl _ _).alloc (Nat.le_refl _) _
    have b11b : Below wr.heap.size wr w11b := hb11.trans (a11.mono hb11.size)
    have hy2b := hy2.on a11
    have HT := Lib.hid (show ∀ k, (Value.slice y2.it.pt.1 tn y2.it.pt.2.2).ownBlock = some k → wr.heap.size ≤ k ∧ k < w11b.heap.size from fun k hk => by
      rw [← htn] at hk
      exact own_lt hy2b.it.tags hk)
    have HLS := Lib.hid (show ∀ (k : Nat) (v : Value), y2.ls[k]? = some v → ∀ z, v.ownBlock = some z → wr.heap.size ≤ z ∧ z < w11b.heap.size from fun k v hv z hz => hy2b.lt z (List.mem_append.2 (.inr (List.mem_append.2 (.inr (List.mem_flatMap.2 ⟨v, List.mem_of_getElem? hv, mem_ownB.2 hz⟩))))))
    have N11 := Lib.hid (show NSt w g0 g0 F8 (lawG x level) y1 w8.heap.size b7 wr.heap.size w11b.heap.size w11.heap.size wr.heap.size [.int .u32 (y2.it.id : Int), .slice y2.it.pv.1 y2.it.pv.2.1 y2.it.pv.2.2, .slice y2.it.pt.1 tn y2.it.pt.2.2, .int .u64 (y2.frm : Int), .int .u64 (y2.til : Int), .slice ap2 nl cp2] (.slice y2.it.pt.1 tn y2.it.pt.2.2) tn (.slice ap2 nl cp2) y2.ls w11b from
      ⟨(K10.turn (LO' := wr.heap.size) (HI' := w11b.heap.size) (Nat.le_refl _)).on b11b, by rw [← hw11]; exact Blk.new _ _ _, by
        obtain ⟨ta, t1, t2, e1, e2, e3⟩ := OwnI.strs hy2b.it
        rw [e1] at htn ⊢
        simp only at htn
        subst htn
        exact e3, by rw [← hnl, ← hp2]; exact hy2b.lrow, fun k v hv => by
        have hl : k < y2.links.length := by rw [← hy2.lens]; exact (List.getElem?_eq_some_iff.1 hv).1
        have hi := hy2b.list k v _ hv (List.getElem?_eq_getElem hl)
        obtain ⟨a', n', c', rfl, hn'⟩ := hi.parts
        have hlen : y2.links[k].length ≤ 1 := by
          have e := congrArg NodeV.links hv2
          simp only [NodeL.toV] at e
          have hm : y2.links[k] ∈ [1] :: List.replicate (topN level) [] := by rw [← e]; exact List.getElem_mem hl
          rcases List.mem_cons.1 hm with h | h
          · rw [h]
            simp
          · rw [List.eq_of_mem_replicate h]
            simp
        refine ⟨a', n', c', rfl, by have := hn'.out; omega, intsC y2.links[k], ?_, fun u hu => ?_⟩
        · have := hi.own
          rw [hn'.out] at this
          exact this
        · obtain ⟨z, _, rfl⟩ := List.mem_map.1 hu
          exact ⟨_, rfl⟩⟩)
    have TN : tn ≤ 140737488351232 := by
      have h1 := hy2.it.lt
      obtain ⟨ta, t1, t2, e1, e2, e3⟩ := OwnI.strs hy2.it
      rw [e1] at htn
      simp only at htn
      omega
    have NL : nl ≤ 5 := by
      rw [← hnl, hy2.lens]
      have := congrArg NodeV.links hv2
      simp only [NodeL.toV] at this
      rw [this]
      simp [topN]
      omega
    have HNL := Lib.hid hnl
    clear hy2 hv2 hb11 a11 b11b hy2b hp2 hc2 hnl htn K10 HK10 HCN d1 hbl
    go_wp2_with (first | (rw [hw11]) | fail)
    obtain ⟨L2, hL2⟩ : ∃ L2, wr.heap.size = L2 := ⟨_, rfl⟩
    obtain ⟨H2, hH2⟩ : ∃ H2, w11b.heap.size = H2 := ⟨_, rfl⟩
    obtain ⟨b10, hb10⟩ : ∃ b10, w11.heap.size = b10 := ⟨_, rfl⟩
    rw [hL2, hH2, hb10] at N11
    rw [hL2, hH2] at HT HLS
    clear hL2 hH2 hw11
    go_loopw [12] (fun s12 wr => ∃ i : Nat, s12 = .int .i64 i ∧ i ≤ tn ∧ Hid (NSt w g0 g0 F8 (lawG x level) y1 w8.heap.size b7 L2 H2 b10 L2 [.int .u32 (y2.it.id : Int), .slice y2.it.pv.1 y2.it.pv.2.1 y2.it.pv.2.2, .slice y2.it.pt.1 tn y2.it.pt.2.2, .int .u64 (y2.frm : Int), .int .u64 (y2.til : Int), .slice ap2 nl cp2] (.slice y2.it.pt.1 tn y2.it.pt.2.2) tn (.slice ap2 nl cp2) y2.ls wr)) (fun s12 _ => tn - (intOf s12).toNat)
    case atStart => exact ⟨0, rfl, by omega, N11⟩
    case round =>
      clear N11
      obtain ⟨k, rfl, hk, N12⟩ := hrel
      have hbl := N12.out.blk.lt
      have d2 : wr.cell? ⟨b10, 2, none⟩ = some (.slice y2.it.pt.1 tn y2.it.pt.2.2) := N12.out.blk.cell 2
      by_cases hkn : k < tn
      · obtain ⟨b, z, hpt, hb1, kz, fz, NS⟩ := N12.out.str hkn HT.out
        rw [hpt] at d2
        clear N12
        go_wp2
        go_roundw
        case rel => exact ⟨k + 1, by go_num, by omega, NS.out _⟩
        case measure => simp [intOf]; omega
      go_wp2_with (fail)
      go_loopw [13] (fun s13 wr => ∃ i : Nat, s13 = .int .i64 i ∧ i ≤ nl ∧ Hid (NSt w g0 g0 F8 (lawG x level) y1 w8.heap.size b7 L2 H2 b10 L2 [.int .u32 (y2.it.id : Int), .slice y2.it.pv.1 y2.it.pv.2.1 y2.it.pv.2.2, .slice y2.it.pt.1 tn y2.it.pt.2.2, .int .u64 (y2.frm : Int), .int .u64 (y2.til : Int), .slice ap2 nl cp2] (.slice y2.it.pt.1 tn y2.it.pt.2.2) tn (.slice ap2 nl cp2) y2.ls wr)) (fun s13 _ => nl - (intOf s13).toNat)
      case atStart => exact ⟨0, rfl, by omega, N12⟩
      case round =>
        clear N12 d2 hbl
        obtain ⟨r, rfl, hr, N13⟩ := hrel
        have hbl := N13.out.blk.lt
        have d5 : wr.cell? ⟨b10, 5, none⟩ = some (.slice ap2 nl cp2) := N13.out.blk.cell 5
        by_cases hrn : r < nl
        · obtain ⟨v, hv⟩ : ∃ v, y2.ls[r]? = some v := ⟨_, List.getElem?_eq_getElem (by rw [HNL.out]; exact hrn)⟩
          obtain ⟨la, ln, lc, rfl, hln, -⟩ := N13.out.list r v hv
          have HVV := Lib.hid hv
          clear hv
          go_wp2_with (fail)
          go_loopw [14] (fun s14 wr => ∃ i : Nat, s14 = .int .i64 i ∧ i ≤ ln ∧ Hid (NSt w g0 g0 F8 (lawG x level) y1 w8.heap.size b7 L2 H2 b10 L2 [.int .u32 (y2.it.id : Int), .slice y2.it.pv.1 y2.it.pv.2.1 y2.it.pv.2.2, .slice y2.it.pt.1 tn y2.it.pt.2.2, .int .u64 (y2.frm : Int), .int .u64 (y2.til : Int), .slice ap2 nl cp2] (.slice y2.it.pt.1 tn y2.it.pt.2.2) tn (.slice ap2 nl cp2) y2.ls wr)) (fun s14 _ => ln - (intOf s14).toNat)
          case atStart => exact ⟨0, rfl, by omega, N13⟩
          case round =>
            clear N13 d5 hbl
            obtain ⟨q, rfl, hq, N14⟩ := hrel
            have hbl := N14.out.blk.lt
            have d5 : wr.cell? ⟨b10, 5, none⟩ = some (.slice ap2 nl cp2) := N14.out.blk.cell 5
            obtain ⟨gb, rfl, hgb, hgc⟩ := N14.out.rowAt HVV.out
            by_cases hqn : q < ln
            · obtain ⟨b, z, rfl, hb1, kz, fz, NS⟩ := N14.out.num HVV.out hqn (HLS.out r _ HVV.out)
              clear N14
              go_wp2
              go_roundw
              case rel => exact ⟨q + 1, by go_num, by omega, NS.out _⟩
              case measure => simp [intOf]; omega
            · go_wp2
              go_roundw
              case rel => exact ⟨r + 1, by go_num, by omega, N14⟩
              case measure => simp [intOf]; omega
        · have K14 := N13.out.keep
          clear N13
          have CN := node_any wr _ _ _ _ K14.gr 0
          unfold NodesPost at CN
          rw [(law_node x level).2.1, (law_node x level).1] at CN
          have HCN := Lib.hid CN
          have HK14 := Lib.hid K14
          clear CN K14
          go_wp2_with (fail)
          clear d5 hbl
          refine HCN.out.mono ?_
          rintro e w15 ⟨y3, rfl, hy3, hv3, hb15⟩
          have K14 := HK14.out
          obtain ⟨ap3, cp3, hp3, hc3⟩ := hy3.cells6
          obtain ⟨nl3, hnl3⟩ : ∃ nl3, y3.ls.length = nl3 := ⟨_, rfl⟩
          obtain ⟨nl1, hnl1⟩ : ∃ nl1, y1.ls.length = nl1 := ⟨_, rfl⟩
          have hc1 := HC1.out
          rw [hnl1] at hc1
          rw [hnl3] at hc3 hp3
          rw [hc3]
          obtain ⟨w16, hw16⟩ : ∃ w16, w15.alloc (.cells #[.int .u32 (y3.it.id : Int), .slice y3.it.pv.1 y3.it.pv.2.1 y3.it.pv.2.2, .slice y3.it.pt.1 y3.it.pt.2.1 y3.it.pt.2.2, .int .u64 (y3.frm : Int), .int .u64 (y3.til : Int), .slice ap3 nl3 cp3] 40) = w16 := ⟨_, rfl⟩
          have a16 : Below w15.heap.size w15 w16 := by rw [← hw16]; exact (Below.refl _ _).alloc (Nat.le_refl _) _
          have b16 : Below wr.heap.size wr w16 := hb15.trans (a16.mono hb15.size)
          have K16 := K14.on b16
          have Z16 : Blk w16 w15.heap.size 40 [.int .u32 (y3.it.id : Int), .slice y3.it.pv.1 y3.it.pv.2.1 y3.it.pv.2.2, .slice y3.it.pt.1 y3.it.pt.2.1 y3.it.pt.2.2, .int .u64 (y3.frm : Int), .int .u64 (y3.til : Int), .slice ap3 nl3 cp3] := by rw [← hw16]; exact Blk.new _ _ _
          have hy16 := hy3.on a16
          have links3 : y3.links = [1] :: List.replicate (topN level) [] := congrArg NodeV.links hv3
          have links1 : y1.links = [1] :: List.replicate (topN level) [] := congrArg NodeV.links HV1.out
          have small : ∀ l ∈ [1] :: List.replicate (topN level) ([] : List Nat), l.length ≤ 1000000 ∧ ∀ j ∈ l, j ≤ 1000000 := fun l hl => by
            rcases List.mem_cons.1 hl with h | h
            · rw [h]
              exact ⟨by simp, by simp⟩
            · rw [List.eq_of_mem_replicate h]
              exact ⟨by simp, by simp⟩
          have tops : ([1] :: List.replicate (topN level) ([] : List Nat)).length ≤ 1000000 := by
            simp [topN]
            omega
          have R1 := K16.own.reads (by rw [links1]; exact tops) (by rw [links1]; exact small)
          have R3 := hy16.reads (by rw [links3]; exact tops) (by rw [links3]; exact small)
          have CSN := samenode_any w16 y1 y3 R1 R3 (HV1.out.trans hv3.symm)
          rw [hc1, hc3] at CSN
          have HSN := Lib.hid CSN
          have X16 := K16.blk
          rw [hc1] at X16
          obtain ⟨x0, x1, x2, x3, x4, x5, -⟩ := six_load _ _ _ _ _ _ _ _ _ X16
          obtain ⟨z0, z1, z2, z3, z4, z5, -⟩ := six_load _ _ _ _ _ _ _ _ _ Z16
          have lx := X16.lt
          have lz := Z16.lt
          have B16 := Lib.hid K16.below
          have HZ16 := Lib.hid Z16
          have hl0 : 0 < y3.ls.length := by rw [hy3.lens, links3]; simp
          have hv0 : y3.ls[0]? = some y3.ls[0] := List.getElem?_eq_getElem hl0
          have hi0 := hy16.list 0 y3.ls[0] [1] hv0 (by rw [links3]; rfl)
          obtain ⟨la, ln, lc, hve, -⟩ := hi0.parts
          rw [hve] at hi0 hv0
          obtain ⟨hln, hrow⟩ := hi0.row
          simp only [List.length_cons, List.length_nil, Nat.zero_add] at hln
          subst hln
          rcases hrow with hrow | ⟨zl, rfl, -, hzl, hcl⟩
          · simp at hrow
          have e1 := hcl 0 1 rfl
          have hlr := hy16.lrow
          rw [hp3] at hlr
          rcases own_cells1 (show w16.ownsRow wr.heap.size 46 1 (.slice ap3 nl3 cp3) y3.ls.length y3.ls from hlr) with ⟨_, h2⟩ | ⟨gb, c', he, _, _, hgb, hgc⟩
          · rw [h2] at hl0
            simp at hl0
          simp only [Value.slice.injEq] at he
          obtain ⟨rfl, he1, rfl⟩ := he
          have e2 := (hgc 0 hl0).trans hv0
          have hnl3p : 0 < nl3 := by omega
          have HE := Lib.hid (And.intro e1 (And.intro e2 (And.intro hzl hgb)))
          clear hy3 hv3 hb15 hc3 hp3 hnl3 hnl1 hc1 a16 b16 K16 Z16 hy16 links3 links1 small tops R1 R3 CSN X16 hl0 hv0 hi0 hve e1 hlr hgc he1 e2 K14 HK14 HCN hzl hgb hcl
          go_wp2_with (first | (rw [hw16]) | fail)
          refine HSN.out.mono ?_
          rintro e w17 ⟨rfl, hb17⟩
          obtain ⟨e1, e2, hzl, hgb⟩ := HE.out
          have Z17 := (Kept.of_below (F := []) hb17 (Nat.le_refl _)).blk HZ16.out (by simp)
          obtain ⟨-, -, -, -, -, t5, -⟩ := six_load _ _ _ _ _ _ _ _ _ Z17
          have t6 := (hb17.cell (p := ⟨gb, 0, none⟩) hgb).trans e2
          have t7 := (hb17.cell (p := ⟨zl, 0, none⟩) hzl).trans e1
          have lz7 := Z17.lt
          have B17 := Lib.hid (B16.out.trans (hb17.mono B16.out.size))
          clear hb17 Z17 HSN HE HZ16 B16 e1 e2 hzl hgb x0 x1 x2 x3 x4 x5 z0 z1 z2 z3 z4 z5
          go_wp2
          go_ret
          exact ⟨rfl, B17.out⟩
end Go.Proofs.Ytdocoioenkajeaa
