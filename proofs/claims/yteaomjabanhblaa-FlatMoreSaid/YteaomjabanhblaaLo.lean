/-
  The region of FlatOwn's loop: whatever order comes up, the items' copies are one longer.
-/
import Derived.Test.YteaomjabanhblaaLh
import Derived.Test.YteaomjabanhblaaRg
namespace Go.Proofs.Yteaomjabanhblaa
open Go.ChangeShapes Go.WideShapes Go.ChangeAt Go.RowKit

theorem OpIs.useG {ops : Array Oper} {i : Nat} {op : Op} {dst : Option Tmp} {deps : List Nat} (h : OpIs ops i op dst deps) {o : Oper} (ho : ops[i]? = some o) :
    o.op = op ∧ o.dst = dst ∧ o.guard = none ∧ ∀ d ∈ deps, waits o d = true := by
  obtain ⟨o', ho', h1, h2, h3, h4⟩ := h
  rw [ho] at ho'
  obtain rfl := Option.some.inj ho'
  exact ⟨h1, h2, h3, fun d hd => List.all_eq_true.1 h4 d hd⟩
/-- append(v, x), as one operation: x one thing in a row of one, somewhere. -/
theorem g_appR {P : Program} {o : Oper} {a : Act} {K : Act → World → Prop} {Q : Exit → Act → World → Prop} {w : World} {lo : Nat} {t : TypeId} {e : Sh} {v : Value} {xs : List e.T} (s y : Operand) (st : TypeId)
    (hop : o.op = .call { callee := .builtin .append, args := #[s, y], argTypes := #[st, st] }) (hu : P.underlying st = some (.slice t)) (z : Value) (sz : Nat) (hi : (P.info? t).map (fun i => (i.zero, i.size, i.bytes)) = some (some z, e.cells, sz)) (hzc : z.cells.size = e.cells) (hc0 : 0 < e.cells)
    (x : e.T) (cs : List Value) (g : Nat) (hs : a.eval s = v) (hy : a.eval y = .slice (some ⟨g, 0, none⟩) 1 1) (hg : Blk w g t cs) (hown : OwnR lo w t e v xs) (hx : Rd (fun k => lo ≤ k ∧ v.ownBlock ≠ some k) w e cs x) (hlo : lo ≤ w.heap.size) (hb : (xs.length + 1) * sz ≤ 140737488355328) (hl : xs.length ≤ 2000000)
    (hK : ∀ v' w', OwnR lo w' t e v' (xs ++ [x]) → Kept (ownB v) w w' → K (a.put o.dst v') w') : o.wp P a w K Q := by
  obtain ⟨i0, hi, hz0, hz1, hz2⟩ := info_parts hi
  obtain ⟨css, h1, h2, h3⟩ := hown
  have hcl : cs.length = 1 * e.cells := by rw [hx.len, Nat.one_mul]
  have hnews : ∀ j u, cs[j]? = some u → w.cell? ((⟨g, 0, none⟩ : Addr).add j) = some u := by
    intro j u hj
    rw [add_plain, Nat.zero_add, hg.cell]
    exact hj
  obtain ⟨v', w', hr, ho, hgr, _, hloc⟩ := run_append_own_at (P := P) w lo st o.type t i0 z e.cells sz hu hi hz0 hz1 hz2 hzc hc0 v xs.length css.flatten h3 ⟨g, 0, none⟩ 1 1 cs hcl hnews hx.one (by unfold maxLen; omega) hb hlo
  have hk : Kept (ownB v) w w' := (Kept.refl _ _).grown hgr (fun k hk => .inl (mem_ownB.2 hk))
  have hmono : ∀ (cs' : List Value) (x' : e.T), Rd (fun k => lo ≤ k ∧ v.ownBlock ≠ some k) w e cs' x' → Rd (fun k => lo ≤ k ∧ v'.ownBlock ≠ some k) w' e cs' x' := by
    intro cs' x' h
    refine h.stay hk.size (fun k ho hlt => hk.block k hlt (fun hx => ho.2 (mem_ownB.1 hx))) (fun k ho hlt => ⟨ho.1, fun hv => ?_⟩)
    rcases hloc with h | h
    · rw [h] at hv
      exact ho.2 hv
    · rw [h] at hv
      have := Option.some.inj hv
      omega
  unfold Oper.wp execOp
  simp only [hop, resolve, invoke, builtin, Sem.run_bind, Sem.run_pure, Result.andThen_ok, List.map_toArray, List.map_cons, List.map_nil, hs, hy, hr]
  refine hK v' w' ⟨css ++ [cs], by simp [h1], fun i y hy => ?_, ?_⟩ hk
  · by_cases hi : i < xs.length
    · rw [List.getElem?_append_left hi] at hy
      obtain ⟨cs', h4, h5⟩ := h2 i y hy
      exact ⟨cs', by rw [List.getElem?_append_left (by omega)]; exact h4, hmono _ _ h5⟩
    · have hlt' := (List.getElem?_eq_some_iff.1 hy).1
      have : i = xs.length := by simp at hlt'; omega
      subst this
      simp at hy
      subst hy
      exact ⟨cs, by rw [← h1]; simp, hmono _ _ hx⟩
  · rw [List.flatten_append, List.length_append]
    simpa using ho

/-- An item's copy: its lists in rows of the region's own. -/
def Copied (w0 : World) (id : Nat) (vec : List Int) (tags : List ByteArray) (w : World) (v : Value) : Prop :=
  ∃ (a1 : Option Addr) (c1 : Nat) (a2 : Option Addr) (c2 : Nat), v = .agg #[.int .u32 (id : Int), .slice a1 vec.length c1, .slice a2 tags.length c2] ∧ w.ownsRow w0.heap.size 21 1 (.slice a1 vec.length c1) vec.length (vec.map (Value.int .i32)) ∧ w.ownsRow w0.heap.size 9 1 (.slice a2 tags.length c2) tags.length (tags.map Value.string)
theorem Copied.on {w0 w w' : World} {id : Nat} {vec : List Int} {tags : List ByteArray} {v : Value} (h : Copied w0 id vec tags w v) (hb : Below w.heap.size w w') : Copied w0 id vec tags w' v := by
  obtain ⟨a1, c1, a2, c2, e, h1, h2⟩ := h
  exact ⟨a1, c1, a2, c2, e, row_on h1 hb, row_on h2 hb⟩
theorem flatten_sing {α β : Type} (f : α → β) (l : List α) : (l.map fun x => [f x]).flatten = l.map f := by
  induction l with
  | nil => rfl
  | cons x l ih => simp [ih]
theorem rd_i32 {w : World} {lo : Nat} {a : Option Addr} {c : Nat} {vec : List Int} (h : w.ownsRow lo 21 1 (.slice a vec.length c) vec.length (vec.map (Value.int .i32))) (hw : ∀ x ∈ vec, (Lit.int .i32 x).wf = true) (hl : vec.length * 4 ≤ 140737488351232) : Rd (lo ≤ ·) w shVec [.slice a vec.length c] vec := by
  refine OwnR.rd (t := 21) (e := .int .i32) ⟨vec.map fun x => [.int .i32 x], List.length_map _, fun i x hx => ?_, ?_⟩ 4 (by decide) hl
  · have hx' : vec[i]? = some x := hx
    exact ⟨[.int .i32 x], by rw [List.getElem?_map, hx']; rfl, Rd.int_mk rfl (hw x (List.mem_of_getElem? hx'))⟩
  · rw [flatten_sing]
    exact h
theorem rd_strs {w : World} {lo : Nat} {a : Option Addr} {c : Nat} {tags : List ByteArray} (h : w.ownsRow lo 9 1 (.slice a tags.length c) tags.length (tags.map Value.string)) (hw : ∀ x ∈ tags, x.size ≤ 140737488351232) (hl : tags.length * 16 ≤ 140737488351232) : Rd (lo ≤ ·) w shTags [.slice a tags.length c] tags := by
  refine OwnR.rd (t := 9) (e := .str) ⟨tags.map fun x => [.string x], List.length_map _, fun i x hx => ?_, ?_⟩ 16 (by decide) hl
  · have hx' : tags[i]? = some x := hx
    exact ⟨[.string x], by rw [List.getElem?_map, hx']; rfl, Rd.str_mk rfl (hw x (List.mem_of_getElem? hx'))⟩
  · rw [flatten_sing]
    exact h
theorem o_idx10 (b off n c i : Nat) (w : World) (hi : i < n) : (Instr.indexAt 22 (.slice (some ⟨b, off, none⟩) n c) (.int .i64 (i : Int))).run Try.prog w = .ok (.pointer (some ⟨b, off + i * 3, none⟩)) w := by go_simp
theorem o_fld0 (b off : Nat) (w : World) : (Instr.fieldAt 44 (.pointer (some ⟨b, off, none⟩)) 0).run Try.prog w = .ok (.pointer (some ⟨b, off, none⟩)) w := by go_simp
theorem o_fld1 (b off : Nat) (w : World) : (Instr.fieldAt 44 (.pointer (some ⟨b, off, none⟩)) 1).run Try.prog w = .ok (.pointer (some ⟨b, off + 1, none⟩)) w := by go_simp
theorem o_fld2 (b off : Nat) (w : World) : (Instr.fieldAt 44 (.pointer (some ⟨b, off, none⟩)) 2).run Try.prog w = .ok (.pointer (some ⟨b, off + 2, none⟩)) w := by go_simp
theorem o_ld0 (b off id : Nat) (w : World) (h : w.cell? ⟨b, off, none⟩ = some (.int .u32 (id : Int))) : (Instr.loadAt 27 (.pointer (some ⟨b, off, none⟩))).run Try.prog w = .ok (.int .u32 (id : Int)) w := by go_simp
theorem o_ld1 (b off n c : Nat) (a : Option Addr) (w : World) (h : w.cell? ⟨b, off, none⟩ = some (.slice a n c)) : (Instr.loadAt 23 (.pointer (some ⟨b, off, none⟩))).run Try.prog w = .ok (.slice a n c) w := by go_simp
theorem o_ld2 (b off n c : Nat) (a : Option Addr) (w : World) (h : w.cell? ⟨b, off, none⟩ = some (.slice a n c)) : (Instr.loadAt 24 (.pointer (some ⟨b, off, none⟩))).run Try.prog w = .ok (.slice a n c) w := by go_simp
theorem o_bsi (w : World) : (Instr.buildSlice 23 0 #[]).run Try.prog w = .ok (.slice (some ⟨w.heap.size, 0, none⟩) 0 0) (w.alloc (.cells #[] 21)) := by go_simp
theorem o_bss (w : World) : (Instr.buildSlice 24 0 #[]).run Try.prog w = .ok (.slice (some ⟨w.heap.size, 0, none⟩) 0 0) (w.alloc (.cells #[] 9)) := by go_simp
theorem o_bld (id : Nat) (a1 a2 : Option Addr) (n1 c1 n2 c2 : Nat) (w : World) : (Instr.build 44 #[(0, .int .u32 (id : Int)), (1, .slice a1 n1 c1), (2, .slice a2 n2 c2)]).run Try.prog w = .ok (.agg #[.int .u32 (id : Int), .slice a1 n1 c1, .slice a2 n2 c2]) w := by go_simp
theorem o_bs1 (id : Nat) (a1 a2 : Option Addr) (n1 c1 n2 c2 : Nat) (w : World) : (Instr.buildSlice 22 1 #[(0, .agg #[.int .u32 (id : Int), .slice a1 n1 c1, .slice a2 n2 c2])]).run Try.prog w = .ok (.slice (some ⟨w.heap.size, 0, none⟩) 1 1) (w.alloc (.cells #[.int .u32 (id : Int), .slice a1 n1 c1, .slice a2 n2 c2] 44)) := by go_simp
theorem i32_info10 : (Try.prog.info? 21).map (fun i => (i.zero, i.size, i.bytes)) = some (some (.int .i32 0), 1, 4) := by kernel_rfl
theorem str_info10 : (Try.prog.info? 9).map (fun i => (i.zero, i.size, i.bytes)) = some (some (.string ⟨#[]⟩), 1, 16) := by kernel_rfl

def dsO (i : Nat) : Nat := if i = 23 then 11 else 26 + i
def factsO (w0 : World) (V : Value) (b off n c i id : Nat) (vec : List Int) (tags : List ByteArray) (va : Option Addr) (vn vc : Nat) (ta : Option Addr) (tn tc : Nat) (L : Nat → Bool) (j : Nat) (v : Value) (w : World) : Prop :=
  match j with
  | 0 => v = V
  | 1 => v = .slice (some ⟨b, off, none⟩) n c
  | 2 => v = .int .i64 (i : Int)
  | 3 => v = .pointer (some ⟨b, off + i * 3, none⟩)
  | 4 => v = .pointer (some ⟨b, off + i * 3, none⟩)
  | 5 => v = .int .u32 (id : Int)
  | 6 => L 12 = false → w.ownsRow w0.heap.size 21 1 v 0 []
  | 7 => v = .slice (some ⟨b, off, none⟩) n c
  | 8 => v = .int .i64 (i : Int)
  | 9 => v = .pointer (some ⟨b, off + i * 3, none⟩)
  | 10 => v = .pointer (some ⟨b, off + i * 3 + 1, none⟩)
  | 11 => v = .slice va vn vc
  | 12 => w.ownsRow w0.heap.size 21 1 v vec.length (vec.map (Value.int .i32))
  | 13 => L 19 = false → w.ownsRow w0.heap.size 9 1 v 0 []
  | 14 => v = .slice (some ⟨b, off, none⟩) n c
  | 15 => v = .int .i64 (i : Int)
  | 16 => v = .pointer (some ⟨b, off + i * 3, none⟩)
  | 17 => v = .pointer (some ⟨b, off + i * 3 + 2, none⟩)
  | 18 => v = .slice ta tn tc
  | 19 => w.ownsRow w0.heap.size 9 1 v tags.length (tags.map Value.string)
  | 20 => Copied w0 id vec tags w v
  | 21 => ∃ g x, v = .slice (some ⟨g, 0, none⟩) 1 1 ∧ w0.heap.size ≤ g ∧ Blk w g 44 x ∧ Copied w0 id vec tags w (.agg x.toArray)
  | _ => True
section
variable (w0 : World) (V : Value) (b off n c i id : Nat) (vec : List Int) (tags : List ByteArray) (va : Option Addr) (vn vc : Nat) (ta : Option Addr) (tn tc : Nat)
theorem factsO_on (L : Nat → Bool) (i' j : Nat) (v : Value) (w w' : World) (h : factsO w0 V b off n c i id vec tags va vn vc ta tn tc L j v w) (hb : Below w.heap.size w w') : factsO w0 V b off n c i id vec tags va vn vc ta tn tc (updN L i') j v w' := by
  have hu : ∀ k, updN L i' k = false → L k = false := fun k hk => by
    unfold updN at hk
    split at hk
    · cases hk
    · exact hk
  match j, h with
  | 0, h => exact h
  | 1, h => exact h
  | 2, h => exact h
  | 3, h => exact h
  | 4, h => exact h
  | 5, h => exact h
  | 6, h => exact fun hk => row_on (h (hu _ hk)) hb
  | 7, h => exact h
  | 8, h => exact h
  | 9, h => exact h
  | 10, h => exact h
  | 11, h => exact h
  | 12, h => exact row_on h hb
  | 13, h => exact fun hk => row_on (h (hu _ hk)) hb
  | 14, h => exact h
  | 15, h => exact h
  | 16, h => exact h
  | 17, h => exact h
  | 18, h => exact h
  | 19, h => exact row_on h hb
  | 20, h => exact Copied.on h hb
  | 21, h =>
    obtain ⟨g, x, e, h1, h2, h3⟩ := h
    exact ⟨g, x, e, h1, h2.of_eq (hb.block _ h2.lt), h3.on hb⟩
  | _ + 22, _ => exact trivial

set_option maxHeartbeats 6400000 in
theorem own_region10 {rid : Nat} {ops : Array Oper} {Q : Exit → Act → World → Prop} {T0 : Array Value} (lo : Nat) (ws : List shItem.T)
    (hsize : ops.size = 24) (hb : edgesB ops = true) (hlead : leadsB ops 22 = true)
    (op0 : OpIs ops 0 (.move (.tmp 11)) (some 26) [])
    (op1 : OpIs ops 1 (.move (.tmp 1)) (some 27) [])
    (op2 : OpIs ops 2 (.move (.tmp 12)) (some 28) [])
    (op3 : OpIs ops 3 (.indexAddr 22 (.tmp 27) (.tmp 28)) (some 29) [1, 2])
    (op4 : OpIs ops 4 (.fieldAddr 44 (.tmp 29) 0) (some 30) [3])
    (op5 : OpIs ops 5 (.load 27 (.tmp 30)) (some 31) [4])
    (op6 : OpIs ops 6 (.buildSlice 23 0 #[]) (some 32) [])
    (op7 : OpIs ops 7 (.move (.tmp 1)) (some 33) [])
    (op8 : OpIs ops 8 (.move (.tmp 12)) (some 34) [])
    (op9 : OpIs ops 9 (.indexAddr 22 (.tmp 33) (.tmp 34)) (some 35) [7, 8])
    (op10 : OpIs ops 10 (.fieldAddr 44 (.tmp 35) 1) (some 36) [9])
    (op11 : OpIs ops 11 (.load 23 (.tmp 36)) (some 37) [10])
    (op12 : OpIs ops 12 (.call { callee := .builtin .append, args := #[.tmp 32, .tmp 37], argTypes := #[23, 23] }) (some 38) [6, 11])
    (op13 : OpIs ops 13 (.buildSlice 24 0 #[]) (some 39) [])
    (op14 : OpIs ops 14 (.move (.tmp 1)) (some 40) [])
    (op15 : OpIs ops 15 (.move (.tmp 12)) (some 41) [])
    (op16 : OpIs ops 16 (.indexAddr 22 (.tmp 40) (.tmp 41)) (some 42) [14, 15])
    (op17 : OpIs ops 17 (.fieldAddr 44 (.tmp 42) 2) (some 43) [16])
    (op18 : OpIs ops 18 (.load 24 (.tmp 43)) (some 44) [17])
    (op19 : OpIs ops 19 (.call { callee := .builtin .append, args := #[.tmp 39, .tmp 44], argTypes := #[24, 24] }) (some 45) [13, 18])
    (op20 : OpIs ops 20 (.build 44 #[(0, .tmp 31), (1, .tmp 38), (2, .tmp 45)]) (some 46) [5, 12, 19])
    (op21 : OpIs ops 21 (.buildSlice 22 1 #[(0, .tmp 46)]) (some 47) [20])
    (op22 : OpIs ops 22 (.call { callee := .builtin .append, args := #[.tmp 26, .tmp 47], argTypes := #[22, 22] }) (some 48) [0, 21])
    (op23 : OpIs ops 23 (.assign (.tmp 48)) (some 11) [22])
    (hT : T0.size = 80) (t1 : T0[1]? = some (.slice (some ⟨b, off, none⟩) n c)) (t11 : T0[11]? = some V) (t12 : T0[12]? = some (.int .i64 (i : Int))) (hi : i < n)
    (k0 : w0.cell? ⟨b, off + i * 3, none⟩ = some (.int .u32 (id : Int))) (k1 : w0.cell? ⟨b, off + i * 3 + 1, none⟩ = some (.slice va vn vc)) (k2 : w0.cell? ⟨b, off + i * 3 + 2, none⟩ = some (.slice ta tn tc)) (lt : b < w0.heap.size) (hid : id ≤ 4294967295)
    (r1 : Rd (fun _ => True) w0 shVec [.slice va vn vc] vec) (r2 : Rd (fun _ => True) w0 shTags [.slice ta tn tc] tags) (hV : OwnR lo w0 44 shItem V ws) (hlo : lo ≤ w0.heap.size) (hws : ws.length ≤ 1000)
    (hQ : ∀ E w', OwnR lo w' 44 shItem (E 22) (ws ++ [mkI id vec tags]) → E 23 = E 22 → Below lo w0 w' → Q .normal ⟨filledR T0 dsO E 24, []⟩ w') :
    (Code.region rid ops true).wp Try.prog Q ⟨T0, []⟩ w0 := by
  obtain ⟨_, _, _, hcs1, hl1, hm1, hn1, hc1, hz1, hcc1⟩ := Rd.slice_part (e := .int .i32) (xs := vec) r1
  simp only [List.cons.injEq, Value.slice.injEq, and_true] at hcs1
  obtain ⟨rfl, rfl, rfl⟩ := hcs1
  obtain ⟨_, _, _, hcs2, hl2, hm2, hn2, hc2, hz2, hcc2⟩ := Rd.slice_part (e := .str) (xs := tags) r2
  simp only [List.cons.injEq, Value.slice.injEq, and_true] at hcs2
  obtain ⟨rfl, rfl, rfl⟩ := hcs2
  have hwf1 := (Rd.ints r1 rfl).wf
  replace hl1 : vec.length = vn := hl1
  replace hl2 : tags.length = tn := hl2
  have hst2 : ∀ x ∈ tags, x.size ≤ 140737488351232 := by
    intro x hx
    obtain ⟨k, hk⟩ := List.getElem?_of_mem hx
    have hk1 := (List.getElem?_eq_some_iff.1 hk).1
    rcases hcc2 with h | ⟨bb, oo, e, _, hlt, hcc⟩
    · omega
    · obtain ⟨vs, _, _, hv3⟩ := hcc k x hk
      exact (Rd.str_is (x := x) hv3).2
  have hinj : ∀ p q, p < ops.size → q < ops.size → dsO p = dsO q → p = q := by
    intro p q hp hq
    unfold dsO
    split <;> split <;> omega
  have hds : ∀ p, p < ops.size → dsO p < T0.size := by
    intro p hp
    unfold dsO
    split <;> omega
  refine wp_grow2 w0 dsO (factsO w0 V b off n c i id vec tags va vn vc ta tn tc) (fun a w => a.tmps.size = T0.size ∧ a.defers = [] ∧ (∀ k, (∀ j, j < 23 → dsO j ≠ k) → a.tmps[k]? = T0[k]?) ∧ OwnR lo w 44 shItem (a.tmps.getD 48 undef) (ws ++ [mkI id vec tags]) ∧ Below lo w0 w) 22 (by kernel_rfl) hb hsize hlead (fun o ho => (op23.useG ho).2.2.2 22 (by simp)) (factsO_on w0 V b off n c i id vec tags va vn vc ta tn tc) hinj hds ?_ ?_ ?_
  · intro l a w j o hI ho hj hl hl22 hl23 hd K hK
    have far : ∀ k, k = 1 ∨ k = 11 ∨ k = 12 → ∀ p, p < ops.size → l.getD p false = true → dsO p ≠ k := by
      intro k hk p hp hlp
      unfold dsO
      split
      · next h => subst h; rw [hl23] at hlp; cases hlp
      · omega
    have e1 : a.eval (.tmp 1) = .slice (some ⟨b, off, none⟩) n c := hI.ev 1 _ t1 (far 1 (by simp))
    have e11 : a.eval (.tmp 11) = V := hI.ev 11 _ t11 (far 11 (by simp))
    have e12 : a.eval (.tmp 12) = .int .i64 (i : Int) := hI.ev 12 _ t12 (far 12 (by simp))
    have hw0 := hI.below.size
    have q0 := (hI.below.cell (p := ⟨b, off + i * 3, none⟩) lt).trans k0
    have q1 := (hI.below.cell (p := ⟨b, off + i * 3 + 1, none⟩) lt).trans k1
    have q2 := (hI.below.cell (p := ⟨b, off + i * 3 + 2, none⟩) lt).trans k2
    have hcase : j = 0 ∨ j = 1 ∨ j = 2 ∨ j = 3 ∨ j = 4 ∨ j = 5 ∨ j = 6 ∨ j = 7 ∨ j = 8 ∨ j = 9 ∨ j = 10 ∨ j = 11 ∨ j = 12 ∨ j = 13 ∨ j = 14 ∨ j = 15 ∨ j = 16 ∨ j = 17 ∨ j = 18 ∨ j = 19 ∨ j = 20 ∨ j = 21 := by omega
    rcases hcase with rfl | rfl | rfl | rfl | rfl | rfl | rfl | rfl | rfl | rfl | rfl | rfl | rfl | rfl | rfl | rfl | rfl | rfl | rfl | rfl | rfl | rfl
    · obtain ⟨hop, hdst, hgd, hL⟩ := op0.useG ho
      refine g_if hgd (g_move hop ?_)
      rw [hdst]
      exact hK _ _ (show a.eval (.tmp 11) = V from e11) (.inl (Below.refl _ _))
    · obtain ⟨hop, hdst, hgd, hL⟩ := op1.useG ho
      refine g_if hgd (g_move hop ?_)
      rw [hdst]
      exact hK _ _ (show a.eval (.tmp 1) = _ from e1) (.inl (Below.refl _ _))
    · obtain ⟨hop, hdst, hgd, hL⟩ := op2.useG ho
      refine g_if hgd (g_move hop ?_)
      rw [hdst]
      exact hK _ _ (show a.eval (.tmp 12) = _ from e12) (.inl (Below.refl _ _))
    · obtain ⟨hop, hdst, hgd, hL⟩ := op3.useG ho
      refine g_if hgd (g_index hop (hI.slot 1 (by decide) (hd 1 (hL 1 (by simp)))) (hI.slot 2 (by decide) (hd 2 (hL 2 (by simp)))) (o_idx10 b off n c i w hi) ?_)
      rw [hdst]
      exact hK _ _ (show _ = _ from rfl) (.inl (Below.refl _ _))
    · obtain ⟨hop, hdst, hgd, hL⟩ := op4.useG ho
      refine g_if hgd (g_field hop (hI.slot 3 (by decide) (hd 3 (hL 3 (by simp)))) (o_fld0 b (off + i * 3) w) ?_)
      rw [hdst]
      exact hK _ _ (show _ = _ from rfl) (.inl (Below.refl _ _))
    · obtain ⟨hop, hdst, hgd, hL⟩ := op5.useG ho
      refine g_if hgd (g_load hop (hI.slot 4 (by decide) (hd 4 (hL 4 (by simp)))) (o_ld0 b (off + i * 3) id w q0) ?_)
      rw [hdst]
      exact hK _ _ (show _ = _ from rfl) (.inl (Below.refl _ _))
    · obtain ⟨hop, hdst, hgd, hL⟩ := op6.useG ho
      refine g_if hgd (g_bs0 hop (o_bsi w) ?_)
      rw [hdst]
      exact hK _ _ (fun _ => row_made _ 1 hw0) (.inl ((Below.refl _ w).alloc (Nat.le_refl _) _))
    · obtain ⟨hop, hdst, hgd, hL⟩ := op7.useG ho
      refine g_if hgd (g_move hop ?_)
      rw [hdst]
      exact hK _ _ (show a.eval (.tmp 1) = _ from e1) (.inl (Below.refl _ _))
    · obtain ⟨hop, hdst, hgd, hL⟩ := op8.useG ho
      refine g_if hgd (g_move hop ?_)
      rw [hdst]
      exact hK _ _ (show a.eval (.tmp 12) = _ from e12) (.inl (Below.refl _ _))
    · obtain ⟨hop, hdst, hgd, hL⟩ := op9.useG ho
      refine g_if hgd (g_index hop (hI.slot 7 (by decide) (hd 7 (hL 7 (by simp)))) (hI.slot 8 (by decide) (hd 8 (hL 8 (by simp)))) (o_idx10 b off n c i w hi) ?_)
      rw [hdst]
      exact hK _ _ (show _ = _ from rfl) (.inl (Below.refl _ _))
    · obtain ⟨hop, hdst, hgd, hL⟩ := op10.useG ho
      refine g_if hgd (g_field hop (hI.slot 9 (by decide) (hd 9 (hL 9 (by simp)))) (o_fld1 b (off + i * 3) w) ?_)
      rw [hdst]
      exact hK _ _ (show _ = _ from rfl) (.inl (Below.refl _ _))
    · obtain ⟨hop, hdst, hgd, hL⟩ := op11.useG ho
      refine g_if hgd (g_load hop (hI.slot 10 (by decide) (hd 10 (hL 10 (by simp)))) (o_ld1 b (off + i * 3 + 1) vn vc va w q1) ?_)
      rw [hdst]
      exact hK _ _ (show _ = _ from rfl) (.inl (Below.refl _ _))
    · obtain ⟨hop, hdst, hgd, hL⟩ := op12.useG ho
      have hrow := (hI.slot 6 (by decide) (hd 6 (hL 6 (by simp)))) hl
      have hcells : vn = 0 ∨ ∃ b off, va = some ⟨b, off, none⟩ ∧ ∀ i, i < vn * 1 → w.cell? ⟨b, off + i, none⟩ = (vec.map (Value.int .i32))[i]? := by
        rcases hcc1 with h | ⟨bb, oo, e, _, hlt, hcc⟩
        · exact .inl h
        · refine .inr ⟨bb, oo, e, fun i hi => ?_⟩
          rw [Nat.mul_one] at hi
          obtain ⟨x, hx⟩ : ∃ x, vec[i]? = some x := ⟨_, List.getElem?_eq_getElem (by omega)⟩
          obtain ⟨vs, hv1, hv2, hv3⟩ := hcc i x hx
          have h0 := hv2 0 (by decide)
          rw [(hI.below.cell (p := ⟨bb, oo + i, none⟩) hlt), List.getElem?_map, hx]
          obtain ⟨rfl, _⟩ := Rd.int_is (x := x) hv3
          simpa [Sh.cells] using h0
      refine g_if hgd (g_app0 (.tmp 32) (.tmp 37) 23 21 hop Try.underlying23 (.int .i32 0) 1 4 i32_info10 rfl (by decide) w0.heap.size rfl hrow va vn vc (vec.map (Value.int .i32)) (hI.slot 11 (by decide) (hd 11 (hL 11 (by simp)))) (by simp [hl1]) hz1 hcells (by simp [Value.oneCell']) (by omega) (by omega) hw0 ?_)
      intro v' w' g1 g2
      rw [hdst]
      rw [← hl1] at g1
      refine hK _ _ g1 (.inr ⟨(Below.refl _ w).grown g2 hw0 (fun k hk => (World.ownsRow.lt hrow k hk).1), fun p u hp hf => ?_⟩)
      have hkk : Kept (ownB (a.eval (.tmp 32))) w w' := (Kept.refl _ _).grown g2 (fun k hk => .inl (mem_ownB.2 hk))
      have hno : ∀ p' o', ops[p']? = some o' → waits o' 12 = true → Lof l p' = true → False := fun p' o' ho' hw' hp' => by
        have := hI.closed p' o' ho' hp' 12 hw'
        rw [hl] at this
        cases this
      have h20 : Lof l 20 = true → False := fun h => hno 20 _ op20.choose_spec.1 ((op20.useG op20.choose_spec.1).2.2.2 12 (by simp)) h
      match p, hf, hp with
      | 0, hf, _ => exact hf
      | 1, hf, _ => exact hf
      | 2, hf, _ => exact hf
      | 3, hf, _ => exact hf
      | 4, hf, _ => exact hf
      | 5, hf, _ => exact hf
      | 6, _, _ => exact fun hk => by simp [updN] at hk
      | 7, hf, _ => exact hf
      | 8, hf, _ => exact hf
      | 9, hf, _ => exact hf
      | 10, hf, _ => exact hf
      | 11, hf, _ => exact hf
      | 12, _, hp => exact absurd hp (by unfold Lof; rw [hl]; simp)
      | 13, hf, _ => exact fun hk => hkk.own (hf (by simpa [updN] using hk)) (fun g hg hh => rows_apart hrow (hf (by simpa [updN] using hk)) (by decide) g (mem_ownB.1 hh) hg)
      | 14, hf, _ => exact hf
      | 15, hf, _ => exact hf
      | 16, hf, _ => exact hf
      | 17, hf, _ => exact hf
      | 18, hf, _ => exact hf
      | 19, hf, _ => exact hkk.own hf (fun g hg hh => rows_apart hrow hf (by decide) g (mem_ownB.1 hh) hg)
      | 20, _, hp => exact (h20 hp).elim
      | 21, _, hp => exact (h20 (hI.closed 21 _ op21.choose_spec.1 hp 20 ((op21.useG op21.choose_spec.1).2.2.2 20 (by simp)))).elim
      | _ + 22, _, _ => exact trivial
    · obtain ⟨hop, hdst, hgd, hL⟩ := op13.useG ho
      refine g_if hgd (g_bs0 hop (o_bss w) ?_)
      rw [hdst]
      exact hK _ _ (fun _ => row_made _ 1 hw0) (.inl ((Below.refl _ w).alloc (Nat.le_refl _) _))
    · obtain ⟨hop, hdst, hgd, hL⟩ := op14.useG ho
      refine g_if hgd (g_move hop ?_)
      rw [hdst]
      exact hK _ _ (show a.eval (.tmp 1) = _ from e1) (.inl (Below.refl _ _))
    · obtain ⟨hop, hdst, hgd, hL⟩ := op15.useG ho
      refine g_if hgd (g_move hop ?_)
      rw [hdst]
      exact hK _ _ (show a.eval (.tmp 12) = _ from e12) (.inl (Below.refl _ _))
    · obtain ⟨hop, hdst, hgd, hL⟩ := op16.useG ho
      refine g_if hgd (g_index hop (hI.slot 14 (by decide) (hd 14 (hL 14 (by simp)))) (hI.slot 15 (by decide) (hd 15 (hL 15 (by simp)))) (o_idx10 b off n c i w hi) ?_)
      rw [hdst]
      exact hK _ _ (show _ = _ from rfl) (.inl (Below.refl _ _))
    · obtain ⟨hop, hdst, hgd, hL⟩ := op17.useG ho
      refine g_if hgd (g_field hop (hI.slot 16 (by decide) (hd 16 (hL 16 (by simp)))) (o_fld2 b (off + i * 3) w) ?_)
      rw [hdst]
      exact hK _ _ (show _ = _ from rfl) (.inl (Below.refl _ _))
    · obtain ⟨hop, hdst, hgd, hL⟩ := op18.useG ho
      refine g_if hgd (g_load hop (hI.slot 17 (by decide) (hd 17 (hL 17 (by simp)))) (o_ld2 b (off + i * 3 + 2) tn tc ta w q2) ?_)
      rw [hdst]
      exact hK _ _ (show _ = _ from rfl) (.inl (Below.refl _ _))
    · obtain ⟨hop, hdst, hgd, hL⟩ := op19.useG ho
      have hrow := (hI.slot 13 (by decide) (hd 13 (hL 13 (by simp)))) hl
      have hcells : tn = 0 ∨ ∃ b off, ta = some ⟨b, off, none⟩ ∧ ∀ i, i < tn * 1 → w.cell? ⟨b, off + i, none⟩ = (tags.map (Value.string))[i]? := by
        rcases hcc2 with h | ⟨bb, oo, e, _, hlt, hcc⟩
        · exact .inl h
        · refine .inr ⟨bb, oo, e, fun i hi => ?_⟩
          rw [Nat.mul_one] at hi
          obtain ⟨x, hx⟩ : ∃ x, tags[i]? = some x := ⟨_, List.getElem?_eq_getElem (by omega)⟩
          obtain ⟨vs, hv1, hv2, hv3⟩ := hcc i x hx
          have h0 := hv2 0 (by decide)
          rw [(hI.below.cell (p := ⟨bb, oo + i, none⟩) hlt), List.getElem?_map, hx]
          obtain ⟨rfl, _⟩ := Rd.str_is (x := x) hv3
          simpa [Sh.cells] using h0
      refine g_if hgd (g_app0 (.tmp 39) (.tmp 44) 24 9 hop Try.underlying24 (.string ⟨#[]⟩) 1 16 str_info10 rfl (by decide) w0.heap.size rfl hrow ta tn tc (tags.map (Value.string)) (hI.slot 18 (by decide) (hd 18 (hL 18 (by simp)))) (by simp [hl2]) hz2 hcells (by simp [Value.oneCell']) (by omega) (by omega) hw0 ?_)
      intro v' w' g1 g2
      rw [hdst]
      rw [← hl2] at g1
      refine hK _ _ g1 (.inr ⟨(Below.refl _ w).grown g2 hw0 (fun k hk => (World.ownsRow.lt hrow k hk).1), fun p u hp hf => ?_⟩)
      have hkk : Kept (ownB (a.eval (.tmp 39))) w w' := (Kept.refl _ _).grown g2 (fun k hk => .inl (mem_ownB.2 hk))
      have hno : ∀ p' o', ops[p']? = some o' → waits o' 19 = true → Lof l p' = true → False := fun p' o' ho' hw' hp' => by
        have := hI.closed p' o' ho' hp' 19 hw'
        rw [hl] at this
        cases this
      have h20 : Lof l 20 = true → False := fun h => hno 20 _ op20.choose_spec.1 ((op20.useG op20.choose_spec.1).2.2.2 19 (by simp)) h
      match p, hf, hp with
      | 0, hf, _ => exact hf
      | 1, hf, _ => exact hf
      | 2, hf, _ => exact hf
      | 3, hf, _ => exact hf
      | 4, hf, _ => exact hf
      | 5, hf, _ => exact hf
      | 6, hf, _ => exact fun hk => hkk.own (hf (by simpa [updN] using hk)) (fun g hg hh => rows_apart hrow (hf (by simpa [updN] using hk)) (by decide) g (mem_ownB.1 hh) hg)
      | 7, hf, _ => exact hf
      | 8, hf, _ => exact hf
      | 9, hf, _ => exact hf
      | 10, hf, _ => exact hf
      | 11, hf, _ => exact hf
      | 12, hf, _ => exact hkk.own hf (fun g hg hh => rows_apart hrow hf (by decide) g (mem_ownB.1 hh) hg)
      | 13, _, _ => exact fun hk => by simp [updN] at hk
      | 14, hf, _ => exact hf
      | 15, hf, _ => exact hf
      | 16, hf, _ => exact hf
      | 17, hf, _ => exact hf
      | 18, hf, _ => exact hf
      | 19, _, hp => exact absurd hp (by unfold Lof; rw [hl]; simp)
      | 20, _, hp => exact (h20 hp).elim
      | 21, _, hp => exact (h20 (hI.closed 21 _ op21.choose_spec.1 hp 20 ((op21.useG op21.choose_spec.1).2.2.2 20 (by simp)))).elim
      | _ + 22, _, _ => exact trivial
    · obtain ⟨hop, hdst, hgd, hL⟩ := op20.useG ho
      have o1 := (hI.slot 12 (by decide) (hd 12 (hL 12 (by simp))))
      have o2 := (hI.slot 19 (by decide) (hd 19 (hL 19 (by simp))))
      obtain ⟨a1, c1, f1⟩ := row_form o1
      obtain ⟨a2, c2, f2⟩ := row_form o2
      rw [f1] at o1
      rw [f2] at o2
      refine g_if hgd (g_build3 hop (hI.slot 5 (by decide) (hd 5 (hL 5 (by simp)))) f1 f2 (o_bld id a1 a2 vec.length c1 tags.length c2 w) ?_)
      rw [hdst]
      exact hK _ _ (show Copied w0 id vec tags w _ from ⟨a1, c1, a2, c2, rfl, o1, o2⟩) (.inl (Below.refl _ _))
    · obtain ⟨hop, hdst, hgd, hL⟩ := op21.useG ho
      obtain ⟨a1, c1, a2, c2, f, o1, o2⟩ := (hI.slot 20 (by decide) (hd 20 (hL 20 (by simp))))
      have hbb := (Below.refl _ w).alloc (Nat.le_refl _) (.cells #[.int .u32 (id : Int), .slice a1 vec.length c1, .slice a2 tags.length c2] 44)
      refine g_if hgd (g_bs1 hop f (o_bs1 id a1 a2 vec.length c1 tags.length c2 w) ?_)
      rw [hdst]
      exact hK _ _ ⟨w.heap.size, [.int .u32 (id : Int), .slice a1 vec.length c1, .slice a2 tags.length c2], rfl, hw0, Blk.new w _ _, a1, c1, a2, c2, rfl, row_on o1 hbb, row_on o2 hbb⟩ (.inl hbb)
  · intro a w o ho hfar htsz hdf hbel hfacts K hK
    obtain ⟨L, _, _, hf⟩ := hfacts
    obtain ⟨hop, hdst, hgd, hL⟩ := op22.useG ho
    have e0 : a.eval (.tmp 26) = V := hf 0 (by decide)
    obtain ⟨g, x, e1, hg, hblk, a1, c1, a2, c2, hx, o1, o2⟩ := hf 21 (by decide)
    have hx2 : x = [.int .u32 (id : Int), .slice a1 vec.length c1, .slice a2 tags.length c2] := by
      have := congrArg (fun v => match v with | Value.agg y => y.toList | _ => []) hx
      simpa using this
    subst hx2
    have hV' := hV.on hbel
    have hVlt := hV.lt
    have d1 := (rd_i32 o1 hwf1 (by omega)).mono (ok' := fun k => lo ≤ k ∧ V.ownBlock ≠ some k) fun k hk _ => ⟨by omega, fun h => by have := (hVlt k h).2; omega⟩
    have d2 := (rd_strs o2 hst2 (by omega)).mono (ok' := fun k => lo ≤ k ∧ V.ownBlock ≠ some k) fun k hk _ => ⟨by omega, fun h => by have := (hVlt k h).2; omega⟩
    have hrd : Rd (fun k => lo ≤ k ∧ V.ownBlock ≠ some k) w shItem [.int .u32 (id : Int), .slice a1 vec.length c1, .slice a2 tags.length c2] (mkI id vec tags) := by
      refine Rd.pair_mk (c1 := [.int .u32 (id : Int)]) (c2 := [.slice a1 vec.length c1, .slice a2 tags.length c2]) rfl (Rd.int_mk rfl ?_) (Rd.pair_mk (c1 := [.slice a1 vec.length c1]) (c2 := [.slice a2 tags.length c2]) rfl d1 (Rd.pair_mk (c1 := [.slice a2 tags.length c2]) (c2 := []) rfl d2 (Rd.unit_mk rfl)))
      show (Lit.int .u32 (id : Int)).wf = true
      simp [Lit.wf, IntKind.min, IntKind.max, IntKind.signed, IntKind.bits]
      omega
    refine g_if hgd (g_appR (e := shItem) (.tmp 26) (.tmp 47) 22 hop Try.underlying22 (.agg #[.int .u32 0, .slice none 0 0, .slice none 0 0]) 56 item_info10 rfl (by decide) (mkI id vec tags) _ g e0 e1 hblk hV' hrd (Nat.le_trans hlo hbel.size) (by omega) (by omega) ?_)
    intro v' w' hown hk
    rw [hdst]
    refine hK _ _ ⟨by simp [Act.put, htsz], hdf, fun k hkk => ?_, ?_, ?_⟩
    · rw [← hfar k fun j hj => hkk j (by omega)]
      have := hkk 22 (by decide)
      simp [Act.put, show ¬ 48 = k from this]
    · have : (a.put (some 48) v').tmps.getD 48 undef = v' := by
        show (a.tmps.setIfInBounds 48 v').getD 48 undef = v'
        rw [Array.getD_eq_getD_getElem?, Array.getElem?_setIfInBounds]
        simp [htsz, hT]
      rw [this]
      exact hown
    · exact (hbel.mono hlo).trans (hk.below (fun x hx => (hVlt x (mem_ownB.1 hx)).1) (Nat.le_trans hlo hbel.size))
  · rintro a w o ho ⟨htsz, hdf, hfar, hown, hbel⟩ K hK
    obtain ⟨hop, hdst, hgd, hL⟩ := op23.useG ho
    refine g_if hgd (g_assign hop ?_)
    rw [hdst]
    refine hK _ _ ?_
    have hz : (a.put (some 11) (a.eval (.tmp 48))).tmps.size = T0.size := by simp [Act.put, htsz]
    have hfz : ∀ k, (∀ i, i < 24 → dsO i ≠ k) → (a.put (some 11) (a.eval (.tmp 48))).tmps[k]? = T0[k]? := fun k hk => by
      rw [← hfar k fun j hj => hk j (by omega)]
      have := hk 23 (by decide)
      simp [Act.put, show ¬ 11 = k from this]
    have e := filledR_eq 24 hz hfz
    have g48 : (a.put (some 11) (a.eval (.tmp 48))).tmps.getD 48 undef = a.tmps.getD 48 undef := by
      show (a.tmps.setIfInBounds 11 _).getD 48 undef = _
      rw [Array.getD_eq_getD_getElem?, Array.getD_eq_getD_getElem?, Array.getElem?_setIfInBounds]
      simp
    have g11 : (a.put (some 11) (a.eval (.tmp 48))).tmps.getD 11 undef = a.tmps.getD 48 undef := by
      show (a.tmps.setIfInBounds 11 (a.tmps.getD 48 undef)).getD 11 undef = _
      rw [Array.getD_eq_getD_getElem? (i := 11), Array.getElem?_setIfInBounds]
      simp [htsz, hT]
    have := hQ (fun i => (a.put (some 11) (a.eval (.tmp 48))).tmps.getD (dsO i) undef) w (by show OwnR lo w _ shItem ((a.put (some 11) (a.eval (.tmp 48))).tmps.getD 48 undef) _; rw [g48]; exact hown) (by show (a.put (some 11) (a.eval (.tmp 48))).tmps.getD 11 undef = (a.put (some 11) (a.eval (.tmp 48))).tmps.getD 48 undef; rw [g48, g11]) hbel
    rw [← e] at this
    have hd2 : (a.put (some 11) (a.eval (.tmp 48))) = ⟨(a.put (some 11) (a.eval (.tmp 48))).tmps, []⟩ := by
      cases a
      simp only at hdf
      subst hdf
      rfl
    rw [hd2]
    exact this
end
end Go.Proofs.Yteaomjabanhblaa
