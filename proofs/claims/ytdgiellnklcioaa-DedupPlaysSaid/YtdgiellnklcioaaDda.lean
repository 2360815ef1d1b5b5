/-
  Of XDda0 what a seat holds that lacks some functions (made by tools/autopick.py).
-/
import Derived.Test.YtdgiellnklcioaaEm
import Derived.Test.YtdgiellnklcioaaMg
import Derived.Deep.DeepMust
import Derived.Deep.RegionLaw
import Derived.Deep.QuietTactic
import Derived.BigQuiet
import Derived.Deep.DeepCutAuto
import Derived.OwnWalk
import Derived.BigRegion
import Derived.RegionTactic
import Derived.Deep.RegionHeld3
namespace Go.Proofs.Ytdgiellnklcioaa
open Go.RowKit Go.ChangeShapes Go.WideShapes Go.ChangeAt

/-- An item's letters. -/
structure ItL where
  id : Nat
  pv : Option Addr × Nat × Nat
  pt : Option Addr × Nat × Nat
  vec : List Int
  tags : List ByteArray
def ItL.cells (x : ItL) : List Value := [.int .u32 (x.id : Int), .slice x.pv.1 x.pv.2.1 x.pv.2.2, .slice x.pt.1 x.pt.2.1 x.pt.2.2]
def ItL.toI (x : ItL) : ItemV := ⟨x.id, x.vec, toTags x.tags⟩
structure ItL.In (ok : Nat → Prop) (w : World) (x : ItL) : Prop where
  hid : x.id < 4294967296
  hvec : Rd ok w shVec [.slice x.pv.1 x.pv.2.1 x.pv.2.2] x.vec
  htags : Rd ok w shTags [.slice x.pt.1 x.pt.2.1 x.pt.2.2] x.tags
theorem ItL.In.under {B : Nat} {w w' : World} {x : ItL} (h : x.In (· < B) w) (hb : Below B w w') : x.In (· < B) w' :=
  ⟨h.hid, h.hvec.under hb, h.htags.under hb⟩
theorem item_info3 : (Try.prog.info? 71).map (fun i => (i.zero, i.size, i.bytes)) = some (some (.agg #[.int .u32 0, .slice none 0 0, .slice none 0 0]), 3, 56) := by kernel_rfl
theorem RowC.mono {lo lo' : Nat} {w : World} {t : TypeId} {k : Nat} {v : Value} {css : List (List Value)} (h : RowC lo w t k v css) (hl : lo' ≤ lo) : RowC lo' w t k v css := by
  refine ⟨h.1, h.2.1, ?_⟩
  rcases h.2.2 with h2 | ⟨g, cap, cur, h1, h2, h3⟩
  · exact .inl h2
  · exact .inr ⟨g, cap, cur, h1, Nat.le_trans hl h2, h3⟩
theorem take_snoc {α : Type} {l : List α} {j : Nat} {y : α} (h : l[j]? = some y) : l.take (j + 1) = l.take j ++ [y] := by
  rw [List.take_add_one, h]
  rfl

theorem three_set {w w1 : World} {g : Nat} {t : TypeId} {z0 z1 z2 : Value} (c0 c1 c2 : Value) (h : Blk w1 g t [z0, z1, z2]) (hb : Below w.heap.size w w1) (hg : w.heap.size ≤ g) :
    (((w1.setCell ⟨g, 0, none⟩ c0).setCell ⟨g, 1, none⟩ c1).setCell ⟨g, 2, none⟩ c2).heap[g]? = some (.cells #[c0, c1, c2] t (0, 0)) ∧ Below w.heap.size w (((w1.setCell ⟨g, 0, none⟩ c0).setCell ⟨g, 1, none⟩ c1).setCell ⟨g, 2, none⟩ c2) :=
  ⟨((h.set 0 c0).set 1 c1).set 2 c2, ((hb.setCell (p := ⟨g, 0, none⟩) hg _).setCell (p := ⟨g, 1, none⟩) hg _).setCell (p := ⟨g, 2, none⟩) hg _⟩
theorem item_info8 : (Try.prog.info? 71).map (·.size) = some 3 := by kernel_rfl

theorem rd_item_mk {ok : Nat → Prop} {w : World} {id : Nat} {c1 c2 : Value} {vec : List Int} {tags : List ByteArray} (hid : id < 4294967296) (h1 : Rd ok w shVec [c1] vec) (h2 : Rd ok w shTags [c2] tags) : Rd ok w shItem [.int .u32 (id : Int), c1, c2] ((id : Int), vec, tags, ()) :=
  Rd.pair_mk (c1 := [.int .u32 (id : Int)]) (c2 := [c1, c2]) rfl (Rd.int_mk rfl (by simp [Lit.wf, IntKind.min, IntKind.max, IntKind.signed, IntKind.bits]; omega)) (Rd.pair_mk (c1 := [c1]) (c2 := [c2]) rfl h1 (Rd.pair_mk (c1 := [c2]) (c2 := []) rfl h2 (Rd.unit_mk rfl)))

/-- append(v, x) as one step of a region that draws, x one struct that the text has laid as a row of one. -/
theorem step_c {P : Program} {ops : Array Oper} {o : Oper} {act : Act} {K : Act → World → Prop} {Q : Exit → Act → World → Prop} {E : Prop} {lo k : Nat} {t : TypeId} {v : Value} {css : List (List Value)} (w : World) (hg : o.guard = none) (s y : Operand) (st : TypeId)
    (hop : o.op = .call { callee := .builtin .append, args := #[s, y], argTypes := #[st, st] }) (hu : P.underlying st = some (.slice t)) (z : Value) (sz : Nat) (hi : (P.info? t).map (fun i => (i.zero, i.size, i.bytes)) = some (some z, k, sz)) (hzc : z.cells.size = k) (hc0 : 0 < k)
    (cs : List Value) (hs : act.eval s = v) (hy : act.eval y = .slice (some ⟨w.heap.size, 0, none⟩) 1 1) (hown : RowC lo w t k v css) (hcs : cs.length = k) (h1 : ∀ u ∈ cs, u.oneCell' = true) (hlo : lo ≤ w.heap.size) (hb : (css.length + 1) * sz ≤ 140737488355328) (hl : css.length ≤ 2000000)
    (hK : ∀ v' w', RowC lo w' t k v' (css ++ [cs]) → Kept (ownB v) w w' → Grows w (ownB v) (ownB v') → K (act.put o.dst v') w') : if Region.wanted o (yielded ops act.tmps) = true then Oper.wp P o act (w.alloc (.cells cs.toArray t)) K Q else E := by
  have hw : Region.wanted o (yielded ops act.tmps) = true := by simp [Region.wanted, hg]
  rw [if_pos hw]
  obtain ⟨v', w', hr, h2, h3, h4⟩ := hown.app (P := P) st o.type hu z sz hi hzc hc0 cs hcs h1 hlo hb hl
  unfold Oper.wp execOp
  simp only [hop, resolve, invoke, builtin, Sem.run_bind, Sem.run_pure, Result.andThen_ok, List.map_toArray, List.map_cons, List.map_nil, hs, hy, hr]
  exact hK v' w' h2 h3 h4
theorem row_apart8 {lo lo' k k' n n' : Nat} {w : World} {t t' : TypeId} {u v : Value} {xs ys : List Value} (h : w.ownsRow lo t k u n xs) (h' : w.ownsRow lo' t' k' v n' ys) (ht : t ≠ t') : ∀ g, u.ownBlock = some g → v.ownBlock ≠ some g := by
  intro g hg hv
  rcases h.2 with ⟨rfl, _⟩ | ⟨a, cap, cur, rfl, _, hh, _⟩
  · cases hg
  rcases h'.2 with ⟨rfl, _⟩ | ⟨a', cap', cur', rfl, _, hh', _⟩
  · cases hv
  cases hg
  cases hv
  rw [hh] at hh'
  simp only [Option.some.injEq, Obj.cells.injEq] at hh'
  exact ht hh'.2.1
theorem row_blk8 {lo k n g : Nat} {w : World} {t t' : TypeId} {u : Value} {xs cs : List Value} (h : w.ownsRow lo t k u n xs) (h' : Blk w g t' cs) (ht : t ≠ t') : u.ownBlock ≠ some g := by
  intro hg
  rcases h.2 with ⟨rfl, _⟩ | ⟨a, cap, cur, rfl, _, hh, _⟩
  · cases hg
  cases hg
  unfold Blk at h'
  rw [hh] at h'
  simp only [Option.some.injEq, Obj.cells.injEq] at h'
  exact ht h'.2.1
section
end

theorem own_cells1 {w : World} {lo : Nat} {t : TypeId} {v : Value} {cs : List Value} (h : w.ownsRow lo t 1 v cs.length cs) : (v = .slice none 0 0 ∧ cs = []) ∨ ∃ g c, v = .slice (some ⟨g, 0, none⟩) cs.length c ∧ cs.length ≤ c ∧ lo ≤ g ∧ g < w.heap.size ∧ ∀ i, i < cs.length → w.cell? ⟨g, i, none⟩ = cs[i]? := by
  rcases h.2 with ⟨rfl, h0⟩ | ⟨g, cap, cur, rfl, hg, hh, hn, hcap, hsz, htake⟩
  · exact .inl ⟨rfl, List.eq_nil_of_length_eq_zero h0⟩
  · refine .inr ⟨g, cap, rfl, hn, hg, (Array.getElem?_eq_some_iff.1 hh).1, fun i hi => ?_⟩
    rw [cell_of_row w g i _ t (0, 0) hh, ← htake, List.getElem?_take_of_lt (by omega), Array.getElem?_toList]
theorem own_ints {ok : Nat → Prop} {w : World} {lo sz : Nat} {k : IntKind} {t : TypeId} {v : Value} {xs : List Int} (h : w.ownsRow lo t 1 v xs.length (xs.map (Value.int k))) (hok : ∀ g, v.ownBlock = some g → ok g) (hwf : ∀ x ∈ xs, (Lit.int k x).wf = true) (h0 : 0 < sz) (hs : xs.length * sz ≤ 140737488351232) : Rd ok w (.slice (.int k) sz) [v] xs := by
  have hsm : xs.length ≤ 140737488351232 := by have := Nat.mul_le_mul_left xs.length h0; omega
  have h2 : w.ownsRow lo t 1 v (xs.map (Value.int k)).length (xs.map (Value.int k)) := by rw [List.length_map]; exact h
  rcases own_cells1 h2 with ⟨rfl, h3⟩ | ⟨g, c, rfl, hn, hg, hlt, hc⟩
  · obtain rfl : xs = [] := by simpa using h3
    exact Rd.slice_mk ⟨none, 0, 0, rfl, rfl, by omega, by omega, Nat.le_refl _, fun _ => ⟨rfl, rfl⟩, .inl rfl⟩
  · rw [List.length_map] at hn hc ⊢
    refine Rd.slice_mk ⟨some ⟨g, 0, none⟩, xs.length, c, rfl, rfl, hs, hsm, hn, (fun h => by cases h), .inr ⟨g, 0, rfl, hok g rfl, hlt, fun i x hx => ?_⟩⟩
    have hx' : xs[i]? = some x := hx
    refine ⟨[.int k x], rfl, fun j hj => ?_, Rd.int_mk rfl (hwf x (List.mem_of_getElem? hx'))⟩
    have hj0 : j = 0 := by simp [Sh.cells] at hj; exact hj
    subst hj0
    have h9 : w.cell? ⟨g, i, none⟩ = some (Value.int k x) := by
      rw [hc i (List.getElem?_eq_some_iff.1 hx').1, List.getElem?_map, hx']
      rfl
    simpa [Sh.cells] using h9
theorem own_strs {ok : Nat → Prop} {w : World} {lo sz : Nat} {t : TypeId} {v : Value} {xs : List ByteArray} (h : w.ownsRow lo t 1 v xs.length (xs.map Value.string)) (hok : ∀ g, v.ownBlock = some g → ok g) (hwf : ∀ x ∈ xs, x.size ≤ 140737488351232) (h0 : 0 < sz) (hs : xs.length * sz ≤ 140737488351232) : Rd ok w (.slice .str sz) [v] xs := by
  have hsm : xs.length ≤ 140737488351232 := by have := Nat.mul_le_mul_left xs.length h0; omega
  have h2 : w.ownsRow lo t 1 v (xs.map Value.string).length (xs.map Value.string) := by rw [List.length_map]; exact h
  rcases own_cells1 h2 with ⟨rfl, h3⟩ | ⟨g, c, rfl, hn, hg, hlt, hc⟩
  · obtain rfl : xs = [] := by simpa using h3
    exact Rd.slice_mk ⟨none, 0, 0, rfl, rfl, by omega, by omega, Nat.le_refl _, fun _ => ⟨rfl, rfl⟩, .inl rfl⟩
  · rw [List.length_map] at hn hc ⊢
    refine Rd.slice_mk ⟨some ⟨g, 0, none⟩, xs.length, c, rfl, rfl, hs, hsm, hn, (fun h => by cases h), .inr ⟨g, 0, rfl, hok g rfl, hlt, fun i x hx => ?_⟩⟩
    have hx' : xs[i]? = some x := hx
    refine ⟨[.string x], rfl, fun j hj => ?_, Rd.str_mk rfl (hwf x (List.mem_of_getElem? hx'))⟩
    have hj0 : j = 0 := by simp [Sh.cells] at hj; exact hj
    subst hj0
    have h9 : w.cell? ⟨g, i, none⟩ = some (Value.string x) := by
      rw [hc i (List.getElem?_eq_some_iff.1 hx').1, List.getElem?_map, hx']
      rfl
    simpa [Sh.cells] using h9
/-- append(v, xs..), v a row of one-cell things of the call's own, the source a slice whose cells are these. -/
theorem app_one {P : Program} {ops : Array Oper} {rest : List Oper} {o : Oper} {act : Act} {Q : Exit → Act → World → Prop} (w : World) (hg : o.guard = none) (s x : Operand) (st e : TypeId)
    (hop : o.op = .call { callee := .builtin .append, args := #[s, x], argTypes := #[st, st] }) (hu : P.underlying st = some (.slice e)) (z : Value) (sz : Nat) (hi : (P.info? e).map (fun i => (i.zero, i.size, i.bytes)) = some (some z, 1, sz)) (hz : z.cells.size = 1)
    (B : Nat) (v : Value) (zs : List Value) (hs : act.eval s = v) (hown : w.ownsRow B e 1 v zs.length zs) (a : Option Addr) (n cap : Nat) (cs : List Value) (hx : act.eval x = .slice a n cap) (hl : cs.length = n) (hnil : a = none → n = 0 ∧ cap = 0)
    (hc : n = 0 ∨ ∃ b off, a = some ⟨b, off, none⟩ ∧ ∀ i, i < n → w.cell? ⟨b, off + i, none⟩ = cs[i]?) (h1 : ∀ u ∈ cs, u.oneCell' = true) (hb : (zs.length + n) * sz ≤ 140737488355328) (hm : zs.length + n ≤ 140737488355328) (hbase : B ≤ w.heap.size)
    (K : ∀ v' w', w'.ownsRow B e 1 v' (zs ++ cs).length (zs ++ cs) → w.grownBy w' v.ownBlock → wpList P ops Q rest (act.put o.dst v') w') : wpList P ops Q (o :: rest) act w := by
  obtain ⟨i0, hi, hz0, hz1, hz2⟩ := info_parts hi
  cases a with
  | none =>
    obtain ⟨rfl, rfl⟩ := hnil rfl
    obtain rfl : cs = [] := List.eq_nil_of_length_eq_zero hl
    refine wpList_append_own_none hg s x st hop B e i0 1 hu hi v zs.length _ hs hown hx ?_
    exact K v w (by simpa using hown) (World.grownBy.refl _ _)
  | some ad =>
    refine wpList_append_own _ hg s x st hop B e i0 _ 1 sz hu hi hz0 hz1 hz2 hz (by decide) v zs.length _ hs hown ad n cap cs hx (by simp [hl]) ?_ h1 (by unfold maxLen; omega) (by omega) hbase ?_
    · intro j u hj
      have hjl := (List.getElem?_eq_some_iff.1 hj).1
      rcases hc with h0 | ⟨b, off, e, hc⟩
      · omega
      · obtain rfl := Option.some.inj e
        rw [add_plain, hc j (by omega), ← hj]
    · intro v' w' h1 h2 _
      refine K v' w' ?_ h2
      rw [List.length_append, hl]
      exact h1
theorem i32_info8 : (Try.prog.info? 21).map (fun i => (i.zero, i.size, i.bytes)) = some (some (.int .i32 0), 1, 4) := by kernel_rfl
theorem str_info8 : (Try.prog.info? 9).map (fun i => (i.zero, i.size, i.bytes)) = some (some (.string ⟨#[]⟩), 1, 16) := by kernel_rfl

set_option maxRecDepth 100000 in
set_option maxHeartbeats 1600000 in
theorem clone32_any (w : World) (a : Option Addr) (n c : Nat) (xs : List Int) (h : Rd (fun _ => True) w shVec [.slice a n c] xs) :
    Calls Try.prog 30 #[.slice a n c] w fun e w' => ∃ v', e = .returned v' ∧ Below w.heap.size w w' ∧ w'.ownsRow w.heap.size 21 1 v' xs.length (xs.map (Value.int .i32)) := by
  have hr := Rd.ints h rfl
  have hnil : a = none → n = 0 ∧ c = 0 := by
    obtain ⟨a', n', c', h0, h1, h2, h3, h4, h5, h6⟩ := Rd.slice_part h
    simp only [List.cons.injEq, Value.slice.injEq, and_true] at h0
    obtain ⟨rfl, rfl, rfl⟩ := h0
    exact h5
  have HL := Lib.hid hr.len
  have hby := hr.bytes
  have hsm := hr.small
  have HC := Lib.hid (show n = 0 ∨ ∃ b off, a = some ⟨b, off, none⟩ ∧ ∀ i, i < n → w.cell? ⟨b, off + i, none⟩ = (xs.map (Value.int .i32))[i]? from by
    rcases hr.cells with h | ⟨b, off, h1, _, h2⟩
    · exact .inl h
    · refine .inr ⟨b, off, h1, fun i hi => ?_⟩
      have hl := hr.len
      rw [h2 i hi, List.getElem?_map, List.getElem?_eq_getElem (by omega)]
      simp [List.getD, show i < xs.length by omega])
  simp only [kbytes] at hby
  have HN := Lib.hid hnil
  clear h hr hnil
  go_enter Try.func30, Try.ntmps30
  go_wp2_with (at_builtin; go_must (refine app_one w rfl (.const (.slice none 0 0)) (.tmp 3) 37 21 rfl Try.underlying37 (.int .i32 0) 4 i32_info8 rfl w.heap.size (.slice none 0 0) [] rfl ⟨by simp, .inl ⟨rfl, rfl⟩⟩ a n c (xs.map (Value.int .i32)) rfl (by rw [List.length_map]; exact HL.out) HN.out HC.out (by simp [Value.oneCell']) (by simp; omega) (by simp; omega) (Nat.le_refl _) ?_))
  intro v' w' h1 h2
  have H1 := Lib.hid h1
  have H2 := Lib.hid ((Below.refl w.heap.size w).grown h2 (Nat.le_refl _) (fun k e => by cases e))
  clear h1 h2
  go_wp2
  go_ret
  exact ⟨_, rfl, H2.out, by simpa using H1.out⟩
set_option maxRecDepth 100000 in
set_option maxHeartbeats 1600000 in
theorem cloneS_any (w : World) (a : Option Addr) (n c : Nat) (xs : List ByteArray) (h : Rd (fun _ => True) w shTags [.slice a n c] xs) :
    Calls Try.prog 33 #[.slice a n c] w fun e w' => ∃ v', e = .returned v' ∧ Below w.heap.size w w' ∧ w'.ownsRow w.heap.size 9 1 v' xs.length (xs.map Value.string) := by
  have hr := (Rd.strs h rfl).1
  have HL := Lib.hid hr.len
  have hby := hr.small
  have HC := Lib.hid (show n = 0 ∨ ∃ b off, a = some ⟨b, off, none⟩ ∧ ∀ i, i < n → w.cell? ⟨b, off + i, none⟩ = (xs.map Value.string)[i]? from by
    rcases hr.cells with h | ⟨b, off, h1, _, h2⟩
    · exact .inl h
    · refine .inr ⟨b, off, h1, fun i hi => ?_⟩
      have hl := hr.len
      rw [h2 i hi, List.getElem?_map, List.getElem?_eq_getElem (by omega)]
      simp [strAt, List.getD, show i < xs.length by omega])
  have HN := Lib.hid hr.nilOk
  clear h hr
  go_enter Try.func33, Try.ntmps33
  go_wp2_with (at_builtin; go_must (refine app_one w rfl (.const (.slice none 0 0)) (.tmp 3) 38 9 rfl Try.underlying38 (.string ⟨#[]⟩) 16 str_info8 rfl w.heap.size (.slice none 0 0) [] rfl ⟨by simp, .inl ⟨rfl, rfl⟩⟩ a n c (xs.map Value.string) rfl (by rw [List.length_map]; exact HL.out) HN.out HC.out (by simp [Value.oneCell']) (by simp; omega) (by simp; omega) (Nat.le_refl _) ?_))
  intro v' w' h1 h2
  have H1 := Lib.hid h1
  have H2 := Lib.hid ((Below.refl w.heap.size w).grown h2 (Nat.le_refl _) (fun k e => by cases e))
  clear h1 h2
  go_wp2
  go_ret
  exact ⟨_, rfl, H2.out, by simpa using H1.out⟩
/-- An item whose lists are rows of the call's own. -/
structure ItL.OwnI (lo : Nat) (w : World) (x : ItL) : Prop where
  hid : x.id < 4294967296
  vec : w.ownsRow lo 21 1 (.slice x.pv.1 x.pv.2.1 x.pv.2.2) x.vec.length (x.vec.map (Value.int .i32))
  tags : w.ownsRow lo 9 1 (.slice x.pt.1 x.pt.2.1 x.pt.2.2) x.tags.length (x.tags.map Value.string)
  wv : ∀ a ∈ x.vec, (Lit.int .i32 a).wf = true
  wt : ∀ s ∈ x.tags, s.size ≤ 140737488351232
  lv : x.vec.length * 4 ≤ 140737488351232
  lt : x.tags.length * 16 ≤ 140737488351232
/-- The blocks of an item's lists. -/
def ItL.bs (x : ItL) : List Nat := ownB (.slice x.pv.1 x.pv.2.1 x.pv.2.2) ++ ownB (.slice x.pt.1 x.pt.2.1 x.pt.2.2)
theorem ItL.OwnI.inn {lo : Nat} {w : World} {x : ItL} (h : x.OwnI lo w) {ok : Nat → Prop} (hok : ∀ g ∈ x.bs, ok g) : x.In ok w :=
  ⟨h.hid, own_ints h.vec (fun g hg => hok g (List.mem_append.2 (.inl (mem_ownB.2 hg)))) h.wv (by decide) h.lv, own_strs h.tags (fun g hg => hok g (List.mem_append.2 (.inr (mem_ownB.2 hg)))) h.wt (by decide) h.lt⟩
theorem ItL.OwnI.lo {lo : Nat} {w : World} {x : ItL} (h : x.OwnI lo w) : ∀ g ∈ x.bs, lo ≤ g ∧ g < w.heap.size := fun g hg => by
  rcases List.mem_append.1 hg with hg | hg
  · exact World.ownsRow.lt h.vec g (mem_ownB.1 hg)
  · exact World.ownsRow.lt h.tags g (mem_ownB.1 hg)
theorem ItL.OwnI.kept {lo : Nat} {w w' : World} {x : ItL} {F : List Nat} (h : x.OwnI lo w) (hk : Kept F w w') (hF : ∀ g ∈ x.bs, g ∉ F) : x.OwnI lo w' :=
  ⟨h.hid, hk.own h.vec (fun g hg => hF g (List.mem_append.2 (.inl (mem_ownB.2 hg)))), hk.own h.tags (fun g hg => hF g (List.mem_append.2 (.inr (mem_ownB.2 hg)))), h.wv, h.wt, h.lv, h.lt⟩
theorem ItL.OwnI.on {lo : Nat} {w w' : World} {x : ItL} (h : x.OwnI lo w) (hb : Below w.heap.size w w') : x.OwnI lo w' := h.kept (F := []) (Kept.of_below hb (Nat.le_refl _)) (by simp)
theorem ItL.In.stay {ok ok' : Nat → Prop} {w w' : World} {x : ItL} (h : x.In ok w) (hs : w.heap.size ≤ w'.heap.size) (hb : ∀ k, ok k → k < w.heap.size → w'.heap[k]? = w.heap[k]?) (hok : ∀ k, ok k → k < w.heap.size → ok' k) : x.In ok' w' :=
  ⟨h.hid, h.hvec.stay hs hb hok, h.htags.stay hs hb hok⟩
theorem ownsRow_slice {w : World} {lo : Nat} {t : TypeId} {k n : Nat} {v : Value} {cs : List Value} (h : w.ownsRow lo t k v n cs) : ∃ a m c, v = .slice a m c ∧ Hid (m = n) := by
  rcases h.2 with ⟨rfl, h0⟩ | ⟨g, cap, cur, rfl, _⟩
  · exact ⟨none, 0, 0, rfl, h0.symm⟩
  · exact ⟨_, _, _, rfl, rfl⟩
theorem rd_vec_wf {ok : Nat → Prop} {w : World} {a : Option Addr} {n c : Nat} {xs : List Int} (h : Rd ok w shVec [.slice a n c] xs) : (∀ x ∈ xs, (Lit.int .i32 x).wf = true) ∧ xs.length * 4 ≤ 140737488351232 := by
  have hr := Rd.ints h rfl
  exact ⟨hr.wf, by have := hr.bytes; rw [hr.len]; simpa [kbytes] using this⟩
theorem rd_tags_wf {ok : Nat → Prop} {w : World} {a : Option Addr} {n c : Nat} {xs : List ByteArray} (h : Rd ok w shTags [.slice a n c] xs) : (∀ s ∈ xs, s.size ≤ 140737488351232) ∧ xs.length * 16 ≤ 140737488351232 := by
  have hr := Rd.strs h rfl
  refine ⟨fun s hs => ?_, by have := hr.1.small; rw [hr.1.len]; exact this⟩
  obtain ⟨a', n', c', h0, h1, h2, h3, h4, h5, h6⟩ := Rd.slice_part h
  simp only [List.cons.injEq, Value.slice.injEq, and_true] at h0
  obtain ⟨rfl, rfl, rfl⟩ := h0
  rcases h6 with h6 | ⟨b, off, ha, ho, hlt, hc⟩
  · subst h6
    exact absurd h1 (Nat.ne_of_gt (List.length_pos_of_mem hs))
  · obtain ⟨i, hi⟩ := List.getElem?_of_mem hs
    obtain ⟨vs, e1, e2, e3⟩ := hc i s hi
    exact e3.str_part.2
theorem own_on {w w' : World} {lo lo' : Nat} {t : TypeId} {k n : Nat} {v : Value} {cs : List Value} (h : w.ownsRow lo t k v n cs) (hl : lo' ≤ lo) (hb : Below w.heap.size w w') : w'.ownsRow lo' t k v n cs := by
  have h2 := (Kept.of_below (F := []) hb (Nat.le_refl _)).own h (by simp)
  refine ⟨h2.1, ?_⟩
  rcases h2.2 with h3 | ⟨g, cap, cur, h3, h4, h5⟩
  · exact .inl h3
  · exact .inr ⟨g, cap, cur, h3, Nat.le_trans hl h4, h5⟩
theorem cloneI_end {w w2 wk : World} (x : ItL) (a1 : Option Addr) (m1 c1 : Nat) (a2 : Option Addr) (m2 c2 : Nat) (hb2 : Below w.heap.size w w2) (hsz : w2.heap.size = w.heap.size + 2) (d1 : Blk w2 (w.heap.size + 1) 71 [.int .u32 0, .slice none 0 0, .slice none 0 0]) (hk : Below w2.heap.size w2 wk)
    (o1 : wk.ownsRow w2.heap.size 21 1 (.slice a1 m1 c1) x.vec.length (x.vec.map (Value.int .i32))) (o2 : wk.ownsRow w2.heap.size 9 1 (.slice a2 m2 c2) x.tags.length (x.tags.map Value.string)) (hid : x.id < 4294967296)
    (hw : ((∀ a ∈ x.vec, (Lit.int .i32 a).wf = true) ∧ x.vec.length * 4 ≤ 140737488351232) ∧ (∀ s ∈ x.tags, s.size ≤ 140737488351232) ∧ x.tags.length * 16 ≤ 140737488351232) :
    (((wk.setCell ⟨w.heap.size + 1, 0, none⟩ (.int .u32 (x.id : Int))).setCell ⟨w.heap.size + 1, 1, none⟩ (.slice a1 m1 c1)).setCell ⟨w.heap.size + 1, 2, none⟩ (.slice a2 m2 c2)).heap[w.heap.size + 1]? = some (.cells #[.int .u32 (x.id : Int), .slice a1 m1 c1, .slice a2 m2 c2] 71 (0, 0)) ∧
    Below w.heap.size w (((wk.setCell ⟨w.heap.size + 1, 0, none⟩ (.int .u32 (x.id : Int))).setCell ⟨w.heap.size + 1, 1, none⟩ (.slice a1 m1 c1)).setCell ⟨w.heap.size + 1, 2, none⟩ (.slice a2 m2 c2)) ∧
    ItL.OwnI w.heap.size (((wk.setCell ⟨w.heap.size + 1, 0, none⟩ (.int .u32 (x.id : Int))).setCell ⟨w.heap.size + 1, 1, none⟩ (.slice a1 m1 c1)).setCell ⟨w.heap.size + 1, 2, none⟩ (.slice a2 m2 c2)) ⟨x.id, (a1, m1, c1), (a2, m2, c2), x.vec, x.tags⟩ := by
  have e1 := (Kept.of_below (F := []) hk (Nat.le_refl _)).blk d1 (by simp)
  have h3 := three_set (.int .u32 (x.id : Int)) (.slice a1 m1 c1) (.slice a2 m2 c2) e1 (hb2.trans (hk.mono (by omega))) (show w.heap.size ≤ w.heap.size + 1 by omega)
  have k9 : Kept [w.heap.size + 1] wk (((wk.setCell ⟨w.heap.size + 1, 0, none⟩ (.int .u32 (x.id : Int))).setCell ⟨w.heap.size + 1, 1, none⟩ (.slice a1 m1 c1)).setCell ⟨w.heap.size + 1, 2, none⟩ (.slice a2 m2 c2)) := (((Kept.refl [w.heap.size + 1] wk).setCell _ _ (.inl (by simp))).setCell _ _ (.inl (by simp))).setCell _ _ (.inl (by simp))
  have q1 := own_on (lo' := w.heap.size) (k9.own o1 (fun g hg hh => by have := (World.ownsRow.lt o1 g hg).1; simp at hh; omega)) (by omega) (Below.refl _ _)
  have q2 := own_on (lo' := w.heap.size) (k9.own o2 (fun g hg hh => by have := (World.ownsRow.lt o2 g hg).1; simp at hh; omega)) (by omega) (Below.refl _ _)
  exact ⟨h3.1, h3.2, hid, q1, q2, hw.1.1, hw.2.1, hw.1.2, hw.2.2⟩

set_option maxRecDepth 100000 in
set_option maxHeartbeats 3200000 in
/-- cloneItem: the same item, its lists the call's own. -/
theorem cloneI_any (w : World) (x : ItL) (h : x.In (fun _ => True) w) :
    Calls Try.prog 35 #[.agg x.cells.toArray] w fun e w' => ∃ y : ItL, e = .returned (.agg y.cells.toArray) ∧ Below w.heap.size w w' ∧ y.OwnI w.heap.size w' ∧ y.toI = x.toI ∧ y.vec = x.vec ∧ y.tags = x.tags := by
  have hvw := rd_vec_wf h.hvec
  have htw := rd_tags_wf h.htags
  obtain ⟨w2, hw2⟩ : ∃ w2, (w.alloc (.cells #[.int .u32 (x.id : Int), .slice x.pv.1 x.pv.2.1 x.pv.2.2, .slice x.pt.1 x.pt.2.1 x.pt.2.2] 71)).alloc (.cells #[.int .u32 0, .slice none 0 0, .slice none 0 0] 71) = w2 := ⟨_, rfl⟩
  have hb2 : Below w.heap.size w w2 := by
    rw [← hw2]
    exact ((Below.refl _ w).alloc (Nat.le_refl _) _).alloc (by simp) _
  have hsz : w2.heap.size = w.heap.size + 2 := by rw [← hw2]; simp
  have d0 : Blk w2 w.heap.size 71 [.int .u32 (x.id : Int), .slice x.pv.1 x.pv.2.1 x.pv.2.2, .slice x.pt.1 x.pt.2.1 x.pt.2.2] := by
    rw [← hw2]
    exact (Blk.new w _ _).alloc _
  have d1 : Blk w2 (w.heap.size + 1) 71 [.int .u32 0, .slice none 0 0, .slice none 0 0] := by
    rw [← hw2]
    have := Blk.new (w.alloc (.cells #[.int .u32 (x.id : Int), .slice x.pv.1 x.pv.2.1 x.pv.2.2, .slice x.pt.1 x.pt.2.1 x.pt.2.2] 71)) 71 #[.int .u32 0, .slice none 0 0, .slice none 0 0]
    simpa using this
  have HS := Lib.hid (fun (w' : World) (hb : Below w2.heap.size w2 w') => show w'.cell? ⟨w.heap.size, 0, none⟩ = some (.int .u32 (x.id : Int)) ∧ w'.cell? ⟨w.heap.size, 1, none⟩ = some (.slice x.pv.1 x.pv.2.1 x.pv.2.2) ∧ w'.cell? ⟨w.heap.size, 2, none⟩ = some (.slice x.pt.1 x.pt.2.1 x.pt.2.2) ∧
      w'.cell? ⟨w.heap.size + 1, 0, none⟩ = some (.int .u32 0) ∧ w'.cell? ⟨w.heap.size + 1, 1, none⟩ = some (.slice none 0 0) ∧ w'.cell? ⟨w.heap.size + 1, 2, none⟩ = some (.slice none 0 0) ∧ w'.frozen? ⟨w.heap.size + 1, 0, none⟩ = false ∧ w'.frozen? ⟨w.heap.size + 1, 1, none⟩ = false ∧ w'.frozen? ⟨w.heap.size + 1, 2, none⟩ = false ∧ Below w2.heap.size w2 w' from
    have e0 := (Kept.of_below (F := []) hb (Nat.le_refl _)).blk d0 (by simp)
    have e1 := (Kept.of_below (F := []) hb (Nat.le_refl _)).blk d1 (by simp)
    ⟨e0.cell 0, e0.cell 1, e0.cell 2, e1.cell 0, e1.cell 1, e1.cell 2, e1.frozen 0, e1.frozen 1, e1.frozen 2, hb⟩)
  have RV := Lib.hid (fun (w' : World) (hb : Below w2.heap.size w2 w') => (h.hvec.on hb2).on hb)
  have RT := Lib.hid (fun (w' : World) (hb : Below w2.heap.size w2 w') => (h.htags.on hb2).on hb)
  have D1 := Lib.hid d1
  have HID := Lib.hid h.hid
  have HW := Lib.hid (And.intro hvw htw)
  have HB2 := Lib.hid hb2
  obtain ⟨q0, q1, q2, q3, q4, q5, q6, q7, q8, -⟩ := HS.out w2 (Below.refl _ _)
  clear h hvw htw d0 d1 hb2
  show Calls _ _ #[.agg #[.int .u32 (x.id : Int), .slice x.pv.1 x.pv.2.1 x.pv.2.2, .slice x.pt.1 x.pt.2.1 x.pt.2.2]] _ _
  go_enter Try.func35, Try.ntmps35
  go_upto_region 1 with fail
  try rw [hw2]
  clear hw2
  go_wp2_with (fail)
  go_region_law (first
    | (rw [if_pos (by rfl)]; go_simp; go_at_call 30; refine (clone32_any _ x.pv.1 x.pv.2.1 x.pv.2.2 x.vec (RV.out _ (by first | exact (Below.refl _ _).drew | exact BY.out))).mono ?_; rintro e w3 ⟨v1, rfl, hb3, ho3⟩; obtain ⟨a1, m1, c1, rfl, em1⟩ := ownsRow_slice ho3; have BX := Lib.hid (below_on (by first | exact (Below.refl _ _).drew | exact BY.out) hb3); have O1 := Lib.hid ho3; have B1 := Lib.hid hb3; obtain ⟨p0, p1, p2, p3, p4, p5, p6, p7, p8, -⟩ := HS.out _ BX.out; clear hb3 ho3)
    | (rw [if_pos (by rfl)]; go_simp; go_at_call 33; refine (cloneS_any _ x.pt.1 x.pt.2.1 x.pt.2.2 x.tags (RT.out _ (by first | exact (Below.refl _ _).drew | exact BX.out))).mono ?_; rintro e w4 ⟨v2, rfl, hb4, ho4⟩; obtain ⟨a2, m2, c2, rfl, em2⟩ := ownsRow_slice ho4; have BY := Lib.hid (below_on (by first | exact (Below.refl _ _).drew | exact BX.out) hb4); have O2 := Lib.hid ho4; have B2 := Lib.hid hb4; obtain ⟨r0, r1, r2, r3, r4, r5, r6, r7, r8, -⟩ := HS.out _ BY.out; clear hb4 ho4))
  all_goals
    first
      | have FIN := Lib.hid (cloneI_end x a1 m1 c1 a2 m2 c2 HB2.out hsz D1.out BY.out (own_on O1.out (Nat.le_refl _) B2.out) (own_on O2.out BX.out.size (Below.refl _ _)) HID.out HW.out)
      | have FIN := Lib.hid (cloneI_end x a1 m1 c1 a2 m2 c2 HB2.out hsz D1.out BX.out (own_on O1.out BY.out.size (Below.refl _ _)) (own_on O2.out (Nat.le_refl _) B1.out) HID.out HW.out)
    go_wp2
    refine bodyPost_ret (results_cell_row rfl _ _ (w.heap.size + 1) 71 #[.int .u32 (x.id : Int), .slice a1 m1 c1, .slice a2 m2 c2] (0, 0) _ rfl FIN.out.1 Try.underlying71 rfl item_info8) rfl ?_
    exact ⟨⟨x.id, (a1, m1, c1), (a2, m2, c2), x.vec, x.tags⟩, rfl, FIN.out.2.1, FIN.out.2.2, rfl, rfl, rfl⟩
end Go.Proofs.Ytdgiellnklcioaa
