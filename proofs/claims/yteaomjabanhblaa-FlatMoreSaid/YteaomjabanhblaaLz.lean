/-
  Lists of items of any length: the document's Great tells some Bool of them, rows of items read; operations of regions that draw their order: guards, picks, calls; where a list's cells lie.
-/
import Derived.Test.YteaomjabanhblaaLh
import Derived.Test.YteaomjabanhblaaLo
import Derived.Test.YteaomjabanhblaaRh
namespace Go.Proofs.Yteaomjabanhblaa
open Go.ChangeShapes Go.WideShapes Go.ChangeAt Go.RowKit

theorem rd_item_inN {ok : Nat → Prop} {w : World} {a : Option Addr} {n c : Nat} {xs : List shItem.T} (h : Rd ok w (.slice shItem 1) [.slice a n c] xs) (i : Nat) (hi : i < n) :
    ∃ (b off : Nat) (x : shItem.T) (c0 c1 c2 : Value), a = some ⟨b, off, none⟩ ∧ b < w.heap.size ∧ xs[i]? = some x ∧ Hid (Rd ok w shItem [c0, c1, c2] x) ∧ w.cell? ⟨b, off + i * 3, none⟩ = some c0 ∧ w.cell? ⟨b, off + i * 3 + 1, none⟩ = some c1 ∧ w.cell? ⟨b, off + i * 3 + 2, none⟩ = some c2 := by
  obtain ⟨b, off, x, vs, ha, _, hlt, hx, hl, hc, hr⟩ := Rd.elem (e := shItem) h i hi
  obtain ⟨_, _, _, _, _, _, _, _, _, _, hcs, _⟩ := rd_item hr
  subst hcs
  exact ⟨b, off, x, _, _, _, ha, hlt, hx, hr, hc 0 (by decide), hc 1 (by decide), hc 2 (by decide)⟩


set_option maxRecDepth 100000 in
set_option maxHeartbeats 6400000 in
theorem rgreatN_any (w : World) (ok : Nat → Prop) (a : Option Addr) (n c : Nat) (xs : List shItem.T) (fl : FltL) (h : Rd ok w (.slice shItem 1) [.slice a n c] xs) (hf : fl.Rds ok w) :
    Calls Try.prog 10 #[.slice a n c, .agg fl.cells] w (FewB n w) := by
  obtain ⟨_, _, _, hcs, HN, hn0, _⟩ := Rd.slice_is (e := shItem) h
  simp only [List.cons.injEq, Value.slice.injEq, and_true] at hcs
  obtain ⟨rfl, rfl, rfl⟩ := hcs
  obtain ⟨w1, hw1⟩ : ∃ w1, w.alloc (.cells #[.slice fl.p0.1 fl.p0.2.1 fl.p0.2.2, .slice fl.p1.1 fl.p1.2.1 fl.p1.2.2, .slice fl.p2.1 fl.p2.2.1 fl.p2.2.2] 26) = w1 := ⟨_, rfl⟩
  have hb1 : Below w.heap.size w w1 := by rw [← hw1]; exact (Below.refl _ w).alloc (Nat.le_refl _) _
  have bf : Blk w1 w.heap.size 26 [.slice fl.p0.1 fl.p0.2.1 fl.p0.2.2, .slice fl.p1.1 fl.p1.2.1 fl.p1.2.2, .slice fl.p2.1 fl.p2.2.1 fl.p2.2.2] := by rw [← hw1]; exact Blk.new _ _ _
  have f0 : w1.cell? ⟨w.heap.size, 0, none⟩ = some (.slice fl.p0.1 fl.p0.2.1 fl.p0.2.2) := bf.cell 0
  have f1 : w1.cell? ⟨w.heap.size, 1, none⟩ = some (.slice fl.p1.1 fl.p1.2.1 fl.p1.2.2) := bf.cell 1
  have f2 : w1.cell? ⟨w.heap.size, 2, none⟩ = some (.slice fl.p2.1 fl.p2.2.1 fl.p2.2.2) := bf.cell 2
  have HH := Lib.hid (h.on hb1)
  have HF := Lib.hid (hf.on hb1)
  have HB := Lib.hid hb1
  clear h hf hb1 bf
  show Calls _ _ #[_, .agg #[.slice fl.p0.1 fl.p0.2.1 fl.p0.2.2, .slice fl.p1.1 fl.p1.2.1 fl.p1.2.2, .slice fl.p2.1 fl.p2.2.1 fl.p2.2.2]] _ _
  go_enter Try.func10, Try.ntmps10
  go_wp2_with (first | (rw [hw1]) | fail)
  try rw [hw1]
  clear hw1
  go_loop [5, 6] (fun s5 s6 => ∃ (i : Nat) (m : Int), s5 = .int .i64 m ∧ s6 = .int .i64 (i : Int) ∧ i ≤ n ∧ 0 ≤ m ∧ m ≤ 60000) (fun _ s6 => n - (intOf s6).toNat)
  case atStart => exact ⟨0, 0, rfl, rfl, Nat.zero_le _, by omega, by omega⟩
  case round =>
    obtain ⟨i, m, rfl, rfl, hi, h0, h1⟩ := hrel
    by_cases hc : i < n ∧ m < 20000
    · obtain ⟨hc, hm⟩ := hc
      obtain ⟨b, off, x, c0, c1, c2, rfl, hblt, hx, hrd, k0, k1, k2⟩ := rd_item_inN HH.out i hc
      obtain ⟨id, vec, tags, ia, iN, ic, ta, tn, tc, rfl, hcs, hid, rv, rt, hvl, htl, hvn, htn⟩ := rd_item hrd.out
      simp only [List.cons.injEq, and_true] at hcs
      obtain ⟨rfl, rfl, rfl⟩ := hcs
      have RT := Lib.hid rt
      clear hx hrd rv rt
      go_wp2_with (fail)
      all_goals
        refine (great03 ta tn tc tags w1 RT.out).mono ?_
        rintro e w' ⟨⟨g, rfl⟩, rfl⟩
        cases g
        · go_wp2
          go_round
          case rel => exact ⟨i + 1, _, by go_num, by go_num, by omega, by go_num, by go_num⟩
          case measure => simp [intOf]; omega
        · go_wp2
          go_ret
          exact ⟨true, rfl, by simp, HB.out⟩
    · by_cases hm : m < 20000
      · have hni : ¬ i < n := fun hh => hc ⟨hh, hm⟩
        have hmb : decide (m < 20000) = true := decide_eq_true hm
        have hmc : decide ((20000 : Int) ≤ m) = false := decide_eq_false (by omega)
        by_cases hn3 : 300 < n
        · have hnb : decide ((300 : Int) < (n : Int)) = true := decide_eq_true (by omega)
          go_wp2
          all_goals
            go_ret
            exact ⟨true, rfl, by simp, HB.out⟩
        · have HN3 : n ≤ 300 := by omega
          have hnb : decide ((300 : Int) < (n : Int)) = false := decide_eq_false (by omega)
          go_wp2_with (fail)
          refine (great03 _ _ _ _ _ HF.out.all).mono ?_
          rintro e w' ⟨⟨g, rfl⟩, rfl⟩
          cases g
          · go_wp2_with (fail)
            refine (great03 _ _ _ _ _ HF.out.any).mono ?_
            rintro e w' ⟨⟨g, rfl⟩, rfl⟩
            cases g
            · go_wp2_with (fail)
              refine (great03 _ _ _ _ _ HF.out.none).mono ?_
              rintro e w' ⟨⟨g, rfl⟩, rfl⟩
              cases g
              all_goals
                go_wp2
                go_ret
                exact ⟨_, rfl, fun _ => HN3, HB.out⟩
            · go_wp2
              go_ret
              exact ⟨_, rfl, fun _ => HN3, HB.out⟩
          · go_wp2
            go_ret
            exact ⟨_, rfl, fun _ => HN3, HB.out⟩
      · have hmb : decide (m < 20000) = false := decide_eq_false hm
        have hmc : decide ((20000 : Int) ≤ m) = true := decide_eq_true (by omega)
        go_wp2
        all_goals
          go_ret
          exact ⟨true, rfl, by simp, HB.out⟩

theorem RowC.itemsN {lo lo' : Nat} {w : World} {v : Value} {css : List (List Value)} {xs : List shItem.T} (h : RowC lo' w 44 3 v css) (he : EachI lo w css xs) (hs : xs.length ≤ 140737488351232) :
    ∃ a c, v = .slice a xs.length c ∧ Rd (fun _ => True) w (.slice shItem 1) [.slice a xs.length c] xs := by
  have hlt := h.lt
  rcases h.2.2 with ⟨rfl, h0⟩ | ⟨g, cap, cur, rfl, hg, hh, hn, hcap, hsz, htake⟩
  · have hx : xs.length = 0 := by rw [← he.1]; exact h0
    refine ⟨none, 0, by rw [hx], Rd.slice_mk (e := shItem) ⟨none, xs.length, 0, rfl, rfl, by omega, by omega, by omega, fun _ => ⟨hx, rfl⟩, .inl hx⟩⟩
  · rw [he.1] at *
    refine ⟨some ⟨g, 0, none⟩, cap, rfl, Rd.slice_mk (e := shItem) ⟨some ⟨g, 0, none⟩, xs.length, cap, rfl, rfl, by omega, by omega, hn, (fun h => by cases h), .inr ⟨g, 0, rfl, trivial, (hlt g rfl).2, fun i x hx => ?_⟩⟩⟩
    obtain ⟨cs, h4, h5⟩ := he.2 i x hx
    refine ⟨cs, h5.len, fun j hj => ?_, h5.mono fun _ _ _ => trivial⟩
    rw [show shItem.cells = 3 from rfl, Nat.zero_add, cell_of_row w g (i * 3 + j) _ 44 (0, 0) hh, ← flatten_at css 3 h.1 i cs h4 j hj, ← htake, List.getElem?_take_of_lt, ← Array.getElem?_toList]
    have hi : i < xs.length := (List.getElem?_eq_some_iff.1 hx).1
    have := Nat.mul_le_mul_right 3 (show i + 1 ≤ xs.length from hi)
    rw [Nat.add_mul] at this
    have : j < 3 := hj
    omega

/-- What an operation is, its guard too. -/
def OpGu (ops : Array Oper) (i : Nat) (op : Op) (dst : Option Tmp) (gu : Option (Nat × Bool)) (deps : List Nat) : Prop :=
  ∃ o, ops[i]? = some o ∧ o.op = op ∧ o.dst = dst ∧ o.guard = gu ∧ (deps.all fun d => o.after.any fun e => Region.binds .any e && Nat.beq e.on d) = true
theorem OpGu.useG {ops : Array Oper} {i : Nat} {op : Op} {dst : Option Tmp} {gu : Option (Nat × Bool)} {deps : List Nat} (h : OpGu ops i op dst gu deps) {o : Oper} (ho : ops[i]? = some o) :
    o.op = op ∧ o.dst = dst ∧ o.guard = gu ∧ ∀ d ∈ deps, waits o d = true := by
  obtain ⟨o', ho', h1, h2, h3, h4⟩ := h
  rw [ho] at ho'
  obtain rfl := Option.some.inj ho'
  exact ⟨h1, h2, h3, fun d hd => List.all_eq_true.1 h4 d hd⟩
/-- A guarded operation: wanted, or passed over. -/
theorem g_gu {P : Program} {ops : Array Oper} {o og : Oper} {a : Act} {K : Act → World → Prop} {Q : Exit → Act → World → Prop} {w : World} {j : Nat} {want g : Bool} {d : Tmp} (hg : o.guard = some (j, want)) (hog : ops[j]? = some og) (hd : og.dst = some d) (he : a.tmps.getD d undef = .bool g)
    (h1 : g = want → o.wp P a w K Q) (h2 : g ≠ want → K (a.put o.dst undef) w) : if Region.wanted o (yielded ops a.tmps) = true then o.wp P a w K Q else K (a.put o.dst undef) w := by
  have hy : yielded ops a.tmps j = some g := by
    unfold yielded
    simp only [hog, hd, Option.bind_some]
    rw [Array.getD_eq_getD_getElem?] at he
    cases hx : a.tmps[d]? with
    | none => rw [hx] at he; simp [undef] at he
    | some v =>
      rw [hx] at he
      obtain rfl : v = .bool g := he
      rfl
  have hw : Region.wanted o (yielded ops a.tmps) = (g == want) := by
    unfold Region.wanted
    rw [hg]
    simp only [hy]
    cases g <;> cases want <;> rfl
  rw [hw]
  by_cases h : g = want
  · subst h
    simpa using h1 rfl
  · rw [if_neg (by simpa using h)]
    exact h2 h
theorem g_pick {P : Program} {o : Oper} {a : Act} {K : Act → World → Prop} {Q : Exit → Act → World → Prop} {w : World} {x y z : Operand} {g : Bool} (ho : o.op = .pick x y z) (hx : a.eval x = .bool g) (h : K (a.put o.dst (if g = true then a.eval y else a.eval z)) w) : o.wp P a w K Q := by
  unfold Oper.wp execOp
  simp only [ho, hx, asBool, Sem.run_bind, Sem.run_pure, Result.andThen_ok]
  exact h
theorem g_bin {P : Program} {o : Oper} {a : Act} {K : Act → World → Prop} {Q : Exit → Act → World → Prop} {w : World} {op : BinOp} {t1 t2 : TypeId} {x y : Operand} {u1 u2 v : Value} (ho : o.op = .binOp op t1 x y t2) (hx : a.eval x = u1) (hy : a.eval y = u2) (hq : (eqGuard op t1 x y u1 u2).run P w = .ok () w) (hr : (binOp op t1 u1 u2).run P w = .ok v w) (h : K (a.put o.dst v) w) : o.wp P a w K Q := by
  unfold Oper.wp execOp
  simp only [ho, hx, hy, hq, Sem.run_bind, Sem.run_pure, hr, Result.andThen_ok]
  exact h
theorem g_call {P : Program} {o : Oper} {a : Act} {K : Act → World → Prop} {Q : Exit → Act → World → Prop} {w : World} {f : Nat} {args : Array Operand} {us : Array Value} {tys : Array TypeId} {R : Ending → World → Prop} (hen : ∀ args w, (callFunc f args).run P w = .ok (.enter f args) w) (ho : o.op = .call { callee := .value (.func f), args := args, argTypes := tys }) (hargs : args.map a.eval = us) (hc : Calls P f us w R) (hR : ∀ e w', R e w' → ∃ v, e = .returned v ∧ K (a.put o.dst v) w') : o.wp P a w K Q := by
  have hx : (execOp a.eval o).run P w = .ok (.enter f us) w := by
    unfold execOp
    rw [ho]
    subst hargs
    have h0 := hen (args.map a.eval)
    simp only [resolve, invoke, Sem.run_bind]
    simp [Deferred.ofValue, Act.eval, h0]
  unfold Oper.wp
  rw [hx, Oper.upon_enter]
  refine hc.mono ?_
  intro e w' h
  obtain ⟨v, rfl, hk⟩ := hR e w' h
  exact hk
/-- Where a list's cells lie. -/
theorem rd_cells {B : Nat} {w : World} {a : Option Addr} {n c : Nat} {xs : List shItem.T} (h : Rd (· < B) w shItems [.slice a n c] xs) :
    ∃ css, EachI B w css xs ∧ css.flatten.length = n * 3 ∧ (∀ cs ∈ css, cs.length = 3) ∧ (∀ u ∈ css.flatten, u.oneCell' = true) ∧ (a = none → n = 0 ∧ c = 0) ∧ (n = 0 ∨ ∃ b off, a = some ⟨b, off, none⟩ ∧ b < B ∧ ∀ i, i < n * 3 → w.cell? ⟨b, off + i, none⟩ = css.flatten[i]?) := by
  obtain ⟨_, _, _, hcs, hl, hm, hn, hc, hz, hcc⟩ := Rd.slice_part (e := shItem) (xs := xs) h
  simp only [List.cons.injEq, Value.slice.injEq, and_true] at hcs
  obtain ⟨rfl, rfl, rfl⟩ := hcs
  rcases hcc with h0 | ⟨b, off, rfl, hb, hlt, hcc⟩
  · have hx : xs = [] := List.eq_nil_of_length_eq_zero (by rw [hl]; exact h0)
    subst hx
    exact ⟨[], EachI.nil _ _, by simp [h0], by simp, by simp, hz, .inl h0⟩
  · obtain ⟨css, h1, h2⟩ := list_of_each (n := n) (q := fun i cs => ∃ x, xs[i]? = some x ∧ cs.length = 3 ∧ (∀ j, j < 3 → w.cell? ⟨b, off + i * 3 + j, none⟩ = cs[j]?) ∧ Rd (· < B) w shItem cs x) fun i hi => by
      obtain ⟨x, hx⟩ : ∃ x, xs[i]? = some x := ⟨_, List.getElem?_eq_getElem (by omega)⟩
      obtain ⟨vs, v1, v2, v3⟩ := hcc i x hx
      exact ⟨vs, x, hx, v1, v2, v3⟩
    have h3 : ∀ cs ∈ css, cs.length = 3 := fun cs hcs => by
      obtain ⟨i, hi⟩ := List.getElem?_of_mem hcs
      obtain ⟨x, _, e, _⟩ := h2 i cs hi
      exact e
    have hfl : css.flatten.length = n * 3 := by rw [flatten_len css 3 h3, h1]
    refine ⟨css, ⟨by rw [h1]; exact hl.symm, fun i x hx => ?_⟩, hfl, h3, fun u hu => ?_, hz, .inr ⟨b, off, rfl, hb, fun i hi => ?_⟩⟩
    · have hi := (List.getElem?_eq_some_iff.1 hx).1
      obtain ⟨cs, hcs⟩ : ∃ cs, css[i]? = some cs := ⟨_, List.getElem?_eq_getElem (by omega)⟩
      obtain ⟨x', hx', _, _, hr⟩ := h2 i cs hcs
      rw [hx] at hx'
      obtain rfl := Option.some.inj hx'
      exact ⟨cs, hcs, hr⟩
    · obtain ⟨cs, hcs, hu⟩ := List.mem_flatten.1 hu
      obtain ⟨i, hi⟩ := List.getElem?_of_mem hcs
      obtain ⟨x, _, _, _, hr⟩ := h2 i cs hi
      exact hr.one u hu
    · have hi3 : i / 3 < n := by omega
      obtain ⟨cs, hcs⟩ : ∃ cs, css[i / 3]? = some cs := ⟨_, List.getElem?_eq_getElem (by omega)⟩
      obtain ⟨x, _, _, hc3, _⟩ := h2 (i / 3) cs hcs
      have e1 := hc3 (i % 3) (by omega)
      have e2 := flatten_at css 3 h3 (i / 3) cs hcs (i % 3) (by omega)
      rw [show i / 3 * 3 + i % 3 = i by omega] at e2
      rw [show off + i / 3 * 3 + i % 3 = off + i by omega] at e1
      rw [e1, e2]
/-- append(v, x), as one operation of a region, by cells alone. -/
theorem g_appC {P : Program} {o : Oper} {a : Act} {K : Act → World → Prop} {Q : Exit → Act → World → Prop} {w : World} {lo : Nat} {t : TypeId} {k : Nat} {v : Value} {css : List (List Value)} (s y : Operand) (st : TypeId)
    (hop : o.op = .call { callee := .builtin .append, args := #[s, y], argTypes := #[st, st] }) (hu : P.underlying st = some (.slice t)) (z : Value) (sz : Nat) (hi : (P.info? t).map (fun i => (i.zero, i.size, i.bytes)) = some (some z, k, sz)) (hzc : z.cells.size = k) (hc0 : 0 < k)
    (cs : List Value) (g : Nat) (hs : a.eval s = v) (hy : a.eval y = .slice (some ⟨g, 0, none⟩) 1 1) (hg : Blk w g t cs) (hown : RowC lo w t k v css) (hcs : cs.length = k) (h1 : ∀ u ∈ cs, u.oneCell' = true) (hlo : lo ≤ w.heap.size) (hb : (css.length + 1) * sz ≤ 140737488355328) (hl : css.length ≤ 200000000000000)
    (hK : ∀ v' w', RowC lo w' t k v' (css ++ [cs]) → Kept (ownB v) w w' → K (a.put o.dst v') w') : o.wp P a w K Q := by
  obtain ⟨i0, hi, hz0, hz1, hz2⟩ := info_parts hi
  have hnews : ∀ j u, cs[j]? = some u → w.cell? ((⟨g, 0, none⟩ : Addr).add j) = some u := by
    intro j u hj
    rw [add_plain, Nat.zero_add, hg.cell]
    exact hj
  obtain ⟨v', w', hr, ho, hgr, _, hloc⟩ := run_append_own_at (P := P) w lo st o.type t i0 z k sz hu hi hz0 hz1 hz2 hzc hc0 v css.length css.flatten hown.2 ⟨g, 0, none⟩ 1 1 cs (by rw [hcs, Nat.one_mul]) hnews h1 (by unfold maxLen; omega) hb hlo
  unfold Oper.wp execOp
  simp only [hop, resolve, invoke, builtin, Sem.run_bind, Sem.run_pure, Result.andThen_ok, List.map_toArray, List.map_cons, List.map_nil, hs, hy, hr]
  refine hK v' w' ⟨fun c hc => ?_, ?_⟩ ((Kept.refl _ _).grown hgr (fun k hk => .inl (mem_ownB.2 hk)))
  · rcases List.mem_append.1 hc with hc | hc
    · exact hown.1 c hc
    · rw [List.mem_singleton.1 hc]
      exact hcs
  · rw [List.flatten_append, List.length_append]
    simpa using ho
end Go.Proofs.Yteaomjabanhblaa
