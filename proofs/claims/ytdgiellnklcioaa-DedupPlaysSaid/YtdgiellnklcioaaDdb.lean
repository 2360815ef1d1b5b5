/-
  Layer 16: copies of lists, filters, items, changes. (Made by tools/mkddb.py.)
-/
import Derived.Test.YtdgiellnklcioaaDda
import Derived.Test.YtdgiellnklcioaaDdm
import Derived.Test.YtdgiellnklcioaaMp
import Derived.Handy
import Derived.Maps.AppendAt
namespace Go.Proofs.Ytdgiellnklcioaa
open Go.RowKit Go.ChangeShapes Go.WideShapes Go.ChangeAt

/-- Shapes without slices. -/
def Sh.flat : Sh → Bool
  | .bool => true
  | .int _ => true
  | .str => true
  | .slice _ _ => false
  | .unit => true
  | .pair a b => a.flat && b.flat
theorem Rd.plain {ok ok' : Nat → Prop} {w w' : World} : ∀ {s : Sh} {cs : List Value} {x : s.T}, s.flat = true → Rd ok w s cs x → Rd ok' w' s cs x
  | .bool, _, _, _, h => Rd.bool_mk (Rd.bool_is h)
  | .int k, _, _, _, h => Rd.int_mk (Rd.int_is h).1 (Rd.int_is h).2
  | .str, _, _, _, h => Rd.str_mk (Rd.str_is h).1 (Rd.str_is h).2
  | .slice e sz, _, _, hf, _ => by simp [Sh.flat] at hf
  | .unit, _, _, _, h => Rd.unit_mk (Rd.unit_is h)
  | .pair a b, cs, x, hf, h => by
    obtain ⟨c1, c2, rfl, h1, h2⟩ := Rd.pair_is h
    simp only [Sh.flat, Bool.and_eq_true] at hf
    exact Rd.pair_mk rfl (h1.plain hf.1) (h2.plain hf.2)
/-- A copy: a slice of the call's own of the same things. -/
def CpPost (s : Sh) (x : s.T) (w : World) (e : Ending) (w' : World) : Prop := ∃ p : SlL, e = .returned (.slice p.a p.n p.c) ∧ Below w.heap.size w w' ∧ Rd (w.heap.size ≤ ·) w' s [.slice p.a p.n p.c] x
theorem OwnR.sl {lo : Nat} {w : World} {t : TypeId} {e : Sh} {v : Value} {xs : List e.T} (h : OwnR lo w t e v xs) : ∃ p : SlL, v = .slice p.a p.n p.c := by
  obtain ⟨a, n, c, rfl, _⟩ := h.form
  exact ⟨⟨a, n, c⟩, rfl⟩
/-- append(nil, xs..), the things without slices. -/
theorem app_flat {P : Program} {ops : Array Oper} {rest : List Oper} {o : Oper} {act : Act} {Q : Exit → Act → World → Prop} (w : World) (e : Sh) (esz : Nat) (hf : e.flat = true) (hg : o.guard = none) (s x : Operand) (st t : TypeId)
    (hop : o.op = .call { callee := .builtin .append, args := #[s, x], argTypes := #[st, st] }) (hu : P.underlying st = some (.slice t)) (z : Value) (hi : (P.info? t).map (fun i => (i.zero, i.size, i.bytes)) = some (some z, e.cells, esz)) (hzc : z.cells.size = e.cells) (hc0 : 0 < e.cells) (he0 : 0 < esz)
    (hs : act.eval s = .slice none 0 0) {ok : Nat → Prop} (a : Option Addr) (n cap : Nat) (xs : List e.T) (hx : act.eval x = .slice a n cap) (h : Rd ok w (.slice e esz) [.slice a n cap] xs)
    (K : ∀ (p : SlL) w', Below w.heap.size w w' → Rd (w.heap.size ≤ ·) w' (.slice e esz) [.slice p.a p.n p.c] xs → wpList P ops Q rest (act.put o.dst (.slice p.a p.n p.c)) w') : wpList P ops Q (o :: rest) act w := by
  obtain ⟨i0, hi, hz0, hz1, hz2⟩ := info_parts hi
  obtain ⟨a', n', c', h0, h1, h2, h3, h4, h5, h6⟩ := Rd.slice_part h
  simp only [List.cons.injEq, Value.slice.injEq, and_true] at h0
  obtain ⟨rfl, rfl, rfl⟩ := h0
  cases a with
  | none =>
    obtain ⟨rfl, rfl⟩ := h5 rfl
    obtain rfl : xs = [] := List.eq_nil_of_length_eq_zero h1
    refine wpList_append_own_none hg s x st hop w.heap.size t i0 e.cells hu hi (.slice none 0 0) 0 [] hs ⟨by simp, .inl ⟨rfl, rfl⟩⟩ hx ?_
    exact K .nil w (Below.refl _ _) nil_rd
  | some ad =>
    obtain ⟨css, hcl, hc⟩ : ∃ css : List (List Value), css.length = n ∧ ∀ i cs, css[i]? = some cs → ∃ y, xs[i]? = some y ∧ cs.length = e.cells ∧ (∀ j, j < e.cells → w.cell? (ad.add (i * e.cells + j)) = cs[j]?) ∧ Rd ok w e cs y := by
      refine list_of_each fun i hi => ?_
      rcases h6 with h6 | ⟨b, off, hb, hob, hlt, hc⟩
      · omega
      · obtain rfl := Option.some.inj hb
        obtain ⟨vs, g1, g2, g3⟩ := hc i _ (List.getElem?_eq_getElem (show i < xs.length by rw [h1]; exact hi))
        exact ⟨vs, _, List.getElem?_eq_getElem _, g1, fun j hj => by rw [add_plain, ← Nat.add_assoc]; exact g2 j hj, g3⟩
    have hk : ∀ cs ∈ css, cs.length = e.cells := fun cs hcs => by
      obtain ⟨i, hi⟩ := List.getElem?_of_mem hcs
      obtain ⟨y, _, g, _⟩ := hc i cs hi
      exact g
    have hfl := flatten_len css e.cells hk
    have hnews : ∀ j u, css.flatten[j]? = some u → w.cell? (ad.add j) = some u := by
      intro j u hj
      have hjl := (List.getElem?_eq_some_iff.1 hj).1
      rw [hfl, hcl] at hjl
      have hr := Nat.mod_lt j hc0
      have hq : j / e.cells < n := (Nat.div_lt_iff_lt_mul hc0).2 hjl
      obtain ⟨cs, hcs⟩ : ∃ cs, css[j / e.cells]? = some cs := ⟨_, List.getElem?_eq_getElem (by omega)⟩
      obtain ⟨y, _, _, g, _⟩ := hc _ _ hcs
      have e1 : j / e.cells * e.cells + j % e.cells = j := by rw [Nat.mul_comm]; exact Nat.div_add_mod j e.cells
      have e2 := flatten_at css e.cells hk _ cs hcs _ hr
      have g2 := g _ hr
      rw [e1] at e2 g2
      rw [g2, ← e2, hj]
    have hone : ∀ u ∈ css.flatten, u.oneCell' = true := by
      intro u hu'
      obtain ⟨cs, hcs, hu'⟩ := List.mem_flatten.1 hu'
      obtain ⟨i, hi⟩ := List.getElem?_of_mem hcs
      obtain ⟨y, _, _, _, g⟩ := hc i cs hi
      exact g.one u hu'
    refine wpList_append_own_at _ hg s x st hop w.heap.size t i0 z e.cells esz hu hi hz0 hz1 hz2 hzc hc0 (.slice none 0 0) 0 [] hs ⟨by simp, .inl ⟨rfl, rfl⟩⟩ ad n cap css.flatten hx (by rw [hfl, hcl]) hnews hone (by unfold maxLen; omega) (by rw [Nat.zero_add]; omega) (Nat.le_refl _) ?_
    intro v' w' ho hgr _ _
    have hB : Below w.heap.size w w' := (Below.refl w.heap.size w).grown hgr (Nat.le_refl _) (fun k e => by cases e)
    have hO : OwnR w.heap.size w' t e v' xs := ⟨css, by rw [hcl, h1], fun i y hy => by
      obtain ⟨cs, hcs⟩ : ∃ cs, css[i]? = some cs := ⟨_, List.getElem?_eq_getElem (by rw [hcl, ← h1]; exact (List.getElem?_eq_some_iff.1 hy).1)⟩
      obtain ⟨y', hy', _, _, g⟩ := hc i cs hcs
      rw [hy] at hy'
      obtain rfl := Option.some.inj hy'
      exact ⟨cs, hcs, g.plain hf⟩, by rw [h1]; simpa using ho⟩
    obtain ⟨p, rfl⟩ := hO.sl
    exact K p w' hB (hO.rd esz he0 (by rw [h1]; exact h2))
/-- append(v, x), x one thing that the text has laid as a row of one, v as long as may be. -/
theorem app_rowM {lo : Nat} {t : TypeId} {e : Sh} {v : Value} {xs : List e.T} {P : Program} {ops : Array Oper} {rest : List Oper} {o : Oper} {act : Act} {Q : Exit → Act → World → Prop} (w : World) (hg : o.guard = none) (s y : Operand) (st : TypeId)
    (hop : o.op = .call { callee := .builtin .append, args := #[s, y], argTypes := #[st, st] }) (hu : P.underlying st = some (.slice t)) (z : Value) (sz : Nat) (hi : (P.info? t).map (fun i => (i.zero, i.size, i.bytes)) = some (some z, e.cells, sz)) (hzc : z.cells.size = e.cells) (hc0 : 0 < e.cells)
    (x : e.T) (cs : List Value) (hs : act.eval s = v) (hy : act.eval y = .slice (some ⟨w.heap.size, 0, none⟩) 1 1) (hown : OwnR lo w t e v xs) (hx : Rd (fun k => lo ≤ k ∧ v.ownBlock ≠ some k) w e cs x) (hlo : lo ≤ w.heap.size) (hb : (xs.length + 1) * sz ≤ 140737488355328) (hl : xs.length + 1 ≤ maxLen)
    (K : ∀ v' w', OwnR lo w' t e v' (xs ++ [x]) → Kept (ownB v) w w' → wpList P ops Q rest (act.put o.dst v') w') : wpList P ops Q (o :: rest) act (w.alloc (.cells cs.toArray t)) := by
  obtain ⟨i0, hi, hz0, hz1, hz2⟩ := info_parts hi
  have hlt := hown.lt
  obtain ⟨css, h1, h2, h3⟩ := hown
  have heach := OwnR.each h1 h2
  have hcl : cs.length = 1 * e.cells := by rw [hx.len, Nat.one_mul]
  refine wpList_append_own_at _ hg s y st hop lo t i0 z e.cells sz hu hi hz0 hz1 hz2 hzc hc0 v xs.length css.flatten hs (World.ownsRow.alloc h3 _) ⟨w.heap.size, 0, none⟩ 1 1 cs hy hcl ?_ hx.one hl hb (by simp; omega) ?_
  · intro j u hj
    rw [add_plain, Nat.zero_add, World.cell?_alloc_at _ _ _ _ rfl, ← hj]
    simp
  · intro v' w' ho hgr _ hloc
    have hk : Kept (ownB v) w w' := ((Kept.refl _ _).alloc _).grown hgr (fun k hk => .inl (mem_ownB.2 hk))
    have hgw : Grows w (ownB v) (ownB v') := by
      intro k hk
      rcases hloc with h | h
      · exact .inl (mem_ownB.2 (by rw [← h]; exact mem_ownB.1 hk))
      · have := mem_ownB.1 hk
        rw [h] at this
        simp at this
        exact .inr (by omega)
    have hmono : ∀ (cs' : List Value) (x' : e.T), Rd (fun k => lo ≤ k ∧ v.ownBlock ≠ some k) w e cs' x' → Rd (fun k => lo ≤ k ∧ v'.ownBlock ≠ some k) w' e cs' x' := by
      intro cs' x' h
      refine h.stay hk.size (fun k ho hlt => hk.block k hlt (fun hx => ho.2 (mem_ownB.1 hx))) (fun k ho hlt => ⟨ho.1, fun hv => ?_⟩)
      rcases hgw k (mem_ownB.2 hv) with h | h
      · exact ho.2 (mem_ownB.1 h)
      · omega
    refine K v' w' ⟨css ++ [cs], by simp [h1], fun i y hy => ?_, ?_⟩ hk
    · by_cases hi : i < xs.length
      · rw [List.getElem?_append_left hi] at hy
        obtain ⟨cs', h4, h5⟩ := h2 i y hy
        exact ⟨cs', by rw [List.getElem?_append_left (by omega)]; exact h4, hmono _ _ h5⟩
      · have hlt' := (List.getElem?_eq_some_iff.1 hy).1
        have : i = xs.length := by simp at hlt'; omega
        subst this
        simp at hy
        subst hy
        exact ⟨cs, by rw [← h1]; simp, hmono _ _ hx⟩
    · rw [List.flatten_append, List.length_append]
      simpa using ho
theorem hit_info16 : (Try.prog.info? 91).map (fun i => (i.zero, i.size, i.bytes)) = some (some (.agg #[.int .i64 0, .int .u32 0]), 2, 16) := by kernel_rfl
theorem u8_info16 : (Try.prog.info? 5).map (fun i => (i.zero, i.size, i.bytes)) = some (some (.int .u8 0), 1, 1) := by kernel_rfl
theorem chg_info16 : (Try.prog.info? 80).map (fun i => (i.zero, i.size, i.bytes)) = some (some (.agg #[.bool false, .int .u32 0, .slice none 0 0, .slice none 0 0]), 4, 64) := by kernel_rfl
theorem chg_size16 : (Try.prog.info? 80).map (·.size) = some 4 := by kernel_rfl
theorem filt_info16 : (Try.prog.info? 40).map (·.size) = some 3 := by kernel_rfl
set_option maxRecDepth 100000 in
set_option maxHeartbeats 1600000 in
theorem cloneB_any (w : World) (p : SlL) (xs : List (Sh.int .u8).T) (h : Rd (fun _ => True) w shBytes [.slice p.a p.n p.c] xs) :
    Calls Try.prog 32 #[.slice p.a p.n p.c] w (CpPost shBytes xs w) := by
  have H := Lib.hid h
  clear h
  go_enter Try.func32, Try.ntmps32
  go_wp2_with (at_builtin; go_must (refine app_flat w (.int .u8) 1 rfl rfl (.const (.slice none 0 0)) (.tmp 3) 41 5 rfl Try.underlying41 (.int .u8 0) u8_info16 rfl (by decide) (by decide) rfl p.a p.n p.c xs rfl H.out ?_))
  intro q w' h1 h2
  have H1 := Lib.hid h1
  have H2 := Lib.hid h2
  clear h1 h2
  go_wp2
  go_ret
  exact ⟨q, rfl, H1.out, H2.out⟩
set_option maxRecDepth 100000 in
set_option maxHeartbeats 1600000 in
theorem cloneH_any (w : World) (p : SlL) (xs : List shHit.T) (h : Rd (fun _ => True) w shHits [.slice p.a p.n p.c] xs) :
    Calls Try.prog 36 #[.slice p.a p.n p.c] w (CpPost shHits xs w) := by
  have H := Lib.hid h
  clear h
  go_enter Try.func36, Try.ntmps36
  go_wp2_with (at_builtin; go_must (refine app_flat w shHit 16 rfl rfl (.const (.slice none 0 0)) (.tmp 3) 43 91 rfl Try.underlying43 (.agg #[.int .i64 0, .int .u32 0]) hit_info16 rfl (by decide) (by decide) rfl p.a p.n p.c xs rfl H.out ?_))
  intro q w' h1 h2
  have H1 := Lib.hid h1
  have H2 := Lib.hid h2
  clear h1 h2
  go_wp2
  go_ret
  exact ⟨q, rfl, H1.out, H2.out⟩
theorem clone32_cp (w : World) (p : SlL) (xs : List Int) (h : Rd (fun _ => True) w shVec [.slice p.a p.n p.c] xs) : Calls Try.prog 30 #[.slice p.a p.n p.c] w (CpPost shVec xs w) := by
  have hw := rd_vec_wf h
  refine (clone32_any w p.a p.n p.c xs h).mono ?_
  rintro e w' ⟨v, rfl, hb, ho⟩
  obtain ⟨a, n, c, rfl, -⟩ := ownsRow_slice ho
  exact ⟨⟨a, n, c⟩, rfl, hb, own_ints ho (fun g hg => (World.ownsRow.lt ho g hg).1) hw.1 (by decide) hw.2⟩
theorem cloneS_cp (w : World) (p : SlL) (xs : List ByteArray) (h : Rd (fun _ => True) w shTags [.slice p.a p.n p.c] xs) : Calls Try.prog 33 #[.slice p.a p.n p.c] w (CpPost shTags xs w) := by
  have hw := rd_tags_wf h
  refine (cloneS_any w p.a p.n p.c xs h).mono ?_
  rintro e w' ⟨v, rfl, hb, ho⟩
  obtain ⟨a, n, c, rfl, -⟩ := ownsRow_slice ho
  exact ⟨⟨a, n, c⟩, rfl, hb, own_strs ho (fun g hg => (World.ownsRow.lt ho g hg).1) hw.1 (by decide) hw.2⟩
/-- A copied item. -/
def ItPost (x : shItem.T) (w : World) (e : Ending) (w' : World) : Prop := ∃ (id : Nat) (p q : SlL), e = .returned (.agg #[.int .u32 (id : Int), .slice p.a p.n p.c, .slice q.a q.n q.c]) ∧ Below w.heap.size w w' ∧ Rd (w.heap.size ≤ ·) w' shItem [.int .u32 (id : Int), .slice p.a p.n p.c, .slice q.a q.n q.c] x
theorem cloneI_cp (w : World) (c0 c1 c2 : Value) (x : shItem.T) (h : Rd (fun _ => True) w shItem [c0, c1, c2] x) : Calls Try.prog 35 #[.agg #[c0, c1, c2]] w (ItPost x w) := by
  obtain ⟨id, vec, tags, a, n, c, a', n', c', rfl, hcs, hid, hv, ht, _⟩ := rd_item h
  simp only [List.cons.injEq, and_true] at hcs
  obtain ⟨rfl, rfl, rfl⟩ := hcs
  refine (cloneI_any w ⟨id, (a, n, c), (a', n', c'), vec, tags⟩ ⟨(show id < 4294967296 by omega), hv, ht⟩).mono ?_
  rintro e w' ⟨y, rfl, hb, ho, hi, hv2, ht2⟩
  have hin := ho.inn (ok := (w.heap.size ≤ ·)) (fun g hg => (ho.lo g hg).1)
  have hid2 : y.id = id := congrArg ItemV.id hi
  simp only at hv2 ht2
  refine ⟨y.id, ⟨y.pv.1, y.pv.2.1, y.pv.2.2⟩, ⟨y.pt.1, y.pt.2.1, y.pt.2.2⟩, rfl, hb, ?_⟩
  have := rd_item_mk hin.hid hin.hvec hin.htags
  rw [hv2, ht2] at this
  rw [hid2] at this
  exact (show Rd (w.heap.size ≤ ·) w' shItem [.int .u32 (y.id : Int), _, _] ((id : Int), vec, tags, ()) from by rw [hid2]; exact this)
end Go.Proofs.Ytdgiellnklcioaa
