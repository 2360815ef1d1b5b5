/-
  The program's past: seen, by a walk over its text: a range over a function whose body reads and writes a map, and a row of bools by an index; its last region branches by hand.
-/
import Derived.Test.YtdmnflncgmnghaaGreatCg
import Derived.Test.YtdmnflncgmnghaaGreatCn
import Derived.Test.YtdmnflncgmnghaaGreatCo
import Derived.Test.YtdmnflncgmnghaaGreatCa
import Derived.Sort.CutIn
namespace Go.Proofs.YtdmnflncgmnghaaGreat
open Go.RowKit Go.Shelf

attribute [local go_sem] Oper.semAt_some

section
variable {F : Fence} {nF : Nat} {ops : Array Oper} {rest : List Oper} {o : Oper} {a : Act} {Q : Exit → Act → World → Prop}
/-- 'v, ok := m[k]', within a fence. -/
theorem map_lookIn (w : World) (hg : o.guard = none) (m x : Operand) (hop : o.op = Op.lookup 210 m x true) (b n : Nat) (f : Nat → Option Nat) (h : MapAt w b n f)
    (hm : a.eval m = .map (some b)) (id : Nat) (hid : id < 4294967296) (hx : a.eval x = .int .u32 (id : Int))
    (hK : wpListIn F nF Tryz.prog ops Q rest (a.put o.dst (.tuple #[.int .u64 (((f id).getD 0 : Nat) : Int), .bool (f id).isSome])) w) : wpListIn F nF Tryz.prog ops Q (o :: rest) a w := by
  obtain ⟨D, h1, h2, h3⟩ := h
  refine wpListIn_lookup_own_ok_int w hg m x _ hop 38 27 .u64 (Maps.int_keyed Tryz.underlying38) Tryz.underlying210 Tryz.underlying27 (Tryz.zeroValue27 _) b n D hm h1 _ _ hx (Maps.keyOf_int_mk Tryz.underlying38 (u32_lit hid)) ?_
  intro c hc _
  rcases h3 id with ⟨e1, e2⟩ | ⟨v, e1, e2, e3⟩
  · rw [Maps.atKey_of_not_has e2] at hc
    simp only [DataW.lit.injEq, Lit.int.injEq, true_and] at hc
    subst hc
    rw [e1] at hK
    rw [e2]
    exact hK
  · rw [e3] at hc
    simp only [DataW.lit.injEq, Lit.int.injEq, true_and] at hc
    subst hc
    rw [e1] at hK
    rw [e2]
    exact hK
/-- 'm[k] = v', within a fence. -/
theorem map_putIn (w : World) (hg : o.guard = none) (m x y : Operand) (hop : o.op = Op.mapUpdate 210 m x y) (b n : Nat) (f : Nat → Option Nat) (h : MapAt w b n f) (hn : n ≤ 1000000)
    (hm : a.eval m = .map (some b)) (id : Nat) (hid : id < 4294967296) (hx : a.eval x = .int .u32 (id : Int)) (v : Nat) (hv : v < 18446744073709551616) (hy : a.eval y = .int .u64 (v : Int))
    (hK : ∀ w', MapAt w' b (n + 1) (fun j => if j = id then some v else f j) → w.grownBy w' (some b) → wpListIn F nF Tryz.prog ops Q rest (a.put o.dst undef) w') : wpListIn F nF Tryz.prog ops Q (o :: rest) a w := by
  obtain ⟨D, h1, h2, h3⟩ := h
  refine wpListIn_mapUpdate_own w hg m x y _ hop 38 27 (Maps.int_keyed Tryz.underlying38) Tryz.underlying210 (plainElem Tryz.prog 27) b n D hm h1 (by unfold maxLen; omega) _ _ _ hx hy (Maps.keyOf_int_mk Tryz.underlying38 (u32_lit hid)) (.lit (.int .u64 (v : Int))) [] (plainElem_int Tryz.underlying27 (u64_lit hv)) ?_
  intro w' h4 h5
  refine hK w' ⟨_, h4, isMap_put h2 _ _, fun j => ?_⟩ h5
  by_cases hj : j = id
  · subst hj
    exact .inr ⟨v, by simp, Maps.has_put_same h2 (keyLit _ _) _, fun z => Maps.atKey_put_same h2 (keyLit _ _) _ z⟩
  · have hne : (Lit.int .u32 (j : Int)) ≠ Lit.int .u32 (id : Int) := by
      intro h
      simp at h
      omega
    rcases h3 j with ⟨e1, e2⟩ | ⟨u, e1, e2, e3⟩
    · exact .inl ⟨by simp [hj, e1], by rw [Maps.has_put_other hne]; exact e2⟩
    · exact .inr ⟨u, by simp [hj, e1], by rw [Maps.has_put_other hne]; exact e2, fun z => by rw [Maps.atKey_put_other hne]; exact e3 z⟩
end
theorem madeB (N : Nat) : (madeCells #[.bool false] N).toList = (List.replicate N false).map Value.bool := by
  rw [List.map_replicate]
  refine List.ext_getElem (by simp [madeCells]) (fun i h1 h2 => ?_)
  simp [madeCells, Nat.mod_one]
/-- Between two rounds of seen. -/
def SeenInv (w : World) (g v : Nat) (ks : List Nat) (L : List RowL) (pre : List (BackT L)) (W : World) : Prop :=
  (((((Blk W w.heap.size 102 [.pointer (some ⟨g, 0, none⟩)] ∧ Blk W (w.heap.size + 2) 188 [.slice (some ⟨w.heap.size + 1, 0, none⟩) L.length L.length]) ∧ Blk W (w.heap.size + 4) 210 [.map (some (w.heap.size + 3))]) ∧ Blk W (w.heap.size + 5) 102 [.pointer (some ⟨g, 0, none⟩)] ∧ Blk W (w.heap.size + 6) 27 [.int .u64 (v : Int)]) ∧ Below w.heap.size w W) ∧ MapAt W (w.heap.size + 3) pre.length (seenS ks pre).1) ∧ Blk W (w.heap.size + 1) 4 ((seenS ks pre).2.map Value.bool)
theorem seenInv_own {w : World} {g v : Nat} {ks : List Nat} {L : List RowL} {B : Nat} (hB : w.heap.size + 3 < B) : OwnFrom B (SeenInv w g v ks L) := fun s X Y row hs hg hr => by
  obtain ⟨⟨⟨⟨⟨⟨h0, h1⟩, h2⟩, h3, h4⟩, h5⟩, h6⟩, h7⟩ := hs
  have hr2 : ∀ r, row = some r → ∃ o : Obj, X.heap[r]? = some o ∧ o.isCells = false := fun r e => (hr r e).2
  have bo : ∀ {b : Nat} {t : TypeId} {cs : List Value}, Blk X b t cs → Blk Y b t cs := fun h => blk_own _ _ (fun (_ : Unit) => _) () X Y row h hg hr2
  exact ⟨⟨⟨⟨⟨⟨bo h0, bo h1⟩, bo h2⟩, bo h3, bo h4⟩, ownFrom_below (Nat.le_refl _) (by omega) () X Y row h5 hg hr⟩, h6.kept hg (fun e => by have := (hr _ e).1; omega)⟩, bo h7⟩
/-- Where seen begins. -/
theorem seen_start (w : World) (g N : Nat) (W4 : World) (h : W4 = (((((w.alloc (.cells #[.pointer (some ⟨g, 0, none⟩)] 102)).alloc (.cells (madeCells #[.bool false] N) 4)).alloc (.cells #[.slice (some ⟨w.heap.size + 1, 0, none⟩) N N] 188)).alloc (.map #[] 0)).alloc (.cells #[.map (some (w.heap.size + 3))] 210))) :
    W4.heap.size = w.heap.size + 5 ∧ Below w.heap.size w W4 ∧ Blk W4 w.heap.size 102 [.pointer (some ⟨g, 0, none⟩)] ∧ Blk W4 (w.heap.size + 2) 188 [.slice (some ⟨w.heap.size + 1, 0, none⟩) N N] ∧ Blk W4 (w.heap.size + 4) 210 [.map (some (w.heap.size + 3))] ∧ MapAt W4 (w.heap.size + 3) 0 (fun _ => none) ∧ Blk W4 (w.heap.size + 1) 4 ((List.replicate N false).map Value.bool) := by
  obtain ⟨w1, h1⟩ : ∃ w1, w.alloc (.cells #[.pointer (some ⟨g, 0, none⟩)] 102) = w1 := ⟨_, rfl⟩
  have z1 : w1.heap.size = w.heap.size + 1 := by rw [← h1]; simp
  have b1 : Blk w1 w.heap.size 102 [.pointer (some ⟨g, 0, none⟩)] := by rw [← h1]; exact Blk.new w _ _
  have B1 : Below w.heap.size w w1 := by rw [← h1]; exact (Below.refl _ w).alloc (Nat.le_refl _) _
  rw [h1] at h
  clear h1
  obtain ⟨w2, h2⟩ : ∃ w2, w1.alloc (.cells (madeCells #[.bool false] N) 4) = w2 := ⟨_, rfl⟩
  have z2 : w2.heap.size = w.heap.size + 2 := by rw [← h2]; simp [z1]
  have b2 : Blk w2 (w.heap.size + 1) 4 ((List.replicate N false).map Value.bool) := by
    rw [← h2, ← z1, ← madeB]
    exact Blk.new w1 _ _
  have b12 : Blk w2 w.heap.size 102 [.pointer (some ⟨g, 0, none⟩)] := by rw [← h2]; exact b1.alloc _
  have B2 : Below w.heap.size w w2 := by rw [← h2]; exact B1.alloc (by omega) _
  rw [h2] at h
  clear h2
  obtain ⟨w3, h3⟩ : ∃ w3, w2.alloc (.cells #[.slice (some ⟨w.heap.size + 1, 0, none⟩) N N] 188) = w3 := ⟨_, rfl⟩
  have z3 : w3.heap.size = w.heap.size + 3 := by rw [← h3]; simp [z2]
  have b3 : Blk w3 (w.heap.size + 2) 188 [.slice (some ⟨w.heap.size + 1, 0, none⟩) N N] := by
    rw [← h3, ← z2]
    exact Blk.new w2 _ _
  have b13 : Blk w3 w.heap.size 102 [.pointer (some ⟨g, 0, none⟩)] := by rw [← h3]; exact b12.alloc _
  have b23 : Blk w3 (w.heap.size + 1) 4 ((List.replicate N false).map Value.bool) := by rw [← h3]; exact b2.alloc _
  have B3 : Below w.heap.size w w3 := by rw [← h3]; exact B2.alloc (by omega) _
  rw [h3] at h
  clear h3
  have m4 : MapAt (w3.alloc (.map #[] 0)) (w.heap.size + 3) 0 (fun _ => none) := by rw [← z3]; exact MapAt.made w3
  have z4 : (w3.alloc (.map #[] 0)).heap.size = w.heap.size + 4 := by simp [z3]
  have B4 : Below w.heap.size w (w3.alloc (.map #[] 0)) := B3.alloc (by omega) _
  have B5 := B4.alloc (by omega) (.cells #[.map (some (w.heap.size + 3))] 210)
  subst h
  refine ⟨by simp [z3], B5, (b13.alloc _).alloc _, (b3.alloc _).alloc _, ?_, m4.kept (World.grownBy_alloc _ _ none) (by simp), (b23.alloc _).alloc _⟩
  rw [← z4]
  exact Blk.new _ _ _
theorem seen_begin (w : World) (g N : Nat) (W4 : World) (last : Nat) (kept : List Nat) (L : List RowL) (hN : L.length = N)
    (h : W4.heap.size = w.heap.size + 5 ∧ Below w.heap.size w W4 ∧ Blk W4 w.heap.size 102 [.pointer (some ⟨g, 0, none⟩)] ∧ Blk W4 (w.heap.size + 2) 188 [.slice (some ⟨w.heap.size + 1, 0, none⟩) N N] ∧ Blk W4 (w.heap.size + 4) 210 [.map (some (w.heap.size + 3))] ∧ MapAt W4 (w.heap.size + 3) 0 (fun _ => none) ∧ Blk W4 (w.heap.size + 1) 4 ((List.replicate N false).map Value.bool)) :
    SeenInv w g last kept L [] ((W4.alloc (.cells #[.pointer (some ⟨g, 0, none⟩)] 102)).alloc (.cells #[.int .u64 (last : Int)] 27)).drew ∧ (((W4.alloc (.cells #[.pointer (some ⟨g, 0, none⟩)] 102)).alloc (.cells #[.int .u64 (last : Int)] 27)).drew).heap.size = w.heap.size + 7 := by
  obtain ⟨hz, hB, h0, h2, h4, h3, h1⟩ := h
  subst hN
  have z1 : (W4.alloc (.cells #[.pointer (some ⟨g, 0, none⟩)] 102)).heap.size = w.heap.size + 6 := by simp [hz]
  have z2 : ((W4.alloc (.cells #[.pointer (some ⟨g, 0, none⟩)] 102)).alloc (.cells #[.int .u64 (last : Int)] 27)).heap.size = w.heap.size + 7 := by simp [hz]
  have h5 : Blk (W4.alloc (.cells #[.pointer (some ⟨g, 0, none⟩)] 102)) (w.heap.size + 5) 102 [.pointer (some ⟨g, 0, none⟩)] := by
    rw [← hz]
    exact Blk.new _ _ _
  have h6 : Blk ((W4.alloc (.cells #[.pointer (some ⟨g, 0, none⟩)] 102)).alloc (.cells #[.int .u64 (last : Int)] 27)) (w.heap.size + 6) 27 [.int .u64 (last : Int)] := by
    rw [← z1]
    exact Blk.new _ _ _
  have hbb := ((hB.alloc (by omega) (.cells #[.pointer (some ⟨g, 0, none⟩)] 102)).alloc (by omega) (.cells #[.int .u64 (last : Int)] 27))
  refine ⟨⟨⟨⟨⟨⟨⟨((h0.alloc _).alloc _).drew, ((h2.alloc _).alloc _).drew⟩, ((h4.alloc _).alloc _).drew⟩, (h5.alloc _).drew, h6.drew⟩, ⟨hbb.os, hbb.tape, hbb.output, hbb.size, hbb.block⟩⟩, ?_⟩, ((h1.alloc _).alloc _).drew⟩, z2⟩
  exact ((h3.kept (World.grownBy_alloc _ _ none) (by simp)).kept (World.grownBy_alloc _ _ none) (by simp)).far rfl
/-- What stands behind the store into the map. -/
theorem SeenInv.put {w W w1 : World} {g v B : Nat} {ks : List Nat} {L : List RowL} {pre : List (BackT L)} (h : SeenInv w g v ks L pre W) (hg1 : W.grownBy w1 (some (w.heap.size + 3))) (hB : w.heap.size + 3 < B) :
    (KeepsFrom B W w1 ∧ KpB w.heap.size (w.heap.size + 5) (w.heap.size + 6) W w1) ∧ (((Blk w1 w.heap.size 102 [.pointer (some ⟨g, 0, none⟩)] ∧ Blk w1 (w.heap.size + 2) 188 [.slice (some ⟨w.heap.size + 1, 0, none⟩) L.length L.length]) ∧ Blk w1 (w.heap.size + 4) 210 [.map (some (w.heap.size + 3))]) ∧ Blk w1 (w.heap.size + 5) 102 [.pointer (some ⟨g, 0, none⟩)] ∧ Blk w1 (w.heap.size + 6) 27 [.int .u64 (v : Int)]) ∧ Below w.heap.size w w1 ∧ Blk w1 (w.heap.size + 1) 4 ((seenS ks pre).2.map Value.bool) := by
  obtain ⟨⟨⟨⟨⟨⟨d0, d1⟩, d2⟩, d3, d4⟩, hb⟩, -⟩, hr⟩ := h
  have hne : ∀ j, j ≠ w.heap.size + 3 → (some (w.heap.size + 3) : Option Nat) ≠ some j := fun j hj e => hj (by cases e; rfl)
  have hbel : Below w.heap.size W w1 := (Below.refl _ W).grown hg1 hb.size (fun k e => by cases e; omega)
  refine ⟨⟨KeepsFrom.of_grownBy hg1 (fun j e => by cases e; omega), ⟨hbel, hg1.block _ d3.lt (fun e => by simp at e), hg1.block _ d4.lt (fun e => by simp at e)⟩⟩,
    ⟨⟨⟨d0.grown hg1 (hne _ (by omega)), d1.grown hg1 (hne _ (by omega))⟩, d2.grown hg1 (hne _ (by omega))⟩, d3.grown hg1 (hne _ (by omega)), d4.grown hg1 (hne _ (by omega))⟩, hb.trans hbel, hr.grown hg1 (hne _ (by omega))⟩
/-- .. and behind the store into the row. -/
theorem SeenInv.store {w W w1 : World} {g v B i : Nat} {b : Bool} {ks : List Nat} {L : List RowL} {pre : List (BackT L)} {x : BackT L} (_ : w.heap.size + 3 < B)
    (h : (KeepsFrom B W w1 ∧ KpB w.heap.size (w.heap.size + 5) (w.heap.size + 6) W w1) ∧ (((Blk w1 w.heap.size 102 [.pointer (some ⟨g, 0, none⟩)] ∧ Blk w1 (w.heap.size + 2) 188 [.slice (some ⟨w.heap.size + 1, 0, none⟩) L.length L.length]) ∧ Blk w1 (w.heap.size + 4) 210 [.map (some (w.heap.size + 3))]) ∧ Blk w1 (w.heap.size + 5) 102 [.pointer (some ⟨g, 0, none⟩)] ∧ Blk w1 (w.heap.size + 6) 27 [.int .u64 (v : Int)]) ∧ Below w.heap.size w w1 ∧ Blk w1 (w.heap.size + 1) 4 ((seenS ks pre).2.map Value.bool))
    (hm : MapAt w1 (w.heap.size + 3) (pre.length + 1) (fun j => if j = x.1.2.id then some x.1.2.v else (seenS ks pre).1 j)) (hi : x.1.1 = i) (hb : bval ks ((seenS ks pre).1 x.1.2.id) x.1.2.v = b) :
    KeepsFrom B W (w1.drew.setCell ⟨w.heap.size + 1, i, none⟩ (.bool b)) ∧ KpB w.heap.size (w.heap.size + 5) (w.heap.size + 6) W (w1.drew.setCell ⟨w.heap.size + 1, i, none⟩ (.bool b)) ∧ SeenInv w g v ks L (pre ++ [x]) (w1.drew.setCell ⟨w.heap.size + 1, i, none⟩ (.bool b)) := by
  obtain ⟨⟨hk, hp⟩, ⟨⟨⟨d0, d1⟩, d2⟩, d3, d4⟩, hbel, hr⟩ := h
  subst hi hb
  have hBe := (hbel.drew).setCell (p := ⟨w.heap.size + 1, x.1.1, none⟩) (by simp) (.bool (bval ks ((seenS ks pre).1 x.1.2.id) x.1.2.v))
  have hK := ((KeepsOthers.drew w1).trans (KeepsOthers.setCell w1.drew ⟨w.heap.size + 1, x.1.1, none⟩ (.bool (bval ks ((seenS ks pre).1 x.1.2.id) x.1.2.v)))).from B
  have same : ∀ j, j ≠ w.heap.size + 1 → (w1.drew.setCell ⟨w.heap.size + 1, x.1.1, none⟩ (.bool (bval ks ((seenS ks pre).1 x.1.2.id) x.1.2.v))).heap[j]? = w1.heap[j]? := fun j hj => Below.heap_setCell w1.drew _ _ j hj
  have hbel1 : Below w.heap.size W w1 := hp.1
  refine ⟨hk.trans hK, ⟨(hbel1.drew).setCell (p := ⟨w.heap.size + 1, x.1.1, none⟩) (by simp) _, (same _ (by omega)).trans hp.2.1, (same _ (by omega)).trans hp.2.2⟩, ⟨⟨⟨⟨⟨d0.of_eq (same _ (by omega)), d1.of_eq (same _ (by omega))⟩, d2.of_eq (same _ (by omega))⟩, d3.of_eq (same _ (by omega)), d4.of_eq (same _ (by omega))⟩, hBe⟩, ?_⟩, ?_⟩
  · rw [seenS_snoc, List.length_append]
    exact hm.far (same _ (by omega))
  · rw [seenS_snoc]
    simp only [List.map_set]
    exact hr.drew.set _ _
theorem seen_lt {L : List RowL} {ks : List Nat} {pre : List (BackT L)} {id e : Nat} (h : ∀ r ∈ L, r.v < 18446744073709551616) (he : (seenS ks pre).1 id = some e) : e < 18446744073709551616 := by
  induction pre using snoc_ind with
  | h0 => cases he
  | h1 l x ih =>
    rw [seenS_snoc] at he
    simp only at he
    split at he
    · cases he
      exact h _ (List.mem_of_getElem? x.2)
    · exact ih he
/-- A region that draws, within a round, of which no way panics: as outside it. -/
theorem region_inRound {F : Fence} {l n id : Nat} {P : Program} {ops : Array Oper} {Q : Exit → Act → World → Prop} {a : Act} {w : World} (hm : P.follows .mixedOrders = true) (hd : ∀ (i : Nat) (o : Oper), ops[i]? = some o → ∀ c, o.op ≠ .defer c)
    (h : wpAnyIn F n P .any ops (fun e a w => match e with | .normal => Q .normal a w | _ => False) ops.size (Array.replicate ops.size false) a w.drew) : (Code.region id ops true).wpIn (F.inRound l) n P Q a w :=
  wpIn_mono (wpIn_region_any hm (wpAnyIn_round hd _ _ _ _ h)) (fun e a w => by
    cases e
    · exact fun h => h
    all_goals exact False.elim)
/-- What seen tells. -/
def SeenPost (w : World) (L : List RowL) (ks : List Nat) (last : Nat) (e : Ending) (w' : World) : Prop := ∃ v', e = .returned v' ∧ Below w.heap.size w w' ∧ BoolsAt w.heap.size w' v' (seenS ks (bk L last L.length)).2

theorem seen_fin {w W : World} {L : List RowL} {ks : List Nat} {N v D : Nat} (hN : L.length = N) (hl : N ≤ 1024) (hB : Below w.heap.size w W) (hR : Blk W (w.heap.size + 1) 4 ((seenS ks (bk L v L.length)).2.map Value.bool)) {o' : Obj} (hD : W.heap[D]? = some (.deferred (some []))) (hle : w.heap.size ≤ D) :
    SeenPost w L ks v (.returned (.slice (some ⟨w.heap.size + 1, 0, none⟩) N N)) (W.putObj D o') := by
  have hg : W.grownBy (W.putObj D o') (some D) := grownBy_putObj' W D o'
  have hne : D ≠ w.heap.size + 1 := fun e => by
    rw [e, show W.heap[w.heap.size + 1]? = _ from hR] at hD
    cases hD
  have hR2 : Blk (W.putObj D o') (w.heap.size + 1) 4 ((seenS ks (bk L v L.length)).2.map Value.bool) := hR.grown hg (fun e => hne (by cases e; rfl))
  have hbl : (seenS ks (bk L v L.length)).2.length = N := by rw [seenS_len, hN]
  refine ⟨_, rfl, hB.grown hg hB.size (fun k e => by cases e; exact hle), fun c hc => ?_, ?_⟩
  · obtain ⟨b, _, rfl⟩ := List.mem_map.1 hc
    rfl
  · have hfl : ((seenS ks (bk L v L.length)).2.map fun b => [Value.bool b]).flatten = (seenS ks (bk L v L.length)).2.map Value.bool := by
      generalize (seenS ks (bk L v L.length)).2 = l
      induction l with
      | nil => rfl
      | cons b l ih => simp [ih]
    rw [hfl, List.length_map]
    refine ⟨by simp, .inr ⟨w.heap.size + 1, N, ((seenS ks (bk L v L.length)).2.map Value.bool).toArray, by rw [hbl], by omega, hR2, by rw [hbl]; exact Nat.le_refl _, by unfold maxLen; omega, by simp [hbl], ?_⟩⟩
    rw [Nat.mul_one]
    exact List.take_of_length_le (by simp)
set_option maxRecDepth 100000 in
set_option maxHeartbeats 6400000 in
theorem seen_in (w : World) (lo g : Nat) (It : List Nat) (u k : Value) (L : List RowL) (last floor : Nat) (kept : List Nat) (PC : PastC w lo g It u k L last floor kept) :
    CallsIn Fence.wide 9 Tryz.prog 104 #[.pointer (some ⟨g, 0, none⟩)] w fun e W' => SeenPost w L kept last e W' := by
  have hmm := @run_makeMap Tryz.prog
  obtain ⟨a, c, rfl, hnc⟩ := PC.u_form
  obtain ⟨N, hN⟩ : ∃ N, L.length = N := ⟨_, rfl⟩
  have HN := Lib.hid hN
  have hL := PC.hL
  obtain ⟨ka, kc, rfl, hkc⟩ := PC.k_form
  obtain ⟨kn, hkn⟩ : ∃ kn, kept.length = kn := ⟨_, rfl⟩
  have HKN := Lib.hid hkn
  have hkl := PC.hK
  have hms : ∀ W : World, (Instr.makeSlice 188 (.int .i64 (N : Int)) (.int .i64 (N : Int))).run Tryz.prog W = .ok (.slice (some ⟨W.heap.size, 0, none⟩) N N) (W.alloc (.cells (madeCells #[.bool false] N) 4)) := fun W => by
    obtain ⟨i, hi, hz0, hz1, hz2⟩ := info_parts (show (Tryz.prog.info? 4).map (fun i => (i.zero, i.size, i.bytes)) = some (some (.bool false), 1, 1) by kernel_rfl)
    have h := run_makeSlice (P := Tryz.prog) W 188 4 i (.bool false) Tryz.underlying188 hi hz0 .i64 .i64 (N : Int) (N : Int) (by omega) (Int.le_refl _) (by rw [hz1]; omega) (by rw [hz2]; omega) (by omega)
    rw [h, hz1]
    simp [Value.cells]
  rw [hN] at PC hnc hL
  rw [hkn] at PC hkc hkl
  have c0 : w.cell? ⟨g, 0, none⟩ = some (.slice a N c) := PC.blk.cell 0
  have c1 : w.cell? ⟨g, 1, none⟩ = some (.int .u64 (last : Int)) := PC.blk.cell 1
  have hglt := PC.blk.lt
  refine callsIn_of_wp_marks Tryz.func104 rfl trivial ?_ rfl
  simp only [Tryz.ntmps104, List.size_toArray, List.length_cons, List.length_nil, Nat.reduceAdd, Nat.reduceSub, Array.replicate_succ, Array.replicate_zero, List.push_toArray, List.append_toArray, List.nil_append, List.cons_append]
  gi_wp2
  obtain ⟨W4, hW4⟩ : ∃ W4, (((((w.alloc (.cells #[.pointer (some ⟨g, 0, none⟩)] 102)).alloc (.cells (madeCells #[.bool false] N) 4)).alloc (.cells #[.slice (some ⟨w.heap.size + 1, 0, none⟩) N N] 188)).alloc (.map #[] 0)).alloc (.cells #[.map (some (w.heap.size + 3))] 210)) = W4 := ⟨_, rfl⟩
  have S4 := seen_start w g N W4 hW4.symm
  rw [hW4]
  clear hW4 hmm hms
  have hsz := S4.1
  have q0 : W4.cell? ⟨w.heap.size, 0, none⟩ = some (.pointer (some ⟨g, 0, none⟩)) := S4.2.2.1.cell 0
  have q1 : W4.cell? ⟨g, 1, none⟩ = some (.int .u64 (last : Int)) := (S4.2.1.cell (p := ⟨g, 1, none⟩) hglt).trans c1
  have hmo : Tryz.prog.follows .mixedOrders = true := by kernel_rfl
  have START := Lib.hid (seen_begin w g N W4 last kept L HN.out S4)
  gi_cut [21] from 22 (fun s21 wx => s21 = .func (.func 97) #[] #[.pointer (some ⟨w.heap.size + 5, 0, none⟩), .pointer (some ⟨w.heap.size + 6, 0, none⟩)] ∧ Hid (SeenInv w g last kept L [] wx ∧ wx.heap.size = w.heap.size + 7))
  case first J K' hJ hK =>
    first | gi_region_with_o (refine ⟨trivial, ?_⟩; gi_at_call 77; refine (back_in _ g last _).mono ?_; rintro e w' ⟨rfl, rfl⟩) | fail
    all_goals
      refine hK _ _ (Met.intro (hJ _ _ ?_))
      (repeat apply Exists.intro)
      refine ⟨?_, rfl⟩
      exact ⟨rfl, START.out⟩
  obtain ⟨rfl, INV⟩ := hcut
  clear START S4 q0 q1 hsz
  gi_wp2
  have INV0 := INV.out
  obtain ⟨⟨⟨⟨⟨⟨-, -⟩, -⟩, b5, b6⟩, hB0⟩, -⟩, -⟩ := INV0.1
  have hsz := INV0.2
  have hlast := PC.hlast
  refine wpIn_rangeFunc_ownH rfl (by omega) (gf := 97) (lb := #[.pointer (some ⟨w.heap.size + 5, 0, none⟩), .pointer (some ⟨w.heap.size + 6, 0, none⟩)]) rfl trivial (enters_of Tryz.func97 (by kernel_rfl) rfl)
    (back_stops 8 (by omega) (w.heap.size + 5) (w.heap.size + 6) w lo g It _ _ L last floor kept PC last hlast wc hB0 b5 b6) kpB_t (kpB_b (by omega) (by omega) (by omega)) (Below.refl _ _) (fun _ => rfl)
    (SeenInv w g last kept L) (fun _ _ _ => False) (seenInv_own (by omega)) (fun _ _ _ _ _ hs _ _ => hs)
    INV0.1
    (fun x a' W => ∃ Bx, w.heap.size + 6 < Bx ∧ Blk W Bx 157 x.1.2.cells ∧ a' = { tmps := #[.pointer (some ⟨g, 0, none⟩), .pointer (some ⟨w.heap.size, 0, none⟩), .slice none 0 0, .pointer (some ⟨w.heap.size + 1 + 1, 0, none⟩), .pointer (some ⟨w.heap.size + 1 + 1 + 1 + 1, 0, none⟩), .int .i64 (x.1.1 : Int), .pointer (some ⟨Bx, 0, none⟩), undef, undef, .pointer (some ⟨g, 0, none⟩), .pointer (some ⟨g, 0, none⟩), .pointer (some ⟨g, 0, none⟩), .slice a N c, .int .i64 (N : Int), .slice (some ⟨w.heap.size + 1, 0, none⟩) N N, .map (some (w.heap.size + 1 + 1 + 1)), u16, u17, u18, u19, u20, .func (.func 97) #[] #[.pointer (some ⟨w.heap.size + 5, 0, none⟩), .pointer (some ⟨w.heap.size + 6, 0, none⟩)], .int .i64 (x.1.1 : Int), .agg #[.int .u64 (x.1.2.v : Int), .bool x.1.2.gone, .int .u32 (x.1.2.id : Int), .slice x.1.2.pv.1 x.1.2.pv.2.1 x.1.2.pv.2.2, .slice x.1.2.pt.1 x.1.2.pt.2.1 x.1.2.pt.2.2], u24, u25, u26, u27, u28, u29, u30, u31, u32, u33, u34, u35, u36, u37, u38, u39, u40, u41, u42, u43, u44, u45, u46, u47, u48, u49, u50, u51, u52, u53], defers := [] })
    (fun x a' _ X Y row hs hg hr => by
      obtain ⟨Bx, h1, h2, h3⟩ := hs
      exact ⟨Bx, h1, blk_own _ _ (fun (_ : Unit) => _) () X Y row h2 hg (fun r e => (hr r e).2), h3⟩)
    ?assign ?body ?done ?stop
  case assign =>
    rintro l pre x W K hi hK
    have hi2 := hi
    obtain ⟨⟨⟨⟨⟨⟨d0, d1⟩, d2⟩, d3, d4⟩, hB⟩, hM⟩, hR⟩ := hi
    dsimp only [backE]
    gi_wp2
    refine hK _ _ ((KeepsOthers.alloc _ _).from _) ⟨(Below.refl _ W).alloc hB.size _, Below.heap_alloc _ _ _ d3.lt, Below.heap_alloc _ _ _ d4.lt⟩ ((seenInv_own (B := w.heap.size + 4) (by omega)).alloc _ hi2) ⟨W.heap.size, d4.lt, ?_, rfl⟩
    exact Blk.new W _ _
  case body =>
    rintro l pre x a' W hl _ ⟨⟨⟨⟨⟨⟨d0, d1⟩, d2⟩, d3, d4⟩, hB⟩, hM⟩, hR⟩ ⟨Bx, hBx, dx, rfl⟩ hlt
    have x0 : W.cell? ⟨Bx, 0, none⟩ = some (.int .u64 (x.1.2.v : Int)) := dx.cell 0
    have x2 : W.cell? ⟨Bx, 2, none⟩ = some (.int .u32 (x.1.2.id : Int)) := dx.cell 2
    have k4 : W.cell? ⟨w.heap.size + 1 + 1 + 1 + 1, 0, none⟩ = some (.map (some (w.heap.size + 3))) := d2.cell 0
    have RX := Lib.hid (PC.each x.1.2 (List.mem_of_getElem? x.2))
    have HPL := Lib.hid (show pre.length ≤ 1000000 by omega)
    have HM := Lib.hid hM
    have INVW := Lib.hid (show SeenInv w g last kept L pre W from ⟨⟨⟨⟨⟨⟨d0, d1⟩, d2⟩, d3, d4⟩, hB⟩, hM⟩, hR⟩)
    obtain ⟨fo, hfo⟩ : ∃ fo, (seenS kept pre).1 x.1.2.id = fo := ⟨_, rfl⟩
    have HFO := Lib.hid hfo
    clear hfo hM hR
    gi_wp2_with (first
      | (gi_at_lookup; refine map_lookIn W rfl _ _ rfl (w.heap.size + 3) pre.length (seenS kept pre).1 HM.out rfl x.1.2.id RX.out.hid rfl ?_; rw [HFO.out])
      | (gi_at_mapUpdate; refine map_putIn W rfl _ _ _ rfl (w.heap.size + 3) pre.length (seenS kept pre).1 HM.out HPL.out rfl x.1.2.id RX.out.hid rfl x.1.2.v RX.out.hv rfl ?_; intro w1 hs1 hg1; have P1 := Lib.hid (INVW.out.put hg1 (show w.heap.size + 3 < wc.heap.size by omega)); have HS1 := Lib.hid hs1; have dx1 := dx.grown hg1 (by simp; omega); clear hs1 hg1))
    have y3 : w1.cell? ⟨w.heap.size + 1 + 1, 0, none⟩ = some (.slice (some ⟨w.heap.size + 1, 0, none⟩) N N) := by rw [← HN.out]; exact P1.out.2.1.1.1.2.cell 0
    have y0 : w1.cell? ⟨w.heap.size, 0, none⟩ = some (.pointer (some ⟨g, 0, none⟩)) := P1.out.2.1.1.1.1.cell 0
    have PW := Lib.hid (PC.on P1.out.2.2.1)
    have yk : w1.cell? ⟨g, 3, none⟩ = some (.slice ka kn kc) := PW.out.blk.cell 3
    have yx : w1.cell? ⟨Bx, 0, none⟩ = some (.int .u64 (x.1.2.v : Int)) := dx1.cell 0
    obtain ⟨i, hi⟩ : ∃ i, x.1.1 = i := ⟨_, rfl⟩
    have hin : i < N := by
      have := (List.getElem?_eq_some_iff.1 x.2).1
      omega
    rw [hi]
    have HI := Lib.hid hi
    clear hi INVW HM d0 d1 d2 d3 d4 dx x0 x2 k4 hB
    obtain ⟨ob, yc⟩ : ∃ ob, w1.cell? ⟨w.heap.size + 1, i, none⟩ = some ob := by
      rw [P1.out.2.2.2.cell i]
      exact ⟨_, List.getElem?_eq_getElem (by rw [List.length_map, seenS_len, HN.out]; exact hin)⟩
    have yf : w1.frozen? ⟨w.heap.size + 1, i, none⟩ = false := P1.out.2.2.2.frozen i
    go_simp
    cases fo
    · have FIN := Lib.hid (SeenInv.store (x := x) (show w.heap.size + 3 < wc.heap.size by omega) P1.out HS1.out HI.out (show bval kept ((seenS kept pre).1 x.1.2.id) x.1.2.v = true by rw [HFO.out]; rfl))
      go_simp
      -- NONE
      refine region_inRound hmo (noDefer_of (by kernel_rfl)) ?_
      refine wpAnyIn_take (i := 1) (v := ?_) rfl rfl (by kernel_rfl) (by kernel_rfl) (by kernel_rfl) (fun _ _ _ h => h) ⟨Or.inl ⟨by rfl, ?_⟩, fun _ => rfl⟩ ?_
      rotate_left
      · intro _
        first | (go_simp; done) | (go_simp; with_reducible rfl)
      go_simp
      refine wpAnyIn_take (i := 2) (v := ?_) rfl rfl (by kernel_rfl) (by kernel_rfl) (by kernel_rfl) (fun _ _ _ h => h) ⟨Or.inl ⟨by rfl, ?_⟩, fun _ => rfl⟩ ?_
      rotate_left
      · intro _
        first | (go_simp; done) | (go_simp; with_reducible rfl)
      go_simp
      refine wpAnyIn_take (i := 3) (v := ?_) rfl rfl (by kernel_rfl) (by kernel_rfl) (by kernel_rfl) (fun _ _ _ h => h) ⟨Or.inl ⟨by rfl, ?_⟩, fun _ => rfl⟩ ?_
      rotate_left
      · intro _
        first | (go_simp; done) | (go_simp; with_reducible rfl)
      go_simp
      refine wpAnyIn_take (i := 4) (v := ?_) rfl rfl (by kernel_rfl) (by kernel_rfl) (by kernel_rfl) (fun _ _ _ h => h) ⟨Or.inl ⟨by rfl, ?_⟩, fun _ => rfl⟩ ?_
      rotate_left
      · intro _
        first | (go_simp; done) | (go_simp; with_reducible rfl)
      go_simp
      refine wpAnyIn_take (i := 5) (v := undef) rfl rfl (by kernel_rfl) (by kernel_rfl) (by kernel_rfl) (fun _ _ _ h => h) ⟨Or.inr ⟨by rfl, rfl⟩, fun _ => rfl⟩ ?_
      go_simp
      refine wpAnyIn_take (i := 6) (v := undef) rfl rfl (by kernel_rfl) (by kernel_rfl) (by kernel_rfl) (fun _ _ _ h => h) ⟨Or.inr ⟨by rfl, rfl⟩, fun _ => rfl⟩ ?_
      go_simp
      refine wpAnyIn_take (i := 7) (v := undef) rfl rfl (by kernel_rfl) (by kernel_rfl) (by kernel_rfl) (fun _ _ _ h => h) ⟨Or.inr ⟨by rfl, rfl⟩, fun _ => rfl⟩ ?_
      go_simp
      refine wpAnyIn_take (i := 8) (v := undef) rfl rfl (by kernel_rfl) (by kernel_rfl) (by kernel_rfl) (fun _ _ _ h => h) ⟨Or.inr ⟨by rfl, rfl⟩, fun _ => rfl⟩ ?_
      go_simp
      refine wpAnyIn_take (i := 9) (v := undef) rfl rfl (by kernel_rfl) (by kernel_rfl) (by kernel_rfl) (fun _ _ _ h => h) ⟨Or.inr ⟨by rfl, rfl⟩, fun _ => rfl⟩ ?_
      go_simp
      refine wpAnyIn_take (i := 10) (v := undef) rfl rfl (by kernel_rfl) (by kernel_rfl) (by kernel_rfl) (fun _ _ _ h => h) ⟨Or.inr ⟨by rfl, rfl⟩, fun _ => rfl⟩ ?_
      go_simp
      refine wpAnyIn_take (i := 11) (v := undef) rfl rfl (by kernel_rfl) (by kernel_rfl) (by kernel_rfl) (fun _ _ _ h => h) ⟨Or.inr ⟨by rfl, rfl⟩, fun _ => rfl⟩ ?_
      go_simp
      refine wpAnyIn_ready (rs := [0, 12]) (by kernel_rfl) (by simp) ?_
      refine AllReadyIn.cons rfl (fun K hK => ?_) (AllReadyIn.cons rfl (fun K hK => ?_) AllReadyIn.nil)
      · (go_simp; refine hK _ _ ?_; clear hK K)
        refine wpAnyIn_ready (rs := [12]) (by kernel_rfl) (by simp) ?_
        refine AllReadyIn.cons rfl (fun K hK => ?_) AllReadyIn.nil
        (go_simp; refine ⟨trivial, ?_⟩; refine hK _ _ ?_; clear hK K)
        refine wpAnyIn_take (i := 13) (v := ?_) rfl rfl (by kernel_rfl) (by kernel_rfl) (by kernel_rfl) (fun _ _ _ h => h) ⟨Or.inl ⟨by rfl, ?_⟩, fun _ => rfl⟩ ?_
        rotate_left
        · intro _
          first | (go_simp; done) | (go_simp; with_reducible rfl)
        go_simp
        refine wpAnyIn_ready (rs := [14]) (by kernel_rfl) (by simp) ?_
        refine AllReadyIn.cons rfl (fun K hK => ?_) AllReadyIn.nil
        (go_simp; refine hK _ _ ?_; clear hK K)
        refine wpAnyIn_ready (rs := [15]) (by kernel_rfl) (by simp) ?_
        refine AllReadyIn.cons rfl (fun K hK => ?_) AllReadyIn.nil
        (go_simp; refine hK _ _ ?_; clear hK K)
        refine wpAnyIn_done (by kernel_rfl) ?_ _
        exact FIN.out
      · (go_simp; refine ⟨trivial, ?_⟩; refine hK _ _ ?_; clear hK K)
        refine wpAnyIn_take (i := 13) (v := ?_) rfl rfl (by kernel_rfl) (by kernel_rfl) (by kernel_rfl) (fun _ _ _ h => h) ⟨Or.inl ⟨by rfl, ?_⟩, fun _ => rfl⟩ ?_
        rotate_left
        · intro _
          first | (go_simp; done) | (go_simp; with_reducible rfl)
        go_simp
        refine wpAnyIn_ready (rs := [0]) (by kernel_rfl) (by simp) ?_
        refine AllReadyIn.cons rfl (fun K hK => ?_) AllReadyIn.nil
        (go_simp; refine hK _ _ ?_; clear hK K)
        refine wpAnyIn_ready (rs := [14]) (by kernel_rfl) (by simp) ?_
        refine AllReadyIn.cons rfl (fun K hK => ?_) AllReadyIn.nil
        (go_simp; refine hK _ _ ?_; clear hK K)
        refine wpAnyIn_ready (rs := [15]) (by kernel_rfl) (by simp) ?_
        refine AllReadyIn.cons rfl (fun K hK => ?_) AllReadyIn.nil
        (go_simp; refine hK _ _ ?_; clear hK K)
        refine wpAnyIn_done (by kernel_rfl) ?_ _
        exact FIN.out
      -- END NONE
    · rename_i en
      have hen : en < 18446744073709551616 := seen_lt (fun r hr => (PC.each r hr).hv) HFO.out
      obtain ⟨bv, hbv⟩ : ∃ bv, bval kept (some en) x.1.2.v = bv := ⟨_, rfl⟩
      have BV := Lib.hid (show (kept.any fun y => decide (x.1.2.v ≤ y) && decide (y < en)) = bv from hbv)
      have FIN := Lib.hid (SeenInv.store (x := x) (show w.heap.size + 3 < wc.heap.size by omega) P1.out HS1.out HI.out (show bval kept ((seenS kept pre).1 x.1.2.id) x.1.2.v = bv by rw [HFO.out]; exact hbv))
      have ANY := Lib.hid (anyIn_any lo w1.drew ka kn kc kept x.1.2.v en RX.out.hv hen (RowC.kept PW.out.vers ((Kept.refl [] w1).drew) (by simp)) HKN.out hkl PC.hks)
      clear hbv
      go_simp
      -- SOME
      refine region_inRound hmo (noDefer_of (by kernel_rfl)) ?_
      refine wpAnyIn_take (i := 1) (v := ?_) rfl rfl (by kernel_rfl) (by kernel_rfl) (by kernel_rfl) (fun _ _ _ h => h) ⟨Or.inl ⟨by rfl, ?_⟩, fun _ => rfl⟩ ?_
      rotate_left
      · intro _
        first | (go_simp; done) | (go_simp; with_reducible rfl)
      go_simp
      refine wpAnyIn_take (i := 2) (v := ?_) rfl rfl (by kernel_rfl) (by kernel_rfl) (by kernel_rfl) (fun _ _ _ h => h) ⟨Or.inl ⟨by rfl, ?_⟩, fun _ => rfl⟩ ?_
      rotate_left
      · intro _
        first | (go_simp; done) | (go_simp; with_reducible rfl)
      go_simp
      refine wpAnyIn_take (i := 3) (v := ?_) rfl rfl (by kernel_rfl) (by kernel_rfl) (by kernel_rfl) (fun _ _ _ h => h) ⟨Or.inl ⟨by rfl, ?_⟩, fun _ => rfl⟩ ?_
      rotate_left
      · intro _
        first | (go_simp; done) | (go_simp; with_reducible rfl)
      go_simp
      refine wpAnyIn_take (i := 4) (v := ?_) rfl rfl (by kernel_rfl) (by kernel_rfl) (by kernel_rfl) (fun _ _ _ h => h) ⟨Or.inl ⟨by rfl, ?_⟩, fun _ => rfl⟩ ?_
      rotate_left
      · intro _
        first | (go_simp; done) | (go_simp; with_reducible rfl)
      go_simp
      refine wpAnyIn_take (i := 9) (v := ?_) rfl rfl (by kernel_rfl) (by kernel_rfl) (by kernel_rfl) (fun _ _ _ h => h) ⟨Or.inl ⟨by rfl, ?_⟩, fun _ => rfl⟩ ?_
      rotate_left
      · intro _
        first | (go_simp; done) | (go_simp; with_reducible rfl)
      go_simp
      refine wpAnyIn_take (i := 11) (v := ?_) rfl rfl (by kernel_rfl) (by kernel_rfl) (by kernel_rfl) (fun _ _ _ h => h) ⟨Or.inl ⟨by rfl, ?_⟩, fun _ => rfl⟩ ?_
      rotate_left
      · intro _
        first | (go_simp; done) | (go_simp; with_reducible rfl)
      go_simp
      refine wpAnyIn_ready (rs := [0, 5, 10]) (by kernel_rfl) (by simp) ?_
      refine AllReadyIn.cons rfl (fun K hK => ?_) (AllReadyIn.cons rfl (fun K hK => ?_) (AllReadyIn.cons rfl (fun K hK => ?_) AllReadyIn.nil))
      · (go_simp; refine hK _ _ ?_; clear hK K)
        refine wpAnyIn_ready (rs := [5, 10]) (by kernel_rfl) (by simp) ?_
        refine AllReadyIn.cons rfl (fun K hK => ?_) (AllReadyIn.cons rfl (fun K hK => ?_) AllReadyIn.nil)
        · (go_simp; refine hK _ _ ?_; clear hK K)
          refine wpAnyIn_ready (rs := [6, 10]) (by kernel_rfl) (by simp) ?_
          refine AllReadyIn.cons rfl (fun K hK => ?_) (AllReadyIn.cons rfl (fun K hK => ?_) AllReadyIn.nil)
          · (go_simp; refine hK _ _ ?_; clear hK K)
            refine wpAnyIn_take (i := 7) (v := ?_) rfl rfl (by kernel_rfl) (by kernel_rfl) (by kernel_rfl) (fun _ _ _ h => h) ⟨Or.inl ⟨by rfl, ?_⟩, fun _ => rfl⟩ ?_
            rotate_left
            · intro _
              first | (go_simp; done) | (go_simp; with_reducible rfl)
            go_simp
            refine wpAnyIn_ready (rs := [8, 10]) (by kernel_rfl) (by simp) ?_
            refine AllReadyIn.cons rfl (fun K hK => ?_) (AllReadyIn.cons rfl (fun K hK => ?_) AllReadyIn.nil)
            · (go_simp; refine hK _ _ ?_; clear hK K)
              refine wpAnyIn_ready (rs := [10]) (by kernel_rfl) (by simp) ?_
              refine AllReadyIn.cons rfl (fun K hK => ?_) AllReadyIn.nil
              (go_simp; refine hK _ _ ?_; clear hK K)
              refine wpAnyIn_ready (rs := [12]) (by kernel_rfl) (by simp) ?_
              refine AllReadyIn.cons rfl (fun K hK => ?_) AllReadyIn.nil
              (go_simp; refine ⟨trivial, ?_⟩; gi_at_call 134; refine (callsIn_wide.2 (ANY.out)).mono ?_; rintro e w2 ⟨rfl, hw2⟩; have hw2' := hw2.symm; subst hw2'; clear hw2; rw [BV.out]; go_simp; refine hK _ _ ?_; clear hK K)
              refine wpAnyIn_take (i := 13) (v := ?_) rfl rfl (by kernel_rfl) (by kernel_rfl) (by kernel_rfl) (fun _ _ _ h => h) ⟨Or.inl ⟨by rfl, ?_⟩, fun _ => rfl⟩ ?_
              rotate_left
              · intro _
                first | (go_simp; done) | (go_simp; with_reducible rfl)
              go_simp
              refine wpAnyIn_ready (rs := [14]) (by kernel_rfl) (by simp) ?_
              refine AllReadyIn.cons rfl (fun K hK => ?_) AllReadyIn.nil
              (go_simp; refine hK _ _ ?_; clear hK K)
              refine wpAnyIn_ready (rs := [15]) (by kernel_rfl) (by simp) ?_
              refine AllReadyIn.cons rfl (fun K hK => ?_) AllReadyIn.nil
              (go_simp; refine hK _ _ ?_; clear hK K)
              refine wpAnyIn_done (by kernel_rfl) ?_ _
              exact FIN.out
            · (go_simp; refine hK _ _ ?_; clear hK K)
              refine wpAnyIn_ready (rs := [8]) (by kernel_rfl) (by simp) ?_
              refine AllReadyIn.cons rfl (fun K hK => ?_) AllReadyIn.nil
              (go_simp; refine hK _ _ ?_; clear hK K)
              refine wpAnyIn_ready (rs := [12]) (by kernel_rfl) (by simp) ?_
              refine AllReadyIn.cons rfl (fun K hK => ?_) AllReadyIn.nil
              (go_simp; refine ⟨trivial, ?_⟩; gi_at_call 134; refine (callsIn_wide.2 (ANY.out)).mono ?_; rintro e w2 ⟨rfl, hw2⟩; have hw2' := hw2.symm; subst hw2'; clear hw2; rw [BV.out]; go_simp; refine hK _ _ ?_; clear hK K)
              refine wpAnyIn_take (i := 13) (v := ?_) rfl rfl (by kernel_rfl) (by kernel_rfl) (by kernel_rfl) (fun _ _ _ h => h) ⟨Or.inl ⟨by rfl, ?_⟩, fun _ => rfl⟩ ?_
              rotate_left
              · intro _
                first | (go_simp; done) | (go_simp; with_reducible rfl)
              go_simp
              refine wpAnyIn_ready (rs := [14]) (by kernel_rfl) (by simp) ?_
              refine AllReadyIn.cons rfl (fun K hK => ?_) AllReadyIn.nil
              (go_simp; refine hK _ _ ?_; clear hK K)
              refine wpAnyIn_ready (rs := [15]) (by kernel_rfl) (by simp) ?_
              refine AllReadyIn.cons rfl (fun K hK => ?_) AllReadyIn.nil
              (go_simp; refine hK _ _ ?_; clear hK K)
              refine wpAnyIn_done (by kernel_rfl) ?_ _
              exact FIN.out
          · (go_simp; refine hK _ _ ?_; clear hK K)
            refine wpAnyIn_ready (rs := [6]) (by kernel_rfl) (by simp) ?_
            refine AllReadyIn.cons rfl (fun K hK => ?_) AllReadyIn.nil
            (go_simp; refine hK _ _ ?_; clear hK K)
            refine wpAnyIn_take (i := 7) (v := ?_) rfl rfl (by kernel_rfl) (by kernel_rfl) (by kernel_rfl) (fun _ _ _ h => h) ⟨Or.inl ⟨by rfl, ?_⟩, fun _ => rfl⟩ ?_
            rotate_left
            · intro _
              first | (go_simp; done) | (go_simp; with_reducible rfl)
            go_simp
            refine wpAnyIn_ready (rs := [8]) (by kernel_rfl) (by simp) ?_
            refine AllReadyIn.cons rfl (fun K hK => ?_) AllReadyIn.nil
            (go_simp; refine hK _ _ ?_; clear hK K)
            refine wpAnyIn_ready (rs := [12]) (by kernel_rfl) (by simp) ?_
            refine AllReadyIn.cons rfl (fun K hK => ?_) AllReadyIn.nil
            (go_simp; refine ⟨trivial, ?_⟩; gi_at_call 134; refine (callsIn_wide.2 (ANY.out)).mono ?_; rintro e w2 ⟨rfl, hw2⟩; have hw2' := hw2.symm; subst hw2'; clear hw2; rw [BV.out]; go_simp; refine hK _ _ ?_; clear hK K)
            refine wpAnyIn_take (i := 13) (v := ?_) rfl rfl (by kernel_rfl) (by kernel_rfl) (by kernel_rfl) (fun _ _ _ h => h) ⟨Or.inl ⟨by rfl, ?_⟩, fun _ => rfl⟩ ?_
            rotate_left
            · intro _
              first | (go_simp; done) | (go_simp; with_reducible rfl)
            go_simp
            refine wpAnyIn_ready (rs := [14]) (by kernel_rfl) (by simp) ?_
            refine AllReadyIn.cons rfl (fun K hK => ?_) AllReadyIn.nil
            (go_simp; refine hK _ _ ?_; clear hK K)
            refine wpAnyIn_ready (rs := [15]) (by kernel_rfl) (by simp) ?_
            refine AllReadyIn.cons rfl (fun K hK => ?_) AllReadyIn.nil
            (go_simp; refine hK _ _ ?_; clear hK K)
            refine wpAnyIn_done (by kernel_rfl) ?_ _
            exact FIN.out
        · (go_simp; refine hK _ _ ?_; clear hK K)
          refine wpAnyIn_ready (rs := [5]) (by kernel_rfl) (by simp) ?_
          refine AllReadyIn.cons rfl (fun K hK => ?_) AllReadyIn.nil
          (go_simp; refine hK _ _ ?_; clear hK K)
          refine wpAnyIn_ready (rs := [6]) (by kernel_rfl) (by simp) ?_
          refine AllReadyIn.cons rfl (fun K hK => ?_) AllReadyIn.nil
          (go_simp; refine hK _ _ ?_; clear hK K)
          refine wpAnyIn_take (i := 7) (v := ?_) rfl rfl (by kernel_rfl) (by kernel_rfl) (by kernel_rfl) (fun _ _ _ h => h) ⟨Or.inl ⟨by rfl, ?_⟩, fun _ => rfl⟩ ?_
          rotate_left
          · intro _
            first | (go_simp; done) | (go_simp; with_reducible rfl)
          go_simp
          refine wpAnyIn_ready (rs := [8]) (by kernel_rfl) (by simp) ?_
          refine AllReadyIn.cons rfl (fun K hK => ?_) AllReadyIn.nil
          (go_simp; refine hK _ _ ?_; clear hK K)
          refine wpAnyIn_ready (rs := [12]) (by kernel_rfl) (by simp) ?_
          refine AllReadyIn.cons rfl (fun K hK => ?_) AllReadyIn.nil
          (go_simp; refine ⟨trivial, ?_⟩; gi_at_call 134; refine (callsIn_wide.2 (ANY.out)).mono ?_; rintro e w2 ⟨rfl, hw2⟩; have hw2' := hw2.symm; subst hw2'; clear hw2; rw [BV.out]; go_simp; refine hK _ _ ?_; clear hK K)
          refine wpAnyIn_take (i := 13) (v := ?_) rfl rfl (by kernel_rfl) (by kernel_rfl) (by kernel_rfl) (fun _ _ _ h => h) ⟨Or.inl ⟨by rfl, ?_⟩, fun _ => rfl⟩ ?_
          rotate_left
          · intro _
            first | (go_simp; done) | (go_simp; with_reducible rfl)
          go_simp
          refine wpAnyIn_ready (rs := [14]) (by kernel_rfl) (by simp) ?_
          refine AllReadyIn.cons rfl (fun K hK => ?_) AllReadyIn.nil
          (go_simp; refine hK _ _ ?_; clear hK K)
          refine wpAnyIn_ready (rs := [15]) (by kernel_rfl) (by simp) ?_
          refine AllReadyIn.cons rfl (fun K hK => ?_) AllReadyIn.nil
          (go_simp; refine hK _ _ ?_; clear hK K)
          refine wpAnyIn_done (by kernel_rfl) ?_ _
          exact FIN.out
      · (go_simp; refine hK _ _ ?_; clear hK K)
        refine wpAnyIn_ready (rs := [0, 6, 10]) (by kernel_rfl) (by simp) ?_
        refine AllReadyIn.cons rfl (fun K hK => ?_) (AllReadyIn.cons rfl (fun K hK => ?_) (AllReadyIn.cons rfl (fun K hK => ?_) AllReadyIn.nil))
        · (go_simp; refine hK _ _ ?_; clear hK K)
          refine wpAnyIn_ready (rs := [6, 10]) (by kernel_rfl) (by simp) ?_
          refine AllReadyIn.cons rfl (fun K hK => ?_) (AllReadyIn.cons rfl (fun K hK => ?_) AllReadyIn.nil)
          · (go_simp; refine hK _ _ ?_; clear hK K)
            refine wpAnyIn_take (i := 7) (v := ?_) rfl rfl (by kernel_rfl) (by kernel_rfl) (by kernel_rfl) (fun _ _ _ h => h) ⟨Or.inl ⟨by rfl, ?_⟩, fun _ => rfl⟩ ?_
            rotate_left
            · intro _
              first | (go_simp; done) | (go_simp; with_reducible rfl)
            go_simp
            refine wpAnyIn_ready (rs := [8, 10]) (by kernel_rfl) (by simp) ?_
            refine AllReadyIn.cons rfl (fun K hK => ?_) (AllReadyIn.cons rfl (fun K hK => ?_) AllReadyIn.nil)
            · (go_simp; refine hK _ _ ?_; clear hK K)
              refine wpAnyIn_ready (rs := [10]) (by kernel_rfl) (by simp) ?_
              refine AllReadyIn.cons rfl (fun K hK => ?_) AllReadyIn.nil
              (go_simp; refine hK _ _ ?_; clear hK K)
              refine wpAnyIn_ready (rs := [12]) (by kernel_rfl) (by simp) ?_
              refine AllReadyIn.cons rfl (fun K hK => ?_) AllReadyIn.nil
              (go_simp; refine ⟨trivial, ?_⟩; gi_at_call 134; refine (callsIn_wide.2 (ANY.out)).mono ?_; rintro e w2 ⟨rfl, hw2⟩; have hw2' := hw2.symm; subst hw2'; clear hw2; rw [BV.out]; go_simp; refine hK _ _ ?_; clear hK K)
              refine wpAnyIn_take (i := 13) (v := ?_) rfl rfl (by kernel_rfl) (by kernel_rfl) (by kernel_rfl) (fun _ _ _ h => h) ⟨Or.inl ⟨by rfl, ?_⟩, fun _ => rfl⟩ ?_
              rotate_left
              · intro _
                first | (go_simp; done) | (go_simp; with_reducible rfl)
              go_simp
              refine wpAnyIn_ready (rs := [14]) (by kernel_rfl) (by simp) ?_
              refine AllReadyIn.cons rfl (fun K hK => ?_) AllReadyIn.nil
              (go_simp; refine hK _ _ ?_; clear hK K)
              refine wpAnyIn_ready (rs := [15]) (by kernel_rfl) (by simp) ?_
              refine AllReadyIn.cons rfl (fun K hK => ?_) AllReadyIn.nil
              (go_simp; refine hK _ _ ?_; clear hK K)
              refine wpAnyIn_done (by kernel_rfl) ?_ _
              exact FIN.out
            · (go_simp; refine hK _ _ ?_; clear hK K)
              refine wpAnyIn_ready (rs := [8]) (by kernel_rfl) (by simp) ?_
              refine AllReadyIn.cons rfl (fun K hK => ?_) AllReadyIn.nil
              (go_simp; refine hK _ _ ?_; clear hK K)
              refine wpAnyIn_ready (rs := [12]) (by kernel_rfl) (by simp) ?_
              refine AllReadyIn.cons rfl (fun K hK => ?_) AllReadyIn.nil
              (go_simp; refine ⟨trivial, ?_⟩; gi_at_call 134; refine (callsIn_wide.2 (ANY.out)).mono ?_; rintro e w2 ⟨rfl, hw2⟩; have hw2' := hw2.symm; subst hw2'; clear hw2; rw [BV.out]; go_simp; refine hK _ _ ?_; clear hK K)
              refine wpAnyIn_take (i := 13) (v := ?_) rfl rfl (by kernel_rfl) (by kernel_rfl) (by kernel_rfl) (fun _ _ _ h => h) ⟨Or.inl ⟨by rfl, ?_⟩, fun _ => rfl⟩ ?_
              rotate_left
              · intro _
                first | (go_simp; done) | (go_simp; with_reducible rfl)
              go_simp
              refine wpAnyIn_ready (rs := [14]) (by kernel_rfl) (by simp) ?_
              refine AllReadyIn.cons rfl (fun K hK => ?_) AllReadyIn.nil
              (go_simp; refine hK _ _ ?_; clear hK K)
              refine wpAnyIn_ready (rs := [15]) (by kernel_rfl) (by simp) ?_
              refine AllReadyIn.cons rfl (fun K hK => ?_) AllReadyIn.nil
              (go_simp; refine hK _ _ ?_; clear hK K)
              refine wpAnyIn_done (by kernel_rfl) ?_ _
              exact FIN.out
          · (go_simp; refine hK _ _ ?_; clear hK K)
            refine wpAnyIn_ready (rs := [6]) (by kernel_rfl) (by simp) ?_
            refine AllReadyIn.cons rfl (fun K hK => ?_) AllReadyIn.nil
            (go_simp; refine hK _ _ ?_; clear hK K)
            refine wpAnyIn_take (i := 7) (v := ?_) rfl rfl (by kernel_rfl) (by kernel_rfl) (by kernel_rfl) (fun _ _ _ h => h) ⟨Or.inl ⟨by rfl, ?_⟩, fun _ => rfl⟩ ?_
            rotate_left
            · intro _
              first | (go_simp; done) | (go_simp; with_reducible rfl)
            go_simp
            refine wpAnyIn_ready (rs := [8]) (by kernel_rfl) (by simp) ?_
            refine AllReadyIn.cons rfl (fun K hK => ?_) AllReadyIn.nil
            (go_simp; refine hK _ _ ?_; clear hK K)
            refine wpAnyIn_ready (rs := [12]) (by kernel_rfl) (by simp) ?_
            refine AllReadyIn.cons rfl (fun K hK => ?_) AllReadyIn.nil
            (go_simp; refine ⟨trivial, ?_⟩; gi_at_call 134; refine (callsIn_wide.2 (ANY.out)).mono ?_; rintro e w2 ⟨rfl, hw2⟩; have hw2' := hw2.symm; subst hw2'; clear hw2; rw [BV.out]; go_simp; refine hK _ _ ?_; clear hK K)
            refine wpAnyIn_take (i := 13) (v := ?_) rfl rfl (by kernel_rfl) (by kernel_rfl) (by kernel_rfl) (fun _ _ _ h => h) ⟨Or.inl ⟨by rfl, ?_⟩, fun _ => rfl⟩ ?_
            rotate_left
            · intro _
              first | (go_simp; done) | (go_simp; with_reducible rfl)
            go_simp
            refine wpAnyIn_ready (rs := [14]) (by kernel_rfl) (by simp) ?_
            refine AllReadyIn.cons rfl (fun K hK => ?_) AllReadyIn.nil
            (go_simp; refine hK _ _ ?_; clear hK K)
            refine wpAnyIn_ready (rs := [15]) (by kernel_rfl) (by simp) ?_
            refine AllReadyIn.cons rfl (fun K hK => ?_) AllReadyIn.nil
            (go_simp; refine hK _ _ ?_; clear hK K)
            refine wpAnyIn_done (by kernel_rfl) ?_ _
            exact FIN.out
        · (go_simp; refine hK _ _ ?_; clear hK K)
          refine wpAnyIn_take (i := 7) (v := ?_) rfl rfl (by kernel_rfl) (by kernel_rfl) (by kernel_rfl) (fun _ _ _ h => h) ⟨Or.inl ⟨by rfl, ?_⟩, fun _ => rfl⟩ ?_
          rotate_left
          · intro _
            first | (go_simp; done) | (go_simp; with_reducible rfl)
          go_simp
          refine wpAnyIn_ready (rs := [0, 8, 10]) (by kernel_rfl) (by simp) ?_
          refine AllReadyIn.cons rfl (fun K hK => ?_) (AllReadyIn.cons rfl (fun K hK => ?_) (AllReadyIn.cons rfl (fun K hK => ?_) AllReadyIn.nil))
          · (go_simp; refine hK _ _ ?_; clear hK K)
            refine wpAnyIn_ready (rs := [8, 10]) (by kernel_rfl) (by simp) ?_
            refine AllReadyIn.cons rfl (fun K hK => ?_) (AllReadyIn.cons rfl (fun K hK => ?_) AllReadyIn.nil)
            · (go_simp; refine hK _ _ ?_; clear hK K)
              refine wpAnyIn_ready (rs := [10]) (by kernel_rfl) (by simp) ?_
              refine AllReadyIn.cons rfl (fun K hK => ?_) AllReadyIn.nil
              (go_simp; refine hK _ _ ?_; clear hK K)
              refine wpAnyIn_ready (rs := [12]) (by kernel_rfl) (by simp) ?_
              refine AllReadyIn.cons rfl (fun K hK => ?_) AllReadyIn.nil
              (go_simp; refine ⟨trivial, ?_⟩; gi_at_call 134; refine (callsIn_wide.2 (ANY.out)).mono ?_; rintro e w2 ⟨rfl, hw2⟩; have hw2' := hw2.symm; subst hw2'; clear hw2; rw [BV.out]; go_simp; refine hK _ _ ?_; clear hK K)
              refine wpAnyIn_take (i := 13) (v := ?_) rfl rfl (by kernel_rfl) (by kernel_rfl) (by kernel_rfl) (fun _ _ _ h => h) ⟨Or.inl ⟨by rfl, ?_⟩, fun _ => rfl⟩ ?_
              rotate_left
              · intro _
                first | (go_simp; done) | (go_simp; with_reducible rfl)
              go_simp
              refine wpAnyIn_ready (rs := [14]) (by kernel_rfl) (by simp) ?_
              refine AllReadyIn.cons rfl (fun K hK => ?_) AllReadyIn.nil
              (go_simp; refine hK _ _ ?_; clear hK K)
              refine wpAnyIn_ready (rs := [15]) (by kernel_rfl) (by simp) ?_
              refine AllReadyIn.cons rfl (fun K hK => ?_) AllReadyIn.nil
              (go_simp; refine hK _ _ ?_; clear hK K)
              refine wpAnyIn_done (by kernel_rfl) ?_ _
              exact FIN.out
            · (go_simp; refine hK _ _ ?_; clear hK K)
              refine wpAnyIn_ready (rs := [8]) (by kernel_rfl) (by simp) ?_
              refine AllReadyIn.cons rfl (fun K hK => ?_) AllReadyIn.nil
              (go_simp; refine hK _ _ ?_; clear hK K)
              refine wpAnyIn_ready (rs := [12]) (by kernel_rfl) (by simp) ?_
              refine AllReadyIn.cons rfl (fun K hK => ?_) AllReadyIn.nil
              (go_simp; refine ⟨trivial, ?_⟩; gi_at_call 134; refine (callsIn_wide.2 (ANY.out)).mono ?_; rintro e w2 ⟨rfl, hw2⟩; have hw2' := hw2.symm; subst hw2'; clear hw2; rw [BV.out]; go_simp; refine hK _ _ ?_; clear hK K)
              refine wpAnyIn_take (i := 13) (v := ?_) rfl rfl (by kernel_rfl) (by kernel_rfl) (by kernel_rfl) (fun _ _ _ h => h) ⟨Or.inl ⟨by rfl, ?_⟩, fun _ => rfl⟩ ?_
              rotate_left
              · intro _
                first | (go_simp; done) | (go_simp; with_reducible rfl)
              go_simp
              refine wpAnyIn_ready (rs := [14]) (by kernel_rfl) (by simp) ?_
              refine AllReadyIn.cons rfl (fun K hK => ?_) AllReadyIn.nil
              (go_simp; refine hK _ _ ?_; clear hK K)
              refine wpAnyIn_ready (rs := [15]) (by kernel_rfl) (by simp) ?_
              refine AllReadyIn.cons rfl (fun K hK => ?_) AllReadyIn.nil
              (go_simp; refine hK _ _ ?_; clear hK K)
              refine wpAnyIn_done (by kernel_rfl) ?_ _
              exact FIN.out
          · (go_simp; refine hK _ _ ?_; clear hK K)
            refine wpAnyIn_ready (rs := [0, 10]) (by kernel_rfl) (by simp) ?_
            refine AllReadyIn.cons rfl (fun K hK => ?_) (AllReadyIn.cons rfl (fun K hK => ?_) AllReadyIn.nil)
            · (go_simp; refine hK _ _ ?_; clear hK K)
              refine wpAnyIn_ready (rs := [10]) (by kernel_rfl) (by simp) ?_
              refine AllReadyIn.cons rfl (fun K hK => ?_) AllReadyIn.nil
              (go_simp; refine hK _ _ ?_; clear hK K)
              refine wpAnyIn_ready (rs := [12]) (by kernel_rfl) (by simp) ?_
              refine AllReadyIn.cons rfl (fun K hK => ?_) AllReadyIn.nil
              (go_simp; refine ⟨trivial, ?_⟩; gi_at_call 134; refine (callsIn_wide.2 (ANY.out)).mono ?_; rintro e w2 ⟨rfl, hw2⟩; have hw2' := hw2.symm; subst hw2'; clear hw2; rw [BV.out]; go_simp; refine hK _ _ ?_; clear hK K)
              refine wpAnyIn_take (i := 13) (v := ?_) rfl rfl (by kernel_rfl) (by kernel_rfl) (by kernel_rfl) (fun _ _ _ h => h) ⟨Or.inl ⟨by rfl, ?_⟩, fun _ => rfl⟩ ?_
              rotate_left
              · intro _
                first | (go_simp; done) | (go_simp; with_reducible rfl)
              go_simp
              refine wpAnyIn_ready (rs := [14]) (by kernel_rfl) (by simp) ?_
              refine AllReadyIn.cons rfl (fun K hK => ?_) AllReadyIn.nil
              (go_simp; refine hK _ _ ?_; clear hK K)
              refine wpAnyIn_ready (rs := [15]) (by kernel_rfl) (by simp) ?_
              refine AllReadyIn.cons rfl (fun K hK => ?_) AllReadyIn.nil
              (go_simp; refine hK _ _ ?_; clear hK K)
              refine wpAnyIn_done (by kernel_rfl) ?_ _
              exact FIN.out
            · (go_simp; refine hK _ _ ?_; clear hK K)
              refine wpAnyIn_ready (rs := [0, 12]) (by kernel_rfl) (by simp) ?_
              refine AllReadyIn.cons rfl (fun K hK => ?_) (AllReadyIn.cons rfl (fun K hK => ?_) AllReadyIn.nil)
              · (go_simp; refine hK _ _ ?_; clear hK K)
                refine wpAnyIn_ready (rs := [12]) (by kernel_rfl) (by simp) ?_
                refine AllReadyIn.cons rfl (fun K hK => ?_) AllReadyIn.nil
                (go_simp; refine ⟨trivial, ?_⟩; gi_at_call 134; refine (callsIn_wide.2 (ANY.out)).mono ?_; rintro e w2 ⟨rfl, hw2⟩; have hw2' := hw2.symm; subst hw2'; clear hw2; rw [BV.out]; go_simp; refine hK _ _ ?_; clear hK K)
                refine wpAnyIn_take (i := 13) (v := ?_) rfl rfl (by kernel_rfl) (by kernel_rfl) (by kernel_rfl) (fun _ _ _ h => h) ⟨Or.inl ⟨by rfl, ?_⟩, fun _ => rfl⟩ ?_
                rotate_left
                · intro _
                  first | (go_simp; done) | (go_simp; with_reducible rfl)
                go_simp
                refine wpAnyIn_ready (rs := [14]) (by kernel_rfl) (by simp) ?_
                refine AllReadyIn.cons rfl (fun K hK => ?_) AllReadyIn.nil
                (go_simp; refine hK _ _ ?_; clear hK K)
                refine wpAnyIn_ready (rs := [15]) (by kernel_rfl) (by simp) ?_
                refine AllReadyIn.cons rfl (fun K hK => ?_) AllReadyIn.nil
                (go_simp; refine hK _ _ ?_; clear hK K)
                refine wpAnyIn_done (by kernel_rfl) ?_ _
                exact FIN.out
              · (go_simp; refine ⟨trivial, ?_⟩; gi_at_call 134; refine (callsIn_wide.2 (ANY.out)).mono ?_; rintro e w2 ⟨rfl, hw2⟩; have hw2' := hw2.symm; subst hw2'; clear hw2; rw [BV.out]; go_simp; refine hK _ _ ?_; clear hK K)
                refine wpAnyIn_take (i := 13) (v := ?_) rfl rfl (by kernel_rfl) (by kernel_rfl) (by kernel_rfl) (fun _ _ _ h => h) ⟨Or.inl ⟨by rfl, ?_⟩, fun _ => rfl⟩ ?_
                rotate_left
                · intro _
                  first | (go_simp; done) | (go_simp; with_reducible rfl)
                go_simp
                refine wpAnyIn_ready (rs := [0]) (by kernel_rfl) (by simp) ?_
                refine AllReadyIn.cons rfl (fun K hK => ?_) AllReadyIn.nil
                (go_simp; refine hK _ _ ?_; clear hK K)
                refine wpAnyIn_ready (rs := [14]) (by kernel_rfl) (by simp) ?_
                refine AllReadyIn.cons rfl (fun K hK => ?_) AllReadyIn.nil
                (go_simp; refine hK _ _ ?_; clear hK K)
                refine wpAnyIn_ready (rs := [15]) (by kernel_rfl) (by simp) ?_
                refine AllReadyIn.cons rfl (fun K hK => ?_) AllReadyIn.nil
                (go_simp; refine hK _ _ ?_; clear hK K)
                refine wpAnyIn_done (by kernel_rfl) ?_ _
                exact FIN.out
          · (go_simp; refine hK _ _ ?_; clear hK K)
            refine wpAnyIn_ready (rs := [0, 8]) (by kernel_rfl) (by simp) ?_
            refine AllReadyIn.cons rfl (fun K hK => ?_) (AllReadyIn.cons rfl (fun K hK => ?_) AllReadyIn.nil)
            · (go_simp; refine hK _ _ ?_; clear hK K)
              refine wpAnyIn_ready (rs := [8]) (by kernel_rfl) (by simp) ?_
              refine AllReadyIn.cons rfl (fun K hK => ?_) AllReadyIn.nil
              (go_simp; refine hK _ _ ?_; clear hK K)
              refine wpAnyIn_ready (rs := [12]) (by kernel_rfl) (by simp) ?_
              refine AllReadyIn.cons rfl (fun K hK => ?_) AllReadyIn.nil
              (go_simp; refine ⟨trivial, ?_⟩; gi_at_call 134; refine (callsIn_wide.2 (ANY.out)).mono ?_; rintro e w2 ⟨rfl, hw2⟩; have hw2' := hw2.symm; subst hw2'; clear hw2; rw [BV.out]; go_simp; refine hK _ _ ?_; clear hK K)
              refine wpAnyIn_take (i := 13) (v := ?_) rfl rfl (by kernel_rfl) (by kernel_rfl) (by kernel_rfl) (fun _ _ _ h => h) ⟨Or.inl ⟨by rfl, ?_⟩, fun _ => rfl⟩ ?_
              rotate_left
              · intro _
                first | (go_simp; done) | (go_simp; with_reducible rfl)
              go_simp
              refine wpAnyIn_ready (rs := [14]) (by kernel_rfl) (by simp) ?_
              refine AllReadyIn.cons rfl (fun K hK => ?_) AllReadyIn.nil
              (go_simp; refine hK _ _ ?_; clear hK K)
              refine wpAnyIn_ready (rs := [15]) (by kernel_rfl) (by simp) ?_
              refine AllReadyIn.cons rfl (fun K hK => ?_) AllReadyIn.nil
              (go_simp; refine hK _ _ ?_; clear hK K)
              refine wpAnyIn_done (by kernel_rfl) ?_ _
              exact FIN.out
            · (go_simp; refine hK _ _ ?_; clear hK K)
              refine wpAnyIn_ready (rs := [0, 12]) (by kernel_rfl) (by simp) ?_
              refine AllReadyIn.cons rfl (fun K hK => ?_) (AllReadyIn.cons rfl (fun K hK => ?_) AllReadyIn.nil)
              · (go_simp; refine hK _ _ ?_; clear hK K)
                refine wpAnyIn_ready (rs := [12]) (by kernel_rfl) (by simp) ?_
                refine AllReadyIn.cons rfl (fun K hK => ?_) AllReadyIn.nil
                (go_simp; refine ⟨trivial, ?_⟩; gi_at_call 134; refine (callsIn_wide.2 (ANY.out)).mono ?_; rintro e w2 ⟨rfl, hw2⟩; have hw2' := hw2.symm; subst hw2'; clear hw2; rw [BV.out]; go_simp; refine hK _ _ ?_; clear hK K)
                refine wpAnyIn_take (i := 13) (v := ?_) rfl rfl (by kernel_rfl) (by kernel_rfl) (by kernel_rfl) (fun _ _ _ h => h) ⟨Or.inl ⟨by rfl, ?_⟩, fun _ => rfl⟩ ?_
                rotate_left
                · intro _
                  first | (go_simp; done) | (go_simp; with_reducible rfl)
                go_simp
                refine wpAnyIn_ready (rs := [14]) (by kernel_rfl) (by simp) ?_
                refine AllReadyIn.cons rfl (fun K hK => ?_) AllReadyIn.nil
                (go_simp; refine hK _ _ ?_; clear hK K)
                refine wpAnyIn_ready (rs := [15]) (by kernel_rfl) (by simp) ?_
                refine AllReadyIn.cons rfl (fun K hK => ?_) AllReadyIn.nil
                (go_simp; refine hK _ _ ?_; clear hK K)
                refine wpAnyIn_done (by kernel_rfl) ?_ _
                exact FIN.out
              · (go_simp; refine ⟨trivial, ?_⟩; gi_at_call 134; refine (callsIn_wide.2 (ANY.out)).mono ?_; rintro e w2 ⟨rfl, hw2⟩; have hw2' := hw2.symm; subst hw2'; clear hw2; rw [BV.out]; go_simp; refine hK _ _ ?_; clear hK K)
                refine wpAnyIn_take (i := 13) (v := ?_) rfl rfl (by kernel_rfl) (by kernel_rfl) (by kernel_rfl) (fun _ _ _ h => h) ⟨Or.inl ⟨by rfl, ?_⟩, fun _ => rfl⟩ ?_
                rotate_left
                · intro _
                  first | (go_simp; done) | (go_simp; with_reducible rfl)
                go_simp
                refine wpAnyIn_ready (rs := [0]) (by kernel_rfl) (by simp) ?_
                refine AllReadyIn.cons rfl (fun K hK => ?_) AllReadyIn.nil
                (go_simp; refine hK _ _ ?_; clear hK K)
                refine wpAnyIn_ready (rs := [14]) (by kernel_rfl) (by simp) ?_
                refine AllReadyIn.cons rfl (fun K hK => ?_) AllReadyIn.nil
                (go_simp; refine hK _ _ ?_; clear hK K)
                refine wpAnyIn_ready (rs := [15]) (by kernel_rfl) (by simp) ?_
                refine AllReadyIn.cons rfl (fun K hK => ?_) AllReadyIn.nil
                (go_simp; refine hK _ _ ?_; clear hK K)
                refine wpAnyIn_done (by kernel_rfl) ?_ _
                exact FIN.out
        · (go_simp; refine hK _ _ ?_; clear hK K)
          refine wpAnyIn_ready (rs := [0, 6]) (by kernel_rfl) (by simp) ?_
          refine AllReadyIn.cons rfl (fun K hK => ?_) (AllReadyIn.cons rfl (fun K hK => ?_) AllReadyIn.nil)
          · (go_simp; refine hK _ _ ?_; clear hK K)
            refine wpAnyIn_ready (rs := [6]) (by kernel_rfl) (by simp) ?_
            refine AllReadyIn.cons rfl (fun K hK => ?_) AllReadyIn.nil
            (go_simp; refine hK _ _ ?_; clear hK K)
            refine wpAnyIn_take (i := 7) (v := ?_) rfl rfl (by kernel_rfl) (by kernel_rfl) (by kernel_rfl) (fun _ _ _ h => h) ⟨Or.inl ⟨by rfl, ?_⟩, fun _ => rfl⟩ ?_
            rotate_left
            · intro _
              first | (go_simp; done) | (go_simp; with_reducible rfl)
            go_simp
            refine wpAnyIn_ready (rs := [8]) (by kernel_rfl) (by simp) ?_
            refine AllReadyIn.cons rfl (fun K hK => ?_) AllReadyIn.nil
            (go_simp; refine hK _ _ ?_; clear hK K)
            refine wpAnyIn_ready (rs := [12]) (by kernel_rfl) (by simp) ?_
            refine AllReadyIn.cons rfl (fun K hK => ?_) AllReadyIn.nil
            (go_simp; refine ⟨trivial, ?_⟩; gi_at_call 134; refine (callsIn_wide.2 (ANY.out)).mono ?_; rintro e w2 ⟨rfl, hw2⟩; have hw2' := hw2.symm; subst hw2'; clear hw2; rw [BV.out]; go_simp; refine hK _ _ ?_; clear hK K)
            refine wpAnyIn_take (i := 13) (v := ?_) rfl rfl (by kernel_rfl) (by kernel_rfl) (by kernel_rfl) (fun _ _ _ h => h) ⟨Or.inl ⟨by rfl, ?_⟩, fun _ => rfl⟩ ?_
            rotate_left
            · intro _
              first | (go_simp; done) | (go_simp; with_reducible rfl)
            go_simp
            refine wpAnyIn_ready (rs := [14]) (by kernel_rfl) (by simp) ?_
            refine AllReadyIn.cons rfl (fun K hK => ?_) AllReadyIn.nil
            (go_simp; refine hK _ _ ?_; clear hK K)
            refine wpAnyIn_ready (rs := [15]) (by kernel_rfl) (by simp) ?_
            refine AllReadyIn.cons rfl (fun K hK => ?_) AllReadyIn.nil
            (go_simp; refine hK _ _ ?_; clear hK K)
            refine wpAnyIn_done (by kernel_rfl) ?_ _
            exact FIN.out
          · (go_simp; refine hK _ _ ?_; clear hK K)
            refine wpAnyIn_take (i := 7) (v := ?_) rfl rfl (by kernel_rfl) (by kernel_rfl) (by kernel_rfl) (fun _ _ _ h => h) ⟨Or.inl ⟨by rfl, ?_⟩, fun _ => rfl⟩ ?_
            rotate_left
            · intro _
              first | (go_simp; done) | (go_simp; with_reducible rfl)
            go_simp
            refine wpAnyIn_ready (rs := [0, 8]) (by kernel_rfl) (by simp) ?_
            refine AllReadyIn.cons rfl (fun K hK => ?_) (AllReadyIn.cons rfl (fun K hK => ?_) AllReadyIn.nil)
            · (go_simp; refine hK _ _ ?_; clear hK K)
              refine wpAnyIn_ready (rs := [8]) (by kernel_rfl) (by simp) ?_
              refine AllReadyIn.cons rfl (fun K hK => ?_) AllReadyIn.nil
              (go_simp; refine hK _ _ ?_; clear hK K)
              refine wpAnyIn_ready (rs := [12]) (by kernel_rfl) (by simp) ?_
              refine AllReadyIn.cons rfl (fun K hK => ?_) AllReadyIn.nil
              (go_simp; refine ⟨trivial, ?_⟩; gi_at_call 134; refine (callsIn_wide.2 (ANY.out)).mono ?_; rintro e w2 ⟨rfl, hw2⟩; have hw2' := hw2.symm; subst hw2'; clear hw2; rw [BV.out]; go_simp; refine hK _ _ ?_; clear hK K)
              refine wpAnyIn_take (i := 13) (v := ?_) rfl rfl (by kernel_rfl) (by kernel_rfl) (by kernel_rfl) (fun _ _ _ h => h) ⟨Or.inl ⟨by rfl, ?_⟩, fun _ => rfl⟩ ?_
              rotate_left
              · intro _
                first | (go_simp; done) | (go_simp; with_reducible rfl)
              go_simp
              refine wpAnyIn_ready (rs := [14]) (by kernel_rfl) (by simp) ?_
              refine AllReadyIn.cons rfl (fun K hK => ?_) AllReadyIn.nil
              (go_simp; refine hK _ _ ?_; clear hK K)
              refine wpAnyIn_ready (rs := [15]) (by kernel_rfl) (by simp) ?_
              refine AllReadyIn.cons rfl (fun K hK => ?_) AllReadyIn.nil
              (go_simp; refine hK _ _ ?_; clear hK K)
              refine wpAnyIn_done (by kernel_rfl) ?_ _
              exact FIN.out
            · (go_simp; refine hK _ _ ?_; clear hK K)
              refine wpAnyIn_ready (rs := [0, 12]) (by kernel_rfl) (by simp) ?_
              refine AllReadyIn.cons rfl (fun K hK => ?_) (AllReadyIn.cons rfl (fun K hK => ?_) AllReadyIn.nil)
              · (go_simp; refine hK _ _ ?_; clear hK K)
                refine wpAnyIn_ready (rs := [12]) (by kernel_rfl) (by simp) ?_
                refine AllReadyIn.cons rfl (fun K hK => ?_) AllReadyIn.nil
                (go_simp; refine ⟨trivial, ?_⟩; gi_at_call 134; refine (callsIn_wide.2 (ANY.out)).mono ?_; rintro e w2 ⟨rfl, hw2⟩; have hw2' := hw2.symm; subst hw2'; clear hw2; rw [BV.out]; go_simp; refine hK _ _ ?_; clear hK K)
                refine wpAnyIn_take (i := 13) (v := ?_) rfl rfl (by kernel_rfl) (by kernel_rfl) (by kernel_rfl) (fun _ _ _ h => h) ⟨Or.inl ⟨by rfl, ?_⟩, fun _ => rfl⟩ ?_
                rotate_left
                · intro _
                  first | (go_simp; done) | (go_simp; with_reducible rfl)
                go_simp
                refine wpAnyIn_ready (rs := [14]) (by kernel_rfl) (by simp) ?_
                refine AllReadyIn.cons rfl (fun K hK => ?_) AllReadyIn.nil
                (go_simp; refine hK _ _ ?_; clear hK K)
                refine wpAnyIn_ready (rs := [15]) (by kernel_rfl) (by simp) ?_
                refine AllReadyIn.cons rfl (fun K hK => ?_) AllReadyIn.nil
                (go_simp; refine hK _ _ ?_; clear hK K)
                refine wpAnyIn_done (by kernel_rfl) ?_ _
                exact FIN.out
              · (go_simp; refine ⟨trivial, ?_⟩; gi_at_call 134; refine (callsIn_wide.2 (ANY.out)).mono ?_; rintro e w2 ⟨rfl, hw2⟩; have hw2' := hw2.symm; subst hw2'; clear hw2; rw [BV.out]; go_simp; refine hK _ _ ?_; clear hK K)
                refine wpAnyIn_take (i := 13) (v := ?_) rfl rfl (by kernel_rfl) (by kernel_rfl) (by kernel_rfl) (fun _ _ _ h => h) ⟨Or.inl ⟨by rfl, ?_⟩, fun _ => rfl⟩ ?_
                rotate_left
                · intro _
                  first | (go_simp; done) | (go_simp; with_reducible rfl)
                go_simp
                refine wpAnyIn_ready (rs := [0]) (by kernel_rfl) (by simp) ?_
                refine AllReadyIn.cons rfl (fun K hK => ?_) AllReadyIn.nil
                (go_simp; refine hK _ _ ?_; clear hK K)
                refine wpAnyIn_ready (rs := [14]) (by kernel_rfl) (by simp) ?_
                refine AllReadyIn.cons rfl (fun K hK => ?_) AllReadyIn.nil
                (go_simp; refine hK _ _ ?_; clear hK K)
                refine wpAnyIn_ready (rs := [15]) (by kernel_rfl) (by simp) ?_
                refine AllReadyIn.cons rfl (fun K hK => ?_) AllReadyIn.nil
                (go_simp; refine hK _ _ ?_; clear hK K)
                refine wpAnyIn_done (by kernel_rfl) ?_ _
                exact FIN.out
      · (go_simp; refine hK _ _ ?_; clear hK K)
        refine wpAnyIn_ready (rs := [0, 5]) (by kernel_rfl) (by simp) ?_
        refine AllReadyIn.cons rfl (fun K hK => ?_) (AllReadyIn.cons rfl (fun K hK => ?_) AllReadyIn.nil)
        · (go_simp; refine hK _ _ ?_; clear hK K)
          refine wpAnyIn_ready (rs := [5]) (by kernel_rfl) (by simp) ?_
          refine AllReadyIn.cons rfl (fun K hK => ?_) AllReadyIn.nil
          (go_simp; refine hK _ _ ?_; clear hK K)
          refine wpAnyIn_ready (rs := [6]) (by kernel_rfl) (by simp) ?_
          refine AllReadyIn.cons rfl (fun K hK => ?_) AllReadyIn.nil
          (go_simp; refine hK _ _ ?_; clear hK K)
          refine wpAnyIn_take (i := 7) (v := ?_) rfl rfl (by kernel_rfl) (by kernel_rfl) (by kernel_rfl) (fun _ _ _ h => h) ⟨Or.inl ⟨by rfl, ?_⟩, fun _ => rfl⟩ ?_
          rotate_left
          · intro _
            first | (go_simp; done) | (go_simp; with_reducible rfl)
          go_simp
          refine wpAnyIn_ready (rs := [8]) (by kernel_rfl) (by simp) ?_
          refine AllReadyIn.cons rfl (fun K hK => ?_) AllReadyIn.nil
          (go_simp; refine hK _ _ ?_; clear hK K)
          refine wpAnyIn_ready (rs := [12]) (by kernel_rfl) (by simp) ?_
          refine AllReadyIn.cons rfl (fun K hK => ?_) AllReadyIn.nil
          (go_simp; refine ⟨trivial, ?_⟩; gi_at_call 134; refine (callsIn_wide.2 (ANY.out)).mono ?_; rintro e w2 ⟨rfl, hw2⟩; have hw2' := hw2.symm; subst hw2'; clear hw2; rw [BV.out]; go_simp; refine hK _ _ ?_; clear hK K)
          refine wpAnyIn_take (i := 13) (v := ?_) rfl rfl (by kernel_rfl) (by kernel_rfl) (by kernel_rfl) (fun _ _ _ h => h) ⟨Or.inl ⟨by rfl, ?_⟩, fun _ => rfl⟩ ?_
          rotate_left
          · intro _
            first | (go_simp; done) | (go_simp; with_reducible rfl)
          go_simp
          refine wpAnyIn_ready (rs := [14]) (by kernel_rfl) (by simp) ?_
          refine AllReadyIn.cons rfl (fun K hK => ?_) AllReadyIn.nil
          (go_simp; refine hK _ _ ?_; clear hK K)
          refine wpAnyIn_ready (rs := [15]) (by kernel_rfl) (by simp) ?_
          refine AllReadyIn.cons rfl (fun K hK => ?_) AllReadyIn.nil
          (go_simp; refine hK _ _ ?_; clear hK K)
          refine wpAnyIn_done (by kernel_rfl) ?_ _
          exact FIN.out
        · (go_simp; refine hK _ _ ?_; clear hK K)
          refine wpAnyIn_ready (rs := [0, 6]) (by kernel_rfl) (by simp) ?_
          refine AllReadyIn.cons rfl (fun K hK => ?_) (AllReadyIn.cons rfl (fun K hK => ?_) AllReadyIn.nil)
          · (go_simp; refine hK _ _ ?_; clear hK K)
            refine wpAnyIn_ready (rs := [6]) (by kernel_rfl) (by simp) ?_
            refine AllReadyIn.cons rfl (fun K hK => ?_) AllReadyIn.nil
            (go_simp; refine hK _ _ ?_; clear hK K)
            refine wpAnyIn_take (i := 7) (v := ?_) rfl rfl (by kernel_rfl) (by kernel_rfl) (by kernel_rfl) (fun _ _ _ h => h) ⟨Or.inl ⟨by rfl, ?_⟩, fun _ => rfl⟩ ?_
            rotate_left
            · intro _
              first | (go_simp; done) | (go_simp; with_reducible rfl)
            go_simp
            refine wpAnyIn_ready (rs := [8]) (by kernel_rfl) (by simp) ?_
            refine AllReadyIn.cons rfl (fun K hK => ?_) AllReadyIn.nil
            (go_simp; refine hK _ _ ?_; clear hK K)
            refine wpAnyIn_ready (rs := [12]) (by kernel_rfl) (by simp) ?_
            refine AllReadyIn.cons rfl (fun K hK => ?_) AllReadyIn.nil
            (go_simp; refine ⟨trivial, ?_⟩; gi_at_call 134; refine (callsIn_wide.2 (ANY.out)).mono ?_; rintro e w2 ⟨rfl, hw2⟩; have hw2' := hw2.symm; subst hw2'; clear hw2; rw [BV.out]; go_simp; refine hK _ _ ?_; clear hK K)
            refine wpAnyIn_take (i := 13) (v := ?_) rfl rfl (by kernel_rfl) (by kernel_rfl) (by kernel_rfl) (fun _ _ _ h => h) ⟨Or.inl ⟨by rfl, ?_⟩, fun _ => rfl⟩ ?_
            rotate_left
            · intro _
              first | (go_simp; done) | (go_simp; with_reducible rfl)
            go_simp
            refine wpAnyIn_ready (rs := [14]) (by kernel_rfl) (by simp) ?_
            refine AllReadyIn.cons rfl (fun K hK => ?_) AllReadyIn.nil
            (go_simp; refine hK _ _ ?_; clear hK K)
            refine wpAnyIn_ready (rs := [15]) (by kernel_rfl) (by simp) ?_
            refine AllReadyIn.cons rfl (fun K hK => ?_) AllReadyIn.nil
            (go_simp; refine hK _ _ ?_; clear hK K)
            refine wpAnyIn_done (by kernel_rfl) ?_ _
            exact FIN.out
          · (go_simp; refine hK _ _ ?_; clear hK K)
            refine wpAnyIn_take (i := 7) (v := ?_) rfl rfl (by kernel_rfl) (by kernel_rfl) (by kernel_rfl) (fun _ _ _ h => h) ⟨Or.inl ⟨by rfl, ?_⟩, fun _ => rfl⟩ ?_
            rotate_left
            · intro _
              first | (go_simp; done) | (go_simp; with_reducible rfl)
            go_simp
            refine wpAnyIn_ready (rs := [0, 8]) (by kernel_rfl) (by simp) ?_
            refine AllReadyIn.cons rfl (fun K hK => ?_) (AllReadyIn.cons rfl (fun K hK => ?_) AllReadyIn.nil)
            · (go_simp; refine hK _ _ ?_; clear hK K)
              refine wpAnyIn_ready (rs := [8]) (by kernel_rfl) (by simp) ?_
              refine AllReadyIn.cons rfl (fun K hK => ?_) AllReadyIn.nil
              (go_simp; refine hK _ _ ?_; clear hK K)
              refine wpAnyIn_ready (rs := [12]) (by kernel_rfl) (by simp) ?_
              refine AllReadyIn.cons rfl (fun K hK => ?_) AllReadyIn.nil
              (go_simp; refine ⟨trivial, ?_⟩; gi_at_call 134; refine (callsIn_wide.2 (ANY.out)).mono ?_; rintro e w2 ⟨rfl, hw2⟩; have hw2' := hw2.symm; subst hw2'; clear hw2; rw [BV.out]; go_simp; refine hK _ _ ?_; clear hK K)
              refine wpAnyIn_take (i := 13) (v := ?_) rfl rfl (by kernel_rfl) (by kernel_rfl) (by kernel_rfl) (fun _ _ _ h => h) ⟨Or.inl ⟨by rfl, ?_⟩, fun _ => rfl⟩ ?_
              rotate_left
              · intro _
                first | (go_simp; done) | (go_simp; with_reducible rfl)
              go_simp
              refine wpAnyIn_ready (rs := [14]) (by kernel_rfl) (by simp) ?_
              refine AllReadyIn.cons rfl (fun K hK => ?_) AllReadyIn.nil
              (go_simp; refine hK _ _ ?_; clear hK K)
              refine wpAnyIn_ready (rs := [15]) (by kernel_rfl) (by simp) ?_
              refine AllReadyIn.cons rfl (fun K hK => ?_) AllReadyIn.nil
              (go_simp; refine hK _ _ ?_; clear hK K)
              refine wpAnyIn_done (by kernel_rfl) ?_ _
              exact FIN.out
            · (go_simp; refine hK _ _ ?_; clear hK K)
              refine wpAnyIn_ready (rs := [0, 12]) (by kernel_rfl) (by simp) ?_
              refine AllReadyIn.cons rfl (fun K hK => ?_) (AllReadyIn.cons rfl (fun K hK => ?_) AllReadyIn.nil)
              · (go_simp; refine hK _ _ ?_; clear hK K)
                refine wpAnyIn_ready (rs := [12]) (by kernel_rfl) (by simp) ?_
                refine AllReadyIn.cons rfl (fun K hK => ?_) AllReadyIn.nil
                (go_simp; refine ⟨trivial, ?_⟩; gi_at_call 134; refine (callsIn_wide.2 (ANY.out)).mono ?_; rintro e w2 ⟨rfl, hw2⟩; have hw2' := hw2.symm; subst hw2'; clear hw2; rw [BV.out]; go_simp; refine hK _ _ ?_; clear hK K)
                refine wpAnyIn_take (i := 13) (v := ?_) rfl rfl (by kernel_rfl) (by kernel_rfl) (by kernel_rfl) (fun _ _ _ h => h) ⟨Or.inl ⟨by rfl, ?_⟩, fun _ => rfl⟩ ?_
                rotate_left
                · intro _
                  first | (go_simp; done) | (go_simp; with_reducible rfl)
                go_simp
                refine wpAnyIn_ready (rs := [14]) (by kernel_rfl) (by simp) ?_
                refine AllReadyIn.cons rfl (fun K hK => ?_) AllReadyIn.nil
                (go_simp; refine hK _ _ ?_; clear hK K)
                refine wpAnyIn_ready (rs := [15]) (by kernel_rfl) (by simp) ?_
                refine AllReadyIn.cons rfl (fun K hK => ?_) AllReadyIn.nil
                (go_simp; refine hK _ _ ?_; clear hK K)
                refine wpAnyIn_done (by kernel_rfl) ?_ _
                exact FIN.out
              · (go_simp; refine ⟨trivial, ?_⟩; gi_at_call 134; refine (callsIn_wide.2 (ANY.out)).mono ?_; rintro e w2 ⟨rfl, hw2⟩; have hw2' := hw2.symm; subst hw2'; clear hw2; rw [BV.out]; go_simp; refine hK _ _ ?_; clear hK K)
                refine wpAnyIn_take (i := 13) (v := ?_) rfl rfl (by kernel_rfl) (by kernel_rfl) (by kernel_rfl) (fun _ _ _ h => h) ⟨Or.inl ⟨by rfl, ?_⟩, fun _ => rfl⟩ ?_
                rotate_left
                · intro _
                  first | (go_simp; done) | (go_simp; with_reducible rfl)
                go_simp
                refine wpAnyIn_ready (rs := [0]) (by kernel_rfl) (by simp) ?_
                refine AllReadyIn.cons rfl (fun K hK => ?_) AllReadyIn.nil
                (go_simp; refine hK _ _ ?_; clear hK K)
                refine wpAnyIn_ready (rs := [14]) (by kernel_rfl) (by simp) ?_
                refine AllReadyIn.cons rfl (fun K hK => ?_) AllReadyIn.nil
                (go_simp; refine hK _ _ ?_; clear hK K)
                refine wpAnyIn_ready (rs := [15]) (by kernel_rfl) (by simp) ?_
                refine AllReadyIn.cons rfl (fun K hK => ?_) AllReadyIn.nil
                (go_simp; refine hK _ _ ?_; clear hK K)
                refine wpAnyIn_done (by kernel_rfl) ?_ _
                exact FIN.out
      -- END SOME
  case done =>
    rintro D ys W hD rfl ⟨⟨⟨⟨⟨⟨d0, d1⟩, d2⟩, d3, d4⟩, hB⟩, hM⟩, hR⟩ hK
    have z3 : W.cell? ⟨w.heap.size + 1 + 1, 0, none⟩ = some (.slice (some ⟨w.heap.size + 1, 0, none⟩) N N) := by rw [← HN.out]; exact d1.cell 0
    have FIN := Lib.hid (seen_fin (ks := kept) (v := last) (o' := .deferred none) hN (show N ≤ 1024 by omega) hB hR hK (show w.heap.size ≤ D by omega))
    have KD := Lib.hid hK
    clear hB hM hR hK d0 d1 d2 d3 d4
    gi_wp2
    refine ⟨by simp, .inl ⟨_, _, rfl, run_takeDeferred KD.out, ?_⟩⟩
    refine ⟨_, results_tmp rfl _ _ _, ?_⟩
    exact FIN.out
  case stop =>
    rintro D c pre W hD hp h hK
    exact h.elim
theorem seen_any (w : World) (lo g : Nat) (It : List Nat) (u k : Value) (L : List RowL) (last floor : Nat) (kept : List Nat) (PC : PastC w lo g It u k L last floor kept) :
    Calls Tryz.prog 104 #[.pointer (some ⟨g, 0, none⟩)] w fun e W' => SeenPost w L kept last e W' := callsIn_wide.1 (seen_in w lo g It u k L last floor kept PC)
end Go.Proofs.YtdmnflncgmnghaaGreat
