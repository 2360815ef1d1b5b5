/-
  The document's graph in plain words.
-/
import Derived.Test.YtdfpfgkfmjehiaaIe
import Derived.Test.YtdfpfgkfmjehiaaIS
namespace Go.Proofs.Ytdfpfgkfmjehiaa
open Go.RowKit

/-- The document's graph in plain words: at the head of a block of type T, rs behind it; F are all its blocks; items lie below B. -/
def DGraphIs (T : TypeId) (rs : List Value) (w : World) (B lo g : Nat) (F : List Nat) (gv : GraphV) : Prop :=
  ∃ (u : Value) (L : List NodeL), GrD T rs (· < B) w lo g gv.m u L ∧ gv = graphV gv.m L ∧ gv.Right ∧ F = fpG g u L ∧ gv.m < 256 ∧ B ≤ lo ∧ TOk T
section
variable {T : TypeId} {rs : List Value} {w w' : World} {B lo g : Nat} {F : List Nat} {gv : GraphV}
theorem DGraphIs.lt (h : DGraphIs T rs w B lo g F gv) : ∀ b ∈ F, lo ≤ b ∧ b < w.heap.size := by
  obtain ⟨u, L, h1, _, _, rfl, _⟩ := h
  exact h1.fp_lt
theorem DGraphIs.hB (h : DGraphIs T rs w B lo g F gv) : B ≤ lo := by
  obtain ⟨u, L, _, _, _, _, _, h, _⟩ := h
  exact h
theorem DGraphIs.right (h : DGraphIs T rs w B lo g F gv) : gv.Right := by
  obtain ⟨_, _, _, _, h3, _⟩ := h
  exact h3
theorem DGraphIs.kept {G : List Nat} (h : DGraphIs T rs w B lo g F gv) (hk : Kept G w w') (hF : Apart G F) (hG : ∀ b ∈ G, B ≤ b) : DGraphIs T rs w' B lo g F gv := by
  obtain ⟨u, L, h1, h2, h3, rfl, h4⟩ := h
  exact ⟨u, L, h1.kept hk fun b hb => ⟨fun hh => hF b hb hh, fun hh => by have := hG b hb; omega⟩, h2, h3, rfl, h4⟩
theorem DGraphIs.on (h : DGraphIs T rs w B lo g F gv) (hb : Below w.heap.size w w') : DGraphIs T rs w' B lo g F gv := h.kept (G := []) (Kept.of_below hb (Nat.le_refl _)) (fun x hx => by simp at hx) (by simp)
theorem DGraphIs.mono {lo' : Nat} (h : DGraphIs T rs w B lo g F gv) (hl : lo' ≤ lo) (hB : B ≤ lo') : DGraphIs T rs w B lo' g F gv := by
  obtain ⟨u, L, h1, h2, h3, rfl, h4, h5, h6⟩ := h
  exact ⟨u, L, { h1 with rows := h1.rows.mono hl, glo := Nat.le_trans hl h1.glo, lrow := fun x hx => own_on (h1.lrow x hx) hl (Below.refl _ _), list := fun x hx k v l a b => own_on (h1.list x hx k v l a b) hl (Below.refl _ _) }, h2, h3, rfl, h4, hB, h6⟩
/-- A new one: no nodes. -/
theorem DGraphIs.new {m : Nat} (hm : m < 256) (hT : TOk T) (hb : Blk w g T (.int .i64 (m : Int) :: .slice none 0 0 :: rs)) (hB : B ≤ g) : DGraphIs T rs w B g g [g] ⟨m, []⟩ :=
  ⟨.slice none 0 0, [], { blk := hb, rows := RowC.nil _ _ _ _, item := by simp, glo := Nat.le_refl _, few := by simp, lrow := by simp, lens := by simp, list := by simp, plne := by simp, lsne := by simp, okne := fun b h => ⟨by have := hb.lt; omega, by rw [mem_fpG]; simp [Value.ownBlock]; omega⟩, nums := by simp }, rfl, right_none m, rfl, hm, hB, hT⟩
theorem dthere_is (h : DGraphIs T rs w B lo g F gv) (i level : Int) (z : Bool) (hz : Hid (gv.onB i level = z)) :
    Calls Try.prog 27 #[.pointer (some ⟨g, 0, none⟩), .int .i64 i, .int .i64 level] w fun e w' => e = .returned (.bool z) ∧ w = w' := by
  obtain ⟨u, L, h1, h2, h3, rfl, h4⟩ := h
  exact rthere_any h1 i level z (by rw [h2] at hz; exact hz)
theorem dnear_is (h : DGraphIs T rs w B lo g F gv) (qa : Option Addr) (qn qc : Nat) (q : List Int) (hq : Reads .i32 w qa qn q) (la : Option Addr) (ln lc : Nat) (l : List Int) (hl : Reads .i64 w la ln l) (hln : ln ≤ 100000) :
    Calls Try.prog 28 #[.pointer (some ⟨g, 0, none⟩), .slice qa qn qc, .slice la ln lc] w (RHits (gv.near q l) w) := by
  obtain ⟨u, L, h1, h2, h3, rfl, h4, _⟩ := h
  rw [h2]
  exact rnear_any h1 h4 qa qn qc q hq la ln lc l hl hln
theorem dchoose_is (h : DGraphIs T rs w B lo g F gv) (qa : Option Addr) (qn qc : Nat) (q : List Int) (hq : Reads .i32 w qa qn q) (la : Option Addr) (ln lc : Nat) (l : List Int) (hl : Reads .i64 w la ln l) (hln : ln ≤ 100000) (most : Int) :
    Calls Try.prog 29 #[.pointer (some ⟨g, 0, none⟩), .slice qa qn qc, .slice la ln lc, .int .i64 most] w (PlacesPost (gv.choose q l most.toNat) w) := by
  obtain ⟨u, L, h1, h2, h3, rfl, h4, _⟩ := h
  rw [h2]
  exact rchoose_any h1 h4 qa qn qc q hq la ln lc l hl hln most
theorem dwalk_is (h : DGraphIs T rs w B lo g F gv) (qa : Option Addr) (qn qc : Nat) (q : List Int) (hq : Reads .i32 w qa qn q) (la : Option Addr) (ln lc : Nat) (l : List Int) (hl : Reads .i64 w la ln l) (hln : ln ≤ 100000) (width level : Int) :
    Calls Try.prog 30 #[.pointer (some ⟨g, 0, none⟩), .slice qa qn qc, .slice la ln lc, .int .i64 width, .int .i64 level] w (RHits (gv.walk q l width level) w) := by
  obtain ⟨u, L, h1, h2, h3, rfl, h4, _⟩ := h
  rw [h2] at h3 ⊢
  exact rwalk_any h1 h3 h4 qa qn qc q hq la ln lc l hl hln width level
/-- What a change of the document's graph leaves. -/
def DPost (T : TypeId) (rs : List Value) (B lo g : Nat) (F : List Nat) (gv' : GraphV) (w w' : World) : Prop := ∃ F', DGraphIs T rs w' B lo g F' gv' ∧ Kept F w w' ∧ Grows w F F'
theorem dlink_is (h : DGraphIs T rs w B lo g F gv) (a b level most : Int) :
    Calls Try.prog 25 #[.pointer (some ⟨g, 0, none⟩), .int .i64 a, .int .i64 b, .int .i64 level, .int .i64 most] w fun e w' => e = .returned (.bool (gv.linkB a b level)) ∧ DPost T rs B lo g F (gv.link a b level most) w w' := by
  obtain ⟨u, L, h1, h2, h3, rfl, h4, h5, h6⟩ := h
  refine (rlink_any h1 h6 h4 (by rw [← h2]; exact h3) a b level most).mono ?_
  rintro e w' ⟨rfl, L', e1, e2, e3, e4⟩
  rw [← h2] at e2 ⊢
  have hm : (gv.link a b level most).m = gv.m := by
    unfold GraphV.link
    split <;> rfl
  exact ⟨rfl, fpG g u L', ⟨u, L', by rw [hm]; exact e1, by rw [hm, e2], h3.link _ _ _ _, rfl, by rw [hm]; exact h4, h5, h6⟩, e3, e4⟩
theorem dadd_is (h : DGraphIs T rs w B lo g F gv) (hfew : gv.L.length < 100000) (x : ItL) (hx : x.In (· < B) w) (level : Int) (v : Nat) (hv : v < 18446744073709551616) :
    Calls Try.prog 24 #[.pointer (some ⟨g, 0, none⟩), .agg x.cells.toArray, .int .i64 level, .int .u64 (v : Int)] w fun e w' => e = .returned (.int .i64 (gv.L.length : Int)) ∧ DPost T rs B lo g F (gv.add (newN x.id x.vec x.tags (topN level) v)) w w' := by
  obtain ⟨u, L, h1, h2, h3, rfl, h4, h5, h6⟩ := h
  have hl : gv.L.length = L.length := by rw [h2]; exact graphV_len _ _
  rw [hl] at hfew ⊢
  refine (radd_any h1 h6 hfew x hx level v hv).mono ?_
  rintro e w' ⟨rfl, u', y, e1, e2, e3, e4, -⟩
  have eg : gv.add (newN x.id x.vec x.tags (topN level) v) = graphV gv.m (L ++ [y]) := by rw [graphV_add, ← h2, e2]
  refine ⟨rfl, fpG g u' (L ++ [y]), ⟨u', L ++ [y], e1, eg, ?_, rfl, h4, h5, h6⟩, e3, e4⟩
  exact h3.add (x := newN x.id x.vec x.tags (topN level) v) (n := topN level + 1) rfl (by omega) (by have := (topN_is level).2; omega)
/-- What is seen of its nodes. -/
theorem DGraphIs.seen (h : DGraphIs T rs w B lo g F gv) : ∃ a n c, w.cell? ⟨g, 1, none⟩ = some (.slice a n c) ∧ Hid (n = gv.L.length) ∧ n ≤ 100000 ∧ g < w.heap.size ∧ g ∈ F := by
  obtain ⟨u, L, h1, h2, h3, rfl, h4, h5, h6⟩ := h
  obtain ⟨a, c, rfl, _⟩ := h1.toGrN.u_form
  exact ⟨a, L.length, c, h1.blk.cell 1, by rw [h2]; exact (graphV_len _ _).symm, h1.few, h1.blk.lt, mem_fpG.2 (.inl rfl)⟩
theorem DGraphIs.blk (h : DGraphIs T rs w B lo g F gv) : ∃ u, Blk w g T (.int .i64 (gv.m : Int) :: u :: rs) := by
  obtain ⟨u, L, h1, h2, h3, rfl, h4, h5, h6⟩ := h
  exact ⟨u, h1.blk⟩
/-- A node of it. -/
theorem DGraphIs.node (h : DGraphIs T rs w B lo g F gv) (i : Nat) (hi : i < gv.L.length) : ∃ (y : NodeL) (gu n c : Nat), gv.L[i]? = some y.toV ∧ w.cell? ⟨g, 1, none⟩ = some (.slice (some ⟨gu, 0, none⟩) n c) ∧ Hid (n = gv.L.length) ∧ gu < w.heap.size ∧ w.rangeAt gu (i * 6) y.cells ∧ NodeR w y ∧ (∀ k, w.frozen? ⟨gu, k, none⟩ = false) ∧ gu ∈ F ∧ y.it.In (· < B) w ∧ w.ownsRow lo 46 1 y.pl y.ls.length y.ls ∧ y.ls.length = y.links.length ∧ (∀ (k : Nat) (v : Value) (l : List Nat), y.ls[k]? = some v → y.links[k]? = some l → IntsAt lo w v l) ∧ (y.frm < 18446744073709551616 ∧ y.til < 18446744073709551616) := by
  obtain ⟨u, L, h1, h2, h3, rfl, h4, h5, h6⟩ := h
  have hl : gv.L.length = L.length := by rw [h2]; exact graphV_len _ _
  obtain ⟨x, gu, c, hx, hmem, hu, hgu, hrg⟩ := h1.toGrN.nodeAt i (by omega)
  have hxv : gv.L[i]? = some x.toV := by rw [h2]; exact graphV_at hx
  have hxm : x.toV ∈ gv.L := List.mem_of_getElem? hxv
  refine ⟨x, gu, L.length, c, hxv, by rw [← hu]; exact h1.blk.cell 1, hl.symm, hgu, hrg, ⟨(h1.item x hmem).stay (Nat.le_refl _) (fun _ _ _ => rfl) (fun _ _ _ => trivial), by have := h3.most _ hxm; show x.links.length ≤ 1000000; have e : x.toV.links.length = x.links.length := rfl; omega, ?_⟩, RowC.frozen (by rw [← hu]; exact h1.rows), mem_fpG.2 (.inr (.inl (by rw [hu]; rfl))), h1.item x hmem, h1.lrow x hmem, h1.lens x hmem, fun k v l a b => IntsAt.mk (h1.list x hmem k v l a b), h1.nums x hmem⟩
  have hlr := h1.lrow x hmem
  rcases own_cells1 hlr with ⟨e, e2⟩ | ⟨b, c2, e, _, _, hlt, hcell⟩
  · have e3 : x.links = [] := List.length_eq_zero_iff.1 (by rw [← h1.lens x hmem, e2]; rfl)
    exact ⟨none, 0, by rw [e, e3]; rfl, .inl e3⟩
  · refine ⟨some ⟨b, 0, none⟩, c2, by rw [e, h1.lens x hmem], .inr ⟨b, 0, rfl, hlt, fun k l hlk => ?_⟩⟩
    have hk := (List.getElem?_eq_some_iff.1 hlk).1
    have hk2 : k < x.ls.length := by rw [h1.lens x hmem]; exact hk
    have hv : x.ls[k]? = some x.ls[k] := List.getElem?_eq_getElem hk2
    have hi2 := IntsAt.mk (h1.list x hmem k _ l hv hlk)
    obtain ⟨a, n, c3, e4, -⟩ := hi2.parts
    have elk : gv.links i k = l := by rw [h2, graphV_links hx, List.getD_eq_getElem?_getD, hlk]; rfl
    have hln : ∀ y ∈ l, y < L.length := fun y hy => by
      have := links_lt h3 (i := i) (k := k) (by rw [elk]; exact hy)
      omega
    have hll : l.length ≤ L.length := nodup_le _ _ (by rw [← elk]; exact h3.each i k) hln
    have hf := h1.few
    rw [e4] at hi2
    refine ⟨a, n, c3, ?_, hi2.reads (by omega) (fun y hy => by have := hln y hy; omega)⟩
    rw [Nat.zero_add, hcell k hk2, hv, e4]
/-- A node's end is another one now. -/
theorem DGraphIs.tilAt (h : DGraphIs T rs w B lo g F gv) (i : Nat) (hi : i < gv.L.length) (v : Nat) (hv : v < 18446744073709551616) : ∃ (gu n c til : Nat), w.cell? ⟨g, 1, none⟩ = some (.slice (some ⟨gu, 0, none⟩) n c) ∧ Hid (n = gv.L.length) ∧ i < n ∧ gu < w.heap.size ∧ w.cell? ⟨gu, i * 6 + 4, none⟩ = some (.int .u64 (til : Int)) ∧ w.frozen? ⟨gu, i * 6 + 4, none⟩ = false ∧ gu ∈ F ∧ DGraphIs T rs (w.setCell ⟨gu, i * 6 + 4, none⟩ (.int .u64 (v : Int))) B lo g F (gv.till (i : Int) v) ∧ Kept F w (w.setCell ⟨gu, i * 6 + 4, none⟩ (.int .u64 (v : Int))) := by
  obtain ⟨u, L, h1, h2, h3, rfl, h4, h5, h6⟩ := h
  have hl : gv.L.length = L.length := by rw [h2]; exact graphV_len _ _
  obtain ⟨x, gu, c, hx, hmem, hu, hgu, hrg⟩ := h1.toGrN.nodeAt i (by omega)
  have e := h1.setTil h6.n hx hu v hv
  have e2 : gv.till (i : Int) v = graphV gv.m (L.set i (x.setT v)) := by rw [graphV_setT hx, ← h2]
  refine ⟨gu, L.length, c, x.til, by rw [← hu]; exact h1.blk.cell 1, hl.symm, by omega, hgu, hrg 4 _ rfl, RowC.frozen (by rw [← hu]; exact h1.rows) _, mem_fpG.2 (.inr (.inl (by rw [hu]; rfl))), ⟨u, L.set i (x.setT v), ?_, ?_, h3.till _ _, by rw [fpG_setT hx], ?_, h5, h6⟩, e.2⟩
  · rw [e2]
    exact e.1
  · rw [e2]
    rfl
  · rw [e2]
    exact h4
end
end Go.Proofs.Ytdfpfgkfmjehiaa
