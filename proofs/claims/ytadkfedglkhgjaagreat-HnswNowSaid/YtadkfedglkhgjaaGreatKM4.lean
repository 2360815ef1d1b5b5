/-
  Layer 12: Search's words; Sweep. (Merged out of Kw Kaa Kab Kac Kad Kae Kaf.)
-/
import Derived.Test.YtadkfedglkhgjaaGreatKM3
import Derived.Test.YtadkfedglkhgjaaGreatGm
import Derived.Test.YtadkfedglkhgjaaGreatGd
namespace Go.Proofs.YtadkfedglkhgjaaGreat

section
open Go.RowKit Go.ChangeShapes Go.WideShapes Go.ChangeAt Go.Maps

/-- A filter's letters. -/
structure FltL where
  p0 : Option Addr × Nat × Nat
  p1 : Option Addr × Nat × Nat
  p2 : Option Addr × Nat × Nat
  f : Filt
def FltL.cells (x : FltL) : List Value := [.slice x.p0.1 x.p0.2.1 x.p0.2.2, .slice x.p1.1 x.p1.2.1 x.p1.2.2, .slice x.p2.1 x.p2.2.1 x.p2.2.2]
structure FltL.In (w : World) (x : FltL) : Prop where
  all : SReads w x.p0.1 x.p0.2.1 x.p0.2.2 x.f.all
  any : SReads w x.p1.1 x.p1.2.1 x.p1.2.2 x.f.any
  none : SReads w x.p2.1 x.p2.2.1 x.p2.2.2 x.f.none
theorem FltL.In.on {w w' : World} {x : FltL} (h : x.In w) (hb : Below w.heap.size w w') : x.In w' := ⟨h.all.on hb, h.any.on hb, h.none.on hb⟩
/-- What tags.Match tells (match_reads of Gd or Gk). -/
def MatchIs : Prop := ∀ (x : FltL) (a : Option Addr) (n c : Nat) (ss : List ByteArray) (w : World), x.In w → SReads w a n c ss →
  Calls Tryz.prog 45 #[.agg x.cells.toArray, .slice a n c] w fun e w' => e = .returned (.bool (matchB x.f ss)) ∧ Below w.heap.size w w'
def seenB (frm til v : Nat) : Bool := decide (frm ≤ v) && (decide (til = 0) || decide (v < til))
/-- The hit of a node that is there and wanted. -/
def hitOf (m : Nat) (q : List Int) (f : Filt) (v : Nat) (n : NodeV) : Option Hit :=
  match distV m q.length n.vec.length q n.vec with
  | some d => if seenB n.frm n.til v = true ∧ matchB f n.tags = true then some (d, (n.id : Int)) else none
  | none => none
/-- The places that a search looks at. -/
def IdxV.candsV (s : IdxV) (q : List Int) (k width : Int) : List Nat := placesV (s.g.walk q [s.down q 0] (max width k) 0)
def IdxV.foundV (s : IdxV) (q : List Int) (f : Filt) (v : Nat) (l : List Nat) : List Hit := l.filterMap fun (j : Nat) => hitOf s.g.m q f v (s.g.nodeOr (j : Int))
theorem IdxV.foundV_snoc (s : IdxV) (q : List Int) (f : Filt) (v : Nat) (l : List Nat) (j : Nat) : s.foundV q f v (l ++ [j]) = s.foundV q f v l ++ (hitOf s.g.m q f v (s.g.nodeOr (j : Int))).toList := by
  unfold IdxV.foundV
  rw [List.filterMap_append]
  congr 1
/-- Search: r is how many at most. -/
def IdxV.searchV (s : IdxV) (q : List Int) (f : Filt) (r : Nat) (k width : Int) (v : Nat) : List Hit := keepL r (s.foundV q f v (s.candsV q k width))
end

section
open Go.RowKit Go.ChangeShapes Go.WideShapes Go.ChangeAt Go.Maps

/-- The blocks of a node's lists. -/
def NodeL.bsN (y : NodeL) : List Nat := y.it.bs ++ (ownB y.pl ++ y.ls.flatMap ownB)
theorem NodeL.Own.kept {lo : Nat} {w w' : World} {y : NodeL} {F : List Nat} (h : y.Own lo w) (hk : Kept F w w') (hF : ∀ g ∈ y.bsN, g ∉ F) : y.Own lo w' := by
  refine ⟨h.it.kept hk fun g hg => hF g (List.mem_append.2 (.inl hg)), hk.own h.lrow fun g hg => hF g (List.mem_append.2 (.inr (List.mem_append.2 (.inl (mem_ownB.2 hg))))), h.lens, fun k v l h1 h2 => ?_⟩
  have hv : ∀ g, v.ownBlock = some g → g ∉ F := fun g hg => hF g (List.mem_append.2 (.inr (List.mem_append.2 (.inr (List.mem_flatMap.2 ⟨v, List.mem_of_getElem? h1, mem_ownB.2 hg⟩)))))
  exact (h.list k v l h1 h2).kept hk hv
theorem NodeL.Own.bs_lt {lo : Nat} {w : World} {y : NodeL} (h : y.Own lo w) : ∀ g ∈ y.bsN, lo ≤ g ∧ g < w.heap.size := by
  intro g hg
  rcases List.mem_append.1 hg with hg | hg
  · exact h.it.lo g hg
  · rcases List.mem_append.1 hg with hg | hg
    · exact World.ownsRow.lt h.lrow g (mem_ownB.1 hg)
    · obtain ⟨v, hv, hg⟩ := List.mem_flatMap.1 hg
      obtain ⟨k, hk, e⟩ := List.mem_iff_getElem.1 hv
      have h1 : y.ls[k]? = some v := by rw [List.getElem?_eq_getElem hk, e]
      have hl : k < y.links.length := by rw [← h.lens]; exact hk
      exact World.ownsRow.lt (h.list k v y.links[k] h1 (List.getElem?_eq_getElem hl)).own g (mem_ownB.1 hg)
/-- A sweep under way: the elder nodes, where they are now, the index that comes of it. -/
structure SwIs (lo g x : Nat) (vo vm : Value) (ys : List NodeL) (mv : List Int) (F : List Nat) (s : IdxV) (w : World) : Prop where
  blk : Blk w g 98 [vo, vm, .pointer (some ⟨x, 0, none⟩)]
  old : NodesAt lo w vo ys
  row : w.ownsRow lo 3 1 vm mv.length (mv.map (Value.int .i64))
  idx : IdxIs w lo x F s
  size : lo ≤ w.heap.size
  gF : g ∉ F
  glo : lo ≤ g
  old_g : ∀ y ∈ ys, g ∉ y.bsN
  far : ∀ b ∈ F, vo.ownBlock ≠ some b ∧ vm.ownBlock ≠ some b ∧ ∀ y ∈ ys, b ∉ y.bsN
  vmo : ∀ k, vm.ownBlock = some k → ∀ y ∈ ys, k ∉ y.bsN
section
variable {lo g x : Nat} {vo vm : Value} {ys : List NodeL} {mv : List Int} {F : List Nat} {s s' : IdxV} {w w' : World}
theorem SwIs.on (h : SwIs lo g x vo vm ys mv F s w) (hb : Below w.heap.size w w') : SwIs lo g x vo vm ys mv F s w' :=
  ⟨(Kept.of_below (F := []) hb (Nat.le_refl _)).blk h.blk (by simp), ⟨RowC.on h.old.1 hb, fun y hy => (h.old.2 y hy).on hb⟩, row_on h.row hb, h.idx.on hb, Nat.le_trans h.size hb.size, h.gF, h.glo, h.old_g, h.far, h.vmo⟩
/-- What a step of a sweep leaves. -/
def SwPost (lo g x : Nat) (vo vm : Value) (ys : List NodeL) (mv : List Int) (s' : IdxV) (w w' : World) : Prop := ∃ F', SwIs lo g x vo vm ys mv F' s' w' ∧ Below lo w w'
theorem SwIs.step (h : SwIs lo g x vo vm ys mv F s w) (hp : HPost lo x F s' w w') : SwPost lo g x vo vm ys mv s' w w' := by
  obtain ⟨F', h1, h2, h3⟩ := hp
  refine ⟨F', ⟨h2.blk h.blk h.gF, ⟨RowC.kept h.old.1 h2 (fun k e hk => (h.far k hk).1 e), fun y hy => (h.old.2 y hy).kept h2 (fun b hb hF => (h.far b hF).2.2 y hy hb)⟩, h2.own h.row (fun k e hk => (h.far k hk).2.1 e), h1, Nat.le_trans h.size h2.size, fun hg => ?_, h.glo, h.old_g, fun b hb => ?_, h.vmo⟩, h2.below (fun b hb => (h.idx.lt b hb).1) h.size⟩
  · rcases h3 g hg with h4 | h4
    · exact h.gF h4
    · have := h.blk.lt
      omega
  · rcases h3 b hb with h4 | h4
    · exact h.far b h4
    · refine ⟨fun e => ?_, fun e => ?_, fun y hy hb => ?_⟩
      · have := (World.ownsRow.lt h.old.1.2 b e).2
        omega
      · have := (World.ownsRow.lt h.row b e).2
        omega
      · have := ((h.old.2 y hy).bs_lt b hb).2
        omega
end
/-- A place's new one. -/
def mvAt (mv : List Int) (j : Nat) : Int := mv.getD j (-1)
def IdxV.linkAll (mv : List Int) (i level : Nat) (s : IdxV) (l : List Nat) : IdxV := l.foldl (fun s (j : Nat) => s.link (mvAt mv i) (mvAt mv j) (level : Int)) s
theorem linkAll_snoc (mv : List Int) (i level : Nat) (s : IdxV) (l : List Nat) (j : Nat) : s.linkAll mv i level (l ++ [j]) = (s.linkAll mv i level l).link (mvAt mv i) (mvAt mv j) (level : Int) := by simp [IdxV.linkAll]
theorem SwIs.moved {lo g x : Nat} {vo : Value} {ys : List NodeL} {mv : List Int} {F : List Nat} {s : IdxV} {w : World} {a : Option Addr} {n c : Nat} (h : SwIs lo g x vo (.slice a n c) ys mv F s w) (i : Nat) (hi : i < mv.length) : ∃ gm, a = some ⟨gm, 0, none⟩ ∧ w.cell? ⟨gm, i, none⟩ = some (.int .i64 (mvAt mv i)) := by
  rcases own_cells1 (show w.ownsRow lo 3 1 (.slice a n c) (mv.map (Value.int .i64)).length (mv.map (Value.int .i64)) from by rw [List.length_map]; exact h.row) with ⟨e, h0⟩ | ⟨gm, c', e, -, -, -, hc⟩
  · have := List.map_eq_nil_iff.1 h0
    subst this
    simp at hi
  · simp only [Value.slice.injEq] at e
    refine ⟨gm, e.1, ?_⟩
    rw [hc i (by simpa using hi), List.getElem?_map]
    unfold mvAt
    rw [List.getD_eq_getElem?_getD, List.getElem?_eq_getElem hi]
    rfl
/-- A list of links of an elder node. -/
def OldL (ys : List NodeL) (v : Value) (l : List Nat) : Prop := ∃ y ∈ ys, ∃ k : Nat, y.ls[k]? = some v ∧ y.links[k]? = some l
theorem SwIs.list {lo g x : Nat} {vo vm : Value} {ys : List NodeL} {mv : List Int} {F : List Nat} {s : IdxV} {w : World} (h : SwIs lo g x vo vm ys mv F s w) {v : Value} {l : List Nat} (hl : OldL ys v l) : IntsAt lo w v l := by
  obtain ⟨y, hy, k, h1, h2⟩ := hl
  exact (h.old.2 y hy).list k v l h1 h2

set_option maxRecDepth 100000 in
set_option maxHeartbeats 6400000 in
theorem hswlink_any (w : World) (lo g x : Nat) (vo vm : Value) (ys : List NodeL) (mv : List Int) (F : List Nat) (s : IdxV) (h : SwIs lo g x vo vm ys mv F s w) (i level : Nat) (la : Option Addr) (ln lc : Nat) (l : List Nat) (hl : OldL ys (.slice la ln lc) l) (hi : i < mv.length) (hj : ∀ j ∈ l, j < mv.length) (hl6 : l.length ≤ 1000000) :
    Calls Tryz.prog 99 #[.pointer (some ⟨g, 0, none⟩), .int .i64 (i : Int), .slice la ln lc, .int .i64 (level : Int)] w fun e w' => e = .returned (.tuple #[]) ∧ SwPost lo g x vo vm ys mv (s.linkAll mv i level l) w w' := by
  obtain ⟨ma, mn, mc, rfl, hmn⟩ := ownsRow_slice h.row
  have hln : l.length = ln := by
    obtain ⟨a, c, e, -⟩ := RowC.form (h.list hl)
    simp only [Value.slice.injEq, List.length_map] at e
    exact e.2.1.symm
  have hln6 : ln ≤ 1000000 := by omega
  have HLN := Lib.hid hln
  have HH := Lib.hid h
  have HL := Lib.hid hl
  have HJ := Lib.hid hj
  have HI := Lib.hid hi
  have himn : i < mn := by have := hmn.out; omega
  obtain ⟨gm, rfl, -⟩ := h.moved i hi
  obtain ⟨mi, hmi⟩ : ∃ mi, mvAt mv i = mi := ⟨_, rfl⟩
  have HMI := Lib.hid hmi
  have hlo := h.size
  have HB0 := Lib.hid (Below.refl lo w)
  clear h hl hj hi hln hmi hl6
  go_enter Tryz.func99, Tryz.ntmps99
  go_wp2_with (fail)
  go_loopw [12] (fun s12 wr => ∃ (k : Nat) (F1 : List Nat), s12 = .int .i64 (k : Int) ∧ k ≤ ln ∧ Hid (SwIs lo g x vo (.slice (some ⟨gm, 0, none⟩) mn mc) ys mv F1 (s.linkAll mv i level (l.take k)) wr) ∧ Hid (Below lo w wr)) (fun s12 _ => ln - (intOf s12).toNat)
  case atStart => exact ⟨0, F, rfl, Nat.zero_le _, HH.out, HB0.out⟩
  case round =>
    obtain ⟨k, F1, rfl, hk, HS, HB⟩ := hrel
    by_cases hkn : k < ln
    · obtain ⟨j, hj⟩ : ∃ j, l[k]? = some j := ⟨_, List.getElem?_eq_getElem (by rw [HLN.out]; exact hkn)⟩
      obtain ⟨gl, cl, el, -, -, hrng⟩ := RowC.at (HS.out.list HL.out) k [.int .i64 (j : Int)] (by rw [List.getElem?_map, hj]; rfl)
      simp only [Value.slice.injEq] at el
      obtain ⟨rfl, -, -⟩ := el
      have k0 : wr.cell? ⟨gl, k, none⟩ = some (.int .i64 (j : Int)) := by have := hrng 0 _ rfl; rwa [Nat.mul_one, Nat.add_zero] at this
      have hjm := HJ.out j (List.mem_of_getElem? hj)
      obtain ⟨gm', e1, c1⟩ := HS.out.moved i HI.out
      cases e1
      obtain ⟨gm', e2, c2⟩ := HS.out.moved j hjm
      cases e2
      rw [HMI.out] at c1
      obtain ⟨mj, hmj⟩ : ∃ mj, mvAt mv j = mj := ⟨_, rfl⟩
      rw [hmj] at c2
      have hjn : j < mn := by have := hmn.out; omega
      have b1 : wr.cell? ⟨g, 1, none⟩ = some (.slice (some ⟨gm, 0, none⟩) mn mc) := HS.out.blk.cell 1
      have b2 : wr.cell? ⟨g, 2, none⟩ = some (.pointer (some ⟨x, 0, none⟩)) := HS.out.blk.cell 2
      have FN := Lib.hid (show s.linkAll mv i level (l.take (k + 1)) = (s.linkAll mv i level (l.take k)).link mi mj (level : Int) from by
        rw [List.take_add_one, hj, Option.toList_some, linkAll_snoc, HMI.out, hmj])
      have HSD := Lib.hid (HS.out.on (Below.refl _ wr).drew)
      have CK := Lib.hid (hlink_any wr.drew lo x F1 _ HSD.out.idx mi mj (level : Int))
      clear hrng hj hjm hmj
      go_wp2_with (fail)
      go_still_tail 19, (by kernel_rfl)
      change wpList _ _ _ _ _ wr.drew
      go_wp2_with (fail)
      refine CK.out.mono ?_
      rintro e w2 ⟨rfl, hp⟩
      obtain ⟨F2, hs2, hb2⟩ := HSD.out.step hp
      have R1 := Lib.hid hs2
      have R2 := Lib.hid ((HB.out.drew).trans hb2)
      clear hs2 hb2 hp k0 c1 c2 b1 b2 HSD CK HS HB
      go_wp2_with (fail)
      go_roundw
      case rel => exact ⟨k + 1, F2, by go_num, by omega, by rw [FN.out]; exact R1.out, R2.out⟩
      case measure => first | (simp [intOf]; done) | (simp [intOf]; omega)
    · have hke : l.take k = l := List.take_of_length_le (by rw [HLN.out]; omega)
      rw [hke] at HS
      go_wp2_with (fail)
      go_end0
      exact ⟨rfl, F1, HS.out, HB.out⟩
end

section
open Go.RowKit Go.ChangeShapes Go.WideShapes Go.ChangeAt Go.Maps

/-- Past those that went. -/
def IdxV.pastAll (G : GraphV) (mv : List Int) (i level : Nat) (s : IdxV) (l : List Nat) : IdxV := l.foldl (fun s (j : Nat) => if mvAt mv j = -1 then s.linkAll mv i level (G.links j level) else s) s
theorem pastAll_snoc (G : GraphV) (mv : List Int) (i level : Nat) (s : IdxV) (l : List Nat) (j : Nat) : s.pastAll G mv i level (l ++ [j]) = if mvAt mv j = -1 then (s.pastAll G mv i level l).linkAll mv i level (G.links j level) else s.pastAll G mv i level l := by simp [IdxV.pastAll]
def IdxV.relinkL (G : GraphV) (mv : List Int) (i : Nat) (s : IdxV) (level : Nat) : IdxV := (s.linkAll mv i level (G.links i level)).pastAll G mv i level (G.links i level)
def IdxV.relink (G : GraphV) (mv : List Int) (s : IdxV) (i : Nat) : IdxV := (List.range (G.lv i)).foldl (IdxV.relinkL G mv i) s
section
variable {lo g x gu N c : Nat} {vm : Value} {ys : List NodeL} {mv : List Int} {F : List Nat} {s : IdxV} {w : World} {G : GraphV}
theorem SwIs.node (h : SwIs lo g x (.slice (some ⟨gu, 0, none⟩) N c) vm ys mv F s w) (hV : ys.map NodeL.toV = G.L) (i : Nat) (hi : i < ys.length) : ∃ y, y ∈ ys ∧ G.L[i]? = some y.toV ∧ w.cell? ⟨gu, i * 6 + 5, none⟩ = some y.pl ∧ y.Own lo w := by
  obtain ⟨y, hy⟩ : ∃ y, ys[i]? = some y := ⟨_, List.getElem?_eq_getElem hi⟩
  obtain ⟨g', c', e, -, -, hrng⟩ := RowC.at h.old.1 i y.cells (by rw [List.getElem?_map, hy]; rfl)
  simp only [Value.slice.injEq, Option.some.injEq, Addr.mk.injEq, and_true] at e
  obtain ⟨rfl, -⟩ := e
  exact ⟨y, List.mem_of_getElem? hy, by rw [← hV, List.getElem?_map, hy]; rfl, hrng 5 _ rfl, h.old.2 y (List.mem_of_getElem? hy)⟩
theorem own_list {y : NodeL} (h : y.Own lo w) (lev : Nat) (hl : lev < y.links.length) : ∃ gp cp, y.pl = .slice (some ⟨gp, 0, none⟩) y.links.length cp ∧ ∃ la ln lc l, w.cell? ⟨gp, lev, none⟩ = some (.slice la ln lc) ∧ y.ls[lev]? = some (.slice la ln lc) ∧ y.links[lev]? = some l ∧ Hid (l.length = ln) := by
  have hls : lev < y.ls.length := by rw [h.lens]; exact hl
  rcases own_cells1 h.lrow with ⟨e, h0⟩ | ⟨gp, cp, e, -, -, -, hc⟩
  · rw [h0] at hls
    simp at hls
  · refine ⟨gp, cp, by rw [e, h.lens], ?_⟩
    have h1 : y.ls[lev]? = some y.ls[lev] := List.getElem?_eq_getElem hls
    have h2 : y.links[lev]? = some y.links[lev] := List.getElem?_eq_getElem hl
    obtain ⟨la, lc, e2, -⟩ := RowC.form (h.list lev _ _ h1 h2)
    rw [List.length_map] at e2
    refine ⟨la, _, lc, y.links[lev], ?_, by rw [h1, e2], h2, rfl⟩
    rw [hc lev hls, h1, e2]
theorem links_of {y : NodeL} {i lev : Nat} {l : List Nat} (h : G.L[i]? = some y.toV) (hl : y.links[lev]? = some l) : G.links i lev = l := by
  rw [GraphV.links_some h]
  show y.links.getD lev [] = l
  rw [List.getD_eq_getElem?_getD, hl]
  rfl
theorem right_list (hR : G.Right) {N : Nat} (hN : G.L.length = N) (i lev : Nat) : (∀ j ∈ G.links i lev, j < N ∧ lev < G.lv j) ∧ (G.links i lev).length ≤ N := by
  have h1 : ∀ j ∈ G.links i lev, j < N ∧ lev < G.lv j := fun j hj => by
    have := (hR.dest i lev j hj).1
    exact ⟨by rw [← hN]; exact lv_len this, this⟩
  exact ⟨h1, nodup_le N _ (hR.each i lev) fun j hj => (h1 j hj).1⟩
end

set_option maxRecDepth 100000 in
set_option maxHeartbeats 12800000 in
theorem hrelink_any (w : World) (lo g x gu N c : Nat) (vm : Value) (ys : List NodeL) (mv : List Int) (F : List Nat) (s : IdxV) (h : SwIs lo g x (.slice (some ⟨gu, 0, none⟩) N c) vm ys mv F s w) (G : GraphV) (hV : ys.map NodeL.toV = G.L) (hR : G.Right) (hN : ys.length = N) (hN5 : N ≤ 100000) (hmv : mv.length = N) (i : Nat) (hi : i < N) :
    Calls Tryz.prog 54 #[.pointer (some ⟨g, 0, none⟩), .int .i64 (i : Int)] w fun e w' => e = .returned (.tuple #[]) ∧ SwPost lo g x (.slice (some ⟨gu, 0, none⟩) N c) vm ys mv (s.relink G mv i) w w' := by
  obtain ⟨ma, mn, mc, rfl, hmn⟩ := ownsRow_slice h.row
  obtain ⟨gm, rfl, -⟩ := h.moved i (by omega)
  have hmN : N = mn := by have := hmn.out; omega
  have hGN : G.L.length = N := by rw [← hV, List.length_map, hN]
  have HH := Lib.hid h
  have HV := Lib.hid hV
  have HR := Lib.hid hR
  have HN := Lib.hid hN
  have HM := Lib.hid hmv
  have HGN := Lib.hid hGN
  obtain ⟨y, hy, hGy, cy, oy⟩ := h.node hV i (by omega)
  have b0 : w.cell? ⟨g, 0, none⟩ = some (.slice (some ⟨gu, 0, none⟩) N c) := h.blk.cell 0
  have hlv : G.lv i = y.links.length := GraphV.lv_some hGy
  have hl1 : 0 < y.links.length := hR.one y.toV (List.mem_of_getElem? hGy)
  have hl5 : y.links.length ≤ 5 := hR.most y.toV (List.mem_of_getElem? hGy)
  obtain ⟨gp, cp, epl, -⟩ := own_list oy 0 hl1
  obtain ⟨nl, hnl⟩ : ∃ nl, y.links.length = nl := ⟨_, rfl⟩
  rw [epl, hnl] at cy
  rw [hnl] at epl hlv hl1 hl5
  have HPL := Lib.hid epl
  have HNL := Lib.hid hnl
  have HY := Lib.hid hy
  have HGY := Lib.hid hGy
  have HLV := Lib.hid hlv
  have hlo := h.size
  have HB0 := Lib.hid (Below.refl lo w)
  obtain ⟨i6, hi6⟩ : ∃ i6, i * 6 = i6 := ⟨_, rfl⟩
  clear h hV hR hN hmv hGN hy hGy oy epl hnl hlv hi6
  subst hmN
  go_enter Tryz.func54, Tryz.ntmps54
  go_wp2_with (fail)
  go_loopw [17] (fun s17 wr => ∃ (lev : Nat) (F1 : List Nat), s17 = .int .i64 (lev : Int) ∧ lev ≤ nl ∧ Hid (SwIs lo g x (.slice (some ⟨gu, 0, none⟩) N c) (.slice (some ⟨gm, 0, none⟩) N mc) ys mv F1 ((List.range lev).foldl (IdxV.relinkL G mv i) s) wr) ∧ Hid (Below lo w wr)) (fun s17 _ => nl - (intOf s17).toNat)
  case atStart => exact ⟨0, F, rfl, Nat.zero_le _, HH.out, HB0.out⟩
  case round =>
    obtain ⟨lev, F1, rfl, hlev, HS, HB⟩ := hrel
    clear b0 cy
    by_cases hln : lev < nl
    · obtain ⟨gp', cp', e1, la, ln, lc, l, c1, l1, l2, l3⟩ := own_list (HS.out.old.2 y HY.out) lev (by rw [HNL.out]; exact hln)
      rw [HPL.out, HNL.out] at e1
      simp only [Value.slice.injEq, Option.some.injEq, Addr.mk.injEq, and_true, true_and] at e1
      obtain ⟨rfl, rfl⟩ := e1
      have HLL := Lib.hid (links_of HGY.out l2)
      have HOL := Lib.hid (show OldL ys (.slice la ln lc) l from ⟨y, HY.out, lev, l1, l2⟩)
      have hrl := right_list HR.out HGN.out i lev
      rw [HLL.out] at hrl
      have HRL := Lib.hid hrl.1
      have hl6 : l.length ≤ 1000000 := by have := hrl.2; omega
      have hln6 : ln ≤ 1000000 := by have := l3.out; omega
      have CK := Lib.hid (hswlink_any wr lo g x _ _ ys mv F1 _ HS.out i lev la ln lc l HOL.out (by rw [HM.out]; exact hi) (fun j hj => by rw [HM.out]; exact (HRL.out j hj).1) hl6)
      have HL3 := Lib.hid l3.out
      have SN := Lib.hid (show (List.range (lev + 1)).foldl (IdxV.relinkL G mv i) s = (((List.range lev).foldl (IdxV.relinkL G mv i) s).linkAll mv i lev l).pastAll G mv i lev l from by
        rw [List.range_succ, List.foldl_append]
        simp only [List.foldl_cons, List.foldl_nil, IdxV.relinkL, HLL.out])
      obtain ⟨S1, hS1⟩ : ∃ S1, ((List.range lev).foldl (IdxV.relinkL G mv i) s).linkAll mv i lev l = S1 := ⟨_, rfl⟩
      rw [hS1] at CK SN
      clear hrl hl6 l1 l2 l3 hS1
      go_wp2_with (fail)
      refine CK.out.mono ?_
      rintro e w2 ⟨rfl, F2, hs2, hb2⟩
      have HS2 := Lib.hid hs2
      have HB2 := Lib.hid (HB.out.trans hb2)
      clear hs2 hb2 CK HS HB c1
      rename World => wA
      go_wp2_with (fail)
      go_loopw [29] (fun s29 wr2 => ∃ (k : Nat) (F3 : List Nat), s29 = .int .i64 (k : Int) ∧ k ≤ ln ∧ Hid (SwIs lo g x (.slice (some ⟨gu, 0, none⟩) N c) (.slice (some ⟨gm, 0, none⟩) N mc) ys mv F3 (S1.pastAll G mv i lev (l.take k)) wr2) ∧ Hid (Below lo w wr2)) (fun s29 _ => ln - (intOf s29).toNat)
      case atStart => exact ⟨0, F2, rfl, Nat.zero_le _, HS2.out, HB2.out⟩
      case round =>
        clear HS2 HB2
        obtain ⟨k, F3, rfl, hk, HS, HB⟩ := hrel
        rename World => wr2
        by_cases hkn : k < ln
        · obtain ⟨j, hj⟩ : ∃ j, l[k]? = some j := ⟨_, List.getElem?_eq_getElem (by rw [HL3.out]; exact hkn)⟩
          obtain ⟨gl, cl, el, -, -, hrng⟩ := RowC.at (HS.out.list HOL.out) k [.int .i64 (j : Int)] (by rw [List.getElem?_map, hj]; rfl)
          simp only [Value.slice.injEq] at el
          obtain ⟨rfl, -, -⟩ := el
          have k0 : wr2.cell? ⟨gl, k, none⟩ = some (.int .i64 (j : Int)) := by have := hrng 0 _ rfl; rwa [Nat.mul_one, Nat.add_zero] at this
          obtain ⟨hjN, hjl⟩ := HRL.out j (List.mem_of_getElem? hj)
          obtain ⟨gm', e1, c2⟩ := HS.out.moved j (by rw [HM.out]; exact hjN)
          cases e1
          obtain ⟨mj, hmj⟩ : ∃ mj, mvAt mv j = mj := ⟨_, rfl⟩
          rw [hmj] at c2
          have b0 : wr2.cell? ⟨g, 0, none⟩ = some (.slice (some ⟨gu, 0, none⟩) N c) := HS.out.blk.cell 0
          have b1 : wr2.cell? ⟨g, 1, none⟩ = some (.slice (some ⟨gm, 0, none⟩) N mc) := HS.out.blk.cell 1
          have hTK : l.take (k + 1) = l.take k ++ [j] := by rw [List.take_add_one, hj, Option.toList_some]
          clear hrng hj
          by_cases hm1 : mj = -1
          · have d1 : (mj == -1) = true := by rw [hm1]; rfl
            obtain ⟨yj, hyj, hGj, cj, oj⟩ := HS.out.node HV.out j (by rw [HN.out]; exact hjN)
            have hlj : G.lv j = yj.links.length := GraphV.lv_some hGj
            obtain ⟨gq, cq, eq, la2, ln2, lc2, l2, c3, m1, m2, m3⟩ := own_list oj lev (by omega)
            obtain ⟨nj, hnj⟩ : ∃ nj, yj.links.length = nj := ⟨_, rfl⟩
            have hlnj : lev < nj := by omega
            rw [hnj] at eq
            rw [eq] at cj
            have HL2 := Lib.hid (links_of hGj m2)
            have hrl2 := right_list HR.out HGN.out j lev
            rw [HL2.out] at hrl2
            have FN := Lib.hid (show S1.pastAll G mv i lev (l.take (k + 1)) = (S1.pastAll G mv i lev (l.take k)).linkAll mv i lev l2 from by
              rw [hTK, pastAll_snoc, hmj, if_pos hm1, HL2.out])
            have CK := Lib.hid (hswlink_any wr2 lo g x _ _ ys mv F3 _ HS.out i lev la2 ln2 lc2 l2 ⟨yj, hyj, lev, m1, m2⟩ (by rw [HM.out]; exact hi) (fun j' hj' => by rw [HM.out]; exact (hrl2.1 j' hj').1) (by have := hrl2.2; omega))
            have hj0 : (0 : Int) ≤ (j : Int) := by omega
            clear hGj hyj oj hlj eq m1 m2 m3 hrl2 hTK hmj hjl hnj
            go_wp2_with (fail)
            refine CK.out.mono ?_
            rintro e w3 ⟨rfl, F4, hs4, hb4⟩
            have R1 := Lib.hid hs4
            have R2 := Lib.hid (HB.out.trans hb4)
            clear hs4 hb4 CK HS HB k0 c2 b0 b1 cj c3
            go_wp2_with (fail)
            go_roundw
            case rel => exact ⟨k + 1, F4, by go_num, by omega, by rw [FN.out]; exact R1.out, R2.out⟩
            case measure => first | (simp [intOf]; done) | (simp [intOf]; omega)
          · have d1 : (mj == -1) = false := by simpa using hm1
            have FN := Lib.hid (show S1.pastAll G mv i lev (l.take (k + 1)) = S1.pastAll G mv i lev (l.take k) from by
              rw [hTK, pastAll_snoc, hmj, if_neg hm1])
            clear hTK hmj hjl
            go_wp2_with (fail)
            go_roundw
            case rel => exact ⟨k + 1, F3, by go_num, by omega, by rw [FN.out]; exact HS.out, HB.out⟩
            case measure => first | (simp [intOf]; done) | (simp [intOf]; omega)
        · have hke : l.take k = l := List.take_of_length_le (by rw [HL3.out]; omega)
          rw [hke] at HS
          have R1 := Lib.hid (show SwIs lo g x (.slice (some ⟨gu, 0, none⟩) N c) (.slice (some ⟨gm, 0, none⟩) N mc) ys mv F3 ((List.range (lev + 1)).foldl (IdxV.relinkL G mv i) s) wr2 from by rw [SN.out]; exact HS.out)
          clear HS
          go_wp2_with (fail)
          go_roundw
          case rel => exact ⟨lev + 1, F3, by go_num, by omega, R1.out, HB.out⟩
          case measure => first | (simp [intOf]; done) | (simp [intOf]; omega)
    · have hle : lev = nl := by omega
      subst hle
      have R1 := Lib.hid (show SwIs lo g x (.slice (some ⟨gu, 0, none⟩) N c) (.slice (some ⟨gm, 0, none⟩) N mc) ys mv F1 (s.relink G mv i) wr from by
        unfold IdxV.relink
        rw [HLV.out]
        exact HS.out)
      clear HS
      go_wp2_with (fail)
      go_end0
      exact ⟨rfl, F1, R1.out, HB.out⟩
end

section
open Go.RowKit Go.ChangeShapes Go.WideShapes Go.ChangeAt Go.Maps

/-- Does a node stay? -/
def stayB (keep : List Nat) (n : NodeV) : Bool := decide (n.til = 0) || keep.any (seenB n.frm n.til)
/-- A node without its links. -/
def bareN (n : NodeV) : NodeV := { n with links := List.replicate n.links.length [] }
def natI (l : List Nat) : List Int := l.map fun (v : Nat) => (v : Int)
theorem natI_get (l : List Nat) (i : Nat) (v : Nat) (h : l[i]? = some v) : (natI l).getD i 0 = (v : Int) := by
  unfold natI
  rw [List.getD_eq_getElem?_getD, List.getElem?_map, h]
  rfl
theorem flatI (mv : List Int) : (mv.map fun m => [Value.int .i64 m]).flatten = mv.map (Value.int .i64) := by
  induction mv with
  | nil => rfl
  | cons m l ih => simpa using ih
theorem rowI {lo : Nat} {w : World} {v : Value} {mv : List Int} (h : w.ownsRow lo 3 1 v mv.length (mv.map (Value.int .i64))) : RowC lo w 3 1 v (mv.map fun m => [Value.int .i64 m]) := by
  refine ⟨fun cs hcs => ?_, ?_⟩
  · obtain ⟨m, -, rfl⟩ := List.mem_map.1 hcs
    rfl
  · rw [flatI, List.length_map]
    exact h
theorem rowI_own {lo : Nat} {w : World} {v : Value} {mv : List Int} (h : RowC lo w 3 1 v (mv.map fun m => [Value.int .i64 m])) : w.ownsRow lo 3 1 v mv.length (mv.map (Value.int .i64)) := by
  have h2 := h.2
  rw [flatI, List.length_map] at h2
  exact h2
section
variable {lo g x : Nat} {vo vm vm' : Value} {ys : List NodeL} {mv : List Int} {F : List Nat} {s s' : IdxV} {w w5 : World} {p : Int}
/-- One more is moved. -/
theorem SwIs.movedFin (h : SwIs lo g x vo vm ys mv F s w) (r1 : RowC lo w5 3 1 vm' ((mv.map fun m => [Value.int .i64 m]) ++ [[.int .i64 p]])) (r2 : Kept (ownB vm) w w5) (r3 : Grows w (ownB vm) (ownB vm')) : SwIs lo g x vo vm' ys (mv ++ [p]) F s (w5.setCell ⟨g, 1, none⟩ vm') ∧ Below lo w (w5.setCell ⟨g, 1, none⟩ vm') := by
  have hgl := h.blk.lt
  have hgv : ∀ k, vm.ownBlock = some k → k ≠ g := fun k e hk => by
    subst hk
    exact row_blk8 h.row h.blk (by decide) e
  have kc : Kept (g :: ownB vm) w (w5.setCell ⟨g, 1, none⟩ vm') := (r2.mono (fun b hb => List.mem_cons_of_mem _ hb)).setCell _ _ (.inl (by simp))
  have hb5 : Blk w5 g 98 [vo, vm, .pointer (some ⟨x, 0, none⟩)] := r2.blk h.blk fun hh => hgv g (mem_ownB.1 hh) rfl
  have hold : ∀ b ∈ g :: ownB vm, vo.ownBlock ≠ some b ∧ ∀ y ∈ ys, b ∉ y.bsN := fun b hb => by
    rcases List.mem_cons.1 hb with rfl | hb
    · exact ⟨row_blk8 h.old.1.2 h.blk (by decide), fun y hy hh => h.old_g y hy hh⟩
    · have e := mem_ownB.1 hb
      exact ⟨fun e2 => row_apart8 h.old.1.2 h.row (by decide) b e2 e, fun y hy => h.vmo b e y hy⟩
  have hvm' : ∀ k, vm'.ownBlock = some k → vm.ownBlock = some k ∨ w.heap.size ≤ k := fun k e => by
    rcases r3 k (mem_ownB.2 e) with h4 | h4
    · exact .inl (mem_ownB.1 h4)
    · exact .inr h4
  have hgv' : vm'.ownBlock ≠ some g := fun e => by
    rcases hvm' g e with h4 | h4
    · exact hgv g h4 rfl
    · omega
  refine ⟨⟨hb5.set 1 vm', ⟨RowC.kept h.old.1 kc fun k e hk => (hold k hk).1 e, fun y hy => (h.old.2 y hy).kept kc fun b hb hF => (hold b hF).2 y hy hb⟩, ?_, h.idx.kept kc (fun b hb hF => ?_), Nat.le_trans h.size kc.size, h.gF, h.glo, h.old_g, fun b hb => ?_, fun k e y hy hk => ?_⟩, kc.below (fun b hb => ?_) h.size⟩
  · rw [show (mv.map fun m => [Value.int .i64 m]) ++ [[.int .i64 p]] = (mv ++ [p]).map fun m => [Value.int .i64 m] from by rw [List.map_append]; rfl] at r1
    exact ((Kept.refl [g] w5).setCell _ _ (.inl (by simp))).own (rowI_own r1) fun k e hk => by
      rw [List.mem_singleton] at hk
      subst hk
      exact hgv' e
  · rcases List.mem_cons.1 hb with rfl | hb
    · exact h.gF hF
    · exact (h.far b hF).2.1 (mem_ownB.1 hb)
  · refine ⟨(h.far b hb).1, fun e => ?_, (h.far b hb).2.2⟩
    rcases hvm' b e with h4 | h4
    · exact (h.far b hb).2.1 h4
    · have := (h.idx.lt b hb).2
      omega
  · rcases hvm' k e with h4 | h4
    · exact h.vmo k h4 y hy hk
    · have := ((h.old.2 y hy).bs_lt k hk).2
      omega
  · rcases List.mem_cons.1 hb with rfl | hb
    · exact h.glo
    · exact (World.ownsRow.lt h.row b (mem_ownB.1 hb)).1
end

set_option maxHeartbeats 1600000 in
theorem move1_any (w : World) (b : Nat) (y : NodeL) (la : Option Addr) (ln lc : Nat) (hb : Blk w b 59 [.int .u32 (y.it.id : Int), .slice y.it.pv.1 y.it.pv.2.1 y.it.pv.2.2, .slice y.it.pt.1 y.it.pt.2.1 y.it.pt.2.2, .int .u64 (y.frm : Int), .int .u64 (y.til : Int), .slice la ln lc]) (he : Value.agg y.cells.toArray = .agg #[.int .u32 (y.it.id : Int), .slice y.it.pv.1 y.it.pv.2.1 y.it.pv.2.2, .slice y.it.pt.1 y.it.pt.2.1 y.it.pt.2.2, .int .u64 (y.frm : Int), .int .u64 (y.til : Int), .slice la ln lc]) (v : Nat) :
    Calls Tryz.prog 96 #[.int .u64 (v : Int), .pointer (some ⟨b, 0, none⟩)] w fun e w' => e = .returned (.bool (seenB y.frm y.til v)) ∧ Below w.heap.size w w' := by
  obtain ⟨d0, d1, d2, d3, d4, d5, -⟩ := six_load w _ _ _ _ _ _ _ _ hb
  obtain ⟨z, hz⟩ : ∃ z, seenB y.frm y.til v = z := ⟨_, rfl⟩
  have CH := hthere_any w y v z hz
  rw [he] at CH
  have CT := Lib.hid CH
  rw [hz]
  clear hb he hz CH
  go_enter Tryz.func96, Tryz.ntmps96
  go_wp2_with (fail)
  refine CT.out.mono ?_
  rintro e w2 ⟨rfl, hb2⟩
  have HB := Lib.hid hb2
  clear hb2 d0 d1 d2 d3 d4 d5
  go_wp2
  go_ret
  exact ⟨rfl, HB.out⟩
set_option maxHeartbeats 3200000 in
theorem index64_any (w : World) (b : Nat) (y : NodeL) (la : Option Addr) (ln lc : Nat) (hb : Blk w b 59 [.int .u32 (y.it.id : Int), .slice y.it.pv.1 y.it.pv.2.1 y.it.pv.2.2, .slice y.it.pt.1 y.it.pt.2.1 y.it.pt.2.2, .int .u64 (y.frm : Int), .int .u64 (y.til : Int), .slice la ln lc]) (he : Value.agg y.cells.toArray = .agg #[.int .u32 (y.it.id : Int), .slice y.it.pv.1 y.it.pv.2.1 y.it.pv.2.2, .slice y.it.pt.1 y.it.pt.2.1 y.it.pt.2.2, .int .u64 (y.frm : Int), .int .u64 (y.til : Int), .slice la ln lc]) (ka : Option Addr) (kn kc : Nat) (keep : List Nat) (hk : Reads .u64 w ka kn (natI keep)) :
    Calls Tryz.prog 125 #[.slice ka kn kc, .func (.func 96) #[] #[.pointer (some ⟨b, 0, none⟩)]] w fun e w' => Found (keep.any (seenB y.frm y.til)) e ∧ Below w.heap.size w w' := by
  have HKL := Lib.hid (show keep.length = kn from by have := hk.len; simpa [natI] using this)
  have hsm := hk.small
  have HC := Lib.hid hk.cells
  have HB := Lib.hid hb
  have HE := Lib.hid he
  have HB0 := Lib.hid (Below.refl w.heap.size w)
  clear hk hb he
  go_enter Tryz.func125, Tryz.ntmps125
  go_wp2_with (fail)
  go_loopw [8] (fun s8 wr => ∃ i : Nat, s8 = .int .i64 (i : Int) ∧ i ≤ kn ∧ Hid ((keep.take i).any (seenB y.frm y.til) = false) ∧ Hid (Below w.heap.size w wr)) (fun s8 _ => kn - (intOf s8).toNat)
  case atStart => exact ⟨0, rfl, Nat.zero_le _, rfl, HB0.out⟩
  case round =>
    obtain ⟨i, rfl, hi, HN, HBR⟩ := hrel
    by_cases hc : i < kn
    · obtain ⟨v, hv⟩ : ∃ v, keep[i]? = some v := ⟨_, List.getElem?_eq_getElem (by rw [HKL.out]; exact hc)⟩
      rcases HC.out with h0 | ⟨bb, off, rfl, hlt, hcl⟩
      · omega
      have hcc : wr.cell? ⟨bb, off + i, none⟩ = some (.int .u64 (v : Int)) := by
        rw [HBR.out.cell (p := ⟨bb, off + i, none⟩) hlt, hcl i hc, natI_get keep i v hv]
      obtain ⟨z, hz⟩ : ∃ z, seenB y.frm y.til v = z := ⟨_, rfl⟩
      have CM := move1_any wr b y la ln lc ((Kept.of_below (F := []) HBR.out (Nat.le_refl _)).blk HB.out (by simp)) HE.out v
      rw [hz] at CM
      have CM2 := Lib.hid CM
      have HT := Lib.hid (show (keep.take (i + 1)).any (seenB y.frm y.til) = ((keep.take i).any (seenB y.frm y.til) || z) from by
        rw [List.take_add_one, hv, Option.toList_some, List.any_append]
        simp [hz])
      have HV := Lib.hid hv
      have HZ := Lib.hid hz
      clear hv hcl CM hz
      go_wp2_with (fail)
      refine CM2.out.mono ?_
      rintro e w2 ⟨rfl, hb2⟩
      have R2 := Lib.hid (HBR.out.trans (hb2.mono HBR.out.size))
      clear hb2 CM2 HBR
      cases z with
      | true =>
        go_wp2_with (fail)
        go_ret
        refine ⟨⟨_, rfl, ?_⟩, R2.out⟩
        rw [show keep.any (seenB y.frm y.til) = true from List.any_eq_true.2 ⟨v, List.mem_of_getElem? HV.out, HZ.out⟩]
        simp
      | false =>
        have HN2 := Lib.hid (show (keep.take (i + 1)).any (seenB y.frm y.til) = false from by rw [HT.out, HN.out]; rfl)
        go_wp2_with (fail)
        go_roundw
        case rel => exact ⟨i + 1, by go_num, by omega, HN2.out, R2.out⟩
        case measure => first | (simp [intOf]; done) | (simp [intOf]; omega)
    · have hke : keep.take i = keep := List.take_of_length_le (by rw [HKL.out]; omega)
      rw [hke] at HN
      go_wp2_with (fail)
      go_ret
      exact ⟨⟨_, rfl, by rw [HN.out]; rfl⟩, HBR.out⟩
set_option maxHeartbeats 1600000 in
theorem contains64_any (w : World) (b : Nat) (y : NodeL) (la : Option Addr) (ln lc : Nat) (hb : Blk w b 59 [.int .u32 (y.it.id : Int), .slice y.it.pv.1 y.it.pv.2.1 y.it.pv.2.2, .slice y.it.pt.1 y.it.pt.2.1 y.it.pt.2.2, .int .u64 (y.frm : Int), .int .u64 (y.til : Int), .slice la ln lc]) (he : Value.agg y.cells.toArray = .agg #[.int .u32 (y.it.id : Int), .slice y.it.pv.1 y.it.pv.2.1 y.it.pv.2.2, .slice y.it.pt.1 y.it.pt.2.1 y.it.pt.2.2, .int .u64 (y.frm : Int), .int .u64 (y.til : Int), .slice la ln lc]) (ka : Option Addr) (kn kc : Nat) (keep : List Nat) (hk : Reads .u64 w ka kn (natI keep)) (z : Bool) (hz : keep.any (seenB y.frm y.til) = z) :
    Calls Tryz.prog 97 #[.slice ka kn kc, .func (.func 96) #[] #[.pointer (some ⟨b, 0, none⟩)]] w fun e w' => e = .returned (.bool z) ∧ Below w.heap.size w w' := by
  have CI := Lib.hid (index64_any w b y la ln lc hb he ka kn kc keep hk)
  rw [hz] at CI
  clear hb he hk hz
  go_enter Tryz.func97, Tryz.ntmps97
  go_wp2_with (fail)
  refine CI.out.mono ?_
  rintro e w1 ⟨⟨r, rfl, hr⟩, hb1⟩
  have HB := Lib.hid hb1
  clear hb1
  go_wp2
  go_ret
  exact ⟨rfl, HB.out⟩
def MovePost (lo g x : Nat) (vo : Value) (ys : List NodeL) (mv : List Int) (s : IdxV) (keep : List Nat) (y : NodeL) (w w' : World) : Prop :=
  ∃ vm' F', SwIs lo g x vo vm' ys (mv ++ [if stayB keep y.toV = true then (s.g.L.length : Int) else -1]) F' (if stayB keep y.toV = true then s.add (bareN y.toV) else s) w' ∧ Below lo w w'
end

section
open Go.RowKit Go.ChangeShapes Go.WideShapes Go.ChangeAt Go.Maps

set_option maxRecDepth 100000 in
set_option maxHeartbeats 12800000 in
theorem hswmove_any (w : World) (lo g x : Nat) (vo vm : Value) (ys : List NodeL) (mv : List Int) (F : List Nat) (s : IdxV) (h : SwIs lo g x vo vm ys mv F s w) (y : NodeL) (hy : y ∈ ys) (ka : Option Addr) (kn kc : Nat) (keep : List Nat) (hk : Reads .u64 w ka kn (natI keep)) (hfew : s.g.L.length < 100000) (hmv : mv.length ≤ 100000) (h1 : 1 ≤ y.links.length) (h5 : y.links.length ≤ 5) (hft : y.frm < 18446744073709551616 ∧ y.til < 18446744073709551616) (hN : y.til = 0 → s.g.cutB y.it.id = false) :
    Calls Tryz.prog 53 #[.pointer (some ⟨g, 0, none⟩), .agg y.cells.toArray, .slice ka kn kc] w fun e w' => e = .returned (.tuple #[]) ∧ MovePost lo g x vo ys mv s keep y w w' := by
  have oy := h.old.2 y hy
  obtain ⟨la, ln, lc, hpl, -⟩ := ownsRow_slice oy.lrow
  have he : Value.agg y.cells.toArray = .agg #[.int .u32 (y.it.id : Int), .slice y.it.pv.1 y.it.pv.2.1 y.it.pv.2.2, .slice y.it.pt.1 y.it.pt.2.1 y.it.pt.2.2, .int .u64 (y.frm : Int), .int .u64 (y.til : Int), .slice la ln lc] := by
    show Value.agg #[_, _, _, _, _, y.pl] = _
    rw [hpl]
  obtain ⟨va, vn, vc, rfl, -⟩ := ownsRow_slice h.row
  obtain ⟨wb, hwb⟩ : ∃ wb, w.alloc (.cells #[.int .u32 (y.it.id : Int), .slice y.it.pv.1 y.it.pv.2.1 y.it.pv.2.2, .slice y.it.pt.1 y.it.pt.2.1 y.it.pt.2.2, .int .u64 (y.frm : Int), .int .u64 (y.til : Int), .slice la ln lc] 59) = wb := ⟨_, rfl⟩
  have bb : Below w.heap.size w wb := by rw [← hwb]; exact (Below.refl _ w).alloc (Nat.le_refl _) _
  have D : Blk wb w.heap.size 59 [.int .u32 (y.it.id : Int), .slice y.it.pv.1 y.it.pv.2.1 y.it.pv.2.2, .slice y.it.pt.1 y.it.pt.2.1 y.it.pt.2.2, .int .u64 (y.frm : Int), .int .u64 (y.til : Int), .slice la ln lc] := by rw [← hwb]; exact Blk.new _ _ _
  have DB := Lib.hid D
  have SB := Lib.hid (h.on bb)
  have BLO := Lib.hid (show Below lo w wb from bb.mono h.size)
  have HFL := Lib.hid (fun b (hb : b ∈ F) => (h.idx.lt b hb).2)
  have HE := Lib.hid he
  have HY := Lib.hid hy
  have HFEW := Lib.hid hfew
  have HFT := Lib.hid hft
  have HNO := Lib.hid hN
  obtain ⟨lev, hlev⟩ : ∃ lev : Nat, lev + 1 = y.links.length := ⟨y.links.length - 1, by omega⟩
  have HLEV := Lib.hid (show ((y.links.length : Int) - 1) = (lev : Int) from by omega)
  have hlev4 : lev ≤ 4 := by omega
  obtain ⟨N, hNL⟩ : ∃ N, s.g.L.length = N := ⟨_, rfl⟩
  have HNL := Lib.hid hNL
  have HBN := Lib.hid (show bareN y.toV = nodeN y.it lev y.frm y.til from by
    unfold bareN nodeN NodeL.toV
    rw [hlev])
  have d4 : wb.cell? ⟨w.heap.size, 4, none⟩ = some (.int .u64 (y.til : Int)) := D.cell 4
  have CC := Lib.hid (fun z (hz : keep.any (seenB y.frm y.til) = z) => contains64_any wb w.heap.size y la ln lc D he ka kn kc keep (hk.below (Nat.le_refl _) bb) z hz)
  rw [he]
  clear h hy hk hfew hft hN oy hpl he bb D hlev hNL
  by_cases h0 : y.til = 0
  · have d1 : ((y.til : Int) == 0) = true := by rw [beq_iff_eq]; omega
    have HST := Lib.hid (show stayB keep y.toV = true from by
      unfold stayB
      rw [show y.toV.til = 0 from h0]
      rfl)
    clear h0 CC
    go_enter Tryz.func53, Tryz.ntmps53
    go_wp2_with (first | (rw [hwb]) | fail)
    try rw [hwb]
    clear hwb
    have WB := Lib.hid (Below.refl wb.heap.size wb)
    have HSW := Lib.hid (SB.out.on WB.out)
    have HBW := Lib.hid (BLO.out.trans (WB.out.mono SB.out.size))
    have HS4 := Lib.hid (fun (X : World) (hk : Kept F wb X) => show X.cell? ⟨g, 2, none⟩ = some (.pointer (some ⟨x, 0, none⟩)) ∧ X.cell? ⟨w.heap.size, 0, none⟩ = some (.int .u32 (y.it.id : Int)) ∧ X.cell? ⟨w.heap.size, 1, none⟩ = some (.slice y.it.pv.1 y.it.pv.2.1 y.it.pv.2.2) ∧ X.cell? ⟨w.heap.size, 2, none⟩ = some (.slice y.it.pt.1 y.it.pt.2.1 y.it.pt.2.2) ∧ X.cell? ⟨w.heap.size, 3, none⟩ = some (.int .u64 (y.frm : Int)) ∧ X.cell? ⟨w.heap.size, 4, none⟩ = some (.int .u64 (y.til : Int)) ∧ X.cell? ⟨w.heap.size, 5, none⟩ = some (.slice la ln lc) from
      have e1 := hk.blk HSW.out.blk HSW.out.gF
      have e2 := hk.blk ((Kept.of_below (F := []) WB.out (Nat.le_refl _)).blk DB.out (by simp)) (fun hh => Nat.lt_irrefl _ (HFL.out _ hh))
      ⟨e1.cell 2, e2.cell 0, e2.cell 1, e2.cell 2, e2.cell 3, e2.cell 4, e2.cell 5⟩)
    have s4 := HS4.out wb (Kept.refl _ _)
    have CL := Lib.hid (fun (X : World) (hb : Below wb.heap.size wb X) => show Calls Tryz.prog 98 #[.agg #[.int .u32 (y.it.id : Int), .slice y.it.pv.1 y.it.pv.2.1 y.it.pv.2.2, .slice y.it.pt.1 y.it.pt.2.1 y.it.pt.2.2, .int .u64 (y.frm : Int), .int .u64 (y.til : Int), .slice la ln lc]] X fun e w' => e = .returned (.int .i64 (lev : Int)) ∧ Below X.heap.size X w' from by
      have h9 := (HSW.out.on hb).old.2 y HY.out
      have h8 := hlevel_any X y lo h9.lrow h9.lens h5
      rw [HE.out, HLEV.out] at h8
      exact h8)
    have CA := Lib.hid (fun (X : World) (hb : Below wb.heap.size wb X) => show Calls Tryz.prog 57 #[.pointer (some ⟨x, 0, none⟩), .agg #[.int .u32 (y.it.id : Int), .slice y.it.pv.1 y.it.pv.2.1 y.it.pv.2.2, .slice y.it.pt.1 y.it.pt.2.1 y.it.pt.2.2], .int .i64 (lev : Int), .int .u64 (y.frm : Int), .int .u64 (y.til : Int)] X fun e w' => e = .returned (.int .i64 (N : Int)) ∧ HPost lo x F (s.add (nodeN y.it lev y.frm y.til)) X w' from by
      have h9 := hadd_any X lo x F s (HSW.out.on hb).idx (HSW.out.on hb).size HFEW.out y.it (((HSW.out.on hb).old.2 y HY.out).it.inn (fun _ _ => trivial)) lev (by omega) y.frm y.til HFT.out.1 HFT.out.2 HNO.out
      rw [HNL.out] at h9
      exact h9)
    have FIN := Lib.hid (fun (vm' : Value) (F' : List Nat) (w' : World) (h1 : SwIs lo g x vo vm' ys (mv ++ [(N : Int)]) F' (s.add (nodeN y.it lev y.frm y.til)) w') (h2 : Below lo w w') => show MovePost lo g x vo ys mv s keep y w w' from ⟨vm', F', by
      rw [if_pos HST.out, if_pos HST.out, HNL.out, HBN.out]
      exact h1, h2⟩)
    go_region_held3 (fun X => X.cell? ⟨g, 2, none⟩ = some (.pointer (some ⟨x, 0, none⟩)) ∧ X.cell? ⟨w.heap.size, 0, none⟩ = some (.int .u32 (y.it.id : Int)) ∧ X.cell? ⟨w.heap.size, 1, none⟩ = some (.slice y.it.pv.1 y.it.pv.2.1 y.it.pv.2.2) ∧ X.cell? ⟨w.heap.size, 2, none⟩ = some (.slice y.it.pt.1 y.it.pt.2.1 y.it.pt.2.2) ∧ X.cell? ⟨w.heap.size, 3, none⟩ = some (.int .u64 (y.frm : Int)) ∧ X.cell? ⟨w.heap.size, 4, none⟩ = some (.int .u64 (y.til : Int)) ∧ X.cell? ⟨w.heap.size, 5, none⟩ = some (.slice la ln lc))
      (first
        | with_reducible exact s4
        | with_reducible exact HS4.out _ (Kept.refl _ _).drew
        | with_reducible exact HS4.out _ HK4.out
        | with_reducible exact HS4.out _ HK6.out
        | (go_keep; done))
      (first
        | (go_at_call 98
           go_split_ands
           refine (CL.out wb.drew (Below.refl _ _).drew).mono ?_
           rintro e w4 ⟨rfl, hb4⟩
           have HB4 := Lib.hid ((Below.refl wb.heap.size wb).drew.trans (hb4.mono (Nat.le_refl _)))
           have HK4 := Lib.hid ((Kept.of_below (F := []) HB4.out (Nat.le_refl _)).mono (show ∀ b ∈ ([] : List Nat), b ∈ F from fun b hb => by cases hb))
           clear hb4)
        | (go_at_call 57
           go_split_ands
           refine (CA.out w4 HB4.out).mono ?_
           rintro e w6 ⟨rfl, hp⟩
           have HP6 := Lib.hid hp
           have HK6 := Lib.hid (show Kept F wb w6 from by
             obtain ⟨F6, -, hk6, -⟩ := hp
             exact HK4.out.trans hk6 (Grows.refl _ _))
           clear hp))
    obtain ⟨F2, hs6, hb6⟩ := (HSW.out.on HB4.out).step HP6.out
    have HSQ := Lib.hid hs6
    have HBQ := Lib.hid (HBW.out.trans ((HB4.out.mono HSW.out.size).trans hb6))
    clear hs6 hb6 HS4 CL CA
    have c1 : w6.cell? ⟨g, 1, none⟩ = some (.slice va vn vc) := HSQ.out.blk.cell 1
    have HRW := Lib.hid (rowI HSQ.out.row)
    go_wp2_with (first
      | (at_builtin
         refine app_c (cs := [.int .i64 (N : Int)]) w6 ?_ (.tmp 34) (.tmp 36) 62 ?_ Tryz.underlying62 (.int .i64 0) 8 int_info11 rfl (by decide) ?_ ?_ HRW.out ?_ ?_ ?_ ?_ ?_ ?_
         · rfl
         · rfl
         · rfl
         · rfl
         · rfl
         · simp [Value.oneCell']
         · exact HSQ.out.size
         · rw [List.length_map]; omega
         · rw [List.length_map]; omega
         intro v5 w5 r1 r2 r3
         have RF := Lib.hid (HSQ.out.movedFin r1 r2 r3)
         have B5 := r2.blk HSQ.out.blk (fun hh => row_blk8 HSQ.out.row HSQ.out.blk (by decide) (mem_ownB.1 hh))
         have g1 : w5.cell? ⟨g, 1, none⟩ = some (.slice va vn vc) := B5.cell 1
         have g2 := B5.frozen 1
         obtain ⟨a5, n5, c5, rfl, -⟩ := ownsRow_slice r1.2
         clear r1 r2 r3 B5 c1)
      | fail)
    go_end0
    exact ⟨rfl, FIN.out _ _ _ RF.out.1 (HBQ.out.trans RF.out.2)⟩
  · have d1 : ((y.til : Int) == 0) = false := by rw [beq_eq_false_iff_ne]; omega
    obtain ⟨z, hz⟩ : ∃ z, keep.any (seenB y.frm y.til) = z := ⟨_, rfl⟩
    have CC1 := Lib.hid (CC.out z hz)
    have HST0 := Lib.hid (show stayB keep y.toV = z from by
      unfold stayB
      rw [show decide (y.toV.til = 0) = false from decide_eq_false h0, Bool.false_or]
      exact hz)
    clear CC hz h0
    go_enter Tryz.func53, Tryz.ntmps53
    go_wp2_with (first | (rw [hwb]) | fail)
    try rw [hwb]
    clear hwb
    try go_wp2_with (fail)
    refine CC1.out.mono ?_
    rintro e wd ⟨rfl, hbd⟩
    have WB := Lib.hid hbd
    clear hbd CC1 d4
    cases z with
    | true =>
      have HST := Lib.hid HST0.out
      go_wp2_with (fail)
      have HSW := Lib.hid (SB.out.on WB.out)
      have HBW := Lib.hid (BLO.out.trans (WB.out.mono SB.out.size))
      have HS4 := Lib.hid (fun (X : World) (hk : Kept F wd X) => show X.cell? ⟨g, 2, none⟩ = some (.pointer (some ⟨x, 0, none⟩)) ∧ X.cell? ⟨w.heap.size, 0, none⟩ = some (.int .u32 (y.it.id : Int)) ∧ X.cell? ⟨w.heap.size, 1, none⟩ = some (.slice y.it.pv.1 y.it.pv.2.1 y.it.pv.2.2) ∧ X.cell? ⟨w.heap.size, 2, none⟩ = some (.slice y.it.pt.1 y.it.pt.2.1 y.it.pt.2.2) ∧ X.cell? ⟨w.heap.size, 3, none⟩ = some (.int .u64 (y.frm : Int)) ∧ X.cell? ⟨w.heap.size, 4, none⟩ = some (.int .u64 (y.til : Int)) ∧ X.cell? ⟨w.heap.size, 5, none⟩ = some (.slice la ln lc) from
        have e1 := hk.blk HSW.out.blk HSW.out.gF
        have e2 := hk.blk ((Kept.of_below (F := []) WB.out (Nat.le_refl _)).blk DB.out (by simp)) (fun hh => Nat.lt_irrefl _ (HFL.out _ hh))
        ⟨e1.cell 2, e2.cell 0, e2.cell 1, e2.cell 2, e2.cell 3, e2.cell 4, e2.cell 5⟩)
      have s4 := HS4.out wd (Kept.refl _ _)
      have CL := Lib.hid (fun (X : World) (hb : Below wd.heap.size wd X) => show Calls Tryz.prog 98 #[.agg #[.int .u32 (y.it.id : Int), .slice y.it.pv.1 y.it.pv.2.1 y.it.pv.2.2, .slice y.it.pt.1 y.it.pt.2.1 y.it.pt.2.2, .int .u64 (y.frm : Int), .int .u64 (y.til : Int), .slice la ln lc]] X fun e w' => e = .returned (.int .i64 (lev : Int)) ∧ Below X.heap.size X w' from by
        have h9 := (HSW.out.on hb).old.2 y HY.out
        have h8 := hlevel_any X y lo h9.lrow h9.lens h5
        rw [HE.out, HLEV.out] at h8
        exact h8)
      have CA := Lib.hid (fun (X : World) (hb : Below wd.heap.size wd X) => show Calls Tryz.prog 57 #[.pointer (some ⟨x, 0, none⟩), .agg #[.int .u32 (y.it.id : Int), .slice y.it.pv.1 y.it.pv.2.1 y.it.pv.2.2, .slice y.it.pt.1 y.it.pt.2.1 y.it.pt.2.2], .int .i64 (lev : Int), .int .u64 (y.frm : Int), .int .u64 (y.til : Int)] X fun e w' => e = .returned (.int .i64 (N : Int)) ∧ HPost lo x F (s.add (nodeN y.it lev y.frm y.til)) X w' from by
        have h9 := hadd_any X lo x F s (HSW.out.on hb).idx (HSW.out.on hb).size HFEW.out y.it (((HSW.out.on hb).old.2 y HY.out).it.inn (fun _ _ => trivial)) lev (by omega) y.frm y.til HFT.out.1 HFT.out.2 HNO.out
        rw [HNL.out] at h9
        exact h9)
      have FIN := Lib.hid (fun (vm' : Value) (F' : List Nat) (w' : World) (h1 : SwIs lo g x vo vm' ys (mv ++ [(N : Int)]) F' (s.add (nodeN y.it lev y.frm y.til)) w') (h2 : Below lo w w') => show MovePost lo g x vo ys mv s keep y w w' from ⟨vm', F', by
        rw [if_pos HST.out, if_pos HST.out, HNL.out, HBN.out]
        exact h1, h2⟩)
      go_region_held3 (fun X => X.cell? ⟨g, 2, none⟩ = some (.pointer (some ⟨x, 0, none⟩)) ∧ X.cell? ⟨w.heap.size, 0, none⟩ = some (.int .u32 (y.it.id : Int)) ∧ X.cell? ⟨w.heap.size, 1, none⟩ = some (.slice y.it.pv.1 y.it.pv.2.1 y.it.pv.2.2) ∧ X.cell? ⟨w.heap.size, 2, none⟩ = some (.slice y.it.pt.1 y.it.pt.2.1 y.it.pt.2.2) ∧ X.cell? ⟨w.heap.size, 3, none⟩ = some (.int .u64 (y.frm : Int)) ∧ X.cell? ⟨w.heap.size, 4, none⟩ = some (.int .u64 (y.til : Int)) ∧ X.cell? ⟨w.heap.size, 5, none⟩ = some (.slice la ln lc))
        (first
          | with_reducible exact s4
          | with_reducible exact HS4.out _ (Kept.refl _ _).drew
          | with_reducible exact HS4.out _ HK4.out
          | with_reducible exact HS4.out _ HK6.out
          | (go_keep; done))
        (first
          | (go_at_call 98
             go_split_ands
             refine (CL.out wd.drew (Below.refl _ _).drew).mono ?_
             rintro e w4 ⟨rfl, hb4⟩
             have HB4 := Lib.hid ((Below.refl wd.heap.size wd).drew.trans (hb4.mono (Nat.le_refl _)))
             have HK4 := Lib.hid ((Kept.of_below (F := []) HB4.out (Nat.le_refl _)).mono (show ∀ b ∈ ([] : List Nat), b ∈ F from fun b hb => by cases hb))
             clear hb4)
          | (go_at_call 57
             go_split_ands
             refine (CA.out w4 HB4.out).mono ?_
             rintro e w6 ⟨rfl, hp⟩
             have HP6 := Lib.hid hp
             have HK6 := Lib.hid (show Kept F wd w6 from by
               obtain ⟨F6, -, hk6, -⟩ := hp
               exact HK4.out.trans hk6 (Grows.refl _ _))
             clear hp))
      obtain ⟨F2, hs6, hb6⟩ := (HSW.out.on HB4.out).step HP6.out
      have HSQ := Lib.hid hs6
      have HBQ := Lib.hid (HBW.out.trans ((HB4.out.mono HSW.out.size).trans hb6))
      clear hs6 hb6 HS4 CL CA
      have c1 : w6.cell? ⟨g, 1, none⟩ = some (.slice va vn vc) := HSQ.out.blk.cell 1
      have HRW := Lib.hid (rowI HSQ.out.row)
      go_wp2_with (first
        | (at_builtin
           refine app_c (cs := [.int .i64 (N : Int)]) w6 ?_ (.tmp 34) (.tmp 36) 62 ?_ Tryz.underlying62 (.int .i64 0) 8 int_info11 rfl (by decide) ?_ ?_ HRW.out ?_ ?_ ?_ ?_ ?_ ?_
           · rfl
           · rfl
           · rfl
           · rfl
           · rfl
           · simp [Value.oneCell']
           · exact HSQ.out.size
           · rw [List.length_map]; omega
           · rw [List.length_map]; omega
           intro v5 w5 r1 r2 r3
           have RF := Lib.hid (HSQ.out.movedFin r1 r2 r3)
           have B5 := r2.blk HSQ.out.blk (fun hh => row_blk8 HSQ.out.row HSQ.out.blk (by decide) (mem_ownB.1 hh))
           have g1 : w5.cell? ⟨g, 1, none⟩ = some (.slice va vn vc) := B5.cell 1
           have g2 := B5.frozen 1
           obtain ⟨a5, n5, c5, rfl, -⟩ := ownsRow_slice r1.2
           clear r1 r2 r3 B5 c1)
        | fail)
      go_end0
      exact ⟨rfl, FIN.out _ _ _ RF.out.1 (HBQ.out.trans RF.out.2)⟩
    | false =>
      have HSQ := Lib.hid (SB.out.on WB.out)
      have HBQ := Lib.hid (BLO.out.trans (WB.out.mono SB.out.size))
      have FIN := Lib.hid (fun (vm' : Value) (F' : List Nat) (w' : World) (h1 : SwIs lo g x vo vm' ys (mv ++ [(-1 : Int)]) F' s w') (h2 : Below lo w w') => show MovePost lo g x vo ys mv s keep y w w' from ⟨vm', F', by
        rw [if_neg (by rw [HST0.out]; decide), if_neg (by rw [HST0.out]; decide)]
        exact h1, h2⟩)
      have c1 : wd.cell? ⟨g, 1, none⟩ = some (.slice va vn vc) := HSQ.out.blk.cell 1
      have HRW := Lib.hid (rowI HSQ.out.row)
      go_wp2_with (first
        | (at_builtin
           refine app_c (cs := [.int .i64 (-1)]) wd ?_ (.tmp 34) (.tmp 36) 62 ?_ Tryz.underlying62 (.int .i64 0) 8 int_info11 rfl (by decide) ?_ ?_ HRW.out ?_ ?_ ?_ ?_ ?_ ?_
           · rfl
           · rfl
           · rfl
           · rfl
           · rfl
           · simp [Value.oneCell']
           · exact HSQ.out.size
           · rw [List.length_map]; omega
           · rw [List.length_map]; omega
           intro v5 w5 r1 r2 r3
           have RF := Lib.hid (HSQ.out.movedFin r1 r2 r3)
           have B5 := r2.blk HSQ.out.blk (fun hh => row_blk8 HSQ.out.row HSQ.out.blk (by decide) (mem_ownB.1 hh))
           have g1 : w5.cell? ⟨g, 1, none⟩ = some (.slice va vn vc) := B5.cell 1
           have g2 := B5.frozen 1
           obtain ⟨a5, n5, c5, rfl, -⟩ := ownsRow_slice r1.2
           clear r1 r2 r3 B5 c1)
        | fail)
      go_end0
      exact ⟨rfl, FIN.out _ _ _ RF.out.1 (HBQ.out.trans RF.out.2)⟩
end

section
open Go.RowKit Go.ChangeShapes Go.WideShapes Go.ChangeAt Go.Maps

theorem GrS.low {T : TypeId} {m0 : Value × List Value} {okI : Nat → Prop} {w : World} {lo lo' g : Nat} {u : Value} {L : List NodeL} (h : GrS T m0 okI w lo g u L) (hl : lo' ≤ lo) : GrS T m0 okI w lo' g u L :=
  ⟨⟨h.blk, RowC.mono h.rows hl, h.item, Nat.le_trans hl h.glo, h.few⟩, fun y hy => own_on (h.lrow y hy) hl (Below.refl _ _), h.lens, fun y hy k v l h1 h2 => own_on (h.list y hy k v l h1 h2) hl (Below.refl _ _), h.plne, h.lsne, h.okne, h.nums⟩
theorem GraphIs.low {w : World} {lo lo' g : Nat} {F : List Nat} {gv : GraphV} (h : GraphIs w lo g F gv) (hl : lo' ≤ lo) : GraphIs w lo' g F gv := by
  obtain ⟨It, u, L, h1, h2, h3, h4, h5, h6⟩ := h
  exact ⟨It, u, L, h1.low hl, h2, h3, h4, fun b hb => Nat.le_trans hl (h5 b hb), h6⟩
theorem GraphIs.nums {w : World} {lo g : Nat} {F : List Nat} {gv : GraphV} (h : GraphIs w lo g F gv) : gv.m < 256 ∧ ∀ z ∈ gv.L, z.frm < 18446744073709551616 ∧ z.til < 18446744073709551616 := by
  obtain ⟨It, u, L, h1, h2, _, _, _, h6⟩ := h
  refine ⟨h6, fun z hz => ?_⟩
  rw [h2] at hz
  obtain ⟨y, hy, rfl⟩ := List.mem_map.1 hz
  exact h1.nums y hy
theorem StIs.low {w : World} {lo lo' gm : Nat} {g : GraphV} {S : List StS} (h : StIs w lo gm g S) (hl : lo' ≤ lo) : StIs w lo' gm g S := ⟨h.map, fun t ht => RowC.mono (h.row t ht) hl, h.each, h.all⟩
theorem IdxIs.low {w : World} {lo lo' x : Nat} {F : List Nat} {s : IdxV} (h : IdxIs w lo x F s) (hl : lo' ≤ lo) : IdxIs w lo' x F s := by
  obtain ⟨gg, gm, Fg, S, h1, h2, h3, h4, h5, h6, h7⟩ := h
  exact ⟨gg, gm, Fg, S, h1, h2.low hl, h3.low hl, h4, Nat.le_trans hl h5, Nat.le_trans hl h6, h7⟩
/-- Of an Id one node at most is there still. -/
def OneStill (L : List NodeV) : Prop := ∀ (i j : Nat) (a b : NodeV), L[i]? = some a → L[j]? = some b → a.til = 0 → b.til = 0 → a.id = b.id → i = j
theorem IdxIs.oneStill {w : World} {lo x : Nat} {F : List Nat} {s : IdxV} (h : IdxIs w lo x F s) : OneStill s.g.L := by
  obtain ⟨gg, gm, Fg, S, _, _, h3, _⟩ := h
  intro i j a b ha hb a0 b0 e
  obtain ⟨t, ht, rfl⟩ := h3.all i a ha a0
  obtain ⟨u, hu, rfl⟩ := h3.all j b hb b0
  obtain ⟨a', e1, e2, -⟩ := h3.each t ht
  obtain ⟨b', e3, e4, -⟩ := h3.each u hu
  rw [ha] at e1
  rw [hb] at e3
  obtain rfl := Option.some.inj e1
  obtain rfl := Option.some.inj e3
  rw [h3.one ht hu (by rw [← e2, ← e4, e])]
def moveS (keep : List Nat) (t : List Int × IdxV) (n : NodeV) : List Int × IdxV := (t.1 ++ [if stayB keep n = true then (t.2.g.L.length : Int) else -1], if stayB keep n = true then t.2.add (bareN n) else t.2)
def movesF (keep : List Nat) (s0 : IdxV) (l : List NodeV) : List Int × IdxV := l.foldl (moveS keep) ([], s0)
theorem movesF_snoc (keep : List Nat) (s0 : IdxV) (l : List NodeV) (n : NodeV) : movesF keep s0 (l ++ [n]) = moveS keep (movesF keep s0 l) n := by simp [movesF]
/-- What is known of moves. -/
structure MovesOk (keep : List Nat) (s0 : IdxV) (l : List NodeV) : Prop where
  len : (movesF keep s0 l).1.length = l.length
  few : (movesF keep s0 l).2.g.L.length ≤ l.length
  m : (movesF keep s0 l).2.g.m = s0.g.m
  most : (movesF keep s0 l).2.most = s0.most ∧ (movesF keep s0 l).2.width = s0.width
  from_ : ∀ z ∈ (movesF keep s0 l).2.g.L, ∃ n ∈ l, z.id = n.id ∧ z.til = n.til
theorem moves_ok (keep : List Nat) (s0 : IdxV) (h0 : s0.g.L = []) (l : List NodeV) : MovesOk keep s0 l := by
  have key : ∀ k, ∀ l : List NodeV, l.length = k → MovesOk keep s0 l := by
    intro k
    induction k with
    | zero =>
      intro l hl
      obtain rfl := List.eq_nil_of_length_eq_zero hl
      exact ⟨rfl, by show s0.g.L.length ≤ 0; rw [h0]; exact Nat.le_refl _, rfl, ⟨rfl, rfl⟩, fun z hz => by
        have : z ∈ s0.g.L := hz
        rw [h0] at this
        cases this⟩
    | succ k ih =>
      intro l hl
      obtain ⟨l', n, rfl⟩ : ∃ l' n, l = l' ++ [n] := ⟨l.dropLast, l.getLast (by intro e; subst e; simp at hl), (List.dropLast_concat_getLast _).symm⟩
      have h := ih l' (by simpa using hl)
      have e := movesF_snoc keep s0 l' n
      by_cases hs : stayB keep n = true
      · have e2 : movesF keep s0 (l' ++ [n]) = ((movesF keep s0 l').1 ++ [((movesF keep s0 l').2.g.L.length : Int)], (movesF keep s0 l').2.add (bareN n)) := by
          rw [e]
          unfold moveS
          rw [if_pos hs, if_pos hs]
        have e3 : (movesF keep s0 (l' ++ [n])).2.g.L = (movesF keep s0 l').2.g.L ++ [bareN n] := by rw [e2]; rfl
        refine ⟨by rw [e2]; simp [h.len], ?_, by rw [e2]; exact h.m, by rw [e2]; exact h.most, fun z hz => ?_⟩
        · rw [e3]
          simp
          exact h.few
        · rw [e3] at hz
          rcases List.mem_append.1 hz with hz | hz
          · obtain ⟨q, hq, e4⟩ := h.from_ z hz
            exact ⟨q, List.mem_append.2 (.inl hq), e4⟩
          · rw [List.mem_singleton.1 hz]
            exact ⟨n, by simp, rfl, rfl⟩
      · have e2 : movesF keep s0 (l' ++ [n]) = ((movesF keep s0 l').1 ++ [(-1 : Int)], (movesF keep s0 l').2) := by
          rw [e]
          unfold moveS
          rw [if_neg hs, if_neg hs]
        refine ⟨by rw [e2]; simp [h.len], ?_, by rw [e2]; exact h.m, by rw [e2]; exact h.most, fun z hz => ?_⟩
        · rw [e2]
          simp
          exact Nat.le_succ_of_le h.few
        · rw [e2] at hz
          obtain ⟨q, hq, e4⟩ := h.from_ z hz
          exact ⟨q, List.mem_append.2 (.inl hq), e4⟩
  exact key _ l rfl
/-- The next one's Id is not there still. -/
theorem moves_cut {keep : List Nat} {s0 : IdxV} {L : List NodeV} (h0 : s0.g.L = []) (ho : OneStill L) {k : Nat} {n : NodeV} (hn : L[k]? = some n) (ht : n.til = 0) : (movesF keep s0 (L.take k)).2.g.cutB n.id = false := by
  rw [Bool.eq_false_iff]
  intro hc
  obtain ⟨z, hz, hd⟩ := List.any_eq_true.1 hc
  have hd2 := of_decide_eq_true hd
  obtain ⟨q, hq, e1, e2⟩ := (moves_ok keep s0 h0 (L.take k)).from_ z hz
  obtain ⟨i, hi, e⟩ := List.mem_iff_getElem.1 hq
  have hi2 : i < k := by rw [List.length_take] at hi; omega
  have hq2 : L[i]? = some q := by
    rw [List.getElem_take] at e
    have hil : i < L.length := by rw [List.length_take] at hi; omega
    rw [List.getElem?_eq_getElem hil, e]
  have := ho i k q n hq2 hn (by rw [← e2]; exact hd2.2) ht (by rw [← e1]; exact hd2.1)
  omega
/-- Sweep: what is left, and how many went. -/
def IdxV.sweepW (s : IdxV) (keep : List Nat) : Nat := s.g.L.length - (movesF keep (newV s.g.m s.most s.width) s.g.L).2.g.L.length
def IdxV.sweepV (s : IdxV) (keep : List Nat) : IdxV :=
  if s.sweepW keep = 0 then s else (List.range s.g.L.length).foldl (IdxV.relink s.g (movesF keep (newV s.g.m s.most s.width) s.g.L).1) (movesF keep (newV s.g.m s.most s.width) s.g.L).2
theorem link_keeps (s : IdxV) (a b level : Int) : (s.link a b level).g.keys = s.g.keys ∧ (s.link a b level).g.m = s.g.m ∧ (s.link a b level).most = s.most ∧ (s.link a b level).width = s.width ∧ (s.link a b level).entry = s.entry :=
  ⟨(link_keys s.g a b level _).1, (link_keys s.g a b level _).2, rfl, rfl, rfl⟩
/-- A sweep begins. -/
theorem SwIs.init {lo l1 l2 g x : Nat} {vo : Value} {ys : List NodeL} {F : List Nat} {s : IdxV} {w2 w3 w : World} (hb : Blk w g 98 [vo, .slice none 0 0, .pointer (some ⟨x, 0, none⟩)]) (hn : NodesAt l1 w2 vo ys) (h2 : Below w2.heap.size w2 w3) (hi : IdxIs w3 l2 x F s) (hk : Kept [g] w3 w) (hl2 : w2.heap.size ≤ l2) (h1 : lo ≤ l1) (h3 : lo ≤ g) (h4 : lo ≤ w2.heap.size) (hgF : g < l2 ∨ w3.heap.size ≤ g) (hg : g < l1 ∨ w2.heap.size ≤ g) : SwIs lo g x vo (.slice none 0 0) ys [] F s w := by
  have hy : ∀ y ∈ ys, g ∉ y.bsN := fun y hy hh => by
    have := (hn.2 y hy).bs_lt g hh
    omega
  have hv : vo.ownBlock ≠ some g := fun e => by
    have := World.ownsRow.lt hn.1.2 g e
    omega
  have hF : ∀ b ∈ F, b ≠ g := fun b hb e => by
    have := hi.lt b hb
    omega
  refine ⟨hb, ⟨RowC.mono (RowC.kept (RowC.on hn.1 h2) hk fun k e hk => ?_) h1, fun y hm => (((hn.2 y hm).on h2).kept hk fun b hb hh => ?_).low h1⟩, ⟨by simp, .inl ⟨rfl, rfl⟩⟩, (hi.kept hk fun b hb hh => ?_).low (Nat.le_trans h4 hl2), Nat.le_trans h4 (Nat.le_trans h2.size hk.size), fun hh => hF g hh rfl, h3, hy, fun b hb => ⟨fun e => ?_, (fun e => by cases e), fun y hy hh => ?_⟩, (fun k e => by cases e)⟩
  · rw [List.mem_singleton.1 hk] at e
    exact hv e
  · rw [List.mem_singleton.1 hh] at hb
    exact hy y hm hb
  · rw [List.mem_singleton.1 hb] at hh
    exact hF g hh rfl
  · have := (World.ownsRow.lt hn.1.2 b e).2
    have := (hi.lt b hb).1
    omega
  · have := ((hn.2 y hy).bs_lt b hh).2
    have := (hi.lt b hb).1
    omega
/-- A sweep ends: the index is the swept one. -/
theorem IdxIs.swept {lo lo2 x x2 : Nat} {F F2 : List Nat} {s s2 : IdxV} {w0 w : World} (h : IdxIs w0 lo x F s) (hb : Below w0.heap.size w0 w) (h2 : IdxIs w lo2 x2 F2 s2) (hlo : lo ≤ w0.heap.size) (hl2 : w0.heap.size ≤ lo2) (hx2 : x < lo2) :
    ∃ c0 c1 c2 c3 c4 c5, (w.cell? ⟨x2, 0, none⟩ = some c0 ∧ w.cell? ⟨x2, 1, none⟩ = some c1 ∧ w.cell? ⟨x2, 2, none⟩ = some c2 ∧ w.cell? ⟨x2, 3, none⟩ = some c3 ∧ w.cell? ⟨x2, 4, none⟩ = some c4 ∧ w.cell? ⟨x2, 5, none⟩ = some c5) ∧ (∃ d0 d1 d2 d3 d4 d5, Blk w x 87 [d0, d1, d2, d3, d4, d5]) ∧ (∃ gg gm : Nat, ∃ m most width : Nat, ∃ en : Int, c0 = .int .u8 (m : Int) ∧ c1 = .int .i64 (most : Int) ∧ c2 = .int .i64 (width : Int) ∧ c3 = .pointer (some ⟨gg, 0, none⟩) ∧ c4 = .int .i64 en ∧ c5 = .map (some gm)) ∧
      HPost lo x F s2 w0 ((((((w.setCell ⟨x, 0, none⟩ c0).setCell ⟨x, 1, none⟩ c1).setCell ⟨x, 2, none⟩ c2).setCell ⟨x, 3, none⟩ c3).setCell ⟨x, 4, none⟩ c4).setCell ⟨x, 5, none⟩ c5) := by
  have hw0 := h.on hb
  have hxl := h.lt x (by obtain ⟨_, _, _, _, _, _, _, e, _⟩ := h; rw [e]; simp)
  have hxF : x ∈ F := by obtain ⟨_, _, _, _, _, _, _, e, _⟩ := h; rw [e]; simp
  obtain ⟨gg', gm', Fg', S', b1, -⟩ := hw0
  have hlt2 := h2.lt
  obtain ⟨gg, gm, Fg, S, e1, e2, e3, rfl, e5, e6, e7, e8, e9, e10, e11⟩ := h2
  refine ⟨_, _, _, _, _, _, ⟨e1.cell 0, e1.cell 1, e1.cell 2, e1.cell 3, e1.cell 4, e1.cell 5⟩, ⟨_, _, _, _, _, _, b1⟩, ⟨gg, gm, s2.g.m, s2.most, s2.width, s2.entry, rfl, rfl, rfl, rfl, rfl, rfl⟩, ?_⟩
  generalize hw9 : ((((((w.setCell ⟨x, 0, none⟩ (.int .u8 (s2.g.m : Int))).setCell ⟨x, 1, none⟩ (.int .i64 (s2.most : Int))).setCell ⟨x, 2, none⟩ (.int .i64 (s2.width : Int))).setCell ⟨x, 3, none⟩ (.pointer (some ⟨gg, 0, none⟩))).setCell ⟨x, 4, none⟩ (.int .i64 s2.entry)).setCell ⟨x, 5, none⟩ (.map (some gm))) = w9
  have k9 : Kept [x] w w9 := by
    rw [← hw9]
    exact ((((((Kept.refl [x] w).setCell _ _ (.inl (by simp))).setCell _ _ (.inl (by simp))).setCell _ _ (.inl (by simp))).setCell _ _ (.inl (by simp))).setCell _ _ (.inl (by simp))).setCell _ _ (.inl (by simp))
  have hb9 : Blk w9 x 87 (idxC s2.g.m s2.most s2.width gg s2.entry gm) := by
    rw [← hw9]
    exact (((((b1.set 0 (.int .u8 (s2.g.m : Int))).set 1 (.int .i64 (s2.most : Int))).set 2 (.int .i64 (s2.width : Int))).set 3 (.pointer (some ⟨gg, 0, none⟩))).set 4 (.int .i64 s2.entry)).set 5 (.map (some gm))
  have hx : ∀ b, lo2 ≤ b → b ≠ x := fun b hb e => by omega
  have hge : ∀ b ∈ Fg, lo2 ≤ b := fun b hb => (hlt2 b (by simp [hb])).1
  have hgS : ∀ b ∈ fpS S, lo2 ≤ b := fun b hb => (hlt2 b (by simp [hb])).1
  have hll : lo ≤ lo2 := Nat.le_trans hlo hl2
  refine ⟨x :: gm :: (Fg ++ fpS S), ⟨gg, gm, Fg, S, hb9, (e2.kept k9 fun b hb hF => ?_).low hll, (e3.kept k9 (fun hh => ?_) fun b hb hh => ?_).low hll, rfl, hxl.1, Nat.le_trans hll e6, fun hh => hx x (hge x hh) rfl, e8, e9, e10, e11⟩, ?_, ?_⟩
  · rw [List.mem_singleton.1 hb] at hF
    exact hx x (hge x hF) rfl
  · exact hx gm e6 (List.mem_singleton.1 hh)
  · rw [List.mem_singleton.1 hh] at hb
    exact hx x (hgS x hb) rfl
  · exact ((Kept.of_below (F := []) hb (Nat.le_refl _)).mono (by simp)).trans (k9.mono (fun b hb => by rw [List.mem_singleton.1 hb]; exact hxF)) (Grows.refl _ _)
  · intro b hb
    simp only [List.mem_cons, List.mem_append] at hb
    rcases hb with rfl | rfl | hb | hb
    · exact .inl hxF
    · exact .inr (Nat.le_trans hl2 e6)
    · exact .inr (Nat.le_trans hl2 (hge b hb))
    · exact .inr (Nat.le_trans hl2 (hgS b hb))
end

section
open Go.RowKit Go.ChangeShapes Go.WideShapes Go.ChangeAt Go.Maps

theorem chain3_kept {g : Nat} {W : World} (v0 v1 v2 : Value) : Kept [g] W (((W.setCell ⟨g, 0, none⟩ v0).setCell ⟨g, 1, none⟩ v1).setCell ⟨g, 2, none⟩ v2) := (((Kept.refl [g] W).setCell _ _ (.inl (by simp))).setCell _ _ (.inl (by simp))).setCell _ _ (.inl (by simp))
theorem chain3_below {g : Nat} {w W : World} (h : Below w.heap.size w W) (hg : w.heap.size ≤ g) (v0 v1 v2 : Value) : Below w.heap.size w (((W.setCell ⟨g, 0, none⟩ v0).setCell ⟨g, 1, none⟩ v1).setCell ⟨g, 2, none⟩ v2) := h.trans ((chain3_kept v0 v1 v2).below (fun b hb => by rw [List.mem_singleton.1 hb]; exact hg) h.size)
theorem chain3_blk {g : Nat} {W : World} {t : TypeId} {c0 c1 c2 : Value} (h : Blk W g t [c0, c1, c2]) (v0 v1 v2 : Value) : Blk (((W.setCell ⟨g, 0, none⟩ v0).setCell ⟨g, 1, none⟩ v1).setCell ⟨g, 2, none⟩ v2) g t [v0, v1, v2] := ((h.set 0 v0).set 1 v1).set 2 v2
set_option maxRecDepth 100000 in
set_option maxHeartbeats 25600000 in
theorem hsweep_any (w : World) (lo x : Nat) (F : List Nat) (s : IdxV) (h : IdxIs w lo x F s) (hlo : lo ≤ w.heap.size) (hf : s.g.L.length ≤ 100000) (ka : Option Addr) (kn kc : Nat) (keep : List Nat) (hk : Reads .u64 w ka kn (natI keep)) :
    Calls Tryz.prog 22 #[.pointer (some ⟨x, 0, none⟩), .slice ka kn kc] w fun e w' => e = .returned (.int .i64 (s.sweepW keep : Int)) ∧ HPost lo x F (s.sweepV keep) w w' := by
  have hnums := (show s.g.m < 256 ∧ ∀ z ∈ s.g.L, z.frm < 18446744073709551616 ∧ z.til < 18446744073709551616 from by
    obtain ⟨_, _, _, _, _, h2, _⟩ := h
    exact h2.nums)
  have HNUM := Lib.hid hnums
  have HR := Lib.hid h.right
  have HO := Lib.hid h.oneStill
  have HK := Lib.hid hk
  have HH := Lib.hid h
  have HLO := Lib.hid hlo
  have HF := Lib.hid hf
  have HRF := Lib.hid (HPost.refl h)
  obtain ⟨N, hN⟩ : ∃ N, s.g.L.length = N := ⟨_, rfl⟩
  have HN := Lib.hid hN
  have hN5 : N ≤ 100000 := by omega
  obtain ⟨MM, hMM⟩ : ∃ MM, s.g.m = MM := ⟨_, rfl⟩
  obtain ⟨mo, hmo⟩ : ∃ mo, s.most = mo := ⟨_, rfl⟩
  obtain ⟨wi, hwi⟩ : ∃ wi, s.width = wi := ⟨_, rfl⟩
  obtain ⟨S0, hS0⟩ : ∃ S0, newV MM mo wi = S0 := ⟨_, rfl⟩
  have HS0 := Lib.hid (show newV s.g.m s.most s.width = S0 from by rw [hMM, hmo, hwi, hS0])
  have HS0L := Lib.hid (show S0.g.L = [] from by rw [← hS0]; rfl)
  have HXB := Lib.hid (show ∃ gg gm : Nat, Blk w x 87 [.int .u8 (MM : Int), .int .i64 (mo : Int), .int .i64 (wi : Int), .pointer (some ⟨gg, 0, none⟩), .int .i64 s.entry, .map (some gm)] ∧ (1 ≤ mo ∧ mo ≤ 8) ∧ (1 ≤ wi ∧ wi ≤ 256) from by
    obtain ⟨gg, gm, _, _, h1, _, _, _, _, _, _, _, _, h9, h10⟩ := h
    rw [← hMM, ← hmo, ← hwi]
    exact ⟨gg, gm, h1, h9, h10⟩)
  have HS := Lib.hid (fun (X : World) (hb : Below w.heap.size w X) => show X.cell? ⟨x, 0, none⟩ = some (.int .u8 (MM : Int)) ∧ X.cell? ⟨x, 1, none⟩ = some (.int .i64 (mo : Int)) ∧ X.cell? ⟨x, 2, none⟩ = some (.int .i64 (wi : Int)) from by
    obtain ⟨gg, gm, h1, -⟩ := HXB.out
    have h2 := (Kept.of_below (F := []) hb (Nat.le_refl _)).blk h1 (by simp)
    exact ⟨h2.cell 0, h2.cell 1, h2.cell 2⟩)
  have CN := Lib.hid (fun (X : World) (hb : Below w.heap.size w X) => show Calls Tryz.prog 16 #[.pointer (some ⟨x, 0, none⟩)] X fun e w' => ∃ gn ys, e = .returned (.slice (some ⟨gn, 0, none⟩) N N) ∧ NodesAt X.heap.size w' (.slice (some ⟨gn, 0, none⟩) N N) ys ∧ ys.map NodeL.toV = s.g.L ∧ Below X.heap.size X w' from by
    have h9 := hnodes_any X lo x F s (HH.out.on hb) HF.out
    rw [HN.out] at h9
    exact h9)
  have CW := Lib.hid (fun (X : World) => show Calls Tryz.prog 52 #[.int .u8 (MM : Int), .int .i64 (mo : Int), .int .i64 (wi : Int)] X fun e w' => ∃ x F, e = .returned (.pointer (some ⟨x, 0, none⟩)) ∧ IdxIs w' X.heap.size x F S0 ∧ Below X.heap.size X w' from by
    obtain ⟨gg, gm, -, h9, h10⟩ := HXB.out
    have h8 := hwithout_any X MM mo wi (by rw [← hMM]; exact HNUM.out.1) h9 h10
    rw [hS0] at h8
    exact h8)
  have s0 := HS.out w (Below.refl _ _)
  have HB0 := Lib.hid (Below.refl w.heap.size w)
  clear h hk hf hlo hN hMM hmo hwi hS0 hnums
  go_enter Tryz.func22, Tryz.ntmps22
  go_upto_region 1 with fail
  go_cut [5] (fun s5 wx => ∃ (g x2 gn : Nat) (ys : List NodeL) (F2 : List Nat), s5 = .pointer (some ⟨g, 0, none⟩) ∧ Hid (SwIs w.heap.size g x2 (.slice (some ⟨gn, 0, none⟩) N N) (.slice none 0 0) ys [] F2 S0 wx) ∧ Hid (ys.map NodeL.toV = s.g.L) ∧ Hid (Below w.heap.size w wx))
  case first =>
    go_region_held3 (fun X => X.cell? ⟨x, 0, none⟩ = some (.int .u8 (MM : Int)) ∧ X.cell? ⟨x, 1, none⟩ = some (.int .i64 (mo : Int)) ∧ X.cell? ⟨x, 2, none⟩ = some (.int .i64 (wi : Int)))
      (first
        | with_reducible exact s0
        | with_reducible exact HS.out _ HB0.out.drew
        | with_reducible exact HS.out _ (HB0.out.alloc (Nat.le_refl _) _).drew
        | with_reducible exact HS.out _ (HB0.out.alloc (Nat.le_refl _) _)
        | with_reducible exact HS.out _ HB2.out
        | with_reducible exact HS.out _ (HB2.out.alloc HB2.out.size _)
        | with_reducible exact HS.out _ HB3.out
        | with_reducible exact HS.out _ (HB3.out.alloc HB3.out.size _)
        | with_reducible exact HS.out _ (chain3_below HB3.out (Nat.le_refl _) _ _ _)
        | with_reducible exact HS.out _ (chain3_below HB3.out HB2.out.size _ _ _)
        | with_reducible exact HS.out _ (chain3_below (HB3.out.alloc HB3.out.size _) HB3.out.size _ _ _)
        | (go_keep; done))
      (first
        | (go_at_call 16
           go_split_ands
           (with_reducible refine (CN.out (w.alloc (.cells #[.slice none 0 0, .slice none 0 0, .pointer none] 98)).drew (HB0.out.alloc (Nat.le_refl _) (.cells #[.slice none 0 0, .slice none 0 0, .pointer none] 98)).drew).mono ?_)
           rintro e w2 ⟨gn, ys, rfl, hna, hvv, hb2⟩
           have HNA := Lib.hid hna
           have HVV := Lib.hid hvv
           have HB2 := Lib.hid (((HB0.out.alloc (Nat.le_refl _) (.cells #[.slice none 0 0, .slice none 0 0, .pointer none] 98)).drew).trans (hb2.mono (show w.heap.size ≤ (w.alloc (.cells #[.slice none 0 0, .slice none 0 0, .pointer none] 98)).heap.size from by simp)))
           have NB2 := Lib.hid ((Kept.of_below (F := []) hb2 (Nat.le_refl _)).blk (show Blk (w.alloc (.cells #[.slice none 0 0, .slice none 0 0, .pointer none] 98)).drew w.heap.size 98 [.slice none 0 0, .slice none 0 0, .pointer none] from Blk.new w _ _) (by simp))
           have HL1 := Lib.hid (show w.heap.size < (w.alloc (.cells #[.slice none 0 0, .slice none 0 0, .pointer none] 98)).drew.heap.size from by show w.heap.size < (w.alloc (.cells #[.slice none 0 0, .slice none 0 0, .pointer none] 98)).heap.size; simp)
           clear hna hvv hb2)
        | (go_at_call 16
           go_split_ands
           (with_reducible refine (CN.out w.drew HB0.out.drew).mono ?_)
           rintro e w2 ⟨gn, ys, rfl, hna, hvv, hb2⟩
           have HNA := Lib.hid hna
           have HVV := Lib.hid hvv
           have HB2 := Lib.hid (HB0.out.drew.trans hb2)
           clear hna hvv hb2)
        | (go_at_call 52
           go_split_ands
           have NB2' := NB2.out
           (with_reducible refine (CW.out w2).mono ?_)
           rintro e w3 ⟨x2, F2, rfl, hi3, hb3⟩
           have HI3 := Lib.hid hi3
           have NB3 := (Kept.of_below (F := []) hb3 (Nat.le_refl _)).blk NB2' (by simp)
           have HNB := Lib.hid NB3
           have z0 : w3.cell? ⟨w.heap.size, 0, none⟩ = some (.slice none 0 0) := NB3.cell 0
           have z1 : w3.cell? ⟨w.heap.size, 1, none⟩ = some (.slice none 0 0) := NB3.cell 1
           have z2 : w3.cell? ⟨w.heap.size, 2, none⟩ = some (.pointer none) := NB3.cell 2
           have f0 := NB3.frozen 0
           have f1 := NB3.frozen 1
           have f2 := NB3.frozen 2
           have HB23 := Lib.hid hb3
           have HB3 := Lib.hid (HB2.out.trans (hb3.mono HB2.out.size))
           clear hi3 hb3 NB2' NB3)
        | (go_at_call 52
           go_split_ands
           (with_reducible refine (CW.out (w2.alloc (.cells #[.slice none 0 0, .slice none 0 0, .pointer none] 98))).mono ?_)
           rintro e w3 ⟨x2, F2, rfl, hi3, hb3⟩
           have HI3 := Lib.hid hi3
           have NB3 := (Kept.of_below (F := []) hb3 (Nat.le_refl _)).blk (Blk.new w2 98 #[.slice none 0 0, .slice none 0 0, .pointer none]) (by simp)
           have HNB := Lib.hid NB3
           have z0 : w3.cell? ⟨w2.heap.size, 0, none⟩ = some (.slice none 0 0) := NB3.cell 0
           have z1 : w3.cell? ⟨w2.heap.size, 1, none⟩ = some (.slice none 0 0) := NB3.cell 1
           have z2 : w3.cell? ⟨w2.heap.size, 2, none⟩ = some (.pointer none) := NB3.cell 2
           have f0 := NB3.frozen 0
           have f1 := NB3.frozen 1
           have f2 := NB3.frozen 2
           have HB23 := Lib.hid (((Below.refl w2.heap.size w2).alloc (Nat.le_refl _) (.cells #[.slice none 0 0, .slice none 0 0, .pointer none] 98)).trans (hb3.mono (by simp)))
           have HB3 := Lib.hid (HB2.out.trans (HB23.out.mono HB2.out.size))
           clear hi3 hb3 NB3)
        | (go_at_call 52
           go_split_ands
           (with_reducible refine (CW.out w2).mono ?_)
           rintro e w3 ⟨x2, F2, rfl, hi3, hb3⟩
           have HI3 := Lib.hid hi3
           have HB23 := Lib.hid hb3
           have HB3 := Lib.hid (HB2.out.trans (hb3.mono HB2.out.size))
           clear hi3 hb3))
    all_goals
      try go_wp2
      go_meet
      first
        | exact ⟨w.heap.size, x2, gn, ys, F2, rfl, SwIs.init (chain3_blk HNB.out _ _ _) HNA.out HB23.out HI3.out (chain3_kept _ _ _) (Nat.le_refl _) (Nat.le_of_lt HL1.out) (Nat.le_refl _) HB2.out.size (.inl NB2.out.lt) (.inl HL1.out), HVV.out, HB3.out.trans ((chain3_kept _ _ _).below (fun b hb => by rw [List.mem_singleton.1 hb]; exact Nat.le_refl _) HB3.out.size)⟩
        | exact ⟨w2.heap.size, x2, gn, ys, F2, rfl, SwIs.init (chain3_blk HNB.out _ _ _) HNA.out HB23.out HI3.out (chain3_kept _ _ _) (by simp) (Nat.le_refl _) HB2.out.size HB2.out.size (.inl (by simp)) (.inr (Nat.le_refl _)), HVV.out, HB3.out.trans ((chain3_kept _ _ _).below (fun b hb => by rw [List.mem_singleton.1 hb]; exact HB2.out.size) HB3.out.size)⟩
        | exact ⟨w3.heap.size, x2, gn, ys, F2, rfl, SwIs.init (Blk.new w3 _ _) HNA.out HB23.out HI3.out ((Kept.refl _ _).alloc _) (Nat.le_refl _) (Nat.le_refl _) HB3.out.size HB2.out.size (.inr (Nat.le_refl _)) (.inr HB23.out.size), HVV.out, HB3.out.alloc HB3.out.size _⟩
  case rest =>
    obtain ⟨g, x2, gn, ys, F2, rfl, HSI, HVV, HBI⟩ := hcut
    rename World => wi0
    clear s0 HS CN CW HXB
    have HYN := Lib.hid (show ys.length = N from by have := congrArg List.length HVV.out; simpa [HN.out] using this)
    have c0 : wi0.cell? ⟨g, 0, none⟩ = some (.slice (some ⟨gn, 0, none⟩) N N) := HSI.out.blk.cell 0
    go_wp2_with (fail)
    go_loopw [29] (fun s29 wr => ∃ (k : Nat) (vm : Value) (F3 : List Nat), s29 = .int .i64 (k : Int) ∧ k ≤ N ∧ Hid (SwIs w.heap.size g x2 (.slice (some ⟨gn, 0, none⟩) N N) vm ys (movesF keep S0 (s.g.L.take k)).1 F3 (movesF keep S0 (s.g.L.take k)).2 wr) ∧ Hid (Below w.heap.size w wr)) (fun s29 _ => N - (intOf s29).toNat)
    case atStart => exact ⟨0, _, F2, rfl, Nat.zero_le _, HSI.out, HBI.out⟩
    case round =>
      clear c0 HSI HBI
      obtain ⟨k, vm, F3, rfl, hk, HSW, HB⟩ := hrel
      by_cases hkn : k < N
      · obtain ⟨y, hy⟩ : ∃ y, ys[k]? = some y := ⟨_, List.getElem?_eq_getElem (by rw [HYN.out]; exact hkn)⟩
        have hym := List.mem_of_getElem? hy
        obtain ⟨g', c', e', -, -, hrng⟩ := RowC.at HSW.out.old.1 k y.cells (by rw [List.getElem?_map, hy]; rfl)
        have hgg : gn = g' := by
          simp only [Value.slice.injEq, Option.some.injEq, Addr.mk.injEq, and_true] at e'
          exact e'.1
        subst hgg
        obtain ⟨la, ln, lc, hpl, -⟩ := ownsRow_slice (HSW.out.old.2 y hym).lrow
        have q0 : wr.cell? ⟨gn, k * 6, none⟩ = some (.int .u32 (y.it.id : Int)) := by have := hrng 0 _ rfl; rwa [Nat.add_zero] at this
        have q1 : wr.cell? ⟨gn, k * 6 + 1, none⟩ = some (.slice y.it.pv.1 y.it.pv.2.1 y.it.pv.2.2) := hrng 1 _ rfl
        have q2 : wr.cell? ⟨gn, k * 6 + 2, none⟩ = some (.slice y.it.pt.1 y.it.pt.2.1 y.it.pt.2.2) := hrng 2 _ rfl
        have q3 : wr.cell? ⟨gn, k * 6 + 3, none⟩ = some (.int .u64 (y.frm : Int)) := hrng 3 _ rfl
        have q4 : wr.cell? ⟨gn, k * 6 + 4, none⟩ = some (.int .u64 (y.til : Int)) := hrng 4 _ rfl
        have q5 : wr.cell? ⟨gn, k * 6 + 5, none⟩ = some (.slice la ln lc) := by rw [← hpl]; exact hrng 5 _ rfl
        have hGk : s.g.L[k]? = some y.toV := by rw [← HVV.out, List.getElem?_map, hy]; rfl
        have hzm := List.mem_of_getElem? hGk
        have he : Value.agg y.cells.toArray = .agg #[.int .u32 (y.it.id : Int), .slice y.it.pv.1 y.it.pv.2.1 y.it.pv.2.2, .slice y.it.pt.1 y.it.pt.2.1 y.it.pt.2.2, .int .u64 (y.frm : Int), .int .u64 (y.til : Int), .slice la ln lc] := by
          show Value.agg #[_, _, _, _, _, y.pl] = _
          rw [hpl]
        obtain ⟨wv, hwv⟩ : ∃ wv, wr.alloc (.cells #[.int .u32 (y.it.id : Int), .slice y.it.pv.1 y.it.pv.2.1 y.it.pv.2.2, .slice y.it.pt.1 y.it.pt.2.1 y.it.pt.2.2, .int .u64 (y.frm : Int), .int .u64 (y.til : Int), .slice la ln lc] 59) = wv := ⟨_, rfl⟩
        have bv : Below wr.heap.size wr wv := by rw [← hwv]; exact (Below.refl _ _).alloc (Nat.le_refl _) _
        have DV : Blk wv wr.heap.size 59 [.int .u32 (y.it.id : Int), .slice y.it.pv.1 y.it.pv.2.1 y.it.pv.2.2, .slice y.it.pt.1 y.it.pt.2.1 y.it.pt.2.2, .int .u64 (y.frm : Int), .int .u64 (y.til : Int), .slice la ln lc] := by rw [← hwv]; exact Blk.new _ _ _
        obtain ⟨p0, p1, p2, p3, p4, p5, -⟩ := six_load wv _ _ _ _ _ _ _ _ DV
        have HBV := Lib.hid (HB.out.trans (bv.mono HB.out.size))
        have MOK := moves_ok keep S0 HS0L.out (s.g.L.take k)
        have htk : (s.g.L.take k).length = k := by rw [List.length_take, HN.out]; omega
        have CM := hswmove_any wv w.heap.size g x2 _ vm ys _ F3 _ (HSW.out.on bv) y hym ka kn kc keep (HK.out.below (Nat.le_refl _) HBV.out) (by have := MOK.few; omega) (by have := MOK.len; omega) (HR.out.one _ hzm) (HR.out.most _ hzm) (HNUM.out.2 _ hzm) (fun ht => moves_cut HS0L.out HO.out hGk ht)
        rw [he] at CM
        have CM2 := Lib.hid CM
        have FN := Lib.hid (show movesF keep S0 (s.g.L.take (k + 1)) = moveS keep (movesF keep S0 (s.g.L.take k)) y.toV from by
          rw [List.take_add_one, hGk, Option.toList_some, movesF_snoc])
        have hk0 : (0 : Int) ≤ (k : Int) := by omega
        have hk1 : (k : Int) < (N : Int) := by omega
        clear hy hym e' hrng hpl hGk hzm he bv DV MOK htk CM
        go_wp2_with (first | (rw [hwv]) | fail)
        try rw [hwv]
        clear hwv
        try go_wp2_with (fail)
        refine CM2.out.mono ?_
        rintro e w5 ⟨rfl, vm5, F5, hs5, hb5⟩
        have R1 := Lib.hid hs5
        have R2 := Lib.hid (HBV.out.trans hb5)
        clear hs5 hb5 CM2 HSW HB HBV q0 q1 q2 q3 q4 q5 p0 p1 p2 p3 p4 p5 hk0 hk1
        go_wp2_with (fail)
        go_roundw
        case rel => exact ⟨k + 1, vm5, F5, by go_num, by omega, by rw [FN.out]; exact R1.out, R2.out⟩
        case measure => first | (simp [intOf]; done) | (simp [intOf]; omega)
      · have hkN : k = N := by omega
        subst hkN
        rw [List.take_of_length_le (by rw [HN.out]; exact Nat.le_refl _)] at HSW
        have MOK := moves_ok keep S0 HS0L.out s.g.L
        have hml := MOK.len
        have hfw := MOK.few
        have HMV := Lib.hid (show movesF keep (newV s.g.m s.most s.width) s.g.L = movesF keep S0 s.g.L from by rw [HS0.out])
        obtain ⟨mv, hmv⟩ : ∃ mv, (movesF keep S0 s.g.L).1 = mv := ⟨_, rfl⟩
        obtain ⟨S1, hS1⟩ : ∃ S1, (movesF keep S0 s.g.L).2 = S1 := ⟨_, rfl⟩
        rw [hmv, hS1] at HSW
        rw [hmv, HN.out] at hml
        rw [hS1, HN.out] at hfw
        obtain ⟨n1, hn1⟩ : ∃ n1, S1.g.L.length = n1 := ⟨_, rfl⟩
        rw [hn1] at hfw
        obtain ⟨went, hwent⟩ : ∃ went, k - n1 = went := ⟨_, rfl⟩
        have HWE := Lib.hid (show s.sweepW keep = went from by
          unfold IdxV.sweepW
          rw [HMV.out, hS1, hn1, HN.out, hwent])
        have HSV := Lib.hid (show went ≠ 0 → s.sweepV keep = (List.range k).foldl (IdxV.relink s.g mv) S1 from fun hne => by
          unfold IdxV.sweepV
          rw [HWE.out, if_neg hne, HMV.out, hS1, hmv, HN.out])
        have HSZ := Lib.hid (show went = 0 → s.sweepV keep = s from fun hne => by
          unfold IdxV.sweepV
          rw [HWE.out, if_pos hne])
        have hww : IntKind.i64.wrap ((k : Int) - (n1 : Int)) = (went : Int) := by rw [IntKind.wrap_i64]; omega
        have HMLEN := Lib.hid hml
        have CLN := Lib.hid (fun (X : World) (hb : Below wr.heap.size wr X) => show Calls Tryz.prog 29 #[.pointer (some ⟨x2, 0, none⟩)] X fun e w' => e = .returned (.int .i64 (n1 : Int)) ∧ X = w' from by
          have h9 := hlen_any X w.heap.size x2 F3 S1 (HSW.out.on hb).idx
          rw [hn1] at h9
          exact h9)
        have HS7 := Lib.hid (fun (X : World) (hb : Below wr.heap.size wr X) => show X.cell? ⟨g, 0, none⟩ = some (.slice (some ⟨gn, 0, none⟩) k k) ∧ X.cell? ⟨g, 2, none⟩ = some (.pointer (some ⟨x2, 0, none⟩)) from
          ⟨(HSW.out.on hb).blk.cell 0, (HSW.out.on hb).blk.cell 2⟩)
        have s7 := HS7.out wr (Below.refl _ _)
        have g0 : wr.cell? ⟨g, 0, none⟩ = some (.slice (some ⟨gn, 0, none⟩) k k) := s7.1
        clear MOK hml hmv hS1 hn1 hwent
        go_wp2_with (fail)
        go_upto_region 7 with fail
        go_cut [8] (fun s8 wx => s8 = .int .i64 (went : Int) ∧ Hid (Below wr.heap.size wr wx))
        case first =>
          go_region_held3 (fun X => X.cell? ⟨g, 0, none⟩ = some (.slice (some ⟨gn, 0, none⟩) k k) ∧ X.cell? ⟨g, 2, none⟩ = some (.pointer (some ⟨x2, 0, none⟩)))
            (first
              | with_reducible exact s7
              | with_reducible exact HS7.out _ (Below.refl _ _).drew
              | (go_keep; done))
            (first
              | (go_at_call 29
                 go_split_ands
                 refine (CLN.out wr.drew (Below.refl _ _).drew).mono ?_
                 rintro e w8 ⟨rfl, h8⟩
                 have h8' := h8.symm
                 subst h8'))
          all_goals
            try go_wp2
            go_meet
            exact ⟨by first | rfl | (rw [hww]), (Below.refl wr.heap.size wr).drew⟩
        case rest =>
          obtain ⟨rfl, HB8⟩ := hcut
          rename World => w8
          have HSW8 := Lib.hid (HSW.out.on HB8.out)
          have HBW8 := Lib.hid (HB.out.trans (HB8.out.mono HB.out.size))
          clear HSW HB HB8 CLN HS7 s7 g0 hww
          by_cases hw0 : went = 0
          · have d0 : ((went : Int) == 0) = true := by rw [beq_iff_eq]; omega
            have FIN := Lib.hid (show HPost lo x F (s.sweepV keep) w w8 from by
              rw [HSZ.out hw0]
              exact ⟨F, HH.out.on HBW8.out, (Kept.of_below (F := []) HBW8.out (Nat.le_refl _)).mono (fun b hb => by cases hb), Grows.refl _ _⟩)
            have HW0 := Lib.hid hw0
            clear hw0 HSW8
            go_wp2_with (fail)
            go_ret
            exact ⟨by rw [HWE.out, HW0.out]; rfl, FIN.out⟩
          · have d0 : ((went : Int) == 0) = false := by rw [beq_eq_false_iff_ne]; omega
            have g0 : w8.cell? ⟨g, 0, none⟩ = some (.slice (some ⟨gn, 0, none⟩) k k) := HSW8.out.blk.cell 0
            have HNE := Lib.hid hw0
            clear hw0
            go_wp2_with (fail)
            go_loopw [49] (fun s49 wr2 => ∃ (i : Nat) (F4 : List Nat), s49 = .int .i64 (i : Int) ∧ i ≤ k ∧ Hid (SwIs w.heap.size g x2 (.slice (some ⟨gn, 0, none⟩) k k) vm ys mv F4 ((List.range i).foldl (IdxV.relink s.g mv) S1) wr2) ∧ Hid (Below w.heap.size w wr2)) (fun s49 _ => k - (intOf s49).toNat)
            case atStart => exact ⟨0, F3, rfl, Nat.zero_le _, HSW8.out, HBW8.out⟩
            case round =>
              clear g0 HSW8 HBW8
              obtain ⟨i, F4, rfl, hi, HS4, HB4⟩ := hrel
              rename World => wr2
              by_cases hik : i < k
              · have CR := Lib.hid (hrelink_any wr2 w.heap.size g x2 gn k k vm ys mv F4 _ HS4.out s.g HVV.out HR.out HYN.out hN5 HMLEN.out i hik)
                have SN := Lib.hid (show (List.range (i + 1)).foldl (IdxV.relink s.g mv) S1 = ((List.range i).foldl (IdxV.relink s.g mv) S1).relink s.g mv i from by
                  rw [List.range_succ, List.foldl_append]
                  rfl)
                go_wp2_with (fail)
                refine CR.out.mono ?_
                rintro e w9 ⟨rfl, F9, hs9, hb9⟩
                have R1 := Lib.hid hs9
                have R2 := Lib.hid (HB4.out.trans hb9)
                clear hs9 hb9 CR HS4 HB4
                go_wp2_with (fail)
                go_roundw
                case rel => exact ⟨i + 1, F9, by go_num, by omega, by rw [SN.out]; exact R1.out, R2.out⟩
                case measure => first | (simp [intOf]; done) | (simp [intOf]; omega)
              · have hik2 : i = k := by omega
                subst hik2
                have hxw : x < w.heap.size := (HH.out.lt x (by obtain ⟨_, _, _, _, _, _, _, e, _⟩ := HH.out; rw [e]; simp)).2
                obtain ⟨c0, c1, c2, c3, c4, c5, ⟨a0, a1, a2, a3, a4, a5⟩, ⟨d0', d1', d2', d3', d4', d5', DX⟩, ⟨gg, gm, m9, mo9, wi9, en9, rfl, rfl, rfl, rfl, rfl, rfl⟩, HP⟩ := IdxIs.swept HH.out HB4.out HS4.out.idx HLO.out (Nat.le_refl _) hxw
                obtain ⟨W9, hW9⟩ : ∃ W9, ((((((wr2.setCell ⟨x, 0, none⟩ (.int .u8 (m9 : Int))).setCell ⟨x, 1, none⟩ (.int .i64 (mo9 : Int))).setCell ⟨x, 2, none⟩ (.int .i64 (wi9 : Int))).setCell ⟨x, 3, none⟩ (.pointer (some ⟨gg, 0, none⟩))).setCell ⟨x, 4, none⟩ (.int .i64 en9)).setCell ⟨x, 5, none⟩ (.map (some gm))) = W9 := ⟨_, rfl⟩
                rw [hW9] at HP
                have FIN := Lib.hid (show HPost lo x F (s.sweepV keep) w W9 from by
                  rw [HSV.out HNE.out]
                  exact HP)
                have g2 : wr2.cell? ⟨g, 2, none⟩ = some (.pointer (some ⟨x2, 0, none⟩)) := HS4.out.blk.cell 2
                obtain ⟨b0, b1, b2, b3, b4, b5, f0, f1, f2, f3, f4, f5⟩ := six_load wr2 _ _ _ _ _ _ _ _ DX
                clear HP DX HS4 HB4 hxw
                go_wp2_with (first | (rw [hW9]) | fail)
                try rw [hW9]
                try go_wp2_with (fail)
                go_ret
                exact ⟨by rw [HWE.out]; rfl, FIN.out⟩
end
end Go.Proofs.YtadkfedglkhgjaaGreat
