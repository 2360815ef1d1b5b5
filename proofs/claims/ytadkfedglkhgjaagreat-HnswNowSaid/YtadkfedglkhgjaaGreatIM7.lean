/-
  Copies of nodes; neighbours, onLevel, begin, Walk. (Ij, I3, I4, I5 merged.)
-/
import Derived.Test.YtadkfedglkhgjaaGreatIM6
import Derived.Test.YtadkfedglkhgjaaGreatIM5
import Derived.StillTailTactics
namespace Go.Proofs.YtadkfedglkhgjaaGreat
open Go.RowKit

theorem src_of {w : World} {lo : Nat} {t : TypeId} {a : Option Addr} {n c : Nat} {cs : List Value} (h : w.ownsRow lo t 1 (.slice a n c) cs.length cs) : n = cs.length ∧ (a = none → n = 0 ∧ c = 0) ∧ (n = 0 ∨ ∃ b off, a = some ⟨b, off, none⟩ ∧ ∀ i, i < n → w.cell? ⟨b, off + i, none⟩ = cs[i]?) := by
  rcases own_cells1 h with ⟨h1, h2⟩ | ⟨g, c2, h1, _, _, h4, h5⟩
  · simp only [Value.slice.injEq] at h1
    obtain ⟨rfl, rfl, rfl⟩ := h1
    exact ⟨by rw [h2]; rfl, fun _ => ⟨rfl, rfl⟩, .inl rfl⟩
  · simp only [Value.slice.injEq] at h1
    obtain ⟨rfl, rfl, rfl⟩ := h1
    exact ⟨rfl, fun h => (by cases h), .inr ⟨g, 0, rfl, fun i hi => by rw [Nat.zero_add]; exact h5 i hi⟩⟩
theorem lists_info : (Tryz.prog.info? 62).map (fun i => (i.zero, i.size, i.bytes)) = some (some (.slice none 0 0), 1, 24) := by kernel_rfl

set_option maxRecDepth 100000 in
set_option maxHeartbeats 1600000 in
theorem cloneN_any (w : World) (lo : Nat) (v : Value) (l : List Nat) (h : IntsAt lo w v l) (hl : l.length ≤ 1000000) :
    Calls Tryz.prog 117 #[v] w fun e w' => ∃ v', e = .returned v' ∧ Below w.heap.size w w' ∧ IntsAt w.heap.size w' v' l := by
  obtain ⟨a, n, c, rfl, hn⟩ := IntsAt.parts h
  have hs := src_of (cs := intsC l) (by rw [List.length_map]; exact IntsAt.own h)
  have HS := Lib.hid hs
  have hn' : n ≤ 1000000 := by rw [← hn.out]; exact hl
  have HN := Lib.hid (show (intsC l).length = n from by rw [List.length_map]; exact hn.out)
  clear h hs hn hl
  go_enter Tryz.func117, Tryz.ntmps117
  go_wp2_with (at_builtin; go_must (refine app_one w rfl (.const (.slice none 0 0)) (.tmp 3) 62 3 rfl Tryz.underlying62 (.int .i64 0) 8 int_info11 rfl w.heap.size (.slice none 0 0) [] rfl ⟨by simp, .inl ⟨rfl, rfl⟩⟩ a n c (intsC l) rfl HN.out HS.out.2.1 HS.out.2.2 (ints_one l) (by simp; omega) (by simp; omega) (Nat.le_refl _) ?_))
  intro v' w' h1 h2
  have H1 := Lib.hid h1
  have H2 := Lib.hid ((Below.refl w.heap.size w).grown h2 (Nat.le_refl _) (fun k e => by cases e))
  clear h1 h2
  go_wp2
  go_ret
  refine ⟨_, rfl, H2.out, IntsAt.mk ?_⟩
  exact H1.out
set_option maxRecDepth 100000 in
set_option maxHeartbeats 1600000 in
theorem cloneLL_any (w : World) (lo : Nat) (v : Value) (ls : List Value) (h : w.ownsRow lo 62 1 v ls.length ls) (h1 : ∀ u ∈ ls, u.oneCell' = true) (hl : ls.length ≤ 1000) :
    Calls Tryz.prog 130 #[v] w fun e w' => ∃ v', e = .returned v' ∧ Below w.heap.size w w' ∧ w'.ownsRow w.heap.size 62 1 v' ls.length ls := by
  obtain ⟨a, n, c, rfl, hn⟩ := ownsRow_slice h
  have HS := Lib.hid (src_of h)
  have hn' : n ≤ 1000 := by rw [HS.out.1]; exact hl
  have HN := Lib.hid (show ls.length = n from HS.out.1.symm)
  have H1C := Lib.hid h1
  clear h hn hl h1
  go_enter Tryz.func130, Tryz.ntmps130
  go_wp2_with (at_builtin; go_must (refine app_one w rfl (.const (.slice none 0 0)) (.tmp 3) 57 62 rfl Tryz.underlying57 (.slice none 0 0) 24 lists_info rfl w.heap.size (.slice none 0 0) [] rfl ⟨by simp, .inl ⟨rfl, rfl⟩⟩ a n c ls rfl HN.out HS.out.2.1 HS.out.2.2 H1C.out (by simp; omega) (by simp; omega) (Nat.le_refl _) ?_))
  intro v' w' h1 h2
  have H1 := Lib.hid h1
  have H2 := Lib.hid ((Below.refl w.heap.size w).grown h2 (Nat.le_refl _) (fun k e => by cases e))
  clear h1 h2
  go_wp2
  go_ret
  refine ⟨_, rfl, H2.out, ?_⟩
  exact H1.out

/-- A node whose lists are rows of the call's own. -/
structure NodeL.Own (lo : Nat) (w : World) (x : NodeL) : Prop where
  it : x.it.OwnI lo w
  lrow : w.ownsRow lo 62 1 x.pl x.ls.length x.ls
  lens : x.ls.length = x.links.length
  list : ∀ (k : Nat) (v : Value) (l : List Nat), x.ls[k]? = some v → x.links[k]? = some l → IntsAt lo w v l
theorem NodeL.Own.on {lo : Nat} {w w' : World} {x : NodeL} (h : x.Own lo w) (hb : Below w.heap.size w w') : x.Own lo w' :=
  ⟨h.it.on hb, row_on h.lrow hb, h.lens, fun k v l h1 h2 => RowC.on (h.list k v l h1 h2) hb⟩
theorem six_load (w : World) (g : Nat) (c0 c1 c2 c3 c4 c5 : Value) (t : TypeId) (h : Blk w g t [c0, c1, c2, c3, c4, c5]) : w.cell? ⟨g, 0, none⟩ = some c0 ∧ w.cell? ⟨g, 1, none⟩ = some c1 ∧ w.cell? ⟨g, 2, none⟩ = some c2 ∧ w.cell? ⟨g, 3, none⟩ = some c3 ∧ w.cell? ⟨g, 4, none⟩ = some c4 ∧ w.cell? ⟨g, 5, none⟩ = some c5 ∧
    w.frozen? ⟨g, 0, none⟩ = false ∧ w.frozen? ⟨g, 1, none⟩ = false ∧ w.frozen? ⟨g, 2, none⟩ = false ∧ w.frozen? ⟨g, 3, none⟩ = false ∧ w.frozen? ⟨g, 4, none⟩ = false ∧ w.frozen? ⟨g, 5, none⟩ = false :=
  ⟨h.cell 0, h.cell 1, h.cell 2, h.cell 3, h.cell 4, h.cell 5, h.frozen 0, h.frozen 1, h.frozen 2, h.frozen 3, h.frozen 4, h.frozen 5⟩
theorem own_cell1 {w : World} {lo g n c k : Nat} {t : TypeId} {xs : List Value} {u : Value} (h : w.ownsRow lo t 1 (.slice (some ⟨g, 0, none⟩) n c) xs.length xs) (hu : xs[k]? = some u) : w.cell? ⟨g, k, none⟩ = some u := by
  rcases own_cells1 h with ⟨h1, _⟩ | ⟨g', c', h1, _, _, _, h5⟩
  · cases h1
  · cases h1
    rw [h5 k (List.getElem?_eq_some_iff.1 hu).1, hu]
theorem own_frozen {w : World} {lo g n c k m : Nat} {t : TypeId} {xs : List Value} (h : w.ownsRow lo t k (.slice (some ⟨g, 0, none⟩) n c) m xs) (o : Nat) : w.frozen? ⟨g, o, none⟩ = false := by
  rcases h.2 with ⟨h1, _⟩ | ⟨g', cap, cur, h1, _, hh, _⟩
  · cases h1
  · cases h1
    simp [World.frozen?, hh]
theorem node_sz11 : (Tryz.prog.info? 59).map (·.size) = some 6 := by kernel_rfl
theorem six_set {w : World} {g : Nat} {t : TypeId} {z0 z1 z2 z3 z4 z5 : Value} (c0 c1 c2 c3 c4 c5 : Value) (h : Blk w g t [z0, z1, z2, z3, z4, z5]) :
    ((((((w.setCell ⟨g, 0, none⟩ c0).setCell ⟨g, 1, none⟩ c1).setCell ⟨g, 2, none⟩ c2).setCell ⟨g, 3, none⟩ c3).setCell ⟨g, 4, none⟩ c4).setCell ⟨g, 5, none⟩ c5).heap[g]? = some (.cells #[c0, c1, c2, c3, c4, c5] t (0, 0)) ∧ Kept [g] w ((((((w.setCell ⟨g, 0, none⟩ c0).setCell ⟨g, 1, none⟩ c1).setCell ⟨g, 2, none⟩ c2).setCell ⟨g, 3, none⟩ c3).setCell ⟨g, 4, none⟩ c4).setCell ⟨g, 5, none⟩ c5) :=
  ⟨((((((h.set 0 c0).set 1 c1).set 2 c2).set 3 c3).set 4 c4).set 5 c5), ((((((Kept.refl [g] w).setCell _ _ (.inl (by simp))).setCell _ _ (.inl (by simp))).setCell _ _ (.inl (by simp))).setCell _ _ (.inl (by simp))).setCell _ _ (.inl (by simp))).setCell _ _ (.inl (by simp))⟩
/-- What a copy of a node is. -/
def NodePost (x : NodeV) (w : World) (e : Ending) (w' : World) : Prop := ∃ y : NodeL, e = .returned (.agg y.cells.toArray) ∧ y.Own w.heap.size w' ∧ y.toV = x ∧ Below w.heap.size w w'

set_option maxRecDepth 100000 in
set_option maxHeartbeats 6400000 in
theorem cloneNode_any (w : World) (lo : Nat) (x : NodeL) (hit : x.it.In (fun _ => True) w) (hlr : w.ownsRow lo 62 1 x.pl x.ls.length x.ls) (hlens : x.ls.length = x.links.length) (hlist : ∀ (k : Nat) (v : Value) (l : List Nat), x.ls[k]? = some v → x.links[k]? = some l → IntsAt lo w v l) (hll : ∀ l ∈ x.links, l.length ≤ 1000000) (hlv : x.links.length ≤ 5) (hl1 : 1 ≤ x.links.length) :
    Calls Tryz.prog 110 #[.agg x.cells.toArray] w (NodePost x.toV w) := by
  obtain ⟨P, hP⟩ : ∃ P, x.links.length = P := ⟨_, rfl⟩
  obtain ⟨w1, hw1⟩ : ∃ w1, (w.alloc (.cells x.cells.toArray 59)).alloc (.cells #[.int .u32 0, .slice none 0 0, .slice none 0 0, .int .u64 0, .int .u64 0, .slice none 0 0] 59) = w1 := ⟨_, rfl⟩
  have b1 : Below w.heap.size w w1 := by
    rw [← hw1]
    exact ((Below.refl _ w).alloc (Nat.le_refl _) _).alloc (by simp) _
  have D0 : Blk w1 w.heap.size 59 x.cells := by
    rw [← hw1]
    exact (Blk.new w _ x.cells.toArray).alloc _
  have D1 : Blk w1 (w.heap.size + 1) 59 [.int .u32 0, .slice none 0 0, .slice none 0 0, .int .u64 0, .int .u64 0, .slice none 0 0] := by
    rw [← hw1]
    have := Blk.new (w.alloc (.cells x.cells.toArray 59)) 59 #[.int .u32 0, .slice none 0 0, .slice none 0 0, .int .u64 0, .int .u64 0, .slice none 0 0]
    simpa using this
  have hs1 : w1.heap.size = w.heap.size + 2 := by rw [← hw1]; simp
  obtain ⟨q0, q1, q2, q3, q4, q5, f0, f1, f2, f3, f4, f5⟩ := six_load w1 _ _ _ _ _ _ _ _ D0
  have CI := Lib.hid (cloneI_any w1 x.it (ItL.In.stay hit b1.size (fun k _ hk => b1.block k hk) (fun _ h _ => h)))
  have hone : ∀ u ∈ x.ls, u.oneCell' = true := fun u hu => by
    obtain ⟨k, hk⟩ := List.getElem?_of_mem hu
    have hkl : k < x.links.length := by
      rw [← hlens]
      exact (List.getElem?_eq_some_iff.1 hk).1
    obtain ⟨a, n, c, rfl, _⟩ := IntsAt.parts (hlist k u _ hk (List.getElem?_eq_getElem hkl))
    rfl
  obtain ⟨pa, pm, pc, hpl, hpm⟩ := ownsRow_slice hlr
  have CL := Lib.hid (fun (W : World) (hb : Below w.heap.size w W) => cloneLL_any W lo x.pl x.ls (row_on hlr hb) hone (by omega))
  have CN := Lib.hid (fun (W : World) (hb : Below w.heap.size w W) (k : Nat) (v : Value) (l : List Nat) (h1 : x.ls[k]? = some v) (h2 : x.links[k]? = some l) => cloneN_any W lo v l (RowC.on (hlist k v l h1 h2) hb) (hll l (List.mem_of_getElem? h2)))
  have HPT := Lib.hid (fun (k : Nat) (v : Value) (l : List Nat) (h1 : x.ls[k]? = some v) (h2 : x.links[k]? = some l) => IntsAt.parts (hlist k v l h1 h2))
  have HLE := Lib.hid hlens
  have B1 := Lib.hid b1
  have HD0 := Lib.hid D0
  have HD1 := Lib.hid D1
  have HS1 := Lib.hid hs1
  have HX := Lib.hid (show x.toV = ⟨x.it.id, x.it.vec, x.it.tags, x.frm, x.til, x.links⟩ from rfl)
  have HPP := Lib.hid hP
  have hP1 : 1 ≤ P := by omega
  have hP5 : P ≤ 5 := by omega
  rw [hpl] at CL q5
  clear hit hlr hlist hll hlv hl1 hone hpm hlens D0 D1 b1 hs1 hP
  show Calls _ _ #[.agg #[.int .u32 (x.it.id : Int), .slice x.it.pv.1 x.it.pv.2.1 x.it.pv.2.2, .slice x.it.pt.1 x.it.pt.2.1 x.it.pt.2.2, .int .u64 (x.frm : Int), .int .u64 (x.til : Int), x.pl]] _ _
  rw [hpl]
  have hw1' := hw1
  rw [show x.cells.toArray = #[.int .u32 (x.it.id : Int), .slice x.it.pv.1 x.it.pv.2.1 x.it.pv.2.2, .slice x.it.pt.1 x.it.pt.2.1 x.it.pt.2.2, .int .u64 (x.frm : Int), .int .u64 (x.til : Int), .slice pa pm pc] from by rw [← hpl]; rfl] at hw1'
  clear hw1
  go_enter Tryz.func110, Tryz.ntmps110
  go_wp2_with (first | (rw [hw1']) | fail)
  refine CI.out.mono ?_
  rintro e w2 ⟨y, he, hb2, hy, hyi, hyv, hyt⟩
  rw [show y.cells.toArray = #[.int .u32 (y.id : Int), .slice y.pv.1 y.pv.2.1 y.pv.2.2, .slice y.pt.1 y.pt.2.1 y.pt.2.2] from rfl] at he
  subst he
  have hid : y.id = x.it.id := congrArg ItemV.id hyi
  have B2 := Lib.hid (B1.out.trans (hb2.mono B1.out.size))
  have D2 := (Kept.of_below (F := []) hb2 (Nat.le_refl _)).blk HD0.out (by simp)
  have E2 := Lib.hid ((Kept.of_below (F := []) hb2 (Nat.le_refl _)).blk HD1.out (by simp))
  clear q0 q1 q2 q3 q4 q5 f0 f1 f2 f3 f4 f5
  obtain ⟨q0, q1, q2, q3, q4, q5, f0, f1, f2, f3, f4, f5⟩ := six_load w2 _ _ _ _ _ _ _ _ D2
  rw [hpl] at q5
  obtain ⟨wx, hwx⟩ : ∃ wx, ((w2.setCell ⟨w.heap.size, 0, none⟩ (.int .u32 (y.id : Int))).setCell ⟨w.heap.size, 1, none⟩ (.slice y.pv.1 y.pv.2.1 y.pv.2.2)).setCell ⟨w.heap.size, 2, none⟩ (.slice y.pt.1 y.pt.2.1 y.pt.2.2) = wx := ⟨_, rfl⟩
  have kx : Kept [w.heap.size] w2 wx := by
    rw [← hwx]
    exact (((Kept.refl [w.heap.size] w2).setCell _ _ (.inl (by simp))).setCell _ _ (.inl (by simp))).setCell _ _ (.inl (by simp))
  have DX := (show Blk wx w.heap.size 59 [.int .u32 (y.id : Int), .slice y.pv.1 y.pv.2.1 y.pv.2.2, .slice y.pt.1 y.pt.2.1 y.pt.2.2, .int .u64 (x.frm : Int), .int .u64 (x.til : Int), .slice pa pm pc] from by
    rw [← hwx]
    have := ((D2.set 0 (.int .u32 (y.id : Int))).set 1 (.slice y.pv.1 y.pv.2.1 y.pv.2.2)).set 2 (.slice y.pt.1 y.pt.2.1 y.pt.2.2)
    rw [show x.cells = [.int .u32 (x.it.id : Int), .slice x.it.pv.1 x.it.pv.2.1 x.it.pv.2.2, .slice x.it.pt.1 x.it.pt.2.1 x.it.pt.2.2, .int .u64 (x.frm : Int), .int .u64 (x.til : Int), .slice pa pm pc] from by rw [← hpl]; rfl] at this
    exact this)
  have hs1 := HS1.out
  have hs2 := hb2.size
  have hbx : Below w.heap.size w wx := B2.out.trans (kx.below (by simp) B2.out.size)
  have hyo : y.OwnI w.heap.size wx := by
    have h1 := hy.kept kx (fun b hb => by
      have := (hy.lo b hb).1
      simp
      omega)
    exact ⟨h1.hid, own_on h1.vec (by omega) (Below.refl _ _), own_on h1.tags (by omega) (Below.refl _ _), h1.wv, h1.wt, h1.lv, h1.lt⟩
  have EX := Lib.hid (kx.blk E2.out (by simp))
  have YO := Lib.hid hyo
  have HYB := Lib.hid (show ∀ b ∈ y.bs, w.heap.size + 2 ≤ b from fun b hb => by have := (hy.lo b hb).1; omega)
  have BX := Lib.hid hbx
  have HDX := Lib.hid DX
  have HYV := Lib.hid (And.intro hid (And.intro hyv hyt))
  have C2 := Lib.hid (CL.out wx hbx)
  have hsx : w.heap.size + 2 ≤ wx.heap.size := by have := kx.size; omega
  clear hb2 hy hyi hyv hyt D2 kx hbx hyo CI hid HD0 HD1 E2 hs1 hs2
  obtain ⟨-, -, -, -, -, p5, -, -, -, -, -, -⟩ := six_load wx _ _ _ _ _ _ _ _ DX
  clear DX
  go_wp2_with (first | (rw [hwx]) | fail)
  clear q0 q1 q2 q3 q4 q5 f0 f1 f2 f3 f4 f5 hwx
  refine C2.out.mono ?_
  rintro e w3 ⟨v3, rfl, hb3, ho3⟩
  obtain ⟨g3, c3, rfl, hc3, hg3, hg3l⟩ : ∃ g3 c3, v3 = .slice (some ⟨g3, 0, none⟩) P c3 ∧ P ≤ c3 ∧ wx.heap.size ≤ g3 ∧ g3 < w3.heap.size := by
    rcases own_cells1 ho3 with ⟨_, h2⟩ | ⟨g, c, h1, h2, h3, h4, _⟩
    · have h5 := HLE.out
      rw [HPP.out, h2] at h5
      simp at h5
      omega
    · rw [HLE.out, HPP.out] at h1 h2
      exact ⟨g, c, h1, h2, h3, h4⟩
  have D3 := (Kept.of_below (F := []) hb3 (Nat.le_refl _)).blk HDX.out (by simp)
  have E3 := (Kept.of_below (F := []) hb3 (Nat.le_refl _)).blk EX.out (by simp)
  clear p5
  obtain ⟨q0, q1, q2, q3, q4, q5, f0, f1, f2, f3, f4, f5⟩ := six_load w3 _ _ _ _ _ _ _ _ D3
  obtain ⟨wy, hwy⟩ : ∃ wy, w3.setCell ⟨w.heap.size, 5, none⟩ (.slice (some ⟨g3, 0, none⟩) P c3) = wy := ⟨_, rfl⟩
  have ky : Kept [w.heap.size] w3 wy := by
    rw [← hwy]
    exact (Kept.refl [w.heap.size] w3).setCell _ _ (.inl (by simp))
  have hsz3 := hb3.size
  have DY := Lib.hid (show Blk wy w.heap.size 59 [.int .u32 (y.id : Int), .slice y.pv.1 y.pv.2.1 y.pv.2.2, .slice y.pt.1 y.pt.2.1 y.pt.2.2, .int .u64 (x.frm : Int), .int .u64 (x.til : Int), .slice (some ⟨g3, 0, none⟩) P c3] from by
    rw [← hwy]
    exact D3.set 5 _)
  have EY := Lib.hid (ky.blk E3 (by simp))
  have hby : Below w.heap.size w wy := (BX.out.trans (hb3.mono BX.out.size)).trans (ky.below (by simp) (Nat.le_trans BX.out.size hsz3))
  have YY := Lib.hid ((YO.out.on hb3).kept ky (fun b hb => by
    have := HYB.out b hb
    simp
    omega))
  have OY := Lib.hid (show wy.ownsRow (w.heap.size + 2) 62 1 (.slice (some ⟨g3, 0, none⟩) P c3) x.ls.length x.ls from own_on (ky.own ho3 (fun b hb hh => by
    have := (World.ownsRow.lt ho3 b hb).1
    simp at hh
    omega)) hsx (Below.refl _ _))
  have BY := Lib.hid hby
  have hgw : w.heap.size + 2 ≤ g3 := by omega
  clear hb3 ho3 E3 ky hby C2 HDX EX YO hg3 hg3l hsz3
  have p5 : wy.cell? ⟨w.heap.size, 5, none⟩ = some (.slice (some ⟨g3, 0, none⟩) P c3) := DY.out.cell 5
  go_wp2_with (first | (rw [hwy]) | fail)
  clear q0 q1 q2 q3 q4 q5 f0 f1 f2 f3 f4 f5 hwy
  go_loopw [16] (fun s16 wr => ∃ (k : Nat) (xs : List Value), k ≤ P ∧ s16 = .int .i64 (k : Int) ∧ Hid (xs.length = P) ∧ Hid (Blk wr w.heap.size 59 [.int .u32 (y.id : Int), .slice y.pv.1 y.pv.2.1 y.pv.2.2, .slice y.pt.1 y.pt.2.1 y.pt.2.2, .int .u64 (x.frm : Int), .int .u64 (x.til : Int), .slice (some ⟨g3, 0, none⟩) P c3]) ∧
    Hid (wr.ownsRow (w.heap.size + 2) 62 1 (.slice (some ⟨g3, 0, none⟩) P c3) P xs) ∧ Hid (∀ (j : Nat) (u : Value) (l : List Nat), j < k → xs[j]? = some u → x.links[j]? = some l → IntsAt (w.heap.size + 2) wr u l) ∧ Hid (∀ j, k ≤ j → xs[j]? = x.ls[j]?) ∧ Hid (Kept [g3] wy wr)) (fun s16 _ => P - (intOf s16).toNat)
  case atStart =>
    refine ⟨0, x.ls, Nat.zero_le _, rfl, (show x.ls.length = P from by rw [HLE.out, HPP.out]), DY.out, ?_, fun j u l hj => by omega, fun _ _ => rfl, Kept.refl _ _⟩
    have := OY.out
    rw [HLE.out, HPP.out] at this
    exact this
  case round =>
    obtain ⟨k, xs, hk, rfl, HXL, HD, HO, HI, HR, HK⟩ := hrel
    have hBW : Below w.heap.size w wr := BY.out.trans (HK.out.below (fun b hb => by simp at hb; omega) BY.out.size)
    by_cases h1 : k < P
    · obtain ⟨v, hv⟩ : ∃ v, x.ls[k]? = some v := ⟨_, List.getElem?_eq_getElem (by rw [HLE.out, HPP.out]; exact h1)⟩
      obtain ⟨l, hl⟩ : ∃ l, x.links[k]? = some l := ⟨_, List.getElem?_eq_getElem (by rw [HPP.out]; exact h1)⟩
      obtain ⟨va, vn, vc, rfl, -⟩ := HPT.out k v l hv hl
      have hxk : xs[k]? = some (.slice va vn vc) := by rw [HR.out k (Nat.le_refl _), hv]
      have r0 : wr.cell? ⟨g3, k, none⟩ = some (.slice va vn vc) := own_cell1 (by rw [HXL.out]; exact HO.out) hxk
      have q6 : wr.cell? ⟨w.heap.size, 5, none⟩ = some (.slice (some ⟨g3, 0, none⟩) P c3) := HD.out.cell 5
      have bd : Below w.heap.size w wr.drew := hBW.trans ((Below.refl wr.heap.size wr).drew.mono hBW.size)
      have C5 := Lib.hid (CN.out wr.drew bd k _ l hv hl)
      have HS5 := Lib.hid (fun (W : World) (hb : Below wr.drew.heap.size wr.drew W) => show W.cell? ⟨w.heap.size, 5, none⟩ = some (.slice (some ⟨g3, 0, none⟩) P c3) ∧ W.cell? ⟨g3, k, none⟩ = some (.slice va vn vc) ∧ W.frozen? ⟨g3, k, none⟩ = false from
        have hk2 := Kept.of_below (F := []) hb (Nat.le_refl _)
        have ho := hk2.own (w := wr.drew) HO.out (by simp)
        ⟨(hk2.blk (w := wr.drew) HD.out (by simp)).cell 5, own_cell1 (by rw [HXL.out]; exact ho) hxk, own_frozen ho k⟩)
      have HBW := Lib.hid hBW
      have HV := Lib.hid hv
      have HL := Lib.hid hl
      clear hv hl hxk bd hBW
      go_wp2_with (fail)
      go_region_law (rw [if_pos (by rfl)]; go_simp; go_at_call 117; refine C5.out.mono ?_; rintro e w5 ⟨v5, rfl, hb5, hi5⟩; obtain ⟨a5, n5, c5, rfl, -⟩ := IntsAt.parts hi5; obtain ⟨p1, p2, p3⟩ := HS5.out w5 hb5; have H5 := Lib.hid hi5; have HB5 := Lib.hid hb5; clear hi5 hb5)
      all_goals
        go_wp2
        go_roundw
        case rel =>
          have hgl : g3 < wr.heap.size := (World.ownsRow.lt HO.out g3 rfl).2
          have b6 : Below wr.heap.size wr w5 := (Below.refl wr.heap.size wr).drew.trans HB5.out
          have k6 : Kept [g3] wr (w5.setCell ⟨g3, k, none⟩ (.slice a5 n5 c5)) := (Kept.of_below (F := [g3]) b6 (Nat.le_refl _)).setCell _ _ (.inl (by simp))
          have k7 : Kept [g3] w5 (w5.setCell ⟨g3, k, none⟩ (.slice a5 n5 c5)) := (Kept.refl [g3] w5).setCell _ _ (.inl (by simp))
          refine ⟨k + 1, xs.set k (.slice a5 n5 c5), by omega, by go_num, (show (xs.set k _).length = P from by rw [List.length_set]; exact HXL.out), k6.blk HD.out (by simp; omega), own_set ((Kept.of_below (F := []) b6 (Nat.le_refl _)).own HO.out (by simp)) h1 _, fun j u l2 hj hu hl2 => ?_, fun j hj => ?_, HK.out.trans k6 (Grows.refl _ _)⟩
          · rw [List.getElem?_set] at hu
            by_cases hjk : k = j
            · subst hjk
              rw [if_pos rfl, if_pos (by rw [HXL.out]; exact h1)] at hu
              cases hu
              rw [HL.out] at hl2
              cases hl2
              refine RowC.mono (RowC.kept H5.out k7 fun b hb hh => ?_) (lo := wr.drew.heap.size) (show w.heap.size + 2 ≤ wr.heap.size by omega)
              have h8 : wr.heap.size ≤ b := (RowC.lt H5.out b hb).1
              simp at hh
              omega
            · rw [if_neg hjk] at hu
              refine RowC.kept (HI.out j u l2 (by omega) hu hl2) k6 fun b hb hh => ?_
              simp at hh
              subst hh
              exact rows_apart (IntsAt.own (HI.out j u l2 (by omega) hu hl2)) HO.out (by decide) b hb rfl
          · rw [List.getElem?_set, if_neg (by omega)]
            exact HR.out j (by omega)
        case measure => simp [intOf]; omega
    · obtain rfl : k = P := by omega
      have EB := Lib.hid (HK.out.blk EY.out (by simp; omega))
      obtain ⟨q0, q1, q2, q3, q4, q5', f0, f1, f2, f3, f4, f5⟩ := six_load wr _ _ _ _ _ _ _ _ HD.out
      obtain ⟨e0, e1, e2, e3, e4, e5, k0, k1, k2, k3, k4, k5⟩ := six_load wr _ _ _ _ _ _ _ _ EB.out
      clear p5 f0 f1 f2 f3 f4 f5
      have FF := Lib.hid (six_set (.int .u32 (y.id : Int)) (.slice y.pv.1 y.pv.2.1 y.pv.2.2) (.slice y.pt.1 y.pt.2.1 y.pt.2.2) (.int .u64 (x.frm : Int)) (.int .u64 (x.til : Int)) (.slice (some ⟨g3, 0, none⟩) k c3) EB.out)
      go_wp2
      refine bodyPost_ret (results_cell_row rfl _ _ (w.heap.size + 1) 59 #[.int .u32 (y.id : Int), .slice y.pv.1 y.pv.2.1 y.pv.2.2, .slice y.pt.1 y.pt.2.1 y.pt.2.2, .int .u64 (x.frm : Int), .int .u64 (x.til : Int), .slice (some ⟨g3, 0, none⟩) k c3] (0, 0) _ rfl FF.out.1 Tryz.underlying59 rfl node_sz11) rfl ?_
      have kf := FF.out.2
      have hyr : y.OwnI w.heap.size wr := YY.out.kept HK.out fun b hb hh => by
        simp at hh
        subst hh
        have h9 : b ∈ y.bs := hb
        rcases List.mem_append.1 h9 with h9 | h9
        · exact rows_apart YY.out.vec OY.out (by decide) b (mem_ownB.1 h9) rfl
        · exact rows_apart YY.out.tags OY.out (by decide) b (mem_ownB.1 h9) rfl
      refine ⟨⟨y, x.frm, x.til, .slice (some ⟨g3, 0, none⟩) k c3, xs, x.links⟩, rfl, ⟨hyr.kept kf fun b hb hh => ?_, ?_, by rw [HXL.out, HPP.out], fun j u l hu hl => ?_⟩, ?_, ?_⟩
      · have := HYB.out b hb
        simp at hh
        omega
      · show World.ownsRow _ w.heap.size 62 1 (.slice (some ⟨g3, 0, none⟩) k c3) xs.length xs
        rw [HXL.out]
        exact own_on (kf.own HO.out fun b hb hh => by
          have := (World.ownsRow.lt HO.out b hb).1
          simp at hh
          omega) (by omega) (Below.refl _ _)
      · have hjk : j < k := by rw [← HXL.out]; exact (List.getElem?_eq_some_iff.1 hu).1
        have h8 := HI.out j u l hjk hu hl
        refine RowC.mono (RowC.kept h8 kf fun b hb hh => ?_) (lo := w.heap.size + 2) (by omega)
        have := (RowC.lt h8 b hb).1
        simp at hh
        omega
      · show NodeV.mk y.id y.vec y.tags x.frm x.til x.links = _
        rw [HX.out, HYV.out.1, HYV.out.2.1, HYV.out.2.2]
      · exact (BY.out.trans (HK.out.below (fun b hb => by simp at hb; omega) BY.out.size)).trans (kf.below (fun b hb => by simp at hb; omega) (Nat.le_trans BY.out.size HK.out.size))

section
variable {okI : Nat → Prop} {w : World} {lo g m : Nat} {u : Value} {L : List NodeL}
set_option maxRecDepth 100000 in
set_option maxHeartbeats 3200000 in
theorem nbrs_any (h : GrC okI w lo g m u L) (hr : (graphV m L).Right) (i k : Nat) (hi : i < L.length) (hk : k < (graphV m L).lv i) :
    Calls Tryz.prog 78 #[.pointer (some ⟨g, 0, none⟩), .int .i64 (i : Int), .int .i64 (k : Int)] w (PlacesPost ((graphV m L).nbrs i k) w) := by
  obtain ⟨x, gu, cu, hx, hmem, rfl, hgu, hrg⟩ := h.nodeAt i hi
  rw [graphV_lv hx] at hk
  obtain ⟨v, gl, cl, hv, hpl, hgl, hcell, -, hown⟩ := h.listAt hx hk
  have hfew := h.few
  have hlg : (graphV m L).links i k = x.links.getD k [] := graphV_links hx k
  have hll := nodup_le L.length _ (hr.each i k) fun y hy => by have := links_lt hr hy; rw [graphV_len] at this; exact this
  rw [hlg] at hll
  have HN := Lib.hid (show (graphV m L).nbrs i k = x.links.getD k [] ++ if k = 0 then (if 0 < i then [i - 1] else []) ++ (if i + 1 < L.length then [i + 1] else []) else [] from by unfold GraphV.nbrs; rw [hlg, graphV_len])
  obtain ⟨l, hl⟩ : ∃ l, x.links.getD k [] = l := ⟨_, rfl⟩
  rw [hl] at hown hll HN
  have CC := Lib.hid (cloneN_any w lo v l (IntsAt.mk hown) (by omega))
  have c1 : w.cell? ⟨g, 1, none⟩ = some (.slice (some ⟨gu, 0, none⟩) L.length cu) := h.blk.cell 1
  have x5 : w.cell? ⟨gu, i * 6 + 5, none⟩ = some (.slice (some ⟨gl, 0, none⟩) x.links.length cl) := by rw [← hpl]; exact hrg 5 _ rfl
  obtain ⟨va, vn, vc, rfl, -⟩ := IntsAt.parts (IntsAt.mk hown)
  have HU := Lib.hid (fun (W : World) (hb : Below w.heap.size w W) => show W.cell? ⟨g, 1, none⟩ = some (.slice (some ⟨gu, 0, none⟩) L.length cu) from (h.toGrN.on hb).blk.cell 1)
  obtain ⟨N, hN⟩ : ∃ N, L.length = N := ⟨_, rfl⟩
  obtain ⟨P, hP⟩ : ∃ P, x.links.length = P := ⟨_, rfl⟩
  rw [hP] at x5 hk
  rw [hN] at c1 hi hll HU HN hfew
  clear h hr hx hmem hgu hrg hv hpl hgl hown hlg hl hP hN
  by_cases hk0 : 0 < k
  · have d0 : decide ((k : Int) > 0) = true := decide_eq_true (by omega)
    have HK := Lib.hid hk0
    rw [HN.out, if_neg (by omega), List.append_nil]
    clear HN
    go_enter Tryz.func78, Tryz.ntmps78
    go_wp2_with (go_at_call 117; refine CC.out.mono ?_; rintro e w2 ⟨v2, rfl, hb2, hi2⟩; have B2 := Lib.hid hb2; have I2 := Lib.hid hi2; clear hb2 hi2)
    go_ret
    exact ⟨_, rfl, I2.out, B2.out⟩
  · obtain rfl : k = 0 := by omega
    rw [HN.out, if_pos rfl]
    clear HN hk0
    have hsub : IntKind.i64.wrap ((N : Int) - 1) = (N : Int) - 1 := by rw [IntKind.wrap_i64]; omega
    by_cases hi0 : 0 < i
    · have d1 : decide ((i : Int) > 0) = true := decide_eq_true (by omega)
      have e1 : IntKind.i64.wrap ((i : Int) - 1) = ((i - 1 : Nat) : Int) := by rw [IntKind.wrap_i64]; omega
      rw [if_pos hi0]
      by_cases hi1 : i + 1 < N
      · have d2 : decide ((i : Int) < (N : Int) - 1) = true := decide_eq_true (by omega)
        have e2 : IntKind.i64.wrap ((i : Int) + 1) = ((i + 1 : Nat) : Int) := by rw [IntKind.wrap_i64]; omega
        rw [if_pos hi1]
        have HI0 := Lib.hid hi0
        clear hi0 hi1
        go_enter Tryz.func78, Tryz.ntmps78
        go_wp2_with (fail)
        refine CC.out.mono ?_
        rintro e w2 ⟨v2, rfl, hb2, hi2⟩
        obtain ⟨a2, n2, c2, rfl, -⟩ := IntsAt.parts hi2
        have B2 := Lib.hid hb2
        have I2 := Lib.hid hi2
        have u2 := HU.out w2 hb2
        clear hb2 hi2 c1 x5 hcell
        go_wp2_with (first
          | (at_builtin; refine app_int w2 rfl _ _ rfl w.heap.size (.slice a2 n2 c2) _ (i - 1) rfl rfl I2.out B2.out.size (by omega) ?_; intro v3 w3 h3 k3 g3; obtain ⟨a3, n3, c3, rfl, -⟩ := h3.parts; have I3 := Lib.hid h3; have B3 := Lib.hid (B2.out.trans (k3.below (fun b hb => (RowC.lt I2.out b (mem_ownB.1 hb)).1) B2.out.size)); have u3 := HU.out w3 B3.out; clear h3 k3 g3 u2)
          | (at_builtin; refine app_int w3 rfl _ _ rfl w.heap.size (.slice a3 n3 c3) _ (i + 1) rfl rfl I3.out B3.out.size (by have := hll; simp only [List.length_append, List.length_singleton]; omega) ?_; intro v4 w4 h4 k4 g4; obtain ⟨a4, n4, c4, rfl, -⟩ := h4.parts; have I4 := Lib.hid h4; have B4 := Lib.hid (B3.out.trans (k4.below (fun b hb => (RowC.lt I3.out b (mem_ownB.1 hb)).1) B3.out.size)); clear h4 k4 g4)
          | fail)
        go_ret
        exact ⟨_, rfl, by simpa using I4.out, B4.out⟩
      · have d2 : decide ((i : Int) < (N : Int) - 1) = false := decide_eq_false (by omega)
        rw [if_neg hi1, List.append_nil]
        have HI0 := Lib.hid hi0
        clear hi0 hi1
        go_enter Tryz.func78, Tryz.ntmps78
        go_wp2_with (fail)
        refine CC.out.mono ?_
        rintro e w2 ⟨v2, rfl, hb2, hi2⟩
        obtain ⟨a2, n2, c2, rfl, -⟩ := IntsAt.parts hi2
        have B2 := Lib.hid hb2
        have I2 := Lib.hid hi2
        have u2 := HU.out w2 hb2
        clear hb2 hi2 c1 x5 hcell
        go_wp2_with (first
          | (at_builtin; refine app_int w2 rfl _ _ rfl w.heap.size (.slice a2 n2 c2) _ (i - 1) rfl rfl I2.out B2.out.size (by omega) ?_; intro v3 w3 h3 k3 g3; obtain ⟨a3, n3, c3, rfl, -⟩ := h3.parts; have I3 := Lib.hid h3; have B3 := Lib.hid (B2.out.trans (k3.below (fun b hb => (RowC.lt I2.out b (mem_ownB.1 hb)).1) B2.out.size)); have u3 := HU.out w3 B3.out; clear h3 k3 g3 u2)
          | fail)
        go_ret
        exact ⟨_, rfl, I3.out, B3.out⟩
    · have d1 : decide ((i : Int) > 0) = false := decide_eq_false (by omega)
      rw [if_neg hi0, List.nil_append]
      by_cases hi1 : i + 1 < N
      · have d2 : decide ((i : Int) < (N : Int) - 1) = true := decide_eq_true (by omega)
        have e2 : IntKind.i64.wrap ((i : Int) + 1) = ((i + 1 : Nat) : Int) := by rw [IntKind.wrap_i64]; omega
        rw [if_pos hi1]
        have HI0 := Lib.hid hi0
        clear hi0 hi1
        go_enter Tryz.func78, Tryz.ntmps78
        go_wp2_with (fail)
        refine CC.out.mono ?_
        rintro e w2 ⟨v2, rfl, hb2, hi2⟩
        obtain ⟨a2, n2, c2, rfl, -⟩ := IntsAt.parts hi2
        have B2 := Lib.hid hb2
        have I2 := Lib.hid hi2
        have u2 := HU.out w2 hb2
        clear hb2 hi2 c1 x5 hcell
        go_wp2_with (first
          | (at_builtin; refine app_int w2 rfl _ _ rfl w.heap.size (.slice a2 n2 c2) _ (i + 1) rfl rfl I2.out B2.out.size (by omega) ?_; intro v3 w3 h3 k3 g3; obtain ⟨a3, n3, c3, rfl, -⟩ := h3.parts; have I3 := Lib.hid h3; have B3 := Lib.hid (B2.out.trans (k3.below (fun b hb => (RowC.lt I2.out b (mem_ownB.1 hb)).1) B2.out.size)); clear h3 k3 g3 u2)
          | fail)
        go_ret
        exact ⟨_, rfl, I3.out, B3.out⟩
      · have d2 : decide ((i : Int) < (N : Int) - 1) = false := decide_eq_false (by omega)
        rw [if_neg hi1, List.append_nil]
        have HI0 := Lib.hid hi0
        clear hi0 hi1
        go_enter Tryz.func78, Tryz.ntmps78
        go_wp2_with (fail)
        refine CC.out.mono ?_
        rintro e w2 ⟨v2, rfl, hb2, hi2⟩
        obtain ⟨a2, n2, c2, rfl, -⟩ := IntsAt.parts hi2
        have B2 := Lib.hid hb2
        have I2 := Lib.hid hi2
        have u2 := HU.out w2 hb2
        clear hb2 hi2 c1 x5 hcell
        go_wp2_with (fail)
        go_ret
        exact ⟨_, rfl, I2.out, B2.out⟩
def natsOf (l : List Int) : List Nat := l.map Int.toNat
theorem natsI_natsOf {l : List Int} (h : ∀ i ∈ l, 0 ≤ i) : natsI (natsOf l) = l := by
  unfold natsI natsOf
  rw [List.map_map]
  conv => rhs; rw [← List.map_id l]
  exact List.map_congr_left fun i hi => Int.toNat_of_nonneg (h i hi)
set_option maxRecDepth 100000 in
set_option maxHeartbeats 3200000 in
theorem onLevel_any (h : GrC okI w lo g m u L) (la : Option Addr) (ln lc : Nat) (l : List Int) (hl : Reads .i64 w la ln l) (hln : ln ≤ 100000) (level : Int) :
    Calls Tryz.prog 114 #[.pointer (some ⟨g, 0, none⟩), .slice la ln lc, .int .i64 level] w (PlacesPost (natsOf (l.filter fun i => (graphV m L).onB i level)) w) := by
  obtain ⟨G, hG⟩ : ∃ G, graphV m L = G := ⟨_, rfl⟩
  have CO := Lib.hid (fun (W : World) (hb : Below w.heap.size w W) (i : Int) (z : Bool) (hz : Hid ((graphV m L).onB i level = z)) => on_any (h.on hb) i level z hz)
  have HJ := Lib.hid (fun (j : Int) (hj : G.onB j level = true) => onB_nonneg hj)
  rw [hG] at CO ⊢
  obtain ⟨hll, _, _, _, hlc⟩ := hl
  have HL := Lib.hid hll
  have HC := Lib.hid hlc
  clear hll hlc h hG
  go_enter Tryz.func114, Tryz.ntmps114
  go_wp2_with (fail)
  go_loopw [7, 12] (fun s7 s12 wr => ∃ (k vn vc : Nat) (va : Option Addr), k ≤ ln ∧ s12 = .int .i64 (k : Int) ∧ s7 = .slice va vn vc ∧ Hid (IntsAt w.heap.size wr (.slice va vn vc) (natsOf ((l.take k).filter fun i => G.onB i level))) ∧ Hid (Below w.heap.size w wr)) (fun _ s12 _ => ln - (intOf s12).toNat)
  case atStart => exact ⟨0, 0, 0, none, Nat.zero_le _, rfl, rfl, RowC.nil _ _ _ _, Below.refl _ _⟩
  case round =>
    obtain ⟨k, vn, vc, va, hk, rfl, rfl, HO, HB⟩ := hrel
    by_cases h1 : k < ln
    · rcases HC.out with h0 | ⟨b, off, rfl, hlt, hc⟩
      · omega
      obtain ⟨x, hx⟩ : ∃ x, l.getD k 0 = x := ⟨_, rfl⟩
      have hcc := hc k h1
      rw [hx] at hcc
      have HX := Lib.hid (show l.take (k + 1) = l.take k ++ [x] from getD_take (by rw [HL.out]; exact h1) hx)
      have r0 : wr.cell? ⟨b, off + k, none⟩ = some (.int .i64 x) := (HB.out.cell (p := ⟨b, off + k, none⟩) hlt).trans hcc
      clear hx hcc hc
      cases hz : G.onB x level with
      | false =>
        have C1 := Lib.hid (CO.out wr HB.out x false hz)
        have HZ := Lib.hid (show (l.take (k + 1)).filter (fun i => G.onB i level) = (l.take k).filter (fun i => G.onB i level) from by
          rw [HX.out, List.filter_append]
          simp [hz])
        clear hz
        go_wp2_with (go_at_call 128; refine C1.out.mono ?_; rintro e w' ⟨rfl, h3⟩; have h4 := h3.symm; subst h4; clear h3)
        go_roundw
        case rel => exact ⟨k + 1, vn, vc, va, by omega, by go_num, rfl, by rw [HZ.out]; exact HO.out, HB.out⟩
        case measure => simp [intOf]; omega
      | true =>
        have h0 := HJ.out x hz
        obtain ⟨j, rfl⟩ : ∃ j : Nat, x = (j : Int) := ⟨x.toNat, by omega⟩
        have C1 := Lib.hid (CO.out wr HB.out (j : Int) true hz)
        have HZ := Lib.hid (show natsOf ((l.take (k + 1)).filter (fun i => G.onB i level)) = natsOf ((l.take k).filter (fun i => G.onB i level)) ++ [j] from by
          rw [HX.out, List.filter_append]
          simp [hz, natsOf])
        have hlen : (natsOf ((l.take k).filter (fun i => G.onB i level))).length ≤ 1000000 := by
          unfold natsOf
          rw [List.length_map]
          have := List.length_filter_le (fun i => G.onB i level) (l.take k)
          simp only [List.length_take] at this
          omega
        have HLEN := Lib.hid hlen
        clear hz h0 hlen
        go_wp2_with (first
          | (go_at_call 128; refine C1.out.mono ?_; rintro e w' ⟨rfl, h3⟩; have h4 := h3.symm; subst h4; clear h3)
          | (at_builtin; refine app_int wr rfl _ _ rfl w.heap.size (.slice va vn vc) _ j rfl rfl HO.out HB.out.size HLEN.out ?_; intro v4 w4 h4 k4 g4; obtain ⟨va4, vn4, vc4, rfl, -⟩ := h4.parts; have H4 := Lib.hid h4; have B4 := Lib.hid (HB.out.trans (k4.below (fun b hb => (RowC.lt HO.out b (mem_ownB.1 hb)).1) HB.out.size)); clear h4 k4 g4)
          | fail)
        go_roundw
        case rel => exact ⟨k + 1, vn4, vc4, va4, by omega, by go_num, rfl, by rw [HZ.out]; exact H4.out, B4.out⟩
        case measure => simp [intOf]; omega
    · obtain rfl : k = ln := by omega
      have e0 : l.take k = l := List.take_of_length_le (by rw [HL.out]; exact Nat.le_refl _)
      go_wp2_with (fail)
      go_ret
      exact ⟨_, rfl, by have := HO.out; rw [e0] at this; exact this, HB.out⟩
end

abbrev hitF (g : Nat) (qa : Option Addr) (qn qc : Nat) : Value := .func (.func 132) #[.agg #[.pointer (some ⟨g, 0, none⟩), .slice qa qn qc]] #[]
theorem own_up {w : World} {B : Nat} {v : Value} {xs : List Hit} (h : Own w 51 v xs) (hB : ∀ x, v.ownBlock = some x → B ≤ x) : OwnB w B v xs := by
  obtain ⟨h1, h2⟩ := h
  refine ⟨h1, ?_⟩
  rcases h2 with h2 | ⟨g, cap, cur, rfl, hg, r⟩
  · exact .inl h2
  · exact .inr ⟨g, cap, cur, rfl, hB g rfl, r⟩
theorem keepL_sort (W : Nat) {l m : List Hit} (h : l.Perm m) : keepL W l = keepL W m := by unfold keepL; rw [sortL_eq h]
theorem memP_perm {l m : List Nat} (h : l.Perm m) : memP l = memP m := funext fun j => by
  unfold memP
  simp only [h.mem_iff]
theorem memP_perm' {l m : List Nat} (h : ∀ j, j ∈ l ↔ j ∈ m) : memP l = memP m := funext fun j => by
  unfold memP
  simp only [h]
theorem near_level (G : GraphV) (q fr : List Int) (level : Int) : G.near q (fr.filter fun i => G.onB i level) = sortL ((pick (fun i => G.onB i level) fr).map (G.hit q)) := by
  unfold GraphV.near
  rw [pick_twice (fun i => G.onB i level) (fun i => G.onB i 0) fr fun i hi => by
    unfold GraphV.onB at hi ⊢
    have := of_decide_eq_true hi
    exact decide_eq_true (by omega)]
theorem hit_back (G : GraphV) (q : List Int) (ps : List Nat) : (ps.map (G.hit q)).map (fun h => h.2.toNat) = ps := by
  rw [List.map_map]
  conv => rhs; rw [← List.map_id ps]
  exact List.map_congr_left fun j _ => by simp [GraphV.hit]
/-- What begin leaves. -/
def BeginPost (G : GraphV) (hv : Value) (q fr : List Int) (W : Nat) (level : Int) (N : Nat) (w : World) (e : Ending) (w' : World) : Prop :=
  ∃ b bm bb n vw Fb, e = .returned (.pointer (some ⟨b, 0, none⟩)) ∧ WalkAt w' w.heap.size b hv W (G.start q W (pick (fun i => G.onB i level) fr)) bm bb n vw Fb ∧ n ≤ N ∧ Below w.heap.size w w'
/-- The walk's block as it is made. -/
def FreshW (w : World) (hv : Value) (W : Nat) (v : Value) (w' : World) : Prop :=
  ∃ b bm bb Fb, v = .pointer (some ⟨b, 0, none⟩) ∧ WalkAt w' w.heap.size b hv W ⟨[], [], []⟩ bm bb 0 (.slice none 0 0) Fb ∧ Below w.heap.size w w'
theorem fresh_walk (w w1 : World) (hv : Value) (W : Nat) (h5 : SelF w1 [(w.alloc (.map #[] 0)).heap.size, (w.alloc (.map #[] 0)).heap.size + 1] ((w.alloc (.map #[] 0)).heap.size + 1) W []) (h6 : Below (w.alloc (.map #[] 0)).heap.size (w.alloc (.map #[] 0)) w1) :
    FreshW w hv W (.pointer (some ⟨w1.heap.size, 0, none⟩)) (w1.alloc (.cells #[hv, .map (some w.heap.size), .slice none 0 0, .pointer (some ⟨w.heap.size + 1 + 1, 0, none⟩)] 129)) := by
  have hs : (w.alloc (.map #[] 0)).heap.size = w.heap.size + 1 := by simp
  rw [← hs]
  have hb1 := (Below.refl w1.heap.size w1).alloc (Nat.le_refl _) (.cells #[hv, .map (some w.heap.size), .slice none 0 0, .pointer (some ⟨(w.alloc (.map #[] 0)).heap.size + 1, 0, none⟩)] 129)
  have hsz := h6.size
  have hlt : ∀ x ∈ [(w.alloc (.map #[] 0)).heap.size, (w.alloc (.map #[] 0)).heap.size + 1], x < w1.heap.size := fun x hx => h5.lt x hx
  refine ⟨_, _, _, _, rfl, ⟨Blk.new _ _ _, ?_, World.ownsRow_nil _ _ _ _, h5.grow hb1, ?_, Nat.le_refl _, ?_, ?_, ?_, by simp [Value.ownBlock]⟩, ?_⟩
  · have h1 : PlacesAt w1 w.heap.size 0 (memP []) := by
      have e : memP [] = fun _ => false := funext fun j => by simp [memP]
      rw [e]
      exact (PlacesAt.made w).on h6
    exact h1.on hb1
  · omega
  · intro x hx
    simp at hx
    omega
  · intro hh
    exact absurd (hlt _ hh) (by omega)
  · intro hh
    simp at hh
    omega
  · exact ((Below.refl w.heap.size w).alloc (Nat.le_refl _) _).trans ((h6.mono (by omega)).trans (hb1.mono (by omega)))
section
variable {okI : Nat → Prop} {w : World} {lo g m : Nat} {u : Value} {L : List NodeL}
set_option maxRecDepth 100000 in
set_option maxHeartbeats 6400000 in
theorem begin_any (h : GrC okI w lo g m u L) (hr : (graphV m L).Right) (hm : m < 256) (qa : Option Addr) (qn qc : Nat) (q : List Int) (hq : Reads .i32 w qa qn q) (fa : Option Addr) (fn fc : Nat) (fr : List Int) (hf : Reads .i64 w fa fn fr) (hfn : fn ≤ 100000) (width level : Int) :
    Calls Tryz.prog 74 #[.pointer (some ⟨g, 0, none⟩), .slice qa qn qc, .slice fa fn fc, .int .i64 width, .int .i64 level] w (BeginPost (graphV m L) (hitF g qa qn qc) q fr (widthN width) level fn w) := by
  obtain ⟨G, hG⟩ : ∃ G, graphV m L = G := ⟨_, rfl⟩
  obtain ⟨ps, hps⟩ : ∃ ps, pick (fun i => G.onB i level) fr = ps := ⟨_, rfl⟩
  obtain ⟨near, hnear⟩ : ∃ near, sortL (ps.map (G.hit q)) = near := ⟨_, rfl⟩
  obtain ⟨W, hW⟩ : ∃ W, widthN width = W := ⟨_, rfl⟩
  have CL := Lib.hid (fun (X : World) (hb : Below w.heap.size w X) => show Calls Tryz.prog 114 #[.pointer (some ⟨g, 0, none⟩), .slice fa fn fc, .int .i64 level] X (PlacesPost (natsOf (fr.filter fun i => G.onB i level)) X) from by
    have h1 := onLevel_any (h.on hb) fa fn fc fr (hf.below (Nat.le_refl _) hb) hfn level
    rw [hG] at h1
    exact h1)
  have CN := Lib.hid (fun (X : World) (hb : Below w.heap.size w X) (a : Option Addr) (n c : Nat) (ha : IntsAt w.heap.size X (.slice a n c) (natsOf (fr.filter fun i => G.onB i level))) => show Calls Tryz.prog 113 #[.pointer (some ⟨g, 0, none⟩), .slice qa qn qc, .slice a n c] X (HitsPost near X) from by
    have hlen : (natsOf (fr.filter fun i => G.onB i level)).length ≤ 100000 := by
      unfold natsOf
      rw [List.length_map]
      have := List.length_filter_le (fun i => G.onB i level) fr
      have := hf.len
      omega
    have hn : n ≤ 100000 := by
      obtain ⟨a', c', e, -⟩ := ha.form
      simp only [Value.slice.injEq] at e
      omega
    have hrd := ha.reads (by omega) fun j hj => by
      obtain ⟨i, hi, rfl⟩ := List.mem_map.1 hj
      have hon := of_decide_eq_true (List.mem_filter.1 hi).2
      have := h.few
      rw [← hG, graphV_len] at hon
      omega
    rw [natsI_natsOf fun i hi => onB_nonneg (List.mem_filter.1 hi).2] at hrd
    have h1 := near_any ((h.on hb).toGrN) hr hm qa qn qc q (hq.below (Nat.le_refl _) hb) a n c _ hrd hn
    rw [hG, near_level, hps, hnear] at h1
    exact h1)
  have HIT := Lib.hid (show ∀ x ∈ near, ∃ j : Nat, x.2 = (j : Int) ∧ j ≤ 100000 from fun x hx => by
    rw [← hnear] at hx
    obtain ⟨j, hj, rfl⟩ := List.mem_map.1 ((sortL_perm _).mem_iff.1 hx)
    refine ⟨j, rfl, ?_⟩
    rw [← hps] at hj
    have hon := of_decide_eq_true ((pick_ok _ fr (fun i => onB_nonneg)).2 j hj)
    have := h.few
    rw [← hG, graphV_len] at hon
    omega)
  have HLEN := Lib.hid (show near.length ≤ fn from by
    rw [← hnear, sortL_len, List.length_map, ← hps]
    have := pick_len (fun i => G.onB i level) fr
    have := hf.len
    omega)
  have HST := Lib.hid (show G.start q W ps = ⟨ps, near, keepL W near⟩ from by
    unfold GraphV.start
    rw [hnear, ← keepL_sort W (show near.Perm (ps.map (G.hit q)) from by rw [← hnear]; exact sortL_perm _)])
  have HMP := Lib.hid (show memP (near.map fun h => h.2.toNat) = memP ps from memP_perm (by
    have := ((sortL_perm (ps.map (G.hit q))).map fun (h : Hit) => h.2.toNat)
    rw [hit_back, hnear] at this
    exact this))
  rw [hW]
  unfold BeginPost
  rw [hG, hps, HST.out]
  clear h hq hr hf hG hps hnear HST hm
  have hmm := @run_makeMap Tryz.prog
  go_enter Tryz.func74, Tryz.ntmps74
  go_upto_region 1 with fail
  go_cut [11] (fun s11 wx => FreshW w (hitF g qa qn qc) W s11 wx)
  case first =>
    clear CL CN HIT HLEN HMP
    have HF := Lib.hid (fresh_walk w)
    go_wp2_with (first
      | (go_at_call 112; refine (hitsFor_any w g qa qn qc).mono ?_; rintro e w' ⟨rfl, h3⟩; have h4 := h3.symm; subst h4; clear h3)
      | (go_at_call 39; refine (sel_new _ _ W (Lib.hid (by unfold widthN at hW; omega))).mono ?_; rintro e w2 ⟨rfl, h5, h6⟩; have HF2 := Lib.hid (HF.out w2 (hitF g qa qn qc) W h5 h6); clear h5 h6))
    all_goals (go_meet; exact HF2.out)
  case rest =>
    obtain ⟨b, bm, bb, Fb, rfl, hw, hb⟩ := hcut
    have HW := Lib.hid hw
    have HB := Lib.hid hb
    have C1 := Lib.hid (CL.out _ hb)
    have hlo0 := hb.size
    clear hw hb CL hmm hW
    go_wp2_with (fail)
    refine C1.out.mono ?_
    rintro e w2 ⟨v2, rfl, hi2, hb2⟩
    obtain ⟨a2, n2, c2, rfl, -⟩ := hi2.parts
    have C2 := Lib.hid (CN.out w2 (HB.out.trans (hb2.mono hlo0)) a2 n2 c2 (RowC.mono hi2 hlo0))
    have H2 := Lib.hid (HW.out.on hb2)
    have B2 := Lib.hid (HB.out.trans (hb2.mono hlo0))
    have hlo2 := B2.out.size
    clear hi2 hb2 C1 CN
    go_wp2_with (fail)
    refine C2.out.mono ?_
    rintro e w3 ⟨ga, N, rfl, ho3, hb3, hga⟩
    have H3 := H2.out.on hb3
    have B3 := B2.out.trans (hb3.mono hlo2)
    have hN : near.length = N := by
      obtain ⟨a', c', e⟩ := ho3.size
      simp only [Value.slice.injEq] at e
      exact e.2.1.symm
    have ho3' := own_up ho3 (B := w.heap.size) fun x hx => by
      simp [Value.ownBlock] at hx
      omega
    have hgb : ga ≠ b := fun e => by
      have := H2.out.blk.lt
      omega
    have hgm : ga ≠ bm := fun e => by
      have := H2.out.met.lt
      omega
    have hgF : ga ∉ Fb := fun hh => by
      have := H2.out.best.lt _ hh
      omega
    obtain ⟨w4, hw4⟩ : ∃ w4, w3.setCell ⟨b, 2, none⟩ (.slice (some ⟨ga, 0, none⟩) N N) = w4 := ⟨_, rfl⟩
    have k4 : Kept [b] w3 w4 := by rw [← hw4]; exact (Kept.refl [b] w3).setCell _ _ (.inl (by simp))
    have H4 : WalkAt w4 w.heap.size b (hitF g qa qn qc) W ⟨[], near.reverse, []⟩ bm bb 0 (.slice (some ⟨ga, 0, none⟩) N N) Fb := by
      refine ⟨?_, H3.met.kept k4 ?_, ?_, H3.best.kept k4 ?_, H3.hb, H3.hm, H3.hF, H3.n1, H3.n2, ?_⟩
      · rw [← hw4]
        exact H3.blk.set 2 _
      · simp
        exact fun e => H3.met.not_blk H3.blk e.symm
      · rw [List.reverse_reverse]
        exact ho3'.kept k4 fun x hx hh => by
          simp [Value.ownBlock] at hx
          simp at hh
          omega
      · intro x hx hh
        simp at hh
        subst hh
        exact H3.n1 hx
      · intro x hx
        simp [Value.ownBlock] at hx
        subst hx
        exact hgF
    have B4 := Lib.hid (B3.trans (k4.below (by simp; exact H3.hb) B3.size))
    have f3 := H3.blk.frozen 2
    have c4 : w4.cell? ⟨b, 2, none⟩ = some (.slice (some ⟨ga, 0, none⟩) N N) := H4.blk.cell 2
    have c3 : w3.cell? ⟨b, 2, none⟩ = some (.slice none 0 0) := H3.blk.cell 2
    have HH4 := Lib.hid H4
    have HN := Lib.hid hN
    clear ho3 ho3' hb3 k4 H3 B3 H4 C2 H2 B2 HW HB hN
    go_wp2_with (first | (rw [hw4]) | fail)
    clear hw4 c3 f3 c4
    have hNb : N ≤ 100000 := by have := HN.out; have := HLEN.out; omega
    go_loopw [39] (fun s39 wr => ∃ (k n : Nat) (F : List Nat), k ≤ N ∧ s39 = .int .i64 (k : Int) ∧ n ≤ k ∧ ga ∉ F ∧ Hid (WalkAt wr w.heap.size b (hitF g qa qn qc) W ⟨(near.take k).map (fun h => h.2.toNat), near.reverse, keepL W (near.take k)⟩ bm bb n (.slice (some ⟨ga, 0, none⟩) N N) F) ∧ Hid (Below w.heap.size w wr)) (fun s39 _ => N - (intOf s39).toNat)
    case atStart => exact ⟨0, 0, Fb, Nat.zero_le _, rfl, Nat.le_refl _, hgF, by rw [List.take_zero]; simpa [keepL, sortL] using HH4, B4⟩
    case round =>
      clear HH4 B4 hgF
      obtain ⟨k, n, F, hk, rfl, hn, hgF, HW, HB⟩ := hrel
      by_cases h1 : k < N
      · have hkn : k < near.length := by rw [HN.out]; exact h1
        obtain ⟨x, hx⟩ : ∃ x, near.getD k (0, 0) = x := ⟨_, rfl⟩
        have hx1 : near[k]? = some x := by
          rw [List.getElem?_eq_getElem hkn]
          rw [List.getD_eq_getElem?_getD, List.getElem?_eq_getElem hkn] at hx
          exact congrArg some hx
        obtain ⟨j, hj, hj2⟩ := HIT.out x (List.mem_of_getElem? hx1)
        obtain ⟨d, xj⟩ := x
        simp at hj
        subst hj
        have hl := HLEN.out
        have hown := HW.out.waits.own
        rw [List.reverse_reverse] at hown
        obtain ⟨rest, hn0, hblk, hcap⟩ := hown.blk
        have fl := flat_len near
        have c0 : wr.cell? ⟨ga, k * 2, none⟩ = some (.int .i64 d) := by
          have := flat_fst near k hkn
          rw [hblk.cell, List.getElem?_append_left (by rw [fl]; omega), this, hx]
        have c1 : wr.cell? ⟨ga, k * 2 + 1, none⟩ = some (.int .u32 (j : Int)) := by
          have := flat_snd near k hkn
          rw [hblk.cell, List.getElem?_append_left (by rw [fl]; omega), this, hx]
        have lga := hblk.lt
        have HT := Lib.hid (show near.take (k + 1) = near.take k ++ [(d, (j : Int))] from take_snoc hx1)
        clear hown hblk hcap hn0 hl hx hx1
        obtain ⟨w5, hw5⟩ : ∃ w5, wr.alloc (.cells #[.int .i64 d, .int .u32 (j : Int)] 51) = w5 := ⟨_, rfl⟩
        have b5 : Below wr.heap.size wr w5 := by rw [← hw5]; exact (Below.refl _ wr).alloc (Nat.le_refl _) _
        have X5 : Blk w5 wr.heap.size 51 [.int .i64 d, .int .u32 (j : Int)] := by rw [← hw5]; exact Blk.new _ _ _
        have h5 := HW.out.on b5
        have lbm := HW.out.met.lt
        have CA0 := add_any w5.drew bm n _ (h5.on ((Below.refl w5.heap.size w5).drew)).met (by have := HLEN.out; omega) j (by omega)
        obtain ⟨jj, hjj⟩ : ∃ jj : Int, (j : Int) = jj := ⟨_, rfl⟩
        rw [hjj] at CA0 X5 hw5 c1
        have CA := Lib.hid CA0
        have hjw : IntKind.i64.wrap jj = jj := by rw [IntKind.wrap_i64]; omega
        clear CA0
        have x0 : w5.cell? ⟨wr.heap.size, 0, none⟩ = some (.int .i64 d) := X5.cell 0
        have x1 : w5.cell? ⟨wr.heap.size, 1, none⟩ = some (.int .u32 jj) := X5.cell 1
        have p1 : w5.cell? ⟨b, 1, none⟩ = some (.map (some bm)) := h5.blk.cell 1
        have HX5 := Lib.hid X5
        have H5 := Lib.hid h5
        have hlr := HB.out.size
        have B5 := Lib.hid (HB.out.trans (b5.mono hlr))
        have l5 := X5.lt
        clear X5 h5 b5 HW
        go_wp2_with (first | (rw [hw5]) | fail)
        clear hw5 c0 c1
        have hm6 : addP (memP ((near.take k).map fun h => h.2.toNat)) j = memP ((near.take (k + 1)).map fun h => h.2.toNat) := by
          rw [HT.out, List.map_append]
          by_cases hmem : j ∈ (near.take k).map fun h => h.2.toNat
          · rw [memP_old hmem]
            refine memP_perm' fun y => ?_
            rw [List.mem_append]
            refine ⟨.inl, fun hy => hy.elim id fun hy => ?_⟩
            simp at hy
            rw [hy]
            exact hmem
          · rw [memP_new _ _]
            rfl
        have HM6 := Lib.hid hm6
        clear hm6
        have HJJ := Lib.hid hjj
        clear hjj
        go_still_tail 7, (by kernel_rfl)
        change wpList _ _ _ _ _ w5.drew
        go_wp2_with (fail)
        refine CA.out.mono ?_
        rintro e w6 ⟨rfl, h7, h8⟩
        rw [HM6.out] at h7
        have H9 := Lib.hid ((H5.out.on ((Below.refl w5.heap.size w5).drew)).put_met h7 h8)
        have X6 := Lib.hid (h8.blk (Blk.drew HX5.out) (by simp; omega))
        have B6 := Lib.hid ((B5.out.trans ((Below.refl w5.heap.size w5).drew.mono B5.out.size)).trans (h8.below (by simp; exact H5.out.hm) B5.out.size))
        have y0 : w6.cell? ⟨wr.heap.size, 0, none⟩ = some (.int .i64 d) := X6.out.cell 0
        have y1 : w6.cell? ⟨wr.heap.size, 1, none⟩ = some (.int .u32 jj) := X6.out.cell 1
        have p3 : w6.cell? ⟨b, 3, none⟩ = some (.pointer (some ⟨bb, 0, none⟩)) := H9.out.blk.cell 3
        have hlo6 := B6.out.size
        have CP := Lib.hid (sel_put F bb W (keepL W (near.take k)) (d, jj) w6.drew (H9.out.on ((Below.refl w6.heap.size w6).drew)).best (by have := HLEN.out; unfold keepL; rw [List.length_take, sortL_len, List.length_take]; omega))
        clear h7 h8 CA p1 x0 x1 H5 HX5 B5
        go_wp2_with (fail)
        go_still_tail 5, (by kernel_rfl)
        change wpList _ _ _ _ _ w6.drew
        go_wp2_with (fail)
        refine CP.out.mono ?_
        rintro e w8 ⟨rfl, F8, hs8, hk8, hg8⟩
        have hgF8 : ga ∉ F8 := fun hh => by
          rcases hg8 ga hh with h1 | h1
          · exact hgF h1
          · have := X6.out.lt
            simp at h1
            omega
        have H8 := Lib.hid ((H9.out.on ((Below.refl w6.heap.size w6).drew)).put_best hs8 hk8 hg8 hlo6)
        have B8 := Lib.hid ((B6.out.trans ((Below.refl w6.heap.size w6).drew.mono hlo6)).trans (hk8.below H9.out.hF hlo6))
        clear hs8 hk8 hg8 CP y0 y1 p3
        go_wp2
        go_roundw
        case rel => exact ⟨k + 1, n + 1, F8, by omega, by go_num, by omega, hgF8, by have h9 := H8.out; rw [HT.out, HJJ.out] at h9; rw [HT.out, HJJ.out, keepL_snoc]; exact h9, B8⟩
        case measure => simp [intOf]; omega
      · obtain rfl : k = N := by omega
        have e0 : near.take k = near := List.take_of_length_le (by rw [HN.out]; exact Nat.le_refl _)
        have h4 := HW.out
        rw [e0] at h4
        have H4 := Lib.hid h4
        have c4 : wr.cell? ⟨b, 2, none⟩ = some (.slice (some ⟨ga, 0, none⟩) k k) := h4.blk.cell 2
        have CR := Lib.hid (reverse_any wr (some ⟨ga, 0, none⟩) k k near (by have := h4.waits.own; rw [List.reverse_reverse] at this; exact this) (by rw [HN.out]; have := HLEN.out; have := HN.out; omega))
        clear h4 HW e0
        go_wp2_with (fail)
        refine CR.out.mono ?_
        rintro e w9 ⟨rfl, ho9, hk9⟩
        have H9 := Lib.hid (show WalkAt w9 w.heap.size b (hitF g qa qn qc) W ⟨ps, near, keepL W near⟩ bm bb n (.slice (some ⟨ga, 0, none⟩) k k) F from by
          have hF9 : ∀ y ∈ ownB (Value.slice (some ⟨ga, 0, none⟩) k k), y = ga := fun y hy => by
            have := mem_ownB.1 hy
            simp [Value.ownBlock] at this
            exact this.symm
          refine ⟨hk9.blk H4.out.blk fun hh => hgb (hF9 _ hh).symm, ?_, own_up ho9 fun x hx => ?_, H4.out.best.kept hk9 fun y hy hh => ?_, H4.out.hb, H4.out.hm, H4.out.hF, H4.out.n1, H4.out.n2, H4.out.n3⟩
          · have := H4.out.met.kept hk9 fun hh => hgm (hF9 _ hh).symm
            rw [← HMP.out]
            exact this
          · simp [Value.ownBlock] at hx
            omega
          · rw [hF9 y hh] at hy
            exact hgF hy)
        have B9 := Lib.hid (HB.out.trans (hk9.below (fun y hy => by have := mem_ownB.1 hy; simp [Value.ownBlock] at this; omega) HB.out.size))
        clear ho9 hk9 CR c4
        go_wp2
        go_ret
        exact ⟨b, bm, bb, n, _, F, rfl, H9.out, by have := HLEN.out; have := HN.out; omega, B9.out⟩
end

theorem exists_least {P : Nat → Prop} : ∀ k, P k → ∃ k, P k ∧ ∀ j, P j → k ≤ j := by
  intro k
  induction k using Nat.strongRecOn with
  | ind k ih =>
    intro h
    by_cases hx : ∃ j, j < k ∧ P j
    · obtain ⟨j, hj, hp⟩ := hx
      exact ih j hj hp
    · refine ⟨k, h, fun j hj => ?_⟩
      by_cases hjk : k ≤ j
      · exact hjk
      · exact absurd ⟨j, by omega, hj⟩ hx
/-- The least number with a property (0 if there is none). -/
noncomputable def leastK (P : Nat → Prop) : Nat := @dite Nat (∃ k, P k ∧ ∀ j, P j → k ≤ j) (Classical.propDecidable _) (fun h => h.choose) (fun _ => 0)
theorem leastK_spec {P : Nat → Prop} {k : Nat} (h : P k) : P (leastK P) ∧ leastK P ≤ k := by
  have hx := exists_least k h
  unfold leastK
  rw [dif_pos hx]
  exact ⟨hx.choose_spec.1, hx.choose_spec.2 k h⟩
theorem nbrs_len {G : GraphV} (hr : G.Right) (i k : Nat) : (G.nbrs i k).length ≤ G.L.length + 2 := by
  have h1 := nodup_le G.L.length _ (hr.each i k) fun y hy => links_lt hr hy
  unfold GraphV.nbrs
  rw [List.length_append]
  have h2 : (if k = 0 then (if 0 < i then [i - 1] else []) ++ (if i + 1 < G.L.length then [i + 1] else []) else []).length ≤ 2 := by
    split
    · rw [List.length_append]
      split <;> split <;> simp
    · simp
  omega
theorem IntsAt.row {lo : Nat} {w : World} {a : Option Addr} {n c : Nat} {l : List Nat} (h : IntsAt lo w (.slice a n c) l) : l.length = n ∧ (l = [] ∨ ∃ z, a = some ⟨z, 0, none⟩ ∧ lo ≤ z ∧ z < w.heap.size ∧ ∀ (i y : Nat), l[i]? = some y → w.cell? ⟨z, i, none⟩ = some (.int .i64 (y : Int))) := by
  obtain ⟨a', c', e, _⟩ := h.form
  simp only [Value.slice.injEq] at e
  obtain ⟨rfl, rfl, rfl⟩ := e
  refine ⟨rfl, ?_⟩
  rcases own_cells1 (show w.ownsRow lo 3 1 _ (intsC l).length (intsC l) from by rw [List.length_map]; exact h.own) with ⟨h1, h2⟩ | ⟨z, c2, h1, _, h3, h4, h5⟩
  · left
    have := congrArg List.length h2
    exact List.length_eq_zero_iff.1 (by simpa using this)
  · right
    simp only [Value.slice.injEq] at h1
    obtain ⟨rfl, -, -⟩ := h1
    refine ⟨z, rfl, h3, h4, fun i y hy => ?_⟩
    have hi := (List.getElem?_eq_some_iff.1 hy).1
    rw [h5 i (by simpa using hi), List.getElem?_map, hy]
    rfl
/-- What holds of a walk ahead of a round that may yet take k. -/
def InvW (G : GraphV) (q : List Int) (W : Nat) (level : Int) (R : List Hit) (w : World) (b bm bb : Nat) (hv : Value) (wr : World) (k : Nat) : Prop :=
  ∃ s n vw Fb, G.walkF q W level.toNat k s = R ∧ WalkOk G q W level.toNat s ∧ measW G s < k ∧ n + k * 100002 ≤ 20000000000 ∧ (0 ≤ level ∨ s.waits = []) ∧ WalkAt wr w.heap.size b hv W s bm bb n vw Fb ∧ Below w.heap.size w wr
section
variable {okI : Nat → Prop} {w : World} {lo g m : Nat} {u : Value} {L : List NodeL}
set_option maxRecDepth 100000 in
set_option maxHeartbeats 6400000 in
theorem walk_any (h : GrC okI w lo g m u L) (hr : (graphV m L).Right) (hm : m < 256) (qa : Option Addr) (qn qc : Nat) (q : List Int) (hq : Reads .i32 w qa qn q) (fa : Option Addr) (fn fc : Nat) (fr : List Int) (hf : Reads .i64 w fa fn fr) (hfn : fn ≤ 100000) (width level : Int) :
    Calls Tryz.prog 41 #[.pointer (some ⟨g, 0, none⟩), .slice qa qn qc, .slice fa fn fc, .int .i64 width, .int .i64 level] w (HitsPost ((graphV m L).walk q fr width level) w) := by
  have CB := Lib.hid (begin_any h hr hm qa qn qc q hq fa fn fc fr hf hfn width level)
  obtain ⟨N, hN⟩ : ∃ N, L.length = N := ⟨_, rfl⟩
  have hfew := h.few
  rw [hN] at hfew
  have CN := Lib.hid (fun (X : World) (hb : Below w.heap.size w X) (i k : Nat) (hi : i < L.length) (hk : k < (graphV m L).lv i) => nbrs_any (h.on hb) hr i k hi hk)
  have CM := Lib.hid (fun (X : World) (hb : Below w.heap.size w X) (b W bm bb n : Nat) (vw : Value) (s : WalkV) (Fb : List Nat) => meet_any h.toGrN hm qa qn qc q hq X b W bm bb n vw s Fb hb)
  have hGL := graphV_len (m := m) (L := L)
  rw [hN] at CN CM hGL
  obtain ⟨G, hG⟩ : ∃ G, graphV m L = G := ⟨_, rfl⟩
  rw [hG] at CB CN CM hGL hr ⊢
  have HG := Lib.hid hGL
  have HR := Lib.hid hr
  obtain ⟨W, hW⟩ : ∃ W, widthN width = W := ⟨_, rfl⟩
  have hW2 : W ≤ 256 := by unfold widthN at hW; omega
  obtain ⟨ps, hps⟩ : ∃ ps, pick (fun i => G.onB i level) fr = ps := ⟨_, rfl⟩
  obtain ⟨R, hRe⟩ : ∃ R, G.walk q fr width level = R := ⟨_, rfl⟩
  have HST := Lib.hid (show G.walkF q W level.toNat (N + 1) (G.start q W ps) = R ∧ WalkOk G q W level.toNat (G.start q W ps) ∧ measW G (G.start q W ps) < N + 1 ∧ (0 ≤ level ∨ (G.start q W ps).waits = []) from by
    have h1 : ps.Nodup := by rw [← hps]; exact (pick_ok _ fr (fun i => onB_nonneg)).1
    have h2 : ∀ j ∈ ps, level.toNat < G.lv j := by
      by_cases h0 : 0 ≤ level
      · rw [← hps]
        exact pick_on fr h0
      · rw [← hps, pick_none fr (by omega)]
        simp
    have h3 := G.start_ok q W level.toNat ps h1 h2
    rw [hGL] at h3
    refine ⟨?_, h3.1, h3.2, ?_⟩
    · rw [← hRe]
      unfold GraphV.walk
      rw [hW, hps, hGL]
    · by_cases h0 : 0 ≤ level
      · exact .inl h0
      · right
        rw [← hps, pick_none fr (by omega)]
        rfl)
  rw [hRe]
  unfold BeginPost at CB
  rw [hW, hps] at CB
  clear h hq hf hm hG hN hGL hr hW hps hRe
  go_enter Tryz.func41, Tryz.ntmps41
  go_wp2_with (fail)
  refine CB.out.mono ?_
  rintro e w1 ⟨b, bm, bb, n0, vw0, Fb0, rfl, hw1, hn0, hb1⟩
  have HI := Lib.hid (show InvW G q W level R w b bm bb (hitF g qa qn qc) w1 (N + 1) from ⟨_, n0, vw0, Fb0, HST.out.1, HST.out.2.1, HST.out.2.2.1, by omega, HST.out.2.2.2, hw1, hb1⟩)
  clear hw1 hb1 hn0 HST CB
  go_wp2_with (fail)
  go_loopw [28] (fun s28 wr => ∃ k, Hid (InvW G q W level R w b bm bb (hitF g qa qn qc) wr k)) (fun _ wr => leastK (InvW G q W level R w b bm bb (hitF g qa qn qc) wr))
  case atStart => exact ⟨_, HI⟩
  case round =>
    clear HI
    obtain ⟨k0, hk0⟩ := hrel
    obtain ⟨k, hk⟩ : ∃ k, leastK (InvW G q W level R w b bm bb (hitF g qa qn qc) wr) = k := ⟨_, rfl⟩
    have hinv := (leastK_spec hk0.out).1
    rw [hk] at hinv ⊢
    obtain ⟨s, n, vw, Fb, hR, hok, hms, hn, hlev, hw, hb⟩ := hinv
    obtain ⟨met, waits, best⟩ := s
    have HOK := Lib.hid hok
    have HW := Lib.hid hw
    have HB := Lib.hid hb
    have hbl : best.length ≤ W := hok.blen
    cases waits with
    | nil =>
      have HRB := Lib.hid (show best = R from (walkF_nil rfl).symm.trans hR)
      have HBX := HB
      have CS := Lib.hid (sel_list Fb bb W best wr hw.best (by omega))
      obtain ⟨a, c, e⟩ := hw.waits.own.size
      rw [show ([] : List Hit).reverse.length = 0 from rfl] at e
      have c2 : wr.cell? ⟨b, 2, none⟩ = some (.slice a 0 c) := by rw [← e]; exact hw.blk.cell 2
      have c3 : wr.cell? ⟨b, 3, none⟩ = some (.pointer (some ⟨bb, 0, none⟩)) := hw.blk.cell 3
      clear hR hok hms hlev hw hb e HW HOK
      go_wp2_with (fail)
      refine CS.out.mono ?_
      rintro e w9 ⟨gl, rfl, ho, hbl, hgl⟩
      have HO := Lib.hid ho
      have BL := Lib.hid (HBX.out.trans (hbl.mono HBX.out.size))
      have hgl2 : w.heap.size ≤ gl := Nat.le_trans HBX.out.size hgl
      clear ho hbl hgl CS
      go_wp2
      go_ret
      exact ⟨gl, _, rfl, by have := HO.out; rw [HRB.out] at this ⊢; exact this, BL.out, hgl2⟩
    | cons c ws =>
      have h0 : 0 ≤ level := hlev.resolve_right (by simp)
      have hlv : ((level.toNat : Nat) : Int) = level := Int.toNat_of_nonneg h0
      obtain ⟨lev, hle⟩ : ∃ lev, level.toNat = lev := ⟨_, rfl⟩
      rw [hle] at hlv HOK hok hR
      obtain ⟨⟨j, hc, hon⟩, h1ok, h2ok, hmlt⟩ := hok.next HR.out rfl
      obtain ⟨d, cj⟩ := c
      have hcj : (j : Int) = cj := (congrArg Prod.snd hc).symm
      have hjN : j < N := by rw [← HG.out]; exact lv_len hon
      have hws : ws.length ≤ 100000 := by
        have h1 := h1ok.wlen
        have h2 := h1ok.met_le
        have := HG.out
        simp only at h1 h2
        omega
      have hcjn : cj.toNat = j := by omega
      rw [hcjn] at h2ok hmlt
      have hwo : InOrder ws := h1ok.word
      have H1OK := Lib.hid h1ok
      have H2OK := Lib.hid h2ok
      have HMLT := Lib.hid hmlt
      have HMS := Lib.hid hms
      have HRK := Lib.hid hR
      obtain ⟨a, c, e⟩ := hw.waits.own.size
      rw [List.length_reverse, List.length_cons] at e
      obtain ⟨mw, hmw⟩ : ∃ mw, ws.length = mw := ⟨_, rfl⟩
      rw [hmw] at e hws
      subst e
      have c2 : wr.cell? ⟨b, 2, none⟩ = some (.slice a (mw + 1) c) := hw.blk.cell 2
      have dgt : decide (((mw + 1 : Nat) : Int) > 0) = true := decide_eq_true (by omega)
      have CT := Lib.hid (take_any wr w.heap.size b W bm bb n _ (.slice a (mw + 1) c) met (d, cj) ws best Fb hw hb.size (by omega))
      clear hR hok hms hlev hw hb HOK HW h1ok h2ok hmlt hc
      go_wp2_with (fail)
      refine CT.out.mono ?_
      rintro e w2 ⟨rfl, vw2, Fb2, hw2, hb2, -⟩
      have B2 := HB.out.trans hb2
      obtain ⟨w3, hw3⟩ : ∃ w3, w2.alloc (.cells #[.int .i64 d, .int .u32 cj] 51) = w3 := ⟨_, rfl⟩
      have b3 : Below w2.heap.size w2 w3 := by rw [← hw3]; exact (Below.refl _ w2).alloc (Nat.le_refl _) _
      have X3 : Blk w3 w2.heap.size 51 [.int .i64 d, .int .u32 cj] := by rw [← hw3]; exact Blk.new _ _ _
      have h3 := hw2.on b3
      have B3 := B2.trans (b3.mono B2.size)
      obtain ⟨full, hfull⟩ : ∃ full, decide (best.length = W) = full := ⟨_, rfl⟩
      obtain ⟨y, hy⟩ : ∃ y, lastL best = y := ⟨_, rfl⟩
      obtain ⟨less, hless⟩ : ∃ less, ltH y (d, cj) = less := ⟨_, rfl⟩
      have CW := Lib.hid (sel_worst Fb2 bb W best w3 h3.best full hfull y hy)
      have HSTOP := Lib.hid (show (full && less) = true ↔ best.length = W ∧ ltH (lastL best) (d, cj) = true from by
        rw [Bool.and_eq_true, ← hfull, decide_eq_true_iff, ← hless, hy])
      have HL := Lib.hid hless
      have p3 : w3.cell? ⟨b, 3, none⟩ = some (.pointer (some ⟨bb, 0, none⟩)) := h3.blk.cell 3
      obtain ⟨bh, hbh⟩ : ∃ bh, w2.heap.size = bh := ⟨_, rfl⟩
      rw [hbh] at X3
      have HW3 := Lib.hid h3
      have HB3 := Lib.hid B3
      have HX3 := Lib.hid X3
      clear c2 hw2 hb2 B2 b3 X3 h3 B3 hfull hy hless CT HB
      go_wp2_with (first | (rw [hw3]) | fail)
      clear hw3 p3
      refine CW.out.mono ?_
      rintro e w5 ⟨rfl, hb5⟩
      obtain ⟨w6, hw6⟩ : ∃ w6, w5.alloc (.cells #[.int .i64 y.1, .int .u32 y.2] 51) = w6 := ⟨_, rfl⟩
      have b6 : Below w3.heap.size w3 w6 := by rw [← hw6]; exact hb5.alloc hb5.size _
      have Y6 : Blk w6 w5.heap.size 51 [.int .i64 y.1, .int .u32 y.2] := by rw [← hw6]; exact Blk.new _ _ _
      have X6 : Blk w6 bh 51 [.int .i64 d, .int .u32 cj] := (Kept.of_below (F := []) b6 (Nat.le_refl _)).blk HX3.out (by simp)
      have HW6 := Lib.hid (HW3.out.on b6)
      have HB6 := Lib.hid (HB3.out.trans (b6.mono HB3.out.size))
      have x0 : w6.cell? ⟨bh, 0, none⟩ = some (.int .i64 d) := X6.cell 0
      have x1 : w6.cell? ⟨bh, 1, none⟩ = some (.int .u32 cj) := X6.cell 1
      have y0 : w6.cell? ⟨w5.heap.size, 0, none⟩ = some (.int .i64 y.1) := Y6.cell 0
      have y1 : w6.cell? ⟨w5.heap.size, 1, none⟩ = some (.int .u32 y.2) := Y6.cell 1
      have l2 : bh < w6.heap.size := X6.lt
      have HX6 := Lib.hid X6
      clear b6 Y6 X6 hb5 CW HW3 HB3 HX3
      go_upto_region 5 with (first | (rw [hw6]) | fail)
      go_cut [44] (fun s44 wx => s44 = .bool (full && less) ∧ Hid (Below w6.heap.size w6 wx))
      case first =>
        cases full with
        | false =>
          go_wp2_with (first | (rw [hw6]) | fail)
          all_goals (go_meet; exact ⟨rfl, Below.refl _ _⟩)
        | true =>
          go_wp2_with (first | (rw [hw6]) | fail)
          refine (less_eq y (d, cj) less HL w6).mono ?_
          rintro e w7 ⟨rfl, hb7⟩
          have HB7 := Lib.hid hb7
          clear hb7
          go_wp2
          all_goals (go_meet; exact ⟨rfl, HB7⟩)
      case rest =>
        obtain ⟨rfl, HBc⟩ := hcut
        obtain ⟨stop, hstop⟩ : ∃ stop, (full && less) = stop := ⟨_, rfl⟩
        rw [hstop] at HSTOP ⊢
        have HWc := Lib.hid (HW6.out.on HBc.out)
        have HBX := Lib.hid (HB6.out.trans (HBc.out.mono HB6.out.size))
        have HXc := Lib.hid ((Kept.of_below (F := []) HBc.out (Nat.le_refl _)).blk HX6.out (by simp))
        have c3 : wc.cell? ⟨b, 3, none⟩ = some (.pointer (some ⟨bb, 0, none⟩)) := HWc.out.blk.cell 3
        clear hstop x0 x1 y0 y1 HW6 HB6 HX6 HBc HL hw6
        cases stop with
        | true =>
          have HRB := Lib.hid (show best = R from (walkF_stop rfl (HSTOP.out.1 rfl)).symm.trans HRK.out)
          have CS := Lib.hid (sel_list Fb2 bb W best wc HWc.out.best (by omega))
          go_wp2_with (fail)
          refine CS.out.mono ?_
          rintro e w9 ⟨gl, rfl, ho, hbl, hgl⟩
          have HO := Lib.hid ho
          have BL := Lib.hid (HBX.out.trans (hbl.mono HBX.out.size))
          have hgl2 : w.heap.size ≤ gl := Nat.le_trans HBX.out.size hgl
          clear ho hbl hgl CS
          go_wp2
          go_ret
          exact ⟨gl, _, rfl, by have := HO.out; rw [HRB.out] at this ⊢; exact this, BL.out, hgl2⟩
        | false =>
          have HNO := Lib.hid (show ¬ (best.length = W ∧ ltH (lastL best) (d, cj) = true) from fun hh => by
            have := HSTOP.out.2 hh
            cases this)
          have y1 : wc.cell? ⟨bh, 1, none⟩ = some (.int .u32 cj) := HXc.out.cell 1
          have hjw : IntKind.i64.wrap cj = cj := by rw [IntKind.wrap_i64]; omega
          have C8 := CN.out wc HBX.out j lev hjN hon
          rw [hlv, hcj] at C8
          have HC8 := Lib.hid C8
          obtain ⟨nb, hnb⟩ : ∃ nb, G.nbrs j lev = nb := ⟨_, rfl⟩
          have HNB := Lib.hid (show ∀ y ∈ nb, lev < G.lv y ∧ y < N from fun y hy => by
            have h1 := HR.out.nbrs hon y (by rw [hnb]; exact hy)
            exact ⟨h1, by rw [← HG.out]; exact lv_len h1⟩)
          have hnl : nb.length ≤ 100002 := by
            rw [← hnb]
            have := nbrs_len HR.out j lev
            have := HG.out
            omega
          have HNL := Lib.hid hnl
          have lbw := HWc.out.blk.lt
          have lbm := HWc.out.met.lt
          have LB := Lib.hid (And.intro lbw lbm)
          rw [hnb] at HC8 H2OK HMLT
          have HNBE := Lib.hid hnb
          have HCJ := Lib.hid hcj
          have HCJN := Lib.hid hcjn
          clear C8 hcj hnb hnl lbw lbm HSTOP HXc hcjn
          go_wp2_with (fail)
          refine HC8.out.mono ?_
          rintro e w8 ⟨v8, rfl, hi8, hb8⟩
          obtain ⟨a8, T, c8, rfl, hT⟩ := hi8.parts
          have HW8 := Lib.hid (HWc.out.on hb8)
          have HB8 := Lib.hid (HBX.out.trans (hb8.mono HBX.out.size))
          have HROW := Lib.hid hi8.row
          have hsz8 := hb8.size
          have LZ := Lib.hid (show ∀ z, a8 = some ⟨z, 0, none⟩ → wc.heap.size ≤ z from fun z hz => by
            rcases hi8.row with ⟨h1, h2 | ⟨z', h2, h3, -⟩⟩
            · subst hz
              exact (RowC.lt hi8 z rfl).1
            · rw [hz] at h2
              simp at h2
              omega)
          have hTT : T ≤ 100002 := by have := hT.out; have := HNL.out; omega
          clear hi8 hb8 HC8 y1 hjw c3 hT
          go_wp2_with (fail)
          go_loopw [52] (fun s52 wx => ∃ (i n' : Nat) (vw' : Value) (Fb' : List Nat), i ≤ T ∧ s52 = .int .i64 (i : Int) ∧ n' ≤ n + i ∧ Hid (WalkAt wx w.heap.size b (hitF g qa qn qc) W (G.meets q W ⟨met, ws, best⟩ (nb.take i)) bm bb n' vw' Fb') ∧ Hid (Below w.heap.size w wx) ∧ Hid (w8.heap.size ≤ wx.heap.size) ∧ Hid (∀ z, a8 = some ⟨z, 0, none⟩ → wx.heap[z]? = w8.heap[z]? ∧ z ∉ ownB vw' ∧ z ∉ Fb')) (fun s52 _ => T - (intOf s52).toNat)
          case atStart =>
            refine ⟨0, n, vw2, Fb2, Nat.zero_le _, rfl, Nat.le_refl _, by rw [List.take_zero]; exact HW8, HB8, Nat.le_refl _, fun z hz => ⟨rfl, fun hh => ?_, fun hh => ?_⟩⟩
            · have h1 := LZ.out z hz
              have h2 := (World.ownsRow.lt HWc.out.waits z (mem_ownB.1 hh)).2
              omega
            · have h1 := LZ.out z hz
              have h2 := HWc.out.best.lt z hh
              omega
          case round =>
            clear HW8 HB8
            obtain ⟨i, n', vw', Fb', hi, rfl, hn', HWx, HBx, HSx, HZx⟩ := hrel
            by_cases hiT : i < T
            · obtain ⟨hl, hrow⟩ := HROW.out
              rcases hrow with h1 | ⟨z, rfl, hz1, hz2, hcell⟩
              · rw [h1] at hl
                simp at hl
                omega
              obtain ⟨x, hx⟩ : ∃ x, nb[i]? = some x := ⟨_, List.getElem?_eq_getElem (by rw [hl]; exact hiT)⟩
              have hxN := (HNB.out x (List.mem_of_getElem? hx)).2
              obtain ⟨hzh, hzv, hzF⟩ := HZx.out z rfl
              have r0 : wr.cell? ⟨z, i, none⟩ = some (.int .i64 (x : Int)) := (World.cell?_of_block (a := ⟨z, i, none⟩) hzh).trans (hcell i x hx)
              have hok := (H1OK.out.meets (l := nb.take i) fun y hy => (HNB.out y (List.mem_of_mem_take hy)).1).1
              have hml := hok.met_le
              have hwl := hok.wlen
              have hGN := HG.out
              have HTK := Lib.hid (show G.meets q W ⟨met, ws, best⟩ (nb.take (i + 1)) = G.meet q W (G.meets q W ⟨met, ws, best⟩ (nb.take i)) x from by
                rw [take_snoc hx]
                unfold GraphV.meets
                rw [List.foldl_append]
                rfl)
              have CM2 := Lib.hid (CM.out wr HBx.out b W bm bb n' vw' _ Fb' HWx.out x hxN (by omega) hok.word (by omega) hok.blen hW2)
              have HZ2 := Lib.hid (show ∀ (v10 : Value) (F10 : List Nat) (w10 : World), Leaves b bm vw' Fb' v10 F10 wr w10 → w10.heap[z]? = w8.heap[z]? ∧ z ∉ ownB v10 ∧ z ∉ F10 from fun v10 F10 w10 hl => by
                have h3 := LB.out
                have h4 := LZ.out z rfl
                have h5 := HSx.out
                have h2 := hl.keep z (by omega) (by omega) (by omega) hzv hzF
                exact ⟨h2.1.trans hzh, h2.2⟩)
              clear hl hx hzh hzv hzF hcell hok hml hwl hGN HZx HROW
              go_wp2_with (fail)
              refine CM2.out.mono ?_
              rintro e w10 ⟨rfl, vw10, Fb10, hw10, hb10, hl10⟩
              have HW10 := Lib.hid hw10
              have HB10 := Lib.hid (HBx.out.trans hb10)
              have HZ10 := Lib.hid (HZ2.out vw10 Fb10 w10 hl10)
              have HS10 := Lib.hid (Nat.le_trans HSx.out hl10.size)
              clear hw10 hb10 hl10 CM2 HZ2 HWx HBx HSx r0
              go_wp2
              go_roundw
              case rel => exact ⟨i + 1, n' + 1, vw10, Fb10, by omega, by go_num, by omega, by rw [HTK.out]; exact HW10, HB10, HS10, fun z' hz' => by
                simp at hz'
                subst hz'
                exact HZ10.out⟩
              case measure => simp [intOf]; omega
            · obtain rfl : i = T := by omega
              have e0 : nb.take i = nb := List.take_of_length_le (by rw [HROW.out.1]; exact Nat.le_refl _)
              have hw9 := HWx.out
              rw [e0] at hw9
              have hm1 := HMLT.out
              have hm2 := HMS.out
              obtain ⟨k', rfl⟩ : ∃ k', k = k' + 1 := ⟨k - 1, by omega⟩
              have HINV := Lib.hid (show InvW G q W level R w b bm bb (hitF g qa qn qc) wr k' from by
                refine ⟨_, n', vw', Fb', ?_, ?_, ?_, ?_, .inl h0, hw9, HBx.out⟩
                · have h1 := walkF_go (k := k') (g := G) (q := q) (W := W) (level := lev) (s := ⟨met, (d, cj) :: ws, best⟩) (c := (d, cj)) (ws := ws) rfl HNO.out
                  rw [HRK.out] at h1
                  rw [hle, h1]
                  show _ = G.walkF q W lev k' (G.meets q W ⟨met, ws, best⟩ (G.nbrs cj.toNat lev))
                  rw [HCJN.out, HNBE.out]
                · rw [hle]
                  exact H2OK.out
                · omega
                · omega)
              clear hw9 hm1 hm2 e0 HWx HBx HSx HZx HROW
              go_wp2
              go_roundw
              case rel => exact ⟨k', HINV⟩
              case measure =>
                have := (leastK_spec HINV.out).2
                omega
end
end Go.Proofs.YtadkfedglkhgjaaGreat
