/-
  The program's index of layer 12: its state; New, Len, Entry, node, top; link, Cut, what add leaves. (Merged out of Ka Kb Kc Kd Ke Kf Kg.)
-/
import Derived.Test.YtadkfedglkhgjaaGreatIM8
import Derived.Test.YtadkfedglkhgjaaGreatMe
namespace Go.Proofs.YtadkfedglkhgjaaGreat

section
open Go.RowKit Go.ChangeShapes Go.WideShapes Go.ChangeAt

def key32 (x : Nat) : Lit := .int .u32 (x : Int)
theorem key32_inj : ∀ a b : Nat, key32 a = key32 b → a = b := (fun a b h => by have h2 := (Lit.int.inj h).2; omega)
theorem key32_lit (x : Nat) : WideAt.IsKeyLit (key32 x) := by trivial
/-- An index: its graph, how many links, the width, the entry. -/
structure IdxV where
  g : GraphV
  most : Nat
  width : Nat
  entry : Int
/-- One that is there still: its Id, its place, the slice that holds the place. -/
structure StS where
  id : Nat
  p : Nat
  v : Value
def stE (S : List StS) : List (Lit × Value) := S.map fun s => (key32 s.id, s.v)
/-- What the map of those that are there still says. -/
structure StIs (w : World) (lo gm : Nat) (g : GraphV) (S : List StS) : Prop where
  map : MapE w Tryz.prog 27 gm (stE S)
  row : ∀ s ∈ S, IntsAt lo w s.v [s.p]
  each : ∀ s ∈ S, ∃ x, g.L[s.p]? = some x ∧ x.id = s.id ∧ x.til = 0
  all : ∀ p x, g.L[p]? = some x → x.til = 0 → ∃ s ∈ S, s.p = p
def fpS (S : List StS) : List Nat := S.flatMap fun s => ownB s.v
def idxC (m most width gg : Nat) (entry : Int) (gm : Nat) : List Value := [.int .u8 (m : Int), .int .i64 (most : Int), .int .i64 (width : Int), .pointer (some ⟨gg, 0, none⟩), .int .i64 entry, .map (some gm)]
/-- The program's index in plain words: in block x; F are all its blocks. -/
def IdxIs (w : World) (lo x : Nat) (F : List Nat) (s : IdxV) : Prop :=
  ∃ (gg gm : Nat) (Fg : List Nat) (S : List StS), Blk w x 87 (idxC s.g.m s.most s.width gg s.entry gm) ∧ GraphIs w lo gg Fg s.g ∧ StIs w lo gm s.g S ∧
    F = x :: gm :: (Fg ++ fpS S) ∧ lo ≤ x ∧ lo ≤ gm ∧ x ∉ Fg ∧ gm ∉ Fg ∧ (∀ b ∈ fpS S, b ∉ Fg) ∧ (1 ≤ s.most ∧ s.most ≤ 8) ∧ (1 ≤ s.width ∧ s.width ≤ 256)
section
variable {w w' : World} {lo x : Nat} {F : List Nat} {s : IdxV}
theorem StIs.fp_lt {gm : Nat} {g : GraphV} {S : List StS} (h : StIs w lo gm g S) : ∀ b ∈ fpS S, lo ≤ b ∧ b < w.heap.size := by
  intro b hb
  obtain ⟨s, hs, hb⟩ := List.mem_flatMap.1 hb
  have h1 := (h.row s hs).own
  exact World.ownsRow.lt h1 b (mem_ownB.1 hb)
theorem StIs.kept {G : List Nat} {gm : Nat} {g : GraphV} {S : List StS} (h : StIs w lo gm g S) (hk : Kept G w w') (h1 : gm ∉ G) (h2 : ∀ b ∈ fpS S, b ∉ G) : StIs w' lo gm g S :=
  ⟨h.map.kept hk h1, fun s hs => IntsAt.mk (hk.own (h.row s hs).own fun k e => h2 k (List.mem_flatMap.2 ⟨s, hs, mem_ownB.2 e⟩)), h.each, h.all⟩
theorem IdxIs.lt (h : IdxIs w lo x F s) : ∀ b ∈ F, lo ≤ b ∧ b < w.heap.size := by
  obtain ⟨gg, gm, Fg, S, h1, h2, h3, rfl, h4, h5, _⟩ := h
  intro b hb
  simp only [List.mem_cons, List.mem_append] at hb
  rcases hb with rfl | rfl | hb | hb
  · exact ⟨h4, h1.lt⟩
  · exact ⟨h5, h3.map.lt⟩
  · exact h2.lt b hb
  · exact h3.fp_lt b hb
theorem IdxIs.kept {G : List Nat} (h : IdxIs w lo x F s) (hk : Kept G w w') (hF : Apart G F) : IdxIs w' lo x F s := by
  obtain ⟨gg, gm, Fg, S, h1, h2, h3, rfl, h4⟩ := h
  exact ⟨gg, gm, Fg, S, hk.blk h1 fun e => hF x e (by simp), h2.kept hk fun b hb e => hF b hb (by simp [e]), h3.kept hk (fun e => hF gm e (by simp)) fun b hb e => hF b e (by simp [hb]), rfl, h4⟩
theorem IdxIs.on (h : IdxIs w lo x F s) (hb : Below w.heap.size w w') : IdxIs w' lo x F s := h.kept (G := []) (Kept.of_below hb (Nat.le_refl _)) (fun x hx => by simp at hx)
theorem IdxIs.right (h : IdxIs w lo x F s) : s.g.Right := by
  obtain ⟨_, _, _, _, _, h2, _⟩ := h
  exact h2.right
end

set_option maxHeartbeats 400000 in
theorem hentry_any (w : World) (lo x : Nat) (F : List Nat) (s : IdxV) (h : IdxIs w lo x F s) :
    Calls Tryz.prog 26 #[.pointer (some ⟨x, 0, none⟩)] w fun e w' => e = .returned (.int .i64 s.entry) ∧ w = w' := by
  obtain ⟨gg, gm, Fg, S, h1, -⟩ := h
  have c4 : w.cell? ⟨x, 4, none⟩ = some (.int .i64 s.entry) := h1.cell 4
  clear h1
  go_enter Tryz.func26, Tryz.ntmps26
  go_wp2
  go_ret
  exact ⟨rfl, rfl⟩
set_option maxHeartbeats 400000 in
theorem hlen_any (w : World) (lo x : Nat) (F : List Nat) (s : IdxV) (h : IdxIs w lo x F s) :
    Calls Tryz.prog 29 #[.pointer (some ⟨x, 0, none⟩)] w fun e w' => e = .returned (.int .i64 (s.g.L.length : Int)) ∧ w = w' := by
  obtain ⟨gg, gm, Fg, S, h1, h2, -⟩ := h
  have c3 : w.cell? ⟨x, 3, none⟩ = some (.pointer (some ⟨gg, 0, none⟩)) := h1.cell 3
  have CL := Lib.hid (len_is h2)
  clear h1 h2
  go_enter Tryz.func29, Tryz.ntmps29
  go_wp2_with (fail)
  refine CL.out.mono ?_
  rintro e w' ⟨rfl, rfl⟩
  go_wp2
  go_ret
  exact ⟨rfl, rfl⟩
set_option maxHeartbeats 400000 in
theorem hlevel_any (w : World) (y : NodeL) (lo : Nat) (h : w.ownsRow lo 62 1 y.pl y.ls.length y.ls) (hl : y.ls.length = y.links.length) (h5 : y.links.length ≤ 5) :
    Calls Tryz.prog 98 #[.agg y.cells.toArray] w fun e w' => e = .returned (.int .i64 ((y.links.length : Int) - 1)) ∧ Below w.heap.size w w' := by
  obtain ⟨a, n, c, hpl, hn⟩ := ownsRow_slice h
  show Calls _ _ #[.agg #[.int .u32 (y.it.id : Int), .slice y.it.pv.1 y.it.pv.2.1 y.it.pv.2.2, .slice y.it.pt.1 y.it.pt.2.1 y.it.pt.2.2, .int .u64 (y.frm : Int), .int .u64 (y.til : Int), y.pl]] _ _
  rw [hpl]
  have HN := Lib.hid (show n = y.links.length from by have := hn.out; omega)
  have hn5 : n ≤ 5 := by rw [HN.out]; exact h5
  have B1 := Lib.hid ((Below.refl _ w).alloc (Nat.le_refl _) (.cells #[.int .u32 (y.it.id : Int), .slice y.it.pv.1 y.it.pv.2.1 y.it.pv.2.2, .slice y.it.pt.1 y.it.pt.2.1 y.it.pt.2.2, .int .u64 (y.frm : Int), .int .u64 (y.til : Int), .slice a n c] 59))
  clear h hl hpl hn h5
  go_enter Tryz.func98, Tryz.ntmps98
  go_wp2
  go_ret
  refine ⟨?_, B1.out⟩
  rw [← HN.out]
  rfl

def IdxV.topI (s : IdxV) : Int := ((s.g.nodeOr s.entry).links.length : Int) - 1
set_option maxRecDepth 100000 in
set_option maxHeartbeats 1600000 in
theorem hnode_any (w : World) (lo x : Nat) (F : List Nat) (s : IdxV) (h : IdxIs w lo x F s) (i : Int) :
    Calls Tryz.prog 38 #[.pointer (some ⟨x, 0, none⟩), .int .i64 i] w fun e w' => ∃ y : NodeL, e = .returned (.agg y.cells.toArray) ∧ y.Own w.heap.size w' ∧ y.toV = s.g.nodeOr i ∧ Below w.heap.size w w' := by
  obtain ⟨w1, hw1⟩ : ∃ w1, w.alloc (.cells #[.int .u32 0, .slice none 0 0, .slice none 0 0, .int .u64 0, .int .u64 0, .slice none 0 0] 59) = w1 := ⟨_, rfl⟩
  have b1 : Below w.heap.size w w1 := by rw [← hw1]; exact (Below.refl _ w).alloc (Nat.le_refl _) _
  have D1 : Blk w1 w.heap.size 59 [.int .u32 0, .slice none 0 0, .slice none 0 0, .int .u64 0, .int .u64 0, .slice none 0 0] := by rw [← hw1]; exact Blk.new _ _ _
  have g1 := h.on b1
  have HD := Lib.hid D1
  have B1 := Lib.hid b1
  obtain ⟨gg, gm, Fg, S, h1, h2, -⟩ := g1
  have c3 : w1.cell? ⟨x, 3, none⟩ = some (.pointer (some ⟨gg, 0, none⟩)) := h1.cell 3
  have CN := Lib.hid (node_any w1 lo gg Fg s.g h2 i)
  clear h h1 h2 D1 b1
  go_enter Tryz.func38, Tryz.ntmps38
  go_wp2_with (first | (rw [hw1]) | fail)
  refine CN.out.mono ?_
  rintro e w2 ⟨y, rfl, hy, hyv, hb2⟩
  obtain ⟨qa, qm, qc, hql, -⟩ := ownsRow_slice hy.lrow
  rw [show y.cells.toArray = #[.int .u32 (y.it.id : Int), .slice y.it.pv.1 y.it.pv.2.1 y.it.pv.2.2, .slice y.it.pt.1 y.it.pt.2.1 y.it.pt.2.2, .int .u64 (y.frm : Int), .int .u64 (y.til : Int), .slice qa qm qc] from by rw [← hql]; rfl]
  obtain ⟨w3, hw3⟩ : ∃ w3, w2.alloc (.cells #[.int .u32 (y.it.id : Int), .slice y.it.pv.1 y.it.pv.2.1 y.it.pv.2.2, .slice y.it.pt.1 y.it.pt.2.1 y.it.pt.2.2, .int .u64 (y.frm : Int), .int .u64 (y.til : Int), .slice qa qm qc] 59) = w3 := ⟨_, rfl⟩
  have YC := Lib.hid (show y.cells.toArray = #[.int .u32 (y.it.id : Int), .slice y.it.pv.1 y.it.pv.2.1 y.it.pv.2.2, .slice y.it.pt.1 y.it.pt.2.1 y.it.pt.2.2, .int .u64 (y.frm : Int), .int .u64 (y.til : Int), .slice qa qm qc] from by rw [← hql]; rfl)
  have hb3 : Below w1.heap.size w1 w3 := by rw [← hw3]; exact hb2.alloc hb2.size _
  have D3 := (Kept.of_below (F := []) hb3 (Nat.le_refl _)).blk HD.out (by simp)
  have D4 : Blk w3 w2.heap.size 59 [.int .u32 (y.it.id : Int), .slice y.it.pv.1 y.it.pv.2.1 y.it.pv.2.2, .slice y.it.pt.1 y.it.pt.2.1 y.it.pt.2.2, .int .u64 (y.frm : Int), .int .u64 (y.til : Int), .slice qa qm qc] := by rw [← hw3]; exact Blk.new _ _ _
  obtain ⟨q0, q1, q2, q3, q4, q5, f0, f1, f2, f3, f4, f5⟩ := six_load w3 _ _ _ _ _ _ _ _ D3
  obtain ⟨p0, p1, p2, p3, p4, p5, -⟩ := six_load w3 _ _ _ _ _ _ _ _ D4
  have FF := Lib.hid (six_set (.int .u32 (y.it.id : Int)) (.slice y.it.pv.1 y.it.pv.2.1 y.it.pv.2.2) (.slice y.it.pt.1 y.it.pt.2.1 y.it.pt.2.2) (.int .u64 (y.frm : Int)) (.int .u64 (y.til : Int)) (.slice qa qm qc) D3)
  have B3 := Lib.hid (B1.out.trans (hb3.mono B1.out.size))
  have Y3 := Lib.hid (hy.on (show Below w2.heap.size w2 w3 from by rw [← hw3]; exact (Below.refl _ _).alloc (Nat.le_refl _) _))
  have YV := Lib.hid hyv
  have hs1 : w.heap.size < w1.heap.size := HD.out.lt
  clear hy hyv hb2 hb3 D3 D4 c3 hql CN
  go_wp2_with (first | (rw [hw3]) | fail)
  refine bodyPost_ret (results_cell_row rfl _ _ w.heap.size 59 #[.int .u32 (y.it.id : Int), .slice y.it.pv.1 y.it.pv.2.1 y.it.pv.2.2, .slice y.it.pt.1 y.it.pt.2.1 y.it.pt.2.2, .int .u64 (y.frm : Int), .int .u64 (y.til : Int), .slice qa qm qc] (0, 0) _ rfl FF.out.1 Tryz.underlying59 rfl node_sz11) rfl ?_
  refine ⟨y, by rw [YC.out], own_node Y3.out FF.out.2 (fun b hb => ?_) (by omega), YV.out, B3.out.trans (FF.out.2.below (by simp) B3.out.size)⟩
  simp at hb
  omega

set_option maxHeartbeats 400000 in
theorem htop_any (w : World) (lo x : Nat) (F : List Nat) (s : IdxV) (h : IdxIs w lo x F s) :
    Calls Tryz.prog 80 #[.pointer (some ⟨x, 0, none⟩)] w fun e w' => e = .returned (.int .i64 s.topI) ∧ Below w.heap.size w w' := by
  have CN := Lib.hid (hnode_any w lo x F s h s.entry)
  have HR := Lib.hid h.right
  obtain ⟨gg, gm, Fg, S, h1, -⟩ := h
  have c4 : w.cell? ⟨x, 4, none⟩ = some (.int .i64 s.entry) := h1.cell 4
  clear h1
  go_enter Tryz.func80, Tryz.ntmps80
  go_wp2_with (fail)
  refine CN.out.mono ?_
  rintro e w1 ⟨y, rfl, hy, hyv, hb⟩
  have h5 : y.links.length ≤ 5 := by
    rw [show y.links = y.toV.links from rfl, hyv]
    unfold GraphV.nodeOr
    split
    · rcases hx : s.g.L[s.entry.toNat]? with _ | z
      · simp [zeroNV]
      · exact HR.out.most _ (List.mem_of_getElem? hx)
    · simp [zeroNV]
  have CL := Lib.hid (hlevel_any w1 y w.heap.size hy.lrow hy.lens h5)
  have HT := Lib.hid (show ((y.links.length : Int) - 1) = s.topI from by unfold IdxV.topI; rw [← hyv]; rfl)
  have HB := Lib.hid hb
  obtain ⟨M, hM⟩ : ∃ M, Value.agg y.cells.toArray = M := ⟨_, rfl⟩
  obtain ⟨T, hT⟩ : ∃ T : Int, ((y.links.length : Int) - 1) = T := ⟨_, rfl⟩
  rw [hT] at CL HT
  rw [hM] at CL ⊢
  clear hy hyv hb h5 hT hM
  go_wp2_with (fail)
  refine CL.out.mono ?_
  rintro e w2 ⟨rfl, hb2⟩
  have HB2 := Lib.hid (HB.out.trans (hb2.mono HB.out.size))
  clear hb2
  go_wp2
  go_ret
  exact ⟨by rw [← HT.out]; rfl, HB2.out⟩
end

section
open Go.RowKit Go.ChangeShapes Go.WideShapes Go.ChangeAt

def mostN (l : Int) : Nat := (min (max l 1) 8).toNat
def newV (m most width : Nat) : IdxV := ⟨⟨m, []⟩, most, width, -1⟩
set_option maxHeartbeats 800000 in
theorem hwithout_any (w : World) (m most width : Nat) (hm : m < 256) (h1 : 1 ≤ most ∧ most ≤ 8) (h2 : 1 ≤ width ∧ width ≤ 256) :
    Calls Tryz.prog 52 #[.int .u8 (m : Int), .int .i64 (most : Int), .int .i64 (width : Int)] w fun e w' => ∃ x F, e = .returned (.pointer (some ⟨x, 0, none⟩)) ∧ IdxIs w' w.heap.size x F (newV m most width) ∧ Below w.heap.size w w' := by
  have CN := Lib.hid (gnew_any w m hm)
  have H1 := Lib.hid h1
  have H2 := Lib.hid h2
  have hmm := @run_makeMap Tryz.prog
  clear h1 h2 hm
  go_enter Tryz.func52, Tryz.ntmps52
  go_wp2_with (fail)
  refine CN.out.mono ?_
  rintro e w1 ⟨rfl, hg, hb⟩
  have HG := Lib.hid hg
  have HB := Lib.hid hb
  have hs : w.heap.size ≤ w1.heap.size := hb.size
  clear hg hb CN
  go_wp2
  go_ret
  have D2 := Blk.new (w1.alloc (.map #[] 0)) 87 #[.int .u8 (m : Int), .int .i64 (most : Int), .int .i64 (width : Int), .pointer (some ⟨w.heap.size, 0, none⟩), .int .i64 (-1), .map (some w1.heap.size)]
  have hl := HG.out.lt
  have b1 : Below w1.heap.size w1 ((w1.alloc (.map #[] 0)).alloc (.cells #[.int .u8 (m : Int), .int .i64 (most : Int), .int .i64 (width : Int), .pointer (some ⟨w.heap.size, 0, none⟩), .int .i64 (-1), .map (some w1.heap.size)] 87)) := ((Below.refl _ _).alloc (Nat.le_refl _) _).alloc (by simp) _
  have hs2 : (w1.alloc (.map #[] 0)).heap.size = w1.heap.size + 1 := by simp
  rw [hs2] at D2
  have hgl := HG.out.lt w.heap.size (by simp)
  refine ⟨_, _, rfl, ⟨w.heap.size, w1.heap.size, [w.heap.size], [], D2, HG.out.on b1, ⟨(MapE.made w1 _ _).on ((Below.refl _ _).alloc (Nat.le_refl _) _), by simp, by simp, ?_⟩, rfl, by omega, by omega, ?_, ?_, by simp [fpS], H1.out, H2.out⟩, HB.out.trans (b1.mono hs)⟩
  · intro p x hx
    simp [newV] at hx
  · simp
    omega
  · simp
    omega

set_option maxHeartbeats 800000 in
theorem hnew_any (w : World) (m : Nat) (hm : m < 256) (most width : Int) :
    Calls Tryz.prog 27 #[.int .u8 (m : Int), .int .i64 most, .int .i64 width] w fun e w' => ∃ x F, e = .returned (.pointer (some ⟨x, 0, none⟩)) ∧ IdxIs w' w.heap.size x F (newV m (mostN most) (widthN width)) ∧ Below w.heap.size w w' := by
  have CN := Lib.hid (fun (a b : Int) (ha : a = (mostN most : Int)) (hb : b = (widthN width : Int)) => show Calls Tryz.prog 52 #[.int .u8 (m : Int), .int .i64 a, .int .i64 b] w fun e w' => ∃ x F, e = .returned (.pointer (some ⟨x, 0, none⟩)) ∧ IdxIs w' w.heap.size x F (newV m (mostN most) (widthN width)) ∧ Below w.heap.size w w' from by
    subst ha hb
    exact hwithout_any w m (mostN most) (widthN width) hm (by unfold mostN; omega) (by unfold widthN; omega))
  clear hm
  go_enter Tryz.func27, Tryz.ntmps27
  go_wp2_with (fail)
  all_goals
    refine (CN.out _ _ (by unfold mostN; omega) (by unfold widthN; omega)).mono ?_
    rintro e w' ⟨x, F, rfl, hi, hb⟩
    have HI := Lib.hid hi
    have HB := Lib.hid hb
    clear hi hb CN
    go_wp2
    go_ret
    exact ⟨x, F, rfl, HI.out, HB.out⟩

set_option maxHeartbeats 1600000 in
theorem hthere_any (w : World) (y : NodeL) (v : Nat) (z : Bool) (hz : (decide (y.frm ≤ v) && (decide (y.til = 0) || decide (v < y.til))) = z) :
    Calls Tryz.prog 44 #[.agg y.cells.toArray, .int .u64 (v : Int)] w fun e w' => e = .returned (.bool z) ∧ Below w.heap.size w w' := by
  show Calls _ _ #[.agg #[.int .u32 (y.it.id : Int), .slice y.it.pv.1 y.it.pv.2.1 y.it.pv.2.2, .slice y.it.pt.1 y.it.pt.2.1 y.it.pt.2.2, .int .u64 (y.frm : Int), .int .u64 (y.til : Int), y.pl], _] _ _
  have HZ := Lib.hid hz
  clear hz
  go_enter Tryz.func44, Tryz.ntmps44
  go_wp2
  all_goals go_ret
  all_goals
    refine ⟨?_, (Below.refl _ w).alloc (Nat.le_refl _) _⟩
    rw [← HZ.out]
    clear HZ
    show Ending.returned (Value.bool _) = Ending.returned (Value.bool _)
    simp [*]
end

section
open Go.RowKit Go.ChangeShapes Go.WideShapes Go.ChangeAt

theorem pw_inj {α β : Type} {f : α → β} : ∀ {l : List α}, l.Pairwise (fun a b => f a ≠ f b) → ∀ a ∈ l, ∀ b ∈ l, f a = f b → a = b
  | [], _, a, ha, _, _, _ => by cases ha
  | x :: l, h, a, ha, b, hb, e => by
    have h1 := List.pairwise_cons.1 h
    rcases List.mem_cons.1 ha with ea | ha' <;> rcases List.mem_cons.1 hb with eb | hb'
    · rw [ea, eb]
    · exact absurd (by rw [← ea]; exact e) (h1.1 b hb')
    · exact absurd (by rw [← eb]; exact e.symm) (h1.1 a ha')
    · exact pw_inj h1.2 a ha' b hb' e
/-- What an Id and its end are, node for node. -/
def GraphV.keys (g : GraphV) : List (Nat × Nat) := g.L.map fun x => (x.id, x.til)
theorem keys_at {g : GraphV} {p : Nat} {x : NodeV} (h : g.L[p]? = some x) : g.keys[p]? = some (x.id, x.til) := by simp [GraphV.keys, h]
theorem keys_of {g : GraphV} {p : Nat} {k : Nat × Nat} (h : g.keys[p]? = some k) : ∃ x, g.L[p]? = some x ∧ (x.id, x.til) = k := by
  unfold GraphV.keys at h
  rw [List.getElem?_map] at h
  rcases e : g.L[p]? with _ | x
  · rw [e] at h; cases h
  · rw [e] at h
    exact ⟨x, rfl, Option.some.inj h⟩
section
variable {w w' : World} {lo x gm : Nat} {F : List Nat} {s : IdxV} {g g' : GraphV} {S : List StS}
theorem StIs.same (h : StIs w lo gm g S) (e : g'.keys = g.keys) : StIs w lo gm g' S := by
  refine ⟨h.map, h.row, fun s hs => ?_, fun p y hy h0 => ?_⟩
  · obtain ⟨y, h1, h2, h3⟩ := h.each s hs
    have h4 := keys_at h1
    rw [← e] at h4
    obtain ⟨z, h5, h6⟩ := keys_of h4
    simp only [Prod.mk.injEq] at h6
    exact ⟨z, h5, h6.1.trans h2, h6.2.trans h3⟩
  · have h4 := keys_at hy
    rw [e] at h4
    obtain ⟨z, h5, h6⟩ := keys_of h4
    simp only [Prod.mk.injEq] at h6
    exact h.all p z h5 (h6.2.trans h0)
theorem StIs.one (h : StIs w lo gm g S) {a b : StS} (ha : a ∈ S) (hb : b ∈ S) (e : a.id = b.id) : a = b := by
  have h1 := h.map.apart
  unfold stE at h1
  rw [List.pairwise_map] at h1
  exact pw_inj h1 a ha b hb (by simp [e])
/-- What a change leaves. -/
def HPost (lo x : Nat) (F : List Nat) (s' : IdxV) (w w' : World) : Prop := ∃ F', IdxIs w' lo x F' s' ∧ Kept F w w' ∧ Grows w F F'
theorem HPost.refl (h : IdxIs w lo x F s) : HPost lo x F s w w := ⟨F, h, Kept.refl _ _, Grows.refl _ _⟩
/-- A change of the graph alone. -/
theorem IdxIs.graph (h : IdxIs w lo x F s) : ∃ gg Fg, w.cell? ⟨x, 0, none⟩ = some (.int .u8 (s.g.m : Int)) ∧ w.cell? ⟨x, 1, none⟩ = some (.int .i64 (s.most : Int)) ∧ w.cell? ⟨x, 2, none⟩ = some (.int .i64 (s.width : Int)) ∧ w.cell? ⟨x, 3, none⟩ = some (.pointer (some ⟨gg, 0, none⟩)) ∧ w.cell? ⟨x, 4, none⟩ = some (.int .i64 s.entry) ∧
    (1 ≤ s.most ∧ s.most ≤ 8) ∧ (1 ≤ s.width ∧ s.width ≤ 256) ∧ GraphIs w lo gg Fg s.g ∧
    (∀ (w' : World) (Fg' : List Nat) (g' : GraphV), GraphIs w' lo gg Fg' g' → Kept Fg w w' → Grows w Fg Fg' → g'.m = s.g.m → g'.keys = s.g.keys → HPost lo x F { s with g := g' } w w') := by
  have hlt := h.lt
  obtain ⟨gg, gm, Fg, S, h1, h2, h3, rfl, h4, h5, h6, h7, h8, h9, h10⟩ := h
  refine ⟨gg, Fg, h1.cell 0, h1.cell 1, h1.cell 2, h1.cell 3, h1.cell 4, h9, h10, h2, ?_⟩
  intro w' Fg' g' e1 e2 e3 e4 e5
  have hm : ∀ b ∈ Fg, b ∈ x :: gm :: (Fg ++ fpS S) := fun b hb => by simp [hb]
  have hn : ∀ b, b ∉ Fg → b < w.heap.size → b ∉ Fg' := fun b hb hl hb' => by
    rcases e3 b hb' with h | h
    · exact hb h
    · omega
  refine ⟨x :: gm :: (Fg' ++ fpS S), ⟨gg, gm, Fg', S, ?_, e1, (h3.kept e2 h7 fun b hb => h8 b hb).same e5, rfl, h4, h5, hn x h6 h1.lt, hn gm h7 h3.map.lt, fun b hb => hn b (h8 b hb) (h3.fp_lt b hb).2, h9, h10⟩, e2.mono hm, ?_⟩
  · rw [e4]
    exact e2.blk h1 h6
  · intro b hb
    simp only [List.mem_cons, List.mem_append] at hb ⊢
    rcases hb with rfl | rfl | hb | hb
    · simp
    · simp
    · rcases e3 b hb with h | h
      · simp [h]
      · exact .inr h
    · simp [hb]
end
theorem link_keys (g : GraphV) (a b level most : Int) : (g.link a b level most).keys = g.keys ∧ (g.link a b level most).m = g.m := by
  unfold GraphV.link
  split
  · refine ⟨?_, rfl⟩
    unfold GraphV.keys GraphV.setLink
    refine List.ext_getElem? fun i => ?_
    simp only [List.getElem?_map, List.getElem?_modify]
    rcases g.L[i]? with _ | x
    · rfl
    · simp
      split <;> exact ⟨rfl, rfl⟩
  · exact ⟨rfl, rfl⟩
def IdxV.mostAt (s : IdxV) (level : Int) : Int := if level = 0 then 2 * (s.most : Int) else (s.most : Int)
def IdxV.link (s : IdxV) (a b level : Int) : IdxV := { s with g := s.g.link a b level (s.mostAt level) }
set_option maxRecDepth 100000 in
set_option maxHeartbeats 1600000 in
theorem hlink_any (w : World) (lo x : Nat) (F : List Nat) (s : IdxV) (h : IdxIs w lo x F s) (a b level : Int) :
    Calls Tryz.prog 59 #[.pointer (some ⟨x, 0, none⟩), .int .i64 a, .int .i64 b, .int .i64 level] w fun e w' => e = .returned (.tuple #[]) ∧ HPost lo x F (s.link a b level) w w' := by
  obtain ⟨gg, Fg, c0, c1, c2, c3, c4, ⟨hm1, hm8⟩, -, hg, hch⟩ := h.graph
  have HCH := Lib.hid hch
  have CL := Lib.hid (fun (most : Int) (hmost : Hid (most ≤ 9223372036854775807)) => link_is hg a b level most hmost)
  have HLK := Lib.hid (link_keys s.g a b level (s.mostAt level))
  have HM := Lib.hid (show s.mostAt level = if level = 0 then 2 * (s.most : Int) else (s.most : Int) from rfl)
  obtain ⟨M, hM⟩ : ∃ M, s.most = M := ⟨_, rfl⟩
  unfold IdxV.link
  rw [hM] at c1 hm1 hm8 HM
  clear h hg hch c0 c2 c4 hM
  by_cases h0 : level = 0
  · subst h0
    have CL0 := Lib.hid (CL.out (s.mostAt 0) (Lib.hid (by have := HM.out; simp at this; omega)))
    rw [show s.mostAt 0 = (M : Int) * 2 from by have := HM.out; simp at this; omega] at CL0 HLK ⊢
    clear CL HM
    go_enter Tryz.func59, Tryz.ntmps59
    go_wp2_with (fail)
    refine CL0.out.mono ?_
    rintro e w' ⟨rfl, Fg', e1, e2, e3⟩
    have FIN := Lib.hid (HCH.out w' Fg' _ e1 e2 e3 HLK.out.2 HLK.out.1)
    clear e1 e2 e3 HCH CL0 HLK
    go_wp2
    go_end0
    exact ⟨rfl, FIN.out⟩
  · have CL0 := Lib.hid (CL.out (s.mostAt level) (Lib.hid (by have := HM.out; simp [h0] at this; omega)))
    rw [show s.mostAt level = (M : Int) from by have := HM.out; simp [h0] at this; omega] at CL0 HLK ⊢
    have d0 : (level == 0) = false := by simpa using h0
    clear CL HM h0
    go_enter Tryz.func59, Tryz.ntmps59
    go_wp2_with (fail)
    refine CL0.out.mono ?_
    rintro e w' ⟨rfl, Fg', e1, e2, e3⟩
    have FIN := Lib.hid (HCH.out w' Fg' _ e1 e2 e3 HLK.out.2 HLK.out.1)
    clear e1 e2 e3 HCH CL0 HLK
    go_wp2
    go_end0
    exact ⟨rfl, FIN.out⟩
end

section
open Go.RowKit Go.ChangeShapes Go.WideShapes Go.ChangeAt Go.Maps

def cutK (id v : Nat) (x : NodeV) : NodeV := if x.id = id ∧ x.til = 0 then { x with til := v } else x
def GraphV.cutG (g : GraphV) (id v : Nat) : GraphV := ⟨g.m, g.L.map (cutK id v)⟩
def GraphV.cutB (g : GraphV) (id : Nat) : Bool := g.L.any fun x => decide (x.id = id ∧ x.til = 0)
theorem cutK_same (id v : Nat) (x : NodeV) : (cutK id v x).id = x.id ∧ (cutK id v x).links = x.links ∧ (cutK id v x).vec = x.vec ∧ (cutK id v x).tags = x.tags ∧ (cutK id v x).frm = x.frm := by
  unfold cutK
  split <;> exact ⟨rfl, rfl, rfl, rfl, rfl⟩
section
variable {w w1 w2 : World} {lo x gm gg id v : Nat} {F Fg : List Nat} {s : IdxV} {g g' : GraphV} {S : List StS}
theorem ints_not_map {l : List Nat} {vv : Value} {P : Program} {k : TypeId} {E : List (Lit × Value)} (h : IntsAt lo w vv l) (hm : MapE w P k gm E) : gm ∉ ownB vv := by
  intro hb
  have hb := mem_ownB.1 hb
  obtain ⟨es, c, hh⟩ := hm.obj
  rcases h.own.2 with ⟨rfl, h0⟩ | ⟨b, cap, cur, rfl, hg, hh', _⟩
  · cases hb
  · simp only [Value.ownBlock, Option.some.injEq] at hb
    subst hb
    rw [hh] at hh'
    cases hh'
theorem StIs.at (h : StIs w lo gm g S) (hb : g.cutB id = true) : ∃ t ∈ S, t.id = id := by
  obtain ⟨y, hy, hd⟩ := List.any_eq_true.1 hb
  obtain ⟨h1, h2⟩ := of_decide_eq_true hd
  obtain ⟨p, hp⟩ := List.getElem?_of_mem hy
  obtain ⟨t, ht, rfl⟩ := h.all p y hp h2
  obtain ⟨z, h3, h4, -⟩ := h.each t ht
  rw [hp] at h3
  cases h3
  exact ⟨t, ht, h4.symm.trans h1⟩
theorem StIs.none (h : StIs w lo gm g S) (hb : g.cutB id = false) : ∀ t ∈ S, t.id ≠ id := by
  intro t ht e
  obtain ⟨z, h3, h4, h5⟩ := h.each t ht
  have := List.any_eq_false.1 hb z (List.mem_of_getElem? h3)
  exact this (decide_eq_true ⟨h4.trans e, h5⟩)
theorem StIs.cut_is (h : StIs w lo gm g S) {t : StS} (ht : t ∈ S) (v : Nat) : g.till (t.p : Int) v = g.cutG t.id v ∧ g.cutB t.id = true := by
  obtain ⟨z, h3, h4, h5⟩ := h.each t ht
  have hl := (List.getElem?_eq_some_iff.1 h3).1
  refine ⟨?_, List.any_eq_true.2 ⟨z, List.mem_of_getElem? h3, decide_eq_true ⟨h4, h5⟩⟩⟩
  unfold GraphV.till GraphV.cutG
  rw [if_pos (show g.thereB (t.p : Int) = true from decide_eq_true (by omega))]
  congr 1
  refine List.ext_getElem? fun i => ?_
  rw [List.getElem?_modify, List.getElem?_map, Int.toNat_natCast]
  rcases hi : g.L[i]? with _ | y
  · rfl
  · by_cases hp : t.p = i
    · subst hp
      rw [h3] at hi
      cases hi
      simp [cutK, h4, h5]
    · simp only [Option.map_some, hp, if_false]
      unfold cutK
      rw [if_neg]
      · rfl
      · rintro ⟨e1, e2⟩
        obtain ⟨t', ht', rfl⟩ := h.all i y hi e2
        obtain ⟨z', h3', h4', -⟩ := h.each t' ht'
        rw [hi] at h3'
        cases h3'
        exact hp (congrArg StS.p (h.one ht ht' (e1.symm.trans h4')))
theorem cut_none (hb : g.cutB id = false) (v : Nat) : g.cutG id v = g := by
  unfold GraphV.cutG
  cases g with
  | mk m L =>
    congr 1
    refine (List.map_congr_left fun y hy => ?_).trans (List.map_id L)
    unfold cutK
    rw [if_neg fun e => ?_]
    · rfl
    · exact List.any_eq_false.1 hb y hy (decide_eq_true e)
theorem dropE_st (S : List StS) (id : Nat) : dropE (stE S) (key32 id) = stE (S.filter fun t => decide (t.id ≠ id)) := by
  unfold dropE stE
  rw [List.filter_map]
  congr 1
  refine List.filter_congr fun p _ => ?_
  show (!(key32 p.id).sameKey (key32 id)) = _
  by_cases h : p.id = id
  · rw [h, WideAt.sameKey_self (key32_lit id)]
    simp
  · rw [sameKey_ne (fun e => h (key32_inj _ _ e)), decide_eq_true h]
    rfl
theorem StIs.cut (h : StIs w lo gm g S) (hFg : gm ∉ Fg) (hS : ∀ b ∈ fpS S, b ∉ Fg) (hv : v ≠ 0) (k1 : Kept Fg w w1) (hM : MapE w2 Tryz.prog 27 gm (dropE (stE S) (key32 id))) (k2 : Kept [gm] w1 w2) : StIs w2 lo gm (g.cutG id v) (S.filter fun t => decide (t.id ≠ id)) := by
  have h1 := h.kept k1 hFg hS
  refine ⟨by rw [← dropE_st]; exact hM, fun t ht => ?_, fun t ht => ?_, fun p y hy h0 => ?_⟩
  · have ht' := (List.mem_filter.1 ht).1
    exact IntsAt.mk (k2.own (h1.row t ht').own fun k e => by
      rw [List.mem_singleton]
      rintro rfl
      exact ints_not_map (h1.row t ht') h1.map (mem_ownB.2 e))
  · obtain ⟨ht', hne⟩ := List.mem_filter.1 ht
    obtain ⟨z, h3, h4, h5⟩ := h.each t ht'
    have hne := of_decide_eq_true hne
    refine ⟨z, ?_, h4, h5⟩
    unfold GraphV.cutG
    rw [List.getElem?_map, h3, Option.map_some]
    unfold cutK
    rw [if_neg fun e => hne (h4.symm.trans e.1)]
  · unfold GraphV.cutG at hy
    rw [List.getElem?_map] at hy
    rcases hz : g.L[p]? with _ | z
    · rw [hz] at hy; cases hy
    · rw [hz, Option.map_some] at hy
      have e := Option.some.inj hy
      subst e
      unfold cutK at h0
      by_cases hc : z.id = id ∧ z.til = 0
      · rw [if_pos hc] at h0
        exact absurd h0 hv
      · rw [if_neg hc] at h0
        obtain ⟨t, ht, rfl⟩ := h.all p z hz h0
        refine ⟨t, List.mem_filter.2 ⟨ht, decide_eq_true fun e => hc ⟨?_, h0⟩⟩, rfl⟩
        obtain ⟨z', h3, h4, -⟩ := h.each t ht
        rw [hz] at h3
        cases h3
        exact h4.trans e
theorem IdxIs.cutFin (h1 : Blk w x 87 (idxC s.g.m s.most s.width gg s.entry gm)) (h3 : StIs w lo gm s.g S) (h4 : lo ≤ x) (h5 : lo ≤ gm) (h6 : x ∉ Fg) (h7 : gm ∉ Fg) (h8 : ∀ b ∈ fpS S, b ∉ Fg) (h9 : 1 ≤ s.most ∧ s.most ≤ 8) (h10 : 1 ≤ s.width ∧ s.width ≤ 256) (hv : v ≠ 0)
    (hg1 : GraphIs w1 lo gg Fg (s.g.cutG id v)) (k1 : Kept Fg w w1) (hM : MapE w2 Tryz.prog 27 gm (dropE (stE S) (key32 id))) (k2 : Kept [gm] w1 w2) : HPost lo x (x :: gm :: (Fg ++ fpS S)) { s with g := s.g.cutG id v } w w2 := by
  have hxg : x ≠ gm := fun e => MapE.ne_blk h3.map h1 e.symm
  have hsub : ∀ b ∈ fpS (S.filter fun t => decide (t.id ≠ id)), b ∈ fpS S := fun b hb => by
    obtain ⟨t, ht, hb⟩ := List.mem_flatMap.1 hb
    exact List.mem_flatMap.2 ⟨t, (List.mem_filter.1 ht).1, hb⟩
  refine ⟨x :: gm :: (Fg ++ fpS (S.filter fun t => decide (t.id ≠ id))), ⟨gg, gm, Fg, _, k2.blk (k1.blk h1 h6) (by simpa using hxg), hg1.kept k2 (fun b hb e => h7 (by rw [List.mem_singleton.1 hb] at e; exact e)), h3.cut h7 h8 hv k1 hM k2, rfl, h4, h5, h6, h7, fun b hb => h8 b (hsub b hb), h9, h10⟩, ?_, ?_⟩
  · exact (k1.mono fun b hb => by simp [hb]).trans (k2.mono fun b hb => by simp at hb; simp [hb]) (Grows.refl _ _)
  · intro b hb
    simp only [List.mem_cons, List.mem_append] at hb ⊢
    rcases hb with rfl | rfl | hb | hb
    · simp
    · simp
    · simp [hb]
    · exact .inl (.inr (.inr (.inr (hsub b hb))))
end
end

section
open Go.RowKit Go.ChangeShapes Go.WideShapes Go.ChangeAt Go.Maps

theorem u32_wfK {v : Nat} (h : v < 4294967296) : (Lit.int .u32 (v : Int)).wf = true := by
  simp [Lit.wf, IntKind.min, IntKind.max, IntKind.signed, IntKind.bits]
  omega
section
variable {ops : Array Oper} {rest : List Oper} {o : Oper} {a : Act} {Q : Exit → Act → World → Prop}
theorem st_ok (w : World) (hg : o.guard = none) (m x : Operand) (hop : o.op = Op.lookup 85 m x true) (b : Nat) (E : List (Lit × Value)) (hm : a.eval m = .map (some b)) (h : MapE w Tryz.prog 27 b E) (id : Nat) (hid : id < 4294967296) (hx : a.eval x = .int .u32 (id : Int)) (z : Value) (hz : (key32 id, z) ∈ E)
    (hK : wpList Tryz.prog ops Q rest (a.put o.dst (.tuple #[z, .bool true])) w) : wpList Tryz.prog ops Q (o :: rest) a w :=
  map_ok_found w hg m x _ hop 27 62 (Maps.int_keyed Tryz.underlying27) Tryz.underlying85 (Tryz.zeroValue62 w) b E hm h _ (key32 id) hx (Maps.keyOf_int_mk Tryz.underlying27 (u32_wfK hid)) (key32_lit id) z hz hK
theorem st_ok_none (w : World) (hg : o.guard = none) (m x : Operand) (hop : o.op = Op.lookup 85 m x true) (b : Nat) (E : List (Lit × Value)) (hm : a.eval m = .map (some b)) (h : MapE w Tryz.prog 27 b E) (id : Nat) (hid : id < 4294967296) (hx : a.eval x = .int .u32 (id : Int)) (hn : ∀ p ∈ E, p.1 ≠ key32 id)
    (hK : wpList Tryz.prog ops Q rest (a.put o.dst (.tuple #[.slice none 0 0, .bool false])) w) : wpList Tryz.prog ops Q (o :: rest) a w :=
  map_ok_none w hg m x _ hop 27 62 (Maps.int_keyed Tryz.underlying27) Tryz.underlying85 (Tryz.zeroValue62 w) b E hm h _ (key32 id) hx (Maps.keyOf_int_mk Tryz.underlying27 (u32_wfK hid)) hn hK
theorem st_none (w : World) (hg : o.guard = none) (m x : Operand) (hop : o.op = Op.lookup 85 m x false) (b : Nat) (E : List (Lit × Value)) (hm : a.eval m = .map (some b)) (h : MapE w Tryz.prog 27 b E) (id : Nat) (hid : id < 4294967296) (hx : a.eval x = .int .u32 (id : Int)) (hn : ∀ p ∈ E, p.1 ≠ key32 id)
    (hK : wpList Tryz.prog ops Q rest (a.put o.dst (.slice none 0 0)) w) : wpList Tryz.prog ops Q (o :: rest) a w :=
  map_none w hg m x _ hop 27 62 (Maps.int_keyed Tryz.underlying27) Tryz.underlying85 (Tryz.zeroValue62 w) b E hm h _ (key32 id) hx (Maps.keyOf_int_mk Tryz.underlying27 (u32_wfK hid)) hn hK
theorem st_put (w : World) (hg : o.guard = none) (m x y : Operand) (hop : o.op = Op.mapUpdate 85 m x y) (b : Nat) (E : List (Lit × Value)) (hl : E.length ≤ 1000000) (hm : a.eval m = .map (some b)) (h : MapE w Tryz.prog 27 b E) (id : Nat) (hid : id < 4294967296) (hx : a.eval x = .int .u32 (id : Int)) (z : Value) (hy : a.eval y = z)
    (hK : ∀ w', MapE w' Tryz.prog 27 b (putE E (key32 id) z) → Kept [b] w w' → wpList Tryz.prog ops Q rest (a.put o.dst undef) w') : wpList Tryz.prog ops Q (o :: rest) a w :=
  map_put w hg m x y _ hop 27 62 (Maps.int_keyed Tryz.underlying27) Tryz.underlying85 b E hl hm h _ z (key32 id) hx hy (Maps.keyOf_int_mk Tryz.underlying27 (u32_wfK hid)) (key32_lit id) hK
theorem st_del (w : World) (hg : o.guard = none) (m x : Operand) (hop : o.op = Op.call { callee := Callee.builtin Builtin.delete, args := #[m, x], argTypes := #[85, 27] }) (b : Nat) (E : List (Lit × Value)) (hm : a.eval m = .map (some b)) (h : MapE w Tryz.prog 27 b E) (id : Nat) (hid : id < 4294967296) (hx : a.eval x = .int .u32 (id : Int))
    (hK : ∀ w', MapE w' Tryz.prog 27 b (dropE E (key32 id)) → Kept [b] w w' → wpList Tryz.prog ops Q rest (a.put o.dst (.tuple #[])) w') : wpList Tryz.prog ops Q (o :: rest) a w :=
  map_del w hg m x _ _ hop 62 (Maps.int_keyed Tryz.underlying27) Tryz.underlying85 b E hm h _ (key32 id) hx (Maps.keyOf_int_mk Tryz.underlying27 (u32_wfK hid)) hK
end
theorem int_one {w : World} {lo p : Nat} {v : Value} (h : IntsAt lo w v [p]) : ∃ b c, v = .slice (some ⟨b, 0, none⟩) 1 c ∧ w.cell? ⟨b, 0, none⟩ = some (.int .i64 (p : Int)) ∧ b < w.heap.size := by
  rcases own_cells1 (show w.ownsRow lo 3 1 _ (intsC [p]).length (intsC [p]) from h.own) with ⟨_, h2⟩ | ⟨g, c, h1, _, _, h4, h5⟩
  · cases h2
  · exact ⟨g, c, h1, h5 0 (by simp), h4⟩
theorem stE_not {S : List StS} {id : Nat} (h : ∀ t ∈ S, t.id ≠ id) : ∀ p ∈ stE S, p.1 ≠ key32 id := by
  intro p hp
  obtain ⟨t, ht, rfl⟩ := List.mem_map.1 hp
  exact fun e => h t ht (key32_inj _ _ e)

set_option maxRecDepth 100000 in
set_option maxHeartbeats 1600000 in
theorem hcut_any (w : World) (lo x : Nat) (F : List Nat) (s : IdxV) (h : IdxIs w lo x F s) (id v : Nat) (hid : id < 4294967296) (hv : v ≠ 0) (hv64 : v < 18446744073709551616) :
    Calls Tryz.prog 25 #[.pointer (some ⟨x, 0, none⟩), .int .u32 (id : Int), .int .u64 (v : Int)] w fun e w' => e = .returned (.bool (s.g.cutB id)) ∧ HPost lo x F { s with g := s.g.cutG id v } w w' := by
  obtain ⟨gg, gm, Fg, S, h1, h2, h3, rfl, h4, h5, h6, h7, h8, h9, h10⟩ := h
  have c3 : w.cell? ⟨x, 3, none⟩ = some (.pointer (some ⟨gg, 0, none⟩)) := h1.cell 3
  have c5 : w.cell? ⟨x, 5, none⟩ = some (.map (some gm)) := h1.cell 5
  have HXL := Lib.hid h1.lt
  have HXG := Lib.hid h6
  have HGM := Lib.hid h7
  have HS := Lib.hid h3
  have HMP := Lib.hid h3.map
  have FIN := Lib.hid (fun (w1 w2 : World) (hg1 : GraphIs w1 lo gg Fg (s.g.cutG id v)) (k1 : Kept Fg w w1) (hM : MapE w2 Tryz.prog 27 gm (dropE (stE S) (key32 id))) (k2 : Kept [gm] w1 w2) => IdxIs.cutFin h1 h3 h4 h5 h6 h7 h8 h9 h10 hv hg1 k1 hM k2)
  have hv0 : ¬ v = 0 := hv
  cases hz : s.g.cutB id with
  | false =>
    have HN := Lib.hid (stE_not (h3.none hz))
    have HG := Lib.hid (show GraphIs w lo gg Fg (s.g.cutG id v) from by rw [cut_none hz]; exact h2)
    clear h1 h2 h3 h4 h5 h6 h7 h8 h9 h10 hz hv
    go_enter Tryz.func25, Tryz.ntmps25
    go_wp2_with (first | (at_lookup; refine st_ok_none _ rfl _ _ rfl gm _ rfl HMP.out id hid rfl HN.out ?_) | fail)
    go_loopw [22] (fun s22 wr => s22 = .int .i64 0 ∧ wr = w) (fun _ _ => 0)
    case atStart => exact ⟨rfl, rfl⟩
    case round =>
      obtain ⟨rfl, rfl⟩ := hrel
      go_wp2_with (first | (at_delete; refine st_del _ rfl _ _ rfl gm _ rfl HMP.out id hid rfl ?_; intro w2 hM2 hk2) | fail)
      go_ret
      exact ⟨rfl, FIN.out _ w2 HG.out (Kept.refl _ _) hM2 hk2⟩
  | true =>
    obtain ⟨t, ht, rfl⟩ := h3.at hz
    have HC := h3.cut_is ht v
    obtain ⟨b, c, hb, r0, -⟩ := int_one (h3.row t ht)
    obtain ⟨p, hp⟩ : ∃ p, t.p = p := ⟨_, rfl⟩
    rw [hp] at HC r0
    have HIN := Lib.hid (show (key32 t.id, Value.slice (some ⟨b, 0, none⟩) 1 c) ∈ stE S from List.mem_map.2 ⟨t, ht, by rw [hb]⟩)
    have CU := Lib.hid (until_any w lo gg Fg s.g h2 (p : Int) v hv64 _ rfl)
    rw [HC.1] at CU
    obtain ⟨id, hid2⟩ : ∃ id, t.id = id := ⟨_, rfl⟩
    rw [hid2] at HIN CU FIN hid ⊢
    have KX := Lib.hid (fun (w1 : World) (k1 : Kept Fg w w1) => show w1.cell? ⟨x, 5, none⟩ = some (.map (some gm)) from (k1.cell (p := ⟨x, 5, none⟩) HXL.out HXG.out).trans c5)
    have KM := Lib.hid (fun (w1 : World) (k1 : Kept Fg w w1) => HMP.out.kept k1 HGM.out)
    clear h1 h2 h3 h4 h5 h6 h7 h8 h9 h10 hz hv ht hb HC hp hid2 HS
    go_enter Tryz.func25, Tryz.ntmps25
    go_wp2_with (first | (at_lookup; refine st_ok _ rfl _ _ rfl gm _ rfl HMP.out id hid rfl _ HIN.out ?_) | fail)
    go_loopw [22] (fun s22 wr => (s22 = .int .i64 0 ∧ wr = w) ∨ (s22 = .int .i64 1 ∧ Hid (GraphIs wr lo gg Fg (s.g.cutG id v)) ∧ Hid (Kept Fg w wr))) (fun s22 _ => 1 - (intOf s22).toNat)
    case atStart => exact .inl ⟨rfl, rfl⟩
    case round =>
      rcases hrel with ⟨rfl, rfl⟩ | ⟨rfl, HG, HK⟩
      · go_wp2_with (fail)
        refine CU.out.mono ?_
        rintro e w' ⟨rfl, hg, hk⟩
        have HG := Lib.hid hg
        have HK := Lib.hid hk
        clear hg hk CU
        go_wp2_with (fail)
        go_roundw
        case rel => exact .inr ⟨by go_num, HG, HK⟩
        case measure => simp [intOf]
      · have c5' := KX.out wr HK.out
        have M' := Lib.hid (KM.out wr HK.out)
        go_wp2_with (first | (at_delete; refine st_del _ rfl _ _ rfl gm _ rfl M'.out id hid rfl ?_; intro w2 hM2 hk2) | fail)
        go_ret
        exact ⟨rfl, FIN.out wr w2 HG.out HK.out hM2 hk2⟩
end

section
open Go.RowKit Go.ChangeShapes Go.WideShapes Go.ChangeAt Go.Maps

section
variable {w w1 w2 : World} {lo x gm gg id v : Nat} {F Fg : List Nat} {s : IdxV} {g g' : GraphV} {S : List StS}
theorem keys_len (g : GraphV) : g.keys.length = g.L.length := by simp [GraphV.keys]
theorem StIs.more (h : StIs w lo gm g S) {u : Nat} (hu : u ≠ 0) (e : g'.keys = g.keys ++ [(id, u)]) : StIs w lo gm g' S := by
  refine ⟨h.map, h.row, fun t ht => ?_, fun p y hy h0 => ?_⟩
  · obtain ⟨y, h1, h2, h3⟩ := h.each t ht
    have h4 := keys_at h1
    have hl := (List.getElem?_eq_some_iff.1 h4).1
    have h5 : g'.keys[t.p]? = some (y.id, y.til) := by rw [e, List.getElem?_append_left hl]; exact h4
    obtain ⟨z, h6, h7⟩ := keys_of h5
    simp only [Prod.mk.injEq] at h7
    exact ⟨z, h6, h7.1.trans h2, h7.2.trans h3⟩
  · have h4 := keys_at hy
    rw [e] at h4
    by_cases hp : p < g.keys.length
    · rw [List.getElem?_append_left hp] at h4
      obtain ⟨z, h6, h7⟩ := keys_of h4
      simp only [Prod.mk.injEq] at h7
      exact h.all p z h6 (h7.2.trans h0)
    · rw [List.getElem?_append_right (by omega)] at h4
      rcases hk : p - g.keys.length with _ | k
      · rw [hk] at h4
        simp at h4
        omega
      · rw [hk] at h4
        simp at h4
theorem StIs.one_more (h : StIs w1 lo gm g S) (hrow : ∀ t ∈ S, IntsAt lo w t.v [t.p]) {vv : Value} (e : g'.keys = g.keys ++ [(id, 0)]) (hM : MapE w Tryz.prog 27 gm (stE S ++ [(key32 id, vv)])) (hr : IntsAt lo w vv [g.L.length]) : StIs w lo gm g' (S ++ [⟨id, g.L.length, vv⟩]) := by
  have hgl := keys_len g
  refine ⟨by unfold stE at hM ⊢; rw [List.map_append]; exact hM, fun t ht => ?_, fun t ht => ?_, fun p y hy h0 => ?_⟩
  · rcases List.mem_append.1 ht with ht | ht
    · exact hrow t ht
    · rw [List.mem_singleton.1 ht]
      exact hr
  · rcases List.mem_append.1 ht with ht | ht
    · obtain ⟨y, h1, h2, h3⟩ := h.each t ht
      have h4 := keys_at h1
      have hl := (List.getElem?_eq_some_iff.1 h4).1
      have h5 : g'.keys[t.p]? = some (y.id, y.til) := by rw [e, List.getElem?_append_left hl]; exact h4
      obtain ⟨z, h6, h7⟩ := keys_of h5
      simp only [Prod.mk.injEq] at h7
      exact ⟨z, h6, h7.1.trans h2, h7.2.trans h3⟩
    · rw [List.mem_singleton.1 ht]
      have h5 : g'.keys[g.L.length]? = some (id, 0) := by
        rw [e, List.getElem?_append_right (by omega), hgl, Nat.sub_self]
        rfl
      obtain ⟨z, h6, h7⟩ := keys_of h5
      simp only [Prod.mk.injEq] at h7
      exact ⟨z, h6, h7.1, h7.2⟩
  · have h4 := keys_at hy
    rw [e] at h4
    by_cases hp : p < g.keys.length
    · rw [List.getElem?_append_left hp] at h4
      obtain ⟨z, h6, h7⟩ := keys_of h4
      simp only [Prod.mk.injEq] at h7
      obtain ⟨t, ht, e2⟩ := h.all p z h6 (h7.2.trans h0)
      exact ⟨t, List.mem_append.2 (.inl ht), e2⟩
    · rw [List.getElem?_append_right (by omega)] at h4
      rcases hk : p - g.keys.length with _ | k
      · exact ⟨_, List.mem_append.2 (.inr (List.mem_singleton.2 rfl)), by show g.L.length = p; omega⟩
      · rw [hk] at h4
        simp at h4
theorem put_absent {E : List (Lit × Value)} {k : Nat} (hn : ∀ p ∈ E, p.1 ≠ key32 k) (z : Value) : putE E (key32 k) z = E ++ [(key32 k, z)] := by
  unfold putE dropE
  rw [List.filter_eq_self.2 fun p hp => ?_]
  rw [sameKey_ne (hn p hp)]
  rfl
/-- The index as it stands behind one more node, out of its parts. -/
theorem IdxIs.parts (hb : Blk w2 x 87 (idxC s.g.m s.most s.width gg s.entry gm)) (hg : GraphIs w2 lo gg Fg s.g) (hs : StIs w2 lo gm s.g S) (h4 : lo ≤ x) (h5 : lo ≤ gm) (h6 : x ∉ Fg) (h7 : gm ∉ Fg) (h8 : ∀ b ∈ fpS S, b ∉ Fg) (h9 : 1 ≤ s.most ∧ s.most ≤ 8) (h10 : 1 ≤ s.width ∧ s.width ≤ 256)
    (hk : Kept F w w2) (hG : ∀ b ∈ x :: gm :: (Fg ++ fpS S), b ∈ F ∨ w.heap.size ≤ b) : HPost lo x F s w w2 :=
  ⟨_, ⟨gg, gm, Fg, S, hb, hg, hs, rfl, h4, h5, h6, h7, h8, h9, h10⟩, hk, hG⟩
end
def nodeN (y : ItL) (level v u : Nat) : NodeV := ⟨y.id, y.vec, y.tags, v, u, List.replicate (level + 1) []⟩
def IdxV.add (s : IdxV) (x : NodeV) : IdxV := { s with g := s.g.add x, entry := if s.topI < (x.links.length : Int) - 1 then (s.g.L.length : Int) else s.entry }
theorem add_keys (g : GraphV) (x : NodeV) : (g.add x).keys = g.keys ++ [(x.id, x.til)] := by simp [GraphV.keys, GraphV.add]
theorem add_till (g : GraphV) (y : ItL) (level v u : Nat) : (g.add (newN y.id y.vec y.tags level v)).till (g.L.length : Int) u = g.add (nodeN y level v u) := by
  unfold GraphV.till
  rw [if_pos (show (g.add (newN y.id y.vec y.tags level v)).thereB (g.L.length : Int) = true from decide_eq_true (by simp [GraphV.add]; omega))]
  unfold GraphV.add nodeN newN
  congr 1
  refine List.ext_getElem? fun i => ?_
  rw [List.getElem?_modify, Int.toNat_natCast]
  by_cases hi : i < g.L.length
  · rw [List.getElem?_append_left hi, List.getElem?_append_left hi]
    have hne : ¬ g.L.length = i := by omega
    simp [hne]
  · rw [List.getElem?_append_right (by omega), List.getElem?_append_right (by omega)]
    rcases hk : i - g.L.length with _ | k
    · have e : g.L.length = i := by omega
      simp [e]
    · simp
end

section
open Go.RowKit Go.ChangeShapes Go.WideShapes Go.ChangeAt Go.Maps

section
variable {w wt w4 w5 : World} {lo x gm gg : Nat} {F Fg F3 : List Nat} {s : IdxV} {g1 : GraphV} {S S2 : List StS}
theorem IdxIs.mid (h1 : Blk w x 87 (idxC s.g.m s.most s.width gg s.entry gm)) (h3 : StIs w lo gm s.g S) (h6 : x ∉ Fg) (h7 : gm ∉ Fg) (h8 : ∀ b ∈ fpS S, b ∉ Fg)
    (hb : Below w.heap.size w wt) (k4 : Kept Fg wt w4) (g3 : Grows wt Fg F3) :
    Blk w4 x 87 (idxC s.g.m s.most s.width gg s.entry gm) ∧ StIs w4 lo gm s.g S ∧ x ∉ F3 ∧ gm ∉ F3 ∧ (∀ b ∈ fpS S, b ∉ F3) ∧ Kept (x :: gm :: (Fg ++ fpS S)) w w4 ∧ (∀ b ∈ F3, b ∈ Fg ∨ w.heap.size ≤ b) ∧ w.heap.size ≤ w4.heap.size ∧ gm < w.heap.size ∧ x < w.heap.size ∧ (∀ b ∈ fpS S, b < w.heap.size) := by
  have hbk : Kept [] w wt := Kept.of_below hb (Nat.le_refl _)
  have hs := hb.size
  have e1 := hbk.blk h1 (by simp)
  have e3 := h3.kept hbk (by simp) (by simp)
  have hn : ∀ b, b ∉ Fg → b < w.heap.size → b ∉ F3 := fun b hb1 hl hb' => by
    rcases g3 b hb' with h | h
    · exact hb1 h
    · omega
  refine ⟨k4.blk e1 h6, e3.kept k4 h7 h8, hn x h6 h1.lt, hn gm h7 h3.map.lt, fun b hb => hn b (h8 b hb) (h3.fp_lt b hb).2, ?_, ?_, Nat.le_trans hs k4.size, h3.map.lt, h1.lt, fun b hb => (h3.fp_lt b hb).2⟩
  · exact (Kept.of_below (F := x :: gm :: (Fg ++ fpS S)) hb (Nat.le_refl _)).trans (k4.mono fun b hb => by simp [hb]) (Grows.refl _ _)
  · intro b hb
    rcases g3 b hb with h | h
    · exact .inl h
    · exact .inr (by omega)
/-- .. and the end: the map as it stands at w5, the entry turned or not. -/
theorem IdxIs.addFin (hb : Blk w4 x 87 (idxC s.g.m s.most s.width gg s.entry gm)) (hgr : GraphIs w4 lo gg F3 g1) (hm : g1.m = s.g.m) (hxg : x ≠ gm) (hx3 : x ∉ F3) (hg3 : gm ∉ F3) (hS3 : ∀ b ∈ fpS S, b ∉ F3) (hk : Kept (x :: gm :: (Fg ++ fpS S)) w w4) (hF3 : ∀ b ∈ F3, b ∈ Fg ∨ w.heap.size ≤ b) (hws : w.heap.size ≤ w4.heap.size)
    (h4 : lo ≤ x) (h5 : lo ≤ gm) (h9 : 1 ≤ s.most ∧ s.most ≤ 8) (h10 : 1 ≤ s.width ∧ s.width ≤ 256) (hgx : gm < w.heap.size)
    (k5 : Kept [gm] w4 w5) (hst : StIs w5 lo gm g1 S2) (hS2 : ∀ b ∈ fpS S2, b ∈ fpS S ∨ w4.heap.size ≤ b) (hxS : x ∉ fpS S2) :
    HPost lo x (x :: gm :: (Fg ++ fpS S)) { s with g := g1 } w w5 ∧ ∀ i : Int, HPost lo x (x :: gm :: (Fg ++ fpS S)) { s with g := g1, entry := i } w (w5.setCell ⟨x, 4, none⟩ (.int .i64 i)) := by
  have b5 := k5.blk hb (by simpa using hxg)
  have gr5 := hgr.kept k5 (fun b hb e => hg3 (by rw [List.mem_singleton.1 hb] at e; exact e))
  have hS23 : ∀ b ∈ fpS S2, b ∉ F3 := fun b hb2 e => by
    rcases hS2 b hb2 with h | h
    · exact hS3 b h e
    · have := (hgr.lt b e).2
      omega
  have hk5 : Kept (x :: gm :: (Fg ++ fpS S)) w w5 := hk.trans (k5.mono fun b hb => by simp at hb; simp [hb]) (Grows.refl _ _)
  have hG : ∀ b ∈ x :: gm :: (F3 ++ fpS S2), b ∈ x :: gm :: (Fg ++ fpS S) ∨ w.heap.size ≤ b := by
    intro b hb
    simp only [List.mem_cons, List.mem_append] at hb ⊢
    rcases hb with rfl | rfl | hb | hb
    · simp
    · simp
    · rcases hF3 b hb with h | h
      · simp [h]
      · exact .inr h
    · rcases hS2 b hb with h | h
      · simp [h]
      · exact .inr (by omega)
  refine ⟨IdxIs.parts (s := { s with g := g1 }) (by rw [hm]; exact b5) gr5 hst h4 h5 hx3 hg3 hS23 h9 h10 hk5 hG, fun i => ?_⟩
  have k6 : Kept [x] w5 (w5.setCell ⟨x, 4, none⟩ (.int .i64 i)) := (Kept.refl [x] w5).setCell _ _ (.inl (by simp))
  refine IdxIs.parts (s := { s with g := g1, entry := i }) ?_ (gr5.kept k6 (fun b hb e => hx3 (by rw [List.mem_singleton.1 hb] at e; exact e))) (hst.kept k6 (by simpa using fun e : gm = x => hxg e.symm) (fun b hb e => hxS (by rw [List.mem_singleton.1 e] at hb; exact hb))) h4 h5 hx3 hg3 hS23 h9 h10 (hk5.trans (k6.mono fun b hb => by simp at hb; simp [hb]) (Grows.refl _ _)) hG
  rw [hm]
  exact b5.set 4 (.int .i64 i)
theorem StIs.len (h : StIs w lo gm s.g S) : (stE S).length ≤ s.g.L.length := by
  unfold stE
  rw [List.length_map, ← List.length_map (f := StS.p)]
  refine nodup_le s.g.L.length _ ?_ fun p hp => ?_
  · have h1 := h.map.apart
    unfold stE at h1
    rw [List.pairwise_map] at h1
    unfold List.Nodup
    rw [List.pairwise_map]
    have h2 : S.Pairwise fun a b => a ∈ S ∧ b ∈ S ∧ key32 a.id ≠ key32 b.id := List.Pairwise.and_mem.1 h1
    refine h2.imp ?_
    rintro a b ⟨ha, hb, hne⟩ e
    obtain ⟨z, e1, e2, -⟩ := h.each a ha
    obtain ⟨z', f1, f2, -⟩ := h.each b hb
    rw [e, f1] at e1
    cases e1
    exact hne (by rw [← e2, ← f2])
  · obtain ⟨t, ht, rfl⟩ := List.mem_map.1 hp
    obtain ⟨z, e1, -⟩ := h.each t ht
    exact (List.getElem?_eq_some_iff.1 e1).1
-- st_len
end
theorem run_none12 {w : World} {b : Nat} {E : List (Lit × Value)} {id : Nat} (h : MapE w Tryz.prog 27 b E) (hid : id < 4294967296) (hn : ∀ p ∈ E, p.1 ≠ key32 id) : (Instr.lookup 85 (.map (some b)) (.int .u32 (id : Int)) false).run Tryz.prog w = .ok (.slice none 0 0) w := by
  obtain ⟨⟨es, h1, h2⟩, h3, h4⟩ := h
  obtain ⟨v', ps, hrun, hv'⟩ := h1.lookup (Maps.int_keyed Tryz.underlying27) Tryz.underlying85 (Tryz.zeroValue62 w) (show rawElem (.slice none 0 0) = some (.held (.slice none 0 0), []) from rfl) (Maps.keyOf_int_mk Tryz.underlying27 (u32_wfK hid))
  rw [show (Lit.int .u32 (id : Int)) = key32 id from rfl, atKey_of_not_has (held_hasnt h2 hn)] at hv'
  cases hv'
  exact hrun
theorem put_run12 {w : World} {b : Nat} {E : List (Lit × Value)} {id : Nat} (h : MapE w Tryz.prog 27 b E) (hid : id < 4294967296) (hl : E.length ≤ 1000000) (v : Value) : ∃ w', (Instr.mapUpdate 85 (.map (some b)) (.int .u32 (id : Int)) v).run Tryz.prog w = .ok () w' ∧ MapE w' Tryz.prog 27 b (putE E (key32 id) v) ∧ Kept [b] w w' := by
  have h0 := h
  obtain ⟨⟨es, h1, h2⟩, h3, h4⟩ := h
  obtain ⟨w', hrun, r1, r2⟩ := h1.update (Maps.int_keyed Tryz.underlying27) Tryz.underlying85 (by unfold maxLen; omega) (Maps.keyOf_int_mk Tryz.underlying27 (u32_wfK hid)) (show rawElem v = some (.held v, []) from rfl)
  exact ⟨w', hrun, h0.put (key32_lit id) r1 h2, kept_grown r2⟩
theorem step_lookup {P : Program} {ops : Array Oper} {o : Oper} {a : Act} {w : World} {K : Act → World → Prop} {Q : Exit → Act → World → Prop} {E : Prop} (hg : o.guard = none) (t : TypeId) (m x : Operand) (ho : o.op = Op.lookup t m x false) {um ux v : Value} (hm : a.eval m = um) (hx : a.eval x = ux) (hr : (Instr.lookup t um ux false).run P w = .ok v w) (h : K (a.put o.dst v) w) :
    if Region.wanted o (yielded ops a.tmps) = true then Oper.wp P o a w K Q else E := by
  have hw : Region.wanted o (yielded ops a.tmps) = true := by simp [Region.wanted, hg]
  rw [if_pos hw]
  unfold Oper.wp
  simp [execOp, ho, hm, hx, hr, Result.andThen]
  exact h
theorem step_update {P : Program} {ops : Array Oper} {o : Oper} {a : Act} {w w' : World} {K : Act → World → Prop} {Q : Exit → Act → World → Prop} {E : Prop} (hg : o.guard = none) (t : TypeId) (m x y : Operand) (ho : o.op = Op.mapUpdate t m x y) {um ux uy : Value} (hm : a.eval m = um) (hx : a.eval x = ux) (hy : a.eval y = uy) (hr : (Instr.mapUpdate t um ux uy).run P w = .ok () w') (h : K (a.put o.dst undef) w') :
    if Region.wanted o (yielded ops a.tmps) = true then Oper.wp P o a w K Q else E := by
  have hw : Region.wanted o (yielded ops a.tmps) = true := by simp [Region.wanted, hg]
  rw [if_pos hw]
  unfold Oper.wp
  simp [execOp, ho, hm, hx, hy, hr, Result.andThen]
  exact h
theorem step_put12 {ops : Array Oper} {o : Oper} {a : Act} {w : World} {K : Act → World → Prop} {Q : Exit → Act → World → Prop} {Z : Prop} (hg : o.guard = none) (m x y : Operand) (ho : o.op = Op.mapUpdate 85 m x y) {b id : Nat} {E : List (Lit × Value)} {V : Value} (hm : a.eval m = .map (some b)) (hx : a.eval x = .int .u32 (id : Int)) (hy : a.eval y = V) (h : MapE w Tryz.prog 27 b E) (hid : id < 4294967296) (hl : E.length ≤ 1000000)
    (hK : ∀ w', MapE w' Tryz.prog 27 b (putE E (key32 id) V) → Kept [b] w w' → K (a.put o.dst undef) w') : if Region.wanted o (yielded ops a.tmps) = true then Oper.wp Tryz.prog o a w K Q else Z := by
  obtain ⟨w', h1, h2, h3⟩ := put_run12 h hid hl V
  exact step_update hg _ m x y ho hm hx hy h1 (hK w' h2 h3)
end
end Go.Proofs.YtadkfedglkhgjaaGreat
