/-
  The program's graph as nodes and lists; there, on; hit; places; Near. (Is, Ik, Ih, Ip, Ie merged.)
-/
import Derived.Test.YtadkfedglkhgjaaGreatIM2
import Derived.Test.YtadkfedglkhgjaaGreatIM3
import Derived.Maps.OwnSet
import Derived.Deep.DeepMust
namespace Go.Proofs.YtadkfedglkhgjaaGreat
open Go.RowKit

/-- A node's letters. -/
structure NodeL where
  it : ItL
  frm : Nat
  til : Nat
  pl : Value
  ls : List Value
  links : List (List Nat)
def NodeL.cells (x : NodeL) : List Value := [.int .u32 (x.it.id : Int), .slice x.it.pv.1 x.it.pv.2.1 x.it.pv.2.2, .slice x.it.pt.1 x.it.pt.2.1 x.it.pt.2.2, .int .u64 (x.frm : Int), .int .u64 (x.til : Int), x.pl]
def NodeL.toV (x : NodeL) : NodeV := ⟨x.it.id, x.it.vec, x.it.tags, x.frm, x.til, x.links⟩
def NodeL.fp (x : NodeL) : List Nat := ownB x.pl ++ x.ls.flatMap ownB
def fpG (g : Nat) (u : Value) (L : List NodeL) : List Nat := g :: (ownB u ++ L.flatMap NodeL.fp)
theorem mem_fpG {g b : Nat} {u : Value} {L : List NodeL} : b ∈ fpG g u L ↔ b = g ∨ u.ownBlock = some b ∨ ∃ x ∈ L, x.pl.ownBlock = some b ∨ ∃ v ∈ x.ls, v.ownBlock = some b := by
  simp only [fpG, NodeL.fp, List.mem_cons, List.mem_append, mem_ownB, List.mem_flatMap]
abbrev intsC (l : List Nat) : List Value := l.map fun (j : Nat) => .int .i64 (j : Int)

/-- A graph's nodes and items alone. -/
structure GrN (T : TypeId) (m0 : Value × List Value) (okI : Nat → Prop) (w : World) (lo g : Nat) (u : Value) (L : List NodeL) : Prop where
  blk : Blk w g T (m0.1 :: u :: m0.2)
  rows : RowC lo w 59 6 u (L.map NodeL.cells)
  item : ∀ x ∈ L, x.it.In okI w
  glo : lo ≤ g
  few : L.length ≤ 100000
/-- A graph in block g: its nodes in a row of the call's own, of each node its lists in rows of the call's own; items lie elsewhere. -/
structure GrS (T : TypeId) (m0 : Value × List Value) (okI : Nat → Prop) (w : World) (lo g : Nat) (u : Value) (L : List NodeL) : Prop extends GrN T m0 okI w lo g u L where
  lrow : ∀ x ∈ L, w.ownsRow lo 62 1 x.pl x.ls.length x.ls
  lens : ∀ x ∈ L, x.ls.length = x.links.length
  list : ∀ x ∈ L, ∀ (k : Nat) (v : Value) (l : List Nat), x.ls[k]? = some v → x.links[k]? = some l → w.ownsRow lo 3 1 v l.length (intsC l)
  plne : ∀ (i j : Nat) (x y : NodeL) (b : Nat), L[i]? = some x → L[j]? = some y → x.pl.ownBlock = some b → y.pl.ownBlock = some b → i = j
  lsne : ∀ (i j : Nat) (x y : NodeL) (k k' : Nat) (v v' : Value) (b : Nat), L[i]? = some x → L[j]? = some y → x.ls[k]? = some v → y.ls[k']? = some v' → v.ownBlock = some b → v'.ownBlock = some b → i = j ∧ k = k'
  okne : ∀ b, okI b → b < w.heap.size ∧ b ∉ fpG g u L
  nums : ∀ x ∈ L, x.frm < 18446744073709551616 ∧ x.til < 18446744073709551616
section
variable {T : TypeId} {m0 : Value × List Value} {okI : Nat → Prop} {w w' : World} {lo g : Nat} {u : Value} {L : List NodeL}
theorem GrN.kept {F : List Nat} (h : GrN T m0 okI w lo g u L) (hk : Kept F w w') (hF : ∀ x ∈ F, x ≠ g ∧ u.ownBlock ≠ some x ∧ ¬ okI x) : GrN T m0 okI w' lo g u L where
  blk := hk.blk h.blk fun hh => (hF g hh).1 rfl
  rows := h.rows.kept hk fun b hb hh => (hF b hh).2.1 hb
  item := fun x hx => (h.item x hx).stay hk.size (fun b hb hlt => hk.block b hlt (fun hh => (hF b hh).2.2 hb)) (fun _ h _ => h)
  glo := h.glo
  few := h.few
theorem GrN.on (h : GrN T m0 okI w lo g u L) (hb : Below w.heap.size w w') : GrN T m0 okI w' lo g u L := h.kept (F := []) (Kept.of_below hb (Nat.le_refl _)) (by simp)
theorem GrN.u_form (h : GrN T m0 okI w lo g u L) : ∃ a c, u = .slice a L.length c ∧ L.length ≤ c := by
  obtain ⟨a, c, e, h2⟩ := h.rows.form
  rw [List.length_map] at e h2
  exact ⟨a, c, e, h2⟩
theorem GrN.nodeAt (h : GrN T m0 okI w lo g u L) (i : Nat) (hi : i < L.length) : ∃ (x : NodeL) (gu c : Nat), L[i]? = some x ∧ x ∈ L ∧ u = .slice (some ⟨gu, 0, none⟩) L.length c ∧ gu < w.heap.size ∧ w.rangeAt gu (i * 6) x.cells := by
  obtain ⟨r, hr⟩ : ∃ r, L[i]? = some r := ⟨_, List.getElem?_eq_getElem hi⟩
  obtain ⟨gu, c, e, _, hlt, hrg⟩ := h.rows.at i r.cells (by rw [List.getElem?_map, hr]; rfl)
  rw [List.length_map] at e
  exact ⟨r, gu, c, hr, List.mem_of_getElem? hr, e, hlt, hrg⟩
theorem GrS.fp_lt (h : GrS T m0 okI w lo g u L) : ∀ b ∈ fpG g u L, lo ≤ b ∧ b < w.heap.size := by
  intro b hb
  rcases mem_fpG.1 hb with rfl | hb | ⟨x, hx, hb | ⟨v, hv, hb⟩⟩
  · exact ⟨h.glo, h.blk.lt⟩
  · exact h.rows.lt b hb
  · exact World.ownsRow.lt (h.lrow x hx) b hb
  · obtain ⟨k, hk⟩ := List.getElem?_of_mem hv
    have hl : k < x.links.length := by
      rw [← h.lens x hx]
      exact (List.getElem?_eq_some_iff.1 hk).1
    exact World.ownsRow.lt (h.list x hx k v _ hk (List.getElem?_eq_getElem hl)) b hb
/-- What another one's blocks are turned in leaves a graph as it was. -/
theorem GrS.kept {F : List Nat} (h : GrS T m0 okI w lo g u L) (hk : Kept F w w') (hF : ∀ x ∈ F, x ∉ fpG g u L ∧ ¬ okI x) : GrS T m0 okI w' lo g u L where
  blk := hk.blk h.blk fun hh => (hF g hh).1 (mem_fpG.2 (.inl rfl))
  rows := h.rows.kept hk fun b hb hh => (hF b hh).1 (mem_fpG.2 (.inr (.inl hb)))
  item := fun x hx => (h.item x hx).stay hk.size (fun b hb hlt => hk.block b hlt (fun hh => (hF b hh).2 hb)) (fun _ h _ => h)
  lrow := fun x hx => hk.own (h.lrow x hx) fun b hb hh => (hF b hh).1 (mem_fpG.2 (.inr (.inr ⟨x, hx, .inl hb⟩)))
  lens := h.lens
  list := fun x hx k v l h1 h2 => hk.own (h.list x hx k v l h1 h2) fun b hb hh => (hF b hh).1 (mem_fpG.2 (.inr (.inr ⟨x, hx, .inr ⟨v, List.mem_of_getElem? h1, hb⟩⟩)))
  plne := h.plne
  lsne := h.lsne
  okne := fun b hb => ⟨Nat.lt_of_lt_of_le (h.okne b hb).1 hk.size, (h.okne b hb).2⟩
  glo := h.glo
  nums := h.nums
  few := h.few
theorem GrS.on (h : GrS T m0 okI w lo g u L) (hb : Below w.heap.size w w') : GrS T m0 okI w' lo g u L := h.kept (F := []) (Kept.of_below hb (Nat.le_refl _)) (by simp)
end
/-- What a graph in memory is as a thing of mathematics. -/
def graphV (m : Nat) (L : List NodeL) : GraphV := ⟨m, L.map NodeL.toV⟩
theorem graphV_len (m : Nat) (L : List NodeL) : (graphV m L).L.length = L.length := by simp [graphV]
theorem graphV_at {m : Nat} {L : List NodeL} {i : Nat} {x : NodeL} (h : L[i]? = some x) : (graphV m L).L[i]? = some x.toV := by
  simp [graphV, h]
theorem graphV_vec {m : Nat} {L : List NodeL} {i : Nat} {x : NodeL} (h : L[i]? = some x) : (graphV m L).vec i = x.it.vec := GraphV.vec_some (graphV_at h)
theorem graphV_lv {m : Nat} {L : List NodeL} {i : Nat} {x : NodeL} (h : L[i]? = some x) : (graphV m L).lv i = x.links.length := GraphV.lv_some (graphV_at h)
theorem graphV_links {m : Nat} {L : List NodeL} {i : Nat} {x : NodeL} (h : L[i]? = some x) (k : Nat) : (graphV m L).links i k = x.links.getD k [] := GraphV.links_some (graphV_at h) k
/-- A list of a node: where it lies, and what it says. -/
theorem GrS.listAt {T : TypeId} {m0 : Value × List Value} {okI : Nat → Prop} {w : World} {lo g : Nat} {u : Value} {L : List NodeL} (h : GrS T m0 okI w lo g u L) {i k : Nat} {x : NodeL} (hx : L[i]? = some x) (hk : k < x.links.length) :
    ∃ (v : Value) (gl c : Nat), x.ls[k]? = some v ∧ x.pl = .slice (some ⟨gl, 0, none⟩) x.links.length c ∧ gl < w.heap.size ∧ w.cell? ⟨gl, k, none⟩ = some v ∧ w.frozen? ⟨gl, k, none⟩ = false ∧ w.ownsRow lo 3 1 v (x.links.getD k []).length (intsC (x.links.getD k [])) := by
  have hm := List.mem_of_getElem? hx
  have hl := h.lens x hm
  obtain ⟨v, hv⟩ : ∃ v, x.ls[k]? = some v := ⟨_, List.getElem?_eq_getElem (by omega)⟩
  have hg : x.links[k]? = some (x.links.getD k []) := by
    rw [List.getElem?_eq_getElem hk, List.getD_eq_getElem?_getD, List.getElem?_eq_getElem hk]
    rfl
  rcases own_cells1 (h.lrow x hm) with ⟨_, h2⟩ | ⟨gl, c, h1, _, _, h4, h5⟩
  · rw [h2] at hl
    simp at hl
    omega
  · have hfr : w.frozen? ⟨gl, k, none⟩ = false := by
      rcases (h.lrow x hm).2 with ⟨h6, _⟩ | ⟨g2, cap, cur, h6, _, h7, _⟩
      · rw [h1] at h6
        cases h6
      · rw [h1] at h6
        cases h6
        simp [World.frozen?, h7]
    exact ⟨v, gl, c, hv, by rw [h1, hl], h4, by rw [h5 k (by omega)]; exact hv, hfr, h.list x hm k v _ hv hg⟩

section
variable {okI : Nat → Prop} {w : World} {lo g m : Nat} {u : Value} {L : List NodeL}
/-- The program's graph. -/
abbrev GrM (okI : Nat → Prop) (w : World) (lo g m : Nat) (u : Value) (L : List NodeL) : Prop := GrN 155 (.int .u8 (m : Int), []) okI w lo g u L
abbrev GrC (okI : Nat → Prop) (w : World) (lo g m : Nat) (u : Value) (L : List NodeL) : Prop := GrS 155 (.int .u8 (m : Int), []) okI w lo g u L

set_option maxHeartbeats 800000 in
theorem there_any (h : GrM okI w lo g m u L) (i : Int) (z : Bool) (hz : Hid ((graphV m L).thereB i = z)) :
    Calls Tryz.prog 100 #[.pointer (some ⟨g, 0, none⟩), .int .i64 i] w fun e w' => e = .returned (.bool z) ∧ w' = w := by
  obtain ⟨a, c, rfl, _⟩ := h.u_form
  have cU : w.cell? ⟨g, 1, none⟩ = some (.slice a L.length c) := h.blk.cell 1
  obtain ⟨N, hN⟩ : ∃ N, L.length = N := ⟨_, rfl⟩
  rw [hN] at cU
  have hz2 := hz.out
  unfold GraphV.thereB at hz2
  rw [graphV_len, hN] at hz2
  clear hz hN h
  by_cases h0 : 0 ≤ i
  · by_cases h1 : i < (N : Int)
    · obtain rfl : true = z := by rw [← hz2]; exact (decide_eq_true ⟨h0, h1⟩).symm
      have d0 : decide (0 ≤ i) = true := decide_eq_true h0
      have d1 : decide (i < (N : Int)) = true := decide_eq_true h1
      clear hz2
      go_enter Tryz.func100, Tryz.ntmps100
      go_wp2
      go_ret
      exact ⟨rfl, rfl⟩
    · obtain rfl : false = z := by rw [← hz2]; exact (decide_eq_false (by omega)).symm
      have d0 : decide (0 ≤ i) = true := decide_eq_true h0
      have d1 : decide (i < (N : Int)) = false := decide_eq_false h1
      clear hz2
      go_enter Tryz.func100, Tryz.ntmps100
      go_wp2
      go_ret
      exact ⟨rfl, rfl⟩
  · obtain rfl : false = z := by rw [← hz2]; exact (decide_eq_false (by omega)).symm
    have d0 : decide (0 ≤ i) = false := decide_eq_false h0
    clear hz2
    go_enter Tryz.func100, Tryz.ntmps100
    go_wp2
    go_ret
    exact ⟨rfl, rfl⟩

set_option maxHeartbeats 400000 in
theorem glen_any (h : GrM okI w lo g m u L) :
    Calls Tryz.prog 60 #[.pointer (some ⟨g, 0, none⟩)] w fun e w' => e = .returned (.int .i64 (L.length : Int)) ∧ w' = w := by
  obtain ⟨a, c, rfl, _⟩ := h.u_form
  have cU : w.cell? ⟨g, 1, none⟩ = some (.slice a L.length c) := h.blk.cell 1
  clear h
  go_enter Tryz.func60, Tryz.ntmps60
  go_wp2
  go_ret
  exact ⟨rfl, rfl⟩

set_option maxHeartbeats 1600000 in
theorem on_any (h : GrC okI w lo g m u L) (i level : Int) (z : Bool) (hz : Hid ((graphV m L).onB i level = z)) :
    Calls Tryz.prog 128 #[.pointer (some ⟨g, 0, none⟩), .int .i64 i, .int .i64 level] w fun e w' => e = .returned (.bool z) ∧ w' = w := by
  by_cases ht : (graphV m L).thereB i = true
  · have hb := ht
    unfold GraphV.thereB at hb
    rw [graphV_len] at hb
    have hb := of_decide_eq_true hb
    obtain ⟨j, rfl⟩ : ∃ j : Nat, i = (j : Int) := ⟨i.toNat, by omega⟩
    have hj : j < L.length := by omega
    obtain ⟨x, gu, c, hx, hm, rfl, hgu, hrg⟩ := h.toGrN.nodeAt j hj
    have cU : w.cell? ⟨g, 1, none⟩ = some (.slice (some ⟨gu, 0, none⟩) L.length c) := h.blk.cell 1
    have c5 : w.cell? ⟨gu, j * 6 + 5, none⟩ = some x.pl := hrg 5 _ rfl
    obtain ⟨pa, pm, pc, e, hp⟩ := ownsRow_slice (h.lrow x hm)
    have hz2 := hz.out
    unfold GraphV.onB at hz2
    rw [graphV_len, Int.toNat_natCast, graphV_lv hx, ← h.lens x hm, ← hp.out] at hz2
    have CT := Lib.hid (there_any h.toGrN (j : Int) true ht)
    obtain ⟨N, hN⟩ : ∃ N, L.length = N := ⟨_, rfl⟩
    rw [hN] at hj cU hb hz2
    rw [e] at c5
    clear hz hp ht h hx hm hrg hN e hgu
    by_cases h0 : 0 ≤ level
    · by_cases h1 : level < (pm : Int)
      · obtain rfl : true = z := by rw [← hz2]; exact (decide_eq_true (by omega)).symm
        have d0 : decide (0 ≤ level) = true := decide_eq_true h0
        have d1 : decide (level < (pm : Int)) = true := decide_eq_true h1
        clear hz2 hb
        go_enter Tryz.func128, Tryz.ntmps128
        go_wp2_with (fail)
        refine CT.out.mono ?_
        rintro e w' ⟨rfl, h3⟩
        have h4 := h3.symm
        subst h4
        clear h3
        go_wp2
        go_ret
        exact ⟨rfl, rfl⟩
      · obtain rfl : false = z := by rw [← hz2]; exact (decide_eq_false (by omega)).symm
        have d0 : decide (0 ≤ level) = true := decide_eq_true h0
        have d1 : decide (level < (pm : Int)) = false := decide_eq_false h1
        clear hz2 hb
        go_enter Tryz.func128, Tryz.ntmps128
        go_wp2_with (fail)
        refine CT.out.mono ?_
        rintro e w' ⟨rfl, h3⟩
        have h4 := h3.symm
        subst h4
        clear h3
        go_wp2
        go_ret
        exact ⟨rfl, rfl⟩
    · obtain rfl : false = z := by rw [← hz2]; exact (decide_eq_false (by omega)).symm
      have d0 : decide (0 ≤ level) = false := decide_eq_false h0
      clear hz2 hb
      go_enter Tryz.func128, Tryz.ntmps128
      go_wp2_with (fail)
      refine CT.out.mono ?_
      rintro e w' ⟨rfl, h3⟩
      have h4 := h3.symm
      subst h4
      clear h3
      go_wp2
      go_ret
      exact ⟨rfl, rfl⟩
  · have ht2 : (graphV m L).thereB i = false := by simpa using ht
    obtain rfl : false = z := by
      rw [← hz.out]
      unfold GraphV.thereB at ht2
      have := of_decide_eq_false ht2
      unfold GraphV.onB
      exact (decide_eq_false (by omega)).symm
    have CT := Lib.hid (there_any h.toGrN i false ht2)
    clear h hz ht ht2
    go_enter Tryz.func128, Tryz.ntmps128
    go_wp2_with (fail)
    refine CT.out.mono ?_
    rintro e w' ⟨rfl, h3⟩
    have h4 := h3.symm
    subst h4
    clear h3
    go_wp2
    go_ret
    exact ⟨rfl, rfl⟩

set_option maxHeartbeats 400000 in
/-- hitsFor: a method value. -/
theorem hitsFor_any (w : World) (g : Nat) (qa : Option Addr) (qn qc : Nat) :
    Calls Tryz.prog 112 #[.pointer (some ⟨g, 0, none⟩), .slice qa qn qc] w fun e w' => e = .returned (.func (.func 132) #[.agg #[.pointer (some ⟨g, 0, none⟩), .slice qa qn qc]] #[]) ∧ w' = w := by
  go_enter Tryz.func112, Tryz.ntmps112
  go_wp2
  go_ret
  exact ⟨rfl, rfl⟩
end

section
variable {okI : Nat → Prop} {w : World} {lo g m : Nat} {u : Value} {L : List NodeL}
theorem far_dist (m : Nat) (a c : Option Addr) (n n' cap1 cap2 : Nat) (xs ys : List Int) (w : World) (hm1 : m < 256) (h : Reads .i32 w a n xs) (h' : Reads .i32 w c n' ys) :
    Calls Tryz.prog 43 #[.int .u8 (m : Int), .slice a n cap1, .slice c n' cap2] w fun e w' => ∃ z : Bool, e = .returned (.tuple #[.int .i64 (farV m xs ys), .bool z]) ∧ Below w.heap.size w w' := by
  have e1 := h.len
  have e2 := h'.len
  rcases hd : distV m n n' xs ys with _ | r
  · refine (dist_none m a c n n' cap1 cap2 xs ys w (by omega) (by omega) h h' hd).mono ?_
    rintro e w' ⟨rfl, hb⟩
    exact ⟨false, by rw [farV, e1, e2, hd]; rfl, hb⟩
  · refine (dist_some m a c n n' cap1 cap2 xs ys r w (by omega) (by omega) h h' hd).mono ?_
    rintro e w' ⟨rfl, hb⟩
    exact ⟨true, by rw [farV, e1, e2, hd]; rfl, hb⟩
theorem two_set {B : Nat} {w w1 : World} {g : Nat} {t : TypeId} {z0 z1 : Value} (c0 c1 : Value) (h : Blk w1 g t [z0, z1]) (hb : Below B w w1) (hg : B ≤ g) :
    ((w1.setCell ⟨g, 0, none⟩ c0).setCell ⟨g, 1, none⟩ c1).heap[g]? = some (.cells #[c0, c1] t (0, 0)) ∧ Below B w ((w1.setCell ⟨g, 0, none⟩ c0).setCell ⟨g, 1, none⟩ c1) :=
  ⟨(h.set 0 c0).set 1 c1, (hb.setCell (p := ⟨g, 0, none⟩) hg _).setCell (p := ⟨g, 1, none⟩) hg _⟩
theorem hit_info11 : (Tryz.prog.info? 51).map (·.size) = some 2 := by kernel_rfl

set_option maxRecDepth 100000 in
set_option maxHeartbeats 1600000 in
theorem hit_any (h : GrM okI w lo g m u L) (hm : m < 256) (qa : Option Addr) (qn qc : Nat) (q : List Int) (hq : Reads .i32 w qa qn q) (i : Nat) (hi : i < L.length) (d : Int) (hd : Hid (((graphV m L).hit q i).1 = d)) :
    Calls Tryz.prog 132 #[.agg #[.pointer (some ⟨g, 0, none⟩), .slice qa qn qc], .int .i64 (i : Int)] w fun e w' => e = .returned (.agg #[.int .i64 d, .int .u32 (i : Int)]) ∧ Below w.heap.size w w' := by
  obtain ⟨x, gu, c, hx, hmem, rfl, hgu, hrg⟩ := h.nodeAt i hi
  have hir := h.few
  obtain ⟨w2, hw2⟩ : ∃ w2, (w.alloc (.cells #[.pointer (some ⟨g, 0, none⟩), .slice qa qn qc] 177)).alloc (.cells #[.int .i64 0, .int .u32 0] 51) = w2 := ⟨_, rfl⟩
  have b2 : Below w.heap.size w w2 := by
    rw [← hw2]
    exact ((Below.refl _ w).alloc (Nat.le_refl _) _).alloc (by simp) _
  have A0 : Blk w2 w.heap.size 177 [.pointer (some ⟨g, 0, none⟩), .slice qa qn qc] := by
    rw [← hw2]
    exact (Blk.new w _ _).alloc _
  have A1 : Blk w2 (w.heap.size + 1) 51 [.int .i64 0, .int .u32 0] := by
    rw [← hw2]
    have := Blk.new (w.alloc (.cells #[.pointer (some ⟨g, 0, none⟩), .slice qa qn qc] 177)) 51 #[.int .i64 0, .int .u32 0]
    simpa using this
  have h2 := h.on b2
  have a0 : w2.cell? ⟨w.heap.size, 0, none⟩ = some (.pointer (some ⟨g, 0, none⟩)) := A0.cell 0
  have a1 : w2.cell? ⟨w.heap.size, 1, none⟩ = some (.slice qa qn qc) := A0.cell 1
  have g0 : w2.cell? ⟨g, 0, none⟩ = some (.int .u8 (m : Int)) := h2.blk.cell 0
  have g1 : w2.cell? ⟨g, 1, none⟩ = some (.slice (some ⟨gu, 0, none⟩) L.length c) := h2.blk.cell 1
  have x1 : w2.cell? ⟨gu, i * 6 + 1, none⟩ = some (.slice x.it.pv.1 x.it.pv.2.1 x.it.pv.2.2) := by
    rw [World.cell?_of_block (w := w) (a := ⟨gu, i * 6 + 1, none⟩) (b2.block gu hgu)]
    exact hrg 1 _ rfl
  have CD := Lib.hid (fun (W : World) (hb : Below w2.heap.size w2 W) => far_dist m qa x.it.pv.1 qn x.it.pv.2.1 qc x.it.pv.2.2 q x.it.vec W hm ((hq.below (Nat.le_refl _) b2).below (Nat.le_refl _) hb) (Rd.ints ((h2.item x hmem).hvec.on hb) rfl))
  have HS := Lib.hid (fun (W : World) (hb : Below w2.heap.size w2 W) => show W.cell? ⟨w.heap.size, 0, none⟩ = some (.pointer (some ⟨g, 0, none⟩)) ∧ W.cell? ⟨w.heap.size, 1, none⟩ = some (.slice qa qn qc) ∧ W.cell? ⟨g, 0, none⟩ = some (.int .u8 (m : Int)) ∧
      W.cell? ⟨g, 1, none⟩ = some (.slice (some ⟨gu, 0, none⟩) L.length c) ∧ W.cell? ⟨gu, i * 6 + 1, none⟩ = some (.slice x.it.pv.1 x.it.pv.2.1 x.it.pv.2.2) ∧ Below w2.heap.size w2 W from
    have A2 := (Kept.of_below (F := []) hb (Nat.le_refl _)).blk A0 (by simp)
    have h3 := h2.on hb
    ⟨A2.cell 0, A2.cell 1, h3.blk.cell 0, h3.blk.cell 1, by rw [World.cell?_of_block (w := w2) (a := ⟨gu, i * 6 + 1, none⟩) (hb.block gu (Nat.lt_of_lt_of_le hgu b2.size)), x1], hb⟩)
  have hfar : farV m q x.it.vec = d := by
    rw [← hd.out]
    show _ = farV _ q ((graphV m L).vec i)
    rw [graphV_vec hx]
    rfl
  have hwr : IntKind.u32.wrap (i : Int) = (i : Int) := by rw [IntKind.wrap_u32]; omega
  have B2 := Lib.hid b2
  have HA1 := Lib.hid A1
  have hs2 : w2.heap.size = w.heap.size + 2 := by rw [← hw2]; simp
  have HS2 := Lib.hid hs2
  obtain ⟨N, hN⟩ : ∃ N, L.length = N := ⟨_, rfl⟩
  rw [hN] at hi hir HS
  rw [hfar] at CD
  clear h h2 hq hd hx hmem hgu hrg b2 A0 A1 hfar hN hs2 a0 a1 g0 g1 x1
  go_enter Tryz.func132, Tryz.ntmps132
  go_upto_region 1 with fail
  try rw [hw2]
  clear hw2
  obtain ⟨s1, s2, s3, s4, s5, s6⟩ := HS.out w2 (Below.refl _ _)
  go_region_held3 (fun W => W.cell? ⟨w.heap.size, 0, none⟩ = some (.pointer (some ⟨g, 0, none⟩)) ∧ W.cell? ⟨w.heap.size, 1, none⟩ = some (.slice qa qn qc) ∧ W.cell? ⟨g, 0, none⟩ = some (.int .u8 (m : Int)) ∧
      W.cell? ⟨g, 1, none⟩ = some (.slice (some ⟨gu, 0, none⟩) N c) ∧ W.cell? ⟨gu, i * 6 + 1, none⟩ = some (.slice x.it.pv.1 x.it.pv.2.1 x.it.pv.2.2) ∧ Below w2.heap.size w2 W)
    (first
      | (go_keep; done)
      | exact HS.out _ (Below.refl _ _)
      | exact HS.out _ (Below.refl _ _).drew
      | (go_split_ands; exact HS.out _ (below_on (by assumption) hbel)))
    (first
      | (go_at_call 43; go_split_ands; refine (CD.out _ (by assumption)).mono ?_; rintro e w' ⟨z, rfl, hbel⟩))
  rename_i hH
  have B3 := Lib.hid hH.2.2.2.2.2
  clear hH hbel s1 s2 s3 s4 s5 s6
  have E3 := Lib.hid (two_set (.int .i64 d) (.int .u32 (i : Int)) ((Kept.of_below (F := []) B3.out (Nat.le_refl _)).blk HA1.out (by simp)) (B2.out.trans (B3.out.mono B2.out.size)) (show w.heap.size ≤ w.heap.size + 1 by omega))
  have q3 := (Kept.of_below (F := []) B3.out (Nat.le_refl _)).blk HA1.out (by simp)
  have f0 : w'.cell? ⟨w.heap.size + 1, 0, none⟩ = some (.int .i64 0) := q3.cell 0
  have f1 : w'.cell? ⟨w.heap.size + 1, 1, none⟩ = some (.int .u32 0) := q3.cell 1
  have f2 := q3.frozen 0
  have f3 := q3.frozen 1
  clear q3
  go_wp2
  refine bodyPost_ret (results_cell_row rfl _ _ (w.heap.size + 1) 51 #[.int .i64 d, .int .u32 (i : Int)] (0, 0) _ rfl E3.out.1 Tryz.underlying51 rfl hit_info11) rfl ?_
  exact ⟨rfl, E3.out.2⟩
end

/-- Block b is a set of the places that p tells, of n at most. -/
def PlacesAt (w : World) (b n : Nat) (p : Nat → Bool) : Prop := ∃ D : DataW Unit, w.ownsMap Tryz.prog 3 unitElem b n D ∧ Maps.IsMap D ∧ ∀ j : Nat, Maps.has D (.int .i64 (j : Int)) = p j
theorem keyLit11 (k : IntKind) (n : Int) : WideAt.IsKeyLit (.int k n) := by trivial
theorem PlacesAt.made (w : World) : PlacesAt (w.alloc (.map #[] 0)) w.heap.size 0 (fun _ => false) := ⟨.map [], World.ownsMap_made w _ _ _, Maps.isMap_empty, fun _ => rfl⟩
theorem PlacesAt.lt {w : World} {b n : Nat} {p : Nat → Bool} (h : PlacesAt w b n p) : b < w.heap.size := by
  obtain ⟨D, h1, _⟩ := h
  exact h1.lt
theorem PlacesAt.far {w w' : World} {b n : Nat} {p : Nat → Bool} (h : PlacesAt w b n p) (hb : w'.heap[b]? = w.heap[b]?) : PlacesAt w' b n p := by
  obtain ⟨D, ⟨es, c, hh, hf, hs, hD⟩, h2, h3⟩ := h
  exact ⟨D, ⟨es, c, hb.trans hh, hf, hs, hD⟩, h2, h3⟩
theorem PlacesAt.kept {F : List Nat} {w w' : World} {b n : Nat} {p : Nat → Bool} (h : PlacesAt w b n p) (hk : Kept F w w') (hF : b ∉ F) : PlacesAt w' b n p := h.far (hk.block b h.lt hF)
theorem PlacesAt.on {w w' : World} {b n : Nat} {p : Nat → Bool} (h : PlacesAt w b n p) (hb : Below w.heap.size w w') : PlacesAt w' b n p := h.far (hb.block b h.lt)
/-- A set's block is no row of cells. -/
theorem PlacesAt.obj {w : World} {b n : Nat} {p : Nat → Bool} (h : PlacesAt w b n p) : ∃ es c, w.heap[b]? = some (.map es c) := by
  obtain ⟨D, ⟨es, c, hh, _⟩, _⟩ := h
  exact ⟨es, c, hh⟩
theorem PlacesAt.not_row {w : World} {b n lo k e : Nat} {p : Nat → Bool} {t : TypeId} {v : Value} {xs : List Value} (h : PlacesAt w b n p) (hr : w.ownsRow lo t k v e xs) : v.ownBlock ≠ some b := by
  intro hv
  obtain ⟨es, c, hh⟩ := h.obj
  rcases hr.2 with ⟨rfl, _⟩ | ⟨a, cap, cur, rfl, _, hh', _⟩
  · cases hv
  · cases hv
    rw [hh] at hh'
    cases hh'
theorem PlacesAt.not_blk {w : World} {b n g : Nat} {p : Nat → Bool} {t : TypeId} {cs : List Value} (h : PlacesAt w b n p) (hb : Blk w g t cs) : g ≠ b := by
  rintro rfl
  obtain ⟨es, c, hh⟩ := h.obj
  unfold Blk at hb
  rw [hh] at hb
  cases hb
def addP (p : Nat → Bool) (i : Nat) : Nat → Bool := fun j => p j || decide (j = i)
theorem i64_lit {j : Nat} (h : j < 9223372036854775808) : (Lit.int .i64 (j : Int)).wf = true := by
  simp [Lit.wf, IntKind.min, IntKind.max, IntKind.signed, IntKind.bits]
  omega
theorem addP_step {D : DataW Unit} {p : Nat → Bool} {i : Nat} (hm : Maps.IsMap D) (h : ∀ j : Nat, Maps.has D (.int .i64 (j : Int)) = p j) (j : Nat) : Maps.has (D.put (.int .i64 (i : Int)) (.agg [])) (.int .i64 (j : Int)) = addP p i j := by
  unfold addP
  by_cases hj : j = i
  · subst hj
    rw [Maps.has_put_same hm (keyLit11 _ _)]
    simp
  · rw [Maps.has_put_other (by simp; omega), h j]
    simp [hj]
section
variable {ops : Array Oper} {rest : List Oper} {o : Oper} {a : Act} {Q : Exit → Act → World → Prop}
theorem places_look (w : World) (hg : o.guard = none) (m x : Operand) (hop : o.op = Op.lookup 127 m x true) (hz : (zeroValue 179).run Tryz.prog w = .ok (.agg #[]) w) (b n : Nat) (p : Nat → Bool) (h : PlacesAt w b n p)
    (hm : a.eval m = .map (some b)) (i : Nat) (hi : i ≤ 1000000) (hx : a.eval x = .int .i64 (i : Int)) (z : Bool) (hpz : p i = z)
    (hK : wpList Tryz.prog ops Q rest (a.put o.dst (.tuple #[.agg #[], .bool z])) w) : wpList Tryz.prog ops Q (o :: rest) a w := by
  obtain ⟨D, h1, h2, h3⟩ := h
  refine wpList_lookup_own_unit w hg m x _ hop 3 179 (Maps.int_keyed Tryz.underlying3) Tryz.underlying127 hz b _ D hm h1 _ _ hx (Maps.keyOf_int_mk Tryz.underlying3 (i64_lit (by omega))) ?_
  rw [h3 i, hpz]
  exact hK
theorem places_put (w : World) (hg : o.guard = none) (m x v : Operand) (hop : o.op = Op.mapUpdate 127 m x v) (b n : Nat) (p : Nat → Bool) (h : PlacesAt w b n p) (hn : n ≤ 1000000000000)
    (hm : a.eval m = .map (some b)) (i : Nat) (hi : i ≤ 1000000) (hx : a.eval x = .int .i64 (i : Int)) (hv : a.eval v = .agg #[])
    (hK : ∀ w', PlacesAt w' b (n + 1) (addP p i) → Kept [b] w w' → wpList Tryz.prog ops Q rest (a.put o.dst undef) w') : wpList Tryz.prog ops Q (o :: rest) a w := by
  obtain ⟨D, h1, h2, h3⟩ := h
  refine wpList_mapUpdate_own w hg m x v _ hop 3 179 (Maps.int_keyed Tryz.underlying3) Tryz.underlying127 unitElem b _ D hm h1 (by unfold maxLen; omega) _ _ _ hx hv (Maps.keyOf_int_mk Tryz.underlying3 (i64_lit (by omega))) (.agg []) [] unitElem_mk ?_
  intro w' h4 h5
  exact hK w' ⟨_, h4, h2.put _ _, addP_step h2 h3⟩ ((Kept.refl [b] w).grown h5 fun k e => by cases e; exact .inl (by simp))
end
def AddPost (b n : Nat) (p : Nat → Bool) (i : Nat) (w : World) (e : Ending) (w' : World) : Prop :=
  e = .returned (.bool (!p i)) ∧ PlacesAt w' b (n + 1) (addP p i) ∧ Kept [b] w w'

set_option maxRecDepth 100000 in
set_option maxHeartbeats 1600000 in
theorem add_any (w : World) (b n : Nat) (p : Nat → Bool) (h : PlacesAt w b n p) (hn : n ≤ 1000000000000) (i : Nat) (hi : i ≤ 1000000) :
    Calls Tryz.prog 115 #[.map (some b), .int .i64 (i : Int)] w (AddPost b n p i w) := by
  obtain ⟨z, hz⟩ : ∃ z, p i = z := ⟨_, rfl⟩
  have HZ := Lib.hid hz
  have HB := h.lt
  have HP := Lib.hid h
  have P2 := Lib.hid (h.on ((Below.refl w.heap.size w).alloc (Nat.le_refl _) (.cells #[] 179)))
  clear h hz
  go_enter Tryz.func115, Tryz.ntmps115
  go_wp2_with (first | (at_lookup; refine places_look w rfl _ _ rfl (Tryz.zeroValue179 _) b n p HP.out rfl i hi rfl z HZ.out ?_) | (at_mapUpdate; refine places_put _ rfl _ _ _ rfl b n p P2.out hn rfl i hi rfl rfl ?_; intro w2 h1 h2) | fail)
  have H1 := Lib.hid h1
  have H2 := Lib.hid h2
  clear h1 h2
  go_wp2
  go_ret
  refine ⟨by rw [HZ.out]; rfl, H1.out, (((Kept.refl [b] w).alloc _)).trans H2.out (Grows.refl _ _)⟩

def memP (l : List Nat) : Nat → Bool := fun j => decide (j ∈ l)
theorem memP_old {l : List Nat} {i : Nat} (h : i ∈ l) : addP (memP l) i = memP l := funext fun j => by
  unfold addP memP
  by_cases hj : j = i
  · subst hj
    simp [h]
  · simp [hj]
theorem memP_new (l : List Nat) (i : Nat) : addP (memP l) i = memP (l ++ [i]) := funext fun j => by
  unfold addP memP
  simp
theorem OwnB.parts11 {w : World} {B : Nat} {v : Value} {xs : List Hit} (h : OwnB w B v xs) : ∃ a n c, v = .slice a n c := by
  obtain ⟨a, c, rfl⟩ := h.own.size
  exact ⟨a, _, c, rfl⟩
/-- What a call that tells hits leaves. -/
def HitsPost (l : List Hit) (w : World) (e : Ending) (w' : World) : Prop :=
  ∃ g n, e = .returned (.slice (some ⟨g, 0, none⟩) n n) ∧ Own w' 51 (.slice (some ⟨g, 0, none⟩) n n) l ∧ Below w.heap.size w w' ∧ w.heap.size ≤ g
theorem getD_take {l : List Int} {k : Nat} (h : k < l.length) {x : Int} (hx : l.getD k 0 = x) : l.take (k + 1) = l.take k ++ [x] := by
  rw [List.take_succ_eq_append_getElem h, ← hx]
  simp [List.getD, h]

section
variable {okI : Nat → Prop} {w : World} {lo g m : Nat} {u : Value} {L : List NodeL}
set_option maxRecDepth 100000 in
set_option maxHeartbeats 3200000 in
theorem near_any (h : GrM okI w lo g m u L) (hr : (graphV m L).Right) (hm : m < 256) (qa : Option Addr) (qn qc : Nat) (q : List Int) (hq : Reads .i32 w qa qn q) (la : Option Addr) (ln lc : Nat) (l : List Int) (hl : Reads .i64 w la ln l) (hln : ln ≤ 100000) :
    Calls Tryz.prog 113 #[.pointer (some ⟨g, 0, none⟩), .slice qa qn qc, .slice la ln lc] w (HitsPost ((graphV m L).near q l) w) := by
  obtain ⟨N, hN⟩ : ∃ N, L.length = N := ⟨_, rfl⟩
  have hfew := h.few
  rw [hN] at hfew
  obtain ⟨G, hG⟩ : ∃ G, graphV m L = G := ⟨_, rfl⟩
  have CT := Lib.hid (fun (W : World) (hb : Below w.heap.size w W) (i : Int) (z : Bool) (hz : Hid ((graphV m L).thereB i = z)) => there_any (h.on hb) i z hz)
  have CH := Lib.hid (fun (W : World) (hb : Below w.heap.size w W) (i : Nat) (hi : i < L.length) (d : Int) (hd : Hid (((graphV m L).hit q i).1 = d)) => hit_any (h.on hb) hm qa qn qc q (hq.below (Nat.le_refl _) hb) i hi d hd)
  have HT := Lib.hid (fun (i : Int) => hr.there i)
  have HJ := Lib.hid (fun (j : Nat) (hj : (graphV m L).thereB (j : Int) = true) => show j < L.length from by
    unfold GraphV.thereB at hj
    rw [graphV_len] at hj
    have := of_decide_eq_true hj
    omega)
  rw [hN] at CH HJ
  rw [hG] at CT CH HT HJ ⊢
  obtain ⟨hll, _, _, _, hlc⟩ := hl
  have HL := Lib.hid hll
  have HC := Lib.hid hlc
  have HP0 := Lib.hid (PlacesAt.made w)
  clear hr hm hq hll hlc h hN hG
  have hmm := @run_makeMap Tryz.prog
  go_enter Tryz.func113, Tryz.ntmps113
  go_wp2_with (go_at_call 112; refine (hitsFor_any w g qa qn qc).mono ?_; rintro e w' ⟨rfl, h3⟩; have h4 := h3.symm; subst h4; clear h3)
  go_loopw [9, 18] (fun s9 s18 wr => ∃ (k vn vc n : Nat) (va : Option Addr), k ≤ ln ∧ s18 = .int .i64 (k : Int) ∧ s9 = .slice va vn vc ∧ n ≤ k ∧ Hid (OwnB wr (w.heap.size + 1) (.slice va vn vc) ((pick (fun i => G.onB i 0) (l.take k)).map (G.hit q))) ∧
    Hid (PlacesAt wr w.heap.size n (memP (pick (fun i => G.onB i 0) (l.take k)))) ∧ Hid (Below w.heap.size w wr)) (fun _ s18 _ => ln - (intOf s18).toNat)
  case atStart => exact ⟨0, 0, 0, 0, none, Nat.zero_le _, rfl, rfl, Nat.le_refl _, OwnB.nil _ _, HP0.out, (Below.refl _ _).alloc (Nat.le_refl _) _⟩
  case round =>
    clear HP0 hmm
    obtain ⟨k, vn, vc, n, va, hk, rfl, rfl, hn, HO, HP, HB⟩ := hrel
    by_cases h1 : k < ln
    · rcases HC.out with h0 | ⟨b, off, rfl, hlt, hc⟩
      · omega
      obtain ⟨x, hx⟩ : ∃ x, l.getD k 0 = x := ⟨_, rfl⟩
      have hcc := hc k h1
      rw [hx] at hcc
      have HX := Lib.hid (show l.take (k + 1) = l.take k ++ [x] from getD_take (by rw [HL.out]; exact h1) hx)
      have r0 : wr.cell? ⟨b, off + k, none⟩ = some (.int .i64 x) := (HB.out.cell (p := ⟨b, off + k, none⟩) hlt).trans hcc
      clear hx hcc hc
      cases hz : G.thereB x with
      | false =>
        have C1 := Lib.hid (CT.out wr HB.out x false hz)
        have HZ := Lib.hid (show pick (fun i => G.onB i 0) (l.take (k + 1)) = pick (fun i => G.onB i 0) (l.take k) from by
          rw [HX.out, pick_snoc, pickS, if_neg]
          rw [← HT.out x, hz]
          simp)
        clear hz
        go_wp2_with (go_at_call 100; refine C1.out.mono ?_; rintro e w' ⟨rfl, h3⟩; have h4 := h3.symm; subst h4; clear h3)
        go_roundw
        case rel => exact ⟨k + 1, vn, vc, n, va, by omega, by go_num, rfl, by omega, by rw [HZ.out]; exact HO.out, by rw [HZ.out]; exact HP.out, HB.out⟩
        case measure => simp [intOf]; omega
      | true =>
        have hzb := hz
        unfold GraphV.thereB at hzb
        have hzb := of_decide_eq_true hzb
        obtain ⟨j, rfl⟩ : ∃ j : Nat, x = (j : Int) := ⟨x.toNat, by omega⟩
        have hjN := HJ.out j hz
        have C1 := Lib.hid (CT.out wr HB.out (j : Int) true hz)
        have C2 := Lib.hid (add_any wr w.heap.size n (memP (pick (fun i => G.onB i 0) (l.take k))) HP.out (by omega) j (by omega))
        have hon : G.onB (j : Int) 0 = true := by rw [← HT.out, hz]
        clear hz hzb
        by_cases hj : j ∈ pick (fun i => G.onB i 0) (l.take k)
        · have HZ := Lib.hid (show pick (fun i => G.onB i 0) (l.take (k + 1)) = pick (fun i => G.onB i 0) (l.take k) from by
            rw [HX.out, pick_snoc, pickS, if_neg]
            simp [hj])
          have HM := Lib.hid (memP_old hj)
          have hmj : memP (pick (fun i => G.onB i 0) (l.take k)) j = true := decide_eq_true hj
          unfold AddPost at C2
          rw [hmj] at C2
          clear hj hmj hon
          go_wp2_with (first
            | (go_at_call 100; refine C1.out.mono ?_; rintro e w' ⟨rfl, h3⟩; have h4 := h3.symm; subst h4; clear h3)
            | (go_at_call 115; refine C2.out.mono ?_; rintro e w2 ⟨rfl, h5, h6⟩; have H5 := Lib.hid h5; have H6 := Lib.hid h6; clear h5 h6))
          go_roundw
          case rel => exact ⟨k + 1, vn, vc, n + 1, va, by omega, by go_num, rfl, by omega, by rw [HZ.out]; exact HO.out.kept H6.out (fun y hy hh => by have := HO.out.new y hy; simp at hh; omega), by rw [HZ.out, ← HM.out]; exact H5.out, HB.out.trans (H6.out.below (by simp) HB.out.size)⟩
          case measure => simp [intOf]; omega
        · have HZ := Lib.hid (show pick (fun i => G.onB i 0) (l.take (k + 1)) = pick (fun i => G.onB i 0) (l.take k) ++ [j] from by
            rw [HX.out, pick_snoc, pickS, if_pos ⟨hon, by simpa using hj⟩]
            rfl)
          have HM := Lib.hid (memP_new (pick (fun i => G.onB i 0) (l.take k)) j)
          have hmj : memP (pick (fun i => G.onB i 0) (l.take k)) j = false := decide_eq_false hj
          unfold AddPost at C2
          rw [hmj] at C2
          obtain ⟨d, hd⟩ : ∃ d, (G.hit q j).1 = d := ⟨_, rfl⟩
          have HD := Lib.hid hd
          have hlen : (pick (fun i => G.onB i 0) (l.take k)).length ≤ 100000 := by
            have := pick_len (fun i => G.onB i 0) (l.take k)
            simp at this
            omega
          have HLEN := Lib.hid hlen
          clear hj hmj hon hd hlen
          go_wp2_with (first
            | (go_at_call 100; refine C1.out.mono ?_; rintro e w' ⟨rfl, h3⟩; have h4 := h3.symm; subst h4; clear h3)
            | (go_at_call 115; refine C2.out.mono ?_; rintro e w2 ⟨rfl, h5, h6⟩; have H5 := Lib.hid h5; have H6 := Lib.hid h6; clear h5 h6; have B2 := Lib.hid (HB.out.trans (H6.out.below (by simp) HB.out.size)); have C3 := Lib.hid (CH.out w2 B2.out j hjN d HD))
            | (go_at_call 132; refine C3.out.mono ?_; rintro e w3 ⟨rfl, h7⟩; have H7 := Lib.hid h7; clear h7; have B3 := Lib.hid (B2.out.trans (H7.out.mono B2.out.size)); have O3 := Lib.hid ((HO.out.kept H6.out (fun y hy hh => by have := HO.out.new y hy; simp at hh; omega)).kept (F := []) (Kept.of_below H7.out (Nat.le_refl _)) (by simp)))
            | (at_builtin; go_must (refine app_hit w3 rfl _ _ rfl (w.heap.size + 1) (.slice va vn vc) _ (d, (j : Int)) rfl rfl O3.out (by have := B3.out.size; have := H5.out.lt; have := H7.out.size; omega) (by rw [List.length_map]; have := HLEN.out; omega) ?_); intro v4 w4 h8 h9; obtain ⟨va4, vn4, vc4, rfl⟩ := h8.parts11; have H8 := Lib.hid h8; have H9 := Lib.hid (app_kept O3.out h9 B3.out (by have := B3.out.size; have := H5.out.lt; have := H7.out.size; omega)); clear h8 h9))
          go_roundw
          case rel => exact ⟨k + 1, vn4, vc4, n + 1, va4, by omega, by go_num, rfl, by omega, by rw [HZ.out, List.map_append]; have e : G.hit q j = (d, (j : Int)) := Prod.ext HD.out rfl; rw [List.map_cons, List.map_nil, e]; exact H8.out, by rw [HZ.out, ← HM.out]; exact (H5.out.on H7.out).far (H9.out.1.block _ (by omega)), H9.out.2⟩
          case measure => simp [intOf]; omega
    · obtain rfl : k = ln := by omega
      have e0 : l.take k = l := List.take_of_length_le (by rw [HL.out]; exact Nat.le_refl _)
      have HVN := Lib.hid (show ((pick (fun i => G.onB i 0) l).map (G.hit q)).length = vn from by
        have h2 := HO.out
        rw [e0] at h2
        have h3 := h2.own.size
        obtain ⟨a', c', h3⟩ := h3
        simp only [Value.slice.injEq] at h3
        exact h3.2.1.symm)
      have hvl : vn ≤ 100000 := by
        rw [← HVN.out, List.length_map]
        have := pick_len (fun i => G.onB i 0) l
        have := HL.out
        omega
      have HR := Lib.hid (show HReads wr va vn ((pick (fun i => G.onB i 0) l).map (G.hit q)) from by
        have h2 := HO.out
        rw [e0] at h2
        exact HReads.of_own h2.own (by rw [HVN.out]; omega))
      have CM := Lib.hid (merge_some va none vn 0 vc 0 vn ((pick (fun i => G.onB i 0) l).map (G.hit q)) [] (vn : Int) rfl wr HR.out ⟨rfl, by decide, .inl rfl⟩ (by omega) (by omega))
      clear e0 HO HP
      go_wp2_with (go_at_call 133; refine CM.out.mono ?_)
      rintro e w4 ⟨g4, k4, rfl, ho4, hb4, hg4⟩
      have H4 := Lib.hid ho4
      have B4 := Lib.hid (HB.out.trans (hb4.mono HB.out.size))
      have G4 := Lib.hid (Nat.le_trans HB.out.size hg4)
      clear ho4 hb4 hg4
      go_wp2
      go_ret
      refine ⟨g4, k4, rfl, ?_, B4.out, G4.out⟩
      have e : G.near q l = keepL vn ((pick (fun i => G.onB i 0) l).map (G.hit q) ++ []) := by
        rw [List.append_nil, keepL, GraphV.near, List.take_of_length_le]
        rw [sortL_len, HVN.out]
        exact Nat.le_refl _
      rw [e]
      exact H4.out
end
end Go.Proofs.YtadkfedglkhgjaaGreat
