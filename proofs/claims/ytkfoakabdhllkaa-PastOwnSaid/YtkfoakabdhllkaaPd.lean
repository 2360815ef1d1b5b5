/-
  PastOwn holds: items that are handed in, and told, are the past's own.
-/
import Derived.Test.YtkfoakabdhllkaaRows
import Derived.Test.YtkfoakabdhllkaaCu
namespace Go.Proofs.Ytkfoakabdhllkaa
open Go.ChangeShapes Go.WideShapes Go.ChangeAt Go.RowKit

theorem row_set {w : World} {lo n c g i : Nat} {t : TypeId} {xs : List Value} (h : w.ownsRow lo t 1 (.slice (some ⟨g, 0, none⟩) n c) n xs) (u : Value) : (w.setCell ⟨g, i, none⟩ u).ownsRow lo t 1 (.slice (some ⟨g, 0, none⟩) n c) n (xs.set i u) := by
  refine ⟨by rw [List.length_set]; exact h.1, ?_⟩
  rcases h.2 with ⟨h2, _⟩ | ⟨g', cap, cur, e, hb, hh, h1, h2, h3, h4⟩
  · cases h2
  · simp only [Value.slice.injEq, Option.some.injEq, Addr.mk.injEq] at e
    obtain ⟨⟨rfl, -⟩, -, rfl⟩ := e
    have hblk : Blk w g t cur.toList := by simpa [Blk] using hh
    refine .inr ⟨g, c, (cur.toList.set i u).toArray, rfl, hb, hblk.set i u, h1, h2, by simpa using h3, ?_⟩
    rw [← h4, List.take_set]
/-- A row of the call's own of such cells, whichever. -/
def SomeO (q : Value → Prop) (t : TypeId) (lo : Nat) (w : World) (v : Value) (n : Nat) : Prop := ∃ xs, w.ownsRow lo t 1 v n xs ∧ ∀ u ∈ xs, q u
theorem SomeO.at {q : Value → Prop} {t : TypeId} {lo n c i : Nat} {w : World} {a : Option Addr} (h : SomeO q t lo w (.slice a n c) n) (hi : i < n) :
    ∃ b u, a = some ⟨b, 0, none⟩ ∧ lo ≤ b ∧ b < w.heap.size ∧ w.cell? ⟨b, i, none⟩ = some u ∧ q u ∧ w.frozen? ⟨b, i, none⟩ = false ∧ ∀ u', q u' → SomeO q t lo (w.setCell ⟨b, i, none⟩ u') (.slice a n c) n := by
  obtain ⟨xs, h1, h2⟩ := h
  have h1' := h1
  rcases h1.2 with ⟨e, h0⟩ | ⟨g, cap, cur, e, hb, hh, g1, g2, g3, g4⟩
  · omega
  · simp only [Value.slice.injEq] at e
    obtain ⟨rfl, -, rfl⟩ := e
    have hblk : Blk w g t cur.toList := by simpa [Blk] using hh
    have hxl : xs.length = n := by rw [h1.1, Nat.mul_one]
    have hx : xs[i]? = some xs[i] := List.getElem?_eq_getElem (by omega)
    refine ⟨g, xs[i], rfl, hb, hblk.lt, ?_, h2 _ (List.getElem_mem _), hblk.frozen i, fun u' hu => ⟨_, row_set h1' u', fun y hy => ?_⟩⟩
    · rw [hblk.cell i, ← hx, ← g4, List.getElem?_take_of_lt (by omega)]
    · rcases List.mem_or_eq_of_mem_set hy with hy | rfl
      · exact h2 y hy
      · exact hu
theorem SomeO.kept {q : Value → Prop} {t : TypeId} {lo n : Nat} {w w' : World} {v : Value} {F : List Nat} (h : SomeO q t lo w v n) (hk : Kept F w w') (hF : ∀ g, v.ownBlock = some g → g ∉ F) : SomeO q t lo w' v n := by
  obtain ⟨xs, h1, h2⟩ := h
  exact ⟨xs, own_keep h1 hk hF, h2⟩
def IsI (u : Value) : Prop := ∃ z, u = .int .i32 z
def IsS (u : Value) : Prop := ∃ z, u = .string z
theorem OwnI.ints {lo : Nat} {w : World} {x : ItL} (h : x.OwnI lo w) : ∃ a n c, x.pv = (a, n, c) ∧ n = x.vec.length ∧ SomeO IsI 21 lo w (.slice a n c) n := by
  obtain ⟨a, c, e⟩ := own_form h.vec
  simp only [Value.slice.injEq] at e
  have h1 := h.vec
  refine ⟨x.pv.1, x.pv.2.1, x.pv.2.2, rfl, e.2.1, _, by rw [e.2.1] at h1 ⊢; exact h1, fun u hu => ?_⟩
  obtain ⟨z, _, rfl⟩ := List.mem_map.1 hu
  exact ⟨z, rfl⟩
theorem OwnI.strs {lo : Nat} {w : World} {x : ItL} (h : x.OwnI lo w) : ∃ a n c, x.pt = (a, n, c) ∧ n = x.tags.length ∧ SomeO IsS 9 lo w (.slice a n c) n := by
  obtain ⟨a, c, e⟩ := own_form h.tags
  simp only [Value.slice.injEq] at e
  have h1 := h.tags
  refine ⟨x.pt.1, x.pt.2.1, x.pt.2.2, rfl, e.2.1, _, by rw [e.2.1] at h1 ⊢; exact h1, fun u hu => ?_⟩
  obtain ⟨z, _, rfl⟩ := List.mem_map.1 hu
  exact ⟨z, rfl⟩
theorem reads_ints {ok : Nat → Prop} {w : World} {a : Option Addr} {n c : Nat} {xs : List Int} (h : Rd ok w shVec [.slice a n c] xs) : ReadsO w a n c (xs.map (Value.int .i32)) ∧ n * 4 ≤ 140737488351232 := by
  have hr := Rd.ints h rfl
  obtain ⟨a', n', c', h0, h1, h2, h3, h4, h5, h6⟩ := Rd.slice_part h
  simp only [List.cons.injEq, Value.slice.injEq, and_true] at h0
  obtain ⟨rfl, rfl, rfl⟩ := h0
  refine ⟨⟨by rw [List.length_map]; exact h1, h5, ?_⟩, h2⟩
  rcases hr.cells with h | ⟨b, off, e1, hlt, e2⟩
  · exact .inl h
  · refine .inr ⟨b, off, e1, hlt, fun i hi => ?_⟩
    have hl := hr.len
    rw [e2 i hi, List.getElem?_map, List.getElem?_eq_getElem (by omega)]
    simp [List.getD, show i < xs.length by omega]
theorem reads_strs {ok : Nat → Prop} {w : World} {a : Option Addr} {n c : Nat} {xs : List ByteArray} (h : Rd ok w shTags [.slice a n c] xs) : ReadsO w a n c (xs.map Value.string) ∧ n * 16 ≤ 140737488351232 := by
  have hr := (Rd.strs h rfl).1
  obtain ⟨a', n', c', h0, h1, h2, h3, h4, h5, h6⟩ := Rd.slice_part h
  simp only [List.cons.injEq, Value.slice.injEq, and_true] at h0
  obtain ⟨rfl, rfl, rfl⟩ := h0
  refine ⟨⟨by rw [List.length_map]; exact h1, h5, ?_⟩, h2⟩
  rcases hr.cells with h | ⟨b, off, e1, hlt, e2⟩
  · exact .inl h
  · refine .inr ⟨b, off, e1, hlt, fun i hi => ?_⟩
    have hl := hr.len
    rw [e2 i hi, List.getElem?_map, List.getElem?_eq_getElem (by omega)]
    simp [strAt, List.getD, show i < xs.length by omega]
def p1O (x : ItemV) : PastV := ⟨[⟨1, false, x⟩], 1, 0, []⟩
theorem own_lay (x : ItemV) : PastV.new.lay ⟨1, false, x⟩ = (p1O x, 0) := by
  unfold PastV.lay
  rw [if_neg (by simp [PastV.new]), if_neg (by simp), if_neg (by simp [PastV.new])]
  rfl
theorem own_get (x : ItemV) : (p1O x).get x.id 1 = (x, 0) := by
  unfold PastV.get
  rw [show (p1O x).known 1 = true from rfl, if_pos rfl]
  have : thereP (p1O x).rows x.id 1 = some ⟨1, false, x⟩ := by
    show thereP ([] ++ [⟨1, false, x⟩]) x.id 1 = _
    rw [thereP_snoc]
    simp [RowV.hit]
  rw [this]
theorem own_all (x : ItemV) : (p1O x).all 1 = ([x], 0) := by
  unfold PastV.all
  rw [show (p1O x).known 1 = true from rfl, if_pos rfl]
  have : atP (p1O x).rows x.id 1 = ((0 : Nat) : Int) := (atP_is (r := ⟨1, false, x⟩) rfl).2 ⟨by simp [RowV.hit], fun j s hj hs => by
    have := (List.getElem?_eq_some_iff.1 hs).1
    simp [p1O] at this
    omega⟩
  show (allI [⟨1, false, x⟩] 1 1, 0) = _
  unfold allI
  simp only [List.getElem?_cons_zero]
  rw [if_pos ⟨this, trivial⟩]
  rfl
/-- A past that no write between lo and hi can reach. -/
structure OSt (w : World) (g : Nat) (F : List Nat) (P : PastV) (cs : List Value) (lo hi : Nat) (wr : World) : Prop where
  past : PastIs wr g g F P
  below : Below w.heap.size w wr
  box : Blk wr w.heap.size 37 cs
  hF : ∀ b ∈ F, b < lo ∨ hi ≤ b
  hlo : w.heap.size < lo
theorem OSt.on {w wr wx : World} {g lo hi : Nat} {F : List Nat} {P : PastV} {cs : List Value} (h : OSt w g F P cs lo hi wr) (hb : Below wr.heap.size wr wx) : OSt w g F P cs lo hi wx :=
  ⟨h.past.on hb, h.below.trans (hb.mono h.below.size), (Kept.of_below (F := []) hb (Nat.le_refl _)).blk h.box (by simp), h.hF, h.hlo⟩
theorem OSt.set {w wr : World} {g lo hi b i : Nat} {F : List Nat} {P : PastV} {cs : List Value} (h : OSt w g F P cs lo hi wr) (h1 : lo ≤ b) (h2 : b < hi) (u : Value) : OSt w g F P cs lo hi (wr.setCell ⟨b, i, none⟩ u) := by
  have hl := h.hlo
  refine ⟨h.past.kept ((Kept.refl [b] wr).setCell _ _ (.inl (by simp))) (fun x hx hh => ?_), h.below.setCell (p := ⟨b, i, none⟩) (show w.heap.size ≤ b by omega) u, h.box.far (by show _ ≠ b; omega) u, h.hF, h.hlo⟩
  rw [List.mem_singleton.1 hx] at hh
  have := h.hF b hh
  omega
set_option maxRecDepth 100000 in
theorem fit_item8 : (shItem.fit Try.prog).1 37 = true := by kernel_rfl
section
variable {H : Type} {enc : TypeId × Value → H} {W : World} {base : Nat} {ts : Array TypeId} {args : Array Value} {ds : List (DataW H)} {p : List MemPlace}
/-- An item that comes in. -/
theorem Given.item8 (g : Given enc Try.prog W base ts args ds p) (j : Nat) (ht : ts[j]? = some 37) : ∃ x : ItL, args[j]? = some (.agg x.cells.toArray) ∧ x.In (· < W.heap.size) W := by
  obtain ⟨cs, x, e1, hx⟩ := g.shs j ht shItem fit_item8 Try.underlying37
  obtain ⟨id, vec, tags, a1, n1, k1, a2, n2, k2, rfl, hcs, hid, r1, r2, _, _, _, _⟩ := rd_item hx
  refine ⟨⟨id, (a1, n1, k1), (a2, n2, k2), vec, tags⟩, ?_, ⟨by show id < 4294967296; omega, r1.mono (fun _ _ hk => hk), r2.mono (fun _ _ hk => hk)⟩⟩
  rw [e1]
  show some (Value.agg cs) = some (.agg ([.int .u32 (id : Int), .slice a1 n1 k1, .slice a2 n2 k2] : List Value).toArray)
  rw [← hcs]
end
/-- An item in a box, its lists in rows of the call's own, beside a past that they don't reach. -/
def YSt (w : World) (g : Nat) (F : List Nat) (P : PastV) (xs : List Value) (lo hi bb : Nat) (id : Nat) (v1 : Value) (n1 : Nat) (v2 : Value) (n2 : Nat) (wr : World) : Prop :=
  Blk wr bb 37 [.int .u32 (id : Int), v1, v2] ∧ SomeO IsI 21 lo wr v1 n1 ∧ SomeO IsS 9 lo wr v2 n2 ∧ OSt w g F P xs lo hi wr
theorem YSt.int {w wr : World} {g lo hi bb id n1 n2 c1 i : Nat} {F : List Nat} {P : PastV} {xs : List Value} {a1 : Option Addr} {v2 : Value} (h : YSt w g F P xs lo hi bb id (.slice a1 n1 c1) n1 v2 n2 wr) (hi1 : i < n1) (hlt : ∀ g, (Value.slice a1 n1 c1).ownBlock = some g → lo ≤ g ∧ g < hi) :
    ∃ b z, a1 = some ⟨b, 0, none⟩ ∧ b < wr.heap.size ∧ wr.cell? ⟨b, i, none⟩ = some (.int .i32 z) ∧ wr.frozen? ⟨b, i, none⟩ = false ∧ Hid (∀ zz, YSt w g F P xs lo hi bb id (.slice (some ⟨b, 0, none⟩) n1 c1) n1 v2 n2 (wr.setCell ⟨b, i, none⟩ (.int .i32 zz))) := by
  obtain ⟨hY, hI, hS, hO⟩ := h
  obtain ⟨b, u, rfl, h1, h2, h3, ⟨z, rfl⟩, h4, h5⟩ := hI.at hi1
  have hb := hlt b rfl
  refine ⟨b, z, rfl, h2, h3, h4, fun zz => ⟨hY.far ?_ _, h5 _ ⟨zz, rfl⟩, hS.kept ((Kept.refl [b] wr).setCell _ _ (.inl (by simp))) (fun g' hg' hh => ?_), hO.set hb.1 hb.2 _⟩⟩
  · obtain ⟨ys, hr, _⟩ := hI
    intro e
    exact row_blk8 hr hY (by decide) (by rw [e]; rfl)
  · obtain ⟨ys, hr, _⟩ := hI
    obtain ⟨zs, hs, _⟩ := hS
    rw [List.mem_singleton.1 hh] at hg'
    exact row_apart8 hr hs (by decide) b rfl hg'
theorem YSt.str {w wr : World} {g lo hi bb id n1 n2 c2 i : Nat} {F : List Nat} {P : PastV} {xs : List Value} {a2 : Option Addr} {v1 : Value} (h : YSt w g F P xs lo hi bb id v1 n1 (.slice a2 n2 c2) n2 wr) (hi1 : i < n2) (hlt : ∀ g, (Value.slice a2 n2 c2).ownBlock = some g → lo ≤ g ∧ g < hi) :
    ∃ b z, a2 = some ⟨b, 0, none⟩ ∧ b < wr.heap.size ∧ wr.cell? ⟨b, i, none⟩ = some (.string z) ∧ wr.frozen? ⟨b, i, none⟩ = false ∧ Hid (∀ zz, YSt w g F P xs lo hi bb id v1 n1 (.slice (some ⟨b, 0, none⟩) n2 c2) n2 (wr.setCell ⟨b, i, none⟩ (.string zz))) := by
  obtain ⟨hY, hI, hS, hO⟩ := h
  obtain ⟨b, u, rfl, h1, h2, h3, ⟨z, rfl⟩, h4, h5⟩ := hS.at hi1
  have hb := hlt b rfl
  refine ⟨b, z, rfl, h2, h3, h4, fun zz => ⟨hY.far ?_ _, hI.kept ((Kept.refl [b] wr).setCell _ _ (.inl (by simp))) (fun g' hg' hh => ?_), h5 _ ⟨zz, rfl⟩, hO.set hb.1 hb.2 _⟩⟩
  · obtain ⟨ys, hr, _⟩ := hS
    intro e
    exact row_blk8 hr hY (by decide) (by rw [e]; rfl)
  · obtain ⟨ys, hr, _⟩ := hS
    obtain ⟨zs, hs, _⟩ := hI
    rw [List.mem_singleton.1 hh] at hg'
    exact row_apart8 hr hs (by decide) b rfl hg'
theorem one_of {us : List ItL} {z : ItemV} (h : us.map ItL.toI = [z]) : ∃ u0, us = [u0] := by
  cases us with
  | nil => cases h
  | cons a l =>
    cases l with
    | nil => exact ⟨a, rfl⟩
    | cons b l => simp at h
/-- One item in a list, as All told it. -/
def LSt (w : World) (g : Nat) (F : List Nat) (P : PastV) (xs : List Value) (lo hi gl cl : Nat) (u : ItL) (t1 : Option Addr) (m2 e2 : Nat) (wr : World) : Prop :=
  RowC lo wr 37 3 (.slice (some ⟨gl, 0, none⟩) 1 cl) [u.cells] ∧ u.pt = (t1, m2, e2) ∧ SomeO IsS 9 lo wr (.slice t1 m2 e2) m2 ∧ OSt w g F P xs lo hi wr
theorem LSt.cell {w wr : World} {g lo hi gl cl m2 e2 i : Nat} {F : List Nat} {P : PastV} {xs : List Value} {u : ItL} {t1 : Option Addr} (h : LSt w g F P xs lo hi gl cl u t1 m2 e2 wr) (hi1 : i < 1) : gl < wr.heap.size ∧ wr.cell? ⟨gl, i * 3 + 2, none⟩ = some (.slice t1 m2 e2) := by
  obtain ⟨h1, h2, _, _⟩ := h
  obtain rfl : i = 0 := by omega
  obtain ⟨g', c', e, _, hlt, hr⟩ := RowC.at h1 0 u.cells rfl
  simp only [Value.slice.injEq, Option.some.injEq, Addr.mk.injEq] at e
  obtain ⟨⟨rfl, -⟩, -, -⟩ := e
  have h3 := hr 2 (.slice u.pt.1 u.pt.2.1 u.pt.2.2) rfl
  rw [h2] at h3
  exact ⟨hlt, h3⟩
theorem LSt.str {w wr : World} {g lo hi gl cl m2 e2 k : Nat} {F : List Nat} {P : PastV} {xs : List Value} {u : ItL} {t1 : Option Addr} (h : LSt w g F P xs lo hi gl cl u t1 m2 e2 wr) (hk : k < m2) (hlt : ∀ g, (Value.slice t1 m2 e2).ownBlock = some g → lo ≤ g ∧ g < hi) :
    ∃ b z, t1 = some ⟨b, 0, none⟩ ∧ b < wr.heap.size ∧ wr.cell? ⟨b, k, none⟩ = some (.string z) ∧ wr.frozen? ⟨b, k, none⟩ = false ∧ Hid (∀ zz, LSt w g F P xs lo hi gl cl u (some ⟨b, 0, none⟩) m2 e2 (wr.setCell ⟨b, k, none⟩ (.string zz))) := by
  obtain ⟨hR, hp, hS, hO⟩ := h
  obtain ⟨b, s, rfl, h1, h2, h3, ⟨z, rfl⟩, h4, h5⟩ := hS.at hk
  have hb := hlt b rfl
  refine ⟨b, z, rfl, h2, h3, h4, fun zz => ⟨hR.kept ((Kept.refl [b] wr).setCell _ _ (.inl (by simp))) (fun g' hg' hh => ?_), hp, h5 _ ⟨zz, rfl⟩, hO.set hb.1 hb.2 _⟩⟩
  obtain ⟨ys, hr, _⟩ := hS
  rw [List.mem_singleton.1 hh] at hg'
  exact row_apart8 hr hR.2 (by decide) b rfl hg'

set_option maxRecDepth 100000 in
set_option maxHeartbeats 12800000 in
theorem ownp_walk (x : ItL) (w : World) (hx : x.In (· < w.heap.size) w) :
    Calls Try.prog 6 #[.agg x.cells.toArray] w fun e w' => e = .returned (.bool true) ∧ Below w.heap.size w w' := by
  show Calls _ _ #[.agg #[.int .u32 (x.id : Int), .slice x.pv.1 x.pv.2.1 x.pv.2.2, .slice x.pt.1 x.pt.2.1 x.pt.2.2]] _ _
  obtain ⟨w1, hw1⟩ : ∃ w1, w.alloc (.cells #[.int .u32 (x.id : Int), .slice x.pv.1 x.pv.2.1 x.pv.2.2, .slice x.pt.1 x.pt.2.1 x.pt.2.2] 37) = w1 := ⟨_, rfl⟩
  have B1 : Below w.heap.size w w1 := by rw [← hw1]; exact (Below.refl _ _).alloc (Nat.le_refl _) _
  have X1 : Blk w1 w.heap.size 37 x.cells := by rw [← hw1]; exact Blk.new w 37 x.cells.toArray
  have HX := Lib.hid hx
  clear hx
  go_enter Try.func6, Try.ntmps6
  go_wp2_with (fail)
  try rw [hw1]
  clear hw1
  refine (alive8 w1).mono ?_
  rintro e w2 ⟨rfl, hb2⟩
  have B2 := below_on B1 hb2
  have X2 := (Kept.of_below (F := []) hb2 (Nat.le_refl _)).blk X1 (by simp)
  have hl2 := X2.lt
  have k0 : w2.cell? ⟨w.heap.size, 0, none⟩ = some (.int .u32 (x.id : Int)) := X2.cell 0
  have k1 : w2.cell? ⟨w.heap.size, 1, none⟩ = some (.slice x.pv.1 x.pv.2.1 x.pv.2.2) := X2.cell 1
  have k2 : w2.cell? ⟨w.heap.size, 2, none⟩ = some (.slice x.pt.1 x.pt.2.1 x.pt.2.2) := X2.cell 2
  clear hb2 B1 X1
  go_wp2_with (fail)
  refine (small_any w.heap.size x w2 (HX.out.under B2) B2.size).mono ?_
  rintro e w3 ⟨⟨gs, rfl⟩, hb3⟩
  have B3 := below_on B2 (hb3)
  have X3 := (Kept.of_below (F := []) hb3 (Nat.le_refl _)).blk X2 (by simp)
  clear hb3 B2 X2 k0 k1 k2 hl2
  cases gs
  · go_wp2
    go_ret
    exact ⟨rfl, B3⟩
  go_wp2_with (fail)
  refine (new_is w3).mono ?_
  rintro e w4 ⟨F4, rfl, hb4, h4⟩
  have B4 := below_on B3 hb4
  have X4 := (Kept.of_below (F := []) hb4 (Nat.le_refl _)).blk X3 (by simp)
  have hl4 := X4.lt
  have hs3 := B3.size
  have hs34 := hb4.size
  have k0 : w4.cell? ⟨w.heap.size, 0, none⟩ = some (.int .u32 (x.id : Int)) := X4.cell 0
  have k1 : w4.cell? ⟨w.heap.size, 1, none⟩ = some (.slice x.pv.1 x.pv.2.1 x.pv.2.2) := X4.cell 1
  have k2 : w4.cell? ⟨w.heap.size, 2, none⟩ = some (.slice x.pt.1 x.pt.2.1 x.pt.2.2) := X4.cell 2
  have HX4 := HX.out.under B4
  obtain ⟨r1, hn1⟩ := reads_ints HX4.hvec
  obtain ⟨r2, hn2⟩ := reads_strs HX4.htags
  have hl3 := X3.lt
  clear B3 X3 hb4
  go_wp2_with (fail)
  refine own_region w4 w.heap.size x.id x.pv.1 x.pt.1 x.pv.2.1 x.pv.2.2 x.pt.2.1 x.pt.2.2 x.vec x.tags rfl (by kernel_rfl) ⟨_, rfl, rfl, rfl, rfl, by kernel_rfl⟩ ⟨_, rfl, rfl, rfl, rfl, by kernel_rfl⟩ ⟨_, rfl, rfl, rfl, rfl, by kernel_rfl⟩ ⟨_, rfl, rfl, rfl, rfl, by kernel_rfl⟩ ⟨_, rfl, rfl, rfl, rfl, by kernel_rfl⟩ ⟨_, rfl, rfl, rfl, rfl, by kernel_rfl⟩ ⟨_, rfl, rfl, rfl, rfl, by kernel_rfl⟩ ⟨_, rfl, rfl, rfl, rfl, by kernel_rfl⟩ ⟨_, rfl, rfl, rfl, rfl, by kernel_rfl⟩ ⟨_, rfl, rfl, rfl, rfl, by kernel_rfl⟩ ⟨_, rfl, rfl, rfl, rfl, by kernel_rfl⟩ ⟨_, rfl, rfl, rfl, rfl, by kernel_rfl⟩ ⟨_, rfl, rfl, rfl, rfl, by kernel_rfl⟩ rfl rfl k0 k1 k2 hl4 r1 r2 hn1 hn2 ?_
  intro E w5 hfin
  obtain ⟨bb, a1, n1, c1, a2, n2, c2, h4E, hbb, hblk, oA, oB, hb5⟩ := hfin
  have wfv := rd_vec_wf HX4.hvec
  have wft := rd_tags_wf HX4.htags
  have OY : ItL.OwnI w4.heap.size w5 ⟨x.id, (a1, n1, c1), (a2, n2, c2), x.vec, x.tags⟩ := ⟨HX4.hid, oA, oB, wfv.1, wft.1, wfv.2, wft.2⟩
  have en1 : n1 = x.vec.length := by
    obtain ⟨_, _, e⟩ := own_form oA
    simp only [Value.slice.injEq] at e
    exact e.2.1
  have en2 : n2 = x.tags.length := by
    obtain ⟨_, _, e⟩ := own_form oB
    simp only [Value.slice.injEq] at e
    exact e.2.1
  have I5 : SomeO IsI 21 w4.heap.size w5 (.slice a1 n1 c1) n1 := ⟨_, by rw [← en1] at oA; exact oA, fun u hu => by
    obtain ⟨z, _, rfl⟩ := List.mem_map.1 hu
    exact ⟨z, rfl⟩⟩
  have S5 : SomeO IsS 9 w4.heap.size w5 (.slice a2 n2 c2) n2 := ⟨_, by rw [← en2] at oB; exact oB, fun u hu => by
    obtain ⟨z, _, rfl⟩ := List.mem_map.1 hu
    exact ⟨z, rfl⟩⟩
  have lA : ∀ g, (Value.slice a1 n1 c1).ownBlock = some g → w4.heap.size ≤ g ∧ g < w5.heap.size := fun g hg => own_lt oA hg
  have lB : ∀ g, (Value.slice a2 n2 c2).ownBlock = some g → w4.heap.size ≤ g ∧ g < w5.heap.size := fun g hg => own_lt oB hg
  have ltF := h4.lt
  have h5 := h4.on hb5
  have B5 := B4.trans (hb5.mono (by omega))
  have X5 := (Kept.of_below (F := []) hb5 (Nat.le_refl _)).blk X4 (by simp)
  have lt5 := hblk.lt
  have N1 : n1 ≤ 140737488351232 := by have := wfv.2; omega
  have N2 : n2 ≤ 140737488351232 := by have := wft.2; omega
  have EN1 := Lib.hid en1
  have EN2 := Lib.hid en2
  clear en1 en2
  unfold filledO
  rw [h4E]
  clear h4E k0 k1 k2 r1 r2 hn1 hn2 oA oB HX4 wfv wft hb5 h4 X4 B4
  have d0 : w5.cell? ⟨bb, 0, none⟩ = some (.int .u32 (x.id : Int)) := hblk.cell 0
  have d1 : w5.cell? ⟨bb, 1, none⟩ = some (.slice a1 n1 c1) := hblk.cell 1
  have d2 : w5.cell? ⟨bb, 2, none⟩ = some (.slice a2 n2 c2) := hblk.cell 2
  go_wp2_with (fail)
  refine (put_is w5 _ _ F4 _ 1 ⟨x.id, (a1, n1, c1), (a2, n2, c2), x.vec, x.tags⟩ h5 (by decide) OY.in).mono ?_
  rintro e w6 ⟨F6, rfl, h6, k6, g6⟩
  have ey : (PastV.new.lay ⟨1, false, (⟨x.id, (a1, n1, c1), (a2, n2, c2), x.vec, x.tags⟩ : ItL).toI⟩) = (p1O x.toI, 0) := own_lay x.toI
  rw [ey] at h6 ⊢
  have nF : ∀ g, w4.heap.size ≤ g → g ∉ F4 := fun g h hh => by
    have := (ltF g hh).2
    omega
  have Y6 := Lib.hid (k6.blk hblk (nF bb hbb))
  have I6 := Lib.hid (I5.kept k6 (fun g hg => nF g (lA g hg).1))
  have S6 := Lib.hid (S5.kept k6 (fun g hg => nF g (lB g hg).1))
  have O6 := Lib.hid (show OSt w w3.heap.size F6 (p1O x.toI) x.cells w4.heap.size w5.heap.size w6 from ⟨h6, h5.below k6 (show Below w3.heap.size w5 w5 from Below.refl _ _) h5.size1 |>.mono hs3 |> B5.trans, k6.blk X5 (fun hh => by
      have := (ltF _ hh).1
      omega), fun b hb => by
      rcases g6 b hb with h | h
      · exact .inl (ltF b h).2
      · exact .inr h, hl4⟩)
  clear d0 d1 d2 hblk I5 S5 h5 B5 X5 OY h6 k6 g6 ey nF ltF
  go_wp2_with (fail)
  have YS := Lib.hid (show YSt w w3.heap.size F6 (p1O x.toI) x.cells w4.heap.size w5.heap.size bb x.id (.slice a1 n1 c1) n1 (.slice a2 n2 c2) n2 w6 from ⟨Y6.out, I6.out, S6.out, O6.out⟩)
  clear Y6 I6 S6 O6
  go_loopw [5] (fun s5 wr => ∃ i : Nat, s5 = .int .i64 i ∧ i ≤ n1 ∧ Hid (YSt w w3.heap.size F6 (p1O x.toI) x.cells w4.heap.size w5.heap.size bb x.id (.slice a1 n1 c1) n1 (.slice a2 n2 c2) n2 wr)) (fun s5 _ => n1 - (intOf s5).toNat)
  case atStart => exact ⟨0, rfl, by omega, YS.out⟩
  case round =>
    clear YS
    obtain ⟨i, rfl, hi, YS⟩ := hrel
    have hbl := YS.out.1.lt
    have d1 : wr.cell? ⟨bb, 1, none⟩ = some (.slice a1 n1 c1) := YS.out.1.cell 1
    by_cases hin : i < n1
    · obtain ⟨b, z, rfl, hb1, kz, fz, NS⟩ := YS.out.int hin lA
      clear YS
      go_wp2
      go_roundw
      case rel => exact ⟨i + 1, by go_num, by omega, NS.out _⟩
      case measure => simp [intOf]; omega
    go_wp2_with (fail)
    go_loopw [6] (fun s6 wr => ∃ i : Nat, s6 = .int .i64 i ∧ i ≤ n2 ∧ Hid (YSt w w3.heap.size F6 (p1O x.toI) x.cells w4.heap.size w5.heap.size bb x.id (.slice a1 n1 c1) n1 (.slice a2 n2 c2) n2 wr)) (fun s6 _ => n2 - (intOf s6).toNat)
    case atStart => exact ⟨0, rfl, by omega, YS.out⟩
    case round =>
      clear YS d1 hbl
      obtain ⟨k, rfl, hk, YS⟩ := hrel
      have hbl := YS.out.1.lt
      have d2 : wr.cell? ⟨bb, 2, none⟩ = some (.slice a2 n2 c2) := YS.out.1.cell 2
      by_cases hin : k < n2
      · obtain ⟨b, z, rfl, hb1, kz, fz, NS⟩ := YS.out.str hin lB
        clear YS
        go_wp2
        go_roundw
        case rel => exact ⟨k + 1, by go_num, by omega, NS.out _⟩
        case measure => simp [intOf]; omega
      have O7 := Lib.hid YS.out.2.2.2
      have X7 := O7.out.box
      have hx7 := X7.lt
      have k0 : wr.cell? ⟨w.heap.size, 0, none⟩ = some (.int .u32 (x.id : Int)) := X7.cell 0
      clear X7 hi
      go_wp2_with (fail)
      refine (get_is wr _ _ F6 _ x.id 1 O7.out.past (by decide)).mono ?_
      rintro e w8 ⟨hb8, y8, rfl, oy8, hy8⟩
      have eg : (p1O x.toI).get x.id 1 = (x.toI, 0) := own_get x.toI
      rw [eg] at hy8 ⊢
      have O8 := O7.out.on hb8
      obtain ⟨g1, m1, e1, hpv, hm1, I8⟩ := OwnI.ints oy8
      obtain ⟨g2, m2, e2, hpt, hm2, S8⟩ := OwnI.strs oy8
      have M1 : m1 ≤ 140737488351232 := by have := oy8.lv; omega
      have hbz : w8.heap.size < (w8.alloc (.cells #[.int .u32 (y8.id : Int), .slice g1 m1 e1, .slice g2 m2 e2] 37)).heap.size := by simp
      have b89 : Below w8.heap.size w8 (w8.alloc (.cells #[.int .u32 (y8.id : Int), .slice g1 m1 e1, .slice g2 m2 e2] 37)) := (Below.refl _ _).alloc (Nat.le_refl _) _
      have k89 : Kept [] w8 (w8.alloc (.cells #[.int .u32 (y8.id : Int), .slice g1 m1 e1, .slice g2 m2 e2] 37)) := Kept.of_below b89 (Nat.le_refl _)
      have l1 : ∀ g, (Value.slice g1 m1 e1).ownBlock = some g → wr.heap.size ≤ g ∧ g < w8.heap.size := fun g hg => by
        obtain ⟨_, h, _⟩ := I8
        exact own_lt h hg
      have Z9 := Lib.hid (show YSt w w3.heap.size F6 (p1O x.toI) x.cells wr.heap.size w8.heap.size w8.heap.size y8.id (.slice g1 m1 e1) m1 (.slice g2 m2 e2) m2 (w8.alloc (.cells #[.int .u32 (y8.id : Int), .slice g1 m1 e1, .slice g2 m2 e2] 37)) from
        ⟨Blk.new _ _ _, I8.kept k89 (by simp), S8.kept k89 (by simp), ⟨O8.past.on b89, O8.below.trans (b89.mono O8.below.size), O8.box.alloc _, fun b hb => .inl (O7.out.past.lt b hb).2, hx7⟩⟩)
      have hp8 : (#[.int .u32 (y8.id : Int), .slice y8.pv.1 y8.pv.2.1 y8.pv.2.2, .slice y8.pt.1 y8.pt.2.1 y8.pt.2.2] : Array Value) = #[.int .u32 (y8.id : Int), .slice g1 m1 e1, .slice g2 m2 e2] := by rw [hpv, hpt]
      rw [hp8]
      clear hp8 hpv hpt hm1 hm2 oy8 hy8 I8 S8 b89 k89 hb8 O8 eg O7 YS k0 d2
      go_wp2_with (fail)
      go_loopw [9] (fun s9 wz => ∃ i : Nat, s9 = .int .i64 i ∧ i ≤ m1 ∧ Hid (YSt w w3.heap.size F6 (p1O x.toI) x.cells wr.heap.size w8.heap.size w8.heap.size y8.id (.slice g1 m1 e1) m1 (.slice g2 m2 e2) m2 wz)) (fun s9 _ => m1 - (intOf s9).toNat)
      case atStart => exact ⟨0, rfl, by omega, Z9.out⟩
      case round =>
        clear Z9
        obtain ⟨q, rfl, hq, ZS⟩ := hrel
        have hzl := ZS.out.1.lt
        have d1 := ZS.out.1.cell 1
        simp only [List.getElem?_cons_succ, List.getElem?_cons_zero] at d1
        by_cases hinq : q < m1
        · obtain ⟨b, z, rfl, hb1, kz, fz, NS⟩ := ZS.out.int hinq l1
          clear ZS
          go_wp2
          go_roundw
          case rel => exact ⟨q + 1, by go_num, by omega, NS.out _⟩
          case measure => simp [intOf]; omega
        have OO := Lib.hid ZS.out.2.2.2
        clear ZS
        go_wp2_with (fail)
        refine (all_is wr _ _ F6 _ 1 OO.out.past (by decide)).mono ?_
        rintro e w10 ⟨hb10, sv, us, rfl, hus, huo, hut⟩
        have ea : (p1O x.toI).all 1 = ([x.toI], 0) := own_all x.toI
        rw [ea] at hut ⊢
        obtain ⟨u0, rfl⟩ := one_of hut
        obtain ⟨gl, cl, rfl, hgl0, hgl, hrl⟩ := RowC.at hus 0 u0.cells rfl
        simp only [List.map_cons, List.map_nil, List.length_cons, List.length_nil, Nat.reduceAdd] at hus ⊢
        have ou := huo u0 (by simp)
        obtain ⟨t1, m2, e2, hpt, hm2, S10⟩ := OwnI.strs ou
        have M2 : m2 ≤ 140737488351232 := by have := ou.lt; omega
        have l2 : ∀ g, (Value.slice t1 m2 e2).ownBlock = some g → wr.heap.size ≤ g ∧ g < w10.heap.size := fun g hg => by
          obtain ⟨_, h, _⟩ := S10
          exact own_lt h hg
        have hhl : w.heap.size < wr.heap.size := by
          have := OO.out.box.lt
          omega
        have L10 := Lib.hid (show LSt w w3.heap.size F6 (p1O x.toI) x.cells wr.heap.size w10.heap.size gl cl u0 t1 m2 e2 w10 from
          ⟨hus, by rw [hpt], S10, ⟨OO.out.past.on hb10, OO.out.below.trans (hb10.mono OO.out.below.size), (Kept.of_below (F := []) hb10 (Nat.le_refl _)).blk OO.out.box (by simp), fun b hb => .inl (OO.out.past.lt b hb).2, hhl⟩⟩)
        clear hus huo hut ou hpt hm2 S10 hb10 hrl hgl hgl0 ea OO hhl
        go_wp2_with (fail)
        obtain ⟨LO, hLO⟩ : ∃ LO, wr.heap.size = LO := ⟨_, rfl⟩
        rw [hLO] at L10 l2
        clear hLO
        go_loopw [12, 13] (fun s12 _ wl => ∃ i : Nat, s12 = .int .i64 i ∧ i ≤ 1 ∧ Hid (LSt w w3.heap.size F6 (p1O x.toI) x.cells LO w10.heap.size gl cl u0 t1 m2 e2 wl)) (fun s12 _ _ => 1 - (intOf s12).toNat)
        case atStart => exact ⟨0, rfl, by omega, L10.out⟩
        case round =>
          clear L10
          obtain ⟨r, rfl, hr, LS⟩ := hrel
          by_cases hr1 : r < 1
          · have hr1b : decide ((r : Int) < 1) = true := decide_eq_true (by omega)
            go_wp2_with (fail)
            go_loopw [13] (fun s13 wl => ∃ v : Nat, s13 = .int .i64 v ∧ v ≤ m2 ∧ Hid (LSt w w3.heap.size F6 (p1O x.toI) x.cells LO w10.heap.size gl cl u0 t1 m2 e2 wl)) (fun s13 _ => m2 - (intOf s13).toNat)
            case atStart => exact ⟨0, rfl, by omega, LS.out⟩
            case round =>
              clear LS
              obtain ⟨v, rfl, hv, LV⟩ := hrel
              obtain ⟨hgl, kt⟩ := LV.out.cell hr1
              by_cases hvm : v < m2
              · obtain ⟨b, z, rfl, hb1, kz, fz, NS⟩ := LV.out.str hvm l2
                clear LV
                go_wp2
                go_roundw
                case rel => exact ⟨v + 1, by go_num, by omega, NS.out _⟩
                case measure => simp [intOf]; omega
              · go_wp2
                go_roundw
                case rel => exact ⟨r + 1, by go_num, by omega, LV.out⟩
                case measure => simp [intOf]; omega
          · have hr1b : decide ((r : Int) < 1) = false := decide_eq_false (by omega)
            have O11 := Lib.hid LS.out.2.2.2
            clear LS
            have X11 := O11.out.box
            have hx11 := X11.lt
            have k0 : wr.cell? ⟨w.heap.size, 0, none⟩ = some (.int .u32 (x.id : Int)) := X11.cell 0
            clear X11
            go_wp2_with (fail)
            refine (get_is wr _ _ F6 _ x.id 1 O11.out.past (by decide)).mono ?_
            rintro e w12 ⟨hb12, y12, rfl, oy, hy⟩
            have eg2 : (p1O x.toI).get x.id 1 = (x.toI, 0) := own_get x.toI
            rw [eg2] at hy ⊢
            have O12 := O11.out.on hb12
            obtain ⟨w13, hw13⟩ : ∃ w13, w12.alloc (.cells #[.int .u32 (y12.id : Int), .slice y12.pv.1 y12.pv.2.1 y12.pv.2.2, .slice y12.pt.1 y12.pt.2.1 y12.pt.2.2] 37) = w13 := ⟨_, rfl⟩
            have b13 : Below w12.heap.size w12 w13 := by rw [← hw13]; exact (Below.refl _ _).alloc (Nat.le_refl _) _
            have y13 : Blk w13 w12.heap.size 37 [.int .u32 (y12.id : Int), .slice y12.pv.1 y12.pv.2.1 y12.pv.2.2, .slice y12.pt.1 y12.pt.2.1 y12.pt.2.2] := by rw [← hw13]; exact Blk.new _ _ _
            have O13 := O12.on b13
            have B13 := Lib.hid O13.below
            have oy13 := (oy.on b13).in
            have RY := Lib.hid (show Rd (fun _ => True) w13 shItem [.int .u32 (y12.id : Int), .slice y12.pv.1 y12.pv.2.1 y12.pv.2.2, .slice y12.pt.1 y12.pt.2.1 y12.pt.2.2] y12.tup from rd_item_mk oy13.hid oy13.hvec oy13.htags)
            have hx13 := HX.out.under O13.below
            have RX := Lib.hid (show Rd (· < w.heap.size) w13 shItem [.int .u32 (x.id : Int), .slice x.pv.1 x.pv.2.1 x.pv.2.2, .slice x.pt.1 x.pt.2.1 x.pt.2.2] x.tup from rd_item_mk hx13.hid hx13.hvec hx13.htags)
            have EQ := Lib.hid (show toItem y12.tup = toItem x.tup from hy)
            have j0 : w13.cell? ⟨w12.heap.size, 0, none⟩ = some (.int .u32 (y12.id : Int)) := y13.cell 0
            have j1 : w13.cell? ⟨w12.heap.size, 1, none⟩ = some (.slice y12.pv.1 y12.pv.2.1 y12.pv.2.2) := y13.cell 1
            have j2 : w13.cell? ⟨w12.heap.size, 2, none⟩ = some (.slice y12.pt.1 y12.pt.2.1 y12.pt.2.2) := y13.cell 2
            have i0 : w13.cell? ⟨w.heap.size, 0, none⟩ = some (.int .u32 (x.id : Int)) := O13.box.cell 0
            have i1 : w13.cell? ⟨w.heap.size, 1, none⟩ = some (.slice x.pv.1 x.pv.2.1 x.pv.2.2) := O13.box.cell 1
            have i2 : w13.cell? ⟨w.heap.size, 2, none⟩ = some (.slice x.pt.1 x.pt.2.1 x.pt.2.2) := O13.box.cell 2
            have ij1 := y13.lt
            have ij2 := O13.box.lt
            clear oy hy hb12 O12 O11 O13 oy13 hx13 y13 b13 k0 hx11 eg2
            go_upto_region 31 with fail
            try rw [hw13]
            clear hw13
            go_wp2_with (fail)
            refine (sameItem _ _ _ _ _ _ _ _ w13 RY.out RX.out).mono ?_
            rintro e w14 ⟨z, rfl, hz, hb14⟩
            obtain rfl : z = true := hz.2 EQ.out
            have B14 := Lib.hid (B13.out.trans (hb14.mono B13.out.size))
            clear hz hb14
            go_wp2
            go_ret
            exact ⟨rfl, B14.out⟩

theorem ownp_row : Rows.PastOwnSaid :=
  OpenClaim.holds_of_wide 6 Try.f6 rfl rfl rfl rfl rfl rfl rfl ⟨rfl, rfl, rfl, rfl, rfl⟩ rfl rfl rfl rfl rfl (by kernel_rfl) Try.func6 (by kernel_rfl)
    (of_decide_eq_true (by kernel_rfl)) (by unfold Func.isWrapper; rw [if_neg (of_decide_eq_false (by kernel_rfl))]; exact ⟨rfl, rfl⟩)
    (fun os started H enc _ => lift (C := Try.checked) (s := Rows.pastOwnSpec) (conds := Rows.pastOwnRow.domain) os started H enc prog_own (by kernel_rfl) Try.func6 prog_laid rfl Try.underlying4 rfl
      (fun ds hl => by
        have hl : ds.length = 1 := hl
        match ds, hl with
        | [_], _ => rfl)
      (of_decide_eq_true (by kernel_rfl))
      (ChangeSpec.witness6 (enc := enc) (C := Try.checked) false ⟨#[], #[.agg #[.int .u32 0, .slice none 0 0, .slice none 0 0]], []⟩ 8 (by kernel_rfl) (by kernel_rfl) (by kernel_rfl) (by kernel_rfl))
      (fun W base args ds p g => by
        rw [Try.params6] at g
        obtain ⟨x, e0, hx⟩ := g.item8 0 rfl
        rw [args1 g.count e0]
        exact ownp_walk x W hx))
end Go.Proofs.Ytkfoakabdhllkaa
