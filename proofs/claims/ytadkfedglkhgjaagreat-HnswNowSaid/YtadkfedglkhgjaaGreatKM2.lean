/-
  Layer 12: places, down, iterators that read what the loop keeps up, slices.Backward, drawn regions in a round. (Merged out of Ki Km Kj Kn Ko Kp Kq.)
-/
import Derived.Test.YtadkfedglkhgjaaGreatKM1
import Derived.StillTailTactics
import Derived.Test.YtadkfedglkhgjaaGreatLg
import Derived.Deep.RegionHeld3
import Derived.OrdersIn
namespace Go.Proofs.YtadkfedglkhgjaaGreat

section
open Go.RowKit Go.ChangeShapes Go.WideShapes Go.ChangeAt Go.Maps

theorem hit_cells12 {w : World} {t : TypeId} {g n cap : Nat} {xs : List Hit} (h : Own w t (.slice (some ⟨g, 0, none⟩) n cap) xs) (i : Nat) (x : Hit) (hi : xs[i]? = some x) :
    w.cell? ⟨g, i * 2, none⟩ = some (.int .i64 x.1) ∧ w.cell? ⟨g, i * 2 + 1, none⟩ = some (.int .u32 x.2) ∧ g < w.heap.size := by
  obtain ⟨rest, -, hb, -, -, -⟩ := h.blk
  have hil := (List.getElem?_eq_some_iff.1 hi).1
  have hf := flat_len xs
  have hx : xs.getD i (0, 0) = x := by rw [List.getD_eq_getElem?_getD, hi]; rfl
  refine ⟨?_, ?_, hb.lt⟩
  · rw [hb.cell, List.getElem?_append_left (by omega), flat_fst xs i hil, hx]
  · rw [hb.cell, List.getElem?_append_left (by omega), flat_snd xs i hil, hx]
def placesV (l : List Hit) : List Nat := l.map fun h => h.2.toNat
theorem intsC_get (l : List Nat) (i : Nat) : (intsC l)[i]? = (l[i]?).map fun (j : Nat) => Value.int .i64 (j : Int) := by
  unfold intsC
  rw [List.getElem?_map]
theorem ints_grow (l : List Nat) (n i j : Nat) (hi : l.length = i) (hn : i < n) : (intsC l ++ List.replicate (n - i) (Value.int .i64 0)).set i (.int .i64 (j : Int)) = intsC (l ++ [j]) ++ List.replicate (n - (i + 1)) (Value.int .i64 0) := by
  have hl : (intsC l).length = i := by unfold intsC; rw [List.length_map, hi]
  obtain ⟨m, hm⟩ : ∃ m, n - i = m + 1 := ⟨n - i - 1, by omega⟩
  rw [List.set_append_right _ _ (by omega), hl, Nat.sub_self, hm, show n - (i + 1) = m from by omega, List.replicate_succ, List.set_cons_zero]
  unfold intsC
  simp
set_option maxRecDepth 100000 in
set_option maxHeartbeats 3200000 in
theorem places_any (w : World) (g n : Nat) (l : List Hit) (hn : l.length = n) (hn5 : n ≤ 100000) (hl : ∀ h ∈ l, 0 ≤ h.2 ∧ h.2 < 4294967296) (h : Own w 51 (.slice (some ⟨g, 0, none⟩) n n) l) :
    Calls Tryz.prog 40 #[.slice (some ⟨g, 0, none⟩) n n] w fun e w' => ∃ gl, e = .returned (.slice (some ⟨gl, 0, none⟩) n n) ∧ IntsAt w.heap.size w' (.slice (some ⟨gl, 0, none⟩) n n) (placesV l) ∧ Below w.heap.size w w' := by
  obtain ⟨i0, hi0, hz0, hz1, hz2⟩ := info_parts int_info11
  obtain ⟨w1, hmk, ho1, hg1⟩ := run_makeSlice_full (P := Tryz.prog) (w := w) w.heap.size 62 3 i0 (.int .i64 0) 1 Tryz.underlying62 hi0 hz0 hz1 .i64 .i64 n (by omega) (by rw [hz2]; omega) (by unfold maxLen; omega) (Nat.le_refl _)
  have hml : (madeCells (Value.int .i64 0).cells (n * 1)).toList = intsC [] ++ List.replicate (n - 0) (Value.int .i64 0) := by
    simp [madeCells, intsC, Value.cells]
    refine List.eq_replicate_iff.2 ⟨by simp, fun b hb => ?_⟩
    obtain ⟨y, _, rfl⟩ := List.mem_map.1 hb
    simp [Nat.mod_one]
  rw [hml] at ho1
  have B1 := Lib.hid (show Below w.heap.size w w1 from (Below.refl _ _).grown hg1 (Nat.le_refl _) (fun k hk => by cases hk))
  have O1 := Lib.hid ho1
  have HH := Lib.hid h
  have HN := Lib.hid hn
  have HLL := Lib.hid hl
  obtain ⟨gl, hgl⟩ : ∃ gl, w.heap.size = gl := ⟨_, rfl⟩
  have hgll : gl < w1.heap.size := by
    have := World.ownsRow.lt ho1 w.heap.size rfl
    omega
  rw [hgl] at hmk
  clear h hn hl ho1 hg1 hml
  go_enter Tryz.func40, Tryz.ntmps40
  go_wp2
  go_loopw [11] (fun s11 wr => ∃ i : Nat, s11 = .int .i64 (i : Int) ∧ i ≤ n ∧ Hid (wr.ownsRow w.heap.size 3 1 (.slice (some ⟨w.heap.size, 0, none⟩) n n) n (intsC (placesV (l.take i)) ++ List.replicate (n - i) (Value.int .i64 0))) ∧ Hid (Below w.heap.size w wr)) (fun s11 _ => n - (intOf s11).toNat)
  case atStart => exact ⟨0, rfl, Nat.zero_le _, O1, B1⟩
  case round =>
    obtain ⟨i, rfl, hi, HO, HB⟩ := hrel
    have hws := HB.out.size
    by_cases hc : i < n
    · obtain ⟨hx, hhx⟩ : ∃ x, l[i]? = some x := ⟨l[i]'(by rw [HN.out]; exact hc), by rw [List.getElem?_eq_getElem]⟩
      obtain ⟨hd, hj⟩ := hx
      have hwf := HLL.out _ (List.mem_of_getElem? hhx)
      obtain ⟨j, hjn⟩ := Int.eq_ofNat_of_zero_le hwf.1
      have hjn : hj = (j : Int) := hjn
      subst hjn
      have hj32 : (j : Int) < 4294967296 := hwf.2
      have hHr : Own wr 51 (.slice (some ⟨g, 0, none⟩) n n) l := HH.out.kept (Kept.of_below (F := []) HB.out (Nat.le_refl _)) (by simp)
      obtain ⟨q0, q1, hgw⟩ := hit_cells12 hHr i _ hhx
      have q0 : wr.cell? ⟨g, i * 2, none⟩ = some (.int .i64 hd) := q0
      have q1 : wr.cell? ⟨g, i * 2 + 1, none⟩ = some (.int .u32 (j : Int)) := q1
      obtain ⟨W2, hW2⟩ : ∃ W2, wr.alloc (.cells #[.int .i64 hd, .int .u32 (j : Int)] 51) = W2 := ⟨_, rfl⟩
      obtain ⟨bx, hbx⟩ : ∃ bx, wr.heap.size = bx := ⟨_, rfl⟩
      have hb2 : Below wr.heap.size wr W2 := by rw [← hW2]; exact (Below.refl _ _).alloc (Nat.le_refl _) _
      have X2 : Blk W2 bx 51 [.int .i64 hd, .int .u32 (j : Int)] := by rw [← hW2, ← hbx]; exact Blk.new _ _ _
      have k1 : W2.cell? ⟨bx, 1, none⟩ = some (.int .u32 (j : Int)) := X2.cell 1
      have O2 := (Kept.of_below (F := []) hb2 (Nat.le_refl _)).own HO.out (by simp)
      have hlen : (intsC (placesV (l.take i)) ++ List.replicate (n - i) (Value.int .i64 0)).length = n := by
        have := HN.out
        simp [placesV]
        omega
      have f2 := own_frozen O2 i
      have e2 : W2.cell? ⟨w.heap.size, i, none⟩ = some (.int .i64 0) := by
        rcases own_cells1 (by rw [hlen]; exact O2) with ⟨e, _⟩ | ⟨g2, c2, e, _, _, _, hc2⟩
        · cases e
        · simp only [Value.slice.injEq, Option.some.injEq, Addr.mk.injEq, and_true] at e
          obtain ⟨rfl, _⟩ := e
          rw [hc2 i (by rw [hlen]; exact hc)]
          have hli : (intsC (placesV (l.take i))).length = i := by have := HN.out; simp [placesV]; omega
          rw [List.getElem?_append_right (by omega), hli, Nat.sub_self, List.getElem?_replicate_of_lt (by omega)]
      have O3 := (O2.stored i (.int .i64 (j : Int))).1
      have hpl : (placesV (l.take i)).length = i := by have := HN.out; simp [placesV]; omega
      rw [ints_grow _ n i j hpl hc] at O3
      have hjw : IntKind.i64.wrap (j : Int) = (j : Int) := by rw [IntKind.wrap_i64]; omega
      have B3 := (HB.out.trans (hb2.mono hws)).setCell (p := ⟨w.heap.size, i, none⟩) (Nat.le_refl _) (.int .i64 (j : Int))
      have N3 := Lib.hid (And.intro O3 B3)
      have NX := Lib.hid (show placesV (l.take i) ++ [j] = placesV (l.take (i + 1)) from by
        rw [List.take_add_one, hhx]
        simp [placesV])
      rw [hgl] at e2 f2 N3
      clear hb2 X2 O2 hlen O3 hpl B3 hHr hhx HO hwf
      go_wp2_with (first | (rw [hW2]) | fail)
      go_roundw
      case rel => exact ⟨i + 1, by go_num, by omega, by
        have h9 := N3.out.1
        rw [NX.out] at h9
        rw [hgl]
        exact Lib.hid h9, by rw [hgl]; exact Lib.hid N3.out.2⟩
      case measure => simp [intOf]; omega
    · have FIN := Lib.hid (show IntsAt w.heap.size wr (.slice (some ⟨w.heap.size, 0, none⟩) n n) (placesV l) from by
        refine IntsAt.mk ?_
        have h9 := HO.out
        have := HN.out
        rw [List.take_of_length_le (by omega), show n - i = 0 from by omega, List.replicate_zero, List.append_nil] at h9
        rw [show (placesV l).length = n from by simp [placesV, this]]
        exact h9)
      rw [hgl] at FIN
      clear HO
      go_wp2
      go_ret
      exact ⟨_, rfl, by rw [hgl]; exact FIN.out, HB.out⟩
end

section
section
variable {g : GraphV} {q : List Int} {W level : Nat}
theorem meet_ne {s : WalkV} (hW : 1 ≤ W) (h : s.best ≠ []) (j : Nat) : (g.meet q W s j).best ≠ [] := by
  unfold GraphV.meet
  split
  · exact h
  · split
    · intro e
      have h1 := congrArg List.length e
      simp only [List.length_take, ins_len, List.length_nil] at h1
      omega
    · exact h
theorem meets_ne (hW : 1 ≤ W) : ∀ (l : List Nat) {s : WalkV}, s.best ≠ [] → (g.meets q W s l).best ≠ []
  | [], _, h => h
  | j :: l, s, h => by
    show (g.meets q W (g.meet q W s j) l).best ≠ []
    exact meets_ne hW l (meet_ne hW h j)
/-- What a walk tells: hits of places that are on the level, in order, so many at most; something, if it had something. -/
theorem walkF_told (hr : g.Right) : ∀ (k : Nat) (s : WalkV), WalkOk g q W level s →
    (∀ h ∈ g.walkF q W level k s, ∃ j, h = g.hit q j ∧ level < g.lv j) ∧ InOrder (g.walkF q W level k s) ∧ (g.walkF q W level k s).length ≤ W ∧ (1 ≤ W → s.best ≠ [] → g.walkF q W level k s ≠ [])
  | 0, s, h => ⟨fun x hx => by
      obtain ⟨j, hj, e⟩ := h.bhit x hx
      exact ⟨j, e, h.on j hj⟩, h.bord, h.blen, fun _ hb => hb⟩
  | k + 1, s, h => by
    have here : (∀ x ∈ s.best, ∃ j, x = g.hit q j ∧ level < g.lv j) ∧ InOrder s.best ∧ s.best.length ≤ W ∧ (1 ≤ W → s.best ≠ [] → s.best ≠ []) := ⟨fun x hx => by
      obtain ⟨j, hj, e⟩ := h.bhit x hx
      exact ⟨j, e, h.on j hj⟩, h.bord, h.blen, fun _ hb => hb⟩
    cases e : s.waits with
    | nil =>
      rw [walkF_nil e]
      exact here
    | cons c ws =>
      by_cases hs : s.best.length = W ∧ ltH (lastL s.best) c = true
      · rw [walkF_stop e hs]
        exact here
      · rw [walkF_go e hs]
        obtain ⟨-, h1, h2, -⟩ := h.next hr e
        obtain ⟨i1, i2, i3, i4⟩ := walkF_told hr k _ h2
        exact ⟨i1, i2, i3, fun hW hb => i4 hW (meets_ne hW _ hb)⟩
theorem widthN_pos (width : Int) : 1 ≤ widthN width ∧ widthN width ≤ 256 := by unfold widthN; omega
theorem walk_told (hr : g.Right) (fr : List Int) (width : Int) {lev : Int} (h0 : 0 ≤ lev) :
    (∀ h ∈ g.walk q fr width lev, ∃ j, h = g.hit q j ∧ lev.toNat < g.lv j) ∧ InOrder (g.walk q fr width lev) ∧ (g.walk q fr width lev).length ≤ widthN width ∧ (pick (fun i => g.onB i lev) fr ≠ [] → g.walk q fr width lev ≠ []) := by
  have hs := (GraphV.start_ok g q (widthN width) lev.toNat (pick (fun i => g.onB i lev) fr) (pick_ok _ fr (fun i => onB_nonneg)).1 (pick_on fr h0)).1
  obtain ⟨h1, h2, h3, h4⟩ := walkF_told hr (g.L.length + 1) _ hs
  refine ⟨h1, h2, h3, fun hp => h4 (widthN_pos width).1 ?_⟩
  unfold GraphV.start
  intro e
  have h5 := congrArg List.length e
  simp only [keepL, List.length_take, sortL_len, List.length_map, List.length_nil] at h5
  have := (widthN_pos width).1
  have h6 : 0 < (pick (fun i => g.onB i lev) fr).length := List.length_pos_iff.2 hp
  omega
theorem pick_one (p : Int → Bool) (i : Int) (h : p i = true) : pick p [i] = [i.toNat] := by
  unfold pick pickS
  simp [h]
/-- From one place that is on the level a walk tells something, all of it on the level. -/
theorem walk_one (hr : g.Right) {i : Nat} (width : Int) (hi : level < g.lv i) : ∃ h l, g.walk q [(i : Int)] width (level : Int) = h :: l ∧ ∃ j : Nat, h = g.hit q j ∧ level < g.lv j := by
  obtain ⟨h1, -, -, h4⟩ := walk_told (q := q) hr [(i : Int)] width (lev := (level : Int)) (by omega)
  have hon : g.onB (i : Int) (level : Int) = true := by
    rw [GraphV.on_iff]
    exact decide_eq_true hi
  have hne := h4 (by rw [pick_one (fun i => g.onB i (level : Int)) (i : Int) hon]; simp)
  cases e : g.walk q [(i : Int)] width (level : Int) with
  | nil => exact absurd e hne
  | cons h l =>
    obtain ⟨j, e1, e2⟩ := h1 h (by rw [e]; simp)
    exact ⟨h, l, rfl, j, e1, by simpa using e2⟩
end
/-- The first hit's place; d, if there is none. -/
def firstP (l : List Hit) (d : Int) : Int := match l with
  | h :: _ => h.2
  | [] => d
/-- Down from level + k to level. -/
def GraphV.downF (g : GraphV) (q : List Int) (level : Nat) : Nat → Int → Int
  | 0, i => i
  | k + 1, i => g.downF q level k (firstP (g.walk q [i] 1 ((level + k + 1 : Nat) : Int)) i)
def IdxV.down (s : IdxV) (q : List Int) (level : Nat) : Int := s.g.downF q level (s.topI - (level : Int)).toNat s.entry
/-- The entry is no place, or one that is there. -/
def IdxV.EntryOk (s : IdxV) : Prop := s.entry = -1 ∨ (0 ≤ s.entry ∧ s.entry < (s.g.L.length : Int))
theorem topI_none {s : IdxV} (h : s.entry = -1) : s.topI = -1 := by
  unfold IdxV.topI GraphV.nodeOr GraphV.thereB
  rw [h]
  simp [zeroNV]
theorem topI_some {s : IdxV} {i : Nat} (h : s.entry = (i : Int)) (hi : i < s.g.L.length) : s.topI = (s.g.lv i : Int) - 1 := by
  unfold IdxV.topI GraphV.nodeOr GraphV.thereB
  rw [h]
  have e : decide ((0 : Int) ≤ (i : Int) ∧ (i : Int) < (s.g.L.length : Int)) = true := decide_eq_true ⟨by omega, by omega⟩
  rw [e, if_pos rfl, Int.toNat_natCast]
  unfold GraphV.lv
  rw [List.getElem?_eq_getElem hi]
  rfl
theorem downF_on {g : GraphV} {q : List Int} {level : Nat} (hr : g.Right) : ∀ (k : Nat) {i : Nat}, level + k < g.lv i → ∃ j : Nat, g.downF q level k (i : Int) = (j : Int) ∧ level < g.lv j
  | 0, i, h => ⟨i, rfl, h⟩
  | k + 1, i, h => by
    obtain ⟨x, l, e, j, e1, e2⟩ := walk_one (q := q) hr 1 (show level + k + 1 < g.lv i from h)
    have hx : firstP (g.walk q [(i : Int)] 1 ((level + k + 1 : Nat) : Int)) (i : Int) = (j : Int) := by
      rw [e, e1]
      rfl
    unfold GraphV.downF
    rw [hx]
    exact downF_on hr k (by omega)
/-- Where a search for q goes on from a level down. -/
theorem down_is {s : IdxV} (hr : s.g.Right) (he : s.EntryOk) (q : List Int) (level : Nat) : (s.entry = -1 ∧ s.down q level = -1) ∨ ∃ i j : Nat, s.entry = (i : Int) ∧ i < s.g.L.length ∧ s.down q level = (j : Int) ∧ min (level : Int) s.topI < (s.g.lv j : Int) ∧ j < s.g.L.length := by
  rcases he with h | ⟨h0, h1⟩
  · left
    refine ⟨h, ?_⟩
    unfold IdxV.down
    rw [topI_none h, show ((-1 : Int) - (level : Int)).toNat = 0 from by omega]
    exact h
  · right
    obtain ⟨i, hi⟩ := Int.eq_ofNat_of_zero_le h0
    have hil : i < s.g.L.length := by omega
    have ht := topI_some hi hil
    have h1l : 1 ≤ s.g.lv i := by
      have := hr.one (s.g.L[i]) (List.getElem_mem hil)
      rw [GraphV.lv_some (List.getElem?_eq_getElem hil)]
      exact this
    refine ⟨i, ?_⟩
    unfold IdxV.down
    rw [hi]
    by_cases hlt : (level : Int) ≤ s.topI
    · obtain ⟨j, e1, e2⟩ := downF_on (q := q) hr (s.topI - (level : Int)).toNat (show level + (s.topI - (level : Int)).toNat < s.g.lv i from by omega)
      exact ⟨j, rfl, hil, e1, by omega, GraphV.lv_lt (Nat.lt_of_le_of_lt (Nat.zero_le _) e2)⟩
    · refine ⟨i, rfl, hil, ?_, by omega, hil⟩
      rw [show (s.topI - (level : Int)).toNat = 0 from by omega]
      rfl
end

section
open Go.RowKit Go.ChangeShapes Go.WideShapes Go.ChangeAt Go.Maps

theorem reads_on12 {k : IntKind} {w w' : World} {a : Option Addr} {n : Nat} {xs : List Int} (h : Reads k w a n xs) (hb : Below w.heap.size w w') : Reads k w' a n xs := h.below (Nat.le_refl _) hb
/-- What a walk tells, as places. -/
theorem walk_places {g : GraphV} (hr : g.Right) (hf : g.L.length ≤ 100000) (q fr : List Int) (width : Int) {lev : Int} (h0 : 0 ≤ lev) {l : List Hit} (hl : g.walk q fr width lev = l) :
    (∀ h ∈ l, 0 ≤ h.2 ∧ h.2 < 4294967296) ∧ l.length ≤ 256 ∧ ∀ j ∈ placesV l, lev.toNat < g.lv j ∧ j < g.L.length := by
  obtain ⟨h1, -, h3, -⟩ := walk_told (q := q) hr fr width h0
  rw [hl] at h1 h3
  refine ⟨fun h hh => ?_, Nat.le_trans h3 (widthN_pos width).2, fun j hj => ?_⟩
  · obtain ⟨j, rfl, hj⟩ := h1 h hh
    have := GraphV.lv_lt (Nat.lt_of_le_of_lt (Nat.zero_le _) hj)
    show (0 : Int) ≤ (j : Int) ∧ (j : Int) < 4294967296
    omega
  · obtain ⟨h, hh, rfl⟩ := List.mem_map.1 hj
    obtain ⟨j, rfl, hjl⟩ := h1 h hh
    show lev.toNat < g.lv ((j : Int)).toNat ∧ ((j : Int)).toNat < g.L.length
    rw [Int.toNat_natCast]
    exact ⟨hjl, GraphV.lv_lt (Nat.lt_of_le_of_lt (Nat.zero_le _) hjl)⟩
set_option maxRecDepth 100000 in
set_option maxHeartbeats 3200000 in
theorem hdown_any (w : World) (lo x : Nat) (F : List Nat) (s : IdxV) (h : IdxIs w lo x F s) (he : s.EntryOk) (hf : s.g.L.length ≤ 100000) (qa : Option Addr) (qn qc : Nat) (q : List Int) (hq : Reads .i32 w qa qn q) (level : Nat) (hlev : level ≤ 4) :
    Calls Tryz.prog 42 #[.pointer (some ⟨x, 0, none⟩), .slice qa qn qc, .int .i64 (level : Int)] w fun e w' => e = .returned (.int .i64 (s.down q level)) ∧ Below w.heap.size w w' := by
  have CT := Lib.hid (htop_any w lo x F s h)
  have HR := Lib.hid h.right
  have HF := Lib.hid hf
  have HQ := Lib.hid hq
  obtain ⟨T, hT⟩ : ∃ T, s.topI = T := ⟨_, rfl⟩
  have hT4 : T ≤ 4 ∧ -1 ≤ T := by
    rw [← hT]
    rcases he with h0 | ⟨h0, h1⟩
    · rw [topI_none h0]
      omega
    · obtain ⟨i, hi⟩ := Int.eq_ofNat_of_zero_le h0
      have hil : i < s.g.L.length := by omega
      rw [topI_some hi hil, GraphV.lv_some (List.getElem?_eq_getElem hil)]
      have := h.right.most _ (List.getElem_mem hil)
      omega
  have H0 := Lib.hid (show s.g.downF q level (T - (level : Int)).toNat s.entry = s.down q level ∧ ((level : Int) < T → ∃ i : Nat, s.entry = (i : Int) ∧ T < (s.g.lv i : Int)) from by
    rw [← hT]
    refine ⟨rfl, fun hh => ?_⟩
    rcases he with h0 | ⟨h0, h1⟩
    · rw [topI_none h0] at hh
      omega
    · obtain ⟨i, hi⟩ := Int.eq_ofNat_of_zero_le h0
      exact ⟨i, hi, by rw [topI_some hi (by omega)]; omega⟩)
  have HT := Lib.hid hT
  obtain ⟨gg, gm, Fg, S, h1, h2, -⟩ := h
  have c4 : w.cell? ⟨x, 4, none⟩ = some (.int .i64 s.entry) := h1.cell 4
  have HX := Lib.hid h1
  have HG := Lib.hid h2
  obtain ⟨E, hE⟩ : ∃ E, s.entry = E := ⟨_, rfl⟩
  obtain ⟨D, hD⟩ : ∃ D, s.down q level = D := ⟨_, rfl⟩
  rw [hE] at c4
  rw [hE, hD] at H0
  rw [hD]
  clear h1 h2 hE hD he hf hq hT
  go_enter Tryz.func42, Tryz.ntmps42
  go_wp2_with (fail)
  refine CT.out.mono ?_
  rw [HT.out]
  rintro e w1 ⟨rfl, hb1⟩
  have B1 := Lib.hid hb1
  clear hb1 CT c4
  go_wp2_with (fail)
  go_loopw [7, 8] (fun s7 s8 wr => ∃ at12 on : Int, s7 = .int .i64 at12 ∧ s8 = .int .i64 on ∧ on ≤ 4 ∧ -1 ≤ on ∧ Hid (s.g.downF q level (on - (level : Int)).toNat at12 = D ∧ ((level : Int) < on → ∃ i : Nat, at12 = (i : Int) ∧ on < (s.g.lv i : Int))) ∧ Hid (Below w.heap.size w wr)) (fun _ s8 _ => (intOf s8 + 1).toNat)
  case atStart => exact ⟨E, T, rfl, rfl, hT4.1, hT4.2, H0, B1⟩
  case round =>
    obtain ⟨at12, on, rfl, rfl, hon, hon1, HD, HB⟩ := hrel
    by_cases hgt : (level : Int) < on
    · obtain ⟨i, hi, hlv⟩ := HD.out.2 hgt
      subst hi
      obtain ⟨o1, ho1⟩ : ∃ o1 : Nat, on = ((o1 + 1 : Nat) : Int) := ⟨(on - 1).toNat, by omega⟩
      obtain ⟨hh, ll, hwk, j, hj, hjl⟩ := walk_one (q := q) HR.out (i := i) (level := o1 + 1) 1 (by omega)
      rw [← ho1] at hwk
      have X1 := (Kept.of_below (F := []) HB.out (Nat.le_refl _)).blk HX.out (by simp)
      have x3 : wr.cell? ⟨x, 3, none⟩ = some (.pointer (some ⟨gg, 0, none⟩)) := X1.cell 3
      obtain ⟨W2, hW2⟩ : ∃ W2, wr.alloc (.cells #[.int .i64 (i : Int)] 3) = W2 := ⟨_, rfl⟩
      obtain ⟨bx, hbx⟩ : ∃ bx, wr.heap.size = bx := ⟨_, rfl⟩
      have hb2 : Below wr.heap.size wr W2 := by rw [← hW2]; exact (Below.refl _ _).alloc (Nat.le_refl _) _
      have B2 := Lib.hid (HB.out.trans (hb2.mono HB.out.size))
      have hi6 : i < s.g.L.length := GraphV.lv_lt (by omega)
      have RL := Lib.hid (show Reads .i64 W2 (some ⟨bx, 0, none⟩) 1 [(i : Int)] from by
        rw [← hW2, ← hbx]
        exact reads_lit (t := 3) wr [(i : Int)] 1 rfl (by decide) (by decide) (fun y hy => by
          rw [List.mem_singleton.1 hy]
          have := HF.out
          simp [Lit.wf, IntKind.min, IntKind.max, IntKind.signed, IntKind.bits]
          omega))
      obtain ⟨HL, hHL⟩ : ∃ HL, s.g.walk q [(i : Int)] 1 on = HL := ⟨_, rfl⟩
      have WK := Lib.hid (walk_is (HG.out.on B2.out) qa qn qc q (reads_on12 HQ.out B2.out) (some ⟨bx, 0, none⟩) 1 1 [(i : Int)] RL.out (by decide) 1 on)
      rw [hHL] at WK hwk
      have PL := Lib.hid (walk_places HR.out HF.out q [(i : Int)] 1 (lev := on) (by omega) hHL)
      have HNX := Lib.hid (show s.g.downF q level (on - 1 - (level : Int)).toNat (j : Int) = D ∧ ((level : Int) < on - 1 → ∃ i : Nat, (j : Int) = (i : Int) ∧ on - 1 < (s.g.lv i : Int)) from by
        refine ⟨?_, fun _ => ⟨j, rfl, by omega⟩⟩
        have h9 := HD.out.1
        rw [show (on - (level : Int)).toNat = (on - 1 - (level : Int)).toNat + 1 from by omega] at h9
        unfold GraphV.downF at h9
        rw [show (((level + (on - 1 - (level : Int)).toNat + 1 : Nat)) : Int) = on from by omega, hHL, hwk, hj] at h9
        exact h9)
      have HPL := Lib.hid (show placesV HL = j :: placesV ll from by
        rw [hwk, hj]
        rfl)
      clear hwk hj hjl hlv hi6 hHL hb2 HD ho1 hh X1
      go_wp2_with (first | (rw [hW2]) | fail)
      clear hW2
      refine WK.out.mono ?_
      rintro e w3 ⟨gh, nh, rfl, ho3, hb3, -⟩
      obtain ⟨_, hnl, -⟩ := ho3.blk
      have hnl' := hnl.symm
      have CP := Lib.hid (places_any w3 gh nh HL hnl' (by have := PL.out.2.1; omega) PL.out.1 ho3)
      have B3 := Lib.hid (B2.out.trans (hb3.mono B2.out.size))
      have hn0 : 0 < nh := by
        have h9 := congrArg List.length HPL.out
        simp only [placesV, List.length_map, List.length_cons] at h9
        omega
      clear ho3 hb3 hnl hnl' WK x3 RL PL
      go_wp2_with (fail)
      refine CP.out.mono ?_
      rintro e w4 ⟨gl, rfl, ho4, hb4⟩
      have B4 := Lib.hid (B3.out.trans (hb4.mono B3.out.size))
      have k0 : w4.cell? ⟨gl, 0, none⟩ = some (.int .i64 (j : Int)) := by
        rcases own_cells1 (show w4.ownsRow w3.heap.size 3 1 _ (intsC (placesV HL)).length (intsC (placesV HL)) from by
          rw [show (intsC (placesV HL)).length = (placesV HL).length from by simp]
          exact ho4.own) with ⟨e, _⟩ | ⟨g2, c2, e, _, _, _, hc2⟩
        · cases e
        · simp only [Value.slice.injEq, Option.some.injEq, Addr.mk.injEq, and_true] at e
          obtain ⟨rfl, _⟩ := e
          rw [hc2 0 (by rw [HPL.out]; simp), HPL.out]
          rfl
      obtain ⟨onn, honn⟩ : ∃ onn, on - 1 = onn := ⟨_, rfl⟩
      rw [honn] at HNX
      have hon2 : onn ≤ 4 ∧ -1 ≤ onn := by omega
      have hmm : (onn + 1).toNat < (on + 1).toNat := by omega
      have hw1 : IntKind.i64.wrap (on - 1) = onn := by rw [IntKind.wrap_i64]; omega
      clear ho4 hb4 CP HPL honn
      go_wp2
      go_roundw
      case rel => exact ⟨(j : Int), onn, rfl, rfl, hon2.1, hon2.2, HNX, B4⟩
      case measure => simpa [intOf] using hmm
    · have FIN := Lib.hid (show at12 = D from by
        have h9 := HD.out.1
        rw [show (on - (level : Int)).toNat = 0 from by omega] at h9
        exact h9)
      clear HD H0
      go_wp2
      go_ret
      exact ⟨by rw [← FIN.out]; rfl, HB.out⟩
end

section
open Go.RowKit Go.Shelf

/-- The function g with its captured values lb gives xs, one by one, to any body that goes on each time, as long as Pz holds when so many were given. -/
def GivesP {α : Type} (P : Program) (g : Nat) (lb : Array Value) (encs : α → Array Value) (xs : List α) (Pz : Nat → World → Prop) : Prop :=
  ∀ (l : Nat) (J : List Nat → List α → World → Prop) (W : World) (F : List Nat), Abide W.heap.size J → (∀ F pre W, J F pre W → Pz pre.length W) →
    (∀ F pre x W1, J F pre W1 → pre ++ [x] <+: xs → YieldAt Fence.wide 9 P l (encs x) W1 fun e W' => e = .returned (.bool true) ∧ ∃ F', J F' (pre ++ [x]) W' ∧ Kept F W1 W' ∧ Grows W1 F F') →
    J F [] W → Calls P g (#[.func (.yield l) #[] #[]] ++ lb) W fun e W' => (∃ v, e = .returned v) ∧ ∃ F', J F' xs W'

theorem wpIn_givesP {α : Type} {P : Program} {n : Nat} {g : Operand} {ps : Array Tmp} {assign body : Code} {Q : Exit → Act → World → Prop} {a : Act} {w : World}
    (h1 : 1 ≤ n) {gf : Nat} {lb : Array Value} (hg : a.eval g = .func (.func gf) #[] lb) (eg : ∀ args w, (callFunc gf args).run P w = .ok (.enter gf args) w)
    {encs : α → Array Value} {xs : List α} {Pz : Nat → World → Prop} (hseq : GivesP P gf lb encs xs Pz) (hps : ∀ x, (encs x).size = ps.size)
    (I : List Nat → List α → World → Prop) (hI : Abide w.heap.size I) (hIP : ∀ F pre W, I F pre W → Pz pre.length W) (F0 : List Nat) (hF0 : ∀ x ∈ F0, x < w.heap.size) (h0 : I F0 [] w)
    (Ax : α → Act → World → Prop) (hAx : ∀ x a' W1 W2, Ax x a' W1 → Kept [w.heap.size + 1] W1 W2 → Ax x a' W2)
    (hassign : ∀ (l : Nat) (x : α) (W : World) (K : Act → World → Prop), w.heap.size + 2 ≤ W.heap.size → (∀ a' W', Kept [] W W' → Ax x a' W' → K a' W') →
      assign.wpIn (Fence.wide.inRound l) (n - 1 - 1) P (Exit.then K (fun _ _ _ => False)) { tmps := (ps.zip (encs x)).foldl (fun t (p, v) => t.setIfInBounds p v) a.tmps, defers := [] } W)
    (hbody : ∀ (l : Nat) (F : List Nat) (pre : List α) (x : α) (a' : Act) (W : World), I F pre W → Ax x a' W → w.heap.size ≤ W.heap.size → pre ++ [x] <+: xs → body.wpIn (Fence.wide.inRound l) (n - 1 - 1) P (givesPost I F (pre ++ [x]) W) a' W)
    (hdone : ∀ (D : Nat) (F : List Nat) (W : World), w.heap.size ≤ D → (∀ x ∈ F, x ≠ D) → I F xs W → W.heap[D]? = some (.deferred (some [])) → Q .normal { a with defers := { target := .collected D, args := #[] } :: a.defers } W) :
    (Code.rangeFunc g ps assign body).wpIn Fence.wide n P Q a w := by
  refine wpIn_rangeFunc fun fn hfn => ?_
  obtain ⟨B, hB⟩ : ∃ B, w.heap.size = B := ⟨_, rfl⟩
  rw [hB] at hI hbody hdone hAx hassign hF0
  let rec' : LoopState → Loop := fun st => { state := st, pending := none, fn, tmps := a.tmps, params := ps, assign, body, defers := B }
  obtain ⟨V, hV⟩ : ∃ V, (w.alloc (.deferred (some []))).alloc (.loop (rec' .ready)) = V := ⟨_, rfl⟩
  have sV : V.heap.size = B + 2 := by rw [← hV]; simp [hB]
  have dV : V.heap[B]? = some (.deferred (some [])) := by
    rw [← hV, ← hB]
    exact (Below.heap_alloc _ _ _ (by simp)).trans (World.alloc_heap_new w _)
  have lV : V.heap[B + 1]? = some (.loop (rec' .ready)) := by
    have := World.alloc_heap_new (w.alloc (.deferred (some []))) (.loop (rec' .ready))
    rw [World.size_alloc, hB] at this
    rw [← hV]
    exact this
  have kV : Kept [] w V := by
    rw [← hV]
    exact ((Kept.refl [] w).alloc _).alloc _
  have iV : I F0 [] V := hI _ _ _ _ _ h0 kV (by simp)
  refine ⟨B + 1, [{ target := .collected B, args := #[] }], V, { target := .fn (.func gf) lb, args := #[.func (.yield (B + 1)) #[] #[]] }, V, gf, #[.func (.yield (B + 1)) #[] #[]] ++ lb, V, ?_, ?_, fun _ _ => trivial, ?_, fun _ => h1, ?_⟩
  · rw [← hV]
    have := run_enterLoop_outer (P := P) (w := w) fn a.tmps ps assign body
    rw [hB] at this
    exact this
  · simp only [resolve, hg]
    simp [go_sem]
  · simp [invoke, go_sem, eg]
  refine (callsIn_wide.2 (hseq (B + 1) (fun F' pre W => ∃ F, F' = (B + 1) :: B :: F ∧ I F pre W ∧ W.heap[B + 1]? = some (.loop (rec' .ready)) ∧ W.heap[B]? = some (.deferred (some [])) ∧ ∀ x ∈ F, x < B ∨ B + 2 ≤ x) V ((B + 1) :: B :: F0) ?_ ?_ ?_ ⟨F0, rfl, iV, lV, dV, fun x hx => .inl (hF0 x hx)⟩)).mono ?_
  · rintro F' pre X Y G ⟨F, rfl, h1, h2, h3, h4⟩ hk hG
    have h2' := (Array.getElem?_eq_some_iff.1 h2).1
    have h3' := (Array.getElem?_eq_some_iff.1 h3).1
    refine ⟨F, rfl, hI _ _ _ _ _ h1 hk fun x hx => ⟨fun hh => (hG x hx).1 (by simp [hh]), by have := (hG x hx).2; omega⟩, (hk.block _ h2' fun hh => (hG _ hh).1 (by simp)).trans h2, (hk.block _ h3' fun hh => (hG _ hh).1 (by simp)).trans h3, h4⟩
  · rintro F' pre X ⟨F, rfl, h1, h2, h3, h4⟩
    exact hIP _ _ _ h1
  · rintro F' pre x W ⟨F, rfl, hi, hl, hd, hF⟩ hp
    have hlt := (Array.getElem?_eq_some_iff.1 hl).1
    have hnl : B + 1 ∉ F := fun hh => by have := hF _ hh; omega
    have hnd : B ∉ F := fun hh => by have := hF _ hh; omega
    have hy := run_yield (P := P) (args := encs x) hl (hps x)
    refine yield_any (m := n - 1 - 1) 9 ⟨fn, _, assign, body, hy, roundIn_of_wpIn hfn (hassign _ x W _ (by omega) fun a' Wa ka hax => ?_)⟩
    have hia := hI _ _ _ _ _ hi ka (by simp)
    replace hl := (ka.block _ hlt (by simp)).trans hl
    replace hd := (ka.block _ (by omega) (by simp)).trans hd
    have hlta := (Array.getElem?_eq_some_iff.1 hl).1
    obtain ⟨W2, hW2⟩ : ∃ W2, Wa.putObj (B + 1) (.loop (rec' .busy)) = W2 := ⟨_, rfl⟩
    have l2 : W2.heap[B + 1]? = some (.loop (rec' .busy)) := by rw [← hW2]; exact World.putObj_heap_same hlta
    have d2 : W2.heap[B]? = some (.deferred (some [])) := by rw [← hW2]; exact (World.putObj_heap_other (by omega)).trans hd
    have k2 : Kept [B + 1] Wa W2 := by rw [← hW2]; exact put_kept _ _ _
    have i2 : I F pre W2 := hI _ _ _ _ _ hia k2 fun x hx => by
      rw [List.mem_singleton.1 hx]
      exact ⟨hnl, by omega⟩
    have sz := k2.size
    refine ⟨W2, by rw [← hW2]; exact run_beginRound hl rfl, ?_⟩
    refine wpIn_mono (hbody _ F pre x a' _ i2 (hAx _ _ _ _ hax k2) (by omega) hp) ?_
    rintro e a3 W3 hq
    cases e with
    | normal =>
      obtain ⟨F3, hi3, hk3, hg3⟩ := hq
      have l3 := (hk3.block _ (Array.getElem?_eq_some_iff.1 l2).1 hnl).trans l2
      have d3 := (hk3.block _ (Array.getElem?_eq_some_iff.1 d2).1 hnd).trans d2
      have hlt3 := (Array.getElem?_eq_some_iff.1 l3).1
      have k4 := put_kept W3 (B + 1) (.loop (rec' .ready))
      have hF3 : ∀ x ∈ F3, x < B ∨ B + 2 ≤ x := fun x hx => by
        rcases hg3 x hx with h | h
        · exact hF x h
        · exact .inr (by omega)
      refine ⟨_, _, run_endRound none l3, rfl, (B + 1) :: B :: F3, ⟨F3, rfl, hI _ _ _ _ _ hi3 k4 fun x hx => ?_, World.putObj_heap_same hlt3, (World.putObj_heap_other (by omega)).trans d3, hF3⟩, ?_, ?_⟩
      · rw [List.mem_singleton.1 hx]
        exact ⟨fun hh => by have := hF3 _ hh; omega, by omega⟩
      · refine ((ka.mono (G := (B + 1) :: B :: F) (by simp)).trans ((k2.mono (G := (B + 1) :: B :: F) (by simp)).trans ((hk3.mono (G := (B + 1) :: B :: F) (fun x hx => by simp [hx])).trans (k4.mono (G := (B + 1) :: B :: F) (by simp)) (Grows.refl _ _)) (Grows.refl _ _)) (Grows.refl _ _))
      · intro x hx
        rcases List.mem_cons.1 hx with rfl | hx
        · exact .inl (by simp)
        · rcases List.mem_cons.1 hx with rfl | hx
          · exact .inl (by simp)
          · rcases hg3 x hx with h | h
            · exact .inl (by simp [h])
            · exact .inr (by have := ka.size; omega)
    | ret => exact hq.elim
    | exit id => exact hq.elim
    | goto t => exact hq.elim
    | panic ch => exact hq.elim
    | outgrown => exact hq.elim
  · rintro e W2 ⟨⟨v, rfl⟩, F', F, rfl, hi, hl, hd, hF⟩
    refine ⟨none, _, run_endLoop hl (by simp [rec']), hdone B F _ (Nat.le_refl _) (fun x hx => by have := hF x hx; omega) (hI _ _ _ _ _ hi (put_kept _ _ _) fun x hx => ?_) ((World.putObj_heap_other (by omega)).trans hd)⟩
    rw [List.mem_singleton.1 hx]
    exact ⟨fun hh => by have := hF _ hh; omega, by omega⟩
end

section
open Go.RowKit Go.Shelf

/-- The places below m from above, each with what lies there. -/
def backZ (vs : List Value) : Nat → List (Nat × Value)
  | 0 => []
  | m + 1 => (m, vs.getD m (.int .i64 0)) :: backZ vs m
theorem backZ_len (vs : List Value) : ∀ m, (backZ vs m).length = m
  | 0 => rfl
  | m + 1 => by rw [backZ, List.length_cons, backZ_len vs m]
def bkE (x : Nat × Value) : Array Value := #[.int .i64 (x.1 : Int), x.2]
/-- What Backward's function value reads when k were given: its box, and those that are still to come. -/
def BackP (Bx gl K cap : Nat) (vs : List Value) (k : Nat) (W : World) : Prop :=
  W.cell? ⟨Bx, 0, none⟩ = some (.slice (some ⟨gl, 0, none⟩) K cap) ∧ ∀ i, i + k < K → W.cell? ⟨gl, i, none⟩ = some (vs.getD i (.int .i64 0))

set_option maxRecDepth 100000 in
set_option maxHeartbeats 3200000 in
theorem back12_in (Bx gl K cap : Nat) (vs : List Value) (hK : K ≤ 100000) (l : Nat) (J : List Nat → List (Nat × Value) → World → Prop) (W : World) (F : List Nat) (hA : Abide W.heap.size J)
    (hJP : ∀ F pre W, J F pre W → BackP Bx gl K cap vs pre.length W)
    (hY : ∀ F pre x W1, J F pre W1 → pre ++ [x] <+: backZ vs K → YieldAt Fence.wide 9 Tryz.prog l (bkE x) W1 fun e W' => e = .returned (.bool true) ∧ ∃ F', J F' (pre ++ [x]) W' ∧ Kept F W1 W' ∧ Grows W1 F F')
    (h0 : J F [] W) :
    CallsIn Fence.wide 10 Tryz.prog 103 #[.func (.yield l) #[] #[], .pointer (some ⟨Bx, 0, none⟩)] W fun e W' => (∃ v, e = .returned v) ∧ ∃ F', J F' (backZ vs K) W' := by
  have HA := Lib.hid hA
  have HY := Lib.hid hY
  have HP := Lib.hid hJP
  have c0 : W.cell? ⟨Bx, 0, none⟩ = some (.slice (some ⟨gl, 0, none⟩) K cap) := (hJP _ _ _ h0).1
  clear hA hY hJP
  refine callsIn_of_wp Tryz.func103 rfl trivial ?_ rfl
  simp only [Tryz.ntmps103, List.size_toArray, List.length_cons, List.length_nil, Nat.reduceAdd, Nat.reduceSub, Array.replicate_succ, Array.replicate_zero, List.push_toArray, List.append_toArray, List.nil_append, List.cons_append]
  gi_wp2
  gi_loopw [3] (fun s3 wr => ∃ (m : Nat) (pre : List (Nat × Value)) (G : List Nat), s3 = .int .i64 ((m : Int) - 1) ∧ m ≤ K ∧ Hid (backZ vs K = pre ++ backZ vs m) ∧ Hid (J G pre wr)) (fun s3 _ => (intOf s3 + 1).toNat)
  case atStart => exact ⟨K, [], F, rfl, Nat.le_refl _, rfl, h0⟩
  case round =>
    obtain ⟨m, pre, G, rfl, hm, HB, HJ⟩ := hrel
    have hlen : pre.length + m = K := by
      have h1 := congrArg List.length HB.out
      rw [List.length_append, backZ_len, backZ_len] at h1
      omega
    have PP := HP.out _ _ _ HJ.out
    have c2 : wr.cell? ⟨Bx, 0, none⟩ = some (.slice (some ⟨gl, 0, none⟩) K cap) := PP.1
    cases m with
    | zero =>
      gi_wp2
      go_end0
      refine ⟨⟨_, rfl⟩, G, ?_⟩
      have := HB.out
      simp [backZ] at this
      rw [this]
      exact HJ.out
    | succ m =>
      obtain ⟨v, hv⟩ : ∃ v, vs.getD m (.int .i64 0) = v := ⟨_, rfl⟩
      have k0 : wr.cell? ⟨gl, m, none⟩ = some v := by
        rw [← hv]
        exact PP.2 m (by omega)
      have HB2 := Lib.hid (show backZ vs K = (pre ++ [(m, v)]) ++ backZ vs m from by rw [HB.out, backZ, hv]; simp)
      clear PP hlen hv
      obtain ⟨fn, tmps, assign, body, hy, hR⟩ := HY.out G pre (m, v) wr HJ.out ⟨_, HB2.out.symm⟩
      dsimp only [bkE] at hy
      rw [show (((m + 1 : Nat) : Int) - 1) = (m : Int) by omega]
      gi_wp2
      refine hR.mono ?_
      rintro e W3 ⟨rfl, G', hJ3, hk3, hg3⟩
      gi_wp2
      go_roundw
      case rel => exact ⟨m, _, G', by go_num, by omega, HB2.out, hJ3⟩
      case measure => first | (simp [intOf]; done) | (simp [intOf]; omega)
theorem back12_gives (Bx gl K cap : Nat) (vs : List Value) (hK : K ≤ 100000) :
    GivesP Tryz.prog 103 #[.pointer (some ⟨Bx, 0, none⟩)] bkE (backZ vs K) (BackP Bx gl K cap vs) :=
  fun l J W F hA hJP hY h0 => callsIn_wide.1 (back12_in Bx gl K cap vs hK l J W F hA hJP hY h0)
set_option maxHeartbeats 1600000 in
/-- slices.Backward(l): the slice is boxed; the function value captures the box. -/
theorem back12_any (w : World) (a : Option Addr) (n c : Nat) :
    Calls Tryz.prog 58 #[.slice a n c] w fun e w' => e = .returned (.func (.func 103) #[] #[.pointer (some ⟨w.heap.size, 0, none⟩)]) ∧ w' = w.alloc (.cells #[.slice a n c] 57) := by
  go_enter Tryz.func58, Tryz.ntmps58
  go_wp2
  go_ret
  exact ⟨rfl, rfl⟩
end

section
open Go.RowKit Go.Shelf

theorem rows_wide {n : Nat} {P : Program} {row : String} {args : Array Value} {w : World} {R : Value → World → Prop} (h : Rows P row args w R) : RowsIn Fence.wide n P row args w R :=
  fun c cs _ => let ⟨v, w', r, s⟩ := h c cs; ⟨v, w', r, stepsIn_wide.2 s⟩
theorem oper_round {P : Program} {o : Oper} {a : Act} {w : World} {K : Act → World → Prop} {Q : Exit → Act → World → Prop} (l n : Nat) (hd : ∀ c, o.op ≠ .defer c) (h : o.wp P a w K Q) : o.wpIn (Fence.wide.inRound l) n P a w K Q := by
  refine ⟨fun _ _ => trivial, ?_⟩
  rw [Oper.semAt_eq _ _ _ hd]
  unfold Oper.wp at h
  generalize (execOp a.eval o).run P w = r at h ⊢
  cases r with
  | ok x w' =>
    cases x <;> simp only [Oper.upon, Oper.uponIn] at h ⊢ <;>
      first
        | exact h
        | exact ⟨fun hh => (by cases hh), CallsIn.inRound l (callsIn_wide.2 h)⟩
        | exact ⟨fun hh => (by cases hh), rows_wide h⟩
        | exact h.elim
  | halt x w' => cases x <;> simp only [Oper.upon, Oper.uponIn] at h ⊢ <;> exact h
theorem any_round {P : Program} {md : Region.Mode} {ops : Array Oper} {Q : Exit → Act → World → Prop} (l n : Nat) (hd : ∀ (i : Nat) (o : Oper), ops[i]? = some o → ∀ c, o.op ≠ .defer c) (hno : ¬ LetsOut Q) :
    ∀ (fuel : Nat) (listed : Array Bool) (a : Act) (w : World), wpAny P md ops Q fuel listed a w → wpAnyIn (Fence.wide.inRound l) n P md ops Q fuel listed a w
  | 0, _, _, _, h => h
  | fuel + 1, listed, a, w, h => ⟨h.1, fun i hi => by
      have h2 := h.2 i hi
      unfold wpOp at h2
      unfold wpOpIn
      cases ho : ops[i]? with
      | none =>
        rw [ho] at h2
        exact any_round l n hd hno fuel _ a w h2
      | some o =>
        rw [ho] at h2
        simp only at h2 ⊢
        split
        · rename_i hw
          rw [if_pos hw] at h2
          rcases h2 with h2 | h2
          · exact Oper.wpIn_mono (fun a' w' h3 => any_round l n hd hno fuel _ a' w' h3) (oper_round l n (hd i o ho) h2)
          · exact absurd h2.2 hno
        · rename_i hw
          rw [if_neg hw] at h2
          exact ⟨fun _ _ => trivial, any_round l n hd hno fuel _ _ w h2⟩⟩
def nthO : List Oper → Nat → Option Oper
  | [], _ => none
  | x :: _, 0 => some x
  | _ :: xs, i + 1 => nthO xs i
theorem nthO_get : ∀ (l : List Oper) (i : Nat), nthO l i = l[i]?
  | [], _ => by simp [nthO]
  | x :: _, 0 => by simp [nthO]
  | _ :: xs, i + 1 => by simp [nthO, nthO_get xs i]
def notDefer (o : Oper) : Bool := match o.op with
  | .defer _ => false
  | _ => true
theorem notDefer_ne {o : Oper} (h : notDefer o = true) : ∀ c, o.op ≠ .defer c := fun c e => by
  unfold notDefer at h
  rw [e] at h
  cases h
section
variable {P : Program} {l : List Oper} {Q : Exit → Act → World → Prop} {S : World → Prop}
/-- A region that draws, in a round: S is shown of the world behind the draw. -/
theorem region_round {k n id : Nat} {a : Act} {w : World} (hm : P.follows .mixedOrders = true) (hd : l.all notDefer = true) (hno : ¬ LetsOut Q) (hS : S w.drew)
    (h : S w.drew → wpAnyH P .any l.toArray Q S l.length (Array.replicate l.length false) a w.drew) : (Code.region id l.toArray true).wpIn (Fence.wide.inRound k) n P Q a w :=
  wpIn_region_any hm (any_round k n (fun i o ho => notDefer_ne (List.all_eq_true.1 hd o (List.mem_of_getElem? (by simpa using ho)))) hno _ _ _ _ (wpAny_of_held _ _ _ _ (by simpa using h hS)))
theorem takeH {i : Nat} {oi : Oper} {v : Value} {fuel : Nat} {listed : Array Bool} {a : Act} {w : World} (hi : nthO l i = some oi)
    (hs : Region.noSelect l.toArray = true) (hf : Region.free .any l.toArray listed i = true) (hr : (Region.ready .any l.toArray listed).contains i = true)
    (hQ : ∀ c a w, Q (.panic c) (a.put oi.dst v) w → Q (.panic c) a w) (hy : YieldsIf P l.toArray S oi v a) (hS : S w)
    (h : wpAnyH P .any l.toArray Q S fuel (listed.setIfInBounds i true) (a.put oi.dst v) w) : wpAnyH P .any l.toArray Q S (fuel + 1) listed a w :=
  wpAnyH_take (by rw [nthO_get] at hi; simpa using hi) hs hf hr hQ hy hS h
theorem oneH {i : Nat} {o : Oper} {fuel : Nat} {listed : Array Bool} {a : Act} {w : World} (ho : nthO l i = some o) (hr : Region.ready .any l.toArray listed = [i])
    (h : ∀ K' : Act → World → Prop, Shut (∀ a w, S w → (S w → wpAnyH P .any l.toArray Q S fuel (listed.setIfInBounds i true) a w) → K' a w) → if Region.wanted o (yielded l.toArray a.tmps) = true then Oper.wp P o a w K' Q else K' (a.put o.dst undef) w) :
    wpAnyH P .any l.toArray Q S (fuel + 1) listed a w :=
  wpAnyH_ready hr (by simp) (AllReadyH.cons (by rw [nthO_get] at ho; simpa using ho) h AllReadyH.nil)
end
end

section
open Go.RowKit Go.ChangeShapes Go.WideShapes Go.ChangeAt Go.Maps

/-- From where the walk on the level behind d goes, K levels in all, the search beginning at i. -/
def IdxV.fromI (s : IdxV) (q : List Int) (i : Int) (K : Nat) : Nat → List Int
  | 0 => [i]
  | d + 1 => natsI (placesV (s.g.walk q (s.fromI q i K d) (s.width : Int) ((K - 1 - d : Nat) : Int)))
/-- Whom the node is linked to, d levels below the uppermost one. -/
def IdxV.chosenI (s : IdxV) (q : List Int) (i : Int) (K d : Nat) : List Nat := s.g.choose q (s.fromI q i K (d + 1)) s.most

theorem reads_kept12 {k : IntKind} {G : List Nat} {w w' : World} {a : Option Addr} {n : Nat} {xs : List Int} (h : Reads k w a n xs) (hk : Kept G w w') (ha : ∀ p, a = some p → p.block ∉ G) : Reads k w' a n xs := by
  obtain ⟨h1, h2, h3, h4, h5⟩ := h
  refine ⟨h1, h2, h3, h4, ?_⟩
  rcases h5 with h5 | ⟨b, off, e, hlt, h5⟩
  · exact .inl h5
  · have hn := ha _ e
    exact .inr ⟨b, off, e, Nat.lt_of_lt_of_le hlt hk.size, fun i hi => (hk.cell (p := ⟨b, off + i, none⟩) hlt hn).trans (h5 i hi)⟩

/-- Where choose is: the boxes of the list and of whom the walk goes from, d walks made, e levels chosen; R are the blocks of the lists of numbers. -/
structure ChI (s : IdxV) (q : List Int) (i : Int) (K lo gl bf d e : Nat) (R : List Nat) (W : World) : Prop where
  frm : ∃ (a : Option Addr) (n c : Nat), Blk W bf 62 [.slice a n c] ∧ Reads .i64 W a n (s.fromI q i K d) ∧ n ≤ 100000 ∧ ∀ p, a = some p → p.block ∈ R
  row : ∃ cs : List Value, Blk W gl 62 cs ∧ cs.length = K ∧ (∀ j, j + e < K → cs[j]? = some (.slice none 0 0)) ∧ ∀ j, j < K → K ≤ j + e → ∃ v, cs[j]? = some v ∧ IntsAt lo W v (s.chosenI q i K (K - 1 - j)) ∧ ∀ b ∈ ownB v, b ∈ R
  out : gl ∉ R ∧ bf ∉ R ∧ gl ≠ bf

section
variable {s : IdxV} {q : List Int} {i : Int} {K lo gl bf d e : Nat} {R G : List Nat} {W W' W3 : World}
theorem ChI.keep (h : ChI s q i K lo gl bf d e R W) (hk : Kept G W W') (hg : gl ∉ G) (hb : bf ∉ G) (hR : ∀ b ∈ R, b ∉ G) : ChI s q i K lo gl bf d e R W' := by
  obtain ⟨⟨a, n, c, h1, h2, h3, h4⟩, ⟨cs, r1, r2, r3, r4⟩, h5⟩ := h
  refine ⟨⟨a, n, c, hk.blk h1 hb, reads_kept12 h2 hk (fun p e => hR _ (h4 p e)), h3, h4⟩, ⟨cs, hk.blk r1 hg, r2, r3, fun j h6 h7 => ?_⟩, h5⟩
  obtain ⟨v, e1, e2, e3⟩ := r4 j h6 h7
  exact ⟨v, e1, IntsAt.mk (hk.own e2.own fun k e => hR k (e3 k (mem_ownB.2 e))), e3⟩
theorem ChI.on (h : ChI s q i K lo gl bf d e R W) (hb : Below W.heap.size W W') : ChI s q i K lo gl bf d e R W' := h.keep (G := []) (Kept.of_below hb (Nat.le_refl _)) (by simp) (by simp) (by simp)
theorem ChI.lts (h : ChI s q i K lo gl bf d e R W) : gl < W.heap.size ∧ bf < W.heap.size := by
  obtain ⟨⟨a, n, c, h1, -⟩, ⟨cs, r1, -⟩, -⟩ := h
  exact ⟨r1.lt, h1.lt⟩
/-- A walk's places are laid into the box of whom the next one goes from. -/
theorem ChI.setFrom (h : ChI s q i K lo gl bf d e R W) (hb : Below W.heap.size W W3) {gn n : Nat} {l : List Nat} (ho : IntsAt W.heap.size W3 (.slice (some ⟨gn, 0, none⟩) n n) l) (hl : natsI l = s.fromI q i K (d + 1)) (hn : l.length ≤ 100000) (hj : ∀ j ∈ l, j ≤ 1000000) :
    ChI s q i K lo gl bf (d + 1) e (gn :: R) (W3.setCell ⟨bf, 0, none⟩ (.slice (some ⟨gn, 0, none⟩) n n)) := by
  have hlt := h.lts
  have hg := (World.ownsRow.lt ho.own gn rfl).1
  have hnl : l.length = n := by
    obtain ⟨a', n', c', e, hh⟩ := ho.parts
    simp only [Value.slice.injEq] at e
    rw [e.2.1]
    exact hh.out
  have h3 := h.on hb
  have hk : Kept [bf] W3 (W3.setCell ⟨bf, 0, none⟩ (.slice (some ⟨gn, 0, none⟩) n n)) := (Kept.refl _ _).setCell _ _ (.inl (by simp))
  obtain ⟨⟨a, m, c, h1, h2, -, h4⟩, ⟨cs, r1, r2, r3, r4⟩, h5, h6, h7⟩ := h3
  have rd := IntsAt.reads ho (by omega) hj
  rw [hl] at rd
  refine ⟨⟨some ⟨gn, 0, none⟩, n, n, h1.set 0 _, reads_kept12 rd hk (fun p e => ?_), by omega, fun p e => ?_⟩, ⟨cs, hk.blk r1 (by simpa using h7), r2, r3, fun j h8 h9 => ?_⟩, ?_, ?_, h7⟩
  · have := Option.some.inj e
    subst this
    simp only [List.mem_singleton]
    omega
  · have := Option.some.inj e
    subst this
    simp
  · obtain ⟨v, e1, e2, e3⟩ := r4 j h8 h9
    refine ⟨v, e1, IntsAt.mk (hk.own e2.own fun k e => ?_), fun b hb => List.mem_cons_of_mem _ (e3 b hb)⟩
    intro hh
    rw [List.mem_singleton.1 hh] at e
    exact h6 (e3 bf (mem_ownB.2 e))
  · simp only [List.mem_cons, not_or]
    exact ⟨by omega, h5⟩
  · simp only [List.mem_cons, not_or]
    exact ⟨by omega, h6⟩
/-- Those that were chosen are laid into the list. -/
theorem ChI.setRow (h : ChI s q i K lo gl bf (e + 1) e R W) (hb : Below W.heap.size W W3) {v : Value} (ho : IntsAt W.heap.size W3 v (s.chosenI q i K e)) (hlo : lo ≤ W.heap.size) (he : e < K) :
    ChI s q i K lo gl bf (e + 1) (e + 1) (ownB v ++ R) (W3.setCell ⟨gl, K - 1 - e, none⟩ v) := by
  have hlt := h.lts
  have hv := World.ownsRow.lt ho.own
  have h3 := h.on hb
  have hk : Kept [gl] W3 (W3.setCell ⟨gl, K - 1 - e, none⟩ v) := (Kept.refl _ _).setCell _ _ (.inl (by simp))
  obtain ⟨⟨a, m, c, h1, h2, h3, h4⟩, ⟨cs, r1, r2, r3, r4⟩, h5, h6, h7⟩ := h3
  refine ⟨⟨a, m, c, hk.blk h1 (by simpa using fun e => h7 e.symm), reads_kept12 h2 hk (fun p e => ?_), h3, fun p e => List.mem_append_right _ (h4 p e)⟩, ⟨cs.set (K - 1 - e) v, r1.set _ _, by simp [r2], fun j h8 => ?_, fun j h8 h9 => ?_⟩, ?_, ?_, h7⟩
  · simp only [List.mem_singleton]
    intro hh
    exact h5 (hh ▸ h4 p e)
  · rw [List.getElem?_set_ne (by omega)]
    exact r3 j (by omega)
  · by_cases hje : j = K - 1 - e
    · subst hje
      refine ⟨v, by rw [List.getElem?_set_self (by omega)], ?_, fun b hb => List.mem_append_left _ hb⟩
      rw [show K - 1 - (K - 1 - e) = e from by omega]
      refine IntsAt.mk (hk.own (own_on ho.own hlo (Below.refl _ _)) fun k ek => ?_)
      have := (hv k ek).1
      simp only [List.mem_singleton]
      omega
    · obtain ⟨u, e1, e2, e3⟩ := r4 j h8 (by omega)
      refine ⟨u, by rw [List.getElem?_set_ne (fun h => hje h.symm)]; exact e1, IntsAt.mk (hk.own e2.own fun k ek => ?_), fun b hb => List.mem_append_right _ (e3 b hb)⟩
      simp only [List.mem_singleton]
      intro hh
      exact h5 (hh ▸ e3 k (mem_ownB.2 ek))
  · simp only [List.mem_append, not_or]
    exact ⟨fun hh => by have := (hv gl (mem_ownB.1 hh)).1; omega, h5⟩
  · simp only [List.mem_append, not_or]
    exact ⟨fun hh => by have := (hv bf (mem_ownB.1 hh)).1; omega, h6⟩
end
/-- A list of those chosen, level by level. -/
def ChosenIs (lo : Nat) (s : IdxV) (q : List Int) (i : Int) (K : Nat) (W : World) (gl : Nat) : Prop :=
  lo ≤ gl ∧ ∃ cs : List Value, Blk W gl 62 cs ∧ cs.length = K ∧ ∀ j, j < K → ∃ v, cs[j]? = some v ∧ IntsAt lo W v (s.chosenI q i K (K - 1 - j))
theorem ChI.done {s : IdxV} {q : List Int} {i : Int} {K lo gl bf d : Nat} {R : List Nat} {W : World} (h : ChI s q i K lo gl bf d K R W) (hlo : lo ≤ gl) : ChosenIs lo s q i K W gl := by
  obtain ⟨-, ⟨cs, r1, r2, -, r4⟩, -⟩ := h
  exact ⟨hlo, cs, r1, r2, fun j hj => by obtain ⟨v, e1, e2, -⟩ := r4 j hj (by omega); exact ⟨v, e1, e2⟩⟩
end
end Go.Proofs.YtadkfedglkhgjaaGreat
