/-
  Layer 14, the program's table: cmp.Compare, cmp.Or, compare of uses, slices.MinFunc, longestUnused. (Made by tools/mkqrf.py.)
-/
import Derived.Test.YtadkfedglkhgjaaQre
import Derived.StillTailTactics
import Derived.Maps.RangeWalk
import Derived.Maps.Ext
import Derived.Laws.IdiomRangeMap
import Derived.Deep.LoopGhost
namespace Go.Proofs.Ytadkfedglkhgjaa
open Go.RowKit Go.ChangeShapes Go.WideShapes Go.ChangeAt Go.Maps

def cmpZ (x y : Nat) : Int := if x < y then -1 else if y < x then 1 else 0
def useZ (p q : Nat × Nat) : Int := if cmpZ p.1 q.1 = 0 then cmpZ p.2 q.2 else cmpZ p.1 q.1
def UseLt (p q : Nat × Nat) : Prop := p.1 < q.1 ∨ (p.1 = q.1 ∧ p.2 < q.2)
theorem useZ_lt (p q : Nat × Nat) : useZ p q < 0 ↔ UseLt p q := by
  unfold useZ cmpZ UseLt
  by_cases h1 : p.1 < q.1
  · simp [h1]
  · by_cases h2 : q.1 < p.1
    · simp [h1, h2]
      omega
    · have h3 : p.1 = q.1 := by omega
      by_cases h4 : p.2 < q.2
      · simp [h3, h4]
      · by_cases h5 : q.2 < p.2 <;> simp [h3, h4, h5]
theorem UseLt.irrefl (p : Nat × Nat) : ¬ UseLt p p := by unfold UseLt; omega
theorem UseLt.trans {p q r : Nat × Nat} (h : UseLt p q) (h' : UseLt q r) : UseLt p r := by unfold UseLt at *; omega
theorem UseLt.not_trans {p q r : Nat × Nat} (h : ¬ UseLt q p) (h' : ¬ UseLt r q) : ¬ UseLt r p := by unfold UseLt at *; omega
set_option maxRecDepth 100000 in
set_option maxHeartbeats 3200000 in
theorem isnan32 (x : Nat) (w : World) : Calls Try.prog 51 #[.int .u32 (x : Int)] w fun e w' => e = .returned (.bool false) ∧ w' = w := by
  go_enter Try.func51, Try.ntmps51
  go_wp2
  go_ret
  exact ⟨by simp, rfl⟩
set_option maxRecDepth 100000 in
set_option maxHeartbeats 3200000 in
theorem cmp32_any (x y : Nat) (w : World) : Calls Try.prog 47 #[.int .u32 (x : Int), .int .u32 (y : Int)] w fun e w' => e = .returned (.int .i64 (cmpZ x y)) ∧ w' = w := by
  have A := Lib.hid (isnan32 x w)
  have B := Lib.hid (isnan32 y w)
  by_cases h1 : x < y
  · have R := Lib.hid (show cmpZ x y = -1 from if_pos h1)
    go_enter Try.func47, Try.ntmps47
    go_wp2_with (fail)
    refine A.out.mono ?_
    rintro e w1 ⟨rfl, hw⟩
    have hw' := hw.symm
    subst hw'
    clear hw
    go_wp2_with (fail)
    refine B.out.mono ?_
    rintro e w1 ⟨rfl, hw⟩
    have hw' := hw.symm
    subst hw'
    clear hw
    go_wp2
    go_ret
    exact ⟨by rw [R.out]; rfl, rfl⟩
  · by_cases h2 : y < x
    · have R := Lib.hid (show cmpZ x y = 1 from (if_neg h1).trans (if_pos h2))
      go_enter Try.func47, Try.ntmps47
      go_wp2_with (fail)
      refine A.out.mono ?_
      rintro e w1 ⟨rfl, hw⟩
      have hw' := hw.symm
      subst hw'
      clear hw
      go_wp2_with (fail)
      refine B.out.mono ?_
      rintro e w1 ⟨rfl, hw⟩
      have hw' := hw.symm
      subst hw'
      clear hw
      go_wp2
      go_ret
      exact ⟨by rw [R.out]; rfl, rfl⟩
    · have R := Lib.hid (show cmpZ x y = 0 from (if_neg h1).trans (if_neg h2))
      go_enter Try.func47, Try.ntmps47
      go_wp2_with (fail)
      refine A.out.mono ?_
      rintro e w1 ⟨rfl, hw⟩
      have hw' := hw.symm
      subst hw'
      clear hw
      go_wp2_with (fail)
      refine B.out.mono ?_
      rintro e w1 ⟨rfl, hw⟩
      have hw' := hw.symm
      subst hw'
      clear hw
      go_wp2
      go_ret
      exact ⟨by rw [R.out]; rfl, rfl⟩
set_option maxRecDepth 100000 in
set_option maxHeartbeats 3200000 in
theorem or2_any (w : World) (g c : Nat) (a b : Int) (h : Blk w g 3 [.int .i64 a, .int .i64 b]) :
    Calls Try.prog 46 #[.slice (some ⟨g, 0, none⟩) 2 c] w fun e w' => e = .returned (.int .i64 (if a = 0 then b else a)) ∧ w' = w := by
  have c0 : w.cell? ⟨g, 0, none⟩ = some (.int .i64 a) := h.cell 0
  have c1 : w.cell? ⟨g, 1, none⟩ = some (.int .i64 b) := h.cell 1
  have hlt := h.lt
  clear h
  by_cases ha : a = 0
  · rw [if_pos ha]
    by_cases hb : b = 0
    · subst ha hb
      go_enter Try.func46, Try.ntmps46
      go_wp2
      go_loop [5, 8] (fun s5 s8 => ∃ (i : Nat) (u : Value), s5 = u ∧ s8 = .int .i64 (i : Int) ∧ i ≤ 2) (fun _ s8 => 2 - (intOf s8).toNat)
      case atStart => exact ⟨0, _, rfl, rfl, by omega⟩
      case round =>
        obtain ⟨i, u, rfl, rfl, hi⟩ := hrel
        by_cases h2 : i < 2
        · have ci : w.cell? ⟨g, i, none⟩ = some (.int .i64 0) := by
            rcases (show i = 0 ∨ i = 1 by omega) with h | h
            · rw [h]; exact c0
            · rw [h]; exact c1
          go_wp2
          go_round
          case rel => exact ⟨i + 1, _, rfl, by go_num, by omega⟩
          case measure => simp [intOf]; omega
        · go_wp2
          go_ret
          exact ⟨rfl, rfl⟩
    · subst ha
      go_enter Try.func46, Try.ntmps46
      go_wp2
      go_loop [5, 8] (fun s5 s8 => ∃ (i : Nat) (u : Value), s5 = u ∧ s8 = .int .i64 (i : Int) ∧ i ≤ 1) (fun _ s8 => 2 - (intOf s8).toNat)
      case atStart => exact ⟨0, _, rfl, rfl, by omega⟩
      case round =>
        obtain ⟨i, u, rfl, rfl, hi⟩ := hrel
        by_cases h2 : i < 1
        · obtain rfl : i = 0 := by omega
          go_wp2
          go_round
          case rel => exact ⟨1, _, rfl, rfl, by omega⟩
          case measure => simp [intOf]
        · obtain rfl : i = 1 := by omega
          have hz : ¬ b = 0 := hb
          go_wp2
          go_ret
          exact ⟨rfl, rfl⟩
  · rw [if_neg ha]
    go_enter Try.func46, Try.ntmps46
    go_wp2
    go_loop [5, 8] (fun s5 s8 => ∃ (u : Value), s5 = u ∧ s8 = .int .i64 0) (fun _ s8 => 2 - (intOf s8).toNat)
    case atStart => exact ⟨_, rfl, rfl⟩
    case round =>
      obtain ⟨u, rfl, rfl⟩ := hrel
      go_wp2
      go_ret
      exact ⟨rfl, rfl⟩
def useC (p : Nat × Nat) : List Value := [.int .u32 (p.1 : Int), .int .u32 (p.2 : Int)]
set_option maxRecDepth 100000 in
set_option maxHeartbeats 3200000 in
theorem use_any (w : World) (p q : Nat × Nat) :
    Calls Try.prog 41 #[.agg #[.int .u32 (p.1 : Int), .int .u32 (p.2 : Int)], .agg #[.int .u32 (q.1 : Int), .int .u32 (q.2 : Int)]] w fun e w' => e = .returned (.int .i64 (useZ p q)) ∧ Below w.heap.size w w' := by
  obtain ⟨w1, hw1⟩ : ∃ w1, w.alloc (.cells #[.int .u32 (p.1 : Int), .int .u32 (p.2 : Int)] 99) = w1 := ⟨_, rfl⟩
  obtain ⟨w2, hw2⟩ : ∃ w2, w1.alloc (.cells #[.int .u32 (q.1 : Int), .int .u32 (q.2 : Int)] 99) = w2 := ⟨_, rfl⟩
  have hs1 : w1.heap.size = w.heap.size + 1 := by rw [← hw1]; simp
  have b1 : Below w.heap.size w w1 := by rw [← hw1]; exact (Below.refl _ _).alloc (Nat.le_refl _) _
  have b2 : Below w1.heap.size w1 w2 := by rw [← hw2]; exact (Below.refl _ _).alloc (Nat.le_refl _) _
  have A1 : Blk w2 w.heap.size 99 [.int .u32 (p.1 : Int), .int .u32 (p.2 : Int)] := (Kept.of_below (F := []) b2 (Nat.le_refl _)).blk (by rw [← hw1]; exact Blk.new _ _ _) (by simp)
  have A2 : Blk w2 (w.heap.size + 1) 99 [.int .u32 (q.1 : Int), .int .u32 (q.2 : Int)] := by rw [← hs1, ← hw2]; exact Blk.new _ _ _
  have a0 : w2.cell? ⟨w.heap.size, 0, none⟩ = some (.int .u32 (p.1 : Int)) := A1.cell 0
  have a1 : w2.cell? ⟨w.heap.size, 1, none⟩ = some (.int .u32 (p.2 : Int)) := A1.cell 1
  have d0 : w2.cell? ⟨w.heap.size + 1, 0, none⟩ = some (.int .u32 (q.1 : Int)) := A2.cell 0
  have d1 : w2.cell? ⟨w.heap.size + 1, 1, none⟩ = some (.int .u32 (q.2 : Int)) := A2.cell 1
  obtain ⟨z1, hz1⟩ : ∃ z1, cmpZ p.1 q.1 = z1 := ⟨_, rfl⟩
  obtain ⟨z2, hz2⟩ : ∃ z2, cmpZ p.2 q.2 = z2 := ⟨_, rfl⟩
  have C1 := Lib.hid (fun W => cmp32_any p.1 q.1 W)
  have C2 := Lib.hid (fun W => cmp32_any p.2 q.2 W)
  rw [hz1] at C1
  rw [hz2] at C2
  have R := Lib.hid (show useZ p q = if z1 = 0 then z2 else z1 from by rw [← hz1, ← hz2]; rfl)
  obtain ⟨w3, hw3⟩ : ∃ w3, w2.drew.alloc (.cells #[.int .i64 z1, .int .i64 z2] 3) = w3 := ⟨_, rfl⟩
  have HB := Lib.hid (show Below w.heap.size w w3 from by rw [← hw3]; exact (below_on b1 b2).trans (((Below.refl _ w2).drew.alloc (Nat.le_refl _) _).mono (below_on b1 b2).size))
  have O3 := Lib.hid (or2_any w3 w2.heap.size 2 z1 z2 (by rw [← hw3]; exact Blk.new w2.drew 3 #[.int .i64 z1, .int .i64 z2]))
  clear b1 b2 A1 A2 hz1 hz2
  rw [R.out]
  obtain ⟨z3, hz3⟩ : ∃ z3, (if z1 = 0 then z2 else z1) = z3 := ⟨_, rfl⟩
  rw [hz3] at O3 ⊢
  clear hz3 R
  go_enter Try.func41, Try.ntmps41
  go_upto_region 1 with fail
  try rw [hw1]
  try rw [hw2]
  go_still_tail 10, (by kernel_rfl)
  still_call (C1.out _)
  repeat still_step
  still_call (C2.out _)
  repeat still_step
  refine wpStill_nil ?_
  change wpList _ _ _ _ _ w2.drew
  go_wp2_with (first | (rw [hw3]) | fail)
  refine O3.out.mono ?_
  rintro e w4 ⟨rfl, hw4⟩
  have hw4' := hw4.symm
  subst hw4'
  go_wp2
  go_ret
  exact ⟨rfl, HB.out⟩
/-- A row of uses. -/
def UsesAt (lo : Nat) (w : World) (v : Value) (us : List (Nat × Nat)) : Prop := RowC lo w 99 2 v (us.map useC)
theorem UsesAt.at {lo : Nat} {w : World} {v : Value} {us : List (Nat × Nat)} (h : UsesAt lo w v us) (i : Nat) (p : Nat × Nat) (hp : us[i]? = some p) : ∃ g c, v = .slice (some ⟨g, 0, none⟩) us.length c ∧ lo ≤ g ∧ g < w.heap.size ∧ w.cell? ⟨g, i * 2, none⟩ = some (.int .u32 (p.1 : Int)) ∧ w.cell? ⟨g, i * 2 + 1, none⟩ = some (.int .u32 (p.2 : Int)) := by
  obtain ⟨g, c, e, h1, h2, hrg⟩ := RowC.at h i (useC p) (by rw [List.getElem?_map, hp]; rfl)
  rw [List.length_map] at e
  exact ⟨g, c, e, h1, h2, hrg 0 _ rfl, hrg 1 _ rfl⟩
theorem run_num (x y : Value) (w : World) : (Instr.field 99 (.agg #[x, y]) 1).run Try.prog w = .ok y w := by
  simp [Instr.field, run_underlying Try.underlying99, part, asAgg, sizeOf, typeInfo, go_sem]
theorem use_info : (Try.prog.info? 99).map (·.size) = some 2 := by kernel_rfl
theorem use_info3 : (Try.prog.info? 99).map (fun i => (i.zero, i.size, i.bytes)) = some (some (.agg #[.int .u32 0, .int .u32 0]), 2, 8) := by kernel_rfl
/-- The least of those that were looked at. -/
def MinU (us : List (Nat × Nat)) (p : Nat × Nat) : Prop := p ∈ us ∧ ∀ q ∈ us, ¬ UseLt q p
theorem MinU.next {us : List (Nat × Nat)} {i : Nat} {p q : Nat × Nat} (h : MinU (us.take i) p) (hq : us[i]? = some q) : MinU (us.take (i + 1)) (if useZ q p < 0 then q else p) := by
  rw [List.take_add_one, hq, show (some q).toList = [q] from rfl]
  by_cases hz : useZ q p < 0
  · rw [if_pos hz]
    have hl := (useZ_lt q p).1 hz
    refine ⟨by simp, fun r hr => ?_⟩
    rcases List.mem_append.1 hr with hr | hr
    · exact fun hh => h.2 r hr (hh.trans hl)
    · rw [List.mem_singleton.1 hr]
      exact UseLt.irrefl q
  · rw [if_neg hz]
    have hl : ¬ UseLt q p := fun hh => hz ((useZ_lt q p).2 hh)
    refine ⟨List.mem_append.2 (.inl h.1), fun r hr => ?_⟩
    rcases List.mem_append.1 hr with hr | hr
    · exact h.2 r hr
    · rw [List.mem_singleton.1 hr]
      exact hl
set_option maxRecDepth 100000 in
set_option maxHeartbeats 3200000 in
theorem min_any (w : World) (lo n c : Nat) (a : Option Addr) (us : List (Nat × Nat)) (h : UsesAt lo w (.slice a n c) us) (hne : 0 < us.length) (hl : us.length ≤ 100000) :
    Calls Try.prog 40 #[.slice a n c, .func (.func 41) #[] #[]] w fun e w' => ∃ p, MinU us p ∧ e = .returned (.agg #[.int .u32 (p.1 : Int), .int .u32 (p.2 : Int)]) ∧ Below w.heap.size w w' := by
  obtain ⟨p0, hp0⟩ : ∃ p0, us[0]? = some p0 := ⟨_, List.getElem?_eq_getElem hne⟩
  obtain ⟨g, c', e, -, hgl, r0, r1⟩ := h.at 0 p0 hp0
  simp only [Value.slice.injEq] at e
  obtain ⟨rfl, hn, rfl⟩ := e
  obtain ⟨wa, hwa⟩ : ∃ wa, w.alloc (.cells #[.int .u32 0, .int .u32 0] 99) = wa := ⟨_, rfl⟩
  obtain ⟨wb, hwb⟩ : ∃ wb, wa.alloc (.cells #[.int .u32 (p0.1 : Int), .int .u32 (p0.2 : Int)] 99) = wb := ⟨_, rfl⟩
  have hsa : wa.heap.size = w.heap.size + 1 := by rw [← hwa]; simp
  have ba : Below w.heap.size w wa := by rw [← hwa]; exact (Below.refl _ _).alloc (Nat.le_refl _) _
  have bb : Below wa.heap.size wa wb := by rw [← hwb]; exact (Below.refl _ _).alloc (Nat.le_refl _) _
  have s0 : wa.cell? ⟨g, 0, none⟩ = some (.int .u32 (p0.1 : Int)) := (ba.cell (p := ⟨g, 0, none⟩) hgl).trans (by simpa using r0)
  have s1 : wa.cell? ⟨g, 1, none⟩ = some (.int .u32 (p0.2 : Int)) := (ba.cell (p := ⟨g, 1, none⟩) hgl).trans (by simpa using r1)
  have A := Lib.hid (show Blk wb w.heap.size 99 [.int .u32 0, .int .u32 0] from (Kept.of_below (F := []) bb (Nat.le_refl _)).blk (by rw [← hwa]; exact Blk.new _ _ _) (by simp))
  have M := Lib.hid (show Blk wb (w.heap.size + 1) 99 (useC p0) from by rw [← hsa, ← hwb]; exact Blk.new _ _ _)
  have BB := Lib.hid (below_on ba bb)
  have H := Lib.hid h
  have HN := Lib.hid hn
  have HP0 := Lib.hid hp0
  rw [← hn] at hne hl
  clear h r0 r1 ba bb hn hp0
  go_enter Try.func40, Try.ntmps40
  go_upto_region 3 with fail
  try rw [hwa]
  go_wp2_with (first | (rw [hwb]) | fail)
  go_loopw [6] (fun s6 wr => ∃ (i : Nat) (p : Nat × Nat), s6 = .int .i64 (i : Int) ∧ 1 ≤ i ∧ i ≤ n ∧ Hid (MinU (us.take i) p) ∧ Hid (Blk wr (w.heap.size + 1) 99 (useC p)) ∧ Hid (Blk wr w.heap.size 99 [.int .u32 0, .int .u32 0]) ∧ Hid (Below w.heap.size w wr)) (fun s6 _ => n - (intOf s6).toNat)
  case atStart =>
    refine ⟨1, p0, rfl, Nat.le_refl _, by omega, ⟨?_, ?_⟩, M.out, A.out, BB.out⟩
    · rw [List.take_add_one, HP0.out]
      simp
    · rw [List.take_add_one, HP0.out]
      intro q hq
      simp at hq
      rw [hq]
      exact UseLt.irrefl p0
  case round =>
    clear M A BB s0 s1
    obtain ⟨i, p, rfl, h1, hi, HM, HBM, HBA, HB⟩ := hrel
    by_cases hc : i < n
    · obtain ⟨q, hq⟩ : ∃ q, us[i]? = some q := ⟨us[i]'(by rw [← HN.out]; exact hc), List.getElem?_eq_getElem _⟩
      obtain ⟨g', c', e, -, hgl', q0, q1⟩ := H.out.at i q hq
      simp only [Value.slice.injEq, Option.some.injEq, Addr.mk.injEq] at e
      obtain ⟨⟨rfl, -⟩, -, -⟩ := e
      have x0 : wr.cell? ⟨g, i * 2, none⟩ = some (.int .u32 (q.1 : Int)) := (HB.out.cell (p := ⟨g, i * 2, none⟩) hgl).trans q0
      have x1 : wr.cell? ⟨g, i * 2 + 1, none⟩ = some (.int .u32 (q.2 : Int)) := (HB.out.cell (p := ⟨g, i * 2 + 1, none⟩) hgl).trans q1
      have m0 : wr.cell? ⟨w.heap.size + 1, 0, none⟩ = some (.int .u32 (p.1 : Int)) := HBM.out.cell 0
      have m1 : wr.cell? ⟨w.heap.size + 1, 1, none⟩ = some (.int .u32 (p.2 : Int)) := HBM.out.cell 1
      have CU := Lib.hid (use_any wr.drew q p)
      obtain ⟨z, hz⟩ : ∃ z, useZ q p = z := ⟨_, rfl⟩
      rw [hz] at CU
      have NX := Lib.hid (show MinU (us.take (i + 1)) (if z < 0 then q else p) from hz ▸ HM.out.next hq)
      have hgr := Nat.lt_of_lt_of_le hgl HB.out.size
      clear q0 q1 hq hz
      go_wp2_with (fail)
      go_still_tail 6, (by kernel_rfl)
      change wpList _ _ _ _ _ wr.drew
      go_wp2_with (fail)
      refine CU.out.mono ?_
      rintro e w3 ⟨rfl, hb3⟩
      have HB3 := Lib.hid (HB.out.trans (((Below.refl wr.heap.size wr).drew.trans hb3).mono HB.out.size))
      have HM3 := Lib.hid (show Blk w3 (w.heap.size + 1) 99 (useC p) from (Kept.of_below (F := []) hb3 (Nat.le_refl _)).blk (Blk.drew HBM.out) (by simp))
      have HA3 := Lib.hid (show Blk w3 w.heap.size 99 [.int .u32 0, .int .u32 0] from (Kept.of_below (F := []) hb3 (Nat.le_refl _)).blk (Blk.drew HBA.out) (by simp))
      have y0 : w3.cell? ⟨g, i * 2, none⟩ = some (.int .u32 (q.1 : Int)) := (hb3.cell (p := ⟨g, i * 2, none⟩) hgr).trans x0
      have y1 : w3.cell? ⟨g, i * 2 + 1, none⟩ = some (.int .u32 (q.2 : Int)) := (hb3.cell (p := ⟨g, i * 2 + 1, none⟩) hgr).trans x1
      have n0 : w3.cell? ⟨w.heap.size + 1, 0, none⟩ = some (.int .u32 (p.1 : Int)) := HM3.out.cell 0
      have n1 : w3.cell? ⟨w.heap.size + 1, 1, none⟩ = some (.int .u32 (p.2 : Int)) := HM3.out.cell 1
      have f0 := HM3.out.frozen 0
      have f1 := HM3.out.frozen 1
      clear hb3 CU x0 x1 m0 m1
      by_cases hz : z < 0
      · have hd : decide (z < 0) = true := decide_eq_true hz
        have NX2 := Lib.hid (show MinU (us.take (i + 1)) q from by have := NX.out; rw [if_pos hz] at this; exact this)
        have HM4 := Lib.hid ((HM3.out.set 0 (.int .u32 (q.1 : Int))).set 1 (.int .u32 (q.2 : Int)))
        have HA4 := Lib.hid ((HA3.out.far (p := ⟨w.heap.size + 1, 0, none⟩) (by show w.heap.size ≠ w.heap.size + 1; omega) (.int .u32 (q.1 : Int))).far (p := ⟨w.heap.size + 1, 1, none⟩) (by show w.heap.size ≠ w.heap.size + 1; omega) (.int .u32 (q.2 : Int)))
        have HB4 := Lib.hid ((HB3.out.setCell (p := ⟨w.heap.size + 1, 0, none⟩) (by show w.heap.size ≤ w.heap.size + 1; omega) (.int .u32 (q.1 : Int))).setCell (p := ⟨w.heap.size + 1, 1, none⟩) (by show w.heap.size ≤ w.heap.size + 1; omega) (.int .u32 (q.2 : Int)))
        clear NX hz
        go_wp2
        go_roundw
        case rel => exact ⟨i + 1, q, by go_num, by omega, by omega, NX2.out, HM4.out, HA4.out, HB4.out⟩
        case measure => simp [intOf]; omega
      · have hd : decide (z < 0) = false := decide_eq_false hz
        have NX2 := Lib.hid (show MinU (us.take (i + 1)) p from by have := NX.out; rw [if_neg hz] at this; exact this)
        clear NX hz
        go_wp2
        go_roundw
        case rel => exact ⟨i + 1, p, by go_num, by omega, by omega, NX2.out, HM3.out, HA3.out, HB3.out⟩
        case measure => simp [intOf]; omega
    · have m0 : wr.cell? ⟨w.heap.size + 1, 0, none⟩ = some (.int .u32 (p.1 : Int)) := HBM.out.cell 0
      have m1 : wr.cell? ⟨w.heap.size + 1, 1, none⟩ = some (.int .u32 (p.2 : Int)) := HBM.out.cell 1
      have a0 : wr.cell? ⟨w.heap.size, 0, none⟩ = some (.int .u32 0) := HBA.out.cell 0
      have a1 : wr.cell? ⟨w.heap.size, 1, none⟩ = some (.int .u32 0) := HBA.out.cell 1
      have f0 := HBA.out.frozen 0
      have f1 := HBA.out.frozen 1
      have HA4 := Lib.hid ((HBA.out.set 0 (.int .u32 (p.1 : Int))).set 1 (.int .u32 (p.2 : Int)))
      have HB4 := Lib.hid ((HB.out.setCell (p := ⟨w.heap.size, 0, none⟩) (Nat.le_refl _) (.int .u32 (p.1 : Int))).setCell (p := ⟨w.heap.size, 1, none⟩) (Nat.le_refl _) (.int .u32 (p.2 : Int)))
      have FIN := Lib.hid (show MinU us p from by have := HM.out; rw [List.take_of_length_le (by rw [← HN.out]; omega)] at this; exact this)
      go_wp2
      refine bodyPost_ret (results_cell_row rfl _ _ w.heap.size 99 #[.int .u32 (p.1 : Int), .int .u32 (p.2 : Int)] (0, 0) _ rfl HA4.out Try.underlying99 rfl use_info) rfl ?_
      exact ⟨p, FIN.out, rfl, HB4.out⟩

/-- What an entry of a map holds that is told at a key. -/
theorem entry_mem {es : List (Lit × DataW Value)} {E : List (Lit × Value)} {kl : Lit} {v : Value} (hp : es.Perm (heldE E)) (hk : WideAt.IsKeyLit kl) (ha : E.Pairwise fun p q => p.1 ≠ q.1) (hat : ∀ zd, (DataW.map es).atKey kl zd = .held v) : (kl, v) ∈ E := by
  have hap := perm_apart hp (heldE_apart ha)
  have hm : (kl, DataW.held v) ∈ es := by
    by_cases hn : ∃ p ∈ es, p.1 = kl
    · obtain ⟨p, hp, rfl⟩ := hn
      have h1 := (WideAt.atKey_mem .nil hk hap (show (p.1, p.2) ∈ _ from hp)).symm.trans (hat .nil)
      rw [← h1]
      exact hp
    · exfalso
      have hh : has (DataW.map es) kl = false := by
        rw [has_eq, List.any_eq_false]
        intro p hp e
        exact hn ⟨p, hp, WideAt.sameKey_eq e⟩
      have h1 := (atKey_of_not_has (z := (DataW.nil : DataW Value)) hh).symm.trans (hat .nil)
      cases h1
  obtain ⟨q, hq, e⟩ := (held_mem hp).1 hm
  simp only [Prod.mk.injEq, DataW.held.injEq] at e
  rw [e.1, e.2]
  exact hq
/-- When the cursor of that number was used. -/
def usedQ (L : List CurL) (n : Nat) : Nat := ((L.find? fun t => decide (t.c.n = n)).map fun t => t.c.used).getD 0
theorem usedQ_of {L : List CurL} {t : CurL} (hu : ∀ a ∈ L, ∀ b ∈ L, a.c.n = b.c.n → a = b) (ht : t ∈ L) : usedQ L t.c.n = t.c.used := by
  unfold usedQ
  cases e : L.find? fun s => decide (s.c.n = t.c.n) with
  | none => exact absurd (decide_eq_true rfl) (List.find?_eq_none.1 e t ht)
  | some s =>
    have h1 := List.find?_some e
    rw [hu s (List.mem_of_find?_eq_some e) t ht (by simpa using h1)]
    rfl
def usesQ (L : List CurL) (ss : List Nat) : List (Nat × Nat) := ss.map fun n => (usedQ L n, n)
set_option maxRecDepth 100000 in
set_option maxHeartbeats 3200000 in
theorem clongest_any (w : World) (lo x m last idle : Nat) (L : List CurL) (h : TabQ w lo x m L last idle) (hne : 0 < L.length) :
    Calls Try.prog 26 #[.pointer (some ⟨x, 0, none⟩)] w fun e w' => ∃ t ∈ L, LeastC (L.map (·.c)) t.c ∧ e = .returned (.int .u32 (t.c.n : Int)) ∧ Below w.heap.size w w' := by
  obtain ⟨⟨es, hown, hp⟩, ha, -⟩ := h.map
  have hE : (cuE L).map (·.1) = (L.map (·.c.n)).map key32 := by simp [cuE]
  have hlen : Maps.size (DataW.map es) = L.length := by rw [size_eq, hp.length_eq, heldE_len, cuE_len]
  have HN := Lib.hid (vs32_nodup ha hE)
  have HAS := Lib.hid (has32 hp hE)
  have HEN := Lib.hid (fun (kl : Lit) (v : Value) (hk : WideAt.IsKeyLit kl) (hat : ∀ zd, (DataW.map es).atKey kl zd = .held v) => entry_mem hp hk ha hat)
  obtain ⟨D, hD⟩ : ∃ D, DataW.map es = D := ⟨_, rfl⟩
  rw [hD] at hown hlen HAS HEN
  have c1 : w.cell? ⟨x, 1, none⟩ = some (.map (some m)) := h.blk.cell 1
  have H := Lib.hid h
  have H8 := h.eight
  obtain ⟨n, hn⟩ : ∃ n, L.length = n := ⟨_, rfl⟩
  rw [hn] at hlen hne H8
  have HL := Lib.hid hn
  have hcl : (cuE L).length = n := by rw [cuE_len, hn]
  rw [hcl] at hown
  clear h ha hp hD hE hn hcl
  go_enter Try.func26, Try.ntmps26
  go_wp2_with (first
    | (at_range; refine wpList_range_own _ rfl _ 74 rfl 22 79 (Maps.int_keyed Try.underlying22) Try.underlying74 rawElem m n _ rfl hown ?_; intro w0 hrg0 hg0 hs0)
    | fail)
  go_frame
  have B0 := Lib.hid (show Below w.heap.size w w0 from (Below.refl _ _).grown hg0 (Nat.le_refl _) (fun k e => by cases e))
  have HR0 := Lib.hid hs0
  go_loopw [3, 4, 5] (fun s3 s4 s5 wr => ∃ (left : Lit → Bool) (cnt : Nat) (ss : List Nat) (a3 : Option Addr) (n3 c3 : Nat) (u4 u5 : Value), s3 = .slice a3 n3 c3 ∧ s4 = u4 ∧ s5 = u5 ∧ wr.ranges Try.prog 22 rawElem m w.heap.size n D left cnt ∧ ss.length + cnt ≤ n ∧ Hid (Come32 (L.map (·.c.n)) left ss) ∧ Hid (UsesAt w0.heap.size wr (.slice a3 n3 c3) (usesQ L ss)) ∧ Hid (Below w.heap.size w wr) ∧ Hid (w0.heap.size ≤ wr.heap.size))
    (fun _ _ _ wr => wr.rangeLeft m w.heap.size)
  case atStart =>
    refine ⟨_, _, [], none, 0, 0, _, _, rfl, rfl, rfl, hrg0, by simp [hlen], ⟨List.Pairwise.nil, fun y => ?_⟩, ⟨by simp [usesQ], rfl, .inl ⟨rfl, rfl⟩⟩, B0.out, Nat.le_refl _⟩
    constructor
    · intro hh
      cases hh
    · rintro ⟨h1, h2⟩
      rw [(HAS.out y).2 h1] at h2
      cases h2
  case round =>
    clear hrg0 B0
    obtain ⟨left, cnt, ss, a3, n3, c3, u4, u5, rfl, rfl, rfl, hrg, hcs, HC, HU, HB, HS⟩ := hrel
    go_wp2_with (first
      | (at_next; refine wpList_next_ranges (α := Nat) (β := Value) _ rfl _ rfl 22 (Maps.int_keyed Try.underlying22) rawElem (fun x => .int .u32 (x : Int)) id (fun key kl hk => by
        obtain ⟨z, rfl, rfl, hw⟩ := Maps.keyOf_int_inv Try.underlying22 hk
        have h1 : (0 : Int) ≤ z := by
          simp [Lit.wf, IntKind.min, IntKind.max, IntKind.signed, IntKind.bits] at hw
          exact hw.1
        exact ⟨z.toNat, by rw [Int.toNat_of_nonneg h1]⟩) (fun v _ _ => ⟨v, rfl⟩) m w.heap.size _ _ _ _ rfl hrg ?_ ?_)
      | fail)
    · intro _ hl0
      have hperm := come32_all HC.out HN.out hl0
      have hln : (usesQ L ss).length = n := by
        unfold usesQ
        rw [List.length_map, hperm.length_eq, List.length_map, HL.out]
      have MA := Lib.hid (min_any wr w0.heap.size n3 c3 a3 (usesQ L ss) HU.out (by omega) (by omega))
      have FIN := Lib.hid (show ∀ p, MinU (usesQ L ss) p → ∃ t ∈ L, LeastC (L.map (·.c)) t.c ∧ p.2 = t.c.n from by
        rintro p ⟨hp1, hp2⟩
        obtain ⟨k, hk, rfl⟩ := List.mem_map.1 hp1
        obtain ⟨t, ht, rfl⟩ := List.mem_map.1 (hperm.mem_iff.1 hk)
        refine ⟨t, ht, ⟨List.mem_map.2 ⟨t, ht, rfl⟩, fun d hd hne => ?_⟩, rfl⟩
        obtain ⟨s, hs, rfl⟩ := List.mem_map.1 hd
        have h9 := hp2 (usedQ L s.c.n, s.c.n) (List.mem_map.2 ⟨s.c.n, hperm.mem_iff.2 (List.mem_map.2 ⟨s, hs, rfl⟩), rfl⟩)
        rw [usedQ_of H.out.uniq hs, usedQ_of H.out.uniq ht] at h9
        unfold UseLt at h9
        simp only at h9
        omega)
      clear hperm hln hrg hl0
      go_wp2_with (fail)
      refine MA.out.mono ?_
      rintro e w2 ⟨p, hp, rfl, hb2⟩
      have B2 := Lib.hid (HB.out.trans (hb2.mono HB.out.size))
      obtain ⟨t, ht, hl, he⟩ := FIN.out p hp
      rw [he]
      have R := Lib.hid (And.intro ht hl)
      clear hb2 hp MA FIN ht hl he
      have hfd := run_num (.int .u32 (p.1 : Int)) (.int .u32 (t.c.n : Int)) w2
      go_wp2
      go_ret
      exact ⟨t, R.out.1, R.out.2, rfl, B2.out⟩
    · intro k c kl yd yp w2 cnt2 hkey hlk hv hat hrg2 hlt hg2 hs2 hen
      have hkl : kl = .int .u32 (k : Int) := by
        obtain ⟨z, e1, e2, _⟩ := Maps.keyOf_int_inv Try.underlying22 hkey
        cases e1
        exact e2
      subst hkl
      have hv2 : (DataW.held c, []) = (yd, yp) := Option.some.inj hv
      simp only [Prod.mk.injEq] at hv2
      obtain ⟨rfl, rfl⟩ := hv2
      have hkv : k ∈ L.map (·.c.n) := (HAS.out k).1 (Maps.has_true_of_atKey hat)
      have hC2 := come32_step HC.out hkv hlk
      obtain ⟨t, ht, he⟩ := List.mem_map.1 (HEN.out _ c (key32_lit k) hat)
      simp only [Prod.mk.injEq] at he
      obtain ⟨hek, rfl⟩ := he
      obtain rfl : t.c.n = k := key32_inj _ _ hek
      have b2 : Below w.heap.size w w2 := HB.out.grown hg2 HB.out.size (fun r e => by cases e; exact Nat.le_refl _)
      have hu := Lib.hid (usedQ_of H.out.uniq ht)
      obtain ⟨us, hus⟩ : ∃ us, t.c.used = us := ⟨_, rfl⟩
      obtain ⟨tn, htn⟩ : ∃ tn, t.c.n = tn := ⟨_, rfl⟩
      obtain ⟨tg, htg⟩ : ∃ tg, t.g = tg := ⟨_, rfl⟩
      have cu : w2.cell? ⟨tg, 6, none⟩ = some (.int .u32 (us : Int)) := by
        rw [← hus, ← htg]
        exact ((Kept.of_below (F := []) b2 (Nat.le_refl _)).blk (H.out.each t ht).blk (by simp)).cell 6
      rw [htn, hus] at hu
      rw [htn] at hC2 hlk hrg2 hen hkey hat hkv
      rw [htg] at hen hat
      have HU2 := Lib.hid (show UsesAt w0.heap.size w2 (.slice a3 n3 c3) (usesQ L ss) from RowC.kept HU.out (kept_grown hg2) (fun g e hm => by
        rw [List.mem_singleton] at hm
        have h1 := (RowC.lt HU.out g e).1
        have h2 := HR0.out
        omega))
      have B2 := Lib.hid b2
      have HS2 := Lib.hid (show w0.heap.size ≤ w2.heap.size from by have := HS.out; omega)
      have HC2 := Lib.hid hC2
      have HLT := Lib.hid hlt
      have hssl : ss.length + 1 ≤ n := by omega
      have HCS := Lib.hid (show (ss ++ [tn]).length + cnt2 ≤ n from by simp; omega)
      clear b2 hC2 hlk hkv hat hv hus htn hek hkey hs2 hg2 ht HC HU HB HS
      rw [htg]
      clear htg

      go_wp2_with (first
        | (at_builtin; go_must (refine app_c (cs := useC (us, tn)) w2 rfl _ _ 97 rfl Try.underlying97 (.agg #[.int .u32 0, .int .u32 0]) 8 use_info3 rfl (by omega) (v := .slice a3 n3 c3) rfl rfl HU2.out rfl (by simp [useC, Value.oneCell']) HS2.out (by simp [usesQ]; omega) (by simp [usesQ]; omega) ?_); intro v4 w4 h4 h5 h6)
        | fail)
      obtain ⟨a4, c4, rfl, -⟩ := RowC.form h4
      have hlu : (usesQ L ss).length = ss.length := by simp [usesQ]
      have H4 := Lib.hid (show UsesAt w0.heap.size w4 (.slice a4 ((usesQ L ss).map useC ++ [useC (us, tn)]).length c4) (usesQ L (ss ++ [tn])) from by
        unfold UsesAt usesQ
        rw [List.map_append, List.map_append]
        simp only [List.map_cons, List.map_nil]
        rw [hu.out]
        exact h4)
      obtain ⟨n4, hn4⟩ : ∃ n4, ((usesQ L ss).map useC ++ [useC (us, tn)]).length = n4 := ⟨_, rfl⟩
      rw [hn4] at H4 ⊢
      have F3 : ∀ k ∈ ownB (.slice a3 n3 c3), w0.heap.size ≤ k := fun k hk => (RowC.lt HU2.out k (mem_ownB.1 hk)).1
      have hg4 : w2.grownBy w4 (Value.slice a3 n3 c3).ownBlock := ⟨h5.os, h5.tape, h5.output, h5.size, fun k hk hne => h5.block k hk (fun hm => hne (mem_ownB.1 hm).symm)⟩
      have hrg4 := hrg2.kept hg4 (fun e => by
        have h9 := F3 m (mem_ownB.2 e.symm)
        have h8 := H.out.map.lt
        have h7 := HR0.out
        omega) (fun e => by
        have h9 := F3 _ (mem_ownB.2 e.symm)
        have h7 := HR0.out
        omega)
      have B4 := Lib.hid (show Below w.heap.size w w4 from B2.out.trans ((h5.below F3 HS2.out).mono (by have h7 := HR0.out; omega)))
      have HS4 := Lib.hid (Nat.le_trans HS2.out h5.size)
      clear h4 h5 h6 hg4 HU2 B2 HS2 hu hlu
      go_wp2
      go_roundw
      case rel => exact ⟨_, cnt2, ss ++ [tn], a4, n4, c4, _, _, rfl, rfl, rfl, hrg4, HCS.out, HC2.out, H4.out, B4.out, HS4.out⟩
      case measure => rw [hrg4.left_eq, hrg.left_eq]; exact HLT.out
