/-
  The selector's heap: HeapAt; top, swap, rise, sink, push, replaceTop, pop; withRoom, New, Len, Clone, Put. (Th to Tk, Tm merged.)
-/
import Derived.Test.YtadkfedglkhgjaaGreatTl
import Derived.Test.YtadkfedglkhgjaaGreatBk
import Derived.BigRegion
import Derived.RegionTactic
import Derived.Deep.RegionHeld3
import Derived.Deep.AppendLies
import Derived.Deep.RegionLaw
import Derived.OwnWalk
import Derived.WalkSpells
import Derived.Laws.EntriesVeiled
import Derived.StillTailTactics
namespace Go.Proofs.YtadkfedglkhgjaaGreat
open Go.RowKit

/-- The order in a heap's second field: the closure over the block c. -/
def fnV (c : Nat) : Value := .func (.func 131) #[] #[.pointer (some ⟨c, 0, none⟩)]

/-- A heap lies in block b from place o on; its hits are xs, its order is that over block c. -/
structure HeapAt (w : World) (b o c : Nat) (t : TypeId) (pre : List Value) (v : Value) (xs : List (Int × Int)) : Prop where
  off : pre.length = o
  typ : t = 143 ∨ t = 145
  self : Blk w b t (pre ++ [v, fnV c])
  fn : Blk w c 52 [.func (.func 77) #[] #[]]
  own : Own w 51 v xs

variable {w : World} {b o c : Nat} {t : TypeId} {pre : List Value} {v : Value} {xs : List (Int × Int)} {w' : World} {g n cap : Nat}
theorem HeapAt.cell0 (h : HeapAt w b o c t pre v xs) : w.cell? ⟨b, o, none⟩ = some v := by
  rw [h.self.cell, ← h.off]; simp
theorem HeapAt.cell1 (h : HeapAt w b o c t pre v xs) : w.cell? ⟨b, o + 1, none⟩ = some (fnV c) := by
  rw [h.self.cell, ← h.off]; simp
theorem HeapAt.ne (h : HeapAt w b o c t pre v xs) {cs : List Value} (hg : Blk w g 51 cs) : b ≠ g ∧ c ≠ g :=
  ⟨h.self.ne hg (by rcases h.typ with e | e <;> rw [e] <;> decide), h.fn.ne hg (by decide)⟩
theorem HeapAt.set (h : HeapAt w b o c t pre (.slice (some ⟨g, 0, none⟩) n cap) xs) (i : Nat) (hi : i < xs.length) (y : Int × Int) :
    HeapAt ((w.setCell ⟨g, i * 2, none⟩ (.int .i64 y.1)).setCell ⟨g, i * 2 + 1, none⟩ (.int .u32 y.2)) b o c t pre (.slice (some ⟨g, 0, none⟩) n cap) (xs.set i y) := by
  obtain ⟨rest, rfl, hb, _⟩ := h.own.blk
  obtain ⟨n1, n2⟩ := h.ne hb
  exact ⟨h.off, h.typ, (h.self.far n1 _).far n1 _, (h.fn.far n2 _).far n2 _, h.own.set i hi y⟩
theorem HeapAt.row (h : HeapAt w b o c t pre v xs) : v.ownBlock ≠ some b ∧ v.ownBlock ≠ some c := by
  rcases h.own.form with ⟨rfl, _⟩ | ⟨g, cap, rest, rfl, hg, _⟩
  · simp [Value.ownBlock]
  · have := h.ne hg
    simp [Value.ownBlock]; omega
/-- A new slice of hits is laid into a heap. -/
theorem HeapAt.lay {w1 : World} {v' : Value} {ys : List Hit} (ho : pre.length = o) (ht : t = 143 ∨ t = 145) (h : Blk w1 b t (pre ++ [v, fnV c])) (hf : Blk w1 c 52 [.func (.func 77) #[] #[]]) (hown : Own w1 51 v' ys) :
    HeapAt (w1.setCell ⟨b, o, none⟩ v') b o c t pre v' ys := by
  have hne : b ≠ c := h.ne hf (by rcases ht with e | e <;> rw [e] <;> decide)
  have hrow : ∀ k, v'.ownBlock = some k → k ≠ b := by
    intro k hk
    rcases hown.form with ⟨rfl, _⟩ | ⟨g, cap, rest, rfl, hg, _⟩
    · simp [Value.ownBlock] at hk
    · simp [Value.ownBlock] at hk
      subst hk
      exact (h.ne hg (by rcases ht with e | e <;> rw [e] <;> decide)).symm
  refine ⟨ho, ht, ?_, hf.far (fun e => hne e.symm) _, ?_⟩
  · have := h.set o v'
    rw [← ho, List.set_append_right _ _ (Nat.le_refl _)] at this
    rw [← ho]
    simpa using this
  · exact Kept.own (F := [b]) ((Kept.refl _ _).setCell _ _ (by simp)) hown (fun k hk => by simpa using hrow k hk)
theorem HeapAt.drew (h : HeapAt w b o c t pre v xs) : HeapAt w.drew b o c t pre v xs := ⟨h.off, h.typ, h.self, h.fn, h.own⟩
theorem HeapAt.kept {F : List Nat} (h : HeapAt w b o c t pre v xs) (hk : Kept F w w') (hb : b ∉ F) (hc : c ∉ F) (hv : ∀ k, v.ownBlock = some k → k ∉ F) : HeapAt w' b o c t pre v xs :=
  ⟨h.off, h.typ, hk.blk h.self hb, hk.blk h.fn hc, h.own.kept hk hv⟩
theorem HeapAt.hit (h : HeapAt w b o c t pre (.slice (some ⟨g, 0, none⟩) n cap) xs) (i : Nat) (hi : i < xs.length) :
    w.cell? ⟨g, i * 2, none⟩ = some (.int .i64 (xs.getD i (0, 0)).1) ∧ w.cell? ⟨g, i * 2 + 1, none⟩ = some (.int .u32 (xs.getD i (0, 0)).2) := by
  obtain ⟨rest, rfl, hb, _⟩ := h.own.blk
  have := flat_len xs
  exact ⟨by rw [hb.cell, List.getElem?_append_left (by omega), flat_fst xs i hi], by rw [hb.cell, List.getElem?_append_left (by omega), flat_snd xs i hi]⟩
theorem HeapAt.grow (h : HeapAt w b o c t pre v xs) (hb : Below w.heap.size w w') : HeapAt w' b o c t pre v xs :=
  h.kept (Kept.of_below (F := []) hb (Nat.le_refl _)) (by simp) (by simp) (by simp)

theorem top_any (b o c : Nat) (t : TypeId) (pre : List Value) (v : Value) (x : Int × Int) (xs : List (Int × Int)) (w : World) (h : HeapAt w b o c t pre v (x :: xs)) :
    Calls Tryz.prog 89 #[.pointer (some ⟨b, o, none⟩)] w fun e w' => e = .returned (.agg #[.int .i64 x.1, .int .u32 x.2]) ∧ Below w.heap.size w w' := by
  have c0 := h.cell0
  have l0 := h.self.lt
  rcases h.own.form with ⟨_, h1⟩ | ⟨g, cap, rest, rfl, hg, hn, hcap, hlen⟩
  · cases h1
  have l1 := hg.lt
  have c2 : w.cell? ⟨g, 0, none⟩ = some (.int .i64 x.1) := by rw [hg.cell]; simp [flat]
  have c3 : w.cell? ⟨g, 1, none⟩ = some (.int .u32 x.2) := by rw [hg.cell]; simp [flat]
  clear hlen
  go_enter Tryz.func89, Tryz.ntmps89
  go_wp2
  refine bodyPost_ret (v := .agg #[.int .i64 x.1, .int .u32 x.2]) (by simp [results, Tryz.results89, go_sem]) rfl ⟨rfl, ?_⟩
  go_grown

set_option maxHeartbeats 1600000 in
theorem swap_any (b o c g n cap i j : Nat) (t : TypeId) (pre : List Value) (xs : List (Int × Int)) (w : World) (h : HeapAt w b o c t pre (.slice (some ⟨g, 0, none⟩) n cap) xs) (hi : i < xs.length) (hj : j < xs.length) (hij : i ≠ j) :
    Calls Tryz.prog 137 #[.pointer (some ⟨b, o, none⟩), .int .i64 i, .int .i64 j] w fun e w' => e = .returned (.tuple #[]) ∧ HeapAt w' b o c t pre (.slice (some ⟨g, 0, none⟩) n cap) (swapL xs i j) ∧ Kept [g] w w' := by
  have c0 := h.cell0
  have l0 := h.self.lt
  have f0 := h.self.frozen
  obtain ⟨rest, rfl, hg, hn, hcap, hlen⟩ := h.own.blk
  have l1 := hg.lt
  have lf := flat_len xs
  have c2 : w.cell? ⟨g, i * 2, none⟩ = some (.int .i64 (xs.getD i (0, 0)).1) := by rw [hg.cell, List.getElem?_append_left (by omega), flat_fst xs i hi]
  have c3 : w.cell? ⟨g, i * 2 + 1, none⟩ = some (.int .u32 (xs.getD i (0, 0)).2) := by rw [hg.cell, List.getElem?_append_left (by omega), flat_snd xs i hi]
  have c4 : w.cell? ⟨g, j * 2, none⟩ = some (.int .i64 (xs.getD j (0, 0)).1) := by rw [hg.cell, List.getElem?_append_left (by omega), flat_fst xs j hj]
  have c5 : w.cell? ⟨g, j * 2 + 1, none⟩ = some (.int .u32 (xs.getD j (0, 0)).2) := by rw [hg.cell, List.getElem?_append_left (by omega), flat_snd xs j hj]
  have f2 : ∀ k, w.frozen? ⟨g, k, none⟩ = false := hg.frozen
  unfold swapL
  have H1 := Lib.hid ((h.set i hi (xs.getD j (0, 0))).set j (by simpa using hj) (xs.getD i (0, 0)))
  generalize xs.getD i (0, 0) = x at *
  generalize xs.getD j (0, 0) = y at *
  clear hlen lf hg f0 h
  unfold maxLen at hcap
  go_enter Tryz.func137, Tryz.ntmps137
  go_region
  go_end0
  exact ⟨rfl, H1.out.drew, (((((Kept.refl _ _).setCell _ _ (by simp)).setCell _ _ (by simp)).setCell _ _ (by simp)).setCell _ _ (by simp)).drew⟩

theorem above_eq (x y : Hit) (c : Nat) (z : Bool) (hz : Hid (ltH y x = z)) (w : World) (hc : w.cell? ⟨c, 0, none⟩ = some (.func (.func 77) #[] #[])) (hlt : c < w.heap.size) :
    Calls Tryz.prog 131 #[.agg #[.int .i64 x.1, .int .u32 x.2], .agg #[.int .i64 y.1, .int .u32 y.2], .pointer (some ⟨c, 0, none⟩)] w fun e w' => e = .returned (.bool z) ∧ Below w.heap.size w w' := by
  rw [← hz.out]
  exact above_any x.1 x.2 y.1 y.2 c w hc hlt

/-- What a drawn region that asks the order of two hits must see of a heap. -/
theorem HeapAt.see {ys : List Hit} (H : Hid (HeapAt w b o c t pre (.slice (some ⟨g, 0, none⟩) n cap) ys)) (k m : Nat) (x y : Hit) (hk : k < ys.length) (hm : m < ys.length) (hx : Hid (ys.getD k (0, 0) = x)) (hy : Hid (ys.getD m (0, 0) = y)) (hB : Below w.heap.size w w') :
    w'.cell? ⟨b, o, none⟩ = some (.slice (some ⟨g, 0, none⟩) n cap) ∧ w'.cell? ⟨b, o + 1, none⟩ = some (.func (.func 131) #[] #[.pointer (some ⟨c, 0, none⟩)]) ∧
    w'.cell? ⟨g, k * 2, none⟩ = some (.int .i64 x.1) ∧ w'.cell? ⟨g, k * 2 + 1, none⟩ = some (.int .u32 x.2) ∧ w'.cell? ⟨g, m * 2, none⟩ = some (.int .i64 y.1) ∧ w'.cell? ⟨g, m * 2 + 1, none⟩ = some (.int .u32 y.2) ∧
    w'.cell? ⟨c, 0, none⟩ = some (.func (.func 77) #[] #[]) ∧ b < w'.heap.size ∧ g < w'.heap.size ∧ c < w'.heap.size ∧ Below w.heap.size w w' := by
  have h := H.out.grow hB
  obtain ⟨rest, _, hg, _⟩ := h.own.blk
  obtain ⟨h1, h2⟩ := h.hit k hk
  obtain ⟨h3, h4⟩ := h.hit m hm
  rw [hx.out] at h1 h2
  rw [hy.out] at h3 h4
  exact ⟨h.cell0, h.cell1, h1, h2, h3, h4, by rw [h.fn.cell]; rfl, h.self.lt, hg.lt, h.fn.lt, hB⟩

set_option maxHeartbeats 1600000 in
theorem rise_any (b o c g n cap i : Nat) (t : TypeId) (pre : List Value) (xs : List Hit) (w : World) (h : HeapAt w b o c t pre (.slice (some ⟨g, 0, none⟩) n cap) xs) (hi : i < xs.length) :
    Calls Tryz.prog 123 #[.pointer (some ⟨b, o, none⟩), .int .i64 i] w fun e w' => e = .returned (.tuple #[]) ∧ HeapAt w' b o c t pre (.slice (some ⟨g, 0, none⟩) n cap) (riseL xs i) ∧ Kept [g] w w' := by
  obtain ⟨rest, rfl, _, hn, hcap, _⟩ := h.own.blk
  unfold maxLen at hcap
  go_enter Tryz.func123, Tryz.ntmps123
  go_wp2
  go_loopw [1] (fun i' wr => ∃ (k : Nat) (ys : List Hit), k < xs.length ∧ i' = .int .i64 k ∧ Hid (ys.length = xs.length) ∧ Hid (HeapAt wr b o c t pre (.slice (some ⟨g, 0, none⟩) xs.length cap) ys) ∧ Hid (riseL ys k = riseL xs i) ∧ Kept [g] w wr) (fun i' _ => (intOf i').toNat)
  case atStart => exact ⟨i, xs, hi, rfl, rfl, h, rfl, Kept.refl _ _⟩
  case round =>
    obtain ⟨k, ys, hk, rfl, HL, H, HR, hK⟩ := hrel
    by_cases h0 : k = 0
    · subst h0
      go_wp2
      go_end0
      have e := HR.out
      rw [riseL, dif_neg (by omega)] at e
      exact ⟨rfl, by rw [← e]; exact H, hK⟩
    · obtain ⟨m, hm⟩ : ∃ m, m = (k - 1) / 2 := ⟨_, rfl⟩
      have hm1 : ((k : Int) - 1) / 2 = (m : Int) := by omega
      have hm2 : m < k := by omega
      obtain ⟨x, hx⟩ : ∃ x, ys.getD k (0, 0) = x := ⟨_, rfl⟩
      obtain ⟨y, hy⟩ : ∃ y, ys.getD m (0, 0) = y := ⟨_, rfl⟩
      obtain ⟨z, hz⟩ : ∃ z, ltH y x = z := ⟨_, rfl⟩
      have HX := Lib.hid hx
      have HY := Lib.hid hy
      have HZ := Lib.hid hz
      have HM := Lib.hid hm
      have hl := HL.out
      have hky : k < ys.length := by omega
      have hmy : m < ys.length := by omega
      have hmx : m < xs.length := by omega
      have HS := Lib.hid (fun (w' : World) (hB : Below wr.heap.size wr w') => HeapAt.see H k m x y hky hmy HX HY hB)
      have S0 := HS.out wr (Below.refl _ _)
      clear hx hy hz hm hl
      go_wp2
      rw [hm1]
      obtain ⟨s1, s2, s3, s4, s5, s6, s7, s8, s9, s10, s11⟩ := S0
      go_region_held3 (fun w' => w'.cell? ⟨b, o, none⟩ = some (.slice (some ⟨g, 0, none⟩) xs.length cap) ∧ w'.cell? ⟨b, o + 1, none⟩ = some (.func (.func 131) #[] #[.pointer (some ⟨c, 0, none⟩)]) ∧
          w'.cell? ⟨g, k * 2, none⟩ = some (.int .i64 x.1) ∧ w'.cell? ⟨g, k * 2 + 1, none⟩ = some (.int .u32 x.2) ∧ w'.cell? ⟨g, m * 2, none⟩ = some (.int .i64 y.1) ∧ w'.cell? ⟨g, m * 2 + 1, none⟩ = some (.int .u32 y.2) ∧
          w'.cell? ⟨c, 0, none⟩ = some (.func (.func 77) #[] #[]) ∧ b < w'.heap.size ∧ g < w'.heap.size ∧ c < w'.heap.size ∧ Below wr.heap.size wr w')
        (first
          | (go_keep; done)
          | exact HS.out _ (Below.refl _ _)
          | exact HS.out _ (Below.refl _ _).drew
          | (go_split_ands; exact HS.out _ (below_on (by assumption) hbel)))
        (first
          | (go_at_call 131; refine (above_eq x y c z HZ _ (by assumption) (by assumption)).mono ?_; rintro e w' ⟨rfl, hbel⟩))
      rename_i hH
      have hB := hH.2.2.2.2.2.2.2.2.2.2
      clear s1 s2 s3 s4 s5 s6 s7 s8 s9 s10 s11 hH hbel
      have hr := HR.out
      rw [riseL, dif_pos (by omega), ← HM.out, HX.out, HY.out, HZ.out] at hr
      have HR' := Lib.hid hr
      clear hr HS HX HY HM
      have hgb : Kept [g] w w' := hK.trans (Kept.of_below (F := [g]) hB (Nat.le_refl _)) (Grows.refl _ _)
      cases z
      · have e0 : (!false) = true := rfl
        go_wp2
        have e := HR'.out
        rw [if_neg (by simp)] at e
        refine bodyPost_ret (v := .tuple #[]) (results_none rfl _ _ _) rfl ?_
        exact ⟨rfl, by rw [← e]; exact H.out.grow hB, hgb⟩
      · go_wp2_with (fail)
        refine (swap_any b o c g xs.length cap k m t pre ys w' (H.out.grow hB) hky hmy (by omega)).mono ?_
        rintro e w2 ⟨rfl, h2, k2⟩
        have H2 := Lib.hid h2
        clear h2
        go_wp2
        go_roundw
        case rel =>
          have e := HR'.out
          rw [if_pos (by trivial)] at e
          exact ⟨m, swapL ys k m, by omega, rfl, by have := HL.out; unfold Hid; rw [swapL_len]; exact this, H2.out, e, hgb.trans k2 (Grows.refl _ _)⟩
        case measure => simp [intOf]; omega

set_option maxHeartbeats 1600000 in
theorem child_yes (b o c g n cap k : Nat) (t : TypeId) (pre : List Value) (xs : List Hit) (w : World) (h : HeapAt w b o c t pre (.slice (some ⟨g, 0, none⟩) n cap) xs) (hs : xs.length ≤ 1000000) (hk : 2 * k + 2 < xs.length) :
    Calls Tryz.prog 138 #[.pointer (some ⟨b, o, none⟩), .int .i64 k] w fun e w' => e = .returned (.int .i64 (childL xs k)) ∧ Below w.heap.size w w' := by
  obtain ⟨rest, rfl, _, hn, hcap, _⟩ := h.own.blk
  obtain ⟨l, hl⟩ : ∃ l, l = 2 * k + 1 := ⟨_, rfl⟩
  obtain ⟨r, hr⟩ : ∃ r, r = 2 * k + 2 := ⟨_, rfl⟩
  have hl1 : 2 * (k : Int) + 1 = (l : Int) := by omega
  have hr1 : 2 * (k : Int) + 2 = (r : Int) := by omega
  have hln : l < xs.length := by omega
  have hrn : r < xs.length := by omega
  obtain ⟨x, hx⟩ : ∃ x, xs.getD r (0, 0) = x := ⟨_, rfl⟩
  obtain ⟨y, hy⟩ : ∃ y, xs.getD l (0, 0) = y := ⟨_, rfl⟩
  obtain ⟨z, hz⟩ : ∃ z, ltH y x = z := ⟨_, rfl⟩
  have hc : childL xs k = if z = true then r else l := by
    unfold childL
    rw [← hl, ← hr, hx, hy, hz]
    cases z <;> simp [hrn]
  have HX := Lib.hid hx
  have HY := Lib.hid hy
  have HZ := Lib.hid hz
  have HC := Lib.hid hc
  have H := Lib.hid h
  have HS := Lib.hid (fun (w' : World) (hB : Below w.heap.size w w') => HeapAt.see H r l x y hrn hln HX HY hB)
  have S0 := HS.out w (Below.refl _ _)
  have hdec : decide (r < xs.length) = true := by simpa using hrn
  have HL1 := Lib.hid hl1
  have HR1 := Lib.hid hr1
  have hb1 : (k : Int) ≤ 1000000 := by omega
  clear hx hy hz hc hl hr h hl1 hr1 hcap hn
  go_enter Tryz.func138, Tryz.ntmps138
  go_wp2
  rw [HL1.out, HR1.out]
  obtain ⟨s1, s2, s3, s4, s5, s6, s7, s8, s9, s10, s11⟩ := S0
  go_region_held3 (fun w' => w'.cell? ⟨b, o, none⟩ = some (.slice (some ⟨g, 0, none⟩) xs.length cap) ∧ w'.cell? ⟨b, o + 1, none⟩ = some (.func (.func 131) #[] #[.pointer (some ⟨c, 0, none⟩)]) ∧
      w'.cell? ⟨g, r * 2, none⟩ = some (.int .i64 x.1) ∧ w'.cell? ⟨g, r * 2 + 1, none⟩ = some (.int .u32 x.2) ∧ w'.cell? ⟨g, l * 2, none⟩ = some (.int .i64 y.1) ∧ w'.cell? ⟨g, l * 2 + 1, none⟩ = some (.int .u32 y.2) ∧
      w'.cell? ⟨c, 0, none⟩ = some (.func (.func 77) #[] #[]) ∧ b < w'.heap.size ∧ g < w'.heap.size ∧ c < w'.heap.size ∧ Below w.heap.size w w')
    (first
      | (go_keep; done)
      | exact HS.out _ (Below.refl _ _)
      | exact HS.out _ (Below.refl _ _).drew
      | (go_split_ands; exact HS.out _ (below_on (by assumption) hbel)))
    (first
      | (go_at_call 131; refine (above_eq x y c z HZ _ (by assumption) (by assumption)).mono ?_; rintro e w' ⟨rfl, hbel⟩))
  rename_i hH
  have hB := hH.2.2.2.2.2.2.2.2.2.2
  clear s1 s2 s3 s4 s5 s6 s7 s8 s9 s10 s11 hH hbel HS
  cases z
  · go_wp2
    go_ret
    exact ⟨ret_int (by rw [HC.out]; simp), hB⟩
  · go_wp2
    go_ret
    exact ⟨ret_int (by rw [HC.out]; simp), hB⟩

set_option maxHeartbeats 1600000 in
theorem child_no (b o c g n cap k : Nat) (t : TypeId) (pre : List Value) (xs : List Hit) (w : World) (h : HeapAt w b o c t pre (.slice (some ⟨g, 0, none⟩) n cap) xs) (_ : xs.length ≤ 1000000) (hk : xs.length ≤ 2 * k + 2) (hk' : k ≤ 1000000) :
    Calls Tryz.prog 138 #[.pointer (some ⟨b, o, none⟩), .int .i64 k] w fun e w' => e = .returned (.int .i64 (childL xs k)) ∧ Below w.heap.size w w' := by
  obtain ⟨rest, rfl, _, hn, hcap, _⟩ := h.own.blk
  have hc : childL xs k = 2 * k + 1 := by
    unfold childL
    rw [if_neg (by omega)]
  obtain ⟨r, hr⟩ : ∃ r, r = 2 * k + 2 := ⟨_, rfl⟩
  have hr1 : 2 * (k : Int) + 2 = (r : Int) := by omega
  have hdec : decide (r < xs.length) = false := by simp; omega
  have HC := Lib.hid hc
  have HR1 := Lib.hid hr1
  have c0 := h.cell0
  have l0 := h.self.lt
  clear hc hr hr1 hcap hn h
  go_enter Tryz.func138, Tryz.ntmps138
  go_wp2
  rw [HR1.out]
  go_quiet (fail)
  go_wp2
  go_ret
  exact ⟨ret_int (by rw [HC.out]; omega), below_draws (Below.refl _ _) _⟩

theorem child_any (b o c g n cap k : Nat) (t : TypeId) (pre : List Value) (xs : List Hit) (w : World) (h : HeapAt w b o c t pre (.slice (some ⟨g, 0, none⟩) n cap) xs) (hs : xs.length ≤ 1000000) (hk : k ≤ 1000000) (r : Nat) (hr : Hid (childL xs k = r)) :
    Calls Tryz.prog 138 #[.pointer (some ⟨b, o, none⟩), .int .i64 k] w fun e w' => e = .returned (.int .i64 r) ∧ Below w.heap.size w w' := by
  rw [← hr.out]
  by_cases h1 : 2 * k + 2 < xs.length
  · exact child_yes b o c g n cap k t pre xs w h hs h1
  · exact child_no b o c g n cap k t pre xs w h hs (by omega) hk

set_option maxHeartbeats 3200000 in
theorem sink_any (b o c g n cap i : Nat) (t : TypeId) (pre : List Value) (xs : List Hit) (w : World) (h : HeapAt w b o c t pre (.slice (some ⟨g, 0, none⟩) n cap) xs) (hs : xs.length ≤ 1000000) (hi : i ≤ 1000000) :
    Calls Tryz.prog 124 #[.pointer (some ⟨b, o, none⟩), .int .i64 i] w fun e w' => e = .returned (.tuple #[]) ∧ HeapAt w' b o c t pre (.slice (some ⟨g, 0, none⟩) n cap) (sinkL xs i) ∧ Kept [g] w w' := by
  obtain ⟨rest, rfl, _, hn, hcap, _⟩ := h.own.blk
  clear hn hcap
  go_enter Tryz.func124, Tryz.ntmps124
  go_wp2
  go_loopw [1] (fun i' wr => ∃ (k : Nat) (ys : List Hit), k ≤ 1000000 ∧ i' = .int .i64 k ∧ Hid (ys.length = xs.length) ∧ Hid (HeapAt wr b o c t pre (.slice (some ⟨g, 0, none⟩) xs.length cap) ys) ∧ Hid (sinkL ys k = sinkL xs i) ∧ Kept [g] w wr) (fun i' _ => 1000001 - (intOf i').toNat)
  case atStart => exact ⟨i, xs, hi, rfl, rfl, h, rfl, Kept.refl _ _⟩
  case round =>
    obtain ⟨k, ys, hk, rfl, HL, H, HR, hK⟩ := hrel
    obtain ⟨m, hm⟩ : ∃ m, childL ys k = m := ⟨_, rfl⟩
    have HM := Lib.hid hm
    have hmk : k < m := by have := childL_or ys k; omega
    have hmk2 : m ≤ 2000002 := by have := childL_or ys k; omega
    have hK := Lib.hid hK
    clear hm
    by_cases hlt : m < xs.length
    · obtain ⟨x, hx⟩ : ∃ x, ys.getD m (0, 0) = x := ⟨_, rfl⟩
      obtain ⟨y, hy⟩ : ∃ y, ys.getD k (0, 0) = y := ⟨_, rfl⟩
      obtain ⟨z, hz⟩ : ∃ z, ltH y x = z := ⟨_, rfl⟩
      have hr := HR.out
      have hl := HL.out
      rw [sinkL, HM.out, dif_pos (by omega), hy, hx, hz] at hr
      have HR' := Lib.hid hr
      have hky : k < ys.length := by omega
      have hmy : m < ys.length := by omega
      have hkx : k < xs.length := by omega
      have HX := Lib.hid hx
      have HY := Lib.hid hy
      have HZ := Lib.hid hz
      have hdec : decide (xs.length ≤ m) = false := by simpa using hlt
      clear hx hy hz hr hl
      go_wp2_with (fail)
      refine (child_any b o c g xs.length cap k t pre ys wr H.out (by have := HL.out; omega) hk m HM).mono ?_
      rintro e wr1 ⟨rfl, hb1⟩
      have H1 := Lib.hid (H.out.grow hb1)
      have hK1 := Lib.hid (hK.out.trans (Kept.of_below (F := [g]) hb1 (Nat.le_refl _)) (Grows.refl _ _))
      have HS := Lib.hid (fun (w' : World) (hB : Below wr1.heap.size wr1 w') => HeapAt.see H1 m k x y hmy hky HX HY hB)
      have S0 := HS.out wr1 (Below.refl _ _)
      clear hb1 hK H HR HM HX HY
      go_wp2
      obtain ⟨s1, s2, s3, s4, s5, s6, s7, s8, s9, s10, s11⟩ := S0
      go_region_held3 (fun w' => w'.cell? ⟨b, o, none⟩ = some (.slice (some ⟨g, 0, none⟩) xs.length cap) ∧ w'.cell? ⟨b, o + 1, none⟩ = some (.func (.func 131) #[] #[.pointer (some ⟨c, 0, none⟩)]) ∧
          w'.cell? ⟨g, m * 2, none⟩ = some (.int .i64 x.1) ∧ w'.cell? ⟨g, m * 2 + 1, none⟩ = some (.int .u32 x.2) ∧ w'.cell? ⟨g, k * 2, none⟩ = some (.int .i64 y.1) ∧ w'.cell? ⟨g, k * 2 + 1, none⟩ = some (.int .u32 y.2) ∧
          w'.cell? ⟨c, 0, none⟩ = some (.func (.func 77) #[] #[]) ∧ b < w'.heap.size ∧ g < w'.heap.size ∧ c < w'.heap.size ∧ Below wr1.heap.size wr1 w')
        (first
          | (go_keep; done)
          | exact HS.out _ (Below.refl _ _)
          | exact HS.out _ (Below.refl _ _).drew
          | (go_split_ands; exact HS.out _ (below_on (by assumption) hbel)))
        (first
          | (go_at_call 131; refine (above_eq x y c z HZ _ (by assumption) (by assumption)).mono ?_; rintro e w' ⟨rfl, hbel⟩))
      rename_i hH
      have hB := hH.2.2.2.2.2.2.2.2.2.2
      clear s1 s2 s3 s4 s5 s6 s7 s8 s9 s10 s11 hH hbel HS
      have hgb : Kept [g] w w' := hK1.out.trans (Kept.of_below (F := [g]) hB (Nat.le_refl _)) (Grows.refl _ _)
      have H2 := Lib.hid (H1.out.grow hB)
      clear hB H1 hK1
      cases z
      · have e0 : (!false) = true := rfl
        go_wp2
        have e := HR'.out
        rw [if_neg (by simp)] at e
        refine bodyPost_ret (v := .tuple #[]) (results_none rfl _ _ _) rfl ?_
        exact ⟨rfl, by rw [← e]; exact H2.out, hgb⟩
      · go_wp2_with (fail)
        refine (swap_any b o c g xs.length cap k m t pre ys w' H2.out hky hmy (by omega)).mono ?_
        rintro e w2 ⟨rfl, h2, k2⟩
        have H3 := Lib.hid h2
        clear h2
        go_wp2
        go_roundw
        case rel =>
          have e := HR'.out
          rw [if_pos (by trivial)] at e
          exact ⟨m, swapL ys k m, by omega, rfl, by have := HL.out; unfold Hid; rw [swapL_len]; exact this, H3.out, e, hgb.trans k2 (Grows.refl _ _)⟩
        case measure => simp [intOf]; omega
    · have hdec : decide (xs.length ≤ m) = true := by simp; omega
      have hr := HR.out
      have hl := HL.out
      rw [sinkL, HM.out, dif_neg (by omega)] at hr
      have HR' := Lib.hid hr
      clear hr hl
      go_wp2_with (fail)
      refine (child_any b o c g xs.length cap k t pre ys wr H.out (by have := HL.out; omega) hk m HM).mono ?_
      rintro e wr1 ⟨rfl, hb1⟩
      have H1 := Lib.hid (H.out.grow hb1)
      have hK1 := Lib.hid (hK.out.trans (Kept.of_below (F := [g]) hb1 (Nat.le_refl _)) (Grows.refl _ _))
      have c0 := H1.out.cell0
      have l0 := H1.out.self.lt
      clear hb1 hK H HR HM
      go_wp2
      go_quiet (fail)
      go_wp2
      refine bodyPost_ret (v := .tuple #[]) (results_none rfl _ _ _) rfl ?_
      exact ⟨rfl, by rw [← HR'.out]; exact H1.out.kept ((Kept.refl [] _).drewN _) (by simp) (by simp) (by simp), hK1.out.drewN _⟩

theorem hit_info : (Tryz.prog.info? 51).map (fun i => (i.zero, i.size, i.bytes)) = some (some (.agg #[.int .i64 0, .int .u32 0]), 2, 16) := by kernel_rfl

set_option maxHeartbeats 3200000 in
theorem push_any (b o c : Nat) (t : TypeId) (pre : List Value) (v : Value) (xs : List Hit) (x : Hit) (w : World) (h : HeapAt w b o c t pre v xs) (hs : xs.length < 1000000) :
    Calls Tryz.prog 88 #[.pointer (some ⟨b, o, none⟩), .agg #[.int .i64 x.1, .int .u32 x.2]] w fun e w' => e = .returned (.tuple #[]) ∧
      ∃ g cap, HeapAt w' b o c t pre (.slice (some ⟨g, 0, none⟩) (xs.length + 1) cap) (riseL (xs ++ [x]) xs.length) ∧ Kept (b :: v.ownBlock.toList) w w' ∧ (v.ownBlock = some g ∨ w.heap.size ≤ g) := by
  obtain ⟨i0, hi0, hz0, hz1, hz2⟩ := info_parts hit_info
  have hown := h.own
  have c0 := h.cell0
  have f0 := h.self.frozen o
  have l0 := h.self.lt
  have H := Lib.hid h
  have HO := Lib.hid hown
  clear h hown
  go_enter Tryz.func88, Tryz.ntmps88
  go_wp2
  go_region_law
    (refine step_append_lies _ (by rfl) (.tmp 8) (.tmp 10) 47 (by rfl) 0 51 i0 _ 2 16 Tryz.underlying47 hi0 hz0 hz1 hz2 rfl (by omega) v xs.length (flat xs) (by rfl) ((HO.out.alloc _).alloc _)
        ⟨w.heap.size + 1, 0, none⟩ 1 1 [.int .i64 x.1, .int .u32 x.2] (by rfl) (by rfl) (World.news_of_block (cs := #[.int .i64 x.1, .int .u32 x.2]) (t := 51) (fr := (0, 0)) (news_two w _ _)) (by simp [Value.oneCell'])
        (by omega) (by unfold maxLen; omega) (by omega) (by simp) (w.heap.size + 2) (by simp) ?_; intro gg cap w1 hown1 hgrow hat hlt
     have self1 := (((H.out.self.alloc _).alloc _).drew).grown hgrow H.out.row.1
     have fn1 := (((H.out.fn.alloc _).alloc _).drew).grown hgrow H.out.row.2
     have K1 : Kept (b :: v.ownBlock.toList) w w1 := ((((Kept.refl _ _).alloc _).alloc _).drew).grown hgrow (fun k hk => by simp [hk])
     have k1 := self1.cell o
     rw [← H.out.self.cell o, H.out.cell0] at k1
     have e1 := self1.frozen o
     have l1 := self1.lt
     have HO1 := Lib.hid hown1
     have HK1 := Lib.hid K1
     have HA := Lib.hid hat
     have SF := Lib.hid self1
     have FN := Lib.hid fn1
     clear hgrow K1 hat self1 fn1 hown1)
  all_goals
    have hown2 : Own w1 51 (.slice (some ⟨gg, 0, none⟩) (xs.length + 1) cap) (xs ++ [x]) := by
      have := HO1.out
      unfold Own
      rw [flat_app]
      simpa [flat] using this
    have H2 := Lib.hid (HeapAt.lay H.out.off H.out.typ SF.out FN.out hown2)
    have HK2 := Lib.hid (HK1.out.setCell ⟨b, o, none⟩ (.slice (some ⟨gg, 0, none⟩) (xs.length + 1) cap) (by simp))
    have lw := hlt
    clear hown2 HO1 k1 e1 SF FN c0 f0 HO HK1 hlt l1 H lw
    generalize w1.setCell ⟨b, o, none⟩ (.slice (some ⟨gg, 0, none⟩) (xs.length + 1) cap) = w2 at *
    have c2 := H2.out.cell0
    have l2 := H2.out.self.lt
    go_wp2_with (fail)
    refine (rise_any b o c gg (xs.length + 1) cap xs.length t pre (xs ++ [x]) w2 H2.out (by simp)).mono ?_
    rintro e w3 ⟨rfl, h3, k3⟩
    have H3 := Lib.hid h3
    clear h3
    go_wp2
    go_end0
    have hat := HA.out
    refine ⟨rfl, gg, cap, H3.out, HK2.out.trans k3 ?_, ?_⟩
    · intro y hy
      simp at hy
      subst hy
      rcases hat with e | e
      · left; simp [e]
      · right; omega
    · rcases hat with e | e
      · left; exact e
      · right; omega

set_option maxHeartbeats 1600000 in
theorem replace_any (b o c g n cap : Nat) (t : TypeId) (pre : List Value) (xs : List Hit) (x : Hit) (w : World) (h : HeapAt w b o c t pre (.slice (some ⟨g, 0, none⟩) n cap) xs) (h0 : 0 < xs.length) (hs : xs.length ≤ 1000000) :
    Calls Tryz.prog 90 #[.pointer (some ⟨b, o, none⟩), .agg #[.int .i64 x.1, .int .u32 x.2]] w fun e w' => e = .returned (.tuple #[]) ∧
      HeapAt w' b o c t pre (.slice (some ⟨g, 0, none⟩) n cap) (sinkL (xs.set 0 x) 0) ∧ Kept [g] w w' := by
  obtain ⟨rest, rfl, hg, hn, hcap, _⟩ := h.own.blk
  have h1 := ((h.kept ((Kept.refl [] _).alloc (.cells #[.int .i64 x.1, .int .u32 x.2] 51)) (by simp) (by simp) (by simp)).set 0 h0 x)
  have c0 := h.cell0
  have l0 := h.self.lt
  have l1 := hg.lt
  have c2 := (h.hit 0 h0).1
  have c3 := (h.hit 0 h0).2
  simp only [Nat.zero_mul, Nat.zero_add] at c2 c3 h1
  rw [World.setCell_alloc_past _ _ _ _ l1, World.setCell_alloc_past _ _ _ _ (by simpa [World.setCell] using l1)] at h1
  have h1 := Lib.hid h1
  have f2 := hg.frozen 0
  have f3 := hg.frozen 1
  generalize xs.getD 0 (0, 0) = y at *
  clear h hg hn hcap
  go_enter Tryz.func90, Tryz.ntmps90
  go_wp2
  go_region
  have k1 : Kept [g] w (((w.setCell ⟨g, 0, none⟩ (.int .i64 x.1)).setCell ⟨g, 1, none⟩ (.int .u32 x.2)).alloc (.cells #[.int .i64 x.1, .int .u32 x.2] 51)).drew := ((((Kept.refl _ _).setCell _ _ (by simp)).setCell _ _ (by simp)).alloc _).drew
  have H1 := Lib.hid h1.out.drew
  clear h1 c0 l0 l1 c2 c3 f2 f3
  generalize (((w.setCell ⟨g, 0, none⟩ (.int .i64 x.1)).setCell ⟨g, 1, none⟩ (.int .u32 x.2)).alloc (.cells #[.int .i64 x.1, .int .u32 x.2] 51)).drew = w1 at *
  go_wp2_with (fail)
  refine (sink_any b o c g xs.length cap 0 t pre (xs.set 0 x) w1 H1.out (by simpa using hs) (by omega)).mono ?_
  rintro e w3 ⟨rfl, h3, k3⟩
  go_wp2
  go_end0
  exact ⟨rfl, h3, k1.trans k3 (Grows.refl _ _)⟩

/-- What is left in a heap when its top is taken out, the last one laid in its place. -/
def popL (xs : List Hit) : List Hit := sinkL ((xs.set 0 (xs.getD (xs.length - 1) (0, 0))).take (xs.length - 1)) 0

set_option maxHeartbeats 3200000 in
theorem pop_any (b o c g n cap : Nat) (t : TypeId) (pre : List Value) (x : Hit) (ys : List Hit) (w : World) (h : HeapAt w b o c t pre (.slice (some ⟨g, 0, none⟩) n cap) (x :: ys)) (hs : ys.length < 1000000) :
    Calls Tryz.prog 92 #[.pointer (some ⟨b, o, none⟩)] w fun e w' => e = .returned (.agg #[.int .i64 x.1, .int .u32 x.2]) ∧
      HeapAt w' b o c t pre (.slice (some ⟨g, 0, none⟩) ys.length cap) (popL (x :: ys)) ∧ Kept [b, g] w w' := by
  obtain ⟨rest, rfl, hg, hn, hcap, _⟩ := h.own.blk
  have h0 := Lib.hid (h.kept ((Kept.refl [] _).alloc (.cells #[.int .i64 0, .int .u32 0] 51)) (by simp) (by simp) (by simp))
  have hR0 := Lib.hid (Blk.new w 51 #[.int .i64 0, .int .u32 0])
  have lc : ys.length + 1 ≤ cap := by simpa using hn
  have lg := hg.lt
  have lb := h.self.lt
  have lcc := h.fn.lt
  have hbg := (h.ne hg).1
  clear h hg hn hcap
  go_enter Tryz.func92, Tryz.ntmps92
  go_wp2_with (fail)
  refine (top_any b o c t pre _ x ys _ h0.out).mono ?_
  rintro e w1 ⟨rfl, hb1⟩
  have H1 := Lib.hid (h0.out.grow hb1)
  have R1 := Lib.hid ((Kept.of_below (F := []) hb1 (Nat.le_refl _)).blk hR0.out (by simp))
  have K1 := Lib.hid (((Kept.refl [b, g] w).alloc (.cells #[.int .i64 0, .int .u32 0] 51)).trans (Kept.of_below (F := []) hb1 (Nat.le_refl _)) (by intro x hx; simp at hx))
  have c0 := H1.out.cell0
  have l0 := H1.out.self.lt
  have H2 := Lib.hid (H1.out.kept ((Kept.refl [] _).alloc (.cells #[.int .i64 x.1, .int .u32 x.2] 51)) (by simp) (by simp) (by simp))
  have R2 := Lib.hid (R1.out.alloc (.cells #[.int .i64 x.1, .int .u32 x.2] 51))
  have K2 := Lib.hid (K1.out.alloc (.cells #[.int .i64 x.1, .int .u32 x.2] 51))
  have T2 := Lib.hid (Blk.new w1 51 #[.int .i64 x.1, .int .u32 x.2])
  have hTR : w.heap.size < w1.heap.size := by have := R1.out.lt; exact this
  clear h0 hR0 hb1 R1 K1 H1
  go_wp2
  clear c0 l0
  generalize w1.alloc (.cells #[.int .i64 x.1, .int .u32 x.2] 51) = w2 at *
  generalize w1.heap.size = T at *
  obtain ⟨y, hy⟩ : ∃ y, (x :: ys).getD ys.length (0, 0) = y := ⟨_, rfl⟩
  generalize hR : w.heap.size = R at *
  have HR := Lib.hid hR
  have c0 := H2.out.cell0
  have l0 := H2.out.self.lt
  obtain ⟨_, _, hg2, _⟩ := H2.out.own.blk
  have l1 := hg2.lt
  have c2 := (H2.out.hit 0 (by simp)).1
  have c3 := (H2.out.hit 0 (by simp)).2
  have c4 := (H2.out.hit ys.length (by simp)).1
  have c5 := (H2.out.hit ys.length (by simp)).2
  simp only [Nat.zero_mul, Nat.zero_add] at c2 c3
  rw [hy] at c4 c5
  have f2 := hg2.frozen 0
  have f3 := hg2.frozen 1
  have H3 := (H2.out.set 0 (by simp) y).drew
  have R3 := ((R2.out.far (p := ⟨g, 0, none⟩) (by simp; omega) (.int .i64 y.1)).far (p := ⟨g, 1, none⟩) (by simp; omega) (.int .u32 y.2)).drew
  have T3 := ((T2.out.far (p := ⟨g, 0, none⟩) (by simp; omega) (.int .i64 y.1)).far (p := ⟨g, 1, none⟩) (by simp; omega) (.int .u32 y.2)).drew
  have K3 := ((K2.out.setCell ⟨g, 0, none⟩ (.int .i64 y.1) (by simp)).setCell ⟨g, 1, none⟩ (.int .u32 y.2) (by simp)).drew
  simp only [Nat.zero_mul, Nat.zero_add] at H3
  replace H3 := Lib.hid H3
  replace R3 := Lib.hid R3
  replace T3 := Lib.hid T3
  replace K3 := Lib.hid K3
  have HY := Lib.hid hy
  clear hg2 hR hy
  go_region
  clear c0 l0 l1 c2 c3 c4 c5 f2 f3 H2 R2 T2 K2
  generalize ((w2.setCell ⟨g, 0, none⟩ (.int .i64 y.1)).setCell ⟨g, 1, none⟩ (.int .u32 y.2)).drew = w3 at *
  have c0 := H3.out.cell0
  have f0 := H3.out.self.frozen o
  have l0 := H3.out.self.lt
  go_wp2_with (fail)
  have ho : Own w3 51 (.slice (some ⟨g, 0, none⟩) ys.length cap) (((x :: ys).set 0 y).take ys.length) := H3.out.own.take ys.length (by simp)
  have H4 := HeapAt.lay H3.out.off H3.out.typ H3.out.self H3.out.fn ho
  have R4 := R3.out.far (p := ⟨b, o, none⟩) (by simp; omega) (.slice (some ⟨g, 0, none⟩) ys.length cap)
  have T4 := T3.out.far (p := ⟨b, o, none⟩) (by simp; omega) (.slice (some ⟨g, 0, none⟩) ys.length cap)
  have K4 := K3.out.setCell ⟨b, o, none⟩ (.slice (some ⟨g, 0, none⟩) ys.length cap) (by simp)
  refine (sink_any b o c g ys.length cap 0 t pre _ _ H4 (by simp; omega) (by omega)).mono ?_
  rintro e w5 ⟨rfl, h5, k5⟩
  have R5 := k5.blk R4 (by simp; omega)
  have T5 := k5.blk T4 (by simp; omega)
  have K5 := K4.trans k5 (fun z hz => by simp at hz; simp [hz])
  have hpop : sinkL (((x :: ys).set 0 y).take ys.length) 0 = popL (x :: ys) := by
    rw [popL]
    simp only [List.length_cons, Nat.add_sub_cancel]
    rw [HY.out]
  rw [hpop] at h5
  have c0 := T5.cell 0
  have c1 := T5.cell 1
  have d0 := R5.cell 0
  have d1 := R5.cell 1
  have f0 := R5.frozen 0
  have f1 := R5.frozen 1
  have l5 := R5.lt
  simp only [List.getElem?_cons_zero, List.getElem?_cons_succ] at c0 c1 d0 d1
  have hlr := HR.out
  have K6 := (K5.setCell ⟨R, 0, none⟩ (.int .i64 x.1) (by simp; omega)).setCell ⟨R, 1, none⟩ (.int .u32 x.2) (by simp; omega)
  have hKR : Kept [R] w5 ((w5.setCell ⟨R, 0, none⟩ (.int .i64 x.1)).setCell ⟨R, 1, none⟩ (.int .u32 x.2)) := ((Kept.refl _ _).setCell _ _ (by simp)).setCell _ _ (by simp)
  have H6 := Lib.hid (h5.kept hKR (by simp; omega) (by simp; omega) (by simp [Value.ownBlock]; omega))
  have K6 := Lib.hid K6
  clear h5 k5 H4 R4 T4 K4 R5 T5 K5 ho hpop H3 R3 T3 K3 hlr hKR
  go_wp2
  refine bodyPost_ret (v := .agg #[.int .i64 x.1, .int .u32 x.2]) (by simp [results, Tryz.results92, go_sem, d0, d1]) rfl ?_
  exact ⟨rfl, H6.out, K6.out⟩

theorem reversed_any (w : World) :
    Calls Tryz.prog 111 #[.func (.func 77) #[] #[]] w fun e w' => e = .returned (.func (.func 131) #[] #[.pointer (some ⟨w.heap.size, 0, none⟩)]) ∧ w' = w.alloc (.cells #[.func (.func 77) #[] #[]] 52) := by
  go_enter Tryz.func111, Tryz.ntmps111
  go_wp2
  go_ret
  exact ⟨rfl, rfl⟩

/-- A selector lies in block b: so many hits it has room for, these it keeps. -/
def BestAt (w : World) (b c room : Nat) (v : Value) (xs : List Hit) : Prop := HeapAt w b 1 c 145 [.int .i64 (room : Int)] v xs

theorem with_any (room : Nat) (w : World) :
    Calls Tryz.prog 73 #[.int .i64 room] w fun e w' => e = .returned (.pointer (some ⟨w.heap.size + 1, 0, none⟩)) ∧ BestAt w' (w.heap.size + 1) w.heap.size room (.slice none 0 0) [] ∧ Below w.heap.size w w' := by
  go_enter Tryz.func73, Tryz.ntmps73
  go_wp2_with (fail)
  refine (reversed_any w).mono ?_
  rintro e w1 ⟨rfl, rfl⟩
  go_wp2
  go_ret
  refine ⟨rfl, ⟨rfl, .inr rfl, ?_, ?_, ?_⟩, ((Below.refl _ _).alloc (Nat.le_refl _) _).alloc (by simp) _⟩
  · have h := Blk.new (w.alloc (.cells #[.func (.func 77) #[] #[]] 52)) 145 #[.int .i64 room, .slice none 0 0, .func (.func 131) #[] #[.pointer (some ⟨w.heap.size, 0, none⟩)]]
    rw [show (w.alloc (.cells #[.func (.func 77) #[] #[]] 52)).heap.size = w.heap.size + 1 from by simp] at h
    exact h
  · exact (Blk.new w 52 #[.func (.func 77) #[] #[]]).alloc _
  · exact World.ownsRow_nil _ _ _ _

theorem new_any (k : Int) (w : World) (r : Nat) (hr : Hid ((r : Int) = min (max k 0) 256)) :
    Calls Tryz.prog 39 #[.int .i64 k] w fun e w' => e = .returned (.pointer (some ⟨w.heap.size + 1, 0, none⟩)) ∧ BestAt w' (w.heap.size + 1) w.heap.size r (.slice none 0 0) [] ∧ Below w.heap.size w w' := by
  by_cases h1 : k < 0
  · have e : r = 0 := by have := hr.out; omega
    subst e
    clear hr
    go_enter Tryz.func39, Tryz.ntmps39
    go_wp2_with (fail)
    refine (with_any 0 w).mono ?_
    rintro e w1 ⟨rfl, h, hb⟩
    have H := Lib.hid h
    clear h
    go_wp2
    go_ret
    exact ⟨rfl, H.out, hb⟩
  by_cases h2 : 256 < k
  · have e : r = 256 := by have := hr.out; omega
    subst e
    clear hr
    go_enter Tryz.func39, Tryz.ntmps39
    go_wp2_with (fail)
    refine (with_any 256 w).mono ?_
    rintro e w1 ⟨rfl, h, hb⟩
    have H := Lib.hid h
    clear h
    go_wp2
    go_ret
    exact ⟨rfl, H.out, hb⟩
  · obtain rfl : k = (r : Int) := by have := hr.out; omega
    go_enter Tryz.func39, Tryz.ntmps39
    go_wp2_with (fail)
    refine (with_any r w).mono ?_
    rintro e w1 ⟨rfl, h, hb⟩
    have H := Lib.hid h
    clear h
    go_wp2
    go_ret
    exact ⟨rfl, H.out, hb⟩

theorem len_any (b c room : Nat) (v : Value) (xs : List Hit) (w : World) (h : BestAt w b c room v xs) :
    Calls Tryz.prog 87 #[.pointer (some ⟨b, 0, none⟩)] w fun e w' => e = .returned (.int .i64 xs.length) ∧ w = w' := by
  obtain ⟨a, cap, rfl⟩ := h.own.size
  have c0 := h.cell0
  have l0 := h.self.lt
  clear h
  go_enter Tryz.func87, Tryz.ntmps87
  go_wp2
  go_ret
  exact ⟨rfl, rfl⟩
theorem BestAt.kept {F : List Nat} {w w' : World} {b c room : Nat} {v : Value} {xs : List Hit} (h : BestAt w b c room v xs) (hk : Kept F w w') (hb : b ∉ F) (hc : c ∉ F) (hv : ∀ k, v.ownBlock = some k → k ∉ F) : BestAt w' b c room v xs := HeapAt.kept h hk hb hc hv
theorem BestAt.grow {w w' : World} {b c room : Nat} {v : Value} {xs : List Hit} (h : BestAt w b c room v xs) (hb : Below w.heap.size w w') : BestAt w' b c room v xs := HeapAt.grow h hb
theorem BestAt.room {w : World} {b c room : Nat} {v : Value} {xs : List Hit} (h : BestAt w b c room v xs) : w.cell? ⟨b, 0, none⟩ = some (.int .i64 room) := by
  rw [h.self.cell]; simp

theorem len_q (b c room : Nat) (v : Value) (xs : List Hit) (w : World) (h : BestAt w b c room v xs) (n : Nat) :
    Calls Tryz.prog 87 #[.pointer (some ⟨b, 0, none⟩)] (w.drewN n) fun e w' => e = .returned (.int .i64 xs.length) ∧ ∃ m, w' = w.drewN m :=
  (len_any b c room v xs (w.drewN n) (h.kept ((Kept.refl [] _).drewN n) (by simp) (by simp) (by simp))).mono fun _ _ ⟨he, hw⟩ => ⟨he, n, hw.symm⟩

/-- What a selector keeps when x is put, as it lies in its heap. -/
def putH (room : Nat) (xs : List Hit) (x : Hit) : List Hit :=
  if xs.length < room then riseL (xs ++ [x]) xs.length else if ltH x (xs.getD 0 (0, 0)) = true ∧ 0 < room then sinkL (xs.set 0 x) 0 else xs

def PutPost (b c room : Nat) (v : Value) (xs : List Hit) (x : Hit) (w w' : World) : Prop :=
  ∃ v', BestAt w' b c room v' (putH room xs x) ∧ Kept (b :: v.ownBlock.toList) w w' ∧ (∀ k, v'.ownBlock = some k → v.ownBlock = some k ∨ w.heap.size ≤ k)

set_option maxHeartbeats 1600000 in
theorem put_room (b c room : Nat) (v : Value) (xs : List Hit) (x : Hit) (w : World) (h : BestAt w b c room v xs) (hs : xs.length < 1000000) (hr : xs.length < room) :
    Calls Tryz.prog 46 #[.pointer (some ⟨b, 0, none⟩), .agg #[.int .i64 x.1, .int .u32 x.2]] w fun e w' => e = .returned (.tuple #[]) ∧ PutPost b c room v xs x w w' := by
  have hp : putH room xs x = riseL (xs ++ [x]) xs.length := by rw [putH, if_pos hr]
  have HP := Lib.hid hp
  have H1 := Lib.hid (h.kept ((Kept.refl [] _).alloc (.cells #[.int .i64 x.1, .int .u32 x.2] 51)) (by simp) (by simp) (by simp))
  have K1 := Lib.hid ((Kept.refl (b :: v.ownBlock.toList) w).alloc (.cells #[.int .i64 x.1, .int .u32 x.2] 51))
  have B1 := Lib.hid (Blk.new w 51 #[.int .i64 x.1, .int .u32 x.2])
  have c0 := h.room
  have l0 := h.self.lt
  have hd : decide (xs.length < room) = true := by simpa using hr
  clear h hp
  go_enter Tryz.func46, Tryz.ntmps46
  go_wp2_with (fail)
  go_quiet ((go_at_call 87; exact len_q b c room v xs _ H1.out _))
  go_wp2_with (fail)
  have H2 := Lib.hid (H1.out.kept ((Kept.refl [] _).drewN nq) (by simp) (by simp) (by simp))
  have K2 := Lib.hid (K1.out.drewN nq)
  have B2 := Lib.hid ((Kept.refl [] _).drewN nq |>.blk B1.out (by simp))
  clear H1 K1 B1 c0 l0
  generalize (w.alloc (.cells #[.int .i64 x.1, .int .u32 x.2] 51)).drewN nq = w1 at *
  have c1 := B2.out.cell 0
  have c2 := B2.out.cell 1
  have l1 := B2.out.lt
  have l2 := H2.out.self.lt
  simp only [List.getElem?_cons_zero, List.getElem?_cons_succ] at c1 c2
  go_region_with (go_at_call 88; refine (push_any b 1 c 145 _ v xs x _ (HeapAt.drew H2.out) hs).mono ?_; rintro e w2 ⟨rfl, hq⟩)
  all_goals
    obtain ⟨g, cap, hq1, hq2, hq3⟩ := hq
    have Q1 := Lib.hid hq1
    have Q2 := Lib.hid hq2
    have Q3 := Lib.hid hq3
    clear hq1 hq2 hq3
    go_wp2
    refine bodyPost_ret (v := .tuple #[]) (results_none rfl _ _ _) rfl ⟨rfl, .slice (some ⟨g, 0, none⟩) (xs.length + 1) cap, ?_, K2.out.drew.trans Q2.out (Grows.refl _ _), ?_⟩
    · rw [HP.out]
      exact Q1.out
    · intro k hk
      simp [Value.ownBlock] at hk
      subst hk
      rcases Q3.out with e | e
      · exact .inl e
      · have := K2.out.size
        exact .inr (by simp at e; omega)

theorem addr_add (b o j : Nat) : (⟨b, o, none⟩ : Addr).add j = ⟨b, o + j, none⟩ := by
  unfold Addr.add
  split <;> simp_all

set_option maxHeartbeats 800000 in
theorem clone_any (v : Value) (xs : List Hit) (w : World) (h : Own w 51 v xs) (hs : xs.length ≤ 1000000) :
    Calls Tryz.prog 91 #[v] w fun e w' => ∃ v', e = .returned v' ∧ Own w' 51 v' xs ∧ Below w.heap.size w w' ∧ (∀ k, v'.ownBlock = some k → w.heap.size ≤ k) := by
  obtain ⟨i0, hi0, hz0, hz1, hz2⟩ := info_parts hit_info
  have hn := fun (w : World) (a : Option Addr) (n c : Nat) => Lib.run_eql_slice_nil (P := Tryz.prog) w 47 51 a n c 0 0 Tryz.underlying47
  rcases h.form with ⟨rfl, rfl⟩ | ⟨g, cap, rest, rfl, hg, hl, hcap, hlen⟩
  · clear h
    go_enter Tryz.func91, Tryz.ntmps91
    go_wp2
    go_ret
    exact ⟨_, rfl, World.ownsRow_nil _ _ _ _, Below.refl _ _, by simp [Value.ownBlock]⟩
  · have hfl := flat_len xs
    have hnews : ∀ j u, (flat xs)[j]? = some u → (w.alloc (.cells #[] 51)).cell? ((⟨g, 0, none⟩ : Addr).add j) = some u := by
      intro j u hj
      have := (hg.alloc (.cells #[] 51)).cell j
      rw [addr_add, Nat.zero_add, this, List.getElem?_append_left (by have := (List.getElem?_eq_some_iff.1 hj).1; omega), hj]
    have HN := Lib.hid hnews
    clear h hg hlen hcap hl hnews
    go_enter Tryz.func91, Tryz.ntmps91
    go_wp2_with (at_builtin; refine wpList_append_own_at _ rfl (.tmp 5) (.tmp 6) 47 rfl 0 51 i0 _ 2 16 Tryz.underlying47 hi0 hz0 hz1 hz2 rfl (by omega) _ 0 [] rfl (World.ownsRow_made w #[] 0 (Nat.zero_le _) (by decide) rfl) ⟨g, 0, none⟩ xs.length cap (flat xs) rfl (by omega) HN.out (flat_one xs) (by unfold maxLen; omega) (by omega) (Nat.zero_le _) ?_)
    intro v' w1 hown hgrow _ hat
    go_wp2
    go_ret
    refine ⟨v', rfl, ?_, ?_, ?_⟩
    · unfold Own; simpa using hown
    · exact ((Below.refl _ _).alloc (Nat.le_refl _) _).grown hgrow (by simp) (by simp [Value.ownBlock])
    · intro k hk
      rcases hat with e | e <;> rw [e] at hk <;> simp [Value.ownBlock] at hk <;> omega

theorem less_eq (x y : Hit) (z : Bool) (hz : Hid (ltH x y = z)) (w : World) :
    Calls Tryz.prog 77 #[.agg #[.int .i64 x.1, .int .u32 x.2], .agg #[.int .i64 y.1, .int .u32 y.2]] w fun e w' => e = .returned (.bool z) ∧ Below w.heap.size w w' := by
  rw [← hz.out]
  exact less_any x.1 x.2 y.1 y.2 w

set_option maxHeartbeats 3200000 in
theorem put_full (b c room : Nat) (v : Value) (y : Hit) (ys : List Hit) (x : Hit) (w : World) (h : BestAt w b c room v (y :: ys)) (hs : (y :: ys).length < 1000000) (hr : (y :: ys).length = room) :
    Calls Tryz.prog 46 #[.pointer (some ⟨b, 0, none⟩), .agg #[.int .i64 x.1, .int .u32 x.2]] w fun e w' => e = .returned (.tuple #[]) ∧ PutPost b c room v (y :: ys) x w w' := by
  obtain ⟨g, cap, rfl⟩ : ∃ g cap, v = .slice (some ⟨g, 0, none⟩) (y :: ys).length cap := by
    rcases h.own.form with ⟨_, e⟩ | ⟨g, cap, _, e, _⟩
    · cases e
    · exact ⟨g, cap, e⟩
  obtain ⟨z, hz⟩ : ∃ z, ltH x y = z := ⟨_, rfl⟩
  have hp : putH room (y :: ys) x = if z = true then sinkL ((y :: ys).set 0 x) 0 else y :: ys := by
    have h0 : 0 < room := by rw [← hr]; simp
    rw [putH, if_neg (by omega), show (y :: ys).getD 0 (0, 0) = y from rfl, hz]
    simp [h0]
  have HZ := Lib.hid hz
  have HP := Lib.hid hp
  have H1 := Lib.hid (h.kept ((Kept.refl [] _).alloc (.cells #[.int .i64 x.1, .int .u32 x.2] 51)) (by simp) (by simp) (by simp))
  have K1 := Lib.hid ((Kept.refl (b :: (.slice (some ⟨g, 0, none⟩) (y :: ys).length cap : Value).ownBlock.toList) w).alloc (.cells #[.int .i64 x.1, .int .u32 x.2] 51))
  have B1 := Lib.hid (Blk.new w 51 #[.int .i64 x.1, .int .u32 x.2])
  have c0 := h.room
  have l0 := h.self.lt
  have hd : decide (ys.length + 1 < room) = false := by simp at hr ⊢; omega
  have hdi : decide ((ys.length : Int) + 1 < (room : Int)) = false := by simp at hr ⊢; omega
  have hd0 : decide ((0 : Int) < (room : Int)) = true := by simp at hr ⊢; omega
  have hd2 : decide (0 < room) = true := by simp at hr ⊢; omega
  have HR := Lib.hid hr
  clear h hp hz hr
  go_enter Tryz.func46, Tryz.ntmps46
  go_wp2_with (fail)
  go_quiet ((go_at_call 87; exact len_q b c room _ (y :: ys) _ H1.out _))
  go_wp2_with (fail)
  have H2 := Lib.hid (H1.out.kept ((Kept.refl [] _).drewN nq) (by simp) (by simp) (by simp))
  have K2 := Lib.hid (K1.out.drewN nq)
  have B2 := Lib.hid ((Kept.refl [] _).drewN nq |>.blk B1.out (by simp))
  clear H1 K1 B1 c0 l0
  generalize (w.alloc (.cells #[.int .i64 x.1, .int .u32 x.2] 51)).drewN nq = w1 at *
  obtain ⟨R, hR⟩ : ∃ R, w.heap.size = R := ⟨_, rfl⟩
  have HS := Lib.hid (show ∀ w', Below w1.heap.size w1 w' → w'.cell? ⟨b, 0, none⟩ = some (.int .i64 room) ∧ w'.cell? ⟨w.heap.size, 0, none⟩ = some (.int .i64 x.1) ∧ w'.cell? ⟨w.heap.size, 1, none⟩ = some (.int .u32 x.2) ∧ b < w'.heap.size ∧ w.heap.size < w'.heap.size ∧ Below w1.heap.size w1 w' from fun w' hb => by
    have hk := Kept.of_below (F := []) hb (Nat.le_refl _)
    have h3 := hk.blk B2.out (by simp)
    have h4 := BestAt.grow H2.out hb
    exact ⟨h4.room, by rw [h3.cell]; rfl, by rw [h3.cell]; rfl, h4.self.lt, h3.lt, hb⟩)
  have S0 := HS.out w1 (Below.refl _ _)
  clear hR
  obtain ⟨s1, s2, s3, s4, s5, s6⟩ := S0
  go_region_held3 (fun w' => w'.cell? ⟨b, 0, none⟩ = some (.int .i64 room) ∧ w'.cell? ⟨w.heap.size, 0, none⟩ = some (.int .i64 x.1) ∧ w'.cell? ⟨w.heap.size, 1, none⟩ = some (.int .u32 x.2) ∧ b < w'.heap.size ∧ w.heap.size < w'.heap.size ∧ Below w1.heap.size w1 w')
    (first
      | (go_keep; done)
      | exact HS.out _ (Below.refl _ _)
      | exact HS.out _ (Below.refl _ _).drew
      | (go_split_ands; exact HS.out _ (below_on (by assumption) hbel)))
    (first
      | (go_at_call 89; (try go_split_ands); refine (top_any b 1 c 145 _ _ y ys _ (BestAt.grow H2.out (by first | assumption | exact s6.drew))).mono ?_; rintro e w' ⟨rfl, hbel⟩)
      | (go_at_call 77; refine (less_eq x y z HZ _).mono ?_; rintro e w' ⟨rfl, hbel⟩))
  rename_i l4 l3 l2 l1 l0 rr wA hA hH
  have hB := hH.2.2.2.2.2
  have H3 := Lib.hid (BestAt.grow H2.out hB)
  have K3 := Lib.hid (K2.out.trans (Kept.of_below (F := []) hB (Nat.le_refl _)) (by intro q hq; simp at hq))
  have B3 := Lib.hid ((Kept.of_below (F := []) hB (Nat.le_refl _)).blk B2.out (by simp))
  clear l4 l3 l2 l1 l0 rr hA hH hB hbel s1 s2 s3 s4 s5 s6 HS H2 K2 B2
  cases z
  · go_wp2
    go_end0
    exact ⟨rfl, _, by rw [HP.out]; exact H3.out, K3.out, fun k hk => .inl hk⟩
  · have c1 := B3.out.cell 0
    have c2 := B3.out.cell 1
    have l1 := B3.out.lt
    have l2 := H3.out.self.lt
    simp only [List.getElem?_cons_zero, List.getElem?_cons_succ] at c1 c2
    go_wp2_with (fail)
    go_region_with (go_at_call 90; refine (replace_any b 1 c g (y :: ys).length cap 145 _ (y :: ys) x _ (HeapAt.drew H3.out) (by simp) (by omega)).mono ?_; rintro e w2 ⟨rfl, hq, hk⟩)
    all_goals
      have Q1 := Lib.hid hq
      have Q2 := Lib.hid hk
      clear hq hk
      go_wp2
      go_end0
      refine ⟨rfl, _, by rw [HP.out, if_pos (by trivial)]; exact Q1.out, K3.out.drew.trans Q2.out ?_, fun k hk => .inl hk⟩
      intro q hq
      simp at hq
      subst hq
      left
      simp [Value.ownBlock]

set_option maxHeartbeats 1600000 in
theorem put_none (b c : Nat) (v : Value) (x : Hit) (w : World) (h : BestAt w b c 0 v []) :
    Calls Tryz.prog 46 #[.pointer (some ⟨b, 0, none⟩), .agg #[.int .i64 x.1, .int .u32 x.2]] w fun e w' => e = .returned (.tuple #[]) ∧ PutPost b c 0 v [] x w w' := by
  have hp : putH 0 [] x = [] := by simp [putH]
  have HP := Lib.hid hp
  have H1 := Lib.hid (h.kept ((Kept.refl [] _).alloc (.cells #[.int .i64 x.1, .int .u32 x.2] 51)) (by simp) (by simp) (by simp))
  have K1 := Lib.hid ((Kept.refl (b :: v.ownBlock.toList) w).alloc (.cells #[.int .i64 x.1, .int .u32 x.2] 51))
  have c0 := h.room
  have l0 := h.self.lt
  have hd : decide ((0 : Int) < ((0 : Nat) : Int)) = false := by simp
  clear h hp
  go_enter Tryz.func46, Tryz.ntmps46
  go_wp2_with (fail)
  go_quiet ((go_at_call 87; exact len_q b c 0 v [] _ H1.out _))
  go_wp2_with (fail)
  go_quiet (fail)
  go_wp2
  go_end0
  exact ⟨rfl, v, by rw [HP.out]; exact BestAt.kept H1.out ((((Kept.refl [] _).drewN _).drewN _)) (by simp) (by simp) (by simp), (K1.out.drewN _).drewN _, fun k hk => .inl hk⟩

theorem put_any (b c room : Nat) (v : Value) (xs : List Hit) (x : Hit) (w : World) (h : BestAt w b c room v xs) (hs : xs.length < 1000000) (hr : xs.length ≤ room) :
    Calls Tryz.prog 46 #[.pointer (some ⟨b, 0, none⟩), .agg #[.int .i64 x.1, .int .u32 x.2]] w fun e w' => e = .returned (.tuple #[]) ∧ PutPost b c room v xs x w w' := by
  by_cases h1 : xs.length < room
  · exact put_room b c room v xs x w h hs h1
  · cases xs with
    | nil =>
      obtain rfl : room = 0 := by simp at h1; exact h1
      exact put_none b c v x w h
    | cons y ys => exact put_full b c room v y ys x w h hs (by omega)
end Go.Proofs.YtadkfedglkhgjaaGreat
