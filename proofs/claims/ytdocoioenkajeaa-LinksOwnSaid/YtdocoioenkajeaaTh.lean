/-
  The heap's methods, each by a walk over its text.
-/
import Derived.Test.YtdocoioenkajeaaTl
import Derived.Test.YtdocoioenkajeaaBk
import Derived.BigRegion
import Derived.RegionTactic
import Derived.Deep.RegionHeld3
namespace Go.Proofs.Ytdocoioenkajeaa
open Go.RowKit

/-- The order in a heap's second field: the closure over the block c. -/
def fnV (c : Nat) : Value := .func (.func 92) #[] #[.pointer (some ⟨c, 0, none⟩)]

/-- A heap lies in block b from place o on; its hits are xs, its order is that over block c. -/
structure HeapAt (w : World) (b o c : Nat) (t : TypeId) (pre : List Value) (v : Value) (xs : List (Int × Int)) : Prop where
  off : pre.length = o
  typ : t = 108 ∨ t = 110
  self : Blk w b t (pre ++ [v, fnV c])
  fn : Blk w c 56 [.func (.func 38) #[] #[]]
  own : Own w 58 v xs

variable {w : World} {b o c : Nat} {t : TypeId} {pre : List Value} {v : Value} {xs : List (Int × Int)} {w' : World} {g n cap : Nat}
theorem HeapAt.cell0 (h : HeapAt w b o c t pre v xs) : w.cell? ⟨b, o, none⟩ = some v := by
  rw [h.self.cell, ← h.off]; simp
theorem HeapAt.cell1 (h : HeapAt w b o c t pre v xs) : w.cell? ⟨b, o + 1, none⟩ = some (fnV c) := by
  rw [h.self.cell, ← h.off]; simp
theorem HeapAt.ne (h : HeapAt w b o c t pre v xs) {cs : List Value} (hg : Blk w g 58 cs) : b ≠ g ∧ c ≠ g :=
  ⟨h.self.ne hg (by rcases h.typ with e | e <;> rw [e] <;> decide), h.fn.ne hg (by decide)⟩
theorem HeapAt.set (h : HeapAt w b o c t pre (.slice (some ⟨g, 0, none⟩) n cap) xs) (i : Nat) (hi : i < xs.length) (y : Int × Int) :
    HeapAt ((w.setCell ⟨g, i * 2, none⟩ (.int .i64 y.1)).setCell ⟨g, i * 2 + 1, none⟩ (.int .u32 y.2)) b o c t pre (.slice (some ⟨g, 0, none⟩) n cap) (xs.set i y) := by
  obtain ⟨rest, rfl, hb, _⟩ := h.own.blk
  obtain ⟨n1, n2⟩ := h.ne hb
  exact ⟨h.off, h.typ, (h.self.far n1 _).far n1 _, (h.fn.far n2 _).far n2 _, h.own.set i hi y⟩
theorem HeapAt.row (h : HeapAt w b o c t pre v xs) : v.ownBlock ≠ some b ∧ v.ownBlock ≠ some c := by
  rcases h.own.form with ⟨rfl, _⟩ | ⟨g, cap, rest, rfl, hg, _⟩
  · simp [Value.ownBlock]
  · have := h.ne hg
    simp [Value.ownBlock]; omega
/-- A new slice of hits is laid into a heap. -/
theorem HeapAt.lay {w1 : World} {v' : Value} {ys : List Hit} (ho : pre.length = o) (ht : t = 108 ∨ t = 110) (h : Blk w1 b t (pre ++ [v, fnV c])) (hf : Blk w1 c 56 [.func (.func 38) #[] #[]]) (hown : Own w1 58 v' ys) :
    HeapAt (w1.setCell ⟨b, o, none⟩ v') b o c t pre v' ys := by
  have hne : b ≠ c := h.ne hf (by rcases ht with e | e <;> rw [e] <;> decide)
  have hrow : ∀ k, v'.ownBlock = some k → k ≠ b := by
    intro k hk
    rcases hown.form with ⟨rfl, _⟩ | ⟨g, cap, rest, rfl, hg, _⟩
    · simp [Value.ownBlock] at hk
    · simp [Value.ownBlock] at hk
      subst hk
      exact (h.ne hg (by rcases ht with e | e <;> rw [e] <;> decide)).symm
  refine ⟨ho, ht, ?_, hf.far (fun e => hne e.symm) _, ?_⟩
  · have := h.set o v'
    rw [← ho, List.set_append_right _ _ (Nat.le_refl _)] at this
    rw [← ho]
    simpa using this
  · exact Kept.own (F := [b]) ((Kept.refl _ _).setCell _ _ (by simp)) hown (fun k hk => by simpa using hrow k hk)
theorem HeapAt.drew (h : HeapAt w b o c t pre v xs) : HeapAt w.drew b o c t pre v xs := ⟨h.off, h.typ, h.self, h.fn, h.own⟩
theorem HeapAt.kept {F : List Nat} (h : HeapAt w b o c t pre v xs) (hk : Kept F w w') (hb : b ∉ F) (hc : c ∉ F) (hv : ∀ k, v.ownBlock = some k → k ∉ F) : HeapAt w' b o c t pre v xs :=
  ⟨h.off, h.typ, hk.blk h.self hb, hk.blk h.fn hc, h.own.kept hk hv⟩
theorem HeapAt.hit (h : HeapAt w b o c t pre (.slice (some ⟨g, 0, none⟩) n cap) xs) (i : Nat) (hi : i < xs.length) :
    w.cell? ⟨g, i * 2, none⟩ = some (.int .i64 (xs.getD i (0, 0)).1) ∧ w.cell? ⟨g, i * 2 + 1, none⟩ = some (.int .u32 (xs.getD i (0, 0)).2) := by
  obtain ⟨rest, rfl, hb, _⟩ := h.own.blk
  have := flat_len xs
  exact ⟨by rw [hb.cell, List.getElem?_append_left (by omega), flat_fst xs i hi], by rw [hb.cell, List.getElem?_append_left (by omega), flat_snd xs i hi]⟩
theorem HeapAt.grow (h : HeapAt w b o c t pre v xs) (hb : Below w.heap.size w w') : HeapAt w' b o c t pre v xs :=
  h.kept (Kept.of_below (F := []) hb (Nat.le_refl _)) (by simp) (by simp) (by simp)

theorem top_any (b o c : Nat) (t : TypeId) (pre : List Value) (v : Value) (x : Int × Int) (xs : List (Int × Int)) (w : World) (h : HeapAt w b o c t pre v (x :: xs)) :
    Calls Try.prog 62 #[.pointer (some ⟨b, o, none⟩)] w fun e w' => e = .returned (.agg #[.int .i64 x.1, .int .u32 x.2]) ∧ Below w.heap.size w w' := by
  have c0 := h.cell0
  have l0 := h.self.lt
  rcases h.own.form with ⟨_, h1⟩ | ⟨g, cap, rest, rfl, hg, hn, hcap, hlen⟩
  · cases h1
  have l1 := hg.lt
  have c2 : w.cell? ⟨g, 0, none⟩ = some (.int .i64 x.1) := by rw [hg.cell]; simp [flat]
  have c3 : w.cell? ⟨g, 1, none⟩ = some (.int .u32 x.2) := by rw [hg.cell]; simp [flat]
  clear hlen
  go_enter Try.func62, Try.ntmps62
  go_wp2
  refine bodyPost_ret (v := .agg #[.int .i64 x.1, .int .u32 x.2]) (by simp [results, Try.results62, go_sem]) rfl ⟨rfl, ?_⟩
  go_grown

set_option maxHeartbeats 1600000 in
theorem swap_any (b o c g n cap i j : Nat) (t : TypeId) (pre : List Value) (xs : List (Int × Int)) (w : World) (h : HeapAt w b o c t pre (.slice (some ⟨g, 0, none⟩) n cap) xs) (hi : i < xs.length) (hj : j < xs.length) (hij : i ≠ j) :
    Calls Try.prog 89 #[.pointer (some ⟨b, o, none⟩), .int .i64 i, .int .i64 j] w fun e w' => e = .returned (.tuple #[]) ∧ HeapAt w' b o c t pre (.slice (some ⟨g, 0, none⟩) n cap) (swapL xs i j) ∧ Kept [g] w w' := by
  have c0 := h.cell0
  have l0 := h.self.lt
  have f0 := h.self.frozen
  obtain ⟨rest, rfl, hg, hn, hcap, hlen⟩ := h.own.blk
  have l1 := hg.lt
  have lf := flat_len xs
  have c2 : w.cell? ⟨g, i * 2, none⟩ = some (.int .i64 (xs.getD i (0, 0)).1) := by rw [hg.cell, List.getElem?_append_left (by omega), flat_fst xs i hi]
  have c3 : w.cell? ⟨g, i * 2 + 1, none⟩ = some (.int .u32 (xs.getD i (0, 0)).2) := by rw [hg.cell, List.getElem?_append_left (by omega), flat_snd xs i hi]
  have c4 : w.cell? ⟨g, j * 2, none⟩ = some (.int .i64 (xs.getD j (0, 0)).1) := by rw [hg.cell, List.getElem?_append_left (by omega), flat_fst xs j hj]
  have c5 : w.cell? ⟨g, j * 2 + 1, none⟩ = some (.int .u32 (xs.getD j (0, 0)).2) := by rw [hg.cell, List.getElem?_append_left (by omega), flat_snd xs j hj]
  have f2 : ∀ k, w.frozen? ⟨g, k, none⟩ = false := hg.frozen
  unfold swapL
  have H1 := Lib.hid ((h.set i hi (xs.getD j (0, 0))).set j (by simpa using hj) (xs.getD i (0, 0)))
  generalize xs.getD i (0, 0) = x at *
  generalize xs.getD j (0, 0) = y at *
  clear hlen lf hg f0 h
  unfold maxLen at hcap
  go_enter Try.func89, Try.ntmps89
  go_region
  go_end0
  exact ⟨rfl, H1.out.drew, (((((Kept.refl _ _).setCell _ _ (by simp)).setCell _ _ (by simp)).setCell _ _ (by simp)).setCell _ _ (by simp)).drew⟩

theorem above_eq (x y : Hit) (c : Nat) (z : Bool) (hz : Hid (ltH y x = z)) (w : World) (hc : w.cell? ⟨c, 0, none⟩ = some (.func (.func 38) #[] #[])) (hlt : c < w.heap.size) :
    Calls Try.prog 92 #[.agg #[.int .i64 x.1, .int .u32 x.2], .agg #[.int .i64 y.1, .int .u32 y.2], .pointer (some ⟨c, 0, none⟩)] w fun e w' => e = .returned (.bool z) ∧ Below w.heap.size w w' := by
  rw [← hz.out]
  exact above_any x.1 x.2 y.1 y.2 c w hc hlt

/-- What a drawn region that asks the order of two hits must see of a heap. -/
theorem HeapAt.see {ys : List Hit} (H : Hid (HeapAt w b o c t pre (.slice (some ⟨g, 0, none⟩) n cap) ys)) (k m : Nat) (x y : Hit) (hk : k < ys.length) (hm : m < ys.length) (hx : Hid (ys.getD k (0, 0) = x)) (hy : Hid (ys.getD m (0, 0) = y)) (hB : Below w.heap.size w w') :
    w'.cell? ⟨b, o, none⟩ = some (.slice (some ⟨g, 0, none⟩) n cap) ∧ w'.cell? ⟨b, o + 1, none⟩ = some (.func (.func 92) #[] #[.pointer (some ⟨c, 0, none⟩)]) ∧
    w'.cell? ⟨g, k * 2, none⟩ = some (.int .i64 x.1) ∧ w'.cell? ⟨g, k * 2 + 1, none⟩ = some (.int .u32 x.2) ∧ w'.cell? ⟨g, m * 2, none⟩ = some (.int .i64 y.1) ∧ w'.cell? ⟨g, m * 2 + 1, none⟩ = some (.int .u32 y.2) ∧
    w'.cell? ⟨c, 0, none⟩ = some (.func (.func 38) #[] #[]) ∧ b < w'.heap.size ∧ g < w'.heap.size ∧ c < w'.heap.size ∧ Below w.heap.size w w' := by
  have h := H.out.grow hB
  obtain ⟨rest, _, hg, _⟩ := h.own.blk
  obtain ⟨h1, h2⟩ := h.hit k hk
  obtain ⟨h3, h4⟩ := h.hit m hm
  rw [hx.out] at h1 h2
  rw [hy.out] at h3 h4
  exact ⟨h.cell0, h.cell1, h1, h2, h3, h4, by rw [h.fn.cell]; rfl, h.self.lt, hg.lt, h.fn.lt, hB⟩

set_option maxHeartbeats 1600000 in
theorem rise_any (b o c g n cap i : Nat) (t : TypeId) (pre : List Value) (xs : List Hit) (w : World) (h : HeapAt w b o c t pre (.slice (some ⟨g, 0, none⟩) n cap) xs) (hi : i < xs.length) :
    Calls Try.prog 85 #[.pointer (some ⟨b, o, none⟩), .int .i64 i] w fun e w' => e = .returned (.tuple #[]) ∧ HeapAt w' b o c t pre (.slice (some ⟨g, 0, none⟩) n cap) (riseL xs i) ∧ Kept [g] w w' := by
  obtain ⟨rest, rfl, _, hn, hcap, _⟩ := h.own.blk
  unfold maxLen at hcap
  go_enter Try.func85, Try.ntmps85
  go_wp2
  go_loopw [1] (fun i' wr => ∃ (k : Nat) (ys : List Hit), k < xs.length ∧ i' = .int .i64 k ∧ Hid (ys.length = xs.length) ∧ Hid (HeapAt wr b o c t pre (.slice (some ⟨g, 0, none⟩) xs.length cap) ys) ∧ Hid (riseL ys k = riseL xs i) ∧ Kept [g] w wr) (fun i' _ => (intOf i').toNat)
  case atStart => exact ⟨i, xs, hi, rfl, rfl, h, rfl, Kept.refl _ _⟩
  case round =>
    obtain ⟨k, ys, hk, rfl, HL, H, HR, hK⟩ := hrel
    by_cases h0 : k = 0
    · subst h0
      go_wp2
      go_end0
      have e := HR.out
      rw [riseL, dif_neg (by omega)] at e
      exact ⟨rfl, by rw [← e]; exact H, hK⟩
    · obtain ⟨m, hm⟩ : ∃ m, m = (k - 1) / 2 := ⟨_, rfl⟩
      have hm1 : ((k : Int) - 1) / 2 = (m : Int) := by omega
      have hm2 : m < k := by omega
      obtain ⟨x, hx⟩ : ∃ x, ys.getD k (0, 0) = x := ⟨_, rfl⟩
      obtain ⟨y, hy⟩ : ∃ y, ys.getD m (0, 0) = y := ⟨_, rfl⟩
      obtain ⟨z, hz⟩ : ∃ z, ltH y x = z := ⟨_, rfl⟩
      have HX := Lib.hid hx
      have HY := Lib.hid hy
      have HZ := Lib.hid hz
      have HM := Lib.hid hm
      have hl := HL.out
      have hky : k < ys.length := by omega
      have hmy : m < ys.length := by omega
      have hmx : m < xs.length := by omega
      have HS := Lib.hid (fun (w' : World) (hB : Below wr.heap.size wr w') => HeapAt.see H k m x y hky hmy HX HY hB)
      have S0 := HS.out wr (Below.refl _ _)
      clear hx hy hz hm hl
      go_wp2
      rw [hm1]
      obtain ⟨s1, s2, s3, s4, s5, s6, s7, s8, s9, s10, s11⟩ := S0
      go_region_held3 (fun w' => w'.cell? ⟨b, o, none⟩ = some (.slice (some ⟨g, 0, none⟩) xs.length cap) ∧ w'.cell? ⟨b, o + 1, none⟩ = some (.func (.func 92) #[] #[.pointer (some ⟨c, 0, none⟩)]) ∧
          w'.cell? ⟨g, k * 2, none⟩ = some (.int .i64 x.1) ∧ w'.cell? ⟨g, k * 2 + 1, none⟩ = some (.int .u32 x.2) ∧ w'.cell? ⟨g, m * 2, none⟩ = some (.int .i64 y.1) ∧ w'.cell? ⟨g, m * 2 + 1, none⟩ = some (.int .u32 y.2) ∧
          w'.cell? ⟨c, 0, none⟩ = some (.func (.func 38) #[] #[]) ∧ b < w'.heap.size ∧ g < w'.heap.size ∧ c < w'.heap.size ∧ Below wr.heap.size wr w')
        (first
          | (go_keep; done)
          | exact HS.out _ (Below.refl _ _)
          | exact HS.out _ (Below.refl _ _).drew
          | (go_split_ands; exact HS.out _ (below_on (by assumption) hbel)))
        (first
          | (go_at_call 92; refine (above_eq x y c z HZ _ (by assumption) (by assumption)).mono ?_; rintro e w' ⟨rfl, hbel⟩))
      rename_i hH
      have hB := hH.2.2.2.2.2.2.2.2.2.2
      clear s1 s2 s3 s4 s5 s6 s7 s8 s9 s10 s11 hH hbel
      have hr := HR.out
      rw [riseL, dif_pos (by omega), ← HM.out, HX.out, HY.out, HZ.out] at hr
      have HR' := Lib.hid hr
      clear hr HS HX HY HM
      have hgb : Kept [g] w w' := hK.trans (Kept.of_below (F := [g]) hB (Nat.le_refl _)) (Grows.refl _ _)
      cases z
      · have e0 : (!false) = true := rfl
        go_wp2
        have e := HR'.out
        rw [if_neg (by simp)] at e
        refine bodyPost_ret (v := .tuple #[]) (results_none rfl _ _ _) rfl ?_
        exact ⟨rfl, by rw [← e]; exact H.out.grow hB, hgb⟩
      · go_wp2_with (fail)
        refine (swap_any b o c g xs.length cap k m t pre ys w' (H.out.grow hB) hky hmy (by omega)).mono ?_
        rintro e w2 ⟨rfl, h2, k2⟩
        have H2 := Lib.hid h2
        clear h2
        go_wp2
        go_roundw
        case rel =>
          have e := HR'.out
          rw [if_pos (by trivial)] at e
          exact ⟨m, swapL ys k m, by omega, rfl, by have := HL.out; unfold Hid; rw [swapL_len]; exact this, H2.out, e, hgb.trans k2 (Grows.refl _ _)⟩
        case measure => simp [intOf]; omega
end Go.Proofs.Ytdocoioenkajeaa
