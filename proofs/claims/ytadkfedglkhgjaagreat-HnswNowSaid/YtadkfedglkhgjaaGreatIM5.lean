/-
  A walk that is under way: search, reverse, wait, meet, take. (Iz, I1, I2 merged.)
-/
import Derived.Test.YtadkfedglkhgjaaGreatIM1
import Derived.Test.YtadkfedglkhgjaaGreatIM4
import Derived.Test.YtadkfedglkhgjaaGreatTM1
import Derived.Test.YtadkfedglkhgjaaGreatIM3
import Derived.Test.YtadkfedglkhgjaaGreatTr1
namespace Go.Proofs.YtadkfedglkhgjaaGreat
open Go.RowKit

theorem hit_cells {w : World} {a : Option Addr} {n c k : Nat} {xs : List Hit} (h : Own w 51 (.slice a n c) xs) (hk : k < xs.length) : ∃ g, a = some ⟨g, 0, none⟩ ∧ n = xs.length ∧ g < w.heap.size ∧ w.cell? ⟨g, k * 2, none⟩ = some (.int .i64 (xs.getD k (0, 0)).1) ∧ w.cell? ⟨g, k * 2 + 1, none⟩ = some (.int .u32 (xs.getD k (0, 0)).2) := by
  rcases h.form with ⟨h1, h2⟩ | ⟨g, cap, rest, h1, hb, _⟩
  · rw [h2] at hk
    simp at hk
  · simp only [Value.slice.injEq] at h1
    obtain ⟨rfl, rfl, rfl⟩ := h1
    have := flat_len xs
    exact ⟨g, rfl, rfl, hb.lt, by rw [hb.cell, List.getElem?_append_left (by omega), flat_fst xs k hk], by rw [hb.cell, List.getElem?_append_left (by omega), flat_snd xs k hk]⟩

set_option maxRecDepth 100000 in
set_option maxHeartbeats 1600000 in
/-- Is the hit at k, of those that wait, less than h? -/
theorem wait1_any (w : World) (b Bw Bh : Nat) (F mt bp : Value) (a : Option Addr) (n c : Nat) (xs : List Hit) (h : Hit) (hw : Blk w Bw 123 [.pointer (some ⟨b, 0, none⟩)]) (hh : Blk w Bh 51 [.int .i64 h.1, .int .u32 h.2]) (hb : Blk w b 129 [F, mt, .slice a n c, bp])
    (ho : Own w 51 (.slice a n c) xs) (k : Nat) (hk : k < xs.length) (z : Bool) (hz : ltH (xs.getD k (0, 0)) h = z) :
    Calls Tryz.prog 135 #[.int .i64 (k : Int), .pointer (some ⟨Bw, 0, none⟩), .pointer (some ⟨Bh, 0, none⟩)] w fun e w' => e = .returned (.bool z) ∧ Below w.heap.size w w' := by
  obtain ⟨g, rfl, hn, hg, c0, c1⟩ := hit_cells ho hk
  obtain ⟨x, hx⟩ : ∃ x, xs.getD k (0, 0) = x := ⟨_, rfl⟩
  rw [hx] at c0 c1 hz
  have HZ := Lib.hid hz
  have hkn : k < n := by omega
  have HS := Lib.hid (fun (W : World) (hB : Below w.heap.size w W) => show W.cell? ⟨Bw, 0, none⟩ = some (.pointer (some ⟨b, 0, none⟩)) ∧ W.cell? ⟨Bh, 0, none⟩ = some (.int .i64 h.1) ∧ W.cell? ⟨Bh, 1, none⟩ = some (.int .u32 h.2) ∧ W.cell? ⟨b, 2, none⟩ = some (.slice (some ⟨g, 0, none⟩) n c) ∧ W.cell? ⟨g, k * 2, none⟩ = some (.int .i64 x.1) ∧ W.cell? ⟨g, k * 2 + 1, none⟩ = some (.int .u32 x.2) ∧ Bw < W.heap.size ∧ Bh < W.heap.size ∧ b < W.heap.size ∧ g < W.heap.size ∧ Below w.heap.size w W from
    have hk2 := Kept.of_below (F := []) hB (Nat.le_refl _)
    have h1 := hk2.blk hw (by simp)
    have h2 := hk2.blk hh (by simp)
    have h3 := hk2.blk hb (by simp)
    ⟨h1.cell 0, h2.cell 0, h2.cell 1, h3.cell 2, (hB.cell (p := ⟨g, k * 2, none⟩) hg).trans c0, (hB.cell (p := ⟨g, k * 2 + 1, none⟩) hg).trans c1, h1.lt, h2.lt, h3.lt, Nat.lt_of_lt_of_le hg hB.size, hB⟩)
  obtain ⟨s1, s2, s3, s4, s5, s6, s7, s8, s9, s10, s11⟩ := HS.out w (Below.refl _ _)
  clear hw hh hb ho hk hz hx c0 c1 hn hg
  go_enter Tryz.func135, Tryz.ntmps135
  go_wp2
  go_region_held3 (fun W => W.cell? ⟨Bw, 0, none⟩ = some (.pointer (some ⟨b, 0, none⟩)) ∧ W.cell? ⟨Bh, 0, none⟩ = some (.int .i64 h.1) ∧ W.cell? ⟨Bh, 1, none⟩ = some (.int .u32 h.2) ∧ W.cell? ⟨b, 2, none⟩ = some (.slice (some ⟨g, 0, none⟩) n c) ∧ W.cell? ⟨g, k * 2, none⟩ = some (.int .i64 x.1) ∧ W.cell? ⟨g, k * 2 + 1, none⟩ = some (.int .u32 x.2) ∧ Bw < W.heap.size ∧ Bh < W.heap.size ∧ b < W.heap.size ∧ g < W.heap.size ∧ Below w.heap.size w W)
    (first
      | (go_keep; done)
      | exact HS.out _ (Below.refl _ _)
      | exact HS.out _ (Below.refl _ _).drew
      | (go_split_ands; exact HS.out _ (below_on (by assumption) hbel)))
    (first
      | (go_at_call 77; refine (less_eq x h z HZ _).mono ?_; rintro e w' ⟨rfl, hbel⟩))
  rename_i hH
  have hB := hH.2.2.2.2.2.2.2.2.2.2
  clear s1 s2 s3 s4 s5 s6 s7 s8 s9 s10 s11 hH hbel HS
  go_wp2
  go_ret
  exact ⟨rfl, hB⟩

/-- Where something is true first. -/
def FirstT (P : Nat → Bool) (n at_ : Nat) : Prop := at_ ≤ n ∧ (∀ k, k < at_ → P k = false) ∧ ∀ k, at_ ≤ k → k < n → P k = true
set_option maxRecDepth 100000 in
set_option maxHeartbeats 1600000 in
theorem searchW_any (w : World) (n : Nat) (hn : n ≤ 1000000) (Bw Bh : Nat) (P : Nat → Bool) (hP : ∀ i j, i ≤ j → j < n → P i = true → P j = true)
    (hc : ∀ W, Below w.heap.size w W → ∀ (k : Nat), k < n → ∀ z, P k = z → Calls Tryz.prog 135 #[.int .i64 (k : Int), .pointer (some ⟨Bw, 0, none⟩), .pointer (some ⟨Bh, 0, none⟩)] W fun e w' => e = .returned (.bool z) ∧ Below W.heap.size W w') :
    Calls Tryz.prog 134 #[.int .i64 (n : Int), .func (.func 135) #[] #[.pointer (some ⟨Bw, 0, none⟩), .pointer (some ⟨Bh, 0, none⟩)]] w fun e w' => ∃ at_ : Nat, e = .returned (.int .i64 (at_ : Int)) ∧ FirstT P n at_ ∧ Below w.heap.size w w' := by
  have HC := Lib.hid hc
  have HP := Lib.hid hP
  clear hc hP
  go_enter Tryz.func134, Tryz.ntmps134
  go_wp2_with (fail)
  go_loopw [5, 6] (fun s5 s6 wr => ∃ (i j : Nat), s5 = .int .i64 i ∧ s6 = .int .i64 j ∧ i ≤ j ∧ j ≤ n ∧ Hid (∀ k, k < i → P k = false) ∧ Hid (∀ k, j ≤ k → k < n → P k = true) ∧ Hid (Below w.heap.size w wr)) (fun s5 s6 _ => (intOf s6 - intOf s5).toNat)
  case atStart => exact ⟨0, n, rfl, rfl, by omega, by omega, fun k hk => by omega, fun k hk hx => by omega, Below.refl _ _⟩
  case round =>
    obtain ⟨i, j, rfl, rfl, hij, hjn, H1, H2, HB⟩ := hrel
    by_cases hlt : i < j
    · obtain ⟨m, hm⟩ : ∃ m, (i + j) / 2 = m := ⟨_, rfl⟩
      have hm1 : i ≤ m := by omega
      have hm2 : m < j := by omega
      have e1 : IntKind.u64.wrap ((i : Int) + (j : Int)) = (i : Int) + (j : Int) := by rw [IntKind.wrap_u64]; omega
      have e2 : IntKind.u64.wrap (((i : Int) + (j : Int)) / 2) = (m : Int) := by rw [IntKind.wrap_u64]; omega
      have e3 : IntKind.i64.wrap (m : Int) = (m : Int) := by rw [IntKind.wrap_i64]; omega
      have e4 : ((i : Int) + (j : Int)) / 2 = (m : Int) := by omega
      clear hm
      cases hz : P m with
      | true =>
        have CC := Lib.hid (HC.out wr HB.out m (by omega) true hz)
        have N2 := Lib.hid (show ∀ k, m ≤ k → k < n → P k = true from fun k hk hkn => HP.out m k hk hkn hz)
        clear hz
        go_wp2_with (go_at_call 135; refine CC.out.mono ?_; rintro e w2 ⟨rfl, hb2⟩; have B2 := Lib.hid (HB.out.trans (hb2.mono HB.out.size)); clear hb2)
        go_roundw
        case rel => exact ⟨i, m, rfl, rfl, by omega, by omega, H1.out, N2.out, B2.out⟩
        case measure => simp [intOf]; omega
      | false =>
        have CC := Lib.hid (HC.out wr HB.out m (by omega) false hz)
        have N1 := Lib.hid (show ∀ k, k < m + 1 → P k = false from fun k hk => by
          cases hp : P k with
          | false => rfl
          | true =>
            have := HP.out k m (by omega) (by omega) hp
            rw [hz] at this
            cases this)
        clear hz
        go_wp2_with (go_at_call 135; refine CC.out.mono ?_; rintro e w2 ⟨rfl, hb2⟩; have B2 := Lib.hid (HB.out.trans (hb2.mono HB.out.size)); clear hb2)
        go_roundw
        case rel => exact ⟨m + 1, j, by go_num, rfl, by omega, by omega, N1.out, H2.out, B2.out⟩
        case measure => simp [intOf]; omega
    · obtain rfl : i = j := by omega
      go_wp2
      go_ret
      exact ⟨i, rfl, ⟨hjn, H1.out, H2.out⟩, HB.out⟩

/-- The list, so many rounds turned. -/
def revK (xs ys : List Hit) (n k : Nat) : Prop := ys.length = n ∧ ∀ p, p < n → ys.getD p (0, 0) = if p < k ∨ n - 1 - p < k then xs.getD (n - 1 - p) (0, 0) else xs.getD p (0, 0)
theorem revK_end {xs ys : List Hit} {n k : Nat} (h : revK xs ys n k) (hx : xs.length = n) (hk : n ≤ 2 * k + 1) : ys = xs.reverse := by
  apply List.ext_getElem
  · rw [h.1, List.length_reverse, hx]
  · intro p h1 h2
    rw [h.1] at h1
    have := h.2 p h1
    rw [List.getElem_reverse]
    have e1 : ys.getD p (0, 0) = ys[p] := by simp [List.getD, show p < ys.length by rw [h.1]; exact h1]
    rw [← e1, this]
    have e2 : ∀ q (hq : q < xs.length), xs.getD q (0, 0) = xs[q] := fun q hq => by simp [List.getD, hq]
    by_cases hp : p < k ∨ n - 1 - p < k
    · rw [if_pos hp, e2 _ (by omega)]
      congr 1
      omega
    · rw [if_neg hp, e2 _ (by omega)]
      congr 1
      omega
theorem revK_next {xs ys : List Hit} {n k : Nat} (h : revK xs ys n k) (hk : 2 * k + 1 < n) : revK xs (swapL ys k (n - 1 - k)) n (k + 1) := by
  obtain ⟨h1, h2⟩ := h
  refine ⟨by rw [swapL_len, h1], fun p hp => ?_⟩
  unfold swapL
  rw [List.getD_eq_getElem?_getD, List.getElem?_set, List.length_set, List.getElem?_set]
  by_cases hp1 : n - 1 - k = p
  · subst hp1
    rw [if_pos rfl, if_pos (by omega), if_pos (by omega)]
    simp only [Option.getD_some]
    rw [h2 k (by omega), if_neg (by omega)]
    congr 1
    omega
  · rw [if_neg hp1]
    by_cases hp2 : k = p
    · subst hp2
      rw [if_pos rfl, if_pos (by omega), if_pos (by omega)]
      simp only [Option.getD_some]
      rw [h2 (n - 1 - k) (by omega), if_neg (by omega)]
    · rw [if_neg hp2, ← List.getD_eq_getElem?_getD, h2 p hp]
      by_cases hp3 : p < k ∨ n - 1 - p < k
      · rw [if_pos hp3, if_pos (by omega)]
      · rw [if_neg hp3, if_neg (by omega)]

theorem ret_intV {k : IntKind} {a b : Int} (h : a = b) : Value.int k a = .int k b := by rw [h]
set_option maxRecDepth 100000 in
set_option maxHeartbeats 3200000 in
theorem reverse_any (w : World) (a : Option Addr) (n c : Nat) (xs : List Hit) (h : Own w 51 (.slice a n c) xs) (hl : xs.length ≤ 1000000) :
    Calls Tryz.prog 116 #[.slice a n c] w fun e w' => e = .returned (.tuple #[]) ∧ Own w' 51 (.slice a n c) xs.reverse ∧ Kept (ownB (.slice a n c)) w w' := by
  have hxl : xs.length = n := by
    obtain ⟨a', c', e⟩ := h.size
    simp only [Value.slice.injEq] at e
    exact e.2.1.symm
  have hw1 : IntKind.i64.wrap ((n : Int) - 1) = (n : Int) - 1 := by rw [IntKind.wrap_i64]; omega
  have HX := Lib.hid hxl
  have HO := Lib.hid h
  rw [hxl] at hl
  clear h hxl
  go_enter Tryz.func116, Tryz.ntmps116
  go_wp2_with (fail)
  go_loopw [2, 3] (fun s2 s3 wr => ∃ (k : Nat) (ys : List Hit), s2 = .int .i64 (k : Int) ∧ s3 = .int .i64 ((n : Int) - 1 - (k : Int)) ∧ 2 * k ≤ n ∧ Hid (revK xs ys n k) ∧ Hid (Own wr 51 (.slice a n c) ys) ∧ Hid (Kept (ownB (.slice a n c)) w wr)) (fun s2 _ _ => n - (intOf s2).toNat)
  case atStart => exact ⟨0, xs, rfl, by simp, by omega, ⟨HX.out, fun p hp => by rw [if_neg (by omega)]⟩, HO.out, Kept.refl _ _⟩
  case round =>
    obtain ⟨k, ys, rfl, rfl, hk, HR, HW, HK⟩ := hrel
    have hyl := HR.out.1
    by_cases hlt : 2 * k + 1 < n
    · obtain ⟨g, rfl, -, hg, c0, c1⟩ := hit_cells (k := k) HW.out (by omega)
      obtain ⟨g', e, -, -, c2, c3⟩ := hit_cells (k := n - 1 - k) HW.out (by omega)
      cases e
      have ho := HW.out
      obtain ⟨rest, -, hb, -⟩ := ho.blk
      have f2 : ∀ q, wr.frozen? ⟨g, q, none⟩ = false := hb.frozen
      have H1 := Lib.hid (((ho.set k (by omega) (ys.getD (n - 1 - k) (0, 0))).set (n - 1 - k) (by simp; omega) (ys.getD k (0, 0))))
      have H2 := Lib.hid (revK_next HR.out hlt)
      have hj : (n : Int) - 1 - (k : Int) = ((n - 1 - k : Nat) : Int) := by omega
      have hjw : (k : Int) < ((n - 1 - k : Nat) : Int) := by omega
      have hkj : k ≠ n - 1 - k := by omega
      obtain ⟨j, hjj⟩ : ∃ j, n - 1 - k = j := ⟨_, rfl⟩
      rw [hjj] at c2 c3 H1 H2 hj hjw hkj
      unfold swapL at H2
      generalize ys.getD k (0, 0) = x at *
      generalize ys.getD j (0, 0) = y at *
      have hjn : j < n := by omega
      have hkn : k < n := by omega
      have HJ := Lib.hid hjj
      rw [hj]
      clear ho hb hjj hj hyl HR
      have hj1 : IntKind.i64.wrap ((j : Int) - 1) = (j : Int) - 1 := by rw [IntKind.wrap_i64]; omega
      go_wp2_with (fail)
      go_region
      go_wp2
      go_roundw
      case rel =>
        have hj2 := HJ.out
        refine ⟨k + 1, _, by go_num, ret_intV (by omega), by omega, H2.out, H1.out, ?_⟩
        exact HK.out.trans (((((Kept.refl _ wr).drew.setCell _ _ (.inl (mem_ownB.2 rfl))).setCell _ _ (.inl (mem_ownB.2 rfl))).setCell _ _ (.inl (mem_ownB.2 rfl))).setCell _ _ (.inl (mem_ownB.2 rfl))) (Grows.refl _ _)
      case measure => simp [intOf]; omega
    · have hle : ¬ (k : Int) < (n : Int) - 1 - (k : Int) := by omega
      have E := Lib.hid (revK_end HR.out HX.out (by omega))
      clear hyl
      go_wp2
      go_end0
      exact ⟨rfl, by rw [← E.out]; exact HW.out, HK.out⟩

/-- A walk in block b: what is met, what waits (the nearest last), what is best. -/
structure WalkAt (w : World) (lo b : Nat) (hv : Value) (W : Nat) (s : WalkV) (bm bb n : Nat) (vw : Value) (Fb : List Nat) : Prop where
  blk : Blk w b 129 [hv, .map (some bm), vw, .pointer (some ⟨bb, 0, none⟩)]
  met : PlacesAt w bm n (memP s.met)
  waits : OwnB w lo vw s.waits.reverse
  best : SelF w Fb bb W s.best
  hb : lo ≤ b
  hm : lo ≤ bm
  hF : ∀ x ∈ Fb, lo ≤ x
  n1 : b ∉ Fb
  n2 : bm ∉ Fb
  n3 : ∀ x, vw.ownBlock = some x → x ∉ Fb
/-- What a walk's call leaves of all other blocks, and of whom they are. -/
structure Leaves (b bm : Nat) (vw : Value) (Fb : List Nat) (vw' : Value) (Fb' : List Nat) (w w' : World) : Prop where
  size : w.heap.size ≤ w'.heap.size
  keep : ∀ z, z < w.heap.size → z ≠ b → z ≠ bm → z ∉ ownB vw → z ∉ Fb → w'.heap[z]? = w.heap[z]? ∧ z ∉ ownB vw' ∧ z ∉ Fb'
section
variable {w w1 w2 : World} {b bm : Nat} {vw vw1 vw2 : Value} {Fb Fb1 Fb2 : List Nat}
theorem Leaves.below (h : Below w.heap.size w w1) : Leaves b bm vw Fb vw Fb w w1 := ⟨h.size, fun z hz _ _ h3 h4 => ⟨h.block z hz, h3, h4⟩⟩
theorem Leaves.trans (h : Leaves b bm vw Fb vw1 Fb1 w w1) (k : Leaves b bm vw1 Fb1 vw2 Fb2 w1 w2) : Leaves b bm vw Fb vw2 Fb2 w w2 := ⟨Nat.le_trans h.size k.size, fun z hz h1 h2 h3 h4 => by
  have q := h.keep z hz h1 h2 h3 h4
  have r := k.keep z (Nat.lt_of_lt_of_le hz h.size) h1 h2 q.2.1 q.2.2
  exact ⟨r.1.trans q.1, r.2⟩⟩
theorem Leaves.kept {F : List Nat} (h : Kept F w w1) (hF : ∀ z ∈ F, z = b ∨ z = bm ∨ z ∈ ownB vw ∨ z ∈ Fb) (h1 : Grows w (ownB vw) (ownB vw1)) (h2 : Grows w Fb Fb1) : Leaves b bm vw Fb vw1 Fb1 w w1 := ⟨h.size, fun z hz e1 e2 e3 e4 => by
  refine ⟨h.block z hz fun hh => ?_, fun hh => ?_, fun hh => ?_⟩
  · rcases hF z hh with r | r | r | r
    · exact e1 r
    · exact e2 r
    · exact e3 r
    · exact e4 r
  · rcases h1 z hh with r | r
    · exact e3 r
    · omega
  · rcases h2 z hh with r | r
    · exact e4 r
    · omega⟩
end
section
variable {w w' : World} {lo b W bm bb n : Nat} {hv vw : Value} {s : WalkV} {Fb : List Nat}
theorem WalkAt.on (h : WalkAt w lo b hv W s bm bb n vw Fb) (hB : Below w.heap.size w w') : WalkAt w' lo b hv W s bm bb n vw Fb :=
  have hk := Kept.of_below (F := []) hB (Nat.le_refl _)
  { h with
    blk := hk.blk h.blk (by simp)
    met := h.met.on hB
    waits := h.waits.kept hk (by simp)
    best := h.best.grow hB }
end
theorem ins_at {waits : List Hit} {h : Hit} {n at_ : Nat} (ho : InOrder waits) (hn : waits.reverse.length = n) (hf : FirstT (fun k => ltH (waits.reverse.getD k (0, 0)) h) n at_) : waits.reverse.take at_ ++ h :: waits.reverse.drop at_ = (ins h waits).reverse := by
  have hd : waits.reverse.Pairwise fun a b => ltH a b = false := by
    rw [List.pairwise_reverse]
    exact ho
  obtain ⟨h1, h2, h3⟩ := hf
  have e : (waits.reverse.take at_ ++ h :: waits.reverse.drop at_).reverse = ins h waits := by
    refine order_eq ?_ (ins_order _ _ ho) ?_
    · unfold InOrder
      rw [List.pairwise_reverse, List.pairwise_append, List.pairwise_cons]
      have hcut : waits.reverse.take at_ ++ waits.reverse.drop at_ = waits.reverse := List.take_append_drop _ _
      have hd2 := hd
      rw [← hcut, List.pairwise_append] at hd2
      have low : ∀ a ∈ waits.reverse.take at_, ltH a h = false := fun a ha => by
        obtain ⟨i, hi, e⟩ := List.mem_iff_getElem.1 ha
        simp at hi
        have := h2 i (by omega)
        rw [List.getElem_take] at e
        simp only [List.getD_eq_getElem?_getD] at this
        rw [List.getElem?_eq_getElem (by simp; omega), e] at this
        exact this
      have high : ∀ a ∈ waits.reverse.drop at_, ltH a h = true := fun a ha => by
        obtain ⟨i, hi, e⟩ := List.mem_iff_getElem.1 ha
        simp at hi
        simp at hn
        have := h3 (at_ + i) (by omega) (by omega)
        rw [List.getElem_drop] at e
        simp only [List.getD_eq_getElem?_getD] at this
        rw [List.getElem?_eq_getElem (by simp; omega), e] at this
        exact this
      refine ⟨hd2.1, ⟨fun a ha => ltH_asymm (high a ha), hd2.2.1⟩, fun a ha c hc => ?_⟩
      rcases List.mem_cons.1 hc with rfl | hc
      · exact low a ha
      · exact hd2.2.2 a ha c hc
    · refine (List.reverse_perm _).trans (List.Perm.trans ?_ (ins_perm h waits).symm)
      refine List.perm_middle.trans ?_
      rw [List.take_append_drop]
      exact (List.reverse_perm waits).cons h
  rw [← e, List.reverse_reverse]
theorem first_mono {waits : List Hit} {h : Hit} (ho : InOrder waits) : ∀ i j, i ≤ j → j < waits.reverse.length → ltH (waits.reverse.getD i (0, 0)) h = true → ltH (waits.reverse.getD j (0, 0)) h = true := by
  intro i j hij hj hi
  have hd : waits.reverse.Pairwise fun a b => ltH a b = false := by
    rw [List.pairwise_reverse]
    exact ho
  rcases Nat.lt_or_eq_of_le hij with hlt | rfl
  · have h1 := List.pairwise_iff_getElem.1 hd i j (by omega) hj hlt
    have e1 : waits.reverse.getD i (0, 0) = waits.reverse[i]'(by omega) := by simp only [List.getD_eq_getElem?_getD]; rw [List.getElem?_eq_getElem (by omega)]; rfl
    have e2 : waits.reverse.getD j (0, 0) = waits.reverse[j] := by simp only [List.getD_eq_getElem?_getD]; rw [List.getElem?_eq_getElem hj]; rfl
    rw [e1] at hi
    rw [e2]
    cases hc : ltH (waits.reverse[j]) h with
    | true => rfl
    | false =>
      rw [ge_trans h1 hc] at hi
      cases hi
  · exact hi

set_option maxRecDepth 100000 in
set_option maxHeartbeats 3200000 in
theorem wait_any (w : World) (lo b W bm bb n : Nat) (hv vw : Value) (s : WalkV) (Fb : List Nat) (h : WalkAt w lo b hv W s bm bb n vw Fb) (hlo : lo ≤ w.heap.size) (x : Hit) (ho : InOrder s.waits) (hl : s.waits.length ≤ 100000) :
    Calls Tryz.prog 118 #[.pointer (some ⟨b, 0, none⟩), .agg #[.int .i64 x.1, .int .u32 x.2]] w fun e w' => e = .returned (.tuple #[]) ∧ ∃ vw', WalkAt w' lo b hv W ⟨s.met, ins x s.waits, s.best⟩ bm bb n vw' Fb ∧ Below lo w w' ∧ Leaves b bm vw Fb vw' Fb w w' := by
  obtain ⟨a, m, c, rfl⟩ := h.waits.parts11
  have hm : s.waits.reverse.length = m := by
    obtain ⟨a', c', e⟩ := h.waits.own.size
    simp only [Value.slice.injEq] at e
    exact e.2.1.symm
  obtain ⟨w1, hw1⟩ : ∃ w1, (w.alloc (.cells #[.pointer (some ⟨b, 0, none⟩)] 123)).alloc (.cells #[.int .i64 x.1, .int .u32 x.2] 51) = w1 := ⟨_, rfl⟩
  have b1 : Below w.heap.size w w1 := by
    rw [← hw1]
    exact ((Below.refl _ w).alloc (Nat.le_refl _) _).alloc (by simp) _
  have D0 : Blk w1 w.heap.size 123 [.pointer (some ⟨b, 0, none⟩)] := by
    rw [← hw1]
    exact (Blk.new w _ _).alloc _
  have D1 : Blk w1 (w.heap.size + 1) 51 [.int .i64 x.1, .int .u32 x.2] := by
    rw [← hw1]
    have := Blk.new (w.alloc (.cells #[.pointer (some ⟨b, 0, none⟩)] 123)) 51 #[.int .i64 x.1, .int .u32 x.2]
    simpa using this
  have hs1 : w1.heap.size = w.heap.size + 2 := by rw [← hw1]; simp
  have h1 := h.on b1
  have hml : m ≤ 100000 := by rw [← hm]; simpa using hl
  have CS := Lib.hid (searchW_any w1 m (by omega) w.heap.size (w.heap.size + 1) (fun k => ltH (s.waits.reverse.getD k (0, 0)) x) (fun i j hij hj hi => first_mono ho i j hij (by rw [hm]; exact hj) hi) (fun W2 hb2 k hk z hz =>
    have hk2 := Kept.of_below (F := []) hb2 (Nat.le_refl _)
    wait1_any W2 b w.heap.size (w.heap.size + 1) _ _ _ a m c s.waits.reverse x (hk2.blk D0 (by simp)) (hk2.blk D1 (by simp)) (h1.on hb2).blk (h1.on hb2).waits.own k (by rw [hm]; exact hk) z hz))
  have HH := Lib.hid h1
  have HD0 := Lib.hid D0
  have HD1 := Lib.hid D1
  have B1 := Lib.hid b1
  have HM := Lib.hid hm
  have HO := Lib.hid ho
  have HB := Lib.hid h.blk.lt
  have HLW := Lib.hid (fun (k : Nat) (hk : (Value.slice a m c).ownBlock = some k) => (World.ownsRow.lt h.waits k hk).2)
  have s0 : w1.cell? ⟨w.heap.size, 0, none⟩ = some (.pointer (some ⟨b, 0, none⟩)) := D0.cell 0
  have s1 : w1.cell? ⟨b, 2, none⟩ = some (.slice a m c) := h1.blk.cell 2
  have HS1 := Lib.hid hs1
  have hlo1 : lo ≤ w1.heap.size := by omega
  have HLO := Lib.hid hlo
  clear h h1 b1 D0 D1 hm ho hl hs1 hlo
  go_enter Tryz.func118, Tryz.ntmps118
  go_wp2_with (first | (rw [hw1]) | fail)
  refine CS.out.mono ?_
  rintro e w2 ⟨k, rfl, hft, hb2⟩
  have H2 := HH.out.on hb2
  have E0 := (Kept.of_below (F := []) hb2 (Nat.le_refl _)).blk HD0.out (by simp)
  have E1 := (Kept.of_below (F := []) hb2 (Nat.le_refl _)).blk HD1.out (by simp)
  have hsz2 := hb2.size
  have b3 := (Below.refl w2.heap.size w2).drew.alloc (Nat.le_refl _) (.cells #[.int .i64 x.1, .int .u32 x.2] 51)
  have H3 := H2.on b3
  have F0 := (Kept.of_below (F := []) b3 (Nat.le_refl _)).blk E0 (by simp)
  have CI := Lib.hid (insert_any (w2.drew.alloc (.cells #[.int .i64 x.1, .int .u32 x.2] 51)) lo m c k w2.heap.size a x s.waits.reverse H3.waits hft.1 (Blk.new w2.drew _ _) (fun hh => by
    have := HLW.out w2.heap.size hh
    have := B1.out.size
    omega) (by rw [HM.out]; omega) (by simp; omega))
  rw [ins_at HO.out HM.out hft] at CI
  have d0 : w2.cell? ⟨w.heap.size, 0, none⟩ = some (.pointer (some ⟨b, 0, none⟩)) := E0.cell 0
  have d1 : w2.cell? ⟨b, 2, none⟩ = some (.slice a m c) := H2.blk.cell 2
  have d2 : w2.cell? ⟨w.heap.size + 1, 0, none⟩ = some (.int .i64 x.1) := E1.cell 0
  have d3 : w2.cell? ⟨w.heap.size + 1, 1, none⟩ = some (.int .u32 x.2) := E1.cell 1
  have l0 := E0.lt
  have l1 := E1.lt
  have l2 := H2.blk.lt
  have HFIN := Lib.hid (fun (v5 : Value) (w5 : World) (hown : OwnB w5 lo v5 (ins x s.waits).reverse) (hk : Kept (ownB (.slice a m c)) (w2.drew.alloc (.cells #[.int .i64 x.1, .int .u32 x.2] 51)) w5) (hg : Grows (w2.drew.alloc (.cells #[.int .i64 x.1, .int .u32 x.2] 51)) (ownB (.slice a m c)) (ownB v5)) =>
    show WalkAt (w5.setCell ⟨b, 2, none⟩ v5) lo b hv W ⟨s.met, ins x s.waits, s.best⟩ bm bb n v5 Fb ∧ (Below lo w (w5.setCell ⟨b, 2, none⟩ v5) ∧ Leaves b bm (.slice a m c) Fb v5 Fb w (w5.setCell ⟨b, 2, none⟩ v5)) ∧ w5.cell? ⟨b, 2, none⟩ = some (.slice a m c) ∧ w5.frozen? ⟨b, 2, none⟩ = false ∧ w5.cell? ⟨w.heap.size, 0, none⟩ = some (.pointer (some ⟨b, 0, none⟩)) ∧ w.heap.size < w5.heap.size from by
      have hbF : ∀ y ∈ ownB (Value.slice a m c), y ≠ b ∧ y ≠ bm ∧ y ∉ Fb := fun y hy => by
        have hy := mem_ownB.1 hy
        refine ⟨fun e => ?_, fun e => ?_, H3.n3 y hy⟩
        · subst e
          exact row_not_blk H3.waits H3.blk (by decide) hy
        · subst e
          exact H3.met.not_row H3.waits hy
      have hb5 : v5.ownBlock ≠ some b := fun hh => by
        rcases hg b (mem_ownB.2 hh) with h6 | h6
        · exact (hbF b h6).1 rfl
        · have := H3.blk.lt
          omega
      have k6 : Kept [b] w5 (w5.setCell ⟨b, 2, none⟩ v5) := (Kept.refl [b] w5).setCell _ _ (.inl (by simp))
      have hblk5 : Blk w5 b 129 [hv, .map (some bm), .slice a m c, .pointer (some ⟨bb, 0, none⟩)] := hk.blk H3.blk fun hh => (hbF b hh).1 rfl
      have hF5 := hk.blk F0 fun hh => row_not_blk H3.waits F0 (by decide) (mem_ownB.1 hh)
      refine ⟨⟨hblk5.set 2 v5, (H3.met.kept hk fun hh => (hbF bm hh).2.1 rfl).kept k6 ?_, hown.kept k6 fun y hy hh => ?_, (H3.best.kept hk fun y hy hh => (hbF y hh).2.2 hy).kept k6 fun y hy hh => ?_, H3.hb, H3.hm, H3.hF, H3.n1, H3.n2, fun y hy hh => ?_⟩, ⟨?_, ?_⟩, hblk5.cell 2, hblk5.frozen 2, hF5.cell 0, hF5.lt⟩
      · simp
        exact fun e => H3.met.not_blk H3.blk e.symm
      · simp at hh
        subst hh
        exact hb5 hy
      · simp at hh
        subst hh
        exact H3.n1 hy
      · rcases hg y (mem_ownB.2 hy) with h6 | h6
        · exact (hbF y h6).2.2 hh
        · have := H3.best.lt y hh
          omega
      · have q0 := HLO.out
        have q1 : Below lo w w2 := (B1.out.trans (hb2.mono B1.out.size)).mono q0
        have q2 := q1.trans (b3.mono (by omega))
        have q3 := q2.trans (hk.below (fun y hy => (World.ownsRow.lt H3.waits y (mem_ownB.1 hy)).1) (by simp; omega))
        exact q3.setCell (p := ⟨b, 2, none⟩) H3.hb v5
      · have r1 : Leaves b bm (.slice a m c) Fb (.slice a m c) Fb w _ := Leaves.below (B1.out.trans ((hb2.mono B1.out.size).trans (b3.mono (Nat.le_trans B1.out.size hsz2))))
        have r2 : Leaves b bm (.slice a m c) Fb v5 Fb _ w5 := Leaves.kept hk (fun z hz => .inr (.inr (.inl hz))) hg (Grows.refl _ _)
        have r3 : Leaves b bm v5 Fb v5 Fb w5 (w5.setCell ⟨b, 2, none⟩ v5) := Leaves.kept k6 (fun z hz => .inl (by simpa using hz)) (Grows.refl _ _) (Grows.refl _ _)
        exact (r1.trans r2).trans r3)
  clear hft hb2 H2 E0 E1 b3 H3 F0 s0 s1 CS
  go_wp2_with (fail)
  go_region_law (rw [if_pos (by rfl)]; go_simp; go_at_call 136; refine CI.out.mono ?_; rintro e w5 ⟨v5, rfl, i1, i2, i3⟩; obtain ⟨a5, n5, c5, rfl⟩ := i1.parts11; obtain ⟨ff1, ff2, p1, p2, p3, p4⟩ := HFIN.out _ w5 i1 i2 i3; have FF := Lib.hid (And.intro ff1 ff2); clear i1 i2 i3 ff1 ff2)
  all_goals
    go_wp2
    go_end0
    exact ⟨rfl, _, FF.out.1, FF.out.2⟩

section
variable {w w' : World} {lo b W bm bb n : Nat} {hv vw : Value} {s : WalkV} {Fb : List Nat}
theorem WalkAt.put_met (h : WalkAt w lo b hv W s bm bb n vw Fb) {n' : Nat} {met : List Nat} (hp : PlacesAt w' bm n' (memP met)) (hk : Kept [bm] w w') : WalkAt w' lo b hv W ⟨met, s.waits, s.best⟩ bm bb n' vw Fb where
  blk := hk.blk h.blk (by simp; exact fun e => h.met.not_blk h.blk e)
  met := hp
  waits := h.waits.kept hk fun x hx hh => by
    simp at hh
    subst hh
    exact h.met.not_row h.waits hx
  best := h.best.kept hk fun x hx hh => by
    simp at hh
    subst hh
    exact h.n2 hx
  hb := h.hb
  hm := h.hm
  hF := h.hF
  n1 := h.n1
  n2 := h.n2
  n3 := h.n3
theorem WalkAt.put_best (h : WalkAt w lo b hv W s bm bb n vw Fb) {F' : List Nat} {best : List Hit} (hs : SelF w' F' bb W best) (hk : Kept Fb w w') (hg : Grows w Fb F') (hlo : lo ≤ w.heap.size) : WalkAt w' lo b hv W ⟨s.met, s.waits, best⟩ bm bb n vw F' where
  blk := hk.blk h.blk h.n1
  met := h.met.kept hk h.n2
  waits := h.waits.kept hk fun x hx => h.n3 x hx
  best := hs
  hb := h.hb
  hm := h.hm
  hF := fun x hx => by
    rcases hg x hx with h1 | h1
    · exact h.hF x h1
    · omega
  n1 := fun hh => by
    rcases hg b hh with h1 | h1
    · exact h.n1 h1
    · have := h.blk.lt
      omega
  n2 := fun hh => by
    rcases hg bm hh with h1 | h1
    · exact h.n2 h1
    · have := h.met.lt
      omega
  n3 := fun x hx hh => by
    rcases hg x hh with h1 | h1
    · exact h.n3 x hx h1
    · have := (World.ownsRow.lt h.waits x hx).2
      omega
end
/-- What a call of a walk's leaves. -/
def WalkPost (lo b : Nat) (hv : Value) (W : Nat) (s : WalkV) (bm bb n : Nat) (w : World) (vw0 : Value) (Fb0 : List Nat) (v : Value) (e : Ending) (w' : World) : Prop :=
  e = .returned v ∧ ∃ vw Fb, WalkAt w' lo b hv W s bm bb n vw Fb ∧ Below lo w w' ∧ Leaves b bm vw0 Fb0 vw Fb w w'
theorem reverse_cons_len {c : Hit} {ws : List Hit} : (c :: ws).reverse.length = ws.length + 1 := by simp

set_option maxRecDepth 100000 in
set_option maxHeartbeats 3200000 in
theorem take_any (w : World) (lo b W bm bb n : Nat) (hv vw : Value) (met : List Nat) (c : Hit) (ws best : List Hit) (Fb : List Nat) (h : WalkAt w lo b hv W ⟨met, c :: ws, best⟩ bm bb n vw Fb) (hlo : lo ≤ w.heap.size) (hl : ws.length ≤ 100000) :
    Calls Tryz.prog 75 #[.pointer (some ⟨b, 0, none⟩)] w (WalkPost lo b hv W ⟨met, ws, best⟩ bm bb n w vw Fb (.agg #[.int .i64 c.1, .int .u32 c.2])) := by
  have hrev : (c :: ws).reverse = ws.reverse ++ [c] := by simp
  have ho := h.waits
  rw [hrev] at ho
  rcases ho.own.form with ⟨h1, h2⟩ | ⟨g, cap, rest, rfl, hb, hn1, hn2, hn3⟩
  · simp at h2
  have hlen : (ws.reverse ++ [c]).length = ws.length + 1 := by simp
  have hgl := (World.ownsRow.lt ho g rfl)
  have c0 : w.cell? ⟨g, ws.length * 2, none⟩ = some (.int .i64 c.1) := by
    have := flat_fst (ws.reverse ++ [c]) ws.length (by simp)
    have h3 := flat_len (ws.reverse ++ [c])
    rw [hb.cell, List.getElem?_append_left (by rw [h3, hlen]; omega), this]
    simp [List.getD]
  have c1 : w.cell? ⟨g, ws.length * 2 + 1, none⟩ = some (.int .u32 c.2) := by
    have := flat_snd (ws.reverse ++ [c]) ws.length (by simp)
    have h3 := flat_len (ws.reverse ++ [c])
    rw [hb.cell, List.getElem?_append_left (by rw [h3, hlen]; omega), this]
    simp [List.getD]
  have hown : OwnB w lo (.slice (some ⟨g, 0, none⟩) ws.length cap) ws.reverse := by
    have h3 := (flat_app ws.reverse [c])
    rw [h3, List.append_assoc] at hb hn3
    have e : ws.length = ws.reverse.length := by simp
    rw [e]
    exact OwnB.mk11 hb hgl.1 (by simp; omega) hn2 hn3
  rw [hlen] at hn1
  obtain ⟨m, hm⟩ : ∃ m, ws.length = m := ⟨_, rfl⟩
  obtain ⟨w2, hw2⟩ : ∃ w2, (w.alloc (.cells #[.int .i64 0, .int .u32 0] 51)).alloc (.cells #[.int .i64 c.1, .int .u32 c.2] 51) = w2 := ⟨_, rfl⟩
  obtain ⟨w1, hw1⟩ : ∃ w1, w.alloc (.cells #[.int .i64 0, .int .u32 0] 51) = w1 := ⟨_, rfl⟩
  have b1 : Below w.heap.size w w1 := by rw [← hw1]; exact (Below.refl _ w).alloc (Nat.le_refl _) _
  have D1 : Blk w1 w.heap.size 51 [.int .i64 0, .int .u32 0] := by rw [← hw1]; exact Blk.new _ _ _
  have hs1 : w1.heap.size = w.heap.size + 1 := by rw [← hw1]; simp
  rw [hw1] at hw2
  have b2 : Below w1.heap.size w1 w2 := by rw [← hw2]; exact (Below.refl _ w1).alloc (Nat.le_refl _) _
  have D2 : Blk w2 w.heap.size 51 [.int .i64 0, .int .u32 0] := (Kept.of_below (F := []) b2 (Nat.le_refl _)).blk D1 (by simp)
  have X2 : Blk w2 (w.heap.size + 1) 51 [.int .i64 c.1, .int .u32 c.2] := by rw [← hw2, ← hs1]; exact Blk.new _ _ _
  have b12 : Below w.heap.size w w2 := b1.trans (b2.mono b1.size)
  have h2 := h.on b12
  have hk1 := Kept.of_below (F := []) b1 (Nat.le_refl _)
  have e1 : w1.cell? ⟨b, 2, none⟩ = some (.slice (some ⟨g, 0, none⟩) (ws.reverse ++ [c]).length cap) := (hk1.blk h.blk (by simp)).cell 2
  have e2 : w2.cell? ⟨b, 2, none⟩ = some (.slice (some ⟨g, 0, none⟩) (ws.reverse ++ [c]).length cap) := h2.blk.cell 2
  rw [hlen, hm] at e1 e2
  have c0' : w1.cell? ⟨g, m * 2, none⟩ = some (.int .i64 c.1) := by rw [← hm]; exact (b1.cell (p := ⟨g, ws.length * 2, none⟩) hgl.2).trans c0
  have c1' : w1.cell? ⟨g, m * 2 + 1, none⟩ = some (.int .u32 c.2) := by rw [← hm]; exact (b1.cell (p := ⟨g, ws.length * 2 + 1, none⟩) hgl.2).trans c1
  obtain ⟨w3, hw3⟩ : ∃ w3, w2.setCell ⟨b, 2, none⟩ (.slice (some ⟨g, 0, none⟩) m cap) = w3 := ⟨_, rfl⟩
  have hbl := h.blk.lt
  have k3 : Kept [b] w2 w3 := by rw [← hw3]; exact (Kept.refl [b] w2).setCell _ _ (.inl (by simp))
  have D3 : Blk w3 w.heap.size 51 [.int .i64 0, .int .u32 0] := k3.blk D2 (by simp; omega)
  have X3 : Blk w3 (w.heap.size + 1) 51 [.int .i64 c.1, .int .u32 c.2] := k3.blk X2 (by simp; omega)
  have FF := Lib.hid (two_set (B := lo) (.int .i64 c.1) (.int .u32 c.2) D3 (w := w) ((b12.mono hlo).trans (k3.below (by simp; exact h.hb) (by have := b12.size; omega))) hlo)
  have hkf : Kept [w.heap.size] w3 ((w3.setCell ⟨w.heap.size, 0, none⟩ (.int .i64 c.1)).setCell ⟨w.heap.size, 1, none⟩ (.int .u32 c.2)) := ((Kept.refl [w.heap.size] w3).setCell _ _ (.inl (by simp))).setCell _ _ (.inl (by simp))
  have HW := Lib.hid (show WalkAt ((w3.setCell ⟨w.heap.size, 0, none⟩ (.int .i64 c.1)).setCell ⟨w.heap.size, 1, none⟩ (.int .u32 c.2)) lo b hv W ⟨met, ws, best⟩ bm bb n (.slice (some ⟨g, 0, none⟩) m cap) Fb from by
    have hb3 : Blk w3 b 129 [hv, .map (some bm), .slice (some ⟨g, 0, none⟩) m cap, .pointer (some ⟨bb, 0, none⟩)] := by rw [← hw3]; exact h2.blk.set 2 _
    have hgb : g ≠ b := fun e => by
      subst e
      exact row_not_blk h.waits h.blk (by decide) rfl
    have ko := hown.kept (Kept.of_below (F := []) b12 (Nat.le_refl _)) (by simp)
    rw [hm] at ko
    exact ⟨hkf.blk hb3 (by simp; omega), (h2.met.kept k3 (by simp; exact fun e => h.met.not_blk h.blk e.symm)).kept hkf (by simp; have := h.met.lt; omega), (ko.kept k3 (fun x hx hh => by simp at hh; subst hh; simp [Value.ownBlock] at hx; exact hgb hx)).kept hkf (fun x hx hh => by simp [Value.ownBlock] at hx; simp at hh; omega), (h2.best.kept k3 (fun x hx hh => by simp at hh; subst hh; exact h.n1 hx)).kept hkf (fun x hx hh => by simp at hh; subst hh; have := h.best.lt _ hx; omega), h.hb, h.hm, h.hF, h.n1, h.n2, fun x hx => h.n3 x hx⟩)
  have HLV := Lib.hid (show Leaves b bm (.slice (some ⟨g, 0, none⟩) (ws.reverse ++ [c]).length cap) Fb (.slice (some ⟨g, 0, none⟩) m cap) Fb w ((w3.setCell ⟨w.heap.size, 0, none⟩ (.int .i64 c.1)).setCell ⟨w.heap.size, 1, none⟩ (.int .u32 c.2)) from by
    have hsz := b12.size
    refine ⟨Nat.le_trans hsz (Nat.le_trans k3.size hkf.size), fun z hz e1 e2 e3 e4 => ⟨?_, e3, e4⟩⟩
    exact (hkf.block z (Nat.lt_of_lt_of_le hz (Nat.le_trans hsz k3.size)) (by simp; omega)).trans ((k3.block z (Nat.lt_of_lt_of_le hz hsz) (by simp; exact e1)).trans (b12.block z hz)))
  have f2 := h2.blk.frozen 2
  have y0 : w3.cell? ⟨w1.heap.size, 0, none⟩ = some (.int .i64 c.1) := by rw [hs1]; exact X3.cell 0
  have y1 : w3.cell? ⟨w1.heap.size, 1, none⟩ = some (.int .u32 c.2) := by rw [hs1]; exact X3.cell 1
  have z0 : w3.cell? ⟨w.heap.size, 0, none⟩ = some (.int .i64 0) := D3.cell 0
  have z1 : w3.cell? ⟨w.heap.size, 1, none⟩ = some (.int .u32 0) := D3.cell 1
  have z2 := D3.frozen 0
  have z3 := D3.frozen 1
  have hsub : IntKind.i64.wrap (((m + 1 : Nat) : Int) - 1) = (m : Int) := by rw [IntKind.wrap_i64]; omega
  have hmc : m ≤ cap := by omega
  have hmx : m ≤ 100000 := by omega
  have HCAP := Lib.hid hn2
  have HS1 := Lib.hid hs1
  have hb1 : b < w1.heap.size := by omega
  have hb2' : b < w2.heap.size := by have := b2.size; omega
  clear h ho hb hown hrev hlen hgl c0 c1 hn1 hn2 hn3 b1 D1 b2 D2 X2 b12 h2 hk1 k3 D3 X3 hkf hm hs1 hlo hl hbl
  go_enter Tryz.func75, Tryz.ntmps75
  go_wp2_with (first | (rw [hw1]) | (rw [hw2]) | (rw [hw3]) | fail)
  refine bodyPost_ret (results_cell_row rfl _ _ w.heap.size 51 #[.int .i64 c.1, .int .u32 c.2] (0, 0) _ rfl FF.out.1 Tryz.underlying51 rfl hit_szI) rfl ?_
  exact ⟨rfl, _, _, HW.out, FF.out.2, HLV.out⟩

set_option maxRecDepth 100000 in
set_option maxHeartbeats 6400000 in
theorem meet_any {okI : Nat → Prop} {w0 : World} {glo g m : Nat} {u : Value} {L : List NodeL} (hG : GrM okI w0 glo g m u L) (hm : m < 256) (qa : Option Addr) (qn qc : Nat) (q : List Int) (hq : Reads .i32 w0 qa qn q) (w : World) (b W bm bb n : Nat) (vw : Value) (s : WalkV) (Fb : List Nat)
    (hb0 : Below w0.heap.size w0 w) (h : WalkAt w w0.heap.size b (.func (.func 132) #[.agg #[.pointer (some ⟨g, 0, none⟩), .slice qa qn qc]] #[]) W s bm bb n vw Fb) (j : Nat) (hj : j < L.length) (hn : n ≤ 900000000000) (hwo : InOrder s.waits) (hwl : s.waits.length ≤ 100000) (hbl : s.best.length ≤ W) (hW : W ≤ 256) :
    Calls Tryz.prog 79 #[.pointer (some ⟨b, 0, none⟩), .int .i64 (j : Int)] w (WalkPost w0.heap.size b (.func (.func 132) #[.agg #[.pointer (some ⟨g, 0, none⟩), .slice qa qn qc]] #[]) W ((graphV m L).meet q W s j) bm bb (n + 1) w vw Fb (.tuple #[])) := by
  have hfew := hG.few
  obtain ⟨G, hGe⟩ : ∃ G, graphV m L = G := ⟨_, rfl⟩
  have CA := Lib.hid (add_any w bm n (memP s.met) h.met (by omega) j (by omega))
  have c1 : w.cell? ⟨b, 1, none⟩ = some (.map (some bm)) := h.blk.cell 1
  by_cases hmem : j ∈ s.met
  · have HE := Lib.hid (show G.meet q W s j = s from by unfold GraphV.meet; rw [if_pos hmem])
    have hp : memP s.met j = true := decide_eq_true hmem
    have HM := Lib.hid (memP_old hmem)
    unfold AddPost at CA
    rw [hp] at CA
    have HH := Lib.hid h
    have HB0 := Lib.hid hb0
    rw [hGe]
    clear h hG hb0 hmem hp hq hGe hwo
    go_enter Tryz.func79, Tryz.ntmps79
    go_wp2_with (go_at_call 115; refine CA.out.mono ?_; rintro e w2 ⟨rfl, h5, h6⟩; have H5 := Lib.hid h5; have H6 := Lib.hid h6; clear h5 h6)
    go_end0
    have h5 := H5.out
    rw [HM.out] at h5
    exact ⟨rfl, vw, Fb, by rw [HE.out]; exact HH.out.put_met h5 H6.out, H6.out.below (by simp; exact HH.out.hm) HB0.out.size, Leaves.kept H6.out (fun z hz => .inr (.inl (by simpa using hz))) (Grows.refl _ _) (Grows.refl _ _)⟩
  · have hp : memP s.met j = false := decide_eq_false hmem
    have HM := Lib.hid (memP_new s.met j)
    unfold AddPost at CA
    rw [hp] at CA
    obtain ⟨d, hd⟩ : ∃ d, (G.hit q j).1 = d := ⟨_, rfl⟩
    have HD := Lib.hid (show G.hit q j = (d, (j : Int)) from Prod.ext hd rfl)
    have CH := Lib.hid (fun (X : World) (hb : Below w0.heap.size w0 X) => hit_any (hG.on hb) hm qa qn qc q (hq.below (Nat.le_refl _) hb) j hj d (by rw [hGe]; exact hd))
    obtain ⟨full, hfull⟩ : ∃ full, decide (s.best.length = W) = full := ⟨_, rfl⟩
    obtain ⟨y, hy⟩ : ∃ y, lastL s.best = y := ⟨_, rfl⟩
    obtain ⟨less, hless⟩ : ∃ less, ltH (d, (j : Int)) y = less := ⟨_, rfl⟩
    have HH := Lib.hid h
    have HB0 := Lib.hid hb0
    have HMM := Lib.hid (show G.meet q W s j = if full = false ∨ less = true then ⟨s.met ++ [j], ins (d, (j : Int)) s.waits, (ins (d, (j : Int)) s.best).take W⟩ else ⟨s.met ++ [j], s.waits, s.best⟩ from by
      unfold GraphV.meet
      rw [if_neg hmem, HD.out, hy, hless]
      have e : (s.best.length < W) ↔ full = false := by
        rw [← hfull, decide_eq_false_iff_not]
        omega
      simp only [e])
    rw [hGe]
    have HF := Lib.hid hfull
    have HY := Lib.hid hy
    have HL := Lib.hid hless
    have HWO := Lib.hid hwo
    have c0 : w.cell? ⟨b, 0, none⟩ = some (.func (.func 132) #[.agg #[.pointer (some ⟨g, 0, none⟩), .slice qa qn qc]] #[]) := h.blk.cell 0
    clear h hG hb0 hmem hp hq hGe hwo hd hfull hy hless
    go_enter Tryz.func79, Tryz.ntmps79
    go_wp2_with (fail)
    refine CA.out.mono ?_
    rintro e w2 ⟨rfl, h5, h6⟩
    rw [HM.out] at h5
    have hw2 := HH.out.put_met h5 h6
    have B2 := Lib.hid (show Below w0.heap.size w w2 from h6.below (by simp; exact HH.out.hm) HB0.out.size)
    have H2 := Lib.hid hw2
    have L2 := Lib.hid (show Leaves b bm vw Fb vw Fb w w2 from Leaves.kept h6 (fun z hz => .inr (.inl (by simpa using hz))) (Grows.refl _ _) (Grows.refl _ _))
    have C3 := Lib.hid (CH.out w2 (HB0.out.trans B2.out))
    have p0 : w2.cell? ⟨b, 0, none⟩ = some (.func (.func 132) #[.agg #[.pointer (some ⟨g, 0, none⟩), .slice qa qn qc]] #[]) := hw2.blk.cell 0
    clear h5 h6 hw2 c0 c1
    go_wp2_with (fail)
    refine C3.out.mono ?_
    rintro e w3 ⟨rfl, hb3⟩
    obtain ⟨w4, hw4⟩ : ∃ w4, w3.alloc (.cells #[.int .i64 d, .int .u32 (j : Int)] 51) = w4 := ⟨_, rfl⟩
    have b4 : Below w2.heap.size w2 w4 := by rw [← hw4]; exact hb3.alloc hb3.size _
    have X4 : Blk w4 w3.heap.size 51 [.int .i64 d, .int .u32 (j : Int)] := by rw [← hw4]; exact Blk.new _ _ _
    have h4 := H2.out.on b4
    have CW := Lib.hid (sel_worst Fb bb W s.best w4 h4.best full HF y HY)
    have p3 : w4.cell? ⟨b, 3, none⟩ = some (.pointer (some ⟨bb, 0, none⟩)) := h4.blk.cell 3
    have B4 := Lib.hid (B2.out.trans (b4.mono (Nat.le_trans HB0.out.size B2.out.size)))
    have H4 := Lib.hid h4
    have L4 := Lib.hid (L2.out.trans (Leaves.below (vw := vw) (Fb := Fb) (b := b) (bm := bm) b4))
    have HX4 := Lib.hid X4
    have hsz3 : w2.heap.size ≤ w3.heap.size := hb3.size
    have hz4 : w4.heap.size = w3.heap.size + 1 := by rw [← hw4]; simp
    clear b4 h4 X4 hb3 C3 CA CH
    go_wp2_with (first | (rw [hw4]) | fail)
    clear p0 hw4
    refine CW.out.mono ?_
    rintro e w5 ⟨rfl, hb5⟩
    obtain ⟨w6, hw6⟩ : ∃ w6, w5.alloc (.cells #[.int .i64 y.1, .int .u32 y.2] 51) = w6 := ⟨_, rfl⟩
    have b6 : Below w4.heap.size w4 w6 := by rw [← hw6]; exact hb5.alloc hb5.size _
    have Y6 : Blk w6 w5.heap.size 51 [.int .i64 y.1, .int .u32 y.2] := by rw [← hw6]; exact Blk.new _ _ _
    have X6 : Blk w6 w3.heap.size 51 [.int .i64 d, .int .u32 (j : Int)] := (Kept.of_below (F := []) b6 (Nat.le_refl _)).blk HX4.out (by simp)
    have H6 := Lib.hid (H4.out.on b6)
    have L6 := Lib.hid (L4.out.trans (Leaves.below (vw := vw) (Fb := Fb) (b := b) (bm := bm) b6))
    have B6 := Lib.hid (B4.out.trans (b6.mono (Nat.le_trans HB0.out.size B4.out.size)))
    have x0 : w6.cell? ⟨w3.heap.size, 0, none⟩ = some (.int .i64 d) := X6.cell 0
    have x1 : w6.cell? ⟨w3.heap.size, 1, none⟩ = some (.int .u32 (j : Int)) := X6.cell 1
    have y0 : w6.cell? ⟨w5.heap.size, 0, none⟩ = some (.int .i64 y.1) := Y6.cell 0
    have y1 : w6.cell? ⟨w5.heap.size, 1, none⟩ = some (.int .u32 y.2) := Y6.cell 1
    have l3 : w3.heap.size < w6.heap.size := X6.lt
    have HX6 := Lib.hid X6
    have hlo6 := Nat.le_trans HB0.out.size B6.out.size
    have HWL := Lib.hid hwl
    have p6 : w6.cell? ⟨b, 3, none⟩ = some (.pointer (some ⟨bb, 0, none⟩)) := H6.out.blk.cell 3
    clear b6 Y6 X6 hb5 CW H4 B4 HX4 p3
    cases full with
    | false =>
      go_wp2_with (first | (rw [hw6]) | fail)
      clear hw6 y0 y1 x0 x1 p6
      have x0 : w6.cell? ⟨w3.heap.size, 0, none⟩ = some (.int .i64 d) := HX6.out.cell 0
      have x1 : w6.cell? ⟨w3.heap.size, 1, none⟩ = some (.int .u32 (j : Int)) := HX6.out.cell 1
      have p6 : w6.cell? ⟨b, 3, none⟩ = some (.pointer (some ⟨bb, 0, none⟩)) := H6.out.blk.cell 3
      have CP := Lib.hid (sel_put Fb bb W s.best (d, (j : Int)) w6.drew (H6.out.on ((Below.refl w6.heap.size w6).drew)).best (by omega))
      go_region_with (go_at_call 46; refine CP.out.mono ?_; rintro e w8 ⟨rfl, F8, hs8, hk8, hg8⟩; have H8 := Lib.hid ((H6.out.on ((Below.refl w6.heap.size w6).drew)).put_best hs8 hk8 hg8 hlo6); have X8 := Lib.hid (hk8.blk (Blk.drew HX6.out) (fun hh => by have := H2.out.best.lt _ hh; omega)); have B8 := Lib.hid ((B6.out.trans ((Below.refl w6.heap.size w6).drew.mono hlo6)).trans (hk8.below H2.out.hF hlo6)); have L8 := Lib.hid ((L6.out.trans (Leaves.below (vw := vw) (Fb := Fb) (b := b) (bm := bm) ((Below.refl w6.heap.size w6).drew))).trans (Leaves.kept (vw := vw) (vw1 := vw) (Fb := Fb) (Fb1 := F8) (b := b) (bm := bm) hk8 (fun z hz => .inr (.inr (.inr hz))) (Grows.refl _ _) hg8)); clear hs8 hk8 hg8)
      all_goals
        have CW8 := Lib.hid (wait_any w8 w0.heap.size b W bm bb (n + 1) _ vw _ F8 H8.out (Nat.le_trans HB0.out.size B8.out.size) (d, (j : Int)) HWO.out HWL.out)
        have z0 : w8.cell? ⟨w3.heap.size, 0, none⟩ = some (.int .i64 d) := X8.out.cell 0
        have z1 : w8.cell? ⟨w3.heap.size, 1, none⟩ = some (.int .u32 (j : Int)) := X8.out.cell 1
        clear CP
        go_wp2_with (fail)
        refine CW8.out.mono ?_
        rintro e w9 ⟨rfl, vw9, hw9, hb9, hl9⟩
        have H9 := Lib.hid hw9
        have B9 := Lib.hid (B8.out.trans hb9)
        have L9 := Lib.hid (L8.out.trans hl9)
        clear hw9 hb9 hl9
        go_wp2
        go_end0
        exact ⟨rfl, vw9, F8, by rw [HMM.out, if_pos (by simp)]; exact H9.out, B9.out, L9.out⟩
    | true =>
      go_wp2_with (first | (rw [hw6]) | fail)
      refine (less_eq (d, (j : Int)) y less HL w6).mono ?_
      rintro e w7 ⟨rfl, hb7⟩
      have H7 := Lib.hid (H6.out.on hb7)
      have B7 := Lib.hid (B6.out.trans (hb7.mono hlo6))
      have L7 := Lib.hid (L6.out.trans (Leaves.below (vw := vw) (Fb := Fb) (b := b) (bm := bm) hb7))
      have HX7 := Lib.hid ((Kept.of_below (F := []) hb7 (Nat.le_refl _)).blk HX6.out (by simp))
      have hlo7 := Nat.le_trans HB0.out.size B7.out.size
      clear hw6 y0 y1 x0 x1 p6 hb7
      have x0 : w7.cell? ⟨w3.heap.size, 0, none⟩ = some (.int .i64 d) := HX7.out.cell 0
      have x1 : w7.cell? ⟨w3.heap.size, 1, none⟩ = some (.int .u32 (j : Int)) := HX7.out.cell 1
      have p7 : w7.cell? ⟨b, 3, none⟩ = some (.pointer (some ⟨bb, 0, none⟩)) := H7.out.blk.cell 3
      have l7 : w3.heap.size < w7.heap.size := HX7.out.lt
      cases less with
      | false =>
        go_wp2
        go_end0
        exact ⟨rfl, vw, Fb, by rw [HMM.out, if_neg (by simp)]; exact H7.out, B7.out, L7.out⟩
      | true =>
        go_wp2_with (fail)
        have CP := Lib.hid (sel_put Fb bb W s.best (d, (j : Int)) w7.drew (H7.out.on ((Below.refl w7.heap.size w7).drew)).best (by omega))
        go_region_with (go_at_call 46; refine CP.out.mono ?_; rintro e w8 ⟨rfl, F8, hs8, hk8, hg8⟩; have H8 := Lib.hid ((H7.out.on ((Below.refl w7.heap.size w7).drew)).put_best hs8 hk8 hg8 hlo7); have X8 := Lib.hid (hk8.blk (Blk.drew HX7.out) (fun hh => by have := H2.out.best.lt _ hh; omega)); have B8 := Lib.hid ((B7.out.trans ((Below.refl w7.heap.size w7).drew.mono hlo7)).trans (hk8.below H2.out.hF hlo7)); have L8 := Lib.hid ((L7.out.trans (Leaves.below (vw := vw) (Fb := Fb) (b := b) (bm := bm) ((Below.refl w7.heap.size w7).drew))).trans (Leaves.kept (vw := vw) (vw1 := vw) (Fb := Fb) (Fb1 := F8) (b := b) (bm := bm) hk8 (fun z hz => .inr (.inr (.inr hz))) (Grows.refl _ _) hg8)); clear hs8 hk8 hg8)
        all_goals
          have CW8 := Lib.hid (wait_any w8 w0.heap.size b W bm bb (n + 1) _ vw _ F8 H8.out (Nat.le_trans HB0.out.size B8.out.size) (d, (j : Int)) HWO.out HWL.out)
          have z0 : w8.cell? ⟨w3.heap.size, 0, none⟩ = some (.int .i64 d) := X8.out.cell 0
          have z1 : w8.cell? ⟨w3.heap.size, 1, none⟩ = some (.int .u32 (j : Int)) := X8.out.cell 1
          clear CP
          go_wp2_with (fail)
          refine CW8.out.mono ?_
          rintro e w9 ⟨rfl, vw9, hw9, hb9, hl9⟩
          have H9 := Lib.hid hw9
          have B9 := Lib.hid (B8.out.trans hb9)
          have L9 := Lib.hid (L8.out.trans hl9)
          clear hw9 hb9 hl9
          go_wp2
          go_end0
          exact ⟨rfl, vw9, F8, by rw [HMM.out, if_pos (by simp)]; exact H9.out, B9.out, L9.out⟩
end Go.Proofs.YtadkfedglkhgjaaGreat
