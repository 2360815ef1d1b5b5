/-
  A map by uint32s gone through: maps.Keys, slices.AppendSeq, slices.Collect: its keys, in some order.
-/
import Derived.Test.YtadkfedglkhgjaaMe
import Derived.Test.YtadkfedglkhgjaaQs
import Derived.Test.YtadkfedglkhgjaaProg
import Derived.RangeFuncNested
import Derived.RangeFuncBound
import Derived.RangeFuncCalls
import Derived.RangeFuncLeaves
import Derived.Shelf.Abstract
import Derived.Shelf.RegionOpen
import Derived.WalkKit
import Derived.OwnWalkIn
import Derived.TacticsInMore
import Derived.LoopNIn
import Derived.LoopIn
import Derived.Maps.AppendAt
import Derived.Sort.MapsRangeIn
namespace Go.Proofs.Ytadkfedglkhgjaa
open Go.RowKit Go.Maps Go.Shelf

attribute [local go_sem] Oper.semAt_some

def key32 (x : Nat) : Lit := .int .u32 (x : Int)
theorem key32_inj : ∀ a b : Nat, key32 a = key32 b → a = b := (fun a b h => by have h2 := (Lit.int.inj h).2; omega)
theorem key32_lit (x : Nat) : WideAt.IsKeyLit (key32 x) := by trivial
/-- Those that have come. -/
def Come32 (vs : List (Nat)) (left : Lit → Bool) (ss : List (Nat)) : Prop := ss.Nodup ∧ ∀ x, x ∈ ss ↔ x ∈ vs ∧ left (key32 x) = false
theorem come32_step {vs ss : List (Nat)} {left : Lit → Bool} {x : Nat} (h : Come32 vs left ss) (hx : x ∈ vs) (hl : left (key32 x) = true) : Come32 vs (fun z => left z && !z.sameKey (key32 x)) (ss ++ [x]) := by
  refine ⟨List.nodup_append.2 ⟨h.1, by simp, fun a ha b hb => ?_⟩, fun y => ?_⟩
  · rw [List.mem_singleton.1 hb]
    rintro rfl
    have := ((h.2 a).1 ha).2
    rw [hl] at this
    cases this
  · rw [List.mem_append, List.mem_singleton, h.2 y]
    by_cases hyx : y = x
    · subst hyx
      simp [hx, WideAt.sameKey_self (key32_lit y)]
    · have hne : key32 y ≠ key32 x := fun e => hyx (key32_inj _ _ e)
      simp [hyx, sameKey_ne hne]
theorem come32_all {vs ss : List (Nat)} {left : Lit → Bool} (h : Come32 vs left ss) (hv : vs.Nodup) (hl : ∀ kl, left kl = false) : ss.Perm vs :=
  (List.perm_ext_iff_of_nodup h.1 hv).2 fun x => by rw [h.2 x, hl]; simp
theorem vs32_nodup {E : List (Lit × Value)} {vs : List (Nat)} (ha : E.Pairwise fun p q => p.1 ≠ q.1) (hE : E.map (·.1) = vs.map key32) : vs.Nodup := by
  have h1 : (E.map (·.1)).Pairwise (· ≠ ·) := by
    rw [List.pairwise_map]
    exact ha
  rw [hE, List.pairwise_map] at h1
  exact h1.imp fun h e => h (by rw [e])
theorem has32 {E : List (Lit × Value)} {es : List (Lit × DataW Value)} {vs : List (Nat)} (hp : es.Perm (heldE E)) (hE : E.map (·.1) = vs.map key32) (x : Nat) : Maps.has (DataW.map es) (key32 x) = true ↔ x ∈ vs := by
  constructor
  · intro h
    rw [has_eq, List.any_eq_true] at h
    obtain ⟨p, hp1, hp2⟩ := h
    obtain ⟨q, hq, rfl⟩ := (held_mem hp).1 hp1
    have h1 : q.1 = key32 x := WideAt.sameKey_eq hp2
    have h2 : q.1 ∈ E.map (·.1) := List.mem_map.2 ⟨q, hq, rfl⟩
    rw [hE] at h2
    obtain ⟨y, hy, e⟩ := List.mem_map.1 h2
    have := key32_inj _ _ (e.trans h1)
    subst this
    exact hy
  · intro h
    have h2 : key32 x ∈ vs.map key32 := List.mem_map.2 ⟨x, h, rfl⟩
    rw [← hE] at h2
    obtain ⟨q, hq, e⟩ := List.mem_map.1 h2
    refine held_has (v := q.2) hp (key32_lit x) ?_
    rw [← e]
    exact hq

set_option maxRecDepth 100000 in
set_option maxHeartbeats 3200000 in
theorem keys132 (n : Nat) (hn : 1 ≤ n) (l Bm b : Nat) (E : List (Lit × Value)) (vs : List (Nat)) (hE : E.map (·.1) = vs.map key32) (J Jx : List (Nat) → World → Prop)
    (hY : ∀ (pre : List (Nat)) (x : Nat) (W : World), J pre W → pre.length < vs.length → YieldAt Fence.wide (n - 1) Try.prog l #[.int .u32 (x : Int)] W fun e W' =>
      (e = .returned (.bool true) ∧ J (pre ++ [x]) W' ∧ KeepsWalks W W') ∨ (e = .returned (.bool false) ∧ Jx (pre ++ [x]) W'))
    (W : World) (hJ : AbidesFrom W.heap.size J) (hm : W.cell? ⟨Bm, 0, none⟩ = some (.map (some b))) (hM : MapE W Try.prog 22 b E) (h0 : J [] W) :
    CallsIn Fence.wide n Try.prog 50 #[.func (.yield l) #[] #[], .pointer (some ⟨Bm, 0, none⟩)] W fun e W' => (∃ v, e = .returned v) ∧ ((∃ ss, ss.Perm vs ∧ J ss W') ∨ (∃ pre, True ∧ Jx pre W')) := by
  obtain ⟨⟨es, hown, hp⟩, ha, -⟩ := hM
  have hlen : Maps.size (DataW.map es) = vs.length := by
    have h1 := congrArg List.length hE
    rw [List.length_map, List.length_map] at h1
    rw [size_eq, hp.length_eq, heldE_len, h1]
  have HN := Lib.hid (vs32_nodup ha hE)
  have HAS := Lib.hid (has32 hp hE)
  obtain ⟨D, hD⟩ : ∃ D, DataW.map es = D := ⟨_, rfl⟩
  rw [hD] at hown hlen HAS
  clear hE ha hp hD
  refine callsIn_of_wp Try.func50 rfl trivial ?_ rfl
  simp only [Try.ntmps50, List.size_toArray, List.length_cons, List.length_nil, Nat.reduceAdd, Nat.reduceSub, Array.replicate_succ, Array.replicate_zero, List.push_toArray, List.append_toArray, List.nil_append, List.cons_append]
  gi_wp2_with (first
    | (gi_at_range; refine wpListIn_range_own _ rfl _ 74 rfl 22 79 (Maps.int_keyed Try.underlying22) Try.underlying74 rawElem b _ _ rfl hown ?_; intro w0 hrg0 hg0 hs0)
    | gi_in)
  go_frame
  gi_loopw [3] (fun _ wr => ∃ (left : Lit → Bool) (cnt : Nat) (ss : List (Nat)), wr.ranges Try.prog 22 rawElem b W.heap.size E.length D left cnt ∧ ss.length + cnt ≤ vs.length ∧ Come32 vs left ss ∧ J ss wr)
    (fun _ wr => wr.rangeLeft b W.heap.size)
  case atStart =>
    refine ⟨_, _, [], hrg0, by simp [hlen], ⟨List.Pairwise.nil, fun x => ?_⟩, hJ [] W w0 none h0 hg0 (fun r e => by cases e)⟩
    constructor
    · intro h
      cases h
    · rintro ⟨h1, h2⟩
      rw [(HAS.out x).2 h1] at h2
      cases h2
  case round =>
    obtain ⟨left, cnt, ss, hrg, hcs, hC, hJs⟩ := hrel
    gi_wp2_with (first
      | (gi_at_next; refine wpListIn_next_ranges (α := Nat) (β := Value) _ rfl _ rfl 22 (Maps.int_keyed Try.underlying22) rawElem (fun x => .int .u32 (x : Int)) id (fun key kl hk => by
        obtain ⟨z, rfl, rfl, hw⟩ := Maps.keyOf_int_inv Try.underlying22 hk
        have h1 : (0 : Int) ≤ z := by
          simp [Lit.wf, IntKind.min, IntKind.max, IntKind.signed, IntKind.bits] at hw
          exact hw.1
        exact ⟨z.toNat, by rw [Int.toNat_of_nonneg h1]⟩) (fun v _ _ => ⟨v, rfl⟩) b W.heap.size _ _ _ _ rfl hrg ?_ ?_)
      | gi_in)
    · intro hc0 hl0
      gi_wp2
      go_end0
      exact ⟨⟨_, rfl⟩, .inl ⟨ss, come32_all hC HN.out hl0, hJs⟩⟩
    · intro x c kl yd yp w2 cnt2 hkey hlk hv hat hrg2 hlt hg2 hs2 hen
      have hkl : kl = .int .u32 (x : Int) := by
        obtain ⟨z, e1, e2, _⟩ := Maps.keyOf_int_inv Try.underlying22 hkey
        cases e1
        exact e2
      subst hkl
      have hxv : x ∈ vs := (HAS.out x).1 (Maps.has_true_of_atKey hat)
      have hC2 := come32_step hC hxv hlk
      have hJ2 : J ss w2 := hJ ss wr w2 (some W.heap.size) hJs hg2 (fun r e => by cases e; exact ⟨Nat.le_refl _, hrg.iter_walk⟩)
      obtain ⟨fn, tmps, assign, body, hy, hR⟩ := hY ss x w2 hJ2 (by omega)
      clear hs2 hat hv hkey
      gi_wp2
      refine hR.mono ?_
      rintro e W3 (⟨rfl, hJ3, hk3⟩ | ⟨rfl, hJx3⟩)
      · gi_wp2
        have hrg3 := hrg2.of_walks hk3
        go_roundw
        case rel => exact ⟨_, cnt2, ss ++ [x], hrg3, by simp; omega, hC2, hJ3⟩
        case measure => rw [hrg3.left_eq, hrg.left_eq]; exact hlt
      · gi_wp2
        refine bodyPost_ret (results_none rfl _ _ _) rfl ?_
        exact ⟨⟨_, rfl⟩, .inr ⟨ss ++ [x], trivial, hJx3⟩⟩
theorem keys_stops32 (n : Nat) (hn : 1 ≤ n) (Bm b : Nat) (E : List (Lit × Value)) (vs : List (Nat)) (hE : E.map (·.1) = vs.map key32) (w : World) (hBm : Bm < w.heap.size) (hm : w.cell? ⟨Bm, 0, none⟩ = some (.map (some b))) (hM : MapE w Try.prog 22 b E) :
    SeqStopsK Fence.wide n Try.prog 50 #[.pointer (some ⟨Bm, 0, none⟩)] (fun x : Nat => #[.int .u32 (x : Int)]) KeepsWalks (fun ss => ss.Perm vs) (fun _ => True) vs.length w := fun l J Jx W hW hJ _ hY h0 =>
  keys132 n hn l Bm b E vs hE J Jx hY W hJ ((hW.cell (p := ⟨Bm, 0, none⟩) hBm).trans hm) (hM.on hW) h0
set_option maxHeartbeats 1600000 in
/-- maps.Keys: the map is boxed; the function value captures the box. -/
theorem keys_in32 (n b : Nat) (w : World) : CallsIn Fence.wide n Try.prog 45 #[.map (some b)] w fun e w' => e = .returned (.func (.func 50) #[] #[.pointer (some ⟨w.heap.size, 0, none⟩)]) ∧ w' = w.alloc (.cells #[.map (some b)] 74) := by
  refine callsIn_of_wp Try.func45 rfl trivial ?_ rfl
  simp only [Try.ntmps45, List.size_toArray, List.length_cons, List.length_nil, Nat.reduceAdd, Nat.reduceSub, Array.replicate_succ, Array.replicate_zero, List.push_toArray, List.append_toArray, List.nil_append, List.cons_append]
  gi_wp2
  go_ret
  exact ⟨rfl, rfl⟩
theorem info_k32 : (Try.prog.info? 22).map (fun i => (i.zero, i.size, i.bytes)) = some (some (.int .u32 0), 1, 4) := by kernel_rfl
set_option maxRecDepth 100000 in
set_option maxHeartbeats 6400000 in
/-- slices.AppendSeq to nil, of whatever comes. -/
theorem appendSeq32 (n : Nat) (hn : 2 ≤ n) (gf : Nat) (lb : Array Value) (hFg : Fence.wide.fn gf) (eg : ∀ args w, (callFunc gf args).run Try.prog w = .ok (.enter gf args) w) (S Sp : List (Nat) → Prop) (N : Nat) (hN : N ≤ 1000000) (w : World)
    (hseq : SeqStopsK Fence.wide (n - 1) Try.prog gf lb (fun x : Nat => #[.int .u32 (x : Int)]) KeepsWalks S Sp N w) :
    CallsIn Fence.wide n Try.prog 52 #[.slice none 0 0, .func (.func gf) #[] lb] w fun e w' => ∃ (v : Value) (ss : List (Nat)), e = .returned v ∧ S ss ∧ w'.ownsRow w.heap.size 22 1 v ss.length (ss.map fun x : Nat => .int .u32 (x : Int)) ∧ Below w.heap.size w w' := by
  have h1 : 1 ≤ n := by omega
  refine callsIn_of_wp_marks Try.func52 rfl trivial ?_ rfl
  simp only [Try.ntmps52, List.size_toArray, List.length_cons, List.length_nil, Nat.reduceAdd, Nat.reduceSub, Array.replicate_succ, Array.replicate_zero, List.push_toArray, List.append_toArray, List.nil_append, List.cons_append]
  gi_wp2
  obtain ⟨i0, hi, hz0, hz1, hz2⟩ := info_parts info_k32
  refine wpIn_rangeFunc_ownF rfl h1 (gf := gf) (lb := lb) rfl hFg eg hseq walksK_t (fun W l o o' h => walksK_b (w := w) W l o o' (by simp at h; omega)) ((Below.refl _ w).alloc (Nat.le_refl _) _) (fun _ => rfl)
    (fun pre W => (∃ v, Boxed W w.heap.size 70 v ∧ W.ownsRow w.heap.size 22 1 v pre.length (pre.map fun x : Nat => .int .u32 (x : Int)) ∧ True) ∧ Below w.heap.size w W)
    (fun _ _ _ => False)
    (OwnFrom.and (Own.from (holdsRow_own w.heap.size w.heap.size 70 22 1 (fun pre : List (Nat) => pre.length) (fun pre => pre.map fun x : Nat => .int .u32 (x : Int)) (fun _ _ => True)) _) (ownFrom_below (Nat.le_refl _) (by simp)))
    (fun _ _ _ _ _ hs _ _ => hs)
    ⟨⟨.slice none 0 0, Boxed.new w _ _, ⟨rfl, .inl ⟨rfl, rfl⟩⟩, trivial⟩, (Below.refl _ w).alloc (Nat.le_refl _) _⟩
    (fun x => { tmps := #[.slice none 0 0, .func (.func gf) #[] lb, .pointer (some ⟨w.heap.size, 0, none⟩), undef, .slice none 0 0, .int .u32 (x : Int), .func (.func gf) #[] lb, .int .u32 (x : Int), undef, undef, undef, undef, undef], defers := [] }) ?assign ?body ?done ?stop
  case assign =>
    intro l x W K hK
    gi_wp2
    exact hK
  case body =>
    rintro l pre x W ⟨⟨v, hv, hrow, -⟩, hB⟩ hlt
    have hc := hv.cell
    have hf := hv.frozen
    have hBs := hB.size
    gi_wp2_with (first
      | (gi_at_builtin; refine wpListIn_append_own _ rfl _ _ 70 rfl w.heap.size 22 i0 (.int .u32 0) 1 4 Try.underlying70 hi hz0 hz1 hz2 rfl (by decide) _ _ _ rfl (hrow.alloc _) ⟨W.heap.size, 0, none⟩ 1 1 [.int .u32 (x : Int)] rfl rfl (cell_one_new _ _ _) (by simp [Value.oneCell']) (by unfold maxLen; omega) (by omega) (by simp; omega) ?_; intro v' w1 hown' hgrow _; obtain ⟨g', cap', rfl⟩ := ownsRow_succ hown'; obtain ⟨hv1, hv2, hr2, hk2, hb2⟩ := hv.appended (by decide) hrow hBs (Nat.le_refl _) hown' hgrow; have hc1 := hv1.cell; have hf1 := hv1.frozen)
      | gi_in)
    exact ⟨hk2, ⟨hk2.size, fun k o hk ho => hk2.same k o hk (by cases o <;> first | rfl | cases ho)⟩, ⟨_, hv2, by simpa using hr2, trivial⟩, hB.trans hb2⟩
  case done =>
    rintro D ss W hD hS ⟨⟨v, hv, hrow, -⟩, hB⟩ hK
    have hc := hv.cell
    gi_wp2
    refine ⟨by simp, .inl ⟨_, _, rfl, run_takeDeferred hK, ?_⟩⟩
    exact ⟨_, results_tmp rfl _ _ _, v, ss, rfl, hS, ownsRow_putObj hrow _ hK rfl, hB.trans (belowK_b (w := w) (Nat.le_refl _) W D _ _ (by simp at hD; omega) hK rfl rfl)⟩
  case stop =>
    rintro D c pre W _ _ h _
    exact h.elim
set_option maxHeartbeats 1600000 in
/-- slices.Collect, of whatever comes. -/
theorem collect32 (n : Nat) (hn : 3 ≤ n) (gf : Nat) (lb : Array Value) (hFg : Fence.wide.fn gf) (eg : ∀ args w, (callFunc gf args).run Try.prog w = .ok (.enter gf args) w) (S Sp : List (Nat) → Prop) (N : Nat) (hN : N ≤ 1000000) (w : World)
    (hseq : SeqStopsK Fence.wide (n - 1 - 1) Try.prog gf lb (fun x : Nat => #[.int .u32 (x : Int)]) KeepsWalks S Sp N w) :
    CallsIn Fence.wide n Try.prog 48 #[.func (.func gf) #[] lb] w fun e w' => ∃ (v : Value) (ss : List (Nat)), e = .returned v ∧ S ss ∧ w'.ownsRow w.heap.size 22 1 v ss.length (ss.map fun x : Nat => .int .u32 (x : Int)) ∧ Below w.heap.size w w' := by
  have h1 : 1 ≤ n := by omega
  refine callsIn_of_wp Try.func48 rfl trivial ?_ rfl
  simp only [Try.ntmps48, List.size_toArray, List.length_cons, List.length_nil, Nat.reduceAdd, Nat.reduceSub, Array.replicate_succ, Array.replicate_zero, List.push_toArray, List.append_toArray, List.nil_append, List.cons_append]
  gi_wp2_with (refine ⟨trivial, ?_⟩; gi_at_call 52; refine (appendSeq32 (n - 1) (by omega) gf lb hFg eg S Sp N hN _ hseq).mono ?_; rintro e w' ⟨v, ss, rfl, hS, hrow, hb⟩)
  go_ret
  exact ⟨v, ss, rfl, hS, hrow, hb⟩
/-- Both: the keys of a map. -/
theorem collect_keys32 (b Bm : Nat) (E : List (Lit × Value)) (vs : List (Nat)) (hE : E.map (·.1) = vs.map key32) (hl : vs.length ≤ 1000000) (w : World) (hBm : Bm < w.heap.size) (hm : w.cell? ⟨Bm, 0, none⟩ = some (.map (some b))) (hM : MapE w Try.prog 22 b E) :
    Calls Try.prog 48 #[.func (.func 50) #[] #[.pointer (some ⟨Bm, 0, none⟩)]] w fun e w' => ∃ (v : Value) (ss : List (Nat)), e = .returned v ∧ ss.Perm vs ∧ w'.ownsRow w.heap.size 22 1 v ss.length (ss.map fun x : Nat => .int .u32 (x : Int)) ∧ Below w.heap.size w w' :=
  callsIn_wide.1 (collect32 5 (by omega) 50 #[.pointer (some ⟨Bm, 0, none⟩)] trivial (enters_of Try.func50 (by kernel_rfl) rfl) _ _ _ hl w (keys_stops32 3 (by omega) Bm b E vs hE w hBm hm hM))
theorem keys_any32 (b : Nat) (w : World) : Calls Try.prog 45 #[.map (some b)] w fun e w' => e = .returned (.func (.func 50) #[] #[.pointer (some ⟨w.heap.size, 0, none⟩)]) ∧ w' = w.alloc (.cells #[.map (some b)] 74) :=
  callsIn_wide.1 (keys_in32 5 b w)
theorem enc_zsW (ss : List Nat) : (ss.map fun x : Nat => Value.int .u32 (x : Int)) = (zsW ss).map (Value.int .u32) := by
  unfold zsW
  rw [List.map_map]
  rfl
set_option maxRecDepth 100000 in
set_option maxHeartbeats 3200000 in
theorem sorted_keys32 (b Bm : Nat) (E : List (Lit × Value)) (vs : List Nat) (hE : E.map (·.1) = vs.map key32) (hl : vs.length ≤ 12) (h32 : ∀ x ∈ vs, x < 4294967296) (w : World) (hBm : Bm < w.heap.size) (hm : w.cell? ⟨Bm, 0, none⟩ = some (.map (some b))) (hM : MapE w Try.prog 22 b E) :
    Calls Try.prog 44 #[.func (.func 50) #[] #[.pointer (some ⟨Bm, 0, none⟩)]] w fun e w' => ∃ (v : Value) (ss : List Nat), e = .returned v ∧ ss.Perm vs ∧ ss.Pairwise (· ≤ ·) ∧ VersW w.heap.size w' v ss ∧ Below w.heap.size w w' := by
  have CK := Lib.hid (collect_keys32 b Bm E vs hE (by omega) w hBm hm hM)
  clear hM hE hm
  go_enter Try.func44, Try.ntmps44
  go_wp2_with (fail)
  refine CK.out.mono ?_
  rintro e w1 ⟨v, ss, rfl, hp, hrow, hb⟩
  rw [enc_zsW] at hrow
  have hv := versW_of hrow
  obtain ⟨va, vc, rfl, -⟩ := hv.form
  have hlen : ss.length ≤ 12 := by rw [hp.length_eq]; exact hl
  have S := Lib.hid (sort_few32 w.heap.size w1 _ ss hv hlen (fun x hx => h32 x (hp.mem_iff.1 hx)))
  obtain ⟨vn, hvn⟩ : ∃ vn, ss.length = vn := ⟨_, rfl⟩
  have HP := Lib.hid hp
  have HB := Lib.hid hb
  have LOW := Lib.hid (fun (x : Nat) (hx : x ∈ ownB (.slice va ss.length vc)) => (RowC.lt hv x (mem_ownB.1 hx)).1)
  rw [hvn] at S LOW ⊢
  clear hv hrow hp hb hlen hvn
  go_wp2_with (fail)
  refine S.out.mono ?_
  rintro e w2 ⟨rfl, ys, hy1, hy2, hy3, hy4⟩
  go_wp2
  go_ret
  exact ⟨_, ys, rfl, hy1.trans HP.out, hy2, hy3, HB.out.trans (hy4.below LOW.out HB.out.size)⟩
end Go.Proofs.Ytadkfedglkhgjaa
