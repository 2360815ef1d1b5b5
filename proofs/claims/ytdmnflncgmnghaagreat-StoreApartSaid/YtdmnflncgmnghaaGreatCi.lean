/-
  The program's past: its state in memory; the iterator over its rows, backwards: its contract for any loop's body.
-/
import Derived.Test.YtdmnflncgmnghaaGreatJg
import Derived.RangeFuncNested
import Derived.RangeFuncBound
import Derived.RangeFuncCalls
import Derived.RangeFuncLeaves
import Derived.Shelf.Abstract
import Derived.Shelf.RegionOpen
import Derived.WalkKit
import Derived.OwnWalkIn
import Derived.TacticsInMore
import Derived.LoopNIn
import Derived.LoopIn
namespace Go.Proofs.YtdmnflncgmnghaaGreat
open Go.RowKit Go.Shelf

attribute [local go_sem] Oper.semAt_some

/-- The program's past in block g: rows and versions in rows of the call's own, its items in the blocks It. -/
structure PastC (w : World) (lo g : Nat) (It : List Nat) (u k : Value) (L : List RowL) (last floor : Nat) (kept : List Nat) : Prop where
  blk : Blk w g 139 [u, .int .u64 (last : Int), .int .u64 (floor : Int), k]
  rows : RowC lo w 157 5 u (L.map RowL.cells)
  each : ∀ r ∈ L, r.In (· ∈ It) w
  items : ∀ x ∈ It, lo ≤ x ∧ x < w.heap.size ∧ x ≠ g ∧ u.ownBlock ≠ some x ∧ k.ownBlock ≠ some x
  vers : RowC lo w 27 1 k (keptC kept)
  hlast : last < 18446744073709551616
  hfl : floor ≤ last
  hv : ∀ r ∈ L, r.v ≤ last
  hsort : L.Pairwise fun a b => a.v ≤ b.v
  hkept : ∀ x ∈ kept, x < 18446744073709551616
  hks : kept.Pairwise (· < ·)
  hL : L.length ≤ 1024
  hK : kept.length ≤ 100000
  glo : lo ≤ g
section
variable {w w' : World} {lo g last floor v : Nat} {It : List Nat} {u k : Value} {L : List RowL} {ks : List Nat}
theorem PastC.kept {F : List Nat} (h : PastC w lo g It u k L last floor ks) (hk : Kept F w w') (hF : ∀ x ∈ F, x ≠ g ∧ u.ownBlock ≠ some x ∧ k.ownBlock ≠ some x ∧ x ∉ It) : PastC w' lo g It u k L last floor ks where
  blk := hk.blk h.blk (fun hh => (hF g hh).1 rfl)
  rows := h.rows.kept hk (fun x hx hh => (hF x hh).2.1 hx)
  each := fun r hr => (h.each r hr).stay hk.size (fun x hx hlt => hk.block x hlt (fun hh => (hF x hh).2.2.2 hx)) (fun _ h _ => h)
  items := fun x hx => have h1 := h.items x hx; ⟨h1.1, Nat.lt_of_lt_of_le h1.2.1 hk.size, h1.2.2⟩
  vers := h.vers.kept hk (fun x hx hh => (hF x hh).2.2.1 hx)
  hlast := h.hlast
  hfl := h.hfl
  hv := h.hv
  hsort := h.hsort
  hkept := h.hkept
  hks := h.hks
  hL := h.hL
  hK := h.hK
  glo := h.glo
theorem PastC.on (h : PastC w lo g It u k L last floor ks) (hb : Below w.heap.size w w') : PastC w' lo g It u k L last floor ks := h.kept (F := []) (Kept.of_below hb (Nat.le_refl _)) (by simp)
theorem PastC.rowAt (h : PastC w lo g It u k L last floor ks) (i : Nat) (hi : i < L.length) : ∃ (r : RowL) (gu c : Nat), L[i]? = some r ∧ r ∈ L ∧ u = .slice (some ⟨gu, 0, none⟩) L.length c ∧ gu < w.heap.size ∧ w.rangeAt gu (i * 5) r.cells := by
  obtain ⟨r, hr⟩ : ∃ r, L[i]? = some r := ⟨_, List.getElem?_eq_getElem hi⟩
  obtain ⟨gu, c, e, _, hlt, hrg⟩ := h.rows.at i r.cells (by rw [List.getElem?_map, hr]; rfl)
  rw [List.length_map] at e
  exact ⟨r, gu, c, hr, List.mem_of_getElem? hr, e, hlt, hrg⟩
theorem PastC.u_form (h : PastC w lo g It u k L last floor ks) : ∃ a c, u = .slice a L.length c ∧ L.length ≤ c := by
  obtain ⟨a, c, e, h2⟩ := h.rows.form
  rw [List.length_map] at e h2
  exact ⟨a, c, e, h2⟩
theorem PastC.k_form (h : PastC w lo g It u k L last floor ks) : ∃ a c, k = .slice a ks.length c ∧ ks.length ≤ c := by
  obtain ⟨a, c, e, h2⟩ := h.vers.form
  rw [keptC, List.length_map] at e h2
  exact ⟨a, c, e, h2⟩
end

/-- A row with its place. -/
abbrev BackT (L : List RowL) : Type := { p : Nat × RowL // L[p.1]? = some p.2 }
/-- Of the first m rows those whose version is at most v, the last one first. -/
def bk (L : List RowL) (v : Nat) : Nat → List (BackT L)
  | 0 => []
  | m + 1 => if h : m < L.length then (if L[m].v ≤ v then ⟨(m, L[m]), List.getElem?_eq_getElem h⟩ :: bk L v m else bk L v m) else bk L v m
theorem bk_len (L : List RowL) (v : Nat) : ∀ m, (bk L v m).length ≤ m := by
  intro m
  induction m with
  | zero => simp [bk]
  | succ m ih =>
    unfold bk
    split
    · split
      · simp; omega
      · omega
    · omega
theorem bk_take {L : List RowL} {v m : Nat} {r : RowL} (hr : L[m]? = some r) (hv : r.v ≤ v) : bk L v (m + 1) = ⟨(m, r), hr⟩ :: bk L v m := by
  obtain ⟨hl, e⟩ := List.getElem?_eq_some_iff.1 hr
  subst e
  rw [bk, dif_pos hl, if_pos hv]
theorem bk_skip {L : List RowL} {v m : Nat} {r : RowL} (hr : L[m]? = some r) (hv : ¬ r.v ≤ v) : bk L v (m + 1) = bk L v m := by
  obtain ⟨hl, e⟩ := List.getElem?_eq_some_iff.1 hr
  subst e
  rw [bk, dif_pos hl, if_neg hv]
/-- What a round that goes on keeps: what lay below n, and the iterator's two boxes. -/
def KpB (n Bp Bv : Nat) (W W' : World) : Prop := Below n W W' ∧ W'.heap[Bp]? = W.heap[Bp]? ∧ W'.heap[Bv]? = W.heap[Bv]?
theorem kpB_t {n Bp Bv : Nat} {A B C : World} (h : KpB n Bp Bv A B) (k : KpB n Bp Bv B C) : KpB n Bp Bv A C := ⟨h.1.trans k.1, k.2.1.trans h.2.1, k.2.2.trans h.2.2⟩
theorem kpB_b {n Bp Bv : Nat} {w : World} (hn : n ≤ w.heap.size) (hp : Bp < w.heap.size) (hv : Bv < w.heap.size) (W : World) (l : Nat) (o o' : Obj) (hl : w.heap.size ≤ l) (h : W.heap[l]? = some o) (hc : o.isCells = false) (hw : o.isWalk = false) : KpB n Bp Bv W (W.putObj l o') :=
  ⟨belowK_b hn W l o o' hl h hc hw, World.putObj_heap_other (by omega), World.putObj_heap_other (by omega)⟩
/-- What a row is handed to a round as. -/
def backE (L : List RowL) (x : BackT L) : Array Value := #[.int .i64 (x.1.1 : Int), .agg #[.int .u64 (x.1.2.v : Int), .bool x.1.2.gone, .int .u32 (x.1.2.id : Int), .slice x.1.2.pv.1 x.1.2.pv.2.1 x.1.2.pv.2.2, .slice x.1.2.pt.1 x.1.2.pt.2.1 x.1.2.pt.2.2]]

set_option maxRecDepth 100000 in
set_option maxHeartbeats 3200000 in
theorem back1_in (n : Nat) (hn : 1 ≤ n) (l Bp Bv : Nat) (w : World) (lo g : Nat) (It : List Nat) (u k : Value) (L : List RowL) (last floor : Nat) (kept : List Nat) (PC : PastC w lo g It u k L last floor kept) (v : Nat) (hv : v < 18446744073709551616)
    (J Jx : List (BackT L) → World → Prop) (W : World) (hA : AbidesFrom W.heap.size J)
    (hY : ∀ pre x W1, J pre W1 → pre.length < L.length → YieldAt Fence.wide (n - 1) Tryz.prog l (backE L x) W1 fun e W' =>
      (e = .returned (.bool true) ∧ J (pre ++ [x]) W' ∧ KpB w.heap.size Bp Bv W1 W') ∨ (e = .returned (.bool false) ∧ Jx (pre ++ [x]) W'))
    (hW : Below w.heap.size w W) (hp : Boxed W Bp 102 (.pointer (some ⟨g, 0, none⟩))) (hbv : Boxed W Bv 27 (.int .u64 (v : Int))) (h0 : J [] W) :
    CallsIn Fence.wide n Tryz.prog 97 #[.func (.yield l) #[] #[], .pointer (some ⟨Bp, 0, none⟩), .pointer (some ⟨Bv, 0, none⟩)] W fun e W' => (∃ v, e = .returned v) ∧
      ((∃ ys, ys = bk L v L.length ∧ J ys W') ∨ (∃ pre, pre <+: bk L v L.length ∧ Jx pre W')) := by
  obtain ⟨a, c, rfl, hnc⟩ := PC.u_form
  obtain ⟨N, hN⟩ : ∃ N, L.length = N := ⟨_, rfl⟩
  have HPC := Lib.hid PC
  have hL := PC.hL
  have HN := Lib.hid hN
  rw [hN] at HPC hnc hL hY ⊢
  have HA := Lib.hid hA
  have HY := Lib.hid hY
  have HWB := Lib.hid hW
  have hsz := hW.size
  clear hN PC hA hY hW
  have cP := hp.cell
  have cV := hbv.cell
  have c0 : W.cell? ⟨g, 0, none⟩ = some (.slice a N c) := (HPC.out.on HWB.out).blk.cell 0
  have HV := Lib.hid hv
  clear hv
  refine callsIn_of_wp Tryz.func97 rfl trivial ?_ rfl
  simp only [Tryz.ntmps97, List.size_toArray, List.length_cons, List.length_nil, Nat.reduceAdd, Nat.reduceSub, Array.replicate_succ, Array.replicate_zero, List.push_toArray, List.append_toArray, List.nil_append, List.cons_append]
  gi_wp2
  gi_loopw [4] (fun s4 wr => ∃ (m : Nat) (pre : List (BackT L)), s4 = .int .i64 ((m : Int) - 1) ∧ m ≤ N ∧ Hid (bk L v N = pre ++ bk L v m) ∧ Hid (J pre wr) ∧ Hid (Below w.heap.size w wr) ∧ Hid (W.heap.size ≤ wr.heap.size) ∧ Boxed wr Bp 102 (.pointer (some ⟨g, 0, none⟩)) ∧ Boxed wr Bv 27 (.int .u64 (v : Int))) (fun s4 _ => (intOf s4 + 1).toNat)
  case atStart => exact ⟨N, [], rfl, Nat.le_refl _, rfl, h0, HWB.out, Nat.le_refl _, hp, hbv⟩
  case round =>
    obtain ⟨m, pre, rfl, hm, HB, HJ, HWR, HWS, hp2, hbv2⟩ := hrel
    have cP2 := hp2.cell
    have cV2 := hbv2.cell
    have PW := Lib.hid (HPC.out.on HWR.out)
    have c02 : wr.cell? ⟨g, 0, none⟩ = some (.slice a N c) := PW.out.blk.cell 0
    have hwr := HWR.out.size
    cases m with
    | zero =>
      gi_wp2
      go_end0
      exact ⟨⟨_, rfl⟩, .inl ⟨pre, by rw [HB.out]; simp [bk], HJ.out⟩⟩
    | succ m =>
      obtain ⟨r, gu, c', hr, hmem, e, hgu, hrg⟩ := PW.out.rowAt m (by rw [HN.out]; omega)
      rw [HN.out] at e
      simp only [Value.slice.injEq] at e
      obtain ⟨rfl, -, rfl⟩ := e
      have k0 : wr.cell? ⟨gu, m * 5, none⟩ = some (.int .u64 (r.v : Int)) := hrg 0 _ rfl
      have k1 : wr.cell? ⟨gu, m * 5 + 1, none⟩ = some (.bool r.gone) := hrg 1 _ rfl
      have k2 : wr.cell? ⟨gu, m * 5 + 2, none⟩ = some (.int .u32 (r.id : Int)) := hrg 2 _ rfl
      have k3 : wr.cell? ⟨gu, m * 5 + 3, none⟩ = some (.slice r.pv.1 r.pv.2.1 r.pv.2.2) := hrg 3 _ rfl
      have k4 : wr.cell? ⟨gu, m * 5 + 4, none⟩ = some (.slice r.pt.1 r.pt.2.1 r.pt.2.2) := hrg 4 _ rfl
      have HRR := Lib.hid hr
      have RI := Lib.hid (HPC.out.each r hmem)
      clear hr hmem hrg
      have hp3 := hp2.alloc (.cells #[.int .u64 (r.v : Int), .bool r.gone, .int .u32 (r.id : Int), .slice r.pv.1 r.pv.2.1 r.pv.2.2, .slice r.pt.1 r.pt.2.1 r.pt.2.2] 157)
      have hbv3 := hbv2.alloc (.cells #[.int .u64 (r.v : Int), .bool r.gone, .int .u32 (r.id : Int), .slice r.pv.1 r.pv.2.1 r.pv.2.2, .slice r.pt.1 r.pt.2.1 r.pt.2.2] 157)
      have cV3 := hbv3.cell
      have B3 := Lib.hid (HWR.out.alloc hwr (.cells #[.int .u64 (r.v : Int), .bool r.gone, .int .u32 (r.id : Int), .slice r.pv.1 r.pv.2.1 r.pv.2.2, .slice r.pt.1 r.pt.2.1 r.pt.2.2] 157))
      have J3 := Lib.hid (HA.out pre wr (wr.alloc (.cells #[.int .u64 (r.v : Int), .bool r.gone, .int .u32 (r.id : Int), .slice r.pv.1 r.pv.2.1 r.pv.2.2, .slice r.pt.1 r.pt.2.1 r.pt.2.2] 157)) none HJ.out (World.grownBy_alloc wr _ none) (fun r e => by cases e))
      have hrv := RI.out.hv
      by_cases h1 : r.v ≤ v
      · have h1b : decide ((r.v : Int) ≤ (v : Int)) = true := decide_eq_true (by omega)
        have HB2 := Lib.hid (show bk L v N = (pre ++ [⟨(m, r), HRR.out⟩]) ++ bk L v m from by rw [HB.out, bk_take HRR.out h1]; simp)
        obtain ⟨fn, tmps, assign, body, hy, hR⟩ := HY.out pre ⟨(m, r), HRR.out⟩ _ J3.out (by
          have h2 := congrArg List.length HB2.out
          have h3 := bk_len L v N
          simp at h2
          omega)
        dsimp only [backE] at hy
        rw [show (((m + 1 : Nat) : Int) - 1) = (m : Int) by omega]
        gi_wp2
        refine hR.mono ?_
        rintro e W3 (⟨rfl, hJ3, hk3⟩ | ⟨rfl, hJx3⟩)
        · have B4 := B3.out.trans hk3.1
          have hz4 : W.heap.size ≤ W3.heap.size := by
            have h5 := hk3.1.size
            have h6 := HWS.out
            simp at h5
            omega
          have hp4 : Boxed W3 Bp 102 (.pointer (some ⟨g, 0, none⟩)) := hk3.2.1.trans hp3
          have hbv4 : Boxed W3 Bv 27 (.int .u64 (v : Int)) := hk3.2.2.trans hbv3
          gi_wp2
          go_roundw
          case rel => exact ⟨m, _, by go_num, by omega, HB2.out, hJ3, B4, hz4, hp4, hbv4⟩
          case measure => first | (simp [intOf]; done) | (simp [intOf]; omega)
        · gi_wp2
          refine bodyPost_ret (results_none rfl _ _ _) rfl ?_
          exact ⟨⟨_, rfl⟩, .inr ⟨_, ⟨_, HB2.out.symm⟩, hJx3⟩⟩
      · have h1b : decide ((r.v : Int) ≤ (v : Int)) = false := decide_eq_false (by omega)
        have HB2 := Lib.hid (show bk L v N = pre ++ bk L v m from by rw [HB.out, bk_skip HRR.out h1])
        rw [show (((m + 1 : Nat) : Int) - 1) = (m : Int) by omega]
        gi_wp2
        refine ⟨fun _ h => (by cases h), ?_⟩
        gi_wp2
        go_roundw
        case rel => exact ⟨m, _, by go_num, by omega, HB2.out, J3.out, B3.out, Nat.le_trans HWS.out (by simp), hp3, hbv3⟩
        case measure => first | (simp [intOf]; done) | (simp [intOf]; omega)
set_option maxHeartbeats 1600000 in
/-- backFrom(v): the past and the version are boxed; the function value captures both. -/
theorem back_in (n : Nat) (g v : Nat) (w : World) :
    CallsIn Fence.wide n Tryz.prog 77 #[.pointer (some ⟨g, 0, none⟩), .int .u64 (v : Int)] w fun e w' => e = .returned (.func (.func 97) #[] #[.pointer (some ⟨w.heap.size, 0, none⟩), .pointer (some ⟨w.heap.size + 1, 0, none⟩)]) ∧ w' = (w.alloc (.cells #[.pointer (some ⟨g, 0, none⟩)] 102)).alloc (.cells #[.int .u64 (v : Int)] 27) := by
  refine callsIn_of_wp Tryz.func77 rfl trivial ?_ rfl
  simp only [Tryz.ntmps77, List.size_toArray, List.length_cons, List.length_nil, Nat.reduceAdd, Nat.reduceSub, Array.replicate_succ, Array.replicate_zero, List.push_toArray, List.append_toArray, List.nil_append, List.cons_append]
  gi_wp2
  go_ret
  exact ⟨rfl, rfl⟩
/-- What backFrom gave stops, and what it hands over. -/
theorem back_stops (n : Nat) (hn : 1 ≤ n) (Bp Bv : Nat) (w : World) (lo g : Nat) (It : List Nat) (u k : Value) (L : List RowL) (last floor : Nat) (kept : List Nat) (PC : PastC w lo g It u k L last floor kept) (v : Nat) (hv : v < 18446744073709551616)
    (w0 : World) (hW : Below w.heap.size w w0) (hp : Boxed w0 Bp 102 (.pointer (some ⟨g, 0, none⟩))) (hbv : Boxed w0 Bv 27 (.int .u64 (v : Int))) :
    SeqStopsK Fence.wide n Tryz.prog 97 #[.pointer (some ⟨Bp, 0, none⟩), .pointer (some ⟨Bv, 0, none⟩)] (backE L) (KpB w.heap.size Bp Bv) (fun ys => ys = bk L v L.length) (fun pre => pre <+: bk L v L.length) L.length w0 := fun l J Jx W hWW hJ _ hY h0 =>
  back1_in n hn l Bp Bv w lo g It u k L last floor kept PC v hv J Jx W hJ hY (hW.trans (hWW.mono hW.size)) ((hWW.block Bp hp.lt).trans hp) ((hWW.block Bv hbv.lt).trans hbv) h0
end Go.Proofs.YtdmnflncgmnghaaGreat
