/-
  FlatOwn holds: items, vectors and filters that are handed in stay as they were, whatever comes in.
-/
import Derived.Test.YteaomjabanhblaaLo
namespace Go.Proofs.Yteaomjabanhblaa
open Go.ChangeShapes Go.WideShapes Go.ChangeAt Go.RowKit

theorem take_snoc10 {xs : List shItem.T} {i : Nat} {x : shItem.T} (h : xs[i]? = some x) : xs.take (i + 1) = xs.take i ++ [x] := by
  rw [List.take_add_one, h]
  rfl

set_option maxRecDepth 100000 in
set_option maxHeartbeats 12800000 in
theorem ownf_walk (w : World) (m : Nat) (a qa : Option Addr) (n c qn qc : Nat) (xs : List shItem.T) (q : List Int) (fl : FltL) (kk : Int) (hm : m < 256) (h : Rd (fun _ => True) w shItems [.slice a n c] xs) (hq : Reads .i32 w qa qn q) (hf : fl.Rds (fun _ => True) w) :
    Calls Try.prog 7 #[.int .u8 (m : Int), .slice a n c, .slice qa qn qc, .agg fl.cells, .int .i64 kk] w fun e w' => e = .returned (.bool true) ∧ Below w.heap.size w w' := by
  obtain ⟨_, _, _, hcs, HN, _, _⟩ := Rd.slice_is (e := shItem) h
  simp only [List.cons.injEq, Value.slice.injEq, and_true] at hcs
  obtain ⟨rfl, rfl, rfl⟩ := hcs
  obtain ⟨r, hr⟩ : ∃ r : Nat, (r : Int) = min (max kk 0) 256 := ⟨(min (max kk 0) 256).toNat, by omega⟩
  have HR := Lib.hid hr
  clear hr
  obtain ⟨w1, hw1⟩ : ∃ w1, w.alloc (.cells #[.slice fl.p0.1 fl.p0.2.1 fl.p0.2.2, .slice fl.p1.1 fl.p1.2.1 fl.p1.2.2, .slice fl.p2.1 fl.p2.2.1 fl.p2.2.2] 26) = w1 := ⟨_, rfl⟩
  have hb1 : Below w.heap.size w w1 := by rw [← hw1]; exact (Below.refl _ w).alloc (Nat.le_refl _) _
  have bf : Blk w1 w.heap.size 26 [.slice fl.p0.1 fl.p0.2.1 fl.p0.2.2, .slice fl.p1.1 fl.p1.2.1 fl.p1.2.2, .slice fl.p2.1 fl.p2.2.1 fl.p2.2.2] := by rw [← hw1]; exact Blk.new _ _ _
  have HB1 := Lib.hid hb1
  have HH := Lib.hid (show Rd (· < w1.heap.size) w1 shItems [.slice a n c] xs from (h.on hb1).lt.mono fun _ hk _ => hk.2)
  have HH' := Lib.hid (h.on hb1)
  have HQ := Lib.hid (hq.below (Nat.le_refl _) hb1)
  have HF := Lib.hid (hf.on hb1)
  have HM := Lib.hid hm
  have HC := Lib.hid (show ∀ w2, Below w1.heap.size w1 w2 → w2.cell? ⟨w.heap.size, 0, none⟩ = some (.slice fl.p0.1 fl.p0.2.1 fl.p0.2.2) ∧ w2.cell? ⟨w.heap.size, 1, none⟩ = some (.slice fl.p1.1 fl.p1.2.1 fl.p1.2.2) ∧ w2.cell? ⟨w.heap.size, 2, none⟩ = some (.slice fl.p2.1 fl.p2.2.1 fl.p2.2.2) from fun w2 hb2 => by
    have b1 := bf.of_eq (hb2.block _ bf.lt)
    exact ⟨b1.cell 0, b1.cell 1, b1.cell 2⟩)
  clear h hq hf hm hb1 bf
  show Calls _ _ #[_, _, _, .agg #[.slice fl.p0.1 fl.p0.2.1 fl.p0.2.2, .slice fl.p1.1 fl.p1.2.1 fl.p1.2.2, .slice fl.p2.1 fl.p2.2.1 fl.p2.2.2], _] _ _
  go_enter Try.func7, Try.ntmps7
  go_wp2_with (first | (rw [hw1]) | fail)
  clear hw1
  refine (alive10 _).mono ?_
  rintro e w2 ⟨rfl, hb2⟩
  have HB2 := Lib.hid hb2
  obtain ⟨f0, f1, f2⟩ := HC.out w2 hb2
  clear hb2
  go_wp2_with (fail)
  refine (rgreat_any w2 _ a n c xs fl (HH'.out.on HB2.out) (HF.out.on HB2.out)).mono ?_
  rintro e w3 ⟨g, rfl, hg, hb3⟩
  have HB3 := Lib.hid (HB2.out.trans (hb3.mono HB2.out.size))
  clear f0 f1 f2 hb3
  cases g with
  | true =>
    go_wp2
    go_ret
    exact ⟨rfl, below_on HB1.out HB3.out⟩
  | false =>
    have hn3 : n ≤ 300 := hg rfl
    clear hg
    go_wp2
    go_loopw [11, 12] (fun s11 s12 wr => ∃ (i k vc : Nat) (va : Option Addr), i ≤ n ∧ s12 = .int .i64 (i : Int) ∧ s11 = .slice va k vc ∧ Hid (OwnR w1.heap.size wr 44 shItem (.slice va k vc) (xs.take i)) ∧ Hid (Below w1.heap.size w1 wr)) (fun _ s12 _ => n - (intOf s12).toNat)
    case atStart => exact ⟨0, 0, 0, none, Nat.zero_le _, rfl, rfl, OwnR.nil _ _ _ _, HB3.out⟩
    case round =>
      clear HB3 HB2
      obtain ⟨i, k, vc, va, hi, rfl, rfl, HO, HB⟩ := hrel
      by_cases h1 : i < n
      · obtain ⟨b, off, id, vec, tags, ia, iN, ic, ta, tn, tc, rfl, hx, hid, HI⟩ := rd_item10 HH.out i h1
        have HX := Lib.hid (take_snoc10 hx)
        obtain ⟨t0, t1, t2, t3, _, t5, t6⟩ := HI.out _ HB.out
        have T5 := Lib.hid (t5.mono (ok' := fun _ => True) fun _ _ _ => trivial)
        have T6 := Lib.hid (t6.mono (ok' := fun _ => True) fun _ _ _ => trivial)
        have htl : (xs.take i).length ≤ 1000 := by rw [List.length_take]; omega
        clear hx t5 t6
        go_wp2_with (fail)
        refine own_region10 wr (.slice va k vc) b off n c i id vec tags ia iN ic ta tn tc w1.heap.size (xs.take i) rfl (by kernel_rfl) (by kernel_rfl) ⟨_, rfl, rfl, rfl, rfl, by kernel_rfl⟩ ⟨_, rfl, rfl, rfl, rfl, by kernel_rfl⟩ ⟨_, rfl, rfl, rfl, rfl, by kernel_rfl⟩ ⟨_, rfl, rfl, rfl, rfl, by kernel_rfl⟩ ⟨_, rfl, rfl, rfl, rfl, by kernel_rfl⟩ ⟨_, rfl, rfl, rfl, rfl, by kernel_rfl⟩ ⟨_, rfl, rfl, rfl, rfl, by kernel_rfl⟩ ⟨_, rfl, rfl, rfl, rfl, by kernel_rfl⟩ ⟨_, rfl, rfl, rfl, rfl, by kernel_rfl⟩ ⟨_, rfl, rfl, rfl, rfl, by kernel_rfl⟩ ⟨_, rfl, rfl, rfl, rfl, by kernel_rfl⟩ ⟨_, rfl, rfl, rfl, rfl, by kernel_rfl⟩ ⟨_, rfl, rfl, rfl, rfl, by kernel_rfl⟩ ⟨_, rfl, rfl, rfl, rfl, by kernel_rfl⟩ ⟨_, rfl, rfl, rfl, rfl, by kernel_rfl⟩ ⟨_, rfl, rfl, rfl, rfl, by kernel_rfl⟩ ⟨_, rfl, rfl, rfl, rfl, by kernel_rfl⟩ ⟨_, rfl, rfl, rfl, rfl, by kernel_rfl⟩ ⟨_, rfl, rfl, rfl, rfl, by kernel_rfl⟩ ⟨_, rfl, rfl, rfl, rfl, by kernel_rfl⟩ ⟨_, rfl, rfl, rfl, rfl, by kernel_rfl⟩ ⟨_, rfl, rfl, rfl, rfl, by kernel_rfl⟩ ⟨_, rfl, rfl, rfl, rfl, by kernel_rfl⟩ ⟨_, rfl, rfl, rfl, rfl, by kernel_rfl⟩ rfl rfl rfl rfl h1 t1 t2 t3 t0 hid T5.out T6.out HO.out HB.out.size htl ?_
        intro E w5 hown hE hb5
        obtain ⟨va', k', vc', hv', _⟩ := hown.form
        rw [hv'] at hE hown
        have N1 := Lib.hid hown
        have N2 := Lib.hid (HB.out.trans hb5)
        clear hown hb5 HO HB t0 t1 t2 t3
        simp only [filledR, dsO, Nat.reduceEqDiff, if_true, if_false, Nat.reduceAdd, hE, hv']
        go_wp2
        go_roundw
        case rel => exact ⟨i + 1, k', vc', va', by omega, by go_num, rfl, by rw [HX.out]; exact N1.out, N2.out⟩
        case measure => simp [intOf]; omega
      · have ht : xs.take i = xs := List.take_of_length_le (by have := HN.out; omega)
        rw [ht] at HO
        have hxl := HN.out
        have hlr : (rankL m q fl.f xs).length ≤ 300 := by
          have h1 := rankL_len m q fl.f xs
          omega
        obtain ⟨f0, f1, f2⟩ := HC.out wr HB.out
        clear hxl
        go_wp2_with (fail)
        refine (rank_any wr _ m a qa n c qn qc xs q fl HM.out (HH'.out.on HB.out) (by omega) (HQ.out.below (Nat.le_refl _) HB.out) (HF.out.on HB.out).inn).mono ?_
        intro e w5 hp
        obtain ⟨a5, n5, c5, rfl, hr5, hb5⟩ := hp.read (by omega)
        have HR5 := Lib.hid hr5
        have K5 := Lib.hid hb5
        have HB5 := Lib.hid (HB.out.trans (hb5.mono HB.out.size))
        clear f0 f1 f2 hr5 hb5 hp
        obtain ⟨f0, f1, f2⟩ := HC.out w5 HB5.out
        go_wp2_with (fail)
        refine (search_any w5 _ m a qa n c qn qc xs q fl kk r HR HM.out (HH'.out.on HB5.out) (HQ.out.below (Nat.le_refl _) HB5.out) (HF.out.on HB5.out).inn).mono ?_
        rintro e w6 ⟨g6, n6, rfl, _, hb6, _⟩
        have K6 := Lib.hid hb6
        have HB6 := Lib.hid (HB5.out.trans (hb6.mono HB5.out.size))
        clear f0 f1 f2 hb6
        obtain ⟨f0, f1, f2⟩ := HC.out w6 HB6.out
        go_wp2_with (fail)
        refine (after_any w6 _ m a qa n c qn qc xs q fl (0, 0) kk r HR HM.out (HH'.out.on HB6.out) (HQ.out.below (Nat.le_refl _) HB6.out) (HF.out.on HB6.out).inn).mono ?_
        rintro e w7 ⟨g7, n7, rfl, _, hb7, _⟩
        have K7 := Lib.hid hb7
        have HB7 := Lib.hid (HB6.out.trans (hb7.mono HB6.out.size))
        clear f0 f1 f2 hb7
        obtain ⟨f0, f1, f2⟩ := HC.out w7 HB7.out
        go_wp2_with (fail)
        refine (rank_any w7 _ m a qa n c qn qc xs q fl HM.out (HH'.out.on HB7.out) (by omega) (HQ.out.below (Nat.le_refl _) HB7.out) (HF.out.on HB7.out).inn).mono ?_
        intro e w8 hp
        obtain ⟨a8, n8, c8, rfl, hr8, hb8⟩ := hp.read (by omega)
        have HR8 := Lib.hid hr8
        have K8 := Lib.hid hb8
        have HB8 := Lib.hid (HB7.out.trans (hb8.mono HB7.out.size))
        have KW := Lib.hid (below_on (below_on (below_on K5.out K6.out) K7.out) hb8)
        clear f0 f1 f2 hr8 hb8 hp
        go_wp2_with (fail)
        refine (sameItems a va n k c vc xs xs w8 (HH'.out.on HB8.out) ((HO.out.on KW.out).rd 56 (by decide) (by have := HN.out; omega))).mono ?_
        rintro e w9 ⟨z, rfl, hz, hb9⟩
        obtain rfl : z = true := hz.2 rfl
        have K9 := Lib.hid hb9
        have HB9 := Lib.hid (HB8.out.trans (hb9.mono HB8.out.size))
        clear hz hb9
        go_wp2_with (fail)
        refine (same_any a5 a8 n5 n8 c5 c8 _ _ w9 (HR5.out.below (Nat.le_refl _) (below_on (below_on (below_on K6.out K7.out) K8.out) K9.out)) (HR8.out.below (Nat.le_refl _) K9.out)).mono ?_
        rintro e w10 ⟨rfl, hb10⟩
        rw [decide_eq_true rfl]
        have HB10 := Lib.hid (HB9.out.trans (hb10.mono HB9.out.size))
        clear hb10
        go_wp2
        go_ret
        exact ⟨rfl, below_on HB1.out HB10.out⟩

theorem flatOwn_row : Rows.FlatOwnSaid :=
  OpenClaim.holds_of_wide 7 Try.f7 rfl rfl rfl rfl rfl rfl rfl ⟨rfl, rfl, rfl, rfl, rfl⟩ rfl rfl rfl rfl rfl (by kernel_rfl) Try.func7 (by kernel_rfl)
    (of_decide_eq_true (by kernel_rfl)) (by unfold Func.isWrapper; rw [if_neg (of_decide_eq_false (by kernel_rfl))]; exact ⟨rfl, rfl⟩)
    (fun os started H enc _ => lift (C := Try.checked) (s := Rows.flatOwnSpec) (conds := Rows.flatOwnRow.domain) os started H enc prog_own (by kernel_rfl) Try.func7 prog_laid rfl Try.underlying4 rfl
      (fun ds hl => by
        have hl : ds.length = 5 := hl
        match ds, hl with
        | [_, _, _, _, _], _ => rfl)
      (of_decide_eq_true (by kernel_rfl))
      (ChangeSpec.witness6 (enc := enc) (C := Try.checked) false ⟨#[], #[.int .u8 0, .slice none 0 0, .slice none 0 0, .agg #[.slice none 0 0, .slice none 0 0, .slice none 0 0], .int .i64 0], []⟩ 8 (by kernel_rfl) (by kernel_rfl) (by kernel_rfl) (by kernel_rfl))
      (fun W base args ds p g => by
        rw [Try.params7] at g
        obtain ⟨m, e0, hm⟩ := g.u8 0 rfl Try.underlying5
        obtain ⟨a, n, c, xs, e1, h1⟩ := g.items10 1 rfl
        obtain ⟨qa, qn, qc, q, e2, h2⟩ := g.vec10 2 rfl
        obtain ⟨fl, e3, h3⟩ := g.filter10 3 rfl
        obtain ⟨kk, e4, _⟩ := g.i64 4 rfl Try.underlying3
        rw [args5 g.count e0 e1 e2 e3 e4]
        exact ownf_walk W m a qa n c qn qc xs q fl kk hm h1 h2 h3))
end Go.Proofs.Yteaomjabanhblaa
