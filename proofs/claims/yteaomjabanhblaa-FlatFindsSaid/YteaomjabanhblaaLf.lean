/-
  FlatFinds holds: all hits, the first ones, and those behind any hit, are the document's, whatever comes in.
-/
import Derived.Test.YteaomjabanhblaaLe
namespace Go.Proofs.Yteaomjabanhblaa
open Go.ChangeShapes Go.WideShapes Go.ChangeAt Go.RowKit

theorem behindL_sort (last : Hit) (xs : List Hit) : sortL (behindL last xs) = behindL last (sortL xs) :=
  order_eq (sortL_order _) ((sortL_order xs).sublist List.filter_sublist) ((sortL_perm _).trans ((sortL_perm xs).filter _).symm)
theorem args6 {args : Array Value} {a b c d e f : Value} (h : args.size = 6) (h0 : args[0]? = some a) (h1 : args[1]? = some b) (h2 : args[2]? = some c) (h3 : args[3]? = some d) (h4 : args[4]? = some e) (h5 : args[5]? = some f) : args = #[a, b, c, d, e, f] := by
  apply Array.ext_getElem?
  intro i
  match i with
  | 0 => rw [h0]; rfl
  | 1 => rw [h1]; rfl
  | 2 => rw [h2]; rfl
  | 3 => rw [h3]; rfl
  | 4 => rw [h4]; rfl
  | 5 => rw [h5]; rfl
  | i + 6 => simp [h]

set_option maxRecDepth 100000 in
set_option maxHeartbeats 12800000 in
theorem finds_walk (w : World) (ok : Nat → Prop) (m : Nat) (a qa : Option Addr) (n c qn qc : Nat) (xs : List shItem.T) (q : List Int) (fl : FltL) (last : Hit) (k : Int) (hm : m < 256) (h : Rd ok w shItems [.slice a n c] xs) (hq : Reads .i32 w qa qn q) (hf : fl.Rds ok w) :
    Calls Try.prog 3 #[.int .u8 (m : Int), .slice a n c, .slice qa qn qc, .agg fl.cells, .agg #[.int .i64 last.1, .int .u32 last.2], .int .i64 k] w fun e w' => e = .returned (.bool true) ∧ Below w.heap.size w w' := by
  obtain ⟨_, _, _, hcs, HN, _, _⟩ := Rd.slice_is (e := shItem) h
  simp only [List.cons.injEq, Value.slice.injEq, and_true] at hcs
  obtain ⟨rfl, rfl, rfl⟩ := hcs
  obtain ⟨r, hr⟩ : ∃ r : Nat, (r : Int) = min (max k 0) 256 := ⟨(min (max k 0) 256).toNat, by omega⟩
  have HR := Lib.hid hr
  clear hr
  obtain ⟨w1, hw1⟩ : ∃ w1, (w.alloc (.cells #[.slice fl.p0.1 fl.p0.2.1 fl.p0.2.2, .slice fl.p1.1 fl.p1.2.1 fl.p1.2.2, .slice fl.p2.1 fl.p2.2.1 fl.p2.2.2] 26)).alloc (.cells #[.int .i64 last.1, .int .u32 last.2] 29) = w1 := ⟨_, rfl⟩
  have hb1 : Below w.heap.size w w1 := by rw [← hw1]; exact ((Below.refl _ w).alloc (Nat.le_refl _) _).alloc (by simp) _
  have bf : Blk w1 w.heap.size 26 [.slice fl.p0.1 fl.p0.2.1 fl.p0.2.2, .slice fl.p1.1 fl.p1.2.1 fl.p1.2.2, .slice fl.p2.1 fl.p2.2.1 fl.p2.2.2] := by rw [← hw1]; exact (Blk.new w _ #[.slice fl.p0.1 fl.p0.2.1 fl.p0.2.2, .slice fl.p1.1 fl.p1.2.1 fl.p1.2.2, .slice fl.p2.1 fl.p2.2.1 fl.p2.2.2]).alloc _
  have bl : Blk w1 (w.heap.size + 1) 29 [.int .i64 last.1, .int .u32 last.2] := by
    rw [← hw1]
    have := Blk.new (w.alloc (.cells #[.slice fl.p0.1 fl.p0.2.1 fl.p0.2.2, .slice fl.p1.1 fl.p1.2.1 fl.p1.2.2, .slice fl.p2.1 fl.p2.2.1 fl.p2.2.2] 26)) 29 #[.int .i64 last.1, .int .u32 last.2]
    simpa using this
  have HB1 := Lib.hid hb1
  have HH := Lib.hid (h.on hb1)
  have HQ := Lib.hid (hq.below (Nat.le_refl _) hb1)
  have HF := Lib.hid (hf.on hb1)
  have HM := Lib.hid hm
  have HC := Lib.hid (show ∀ w2, Below w1.heap.size w1 w2 → w2.cell? ⟨w.heap.size, 0, none⟩ = some (.slice fl.p0.1 fl.p0.2.1 fl.p0.2.2) ∧ w2.cell? ⟨w.heap.size, 1, none⟩ = some (.slice fl.p1.1 fl.p1.2.1 fl.p1.2.2) ∧ w2.cell? ⟨w.heap.size, 2, none⟩ = some (.slice fl.p2.1 fl.p2.2.1 fl.p2.2.2) ∧
      w2.cell? ⟨w.heap.size + 1, 0, none⟩ = some (.int .i64 last.1) ∧ w2.cell? ⟨w.heap.size + 1, 1, none⟩ = some (.int .u32 last.2) from fun w2 hb2 => by
    have b1 := bf.of_eq (hb2.block _ bf.lt)
    have b2 := bl.of_eq (hb2.block _ bl.lt)
    exact ⟨b1.cell 0, b1.cell 1, b1.cell 2, b2.cell 0, b2.cell 1⟩)
  clear h hq hf hm hb1 bf bl
  show Calls _ _ #[_, _, _, .agg #[.slice fl.p0.1 fl.p0.2.1 fl.p0.2.2, .slice fl.p1.1 fl.p1.2.1 fl.p1.2.2, .slice fl.p2.1 fl.p2.2.1 fl.p2.2.2], _, _] _ _
  go_enter Try.func3, Try.ntmps3
  go_wp2_with (first | (rw [hw1]) | fail)
  clear hw1
  refine (alive10 _).mono ?_
  rintro e w2 ⟨rfl, hb2⟩
  have HB2 := Lib.hid hb2
  obtain ⟨f0, f1, f2, l0, l1⟩ := HC.out w2 hb2
  clear hb2
  go_wp2_with (fail)
  refine (rgreat_any w2 ok a n c xs fl (HH.out.on HB2.out) (HF.out.on HB2.out)).mono ?_
  rintro e w3 ⟨g, rfl, hg, hb3⟩
  have HB3 := Lib.hid (HB2.out.trans (hb3.mono HB2.out.size))
  clear f0 f1 f2 l0 l1 hb3
  obtain ⟨f0, f1, f2, l0, l1⟩ := HC.out w3 HB3.out
  cases g with
  | true =>
    go_wp2
    go_ret
    exact ⟨rfl, below_on HB1.out HB3.out⟩
  | false =>
    have hn3 : n ≤ 300 := hg rfl
    have hlr : (rankL m q fl.f xs).length ≤ 300 := by
      have h1 := rankL_len m q fl.f xs
      have := HN.out
      omega
    clear hg
    go_wp2_with (fail)
    have hmi : wrap64 (m : Int) = (m : Int) := by have := HM.out; unfold wrap64; omega
    rw [hmi]
    refine (rrank_any w3 ok m a qa n c qn qc xs q fl HM.out (HH.out.on HB3.out) (by omega) (HQ.out.below (Nat.le_refl _) HB3.out) (HF.out.on HB3.out).inn).mono ?_
    rintro e w4 ⟨ra, rn, rc, rfl, hr4, hb4⟩
    have HR4 := Lib.hid hr4
    have HB4 := Lib.hid (HB3.out.trans (hb4.mono HB3.out.size))
    clear f0 f1 f2 l0 l1 hr4 hb4
    obtain ⟨f0, f1, f2, l0, l1⟩ := HC.out w4 HB4.out
    go_wp2_with (fail)
    refine (rank_any w4 ok m a qa n c qn qc xs q fl HM.out (HH.out.on HB4.out) (by omega) (HQ.out.below (Nat.le_refl _) HB4.out) (HF.out.on HB4.out).inn).mono ?_
    intro e w5 hp
    obtain ⟨a5, n5, c5, rfl, hr5, hb5⟩ := hp.read (by omega)
    have HR5 := Lib.hid hr5
    have K5 := Lib.hid hb5
    have HB5 := Lib.hid (HB4.out.trans (hb5.mono HB4.out.size))
    clear f0 f1 f2 l0 l1 hr5 hb5 hp
    obtain ⟨f0, f1, f2, l0, l1⟩ := HC.out w5 HB5.out
    go_wp2_with (fail)
    refine (search_any w5 ok m a qa n c qn qc xs q fl k r HR HM.out (HH.out.on HB5.out) (HQ.out.below (Nat.le_refl _) HB5.out) (HF.out.on HB5.out).inn).mono ?_
    intro e w6 hp
    obtain ⟨a6, n6, c6, rfl, hr6, hb6⟩ := hp.read (by
      have : (keepL r (wantL m q fl.f xs)).length ≤ (rankL m q fl.f xs).length := by rw [keepL, rankL, List.length_take]; omega
      omega)
    have HR6 := Lib.hid hr6
    have K6 := Lib.hid hb6
    have HB6 := Lib.hid (HB5.out.trans (hb6.mono HB5.out.size))
    clear f0 f1 f2 l0 l1 hr6 hb6 hp
    obtain ⟨f0, f1, f2, l0, l1⟩ := HC.out w6 HB6.out
    go_wp2_with (fail)
    refine (after_any w6 ok m a qa n c qn qc xs q fl last k r HR HM.out (HH.out.on HB6.out) (HQ.out.below (Nat.le_refl _) HB6.out) (HF.out.on HB6.out).inn).mono ?_
    intro e w7 hp
    have HE := Lib.hid (show keepL r (behindL last (wantL m q fl.f xs)) = (behindL last (rankL m q fl.f xs)).take r from by rw [keepL, behindL_sort]; rfl)
    have hlb : (behindL last (rankL m q fl.f xs)).length ≤ 300 := Nat.le_trans (List.length_filter_le _ _) hlr
    rw [HE.out] at hp
    obtain ⟨a7, n7, c7, rfl, hr7, hb7⟩ := hp.read (by rw [List.length_take]; omega)
    have HR7 := Lib.hid hr7
    have K7 := Lib.hid hb7
    have HB7 := Lib.hid (HB6.out.trans (hb7.mono HB6.out.size))
    clear f0 f1 f2 l0 l1 hr7 hb7 hp
    obtain ⟨f0, f1, f2, l0, l1⟩ := HC.out w7 HB7.out
    have RA := Lib.hid ((HR4.out.below (Nat.le_refl _) K5.out).below (Nat.le_refl _) (K6.out.trans (K7.out.mono K6.out.size)))
    go_wp2_with (fail)
    refine (same_any a5 ra n5 rn c5 rc _ _ w7 ((HR5.out.below (Nat.le_refl _) K6.out).below (Nat.le_refl _) K7.out) RA.out).mono ?_
    rintro e w8 ⟨rfl, hb8⟩
    rw [decide_eq_true rfl]
    have K8 := Lib.hid hb8
    have HB8 := Lib.hid (HB7.out.trans (hb8.mono HB7.out.size))
    clear f0 f1 f2 l0 l1 hb8
    go_wp2_with (fail)
    refine (rfirst_any w8 ra rn rc k r HR _ (RA.out.below (Nat.le_refl _) K8.out)).mono ?_
    rintro e w9 ⟨v9, rfl, ho9, hb9⟩
    obtain ⟨a9, n9, c9, rfl, hr9⟩ := ho9.parts10 (by rw [List.length_take]; omega)
    have HR9 := Lib.hid hr9
    have K9 := Lib.hid hb9
    have HB9 := Lib.hid (HB8.out.trans (hb9.mono HB8.out.size))
    clear ho9 hr9 hb9
    go_wp2_with (fail)
    refine (same_any a6 a9 n6 n9 c6 c9 _ _ w9 (((HR6.out.below (Nat.le_refl _) K7.out).below (Nat.le_refl _) K8.out).below (Nat.le_refl _) K9.out) HR9.out).mono ?_
    rintro e w10 ⟨rfl, hb10⟩
    rw [decide_eq_true (show keepL r (wantL m q fl.f xs) = (rankL m q fl.f xs).take r from rfl)]
    have K10 := Lib.hid hb10
    have HB10 := Lib.hid (HB9.out.trans (hb10.mono HB9.out.size))
    obtain ⟨f0, f1, f2, l0, l1⟩ := HC.out w10 HB10.out
    clear hb10
    have RB := Lib.hid (RA.out.below (Nat.le_refl _) (K8.out.trans ((K9.out.trans (K10.out.mono K9.out.size)).mono K8.out.size)))
    go_wp2_with (fail)
    refine (rbehind_any w10 ra rn rc _ last RB.out (by have := HR4.out.len; omega)).mono ?_
    rintro e w11 ⟨v11, rfl, ho11, hb11⟩
    obtain ⟨a11, n11, c11, rfl, hr11⟩ := ho11.parts10 (by omega)
    have HR11 := Lib.hid hr11
    have K11 := Lib.hid hb11
    have HB11 := Lib.hid (HB10.out.trans (hb11.mono HB10.out.size))
    clear f0 f1 f2 l0 l1 ho11 hr11 hb11
    go_wp2_with (fail)
    refine (rfirst_any w11 a11 n11 c11 k r HR _ HR11.out).mono ?_
    rintro e w12 ⟨v12, rfl, ho12, hb12⟩
    obtain ⟨a12, n12, c12, rfl, hr12⟩ := ho12.parts10 (by rw [List.length_take]; omega)
    have HR12 := Lib.hid hr12
    have K12 := Lib.hid hb12
    have HB12 := Lib.hid (HB11.out.trans (hb12.mono HB11.out.size))
    clear ho12 hr12 hb12
    go_wp2_with (fail)
    refine (same_any a7 a12 n7 n12 c7 c12 _ _ w12 (((HR7.out.below (Nat.le_refl _) K8.out).below (Nat.le_refl _) (K9.out.trans (K10.out.mono K9.out.size))).below (Nat.le_refl _) (K11.out.trans (K12.out.mono K11.out.size))) HR12.out).mono ?_
    rintro e w13 ⟨rfl, hb13⟩
    rw [decide_eq_true rfl]
    have HB13 := Lib.hid (HB12.out.trans (hb13.mono HB12.out.size))
    clear hb13
    go_wp2
    go_ret
    exact ⟨rfl, below_on HB1.out HB13.out⟩

theorem flatFinds_row : Rows.FlatFindsSaid :=
  OpenClaim.holds_of_wide 3 Try.f3 rfl rfl rfl rfl rfl rfl rfl ⟨rfl, rfl, rfl, rfl, rfl⟩ rfl rfl rfl rfl rfl (by kernel_rfl) Try.func3 (by kernel_rfl)
    (of_decide_eq_true (by kernel_rfl)) (by unfold Func.isWrapper; rw [if_neg (of_decide_eq_false (by kernel_rfl))]; exact ⟨rfl, rfl⟩)
    (fun os started H enc _ => lift (C := Try.checked) (s := Rows.flatFindsSpec) (conds := Rows.flatFindsRow.domain) os started H enc prog_own (by kernel_rfl) Try.func3 prog_laid rfl Try.underlying4 rfl
      (fun ds hl => by
        have hl : ds.length = 6 := hl
        match ds, hl with
        | [_, _, _, _, _, _], _ => rfl)
      (of_decide_eq_true (by kernel_rfl))
      (ChangeSpec.witness6 (enc := enc) (C := Try.checked) false ⟨#[], #[.int .u8 0, .slice none 0 0, .slice none 0 0, .agg #[.slice none 0 0, .slice none 0 0, .slice none 0 0], .agg #[.int .i64 0, .int .u32 0], .int .i64 0], []⟩ 8 (by kernel_rfl) (by kernel_rfl) (by kernel_rfl) (by kernel_rfl))
      (fun W base args ds p g => by
        rw [Try.params3] at g
        obtain ⟨m, e0, hm⟩ := g.u8 0 rfl Try.underlying5
        obtain ⟨a, n, c, xs, e1, h1⟩ := g.items10 1 rfl
        obtain ⟨qa, qn, qc, q, e2, h2⟩ := g.vec10 2 rfl
        obtain ⟨fl, e3, h3⟩ := g.filter10 3 rfl
        obtain ⟨last, e4⟩ := g.hit10 4 rfl
        obtain ⟨k, e5, _⟩ := g.i64 5 rfl Try.underlying3
        rw [args6 g.count e0 e1 e2 e3 e4 e5]
        exact finds_walk W _ m a qa n c qn qc xs q fl last k hm h1 h2 h3))
end Go.Proofs.Yteaomjabanhblaa
