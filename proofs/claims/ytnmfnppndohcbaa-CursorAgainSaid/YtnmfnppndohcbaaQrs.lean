/-
  CursorAgain holds: a page that is asked for again, as often as it is, asks for the same, whatever its hits were.
-/
import Derived.Test.YtnmfnppndohcbaaRows
import Derived.Test.YtnmfnppndohcbaaQro
import Derived.Test.YtnmfnppndohcbaaSm
namespace Go.Proofs.Ytnmfnppndohcbaa
open Go.ChangeShapes Go.WideShapes Go.ChangeAt Go.RowKit

set_option maxRecDepth 100000 in
set_option maxHeartbeats 12800000 in
/-- The document's Same of asks, of two that are the same. -/
theorem same14 (w : World) (pin : Int) (y y' : QryL) (eh : Bool) (ed ei : Int) (ok ok' : Nat → Prop) (h : y.In ok w) (h' : y'.In ok' w) (hq : y.q = y'.q) :
    Calls Try.prog 16 #[.agg #[.int .i64 pin, .slice y.pv.1 y.pv.2.1 y.pv.2.2, .slice y.p0.1 y.p0.2.1 y.p0.2.2, .slice y.p1.1 y.p1.2.1 y.p1.2.2, .slice y.p2.1 y.p2.2.1 y.p2.2.2, .bool eh, .int .i64 ed, .int .u32 ei], .agg #[.int .i64 pin, .slice y'.pv.1 y'.pv.2.1 y'.pv.2.2, .slice y'.p0.1 y'.p0.2.1 y'.p0.2.2, .slice y'.p1.1 y'.p1.2.1 y'.p1.2.2, .slice y'.p2.1 y'.p2.2.1 y'.p2.2.2, .bool eh, .int .i64 ed, .int .u32 ei]] w fun e' w' => e' = .returned (.bool true) ∧ Below w.heap.size w w' := by
  obtain ⟨wa, hwa⟩ : ∃ wa, w.alloc (.cells #[.int .i64 pin, .slice y.pv.1 y.pv.2.1 y.pv.2.2, .slice y.p0.1 y.p0.2.1 y.p0.2.2, .slice y.p1.1 y.p1.2.1 y.p1.2.2, .slice y.p2.1 y.p2.2.1 y.p2.2.2, .bool eh, .int .i64 ed, .int .u32 ei] 49) = wa := ⟨_, rfl⟩
  obtain ⟨wb, hwb⟩ : ∃ wb, wa.alloc (.cells #[.int .i64 pin, .slice y'.pv.1 y'.pv.2.1 y'.pv.2.2, .slice y'.p0.1 y'.p0.2.1 y'.p0.2.2, .slice y'.p1.1 y'.p1.2.1 y'.p1.2.2, .slice y'.p2.1 y'.p2.2.1 y'.p2.2.2, .bool eh, .int .i64 ed, .int .u32 ei] 49) = wb := ⟨_, rfl⟩
  have ba : Below w.heap.size w wa := by rw [← hwa]; exact (Below.refl _ _).alloc (Nat.le_refl _) _
  have bb : Below wa.heap.size wa wb := by rw [← hwb]; exact (Below.refl _ _).alloc (Nat.le_refl _) _
  have A : Blk wb w.heap.size 49 [.int .i64 pin, .slice y.pv.1 y.pv.2.1 y.pv.2.2, .slice y.p0.1 y.p0.2.1 y.p0.2.2, .slice y.p1.1 y.p1.2.1 y.p1.2.2, .slice y.p2.1 y.p2.2.1 y.p2.2.2, .bool eh, .int .i64 ed, .int .u32 ei] := (Kept.of_below (F := []) bb (Nat.le_refl _)).blk (by rw [← hwa]; exact Blk.new _ _ _) (by simp)
  have B : Blk wb wa.heap.size 49 [.int .i64 pin, .slice y'.pv.1 y'.pv.2.1 y'.pv.2.2, .slice y'.p0.1 y'.p0.2.1 y'.p0.2.2, .slice y'.p1.1 y'.p1.2.1 y'.p1.2.2, .slice y'.p2.1 y'.p2.2.1 y'.p2.2.2, .bool eh, .int .i64 ed, .int .u32 ei] := by rw [← hwb]; exact Blk.new _ _ _
  have BB := Lib.hid (below_on ba bb)
  have KEEP := Lib.hid (fun (W : World) (hb : Below wb.heap.size wb W) => show W.cell? ⟨w.heap.size, 0, none⟩ = some (.int .i64 pin) ∧ W.cell? ⟨w.heap.size, 1, none⟩ = some (.slice y.pv.1 y.pv.2.1 y.pv.2.2) ∧ W.cell? ⟨w.heap.size, 2, none⟩ = some (.slice y.p0.1 y.p0.2.1 y.p0.2.2) ∧ W.cell? ⟨w.heap.size, 3, none⟩ = some (.slice y.p1.1 y.p1.2.1 y.p1.2.2) ∧ W.cell? ⟨w.heap.size, 4, none⟩ = some (.slice y.p2.1 y.p2.2.1 y.p2.2.2) ∧ W.cell? ⟨w.heap.size, 5, none⟩ = some (.bool eh) ∧ W.cell? ⟨w.heap.size, 6, none⟩ = some (.int .i64 ed) ∧ W.cell? ⟨w.heap.size, 7, none⟩ = some (.int .u32 ei) ∧ W.cell? ⟨wa.heap.size, 0, none⟩ = some (.int .i64 pin) ∧ W.cell? ⟨wa.heap.size, 1, none⟩ = some (.slice y'.pv.1 y'.pv.2.1 y'.pv.2.2) ∧ W.cell? ⟨wa.heap.size, 2, none⟩ = some (.slice y'.p0.1 y'.p0.2.1 y'.p0.2.2) ∧ W.cell? ⟨wa.heap.size, 3, none⟩ = some (.slice y'.p1.1 y'.p1.2.1 y'.p1.2.2) ∧ W.cell? ⟨wa.heap.size, 4, none⟩ = some (.slice y'.p2.1 y'.p2.2.1 y'.p2.2.2) ∧ W.cell? ⟨wa.heap.size, 5, none⟩ = some (.bool eh) ∧ W.cell? ⟨wa.heap.size, 6, none⟩ = some (.int .i64 ed) ∧ W.cell? ⟨wa.heap.size, 7, none⟩ = some (.int .u32 ei) from
    have e0 := (Kept.of_below (F := []) hb (Nat.le_refl _)).blk A (by simp)
    have e1 := (Kept.of_below (F := []) hb (Nat.le_refl _)).blk B (by simp)
    ⟨e0.cell 0, e0.cell 1, e0.cell 2, e0.cell 3, e0.cell 4, e0.cell 5, e0.cell 6, e0.cell 7, e1.cell 0, e1.cell 1, e1.cell 2, e1.cell 3, e1.cell 4, e1.cell 5, e1.cell 6, e1.cell 7⟩)
  have IN := Lib.hid (fun (W : World) (hb : Below wb.heap.size wb W) => And.intro (h.on (BB.out.trans (hb.mono BB.out.size))) (h'.on (BB.out.trans (hb.mono BB.out.size))))
  have HQ := Lib.hid hq
  obtain ⟨p0, p1, p2, p3, p4, p5, p6, p7, r0, r1, r2, r3, r4, r5, r6, r7⟩ := KEEP.out wb (Below.refl _ _)
  have HB0 := Lib.hid (Below.refl wb.heap.size wb)
  clear A B ba bb h h' hq
  go_enter Try.func16, Try.ntmps16
  go_wp2_with (first | (rw [hwa]) | (rw [hwb]) | fail)
  try rw [hwa]
  try rw [hwb]
  clear hwa hwb
  refine (same01 _ _ _ _ _ _ _ _ _ (IN.out wb HB0.out).1.vec (IN.out wb HB0.out).2.vec).mono ?_
  rintro e v1 ⟨z, rfl, hz, hb⟩
  obtain rfl : z = true := hz.2 (by rw [HQ.out])
  have HB1 := Lib.hid (below_on HB0.out hb)
  clear hz hb p0 p1 p2 p3 p4 p5 p6 p7 r0 r1 r2 r3 r4 r5 r6 r7
  obtain ⟨p0, p1, p2, p3, p4, p5, p6, p7, r0, r1, r2, r3, r4, r5, r6, r7⟩ := KEEP.out v1 HB1.out
  go_wp2_with (fail)
  refine (same03 _ _ _ _ _ _ _ _ _ (IN.out v1 HB1.out).1.all (IN.out v1 HB1.out).2.all).mono ?_
  rintro e v2 ⟨z, rfl, hz, hb⟩
  obtain rfl : z = true := hz.2 (by rw [HQ.out])
  have HB2 := Lib.hid (below_on HB1.out hb)
  clear hz hb p0 p1 p2 p3 p4 p5 p6 p7 r0 r1 r2 r3 r4 r5 r6 r7
  obtain ⟨p0, p1, p2, p3, p4, p5, p6, p7, r0, r1, r2, r3, r4, r5, r6, r7⟩ := KEEP.out v2 HB2.out
  go_wp2_with (fail)
  refine (same03 _ _ _ _ _ _ _ _ _ (IN.out v2 HB2.out).1.any (IN.out v2 HB2.out).2.any).mono ?_
  rintro e v3 ⟨z, rfl, hz, hb⟩
  obtain rfl : z = true := hz.2 (by rw [HQ.out])
  have HB3 := Lib.hid (below_on HB2.out hb)
  clear hz hb p0 p1 p2 p3 p4 p5 p6 p7 r0 r1 r2 r3 r4 r5 r6 r7
  obtain ⟨p0, p1, p2, p3, p4, p5, p6, p7, r0, r1, r2, r3, r4, r5, r6, r7⟩ := KEEP.out v3 HB3.out
  go_wp2_with (fail)
  refine (same03 _ _ _ _ _ _ _ _ _ (IN.out v3 HB3.out).1.none (IN.out v3 HB3.out).2.none).mono ?_
  rintro e v4 ⟨z, rfl, hz, hb⟩
  obtain rfl : z = true := hz.2 (by rw [HQ.out])
  have HB4 := Lib.hid (below_on HB3.out hb)
  clear hz hb p0 p1 p2 p3 p4 p5 p6 p7 r0 r1 r2 r3 r4 r5 r6 r7
  obtain ⟨p0, p1, p2, p3, p4, p5, p6, p7, r0, r1, r2, r3, r4, r5, r6, r7⟩ := KEEP.out v4 HB4.out
  have BF := Lib.hid (BB.out.trans (HB4.out.mono BB.out.size))
  go_wp2
  go_ret
  exact ⟨rfl, BF.out⟩
theorem ci_take_ok {w : World} {lo x : Nat} {F : List Nat} {s : CTab} (h : CIs w lo x F s) (owner n page now : Nat) (hn : n < 4294967296) (hp : page < 4294967296) (hnw : now < 4294967296) (c : CurV) (ho : s.own owner n = some c) (hm : c.may page = true) :
    Calls Try.prog 14 #[.pointer (some ⟨x, 0, none⟩), .int .u64 (owner : Int), .int .u32 (n : Int), .int .u32 (page : Int), .int .u32 (now : Int)] w fun e w' => ∃ y : QryL, y.q = c.q ∧ e = .returned (.tuple #[askA c.pin y (c.behind page), .int .i64 0]) ∧ y.Own w.heap.size w' ∧ CIs w' lo x F (s.turn { c with used := now }) ∧ Kept F w w' := by
  refine (ctake_any w lo x F s h owner n page now hn hp hnw).mono ?_
  rintro e w' (⟨he, -⟩ | ⟨-, c', y, ho', hm', hq, rfl, hy, hc, hk⟩)
  · exact absurd (takeE_ok ho hm) he
  · rw [ho] at ho'
    obtain rfl := Option.some.inj ho'
    rw [take_ok ho hm] at hc
    exact ⟨y, hq, rfl, hy, hc, hk⟩
def cuG (told : Nat) (ah la : EndV) : CurV := ⟨1, 1, 1, ⟨[2], [], [], []⟩, 0, told, ah, la⟩
def tbG (told : Nat) (ah la : EndV) : CTab := ⟨[cuG told ah la], 1, 5⟩
theorem tbG_own (told : Nat) (ah la : EndV) : (tbG told ah la).own 1 1 = some (cuG told ah la) := rfl
theorem cuG_next (told : Nat) (ah la : EndV) : (cuG told ah la).may (told + 1) = true ∧ (cuG told ah la).behind (told + 1) = la := by
  refine ⟨decide_eq_true ⟨Nat.succ_pos _, .inr rfl⟩, ?_⟩
  unfold CurV.behind
  exact if_neg (show ¬ told + 1 = told by omega)
theorem cuG_same (told : Nat) (ah la : EndV) : (cuG (told + 1) ah la).may (told + 1) = true ∧ (cuG (told + 1) ah la).behind (told + 1) = ah := by
  refine ⟨decide_eq_true ⟨Nat.succ_pos _, .inl rfl⟩, ?_⟩
  unfold CurV.behind
  exact if_pos rfl
theorem tbG_turn (told : Nat) (ah la : EndV) : (tbG told ah la).turn { cuG told ah la with used := 0 } = tbG told ah la := rfl
theorem tbG_told (told page : Nat) (ah la E : EndV) (l : List (Int × Int)) (hm : (cuG told ah la).may page = true) (hb : (cuG told ah la).behind page = E) : (tbG told ah la).told 1 page l = tbG page E (endOf E l) := by
  unfold CTab.told
  rw [show (tbG told ah la).at 1 = some (cuG told ah la) from rfl]
  simp only [hm, if_true]
  unfold CurV.tell
  rw [hb]
  rfl
def shHitss : Sh := .slice shHits 24
theorem fit_hitss : (shHitss.fit Try.prog).1 70 = true := by kernel_rfl
theorem Given.hitss14 {H : Type} {enc : TypeId × Value → H} {W : World} {base : Nat} {ts : Array TypeId} {args : Array Value} {ds : List (DataW H)} {p : List MemPlace} (g : Given enc Try.prog W base ts args ds p) (j : Nat) (ht : ts[j]? = some 70) :
    ∃ (a : Option Addr) (n c : Nat) (xs : List shHits.T), args[j]? = some (.slice a n c) ∧ Rd (· < W.heap.size) W shHitss [.slice a n c] xs := by
  obtain ⟨v, x, e1, hx⟩ := g.sh1 j ht shHitss fit_hitss (.inl ⟨_, Try.underlying70⟩)
  obtain ⟨a, n, c, hcs, _, _, h⟩ := Rd.slice_is (e := shHits) hx
  simp only [List.cons.injEq, and_true] at hcs
  subst hcs
  exact ⟨a, n, c, x, e1, h.mono fun _ _ hk => hk⟩
/-- What stays in the inner loop: the table, the ask that was told first. -/
def AgainS (w0 : World) (lo x : Nat) (F : List Nat) (g : Nat) (y : QryL) (E : EndV) (s : CTab) (w : World) : Prop := CIs w lo x F s ∧ Below w0.heap.size w0 w ∧ w0.heap.size ≤ lo ∧ Blk w g 49 (askC 1 y E) ∧ g ∉ F ∧ y.Own lo w ∧ (∀ b ∈ y.bs, b ∉ F) ∧ y.q = ⟨[2], [], [], []⟩
theorem AgainS.step {w0 w w' : World} {lo x g : Nat} {F : List Nat} {y : QryL} {E : EndV} {s s' : CTab} (h : AgainS w0 lo x F g y E s w) (hc : CIs w' lo x F s') (hk : Kept F w w') : AgainS w0 lo x F g y E s' w' := by
  obtain ⟨h1, h2, h3, h4, h5, h6, h7, h8⟩ := h
  exact ⟨hc, h2.trans ((h1.below hk).mono h3), h3, hk.blk h4 h5, h5, h6.kept hk h7, h7, h8⟩
theorem AgainS.on {w0 w w' : World} {lo x g : Nat} {F : List Nat} {y : QryL} {E : EndV} {s : CTab} (h : AgainS w0 lo x F g y E s w) (hb : Below w.heap.size w w') : AgainS w0 lo x F g y E s w' := h.step (h.1.on hb) (Kept.of_below hb (Nat.le_refl _))
set_option maxRecDepth 100000 in
set_option maxHeartbeats 12800000 in
theorem again_walk (a : Option Addr) (n c : Nat) (xs : List shHits.T) (times : Nat) (w : World) (hx : Rd (· < w.heap.size) w shHitss [.slice a n c] xs) :
    Calls Try.prog 4 #[.slice a n c, .int .u8 (times : Int)] w fun e w' => e = .returned (.bool true) ∧ Below w.heap.size w w' := by
  have HX := Lib.hid hx
  clear hx
  obtain ⟨tm, htm⟩ : ∃ tm, times % 4 = tm := ⟨_, rfl⟩
  have htm4 : tm < 4 := by omega
  have htmI : (times : Int) % 4 = (tm : Int) := by omega
  have htmT : Int.tmod (times : Int) 4 = (tm : Int) := by rw [← htm]; exact (Int.ofNat_tmod times 4).symm
  clear htm
  go_enter Try.func4, Try.ntmps4
  go_wp2_with (fail)
  refine (alive14 w).mono ?_
  rintro e w1 ⟨rfl, hb1⟩
  go_wp2_with (fail)
  refine (c_new w w1 hb1 5 (by decide)).mono ?_
  rintro e w2 ⟨x, rfl, h2⟩
  have H2 := Lib.hid h2
  clear hb1 h2
  go_wp2_with (fail)
  refine (c_open H2.out ((Below.refl _ w2).alloc (Nat.le_refl _) _) (by decide) 1 0 1 (by decide) (by decide) (oneQ w2.heap.size 2) (oneQ_in w.heap.size w2 2 rfl)).mono ?_
  rintro e w3 ⟨s0, gone, hs, rfl, h3, -⟩
  rcases hs with ⟨-, rfl, rfl⟩ | ⟨hl, -⟩
  rotate_left
  · exact absurd hl (show ¬ 8 ≤ 0 by decide)
  obtain ⟨lo, F, h4, -, hlo, hb3⟩ := h3
  have H3 := Lib.hid (show CIs w3 lo x F (tbG 0 EndV.nil EndV.nil) ∧ Below w.heap.size w w3 from ⟨h4, hb3⟩)
  have HLO := Lib.hid hlo
  clear h4 hb3 hlo H2
  rw [show (({ cs := [], last := 0, idle := 5 } : CTab).last + 1) = 1 from rfl]
  go_wp2
  go_loopw [8] (fun s8 wr => ∃ (i : Nat) (ah la : EndV), s8 = .int .i64 (i : Int) ∧ i ≤ 20 ∧ Hid (CIs wr lo x F (tbG i ah la) ∧ Below w.heap.size w wr)) (fun s8 _ => 20 - (intOf s8).toNat)
  case atStart => exact ⟨0, EndV.nil, EndV.nil, rfl, by omega, H3.out⟩
  case round =>
    clear H3
    obtain ⟨i, ah, la, rfl, hi20, HS⟩ := hrel
    go_upto_region 6 with fail
    go_cut [32] (fun s32 wx => ∃ z : Bool, s32 = .bool z ∧ Hid (z = true ↔ (i < n ∧ i < 20)) ∧ wx = wr)
    case first =>
      by_cases hin : i < n
      · by_cases hi10 : i < 20
        · have hd1 : decide ((i : Int) < 20) = true := decide_eq_true (by omega)
          go_wp2
          go_meet
          exact ⟨true, rfl, by simp [Hid]; omega, rfl⟩
        · have hd1 : decide ((i : Int) < 20) = false := decide_eq_false (by omega)
          go_wp2
          go_meet
          exact ⟨false, rfl, by simp [Hid]; omega, rfl⟩
      · go_wp2
        go_meet
        exact ⟨false, rfl, by simp [Hid]; omega, rfl⟩
    case rest =>
      obtain ⟨z, rfl, HZI, rfl⟩ := hcut
      rename World => wq
      cases z
      rotate_left
      · obtain ⟨hin, hi2⟩ := HZI.out.1 rfl
        clear HZI
        obtain ⟨b, off, hs, vs, rfl, hbl, -, hsx, -, hcv, hrd⟩ := Rd.elem (e := shHits) HX.out i hin
        obtain ⟨ha, hn, hc, rfl, hlen, -, hrd⟩ := Rd.slice_is (e := shHit) hrd
        obtain ⟨hq1, hq2⟩ := hitsQ_of hrd
        have HQ := Lib.hid (And.intro hq1 hq2)
        have hc0 := hcv 0 (by decide)
        have KEEP := Lib.hid (fun (wz : World) (hb : Below w.heap.size w wz) => show wz.cell? ⟨b, off + i, none⟩ = some (.slice ha hn hc) ∧ b < wz.heap.size ∧ HitsQ wz ha hn (pairsQ hs) from
          ⟨(hb.cell (p := ⟨b, off + i, none⟩) hbl).trans (by simpa [Sh.cells, shHits] using hc0), Nat.lt_of_lt_of_le hbl hb.size, hq1.on hb⟩)
        clear hcv hrd hq1 hq2 hc0 hlen hsx
        obtain ⟨pg, hpg⟩ : ∃ pg, i + 1 = pg := ⟨_, rfl⟩
        have hpw : IntKind.u32.wrap ((i : Int) + 1) = (pg : Int) := by rw [IntKind.wrap_u32]; omega
        have hpw2 : IntKind.i64.wrap ((i : Int) + 1) = (pg : Int) := by rw [IntKind.wrap_i64]; omega
        have hpw3 : IntKind.u32.wrap (pg : Int) = (pg : Int) := by rw [IntKind.wrap_u32]; omega
        have hpg32 : pg < 4294967296 := by omega
        obtain ⟨m1, m2⟩ := cuG_next i ah la
        rw [hpg] at m1 m2
        have HT := Lib.hid (ci_take_ok HS.out.1 1 1 pg 0 (by decide) hpg32 (by decide) (cuG i ah la) (tbG_own i ah la) m1)
        have HSl := Lib.hid (fun b hb => (HS.out.1.lt b hb).2)
        have HPG := Lib.hid hpg
        go_wp2_with (fail)
        refine HT.out.mono ?_
        rintro e w4 ⟨y, hyq, rfl, hyo, hc4, hk4⟩
        rw [tbG_turn] at hc4
        rw [m2]
        unfold askA
        obtain ⟨⟨eh, ed, ei⟩, hE⟩ : ∃ E, la = E := ⟨_, rfl⟩
        rw [hE, show (cuG i ah ⟨eh, ed, ei⟩).pin = 1 from rfl]
        obtain ⟨wz, w5, hwz, hwn, ⟨qz0, qz1, qz2, qz3, qz4, qz5, qz6, qz7, qf0, qf1, qf2, qf3, qf4, qf5, qf6, qf7⟩, b5, a5⟩ := ask_cell w4 1 y eh ed ei
        have HG := Lib.hid (show AgainS w lo x F w4.heap.size y ⟨eh, ed, ei⟩ (tbG i ah la) w5 from by
          have hs4 := hk4.size
          have hlw : lo ≤ wq.heap.size := HS.out.1.size1
          have hyo2 : y.Own lo w4 := ⟨row_to hyo.vec hlw (Below.refl _ _), hyo.wv, hyo.lv, hyo.all.to hlw (Below.refl _ _), hyo.any.to hlw (Below.refl _ _), hyo.none.to hlw (Below.refl _ _)⟩
          refine ⟨hc4.on b5, (HS.out.2.trans ((HS.out.1.below hk4).mono HLO.out)).trans (b5.mono ?_), HLO.out, a5, fun hF => ?_, hyo2.on b5, fun b hb hF => ?_, hyq⟩
          · exact Nat.le_trans HS.out.2.size hs4
          · have := HSl.out _ hF
            omega
          · have h5 := (hyo.lt b hb).1
            have h6 := HSl.out _ hF
            omega)
        have HE := Lib.hid hE
        clear hyq hyo hc4 hk4 b5 a5 HT HSl m1 m2 hpg hE
        go_wp2_with (first | (rw [hwz]) | (rw [hwn]) | fail)
        try rw [hwz]
        try rw [hwn]
        clear hwz hwn qz0 qz1 qz2 qz3 qz4 qz5 qz6 qz7 qf0 qf1 qf2 qf3 qf4 qf5 qf6 qf7
        go_loopw [12, 13, 14] (fun s12 s13 s14 wr2 => ∃ (k td : Nat) (ah2 la2 : EndV) (u13 u14 : Value), s12 = .int .i64 (k : Int) ∧ s13 = u13 ∧ s14 = u14 ∧ k ≤ 1 + tm ∧ Hid (AgainS w lo x F w4.heap.size y ⟨eh, ed, ei⟩ (tbG td ah2 la2) wr2) ∧ Hid ((k = 0 ∧ td = i ∧ la2 = ⟨eh, ed, ei⟩) ∨ (td = pg ∧ ah2 = ⟨eh, ed, ei⟩))) (fun s12 _ _ _ => 1 + tm - (intOf s12).toNat)
        case atStart => exact ⟨0, i, ah, la, _, _, rfl, rfl, rfl, by omega, HG.out, .inl ⟨rfl, rfl, HE.out⟩⟩
        case round =>
          clear HG HS
          obtain ⟨k, td, ah2, la2, u13, u14, rfl, rfl, rfl, hk, HG, HC⟩ := hrel
          rename World => wr2
          have htw : IntKind.i64.wrap (1 + (tm : Int)) = ((1 + tm : Nat) : Int) := by rw [IntKind.wrap_i64]; omega
          by_cases hkl : k < 1 + tm
          · have hmb : (cuG td ah2 la2).may pg = true ∧ (cuG td ah2 la2).behind pg = ⟨eh, ed, ei⟩ := by
              rcases HC.out with ⟨-, rfl, rfl⟩ | ⟨rfl, rfl⟩
              · rw [← HPG.out]
                exact cuG_next _ _ _
              · rw [← HPG.out]
                exact cuG_same _ _ _
            have KK := KEEP.out wr2 HG.out.2.1
            obtain ⟨kc, kl, kh⟩ := KK
            have CT := Lib.hid (ctold_any wr2 lo x F _ HG.out.1 1 pg (by decide) hpg32 ha hn hc (pairsQ hs) kh (fun h0 b off e hF => by
              have h1 := HQ.out.2 h0 b off e
              have h2 := (HG.out.1.lt b hF).1
              have h3 := HLO.out
              omega))
            rw [tbG_told td pg ah2 la2 _ (pairsQ hs) hmb.1 hmb.2] at CT
            obtain ⟨l2, hl2⟩ : ∃ l2, endOf ⟨eh, ed, ei⟩ (pairsQ hs) = l2 := ⟨_, rfl⟩
            rw [hl2] at CT
            clear hmb kh hl2
            go_wp2_with (fail)
            refine CT.out.mono ?_
            rintro e w6 ⟨rfl, hc6, hk6⟩
            have HG6 := Lib.hid (HG.out.step hc6 hk6)
            obtain ⟨m1, m2⟩ := cuG_same i ⟨eh, ed, ei⟩ l2
            rw [HPG.out] at m1 m2
            have HT := Lib.hid (ci_take_ok HG6.out.1 1 1 pg 0 (by decide) hpg32 (by decide) (cuG pg ⟨eh, ed, ei⟩ l2) (tbG_own pg _ l2) m1)
            clear hc6 hk6 CT HG HC kc kl
            go_wp2_with (fail)
            refine HT.out.mono ?_
            rintro e w7 ⟨y2, hyq, rfl, hyo, hc7, hk7⟩
            rw [tbG_turn] at hc7
            rw [m2]
            unfold askA
            rw [show (cuG pg ⟨eh, ed, ei⟩ l2).pin = 1 from rfl]
            obtain ⟨wz, w8, hwz, hwn, ⟨qz0, qz1, qz2, qz3, qz4, qz5, qz6, qz7, qf0, qf1, qf2, qf3, qf4, qf5, qf6, qf7⟩, b8, a8⟩ := ask_cell w7 1 y2 eh ed ei
            have HG8 := Lib.hid ((HG6.out.step hc7 hk7).on b8)
            have SM := Lib.hid (same14 w8 1 y y2 eh ed ei (fun _ => True) (fun _ => True) (HG8.out.2.2.2.2.2.1.inn (fun _ _ => trivial)) ((hyo.on b8).inn (fun _ _ => trivial)) (by rw [HG8.out.2.2.2.2.2.2.2, hyq]; rfl))
            have p0 := HG8.out.2.2.2.1.cell 0
            have p1 := HG8.out.2.2.2.1.cell 1
            have p2 := HG8.out.2.2.2.1.cell 2
            have p3 := HG8.out.2.2.2.1.cell 3
            have p4 := HG8.out.2.2.2.1.cell 4
            have p5 := HG8.out.2.2.2.1.cell 5
            have p6 := HG8.out.2.2.2.1.cell 6
            have p7 := HG8.out.2.2.2.1.cell 7
            have r0 := a8.cell 0
            have r1 := a8.cell 1
            have r2 := a8.cell 2
            have r3 := a8.cell 3
            have r4 := a8.cell 4
            have r5 := a8.cell 5
            have r6 := a8.cell 6
            have r7 := a8.cell 7
            simp only [askC, List.getElem?_cons_zero, List.getElem?_cons_succ] at p0 p1 p2 p3 p4 p5 p6 p7 r0 r1 r2 r3 r4 r5 r6 r7
            clear hyq hyo hc7 hk7 b8 a8 HT HG6 m1 m2
            go_wp2_with (first | (rw [hwz]) | (rw [hwn]) | fail)
            try rw [hwz]
            try rw [hwn]
            clear hwz hwn qz0 qz1 qz2 qz3 qz4 qz5 qz6 qz7 qf0 qf1 qf2 qf3 qf4 qf5 qf6 qf7
            refine SM.out.mono ?_
            rintro e w9 ⟨rfl, b9⟩
            have HG9 := Lib.hid (HG8.out.on b9)
            clear b9 SM HG8 p0 p1 p2 p3 p4 p5 p6 p7 r0 r1 r2 r3 r4 r5 r6 r7
            go_wp2
            go_roundw
            case rel => exact ⟨k + 1, pg, _, l2, _, _, by go_num, rfl, rfl, by omega, HG9.out, .inr ⟨rfl, rfl⟩⟩
            case measure => simp [intOf]; omega
          · have hHC : td = pg := by
              rcases HC.out with ⟨h0, -⟩ | ⟨h0, -⟩
              · omega
              · exact h0
            have HF := Lib.hid (show CIs wr2 lo x F (tbG pg ah2 la2) ∧ Below w.heap.size w wr2 from hHC ▸ ⟨HG.out.1, HG.out.2.1⟩)
            clear hHC HC HG
            go_wp2
            go_roundw
            case rel => exact ⟨pg, ah2, la2, by go_num, by have := HPG.out; omega, HF.out⟩
            case measure => have := HPG.out; simp [intOf]; omega
      · clear HZI
        have BF := Lib.hid HS.out.2
        go_wp2
        go_ret
        exact ⟨rfl, BF.out⟩
theorem again_row : Rows.CursorAgainSaid :=
  OpenClaim.holds_of_wide 4 Try.f4 rfl rfl rfl rfl rfl rfl rfl ⟨rfl, rfl, rfl, rfl, rfl⟩ rfl rfl rfl rfl rfl (by kernel_rfl) Try.func4 (by kernel_rfl)
    (of_decide_eq_true (by kernel_rfl)) (by unfold Func.isWrapper; rw [if_neg (of_decide_eq_false (by kernel_rfl))]; exact ⟨rfl, rfl⟩)
    (fun os started H enc _ => lift (C := Try.checked) (s := Rows.cursorAgainSpec) (conds := Rows.cursorAgainRow.domain) os started H enc prog_own (by kernel_rfl) Try.func4 prog_laid rfl Try.underlying4 rfl
      (fun ds hl => by
        have hl : ds.length = 2 := hl
        match ds, hl with
        | [_, _], _ => rfl)
      (of_decide_eq_true (by kernel_rfl))
      (ChangeSpec.witness6 (enc := enc) (C := Try.checked) false ⟨#[], #[.slice none 0 0, .int .u8 0], []⟩ 8 (by kernel_rfl) (by kernel_rfl) (by kernel_rfl) (by kernel_rfl))
      (fun W base args ds p g => by
        rw [Try.params4] at g
        obtain ⟨a, n, c, xs, e0, hx⟩ := g.hitss14 0 rfl
        obtain ⟨times, e1, _⟩ := g.u8 1 rfl Try.underlying5
        rw [args2 g.count e0 e1]
        exact again_walk a n c xs times W hx))
end Go.Proofs.Ytnmfnppndohcbaa
