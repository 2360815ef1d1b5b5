/-
  The document's past: Sweep, by a walk over its text.
-/
import Derived.Test.YtdmnflncgmnghaaGreatJa
import Derived.Deep.QuietTactic
namespace Go.Proofs.YtdmnflncgmnghaaGreat
open Go.RowKit

theorem u64_info8 : (Tryz.prog.info? 27).map (fun i => (i.zero, i.size, i.bytes)) = some (some (.int .u64 0), 1, 8) := by kernel_rfl
theorem filter_next {l : List Nat} {i x : Nat} (h : l[i]? = some x) (p : Nat → Bool) : (l.take (i + 1)).filter p = if p x then (l.take i).filter p ++ [x] else (l.take i).filter p := by
  rw [List.take_add_one, h, List.filter_append]
  cases hp : p x <;> simp [hp]
/-- A list of versions that came in. -/
def VersIn (w : World) (B : Nat) (a : Option Addr) (n c : Nat) (l : List Nat) : Prop := l.length = n ∧ n ≤ c ∧ n ≤ 100000 ∧ ∀ (i x : Nat), l[i]? = some x → x < 18446744073709551616 ∧ ∃ b off, a = some ⟨b, off, none⟩ ∧ b < B ∧ b < w.heap.size ∧ w.cell? ⟨b, off + i, none⟩ = some (.int .u64 (x : Int))
theorem VersIn.under {w w' : World} {B n c : Nat} {a : Option Addr} {l : List Nat} (h : VersIn w B a n c l) (hb : Below B w w') : VersIn w' B a n c l := by
  obtain ⟨h1, h2, h3, h4⟩ := h
  refine ⟨h1, h2, h3, fun i x hx => ?_⟩
  obtain ⟨h5, b, off, rfl, hB, hw, hc⟩ := h4 i x hx
  exact ⟨h5, b, off, rfl, hB, Nat.lt_of_lt_of_le hw hb.size, (World.cell?_of_block (hb.block b hB)).trans hc⟩
/-- What Sweep leaves. -/
def SweepPost (B lo g : Nat) (L : List RowL) (last floor : Nat) (kept keep : List Nat) (w : World) (e : Ending) (w' : World) : Prop :=
  ∃ (u' k' : Value) (L' : List RowL) (kept' : List Nat) (code : Nat), e = .returned (.int .i64 (code : Int)) ∧ PastR w' B lo g u' k' L' last last kept' ∧ (PastR.st L last floor kept).sweep keep = (PastR.st L' last last kept', code) ∧ Kept [g] w w' ∧ (∀ x, u'.ownBlock = some x → w.heap.size ≤ x) ∧ (∀ x, k'.ownBlock = some x → w.heap.size ≤ x)

theorem sweepI_next {L acc : List RowL} {last i : Nat} {ks : List Nat} {r : RowL} (h : L[i]? = some r) (ha : rowsV acc = sweepI (rowsV L) last ks i) {nd el : Bool} (hn : nd = needP (rowsV L) last ks r.toR i) (he : el = acc.any fun s => s.id == r.id) :
    sweepI (rowsV L) last ks (i + 1) = if nd && (!r.gone || el) then rowsV (acc ++ [r]) else rowsV acc := by
  have hr : (rowsV L)[i]? = some r.toR := by rw [rowsV, List.getElem?_map, h]; rfl
  have e : ((rowsV acc).any fun s => s.item.id == r.toR.item.id) = el := by
    rw [he, rowsV, List.any_map]
    rfl
  rw [sweepI, hr]
  simp only
  rw [← ha, e, ← hn]
  have e2 : rowsV acc ++ [r.toR] = rowsV (acc ++ [r]) := by simp [rowsV]
  rw [e2]
  rfl
/-- What a sweep leaves behind its last stores. -/
theorem sweep_end {w wr : World} {B lo g last floor : Nat} {u k v kv : Value} {L acc : List RowL} {kept keep ks : List Nat} (hp : PastR w B lo g u k L last floor kept) (hpw : PastR wr B lo g u k L last floor kept) (hb : Below w.heap.size w wr) {lo2 : Nat} (hlo2 : w.heap.size ≤ lo2) (hr : RowC lo2 wr 131 5 v (acc.map RowL.cells)) (hk : RowC w.heap.size wr 27 1 kv (keptC ks))
    (hks : keep.filter (PastR.st L last floor kept).known = ks) (hkb : ∀ x ∈ ks, x < 18446744073709551616) (hkl : ks.length ≤ 100000) (ha : rowsV acc = sweepI (rowsV L) last ks L.length) (hal : acc.length ≤ L.length) (hin : ∀ r ∈ acc, r.In (· < B) w) :
    SweepPost B lo g L last floor kept keep w (.returned (.int .i64 ((L.length - acc.length : Nat) : Int))) (((wr.setCell ⟨g, 0, none⟩ v).setCell ⟨g, 3, none⟩ kv).setCell ⟨g, 2, none⟩ (.int .u64 (last : Int))) := by
  have hlo : lo ≤ w.heap.size := by
    have := hp.glo
    have := hp.blk.lt
    omega
  have hBl := hp.hB
  have hg := hp.glo
  have k9 : Kept [g] wr (((wr.setCell ⟨g, 0, none⟩ v).setCell ⟨g, 3, none⟩ kv).setCell ⟨g, 2, none⟩ (.int .u64 (last : Int))) := (((Kept.refl [g] wr).setCell _ _ (.inl (by simp))).setCell _ _ (.inl (by simp))).setCell _ _ (.inl (by simp))
  have hvg := row_blk8 hr.2 hpw.blk (by decide)
  have hkg := row_blk8 hk.2 hpw.blk (by decide)
  refine ⟨v, kv, acc, ks, L.length - acc.length, rfl, ⟨((hpw.blk.set 0 v).set 3 kv).set 2 _, (hr.kept k9 (fun x hx hh => hvg (by rw [hx]; simpa using hh))).mono (by omega), fun r hr' => ?_, (hk.kept k9 (fun x hx hh => hkg (by rw [hx]; simpa using hh))).mono hlo, hp.hlast, hp.hlast, hkb, by have := hp.hL; omega, hkl, hp.glo, hp.hB⟩, ?_, (Kept.of_below hb (Nat.le_refl _)).trans k9 (Grows.refl _ _), fun x hx => Nat.le_trans hlo2 (hr.lt x hx).1, fun x hx => (hk.lt x hx).1⟩
  · exact (hin r hr').under ((hb.mono (by omega)).trans (k9.below (fun x hx => by
      have : x = g := by simpa using hx
      omega) (by have := hb.size; omega)))
  · show (PastV.sweep (PastR.st L last floor kept) keep) = _
    unfold PastV.sweep
    have e1 : (PastR.st L last floor kept).rows = rowsV L := rfl
    simp only [e1, hks, rowsV_len]
    rw [show (PastR.st L last floor kept).last = last from rfl, ← ha, rowsV_len]
    rfl

set_option maxRecDepth 100000 in
set_option maxHeartbeats 12800000 in
theorem rsweep_any (w : World) (B lo g : Nat) (u k : Value) (L : List RowL) (last floor : Nat) (kept : List Nat) (ka : Option Addr) (kn kc : Nat) (keep : List Nat) (h : PastR w B lo g u k L last floor kept) (hk : VersIn w B ka kn kc keep) :
    Calls Tryz.prog 60 #[.pointer (some ⟨g, 0, none⟩), .slice ka kn kc] w fun e w' => SweepPost B lo g L last floor kept keep w e w' := by
  have hBw : B ≤ w.heap.size := by have := h.hB; have := h.glo; have := h.blk.lt; omega
  obtain ⟨a, c, rfl, hnc⟩ := h.u_form
  have hL := h.hL
  have hkn := hk.2.2.1
  have HP := Lib.hid h
  have HK := Lib.hid hk
  have HBW := Lib.hid hBw
  clear h hk hBw
  obtain ⟨n, hn⟩ : ∃ n, L.length = n := ⟨_, rfl⟩
  have HN := Lib.hid hn
  rw [hn] at HP hnc hL
  clear hn
  go_enter Tryz.func60, Tryz.ntmps60
  go_wp2_with (fail)
  go_loopw [5, 6] (fun s5 s6 wr => ∃ i : Nat, s6 = .int .i64 i ∧ i ≤ kn ∧ Hid (RowC w.heap.size wr 27 1 s5 (keptC ((keep.take i).filter (PastR.st L last floor kept).known))) ∧ Hid (Below w.heap.size w wr)) (fun _ s6 _ => kn - (intOf s6).toNat)
  case atStart => exact ⟨0, rfl, by omega, RowC.nil _ _ _ _, Below.refl _ _⟩
  case round =>
    obtain ⟨i, rfl, hi, HR, HB⟩ := hrel
    have PW := Lib.hid (HP.out.on HB.out)
    have KW := Lib.hid (HK.out.under (HB.out.mono HBW.out))
    have hws := HB.out.size
    obtain ⟨a5, c5, rfl, h5⟩ := HR.out.form
    obtain ⟨q, hq⟩ : ∃ q, (keptC ((keep.take i).filter (PastR.st L last floor kept).known)).length = q := ⟨_, rfl⟩
    have HQ := Lib.hid (show ((keep.take i).filter (PastR.st L last floor kept).known).length = q from by rw [← hq, keptC, List.length_map])
    rw [hq] at HR h5 ⊢
    clear hq
    by_cases hin : i < kn
    · obtain ⟨x, hx⟩ : ∃ x, keep[i]? = some x := ⟨_, List.getElem?_eq_getElem (by rw [KW.out.1]; exact hin)⟩
      obtain ⟨hx64, b, off, rfl, _, hbw, kx⟩ := KW.out.2.2.2 i x hx
      have HX := Lib.hid hx64
      have FN := Lib.hid (filter_next hx (PastR.st L last floor kept).known)
      have hql : q ≤ i := by
        have h1 := HQ.out
        have h2 := List.length_filter_le (PastR.st L last floor kept).known (keep.take i)
        rw [List.length_take] at h2
        omega
      clear hx hx64
      go_wp2_with (fail)
      refine (rknown_any wr B lo g _ k L last floor kept x HX.out PW.out).mono ?_
      rintro e w2 ⟨rfl, hw2⟩
      have hw2' := hw2.symm
      subst hw2'
      clear hw2
      cases hz : (PastR.st L last floor kept).known x
      · have N2 := Lib.hid (show RowC w.heap.size wr 27 1 (.slice a5 q c5) (keptC ((keep.take (i + 1)).filter (PastR.st L last floor kept).known)) from by rw [FN.out, hz]; exact HR.out)
        clear hz
        go_wp2
        go_roundw
        case rel => exact ⟨i + 1, by go_num, by omega, N2.out, HB.out⟩
        case measure => simp [intOf]; omega
      · have FN2 := Lib.hid (show keptC ((keep.take (i + 1)).filter (PastR.st L last floor kept).known) = keptC ((keep.take i).filter (PastR.st L last floor kept).known) ++ [[.int .u64 (x : Int)]] from by rw [FN.out, hz]; simp [keptC])
        have HQK := Lib.hid (show (keptC ((keep.take i).filter (PastR.st L last floor kept).known)).length = q from by rw [keptC, List.length_map]; exact HQ.out)
        clear hz FN
        obtain ⟨css, hcss⟩ : ∃ css, keptC ((keep.take i).filter (PastR.st L last floor kept).known) = css := ⟨_, rfl⟩
        rw [hcss] at HR FN2 HQK
        clear hcss
        go_wp2_with (at_builtin; go_must (refine app_c (k := 1) (css := css) wr rfl (.tmp 27) (.tmp 32) 47 rfl Tryz.underlying47 (.int .u64 0) 8 u64_info8 rfl (by decide) [.int .u64 (x : Int)] (by rfl) (by rfl) HR.out rfl (by simp [Value.oneCell']) hws (by rw [HQK.out]; omega) (by rw [HQK.out]; omega) ?_))
        intro v7 w7 hr7 hk7 _
        have N2 := Lib.hid (show RowC w.heap.size w7 27 1 v7 (keptC ((keep.take (i + 1)).filter (PastR.st L last floor kept).known)) from by rw [FN2.out]; exact hr7)
        have B7 := Lib.hid (HB.out.trans (hk7.below (fun x hx => (HR.out.lt x (mem_ownB.1 hx)).1) hws))
        clear hr7 hk7 HR HB
        go_wp2
        go_roundw
        case rel => exact ⟨i + 1, by go_num, by omega, N2.out, B7.out⟩
        case measure => simp [intOf]; omega
    · have hik : i = kn := by omega
      subst hik
      obtain ⟨ks, hks⟩ : ∃ ks, keep.filter (PastR.st L last floor kept).known = ks := ⟨_, rfl⟩
      have HKS := Lib.hid hks
      have HTK := Lib.hid (show keep.take i = keep from List.take_of_length_le (by rw [HK.out.1]; exact Nat.le_refl _))
      rw [HTK.out, hks] at HR HQ
      have KB := Lib.hid (show ∀ x ∈ ks, x < 18446744073709551616 from fun x hx => by
        rw [← HKS.out] at hx
        obtain ⟨j, hj⟩ := List.getElem?_of_mem (List.mem_filter.1 hx).1
        exact (KW.out.2.2.2 j x hj).1)
      have hql : q ≤ i := by
        have h1 := HQ.out
        have h2 := List.length_filter_le (PastR.st L last floor kept).known keep
        rw [HKS.out, HK.out.1] at h2
        omega
      clear hks PW KW HTK hin
      generalize wr = w1 at *
      go_wp2_with (fail)
      go_loopw [7, 8] (fun s7 s8 wr => ∃ (i : Nat) (acc : List RowL), s8 = .int .i64 i ∧ i ≤ n ∧ acc.length ≤ i ∧ Hid (RowC w1.heap.size wr 131 5 s7 (acc.map RowL.cells)) ∧ Hid (Below w1.heap.size w1 wr) ∧ Hid (rowsV acc = sweepI (rowsV L) last ks i) ∧ Hid (∀ r ∈ acc, r.In (· < B) w)) (fun _ s8 _ => n - (intOf s8).toNat)
      case atStart => exact ⟨0, [], rfl, by omega, by simp, RowC.nil _ _ _ _, Below.refl _ _, rfl, by simp [Hid]⟩
      case round =>
        obtain ⟨i2, acc, rfl, hi2, hacc, HRW, HB2, HS2, HI2⟩ := hrel
        have BW := Lib.hid (HB.out.trans (HB2.out.mono hws))
        have PW := Lib.hid (HP.out.on BW.out)
        have VW := Lib.hid (HR.out.on HB2.out)
        have c0 : wr.cell? ⟨g, 0, none⟩ = some (.slice a n c) := PW.out.blk.cell 0
        have hgl : g < wr.heap.size := PW.out.blk.lt
        have hwr := HB2.out.size
        by_cases hin : i2 < n
        · obtain ⟨r, gu, c', hr, hmem, e, hgu, k0, k1, k2, hrg⟩ := PW.out.rowAt i2 (by rw [HN.out]; exact hin)
          rw [HN.out] at e
          simp only [Value.slice.injEq] at e
          obtain ⟨rfl, -, rfl⟩ := e
          have k3 : wr.cell? ⟨gu, i2 * 5 + 3, none⟩ = some (.slice r.pv.1 r.pv.2.1 r.pv.2.2) := hrg 3 _ rfl
          have k4 : wr.cell? ⟨gu, i2 * 5 + 4, none⟩ = some (.slice r.pt.1 r.pt.2.1 r.pt.2.2) := hrg 4 _ rfl
          have HRR := Lib.hid hr
          have RI := Lib.hid (HP.out.each r hmem)
          clear hr hmem hrg
          obtain ⟨w3, hw3⟩ : ∃ w3, wr.alloc (.cells #[.int .u64 (r.v : Int), .bool r.gone, .int .u32 (r.id : Int), .slice r.pv.1 r.pv.2.1 r.pv.2.2, .slice r.pt.1 r.pt.2.1 r.pt.2.2] 131) = w3 := ⟨_, rfl⟩
          have b3 : Below wr.heap.size wr w3 := by rw [← hw3]; exact (Below.refl _ _).alloc (Nat.le_refl _) _
          have BX := Lib.hid (show Blk w3 wr.heap.size 131 r.cells from by rw [← hw3]; exact Blk.new wr 131 r.cells.toArray)
          have P3 := Lib.hid (PW.out.on b3)
          have V3 := Lib.hid (VW.out.on b3)
          have R3 := Lib.hid (HRW.out.on b3)
          have B3 := Lib.hid (below_on HB2.out b3)
          have hs3 : wr.heap.size < w3.heap.size := BX.out.lt
          have HLL := Lib.hid P3.out.hlast
          clear b3 PW VW HRW BW
          go_upto_region 12 with fail
          try rw [hw3]
          clear hw3 k0 k1 k2 k3 k4 c0
          have d2 : w3.cell? ⟨wr.heap.size, 2, none⟩ = some (.int .u32 (r.id : Int)) := BX.out.cell 2
          have c1 : w3.cell? ⟨g, 1, none⟩ = some (.int .u64 (last : Int)) := P3.out.blk.cell 1
          obtain ⟨p, hp⟩ : ∃ p, atP (rowsV L) r.id last = p := ⟨_, rfl⟩
          have HPP := Lib.hid hp
          have AT := Lib.hid (show ∀ m, Calls Tryz.prog 87 #[.pointer (some ⟨g, 0, none⟩), .int .u32 (r.id : Int), .int .u64 (last : Int)] (w3.drewN m) fun e w' => e = .returned (.int .i64 p) ∧ w' = w3.drewN m from fun m => by
            rw [← hp]
            exact rat_any _ B lo g _ k L last floor kept r.id last HLL.out (P3.out.on (below_draws (Below.refl _ _) m)))
          clear hp
          go_cut [10] (fun s10 wx => s10 = .bool (decide (p = (i2 : Int))) ∧ Hid (Below w3.heap.size w3 wx))
          case first =>
            go_quiet (first | (go_at_call 87; refine Calls.quiet_of_same (AT.out _)))
            go_wp2
            go_meet
            exact ⟨rfl, below_draws (Below.refl _ _) _⟩
          case rest =>
            obtain ⟨rfl, HBc⟩ := hcut
            have B4 := HBc
            generalize wc = w4 at *
            obtain ⟨nd0, hnd0⟩ : ∃ nd0, decide (p = (i2 : Int)) = nd0 := ⟨_, rfl⟩
            have HND0 := Lib.hid hnd0
            rw [hnd0]
            clear hnd0 HBc AT d2 c1
            have hw4 := B4.out.size
            generalize wr = wo at *
            go_wp2_with (fail)
            go_loopw [10, 11] (fun s10 s11 wr => ∃ (j : Nat) (nd : Bool), s10 = .bool nd ∧ s11 = .int .i64 j ∧ j ≤ q ∧ Hid (nd = (nd0 || (ks.take j).any fun x => decide (atP (rowsV L) r.id x = (i2 : Int)))) ∧ Hid (Below w3.heap.size w3 wr)) (fun _ s11 _ => q - (intOf s11).toNat)
            case atStart => exact ⟨0, nd0, rfl, rfl, by omega, by simp [Hid], B4.out⟩
            case round =>
              obtain ⟨j, nd, rfl, rfl, hj, HNd, HB5⟩ := hrel
              have P5 := Lib.hid (P3.out.on HB5.out)
              have X5 := Lib.hid ((Kept.of_below (F := []) HB5.out (Nat.le_refl _)).blk BX.out (by simp))
              have V5 := Lib.hid (V3.out.on HB5.out)
              have hw5 := HB5.out.size
              have d2 : wr.cell? ⟨wo.heap.size, 2, none⟩ = some (.int .u32 (r.id : Int)) := X5.out.cell 2
              by_cases hjq : j < q
              · obtain ⟨x, hx⟩ : ∃ x, ks[j]? = some x := ⟨_, List.getElem?_eq_getElem (by rw [HQ.out]; exact hjq)⟩
                obtain ⟨gk, ck, ek, _, _, hrk⟩ := V5.out.at j [.int .u64 (x : Int)] (by rw [keptC, List.getElem?_map, hx]; rfl)
                rw [show (keptC ks).length = q from by rw [keptC, List.length_map]; exact HQ.out] at ek
                simp only [Value.slice.injEq] at ek
                obtain ⟨rfl, -, rfl⟩ := ek
                have kx : wr.cell? ⟨gk, j, none⟩ = some (.int .u64 (x : Int)) := by
                  have := hrk 0 _ rfl
                  rw [Nat.mul_one] at this
                  exact this
                have HX := Lib.hid (KB.out x (List.mem_of_getElem? hx))
                have TK := Lib.hid (take_snoc hx)
                clear hx hrk
                obtain ⟨p2, hp2⟩ : ∃ p2, atP (rowsV L) r.id x = p2 := ⟨_, rfl⟩
                have AT := Lib.hid (show ∀ m, Calls Tryz.prog 87 #[.pointer (some ⟨g, 0, none⟩), .int .u32 (r.id : Int), .int .u64 (x : Int)] (wr.drewN m) fun e w' => e = .returned (.int .i64 p2) ∧ w' = wr.drewN m from fun m => by
                  rw [← hp2]
                  exact rat_any _ B lo g _ k L last floor kept r.id x HX.out (P5.out.on (below_draws (Below.refl _ _) m)))
                have N2 := Lib.hid (show (nd || decide (p2 = (i2 : Int))) = (nd0 || (ks.take (j + 1)).any fun x => decide (atP (rowsV L) r.id x = (i2 : Int))) from by
                  rw [TK.out, List.any_append, HNd.out, ← hp2]
                  simp [Bool.or_assoc])
                have NB := Lib.hid (fun m => below_draws HB5.out m)
                clear hp2 HNd P5 X5 V5 HB5
                cases nd
                · go_upto_region 16 with fail
                  go_quiet (first | (go_at_call 87; refine Calls.quiet_of_same (AT.out _)))
                  go_wp2
                  go_roundw
                  case rel => exact ⟨j + 1, _, rfl, by go_num, by omega, N2.out, NB.out _⟩
                  case measure => simp [intOf]; omega
                · go_upto_region 16 with fail
                  go_quiet (fail)
                  go_wp2
                  go_roundw
                  case rel => exact ⟨j + 1, true, rfl, by go_num, by omega, N2.out, NB.out _⟩
                  case measure => simp [intOf]; omega
              · have hjq' : j = q := by omega
                subst hjq'
                have NEED := Lib.hid (show nd = needP (rowsV L) last ks r.toR i2 from by
                  rw [HNd.out, List.take_of_length_le (by rw [HQ.out]; exact Nat.le_refl _), ← HND0.out, ← HPP.out]
                  rfl)
                clear HNd d2
                generalize wr = w5 at *
                obtain ⟨a7, c7, e7, h7⟩ := R3.out.form
                subst e7
                obtain ⟨m, hm⟩ : ∃ m, acc.length = m := ⟨_, rfl⟩
                have HM := Lib.hid hm
                rw [show (acc.map RowL.cells).length = m from by rw [List.length_map]; exact hm] at R3 h7 ⊢
                rw [hm] at hacc
                clear hm
                go_wp2_with (fail)
                go_loopw [12, 13] (fun s12 s13 wr => ∃ (j : Nat) (el : Bool), s12 = .bool el ∧ s13 = .int .i64 j ∧ j ≤ m ∧ Hid (el = (acc.take j).any fun s => s.id == r.id) ∧ Hid (Below w3.heap.size w3 wr)) (fun _ s13 _ => m - (intOf s13).toNat)
                case atStart => exact ⟨0, false, rfl, rfl, by omega, rfl, HB5.out⟩
                case round =>
                  clear P5 X5 V5 HB5
                  obtain ⟨j2, el, rfl, rfl, hj2, HEL, HB6⟩ := hrel
                  have hw6 := HB6.out.size
                  have X6 := Lib.hid ((Kept.of_below (F := []) HB6.out (Nat.le_refl _)).blk BX.out (by simp))
                  have R6 := Lib.hid (R3.out.on HB6.out)
                  have d1 : wr.cell? ⟨wo.heap.size, 1, none⟩ = some (.bool r.gone) := X6.out.cell 1
                  have d2 : wr.cell? ⟨wo.heap.size, 2, none⟩ = some (.int .u32 (r.id : Int)) := X6.out.cell 2
                  by_cases hjm : j2 < m
                  · obtain ⟨s, hs⟩ : ∃ s, acc[j2]? = some s := ⟨_, List.getElem?_eq_getElem (by rw [HM.out]; exact hjm)⟩
                    obtain ⟨gs, cs, es, _, _, hrs⟩ := R6.out.at j2 s.cells (by rw [List.getElem?_map, hs]; rfl)
                    rw [show (acc.map RowL.cells).length = m from by rw [List.length_map]; exact HM.out] at es
                    simp only [Value.slice.injEq] at es
                    obtain ⟨rfl, -, rfl⟩ := es
                    have ks2 : wr.cell? ⟨gs, j2 * 5 + 2, none⟩ = some (.int .u32 (s.id : Int)) := hrs 2 _ rfl
                    have TK := Lib.hid (take_snoc hs)
                    clear hs hrs
                    have N2 := Lib.hid (show (el || (s.id == r.id)) = (acc.take (j2 + 1)).any fun s => s.id == r.id from by
                      rw [TK.out, List.any_append, HEL.out]
                      simp)
                    have NB := Lib.hid (fun m => below_draws HB6.out m)
                    clear HEL X6 R6 HB6
                    cases el
                    · by_cases hsr : s.id = r.id
                      · have hsb : ((s.id : Int) == (r.id : Int)) = true := by simp [hsr]
                        have N3 := Lib.hid (show true = (acc.take (j2 + 1)).any fun s => s.id == r.id from by rw [← N2.out]; simp [hsr])
                        go_upto_region 21 with fail
                        go_quiet (fail)
                        go_wp2
                        go_roundw
                        case rel => exact ⟨j2 + 1, true, rfl, by go_num, by omega, N3.out, NB.out _⟩
                        case measure => simp [intOf]; omega
                      · have hsb : ((s.id : Int) == (r.id : Int)) = false := by simp; omega
                        have N3 := Lib.hid (show false = (acc.take (j2 + 1)).any fun s => s.id == r.id from by rw [← N2.out]; simp [hsr])
                        go_upto_region 21 with fail
                        go_quiet (fail)
                        go_wp2
                        go_roundw
                        case rel => exact ⟨j2 + 1, false, rfl, by go_num, by omega, N3.out, NB.out _⟩
                        case measure => simp [intOf]; omega
                    · go_upto_region 21 with fail
                      go_quiet (fail)
                      go_wp2
                      go_roundw
                      case rel => exact ⟨j2 + 1, true, rfl, by go_num, by omega, N2.out, NB.out _⟩
                      case measure => simp [intOf]; omega
                  · have EL := Lib.hid (show el = acc.any fun s => s.id == r.id from by
                      rw [HEL.out, List.take_of_length_le (by rw [HM.out]; omega)])
                    have SN := Lib.hid (sweepI_next HRR.out HS2.out NEED.out EL.out)
                    have B6 := Lib.hid (below_on B3.out HB6.out)
                    have hlw : w1.heap.size ≤ wr.heap.size := B6.out.size
                    have d0 : wr.cell? ⟨wo.heap.size, 0, none⟩ = some (.int .u64 (r.v : Int)) := X6.out.cell 0
                    have d3 : wr.cell? ⟨wo.heap.size, 3, none⟩ = some (.slice r.pv.1 r.pv.2.1 r.pv.2.2) := X6.out.cell 3
                    have d4 : wr.cell? ⟨wo.heap.size, 4, none⟩ = some (.slice r.pt.1 r.pt.2.1 r.pt.2.2) := X6.out.cell 4
                    clear HEL HB6 X6 EL NEED
                    cases nd
                    · cases hgn : r.gone
                      all_goals
                        have NS := Lib.hid (show rowsV acc = sweepI (rowsV L) last ks (i2 + 1) from by rw [SN.out, if_neg (by simp [hgn])])
                        clear hgn
                        go_wp2
                        go_roundw
                        case rel => exact ⟨i2 + 1, acc, by go_num, by omega, by have := HM.out; omega, R6.out, B6.out, NS.out, HI2.out⟩
                        case measure => simp [intOf]; omega
                    cases hgn : r.gone
                    · rw [hgn] at d1
                      have NS := Lib.hid (show rowsV (acc ++ [r]) = sweepI (rowsV L) last ks (i2 + 1) from by rw [SN.out, if_pos (by simp [hgn])])
                      have HG := Lib.hid hgn
                      clear hgn
                      go_wp2_with (at_builtin; go_must (refine app_c (k := 5) wr rfl (.tmp 109) (.tmp 111) 46 rfl Tryz.underlying46 (.agg #[.int .u64 0, .bool false, .int .u32 0, .slice none 0 0, .slice none 0 0]) 72 row_info8 rfl (by decide) [.int .u64 (r.v : Int), .bool false, .int .u32 (r.id : Int), .slice r.pv.1 r.pv.2.1 r.pv.2.2, .slice r.pt.1 r.pt.2.1 r.pt.2.2] (by rfl) (by rfl) R6.out rfl (by simp [Value.oneCell']) hlw (by have := HM.out; simp; omega) (by have := HM.out; simp; omega) ?_))
                      intro v7 w7 hr7 hk7 _
                      have R7 := Lib.hid (show RowC w1.heap.size w7 131 5 v7 ((acc ++ [r]).map RowL.cells) from by
                        have e : (acc ++ [r]).map RowL.cells = acc.map RowL.cells ++ [[.int .u64 (r.v : Int), .bool false, .int .u32 (r.id : Int), .slice r.pv.1 r.pv.2.1 r.pv.2.2, .slice r.pt.1 r.pt.2.1 r.pt.2.2]] := by simp [RowL.cells, HG.out]
                        rw [e]
                        exact hr7)
                      have B7 := Lib.hid (B6.out.trans (hk7.below (fun x hx => (R6.out.lt x (mem_ownB.1 hx)).1) hlw))
                      have I7 := Lib.hid (show ∀ s ∈ acc ++ [r], s.In (· < B) w from fun s hs => by
                        rcases List.mem_append.1 hs with hs | hs
                        · exact HI2.out s hs
                        · rw [List.mem_singleton.1 hs]
                          exact RI.out)
                      clear hr7 hk7 R6 B6
                      go_wp2
                      go_roundw
                      case rel => exact ⟨i2 + 1, acc ++ [r], by go_num, by omega, by have := HM.out; simp; omega, R7.out, B7.out, NS.out, I7.out⟩
                      case measure => simp [intOf]; omega
                    · rw [hgn] at d1
                      cases el
                      · skip
                        have NS := Lib.hid (show rowsV acc = sweepI (rowsV L) last ks (i2 + 1) from by rw [SN.out, if_neg (by simp [hgn])])
                        clear hgn
                        go_wp2
                        go_roundw
                        case rel => exact ⟨i2 + 1, acc, by go_num, by omega, by have := HM.out; omega, R6.out, B6.out, NS.out, HI2.out⟩
                        case measure => simp [intOf]; omega
                      · skip
                        have NS := Lib.hid (show rowsV (acc ++ [r]) = sweepI (rowsV L) last ks (i2 + 1) from by rw [SN.out, if_pos (by simp [hgn])])
                        have HG := Lib.hid hgn
                        clear hgn
                        go_wp2_with (at_builtin; go_must (refine app_c (k := 5) wr rfl (.tmp 109) (.tmp 111) 46 rfl Tryz.underlying46 (.agg #[.int .u64 0, .bool false, .int .u32 0, .slice none 0 0, .slice none 0 0]) 72 row_info8 rfl (by decide) [.int .u64 (r.v : Int), .bool true, .int .u32 (r.id : Int), .slice r.pv.1 r.pv.2.1 r.pv.2.2, .slice r.pt.1 r.pt.2.1 r.pt.2.2] (by rfl) (by rfl) R6.out rfl (by simp [Value.oneCell']) hlw (by have := HM.out; simp; omega) (by have := HM.out; simp; omega) ?_))
                        intro v7 w7 hr7 hk7 _
                        have R7 := Lib.hid (show RowC w1.heap.size w7 131 5 v7 ((acc ++ [r]).map RowL.cells) from by
                          have e : (acc ++ [r]).map RowL.cells = acc.map RowL.cells ++ [[.int .u64 (r.v : Int), .bool true, .int .u32 (r.id : Int), .slice r.pv.1 r.pv.2.1 r.pv.2.2, .slice r.pt.1 r.pt.2.1 r.pt.2.2]] := by simp [RowL.cells, HG.out]
                          rw [e]
                          exact hr7)
                        have B7 := Lib.hid (B6.out.trans (hk7.below (fun x hx => (R6.out.lt x (mem_ownB.1 hx)).1) hlw))
                        have I7 := Lib.hid (show ∀ s ∈ acc ++ [r], s.In (· < B) w from fun s hs => by
                          rcases List.mem_append.1 hs with hs | hs
                          · exact HI2.out s hs
                          · rw [List.mem_singleton.1 hs]
                            exact RI.out)
                        clear hr7 hk7 R6 B6
                        go_wp2
                        go_roundw
                        case rel => exact ⟨i2 + 1, acc ++ [r], by go_num, by omega, by have := HM.out; simp; omega, R7.out, B7.out, NS.out, I7.out⟩
                        case measure => simp [intOf]; omega
        · have hin2 : i2 = n := by omega
          subst hin2
          have END := Lib.hid (sweep_end HP.out PW.out BW.out hws HRW.out VW.out HKS.out KB.out (by rw [HQ.out]; omega) (by rw [HS2.out, HN.out]) (by rw [HN.out]; exact hacc) HI2.out)
          obtain ⟨a7, c7, e7, h7⟩ := HRW.out.form
          subst e7
          obtain ⟨m, hm⟩ : ∃ m, acc.length = m := ⟨_, rfl⟩
          rw [show (acc.map RowL.cells).length = m from by rw [List.length_map]; exact hm] at END ⊢
          rw [hm, HN.out] at END
          rw [hm] at hacc
          have c1 : wr.cell? ⟨g, 1, none⟩ = some (.int .u64 (last : Int)) := PW.out.blk.cell 1
          have c2 : wr.cell? ⟨g, 2, none⟩ = some (.int .u64 (floor : Int)) := PW.out.blk.cell 2
          have c3 : wr.cell? ⟨g, 3, none⟩ = some k := PW.out.blk.cell 3
          have f0 := PW.out.blk.frozen 0
          have f2 := PW.out.blk.frozen 2
          have f3 := PW.out.blk.frozen 3
          have hsub : ((i2 : Int) - (m : Int)) = ((i2 - m : Nat) : Int) := by omega
          clear hm
          go_wp2
          go_ret
          exact END.out
end Go.Proofs.YtdmnflncgmnghaaGreat
