/-
  The program's past: Sweep, by a walk over its text.
-/
import Derived.Test.YtdmnflncgmnghaaGreatCh
import Derived.Test.YtdmnflncgmnghaaGreatCk
import Derived.Test.YtdmnflncgmnghaaGreatCp
namespace Go.Proofs.YtdmnflncgmnghaaGreat
open Go.RowKit

/-- What Sweep leaves: the reference's list may name more versions, of which each is known anyway. -/
def SweepPostC (lo g : Nat) (It : List Nat) (L : List RowL) (last floor : Nat) (kept keep : List Nat) (w : World) (e : Ending) (w' : World) : Prop :=
  ∃ (u' k' : Value) (L' : List RowL) (ks : List Nat), e = .returned (.int .i64 ((((PastC.st L last floor kept).sweep keep).2 : Nat) : Int)) ∧ PastC w' lo g It u' k' L' last last ks ∧ rowsV L' = ((PastC.st L last floor kept).sweep keep).1.rows ∧ (∀ v, (PastC.st L' last last ks).known v = ((PastC.st L last floor kept).sweep keep).1.known v) ∧ Kept [g] w w' ∧ (∀ x, u'.ownBlock = some x → w.heap.size ≤ x) ∧ (∀ x, k'.ownBlock = some x → w.heap.size ≤ x)

/-- The versions are stored. -/
theorem PastC.swept1 {w w1 : World} {lo g last floor : Nat} {It : List Nat} {u k kv : Value} {L : List RowL} {kept ks : List Nat} (h : PastC w lo g It u k L last floor kept) (hb : Below w.heap.size w w1) (hk : VersAt w.heap.size w1 kv ks) (hs : ks.Pairwise (· < ·)) (h64 : ∀ x ∈ ks, x < last) (hl : ks.length ≤ 100000) :
    PastC ((w1.setCell ⟨g, 3, none⟩ kv).setCell ⟨g, 2, none⟩ (.int .u64 (last : Int))) lo g It u kv L last last ks ∧ Kept [g] w ((w1.setCell ⟨g, 3, none⟩ kv).setCell ⟨g, 2, none⟩ (.int .u64 (last : Int))) := by
  have hx := h.on hb
  have hgw : g < w.heap.size := h.blk.lt
  have k9 : Kept [g] w1 ((w1.setCell ⟨g, 3, none⟩ kv).setCell ⟨g, 2, none⟩ (.int .u64 (last : Int))) := ((Kept.refl [g] w1).setCell _ _ (.inl (by simp))).setCell _ _ (.inl (by simp))
  have hug := row_blk8 hx.rows.2 hx.blk (by decide)
  have hkl : ∀ x, kv.ownBlock = some x → w.heap.size ≤ x := fun x hx' => (RowC.lt hk x hx').1
  refine ⟨⟨(hx.blk.set 3 kv).set 2 _, hx.rows.kept k9 (fun x hx' hh => hug (by rw [hx']; simpa using hh)), fun r hr => (hx.each r hr).stay k9.size (fun x hx' hlt => k9.block x hlt (fun hh => (hx.items x hx').2.2.1 (by simpa using hh))) (fun _ h _ => h), fun x hx' => ?_, ?_, h.hlast, Nat.le_refl _, h.hv, h.hsort, fun x hx' => Nat.lt_trans (h64 x hx') h.hlast, hs, h.hL, hl, h.glo⟩, (Kept.of_below hb (Nat.le_refl _)).trans k9 (Grows.refl _ _)⟩
  · have h1 := hx.items x hx'
    have h2 := h.items x hx'
    refine ⟨h1.1, Nat.lt_of_lt_of_le h1.2.1 k9.size, h1.2.2.1, h1.2.2.2.1, fun e => ?_⟩
    have := hkl x e
    omega
  · refine (RowC.kept hk k9 (fun x hx' hh => ?_)).mono (by have := h.glo; omega)
    have h1 := hkl x hx'
    have h2 : x = g := by simpa using hh
    omega
/-- The rows are stored. -/
theorem PastC.swept2 {w wr : World} {lo g last floor : Nat} {It : List Nat} {u k v : Value} {L acc : List RowL} {ks : List Nat} (h : PastC w lo g It u k L last floor ks) (hb : Below w.heap.size w wr) (hr : RowC w.heap.size wr 157 5 v (acc.map RowL.cells)) (hsub : acc.Sublist L) :
    PastC (wr.setCell ⟨g, 0, none⟩ v) lo g It v k acc last floor ks ∧ Kept [g] w (wr.setCell ⟨g, 0, none⟩ v) := by
  have hx := h.on hb
  have hgw : g < w.heap.size := h.blk.lt
  have k9 : Kept [g] wr (wr.setCell ⟨g, 0, none⟩ v) := (Kept.refl [g] wr).setCell _ _ (.inl (by simp))
  have hkg := row_blk8 hx.vers.2 hx.blk (by decide)
  have hvl : ∀ x, v.ownBlock = some x → w.heap.size ≤ x := fun x hx' => (RowC.lt hr x hx').1
  refine ⟨⟨hx.blk.set 0 v, (hr.kept k9 (fun x hx' hh => ?_)).mono (by have := h.glo; omega), fun r hr' => (hx.each r (hsub.subset hr')).stay k9.size (fun x hx' hlt => k9.block x hlt (fun hh => (hx.items x hx').2.2.1 (by simpa using hh))) (fun _ h _ => h), fun x hx' => ?_, hx.vers.kept k9 (fun x hx' hh => hkg (by rw [hx']; simpa using hh)), h.hlast, h.hfl, fun r hr' => h.hv r (hsub.subset hr'), h.hsort.sublist hsub, h.hkept, h.hks, Nat.le_trans hsub.length_le h.hL, h.hK, h.glo⟩, (Kept.of_below hb (Nat.le_refl _)).trans k9 (Grows.refl _ _)⟩
  · have h1 := hvl x hx'
    have h2 : x = g := by simpa using hh
    omega
  · have h1 := hx.items x hx'
    have h2 := h.items x hx'
    refine ⟨h1.1, Nat.lt_of_lt_of_le h1.2.1 k9.size, h1.2.2.1, fun e => ?_, h1.2.2.2.2⟩
    have := hvl x e
    omega
/-- Who is known behind a sweep. -/
theorem swept_known {L L' : List RowL} {last floor : Nat} {kept keep ks : List Nat} (hm : ∀ x, x ∈ ks ↔ x ∈ keep ∧ keepP L last floor kept x = true) (v : Nat) : (PastC.st L' last last ks).known v = ((PastC.st L last floor kept).sweep keep).1.known v := by
  show (ks.contains v || decide (last ≤ v)) = ((keep.filter (PastC.st L last floor kept).known).contains v || decide (last ≤ v))
  by_cases hv : last ≤ v
  · rw [decide_eq_true hv, Bool.or_true, Bool.or_true]
  · rw [decide_eq_false hv, Bool.or_false, Bool.or_false, Bool.eq_iff_iff, List.contains_iff_mem, List.contains_iff_mem, hm, List.mem_filter]
    unfold keepP
    rw [decide_eq_true (show v < last by omega), Bool.true_and]
theorem swept_ks {L : List RowL} {last floor : Nat} {kept keep ks : List Nat} (hm : ∀ x, x ∈ ks ↔ x ∈ keep ∧ keepP L last floor kept x = true) (x : Nat) : x ∈ ks ↔ x ∈ keep.filter (PastC.st L last floor kept).known ∧ x < last := by
  rw [hm, List.mem_filter]
  unfold keepP
  rw [Bool.and_eq_true, decide_eq_true_eq]
  constructor
  · rintro ⟨h1, h2, h3⟩
    exact ⟨⟨h1, h3⟩, h2⟩
  · rintro ⟨⟨h1, h3⟩, h2⟩
    exact ⟨h1, h2, h3⟩

theorem sweep_doneC {w W2 w9 : World} {lo g last floor n q : Nat} {It : List Nat} {v kv : Value} {L acc : List RowL} {kept keep ks : List Nat} (hN : L.length = n) (hq : (acc.map RowL.cells).length = q) (S : Kept [g] w W2) (F : PastC w9 lo g It v kv acc last last ks ∧ Kept [g] W2.drew w9) (T : rowsV acc = sweepI (rowsV L) last (keep.filter (PastC.st L last floor kept).known) L.length)
    (hm : ∀ x, x ∈ ks ↔ x ∈ keep ∧ keepP L last floor kept x = true) (hfv : ∀ x, v.ownBlock = some x → w.heap.size ≤ x) (hfk : ∀ x, kv.ownBlock = some x → w.heap.size ≤ x) : SweepPostC lo g It L last floor kept keep w (.returned (.int .i64 ((n - q : Nat) : Int))) w9 := by
  have hql : acc.length = q := by rw [← hq, List.length_map]
  have e1 : ((PastC.st L last floor kept).sweep keep).1.rows = rowsV acc := by
    show sweepI (rowsV L) last (keep.filter (PastC.st L last floor kept).known) (rowsV L).length = _
    rw [rowsV_len, T]
  refine ⟨v, kv, acc, ks, ?_, F.1, e1.symm, swept_known hm, S.drew.trans F.2 (Grows.refl _ _), hfv, hfk⟩
  show Ending.returned (.int .i64 ((n - q : Nat) : Int)) = .returned (.int .i64 (((rowsV L).length - ((PastC.st L last floor kept).sweep keep).1.rows.length : Nat) : Int))
  rw [e1, rowsV_len, rowsV_len, hN, hql]
set_option maxRecDepth 100000 in
set_option maxHeartbeats 12800000 in
theorem sweep_past (w : World) (lo g : Nat) (It : List Nat) (u k : Value) (L : List RowL) (last floor : Nat) (kept : List Nat) (ka : Option Addr) (kn kc : Nat) (keep : List Nat) (hsort : SortU keep.length) (h : PastC w lo g It u k L last floor kept) (hk : VersIn w w.heap.size ka kn kc keep) :
    Calls Tryz.prog 81 #[.pointer (some ⟨g, 0, none⟩), .slice ka kn kc] w fun e w' => SweepPostC lo g It L last floor kept keep w e w' := by
  obtain ⟨a, c, rfl, hnc⟩ := h.u_form
  have hL := h.hL
  have HP := Lib.hid h
  have hgl := h.blk.lt
  have HKL := Lib.hid (show keep.length ≤ 100000 from by rw [hk.1]; exact hk.2.2.1)
  have SK := Lib.hid (stillKnown_any w lo g It _ k L last floor kept ka kn kc keep hsort h hk)
  clear h hk
  obtain ⟨n, hn⟩ : ∃ n, L.length = n := ⟨_, rfl⟩
  have HN := Lib.hid hn
  rw [hn] at HP hnc hL
  clear hn
  have c1w : w.cell? ⟨g, 1, none⟩ = some (.int .u64 (last : Int)) := HP.out.blk.cell 1
  go_enter Tryz.func81, Tryz.ntmps81
  go_wp2_with (fail)
  refine SK.out.mono ?_
  rintro e w1 ⟨kv, ks, rfl, hb1, hkv, hks, hkm, hkl⟩
  obtain ⟨kb, kd, rfl, -⟩ := hkv.form
  obtain ⟨km, hkm2⟩ : ∃ km, ks.length = km := ⟨_, rfl⟩
  rw [hkm2] at hkv ⊢
  have P1 := HP.out.on hb1
  have e1 : w1.cell? ⟨g, 1, none⟩ = some (.int .u64 (last : Int)) := P1.blk.cell 1
  have e3 : w1.cell? ⟨g, 3, none⟩ = some k := P1.blk.cell 3
  have e0 : w1.cell? ⟨g, 0, none⟩ = some (.slice a n c) := P1.blk.cell 0
  have e2 : w1.cell? ⟨g, 2, none⟩ = some (.int .u64 (floor : Int)) := P1.blk.cell 2
  have f3 := P1.blk.frozen 3
  have f2 := P1.blk.frozen 2
  have S1 := Lib.hid (HP.out.swept1 hb1 hkv hks (fun x hx => by
    have := ((hkm x).1 hx).2
    unfold keepP at this
    rw [Bool.and_eq_true, decide_eq_true_eq] at this
    exact this.1) (by have := HKL.out; omega))
  have HM := Lib.hid hkm
  have KF := Lib.hid (show ∀ x, (Value.slice kb km kd).ownBlock = some x → w.heap.size ≤ x from fun x hx => (RowC.lt hkv x hx).1)
  go_upto_region 4 with fail
  obtain ⟨W2, hW2⟩ : ∃ W2, ((w1.setCell ⟨g, 3, none⟩ (.slice kb km kd)).setCell ⟨g, 2, none⟩ (.int .u64 (last : Int))) = W2 := ⟨_, rfl⟩
  rw [hW2] at S1
  try rw [hW2]
  clear hW2 hb1 hkv hkm P1 e0 e1 e2 e3 f2 f3 c1w SK
  have PS := Lib.hid (S1.out.1.on ((Below.refl W2.heap.size W2).drew))
  have SA := Lib.hid (seen_all PS.out.hsort PS.out.hv (swept_ks HM.out))
  rw [HN.out] at SA
  have q0 : W2.cell? ⟨g, 0, none⟩ = some (.slice a n c) := S1.out.1.blk.cell 0
  go_wp2_with (fail)
  go_region_law (first
    | (rw [if_pos (by rfl)]; go_simp; go_at_call 104; refine (seen_any _ lo g It _ _ L last last ks PS.out).mono ?_; rintro e w5 ⟨sv, rfl, hb5, hbs⟩; obtain ⟨sa, sc, rfl, -⟩ := hbs.form; rw [seenS_len, HN.out] at hbs ⊢; have P5 := Lib.hid (PS.out.on hb5); have B5 := Lib.hid hb5; have BS := Lib.hid hbs; have c05 : w5.cell? ⟨g, 0, none⟩ = some (.slice a n c) := P5.out.blk.cell 0; clear hb5 hbs)
    | (rw [if_pos (by rfl)]; go_simp; go_at_call 103; refine (needed_any w5 lo a n c sa sc L _ last (keep.filter (PastC.st L last floor kept).known) P5.out.rows (fun r hr => (P5.out.each r hr).hid) HN.out hL (RowC.mono BS.out (by have := PS.out.glo; have := PS.out.blk.lt; omega)) (by rw [seenS_len]; exact HN.out) SA.out).mono ?_; rintro e w6 ⟨v6, acc, rfl, hb6, hr6, ht6, hs6⟩; obtain ⟨a6, c6, rfl, -⟩ := hr6.form; obtain ⟨q6, hq6⟩ : ∃ q6, (acc.map RowL.cells).length = q6 := ⟨_, rfl⟩; rw [hq6] at hr6 ⊢; have P6 := Lib.hid (P5.out.on hb6); have c06 : w6.cell? ⟨g, 0, none⟩ = some (.slice a n c) := P6.out.blk.cell 0; have f06 := P6.out.blk.frozen 0; have FIN := Lib.hid (PS.out.swept2 (below_on B5.out hb6) (hr6.mono B5.out.size) hs6); have T6 := Lib.hid ht6; have S6 := Lib.hid hs6; have Q6 := Lib.hid hq6; have R6 := Lib.hid hr6; clear hb6 hr6 ht6 hs6 hq6))
  all_goals
    have hql : q6 ≤ n := by
      have h1 := S6.out.length_le
      have h2 := Q6.out
      rw [List.length_map] at h2
      have h3 := HN.out
      omega
    have hsub : ((n : Int) - (q6 : Int)) = ((n - q6 : Nat) : Int) := by omega
    have END := Lib.hid (sweep_doneC (floor := floor) HN.out Q6.out S1.out.2 FIN.out T6.out HM.out (fun x hx => by
      have h1 := (RowC.lt R6.out x hx).1
      have h2 : W2.heap.size ≤ w5.heap.size := B5.out.size
      have h3 := S1.out.2.size
      omega) KF.out)
    clear hsort hks hkl
    go_wp2
    go_ret
    exact END.out
end Go.Proofs.YtdmnflncgmnghaaGreat
