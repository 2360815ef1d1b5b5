/-
  The document's Rank, Behind, First and Great of layer 10, each by a walk over its text.
-/
import Derived.Test.YteaomjabanhblaaLb
import Derived.Test.YteaomjabanhblaaSw
import Derived.BigGuardPart
import Derived.BigCall
import Derived.Deep.DeepMust
namespace Go.Proofs.Yteaomjabanhblaa
open Go.RowKit

/-- What a call of the document's that tells hits leaves. -/
def ReadPost (l : List Hit) (w : World) (e : Ending) (w' : World) : Prop :=
  ∃ a n c, e = .returned (.slice a n c) ∧ HReads w' a n l ∧ Below w.heap.size w w'
theorem rankL_next {m : Nat} {q : List Int} {f : Filt} {xs : List shItem.T} {i : Nat} {x : shItem.T} (h : xs[i]? = some x) : rankL m q f (xs.take (i + 1)) = (match wantO m q f x with | some p => ins p (rankL m q f (xs.take i)) | none => rankL m q f (xs.take i)) := by
  rw [rankL, rankL, wantL_next h]
  cases wantO m q f x with
  | none => simp
  | some p => exact sortL_snoc _ _
theorem rankL_len (m : Nat) (q : List Int) (f : Filt) (xs : List shItem.T) : (rankL m q f xs).length ≤ xs.length := by
  rw [rankL, sortL_len]
  exact wantL_len m q f xs

section
variable (w : World) (ok : Nat → Prop) (m : Nat) (a qa : Option Addr) (n c qn qc : Nat) (xs : List shItem.T) (q : List Int) (fl : FltL)
set_option maxRecDepth 100000 in
set_option maxHeartbeats 6400000 in
theorem rrank_any (hm : m < 256) (h : Rd ok w shItems [.slice a n c] xs) (hn : n ≤ 10000) (hq : Reads .i32 w qa qn q) (hf : fl.In w) :
    Calls Try.prog 11 #[.int .i64 (m : Int), .slice a n c, .slice qa qn qc, .agg fl.cells] w (ReadPost (rankL m q fl.f xs) w) := by
  obtain ⟨_, _, _, hcs, HN, _, _⟩ := Rd.slice_is (e := shItem) h
  simp only [List.cons.injEq, Value.slice.injEq, and_true] at hcs
  obtain ⟨rfl, rfl, rfl⟩ := hcs
  have HH := Lib.hid h
  have HQ := Lib.hid hq
  have HF := Lib.hid hf
  have HM := Lib.hid hm
  have HB0 := Lib.hid (Blk.new w 26 #[.slice fl.p0.1 fl.p0.2.1 fl.p0.2.2, .slice fl.p1.1 fl.p1.2.1 fl.p1.2.2, .slice fl.p2.1 fl.p2.2.1 fl.p2.2.2])
  clear h hq hf hm
  show Calls _ _ #[_, _, _, .agg #[.slice fl.p0.1 fl.p0.2.1 fl.p0.2.2, .slice fl.p1.1 fl.p1.2.1 fl.p1.2.2, .slice fl.p2.1 fl.p2.2.1 fl.p2.2.2]] _ _
  go_enter Try.func11, Try.ntmps11
  go_wp2
  go_loopw [9, 10] (fun s9 s10 wr => ∃ (i k : Nat) (va : Option Addr) (vc : Nat), i ≤ n ∧ s10 = .int .i64 (i : Int) ∧ s9 = .slice va k vc ∧ Hid (HReads wr va k (rankL m q fl.f (xs.take i))) ∧ Hid (Below w.heap.size w wr) ∧ Hid (Blk wr w.heap.size 26 [.slice fl.p0.1 fl.p0.2.1 fl.p0.2.2, .slice fl.p1.1 fl.p1.2.1 fl.p1.2.2, .slice fl.p2.1 fl.p2.2.1 fl.p2.2.2])) (fun _ s10 _ => n - (intOf s10).toNat)
  case atStart => exact ⟨0, 0, none, 0, Nat.zero_le _, rfl, rfl, ⟨rfl, by decide, .inl rfl⟩, (Below.refl _ _).alloc (Nat.le_refl _) _, HB0.out⟩
  case round =>
    clear HB0
    obtain ⟨i, k, va, vc, hi, rfl, rfl, HO, HB, HX⟩ := hrel
    by_cases h1 : i < n
    · obtain ⟨b, off, x, c0, c1, c2, rfl, hblt, hx, hrd, k0, k1, k2⟩ := rd_item_in HH.out i h1
      obtain ⟨id, vec, tags, ia, iN, ic, ta, tn, tc, rfl, hcs, hid, rv, rt, hvl, htl, hvn, htn⟩ := rd_item hrd.out
      simp only [List.cons.injEq, and_true] at hcs
      obtain ⟨rfl, rfl, rfl⟩ := hcs
      have HX2 := Lib.hid hx
      have RV := Lib.hid (Rd.ints rv rfl)
      have RT := Lib.hid (Rd.strs rt rfl).1
      have HC := Lib.hid (show ∀ w', Below w.heap.size w w' → b < w'.heap.size ∧ w'.cell? ⟨b, off + i * 3, none⟩ = some (.int .u32 (id : Int)) ∧ w'.cell? ⟨b, off + i * 3 + 1, none⟩ = some (.slice ia iN ic) ∧ w'.cell? ⟨b, off + i * 3 + 2, none⟩ = some (.slice ta tn tc) from fun w' hw =>
        ⟨Nat.lt_of_lt_of_le hblt hw.size, (hw.cell (p := ⟨b, _, none⟩) hblt).trans k0, (hw.cell (p := ⟨b, _, none⟩) hblt).trans k1, (hw.cell (p := ⟨b, _, none⟩) hblt).trans k2⟩)
      obtain ⟨r0, r1, r2, r3⟩ := HC.out wr HB.out
      have hwq := HQ.out.len
      have hle := HB.out.size
      clear hx hrd rv rt k0 k1 k2 hblt
      rcases hdv : distV m qn iN q vec with _ | dd
      · have HN2 := Lib.hid (show rankL m q fl.f (xs.take (i + 1)) = rankL m q fl.f (xs.take i) from by rw [rankL_next HX2.out, wantO_none hwq hvl.out hdv])
        have CD := Lib.hid (rdist_none (m : Int) qa ia qn iN qc ic q vec wr (by omega) (by have := HM.out; omega) (HQ.out.below (Nat.le_refl _) HB.out) (RV.out.below (Nat.le_refl _) HB.out) hdv)
        clear hdv
        go_wp2_with (fail)
        refine CD.out.mono ?_
        rintro e w2 ⟨rfl, hw2⟩
        subst hw2
        clear CD
        go_wp2
        go_quiet (fail)
        have N1 := Lib.hid (HO.out.below (Nat.le_refl _) (below_draws (Below.refl _ wr) nq))
        have N2 := Lib.hid (below_draws HB.out nq)
        have N3 := Lib.hid (((Kept.refl [] _).drewN nq).blk HX.out (by simp))
        clear HO HB HX r0 r1 r2 r3
        generalize wr.drewN nq = wd at *
        go_wp2
        go_roundw
        case rel => exact ⟨i + 1, k, va, vc, by omega, by go_num, rfl, by rw [HN2.out]; exact N1.out, N2.out, N3.out⟩
        case measure => simp [intOf]; omega
      · have CD := Lib.hid (rdist_some (m : Int) qa ia qn iN qc ic q vec dd wr (by omega) (by have := HM.out; omega) (HQ.out.below (Nat.le_refl _) HB.out) (RV.out.below (Nat.le_refl _) HB.out) hdv)
        have HDV := Lib.hid hdv
        clear hdv
        go_wp2_with (fail)
        refine CD.out.mono ?_
        rintro e w2 ⟨rfl, hb2⟩
        obtain ⟨z, hz⟩ : ∃ z, matchB fl.f tags = z := ⟨_, rfl⟩
        have HZ := Lib.hid hz
        have HB2 := Lib.hid (HB.out.trans (hb2.mono hle))
        have HO2 := Lib.hid (HO.out.below (Nat.le_refl _) hb2)
        have HX3 := Lib.hid (HX.out.of_eq (hb2.block _ HX.out.lt))
        clear hz hb2 CD r0 r1 r2 r3 HO HX HB hle
        have HS := Lib.hid (show ∀ w', Below w2.heap.size w2 w' → w'.cell? ⟨w.heap.size, 0, none⟩ = some (.slice fl.p0.1 fl.p0.2.1 fl.p0.2.2) ∧ w'.cell? ⟨w.heap.size, 1, none⟩ = some (.slice fl.p1.1 fl.p1.2.1 fl.p1.2.2) ∧ w'.cell? ⟨w.heap.size, 2, none⟩ = some (.slice fl.p2.1 fl.p2.2.1 fl.p2.2.2) ∧ w'.cell? ⟨b, off + i * 3 + 2, none⟩ = some (.slice ta tn tc) ∧ Below w2.heap.size w2 w' from fun w' hw => by
          have b1 := HX3.out.of_eq (hw.block _ HX3.out.lt)
          exact ⟨b1.cell 0, b1.cell 1, b1.cell 2, (HC.out w' (HB2.out.trans (hw.mono HB2.out.size))).2.2.2, hw⟩)
        have HMT := Lib.hid (show ∀ w', Below w2.heap.size w2 w' → Calls Try.prog 18 #[.agg #[.slice fl.p0.1 fl.p0.2.1 fl.p0.2.2, .slice fl.p1.1 fl.p1.2.1 fl.p1.2.2, .slice fl.p2.1 fl.p2.2.1 fl.p2.2.2], .slice ta tn tc] w' fun e w'' => e = .returned (.bool z) ∧ Below w'.heap.size w' w'' from fun w' hw => by
          have hf := HF.out.on (HB2.out.trans (hw.mono HB2.out.size))
          have := rmatch_reads fl.p0.1 fl.p1.1 fl.p2.1 ta fl.p0.2.1 fl.p0.2.2 fl.p1.2.1 fl.p1.2.2 fl.p2.2.1 fl.p2.2.2 tn tc fl.f.all fl.f.any fl.f.none tags w' hf.all hf.any hf.none (RT.out.on (HB2.out.trans (hw.mono HB2.out.size)))
          rw [show (⟨fl.f.all, fl.f.any, fl.f.none⟩ : Filt) = fl.f from rfl, HZ.out] at this
          exact this)
        obtain ⟨s1, s2, s3, s4, s5⟩ := HS.out w2 (Below.refl _ _)
        go_wp2
        go_region_held3 (fun w' => w'.cell? ⟨w.heap.size, 0, none⟩ = some (.slice fl.p0.1 fl.p0.2.1 fl.p0.2.2) ∧ w'.cell? ⟨w.heap.size, 1, none⟩ = some (.slice fl.p1.1 fl.p1.2.1 fl.p1.2.2) ∧ w'.cell? ⟨w.heap.size, 2, none⟩ = some (.slice fl.p2.1 fl.p2.2.1 fl.p2.2.2) ∧ w'.cell? ⟨b, off + i * 3 + 2, none⟩ = some (.slice ta tn tc) ∧ Below w2.heap.size w2 w')
          (first
            | (go_keep; done)
            | exact HS.out _ (Below.refl _ _)
            | exact HS.out _ (Below.refl _ _).drew
            | (go_split_ands; exact HS.out _ (below_on (by assumption) hbel)))
          (first
            | (go_at_call 18; go_split_ands; refine (HMT.out _ (by assumption)).mono ?_; rintro e w' ⟨rfl, hbel⟩))
        rename_i hH
        have hb := hH.2.2.2.2
        have HB3 := Lib.hid (HB2.out.trans (hb.mono HB2.out.size))
        have HO3 := Lib.hid (HO2.out.below (Nat.le_refl _) hb)
        have HX4 := Lib.hid (HX3.out.of_eq (hb.block _ HX3.out.lt))
        obtain ⟨t0, t1, t2, t3⟩ := HC.out _ HB3.out
        clear hH hb hbel s1 s2 s3 s4 s5 HS HMT HO2 HX3 HB2
        cases z
        · have HN2 := Lib.hid (show rankL m q fl.f (xs.take (i + 1)) = rankL m q fl.f (xs.take i) from by rw [rankL_next HX2.out, wantO_not hwq hvl.out HDV.out HZ.out])
          go_wp2
          go_roundw
          case rel => exact ⟨i + 1, k, va, vc, by omega, by go_num, rfl, by rw [HN2.out]; exact HO3.out, HB3.out, HX4.out⟩
          case measure => simp [intOf]; omega
        · have HN2 := Lib.hid (show rankL m q fl.f (xs.take (i + 1)) = ins (dd, (id : Int)) (rankL m q fl.f (xs.take i)) from by rw [rankL_next HX2.out, wantO_some hwq hvl.out HDV.out HZ.out])
          have hkl : k ≤ 10000 := by
            have h2 := rankL_len m q fl.f (xs.take i)
            have h3 := HO3.out.len
            rw [List.length_take] at h2
            omega
          have CI := Lib.hid (into_any va k vc _ (dd, (id : Int)) _ HO3.out (by omega))
          go_wp2_with (fail)
          refine CI.out.mono ?_
          rintro e w4 ⟨v, rfl, ho, hb4⟩
          obtain ⟨va', vc', rfl⟩ := ho.own.size
          obtain ⟨k', hk'⟩ : ∃ k', (ins (dd, (id : Int)) (rankL m q fl.f (xs.take i))).length = k' := ⟨_, rfl⟩
          have hil := ins_len (dd, (id : Int)) (rankL m q fl.f (xs.take i))
          have hol := HO3.out.len
          have hr := HReads.of_own ho.own (by omega)
          rw [hk'] at hr
          have N1 := Lib.hid hr
          have N2 := Lib.hid (HB3.out.trans (hb4.mono HB3.out.size))
          have N3 := Lib.hid (HX4.out.of_eq (hb4.block _ HX4.out.lt))
          simp only [hk']
          clear hr ho hb4 hk' hil hol t0 t1 t2 t3 HO3 HX4 HB3
          go_wp2
          go_roundw
          case rel => exact ⟨i + 1, k', va', vc', by omega, by go_num, rfl, by rw [HN2.out]; exact N1.out, N2.out, N3.out⟩
          case measure => simp [intOf]; omega
    · have ht : xs.take i = xs := List.take_of_length_le (by have := HN.out; omega)
      rw [ht] at HO
      go_wp2
      go_ret
      exact ⟨va, k, vc, rfl, HO.out, HB.out⟩
end

set_option maxRecDepth 100000 in
set_option maxHeartbeats 3200000 in
theorem rbehind_any (w : World) (a : Option Addr) (n cap : Nat) (l : List Hit) (x : Hit) (h : HReads w a n l) (hn : n ≤ 1000000) :
    Calls Try.prog 17 #[.slice a n cap, .agg #[.int .i64 x.1, .int .u32 x.2]] w fun e w' => ∃ v, e = .returned v ∧ OwnB w' w.heap.size v (behindL x l) ∧ Below w.heap.size w w' := by
  obtain ⟨hl, hs, hc⟩ := h
  have HL := Lib.hid hl
  have HC := Lib.hid hc
  clear hl hc hs
  have hB0 := Lib.hid (Blk.new w 29 #[.int .i64 x.1, .int .u32 x.2])
  go_enter Try.func17, Try.ntmps17
  go_wp2
  go_loopw [5, 6] (fun s5 s6 wr => ∃ (i : Nat), i ≤ n ∧ s6 = .int .i64 (i : Int) ∧ Hid (OwnB wr (w.heap.size + 1) s5 (behindL x (l.take i))) ∧ Hid (Below w.heap.size w wr) ∧ Hid (Blk wr w.heap.size 29 [.int .i64 x.1, .int .u32 x.2])) (fun _ s6 _ => n - (intOf s6).toNat)
  case atStart => exact ⟨0, Nat.zero_le _, rfl, OwnB.nil _ _, (Below.refl _ _).alloc (Nat.le_refl _) _, hB0.out⟩
  case round =>
    clear hB0
    obtain ⟨i, hi, rfl, HO, HB, HX⟩ := hrel
    have lX := HX.out.lt
    by_cases h1 : i < n
    · rcases HC.out with h0 | ⟨b, off, rfl, hlt, hc⟩
      · omega
      obtain ⟨p, hp⟩ : ∃ p, l.getD i (0, 0) = p := ⟨_, rfl⟩
      have HP := Lib.hid hp
      have hcc := hc i h1
      rw [hp] at hcc
      have HS := Lib.hid (fun (w' : World) (hb : Below wr.heap.size wr w') => show w'.cell? ⟨w.heap.size, 0, none⟩ = some (.int .i64 x.1) ∧ w'.cell? ⟨w.heap.size, 1, none⟩ = some (.int .u32 x.2) ∧ w'.cell? ⟨b, off + i * 2, none⟩ = some (.int .i64 p.1) ∧ w'.cell? ⟨b, off + i * 2 + 1, none⟩ = some (.int .u32 p.2) ∧ w.heap.size < w'.heap.size ∧ b < w'.heap.size ∧ Below wr.heap.size wr w' from by
        have hk := Kept.of_below (F := []) hb (Nat.le_refl _)
        have h3 := hk.blk HX.out (by simp)
        have hBB := HB.out.trans (hb.mono HB.out.size)
        exact ⟨by rw [h3.cell]; rfl, by rw [h3.cell]; rfl, (hBB.cell (p := ⟨b, off + i * 2, none⟩) hlt).trans hcc.1, (hBB.cell (p := ⟨b, off + i * 2 + 1, none⟩) hlt).trans hcc.2, h3.lt, Nat.lt_of_lt_of_le hlt hBB.size, hb⟩)
      obtain ⟨s1, s2, s3, s4, s5', s6', s7'⟩ := HS.out wr (Below.refl _ _)
      obtain ⟨z, hz⟩ : ∃ z, ltH x p = z := ⟨_, rfl⟩
      have HZ := Lib.hid hz
      have HSN := Lib.hid (show behindL x (l.take (i + 1)) = behindL x (l.take i) ++ (if z = true then [p] else []) from by
        rw [take_snoc' l i (by have := HL.out; omega), hp, behindL_snoc, hz])
      have hl1 : (behindL x (l.take i)).length ≤ 1500000 := by
        have h2 : (behindL x (l.take i)).length ≤ (l.take i).length := List.length_filter_le _ _
        simp at h2
        omega
      clear hp hc hcc hz
      go_wp2
      go_region_held3 (fun w' => w'.cell? ⟨w.heap.size, 0, none⟩ = some (.int .i64 x.1) ∧ w'.cell? ⟨w.heap.size, 1, none⟩ = some (.int .u32 x.2) ∧ w'.cell? ⟨b, off + i * 2, none⟩ = some (.int .i64 p.1) ∧ w'.cell? ⟨b, off + i * 2 + 1, none⟩ = some (.int .u32 p.2) ∧ w.heap.size < w'.heap.size ∧ b < w'.heap.size ∧ Below wr.heap.size wr w')
        (first
          | (go_keep; done)
          | exact HS.out _ (Below.refl _ _)
          | exact HS.out _ (Below.refl _ _).drew
          | (go_split_ands; exact HS.out _ (below_on (by assumption) hbel)))
        (first
          | (go_at_call 29; refine (rless_eq x p z HZ _).mono ?_; rintro e w' ⟨rfl, hbel⟩))
      rename_i hH
      have hb := hH.2.2.2.2.2.2
      have HO1 := Lib.hid (HO.out.kept (Kept.of_below (F := []) hb (Nat.le_refl _)) (by simp))
      have HX1 := Lib.hid ((Kept.of_below (F := []) hb (Nat.le_refl _)).blk HX.out (by simp))
      have HB1 := Lib.hid (HB.out.trans (hb.mono HB.out.size))
      obtain ⟨t1, t2, t3, t4, t5, t6, _⟩ := HS.out _ hb
      clear hH hb hbel s1 s2 s3 s4 s5' s6' s7' HS HO HX HB lX
      cases z
      · go_wp2
        go_roundw
        case rel => exact ⟨i + 1, by omega, by go_num, (by rw [HSN.out]; simpa using HO1.out : OwnB _ _ _ (behindL x (l.take (i + 1)))), HB1.out, HX1.out⟩
        case measure => simp [intOf]; omega
      · go_wp2_with (at_builtin; refine app_hit _ rfl (.tmp 19) (.tmp 24) rfl (w.heap.size + 1) _ (behindL x (l.take i)) p rfl rfl HO1.out (by omega) (by omega) ?_)
        intro v' w1 hown hgrow
        obtain ⟨K1, K2⟩ := app_kept HO1.out hgrow HB1.out (by omega)
        have X2 := Lib.hid (HX1.out.of_eq (K1.block _ (by omega)))
        have N1 := Lib.hid hown
        have N2 := Lib.hid K2
        clear hown hgrow K1 K2 t1 t2 t3 t4 t5 t6 HO1 HX1 HB1
        go_wp2
        go_roundw
        case rel => exact ⟨i + 1, by omega, by go_num, (by rw [HSN.out]; simpa using N1.out : OwnB _ _ _ (behindL x (l.take (i + 1)))), N2.out, X2.out⟩
        case measure => simp [intOf]; omega
    · have ht : l.take i = l := List.take_of_length_le (by have := HL.out; omega)
      rw [ht] at HO
      go_wp2
      go_ret
      exact ⟨_, rfl, HO.out.mono (by omega), HB.out⟩

set_option maxHeartbeats 1600000 in
theorem rfirst_any (w : World) (a : Option Addr) (n cap : Nat) (k : Int) (r : Nat) (hr : Hid ((r : Int) = min (max k 0) 256)) (l : List Hit) (h : HReads w a n l) :
    Calls Try.prog 16 #[.slice a n cap, .int .i64 k] w fun e w' => ∃ v, e = .returned v ∧ OwnB w' w.heap.size v (l.take r) ∧ Below w.heap.size w w' := by
  have e : (min k 256).toNat = r := by have := hr.out; omega
  have C := Lib.hid (first_any a n cap (min k 256) l w h)
  rw [e] at C
  clear hr h e
  go_enter Try.func16, Try.ntmps16
  go_wp2_with (fail)
  all_goals
    refine C.out.mono ?_
    rintro e w1 ⟨v, rfl, ho, hb⟩
    have H1 := Lib.hid ho
    have H2 := Lib.hid hb
    clear ho hb
    go_wp2
    go_ret
    exact ⟨v, rfl, H1.out, H2.out⟩

/-- A filter as it comes in. -/
structure FltL.Rds (ok : Nat → Prop) (w : World) (x : FltL) : Prop where
  all : Rd ok w shTags [.slice x.p0.1 x.p0.2.1 x.p0.2.2] x.f.all
  any : Rd ok w shTags [.slice x.p1.1 x.p1.2.1 x.p1.2.2] x.f.any
  none : Rd ok w shTags [.slice x.p2.1 x.p2.2.1 x.p2.2.2] x.f.none
theorem FltL.Rds.inn {ok : Nat → Prop} {w : World} {x : FltL} (h : x.Rds ok w) : x.In w := ⟨(Rd.strs h.all rfl).1, (Rd.strs h.any rfl).1, (Rd.strs h.none rfl).1⟩
theorem FltL.Rds.on {ok : Nat → Prop} {w w' : World} {x : FltL} (h : x.Rds ok w) (hb : Below w.heap.size w w') : x.Rds ok w' := ⟨h.all.on hb, h.any.on hb, h.none.on hb⟩

/-- Some Bool; false says that there are few. -/
def FewB (n : Nat) (w : World) (e : Ending) (w' : World) : Prop := ∃ g, e = .returned (.bool g) ∧ (g = false → n ≤ 300) ∧ Below w.heap.size w w'

set_option maxRecDepth 100000 in
set_option maxHeartbeats 6400000 in
theorem rgreat_any (w : World) (ok : Nat → Prop) (a : Option Addr) (n c : Nat) (xs : List shItem.T) (fl : FltL) (h : Rd ok w shItems [.slice a n c] xs) (hf : fl.Rds ok w) :
    Calls Try.prog 10 #[.slice a n c, .agg fl.cells] w (FewB n w) := by
  obtain ⟨_, _, _, hcs, HN, hn0, _⟩ := Rd.slice_is (e := shItem) h
  simp only [List.cons.injEq, Value.slice.injEq, and_true] at hcs
  obtain ⟨rfl, rfl, rfl⟩ := hcs
  obtain ⟨w1, hw1⟩ : ∃ w1, w.alloc (.cells #[.slice fl.p0.1 fl.p0.2.1 fl.p0.2.2, .slice fl.p1.1 fl.p1.2.1 fl.p1.2.2, .slice fl.p2.1 fl.p2.2.1 fl.p2.2.2] 26) = w1 := ⟨_, rfl⟩
  have hb1 : Below w.heap.size w w1 := by rw [← hw1]; exact (Below.refl _ w).alloc (Nat.le_refl _) _
  have bf : Blk w1 w.heap.size 26 [.slice fl.p0.1 fl.p0.2.1 fl.p0.2.2, .slice fl.p1.1 fl.p1.2.1 fl.p1.2.2, .slice fl.p2.1 fl.p2.2.1 fl.p2.2.2] := by rw [← hw1]; exact Blk.new _ _ _
  have f0 : w1.cell? ⟨w.heap.size, 0, none⟩ = some (.slice fl.p0.1 fl.p0.2.1 fl.p0.2.2) := bf.cell 0
  have f1 : w1.cell? ⟨w.heap.size, 1, none⟩ = some (.slice fl.p1.1 fl.p1.2.1 fl.p1.2.2) := bf.cell 1
  have f2 : w1.cell? ⟨w.heap.size, 2, none⟩ = some (.slice fl.p2.1 fl.p2.2.1 fl.p2.2.2) := bf.cell 2
  have HH := Lib.hid (h.on hb1)
  have HF := Lib.hid (hf.on hb1)
  have HB := Lib.hid hb1
  clear h hf hb1 bf
  show Calls _ _ #[_, .agg #[.slice fl.p0.1 fl.p0.2.1 fl.p0.2.2, .slice fl.p1.1 fl.p1.2.1 fl.p1.2.2, .slice fl.p2.1 fl.p2.2.1 fl.p2.2.2]] _ _
  go_enter Try.func10, Try.ntmps10
  go_wp2_with (first | (rw [hw1]) | fail)
  try rw [hw1]
  clear hw1
  go_loop [5, 6] (fun s5 s6 => ∃ (i : Nat) (m : Int), s5 = .int .i64 m ∧ s6 = .int .i64 (i : Int) ∧ i ≤ n ∧ 0 ≤ m ∧ m ≤ 60000) (fun _ s6 => n - (intOf s6).toNat)
  case atStart => exact ⟨0, 0, rfl, rfl, Nat.zero_le _, by omega, by omega⟩
  case round =>
    obtain ⟨i, m, rfl, rfl, hi, h0, h1⟩ := hrel
    by_cases hc : i < n ∧ m < 20000
    · obtain ⟨hc, hm⟩ := hc
      obtain ⟨b, off, x, c0, c1, c2, rfl, hblt, hx, hrd, k0, k1, k2⟩ := rd_item_in HH.out i hc
      obtain ⟨id, vec, tags, ia, iN, ic, ta, tn, tc, rfl, hcs, hid, rv, rt, hvl, htl, hvn, htn⟩ := rd_item hrd.out
      simp only [List.cons.injEq, and_true] at hcs
      obtain ⟨rfl, rfl, rfl⟩ := hcs
      have RT := Lib.hid rt
      clear hx hrd rv rt
      go_wp2_with (fail)
      all_goals
        refine (great03 ta tn tc tags w1 RT.out).mono ?_
        rintro e w' ⟨⟨g, rfl⟩, rfl⟩
        cases g
        · go_wp2
          go_round
          case rel => exact ⟨i + 1, _, by go_num, by go_num, by omega, by go_num, by go_num⟩
          case measure => simp [intOf]; omega
        · go_wp2
          go_ret
          exact ⟨true, rfl, by simp, HB.out⟩
    · by_cases hm : m < 20000
      · have hni : ¬ i < n := fun hh => hc ⟨hh, hm⟩
        have hmb : decide (m < 20000) = true := decide_eq_true hm
        have hmc : decide ((20000 : Int) ≤ m) = false := decide_eq_false (by omega)
        by_cases hn3 : 300 < n
        · have hnb : decide ((300 : Int) < (n : Int)) = true := decide_eq_true (by omega)
          go_wp2
          all_goals
            go_ret
            exact ⟨true, rfl, by simp, HB.out⟩
        · have HN3 : n ≤ 300 := by omega
          have hnb : decide ((300 : Int) < (n : Int)) = false := decide_eq_false (by omega)
          go_wp2_with (fail)
          refine (great03 _ _ _ _ _ HF.out.all).mono ?_
          rintro e w' ⟨⟨g, rfl⟩, rfl⟩
          cases g
          · go_wp2_with (fail)
            refine (great03 _ _ _ _ _ HF.out.any).mono ?_
            rintro e w' ⟨⟨g, rfl⟩, rfl⟩
            cases g
            · go_wp2_with (fail)
              refine (great03 _ _ _ _ _ HF.out.none).mono ?_
              rintro e w' ⟨⟨g, rfl⟩, rfl⟩
              cases g
              all_goals
                go_wp2
                go_ret
                exact ⟨_, rfl, fun _ => HN3, HB.out⟩
            · go_wp2
              go_ret
              exact ⟨_, rfl, fun _ => HN3, HB.out⟩
          · go_wp2
            go_ret
            exact ⟨_, rfl, fun _ => HN3, HB.out⟩
      · have hmb : decide (m < 20000) = false := decide_eq_false hm
        have hmc : decide ((20000 : Int) ≤ m) = true := decide_eq_true (by omega)
        go_wp2
        all_goals
          go_ret
          exact ⟨true, rfl, by simp, HB.out⟩
end Go.Proofs.Yteaomjabanhblaa
