/-
  PastEach holds: all that is there at a version is what is there of each id, by rising ids.
-/
import Derived.Test.YtdmnflncgmnghaaRows
import Derived.Test.YtdmnflncgmnghaaDn
namespace Go.Proofs.Ytdmnflncgmnghaa
open Go.ChangeShapes Go.WideShapes Go.ChangeAt Go.RowKit

def Small10 (p : PastV) : Prop := ∀ r ∈ p.rows, r.item.id < 10
theorem Small10.lay {p : PastV} {r : RowV} (h : Small10 p) (hr : r.item.id < 10) : Small10 (p.lay r).1 := by
  rcases lay_cases p r with e | ⟨e, _⟩
  · rw [e]
    exact h
  · rw [e]
    intro s hs
    rcases List.mem_append.1 hs with hs | hs
    · exact h s hs
    · rw [List.mem_singleton.1 hs]
      exact hr
theorem sweepI_sub (L : List RowV) (last : Nat) (ks : List Nat) : ∀ i, ∀ r ∈ sweepI L last ks i, r ∈ L := by
  intro i
  induction i with
  | zero =>
    intro r h
    cases h
  | succ i ih =>
    intro r h
    cases hi : L[i]? with
    | none =>
      rw [sweepI, hi] at h
      exact ih r h
    | some s =>
      rw [sweepI_succ L last ks hi] at h
      split at h
      · rcases List.mem_append.1 h with h | h
        · exact ih r h
        · rw [List.mem_singleton.1 h]
          exact List.mem_of_getElem? hi
      · exact ih r h
theorem Small10.sweep {p : PastV} (h : Small10 p) (keep : List Nat) : Small10 (p.sweep keep).1 := fun r hr => h r (sweepI_sub _ _ _ _ r hr)
theorem thereP_id {L : List RowV} {id v : Nat} {r : RowV} (h : thereP L id v = some r) : r.item.id = id ∧ r ∈ L := by
  unfold thereP at h
  split at h
  · cases h
  · rename_i hn
    obtain ⟨i, hi⟩ := Int.eq_ofNat_of_zero_le (a := atP L id v) (by omega)
    obtain ⟨s, hs, h1, _⟩ := atP_hit hi
    rw [hi, Int.toNat_natCast, hs, Option.filter_some] at h
    split at h
    · cases h
      exact ⟨h1, List.mem_of_getElem? hs⟩
    · cases h
/-- What is there of the ids below k. -/
def wantI (L : List RowV) (v : Nat) : Nat → List ItemV
  | 0 => []
  | k + 1 => match thereP L k v with
    | some r => wantI L v k ++ [r.item]
    | none => wantI L v k
theorem want_mem (L : List RowV) (v : Nat) : ∀ k x, x ∈ wantI L v k ↔ ∃ j r, j < k ∧ thereP L j v = some r ∧ r.item = x := by
  intro k
  induction k with
  | zero => exact fun x => ⟨fun h => (by cases h), fun ⟨j, _, h, _⟩ => (by omega)⟩
  | succ k ih =>
    intro x
    unfold wantI
    cases hr : thereP L k v with
    | none =>
      simp only
      rw [ih]
      constructor
      · rintro ⟨j, r, h, h2⟩
        exact ⟨j, r, by omega, h2⟩
      · rintro ⟨j, r, h, h2⟩
        by_cases hj : j = k
        · rw [hj, hr] at h2
          cases h2.1
        · exact ⟨j, r, by omega, h2⟩
    | some s =>
      simp only
      rw [List.mem_append, List.mem_singleton, ih]
      constructor
      · rintro (⟨j, r, h, h2⟩ | rfl)
        · exact ⟨j, r, by omega, h2⟩
        · exact ⟨k, s, by omega, hr, rfl⟩
      · rintro ⟨j, r, h, h2, h3⟩
        by_cases hj : j = k
        · rw [hj, hr] at h2
          cases h2
          exact .inr h3.symm
        · exact .inl ⟨j, r, by omega, h2, h3⟩
theorem want_rising (L : List RowV) (v : Nat) : ∀ k, RisingI (wantI L v k) := by
  intro k
  induction k with
  | zero => exact List.Pairwise.nil
  | succ k ih =>
    unfold wantI
    cases hr : thereP L k v with
    | none => exact ih
    | some s =>
      refine List.pairwise_append.2 ⟨ih, by simp, fun x hx y hy => ?_⟩
      obtain ⟨j, r, h, h2, rfl⟩ := (want_mem L v k x).1 hx
      rw [List.mem_singleton.1 hy, (thereP_id h2).1, (thereP_id hr).1]
      exact h
theorem want_all {p : PastV} (h : Small10 p) (v : Nat) : wantI p.rows v 10 = allI p.rows v p.rows.length :=
  rising_ext _ _ (want_rising _ _ _) (allI_rising _ _ _) fun x => by
    rw [want_mem, all_there]
    constructor
    · rintro ⟨j, r, _, h2, rfl⟩
      exact ⟨r, by rw [(thereP_id h2).1]; exact h2, rfl⟩
    · rintro ⟨r, h2, rfl⟩
      exact ⟨r.item.id, r, h r (thereP_id h2).2, h2, rfl⟩
theorem want_len (L : List RowV) (v : Nat) : ∀ k, (wantI L v k).length ≤ k := by
  intro k
  induction k with
  | zero => exact Nat.le_refl _
  | succ k ih =>
    unfold wantI
    cases thereP L k v with
    | none => exact Nat.le_succ_of_le ih
    | some s => simpa using ih
theorem ownsRow_low {w : World} {lo lo' : Nat} {t : TypeId} {k n : Nat} {v : Value} {cs : List Value} (h : w.ownsRow lo t k v n cs) (hl : lo' ≤ lo) : w.ownsRow lo' t k v n cs := by
  refine ⟨h.1, ?_⟩
  rcases h.2 with h2 | ⟨g, cap, cur, h1, h2, h3⟩
  · exact .inl h2
  · exact .inr ⟨g, cap, cur, h1, Nat.le_trans hl h2, h3⟩
theorem ItL.OwnI.mono {lo lo' : Nat} {w : World} {x : ItL} (h : x.OwnI lo w) (hl : lo' ≤ lo) : x.OwnI lo' w := ⟨h.hid, ownsRow_low h.vec hl, ownsRow_low h.tags hl, h.wv, h.wt, h.lv, h.lt⟩
theorem ItL.OwnI.keptRow {lo lo' : Nat} {w w' : World} {x : ItL} {v : Value} {css : List (List Value)} (h : x.OwnI lo w) (hr : RowC lo' w 37 3 v css) (hk : Kept (ownB v) w w') : x.OwnI lo w' := h.kept hk fun b hb hv => by
  rcases List.mem_append.1 hb with hb | hb
  · exact row_apart8 h.vec hr.2 (by decide) b (mem_ownB.1 hb) (mem_ownB.1 hv)
  · exact row_apart8 h.tags hr.2 (by decide) b (mem_ownB.1 hb) (mem_ownB.1 hv)
theorem get_known {p : PastV} {v : Nat} (h : p.known v = true) (id : Nat) : (∃ r, thereP p.rows id v = some r ∧ p.get id v = (r.item, 0)) ∨ (thereP p.rows id v = none ∧ (p.get id v).2 = 2) := by
  unfold PastV.get
  rw [if_pos h]
  cases thereP p.rows id v with
  | none => exact .inr ⟨rfl, rfl⟩
  | some r => exact .inl ⟨r, rfl, rfl⟩
set_option maxRecDepth 100000 in
set_option maxHeartbeats 25600000 in
theorem each_walk (a : Option Addr) (n c : Nat) (xs : List shOp.T) (v : Nat) (hv64 : v < 18446744073709551616) (w : World) (hx : Rd (· < w.heap.size) w shOps [.slice a n c] xs) :
    Calls Try.prog 5 #[.slice a n c, .int .u64 (v : Int)] w fun e w' => e = .returned (.bool true) ∧ Below w.heap.size w w' := by
  have HX := Lib.hid hx
  have HV := Lib.hid hv64
  clear hx hv64
  go_enter Try.func5, Try.ntmps5
  go_wp2_with (fail)
  refine (alive8 w).mono ?_
  rintro e w1 ⟨rfl, hb1⟩
  go_wp2_with (fail)
  refine (new_is w1).mono ?_
  rintro e w2 ⟨F2, rfl, hb2, h2⟩
  have hs1 := hb1.size
  have B2 := Lib.hid (below_on hb1 hb2)
  have H2 := Lib.hid (And.intro h2 (show Small10 PastV.new from fun r hr => by cases hr))
  clear hb1 hb2 h2
  go_wp2_with (fail)
  go_loopw [6] (fun s6 wr => ∃ (i : Nat) (p : PastV) (F : List Nat), s6 = .int .i64 i ∧ i ≤ 60 ∧ Hid (PastIs wr w1.heap.size w1.heap.size F p ∧ Small10 p) ∧ Hid (Below w.heap.size w wr)) (fun s6 _ => 60 - (intOf s6).toNat)
  case atStart => exact ⟨0, PastV.new, F2, rfl, by omega, H2.out, B2.out⟩
  case round =>
    clear H2 B2
    obtain ⟨i, p, F, rfl, hi, HP, HB⟩ := hrel
    go_upto_region 5 with fail
    go_cut [25] (fun s25 wx => ∃ z : Bool, s25 = .bool z ∧ Hid (z = true ↔ (i < n ∧ i < 60)) ∧ wx = wr)
    case first =>
      by_cases hin : i < n
      · by_cases hi10 : i < 60
        · have hd1 : decide ((i : Int) < 60) = true := decide_eq_true (by omega)
          go_wp2
          go_meet
          exact ⟨true, rfl, by simp [Hid]; omega, rfl⟩
        · have hd1 : decide ((i : Int) < 60) = false := decide_eq_false (by omega)
          go_wp2
          go_meet
          exact ⟨false, rfl, by simp [Hid]; omega, rfl⟩
      · go_wp2
        go_meet
        exact ⟨false, rfl, by simp [Hid]; omega, rfl⟩
    case rest =>
      obtain ⟨z, rfl, HZI, rfl⟩ := hcut
      cases z
      rotate_left
      · as_aux_lemma =>
        obtain ⟨hin, hi40⟩ := HZI.out.1 rfl
        clear HZI
        obtain ⟨b, off, k, ah, x, ka, kn, kc, keep, rfl, hbl, hk, ha1, ha2, hkn, OPF⟩ := rd_op_in2 HX.out i hin
        obtain ⟨hb0, -, -, m0, m1, m2, m3, m4, m5⟩ := OPF.out _ HB.out
        obtain ⟨W4, hW4⟩ : ∃ W4, wc.alloc (.cells #[.int .u8 (k : Int), .int .i8 ah, .int .u32 (x.id : Int), .slice x.pv.1 x.pv.2.1 x.pv.2.2, .slice x.pt.1 x.pt.2.1 x.pt.2.2, .slice ka kn kc] 39) = W4 := ⟨_, rfl⟩
        obtain ⟨ob, hob⟩ : ∃ ob, wc.heap.size = ob := ⟨_, rfl⟩
        have hb4 : Below wc.heap.size wc W4 := by rw [← hW4]; exact (Below.refl _ _).alloc (Nat.le_refl _) _
        have O4 := Lib.hid (show Blk W4 ob 39 [.int .u8 (k : Int), .int .i8 ah, .int .u32 (x.id : Int), .slice x.pv.1 x.pv.2.1 x.pv.2.2, .slice x.pt.1 x.pt.2.1 x.pt.2.2, .slice ka kn kc] from by rw [← hW4, ← hob]; exact Blk.new _ _ _)
        have HPo := Lib.hid (show ∀ x ∈ F, x ≠ ob from fun x hx => by have := (HP.out.1.lt x hx).2; omega)
        have hwob : w.heap.size ≤ ob := by have := HB.out.size; omega
        have P4 := Lib.hid (HP.out.1.on hb4)
        have SM := Lib.hid HP.out.2
        have B4 := Lib.hid (below_on HB.out hb4)
        have q2 : W4.cell? ⟨ob, 2, none⟩ = some (.int .u32 (x.id : Int)) := O4.out.cell 2
        have q3 : W4.cell? ⟨ob, 3, none⟩ = some (.slice x.pv.1 x.pv.2.1 x.pv.2.2) := O4.out.cell 3
        have q4 : W4.cell? ⟨ob, 4, none⟩ = some (.slice x.pt.1 x.pt.2.1 x.pt.2.2) := O4.out.cell 4
        have hobl := O4.out.lt
        clear hb4 HP HB
        go_wp2_with (fail)
        refine (small_any w.heap.size x W4 ((OPF.out _ B4.out).2.1) B4.out.size).mono ?_
        rintro e w5 ⟨⟨gs, rfl⟩, hb5⟩
        have P5 := Lib.hid (P4.out.on hb5)
        have B5 := Lib.hid (B4.out.trans (hb5.mono B4.out.size))
        have O5 := Lib.hid ((Kept.of_below (F := []) hb5 (Nat.le_refl _)).blk O4.out (by simp))
        clear hb5 P4 B4 O4 q2 q3 q4 m0 m1 m2 m3 m4 m5 hW4 hobl hb0
        cases gs
        · go_wp2
          go_ret
          exact ⟨rfl, B5.out⟩
        have q5 : w5.cell? ⟨ob, 5, none⟩ = some (.slice ka kn kc) := O5.out.cell 5
        by_cases hk100 : kn ≤ 50
        rotate_left
        · have hkd : (50 : Int) < (kn : Int) := by omega
          go_wp2
          go_ret
          exact ⟨rfl, B5.out⟩
        have hkd : decide ((50 : Int) < (kn : Int)) = false := decide_eq_false (by omega)
        have hkd2 : decide ((kn : Int) > 50) = false := decide_eq_false (by omega)
        have q2 : w5.cell? ⟨ob, 2, none⟩ = some (.int .u32 (x.id : Int)) := O5.out.cell 2
        have f2 : w5.frozen? ⟨ob, 2, none⟩ = false := O5.out.frozen 2
        obtain ⟨m, hm⟩ : ∃ m, x.id % 10 = m := ⟨_, rfl⟩
        have hm10 : m < 10 := by omega
        have hrem : (x.id : Int) % 10 = (m : Int) := by omega
        obtain ⟨w6, hw6⟩ : ∃ w6, w5.setCell ⟨ob, 2, none⟩ (.int .u32 (m : Int)) = w6 := ⟨_, rfl⟩
        have k6 : Kept [ob] w5 w6 := by rw [← hw6]; exact (Kept.refl [ob] w5).setCell _ _ (.inl (by simp))
        have P6 := Lib.hid (P5.out.kept k6 (fun x hx hF => HPo.out x hF (by simpa using hx)))
        have B6 := Lib.hid (B5.out.trans (k6.below (B := w.heap.size) (by simpa using hwob) B5.out.size))
        have O6 := Lib.hid (show Blk w6 ob 39 [.int .u8 (k : Int), .int .i8 ah, .int .u32 (m : Int), .slice x.pv.1 x.pv.2.1 x.pv.2.2, .slice x.pt.1 x.pt.2.1 x.pt.2.2, .slice ka kn kc] from by
          rw [← hw6]
          have := O5.out.set 2 (.int .u32 (m : Int))
          simpa using this)
        have hla := P6.out.last64
        obtain ⟨la, hla2⟩ : ∃ la, p.last = la := ⟨_, rfl⟩
        have LC := Lib.hid (fun W (hW : Below w6.heap.size w6 W) => last_is W _ _ F p (P6.out.on hW))
        rw [hla2] at hla LC
        obtain ⟨V, hV⟩ : ∃ V, versionN la ah = V := ⟨_, rfl⟩
        have HV64 := Lib.hid (show V < 18446744073709551616 from by rw [← hV]; exact versionN_lt _ _ hla)
        have VC := Lib.hid (show ∀ W, Calls Try.prog 9 #[.int .u64 (la : Int), .int .i8 ah] W fun e w' => e = .returned (.int .u64 (V : Int)) ∧ w' = W from by
          rw [← hV]
          exact fun W => version_any la ah W hla ha1 ha2)
        have q1 : w6.cell? ⟨ob, 1, none⟩ = some (.int .i8 ah) := O6.out.cell 1
        clear P5 B5 O5 hla hla2 hV k6 hm
        go_wp2_with (fail)
        go_quiet (first | (go_at_call 21; refine Calls.quiet_of_same (LC.out _ (below_draws (Below.refl _ _) _))) | (go_at_call 9; refine Calls.quiet_of_same (VC.out _)))
        have P7 := Lib.hid (P6.out.on (below_draws (Below.refl w6.heap.size w6) nq))
        have B7 := Lib.hid (below_draws B6.out nq)
        have O7 := Lib.hid (show Blk (w6.drewN nq) ob 39 [.int .u8 (k : Int), .int .i8 ah, .int .u32 (m : Int), .slice x.pv.1 x.pv.2.1 x.pv.2.2, .slice x.pt.1 x.pt.2.1 x.pt.2.2, .slice ka kn kc] from O6.out)
        clear P6 B6 O6 q5 q1 LC VC hw6 hrem q2 f2 hkd hkd2
        generalize w6.drewN nq = wc2 at P7 B7 O7 ⊢
        have r0 : wc2.cell? ⟨ob, 0, none⟩ = some (.int .u8 (k : Int)) := O7.out.cell 0
        have r2 : wc2.cell? ⟨ob, 2, none⟩ = some (.int .u32 (m : Int)) := O7.out.cell 2
        have r3 : wc2.cell? ⟨ob, 3, none⟩ = some (.slice x.pv.1 x.pv.2.1 x.pv.2.2) := O7.out.cell 3
        have r4 : wc2.cell? ⟨ob, 4, none⟩ = some (.slice x.pt.1 x.pt.2.1 x.pt.2.2) := O7.out.cell 4
        have r5 : wc2.cell? ⟨ob, 5, none⟩ = some (.slice ka kn kc) := O7.out.cell 5
        have IN7 := Lib.hid (show (show ItL from ⟨m, x.pv, x.pt, x.vec, x.tags⟩).In (fun _ => True) wc2 from ⟨show m < 4294967296 by omega, ((OPF.out _ B7.out).2.1).any.hvec, ((OPF.out _ B7.out).2.1).any.htags⟩)
        have VI := (OPF.out _ B7.out).2.2.1 (by omega)
        have KL := Lib.hid (show keep.length ≤ 100000 from by rw [VI.1]; exact VI.2.2.1)
        have VI7 := Lib.hid VI.any
        have hk4 : (k : Int) % 4 = 0 ∨ (k : Int) % 4 = 1 ∨ (k : Int) % 4 = 2 ∨ (k : Int) % 4 = 3 := by omega
        clear OPF VI
        rcases hk4 with hk4 | hk4 | hk4 | hk4
        · go_wp2_with (fail)
          refine (put_is wc2 _ _ F p V (show ItL from ⟨m, x.pv, x.pt, x.vec, x.tags⟩) P7.out HV64.out IN7.out).mono ?_
          rintro e w9 ⟨F9, rfl, h9, k9, -⟩
          have b9 := P7.out.below k9 (show Below w1.heap.size wc2 wc2 from Below.refl _ _) P7.out.size1
          have P9 := Lib.hid h9
          have B9 := Lib.hid (B7.out.trans (b9.mono hs1))
          clear h9 k9 b9
          go_wp2
          go_roundw
          case rel => exact ⟨i + 1, _, F9, by go_num, by omega, ⟨P9.out, SM.out.lay hm10⟩, B9.out⟩
          case measure => simp [intOf]; omega
        · go_wp2_with (fail)
          refine (put_is wc2 _ _ F p V (show ItL from ⟨m, x.pv, x.pt, x.vec, x.tags⟩) P7.out HV64.out IN7.out).mono ?_
          rintro e w9 ⟨F9, rfl, h9, k9, -⟩
          have b9 := P7.out.below k9 (show Below w1.heap.size wc2 wc2 from Below.refl _ _) P7.out.size1
          have P9 := Lib.hid h9
          have B9 := Lib.hid (B7.out.trans (b9.mono hs1))
          clear h9 k9 b9
          go_wp2
          go_roundw
          case rel => exact ⟨i + 1, _, F9, by go_num, by omega, ⟨P9.out, SM.out.lay hm10⟩, B9.out⟩
          case measure => simp [intOf]; omega
        · go_wp2_with (fail)
          refine (cut_is wc2 _ _ F p V m P7.out HV64.out (by omega)).mono ?_
          rintro e w9 ⟨F9, rfl, h9, k9, -⟩
          have b9 := P7.out.below k9 (show Below w1.heap.size wc2 wc2 from Below.refl _ _) P7.out.size1
          have P9 := Lib.hid h9
          have B9 := Lib.hid (B7.out.trans (b9.mono hs1))
          clear h9 k9 b9
          go_wp2
          go_roundw
          case rel => exact ⟨i + 1, _, F9, by go_num, by omega, ⟨P9.out, SM.out.lay hm10⟩, B9.out⟩
          case measure => simp [intOf]; omega
        · go_wp2_with (fail)
          refine (sweep_is wc2 _ _ F p ka kn kc keep (sortU_le KL.out) P7.out VI7.out).mono ?_
          rintro e w9 ⟨F9, rfl, h9, k9, -⟩
          have b9 := P7.out.below k9 (show Below w1.heap.size wc2 wc2 from Below.refl _ _) P7.out.size1
          have P9 := Lib.hid h9
          have B9 := Lib.hid (B7.out.trans (b9.mono hs1))
          clear h9 k9 b9
          go_wp2
          go_roundw
          case rel => exact ⟨i + 1, _, F9, by go_num, by omega, ⟨P9.out, SM.out.sweep keep⟩, B9.out⟩
          case measure => simp [intOf]; omega
      · obtain ⟨kz, hkz⟩ : ∃ kz, p.known v = kz := ⟨_, rfl⟩
        have KN := Lib.hid hkz
        obtain ⟨ec, hec⟩ : ∃ ec, (p.all v).2 = ec := ⟨_, rfl⟩
        have EC := Lib.hid hec
        clear HZI hi
        go_wp2_with (fail)
        refine (all_is wc _ _ F p v HP.out.1 HV.out).mono ?_
        rintro e wA ⟨hbA, sv, us, rfl, hus, huo, hut⟩
        rw [EC.out]
        have huz : us.length ≤ 1000000 := by
          have h1 := all_len p v
          rw [← hut, List.length_map] at h1
          have h2 := HP.out.1.few
          omega
        obtain ⟨sa, sn, sc, rfl, -⟩ := its_rd hus huo huz
        have SN := Lib.hid (show sn = us.length from by
          obtain ⟨a', c', e', _⟩ := ItsAt.form hus
          simp only [Value.slice.injEq] at e'
          exact e'.2.1)
        have T0 := Lib.hid (And.intro hus huo)
        have TL := Lib.hid (And.intro hut huz)
        have PA := Lib.hid (HP.out.1.on hbA)
        have SM := Lib.hid HP.out.2
        have BA := Lib.hid (HB.out.trans (hbA.mono HB.out.size))
        clear hbA hus huo hut huz HP HB hec
        cases kz
        · as_aux_lemma =>
          have hc80 : (p.all v) = ([], 80) := by
            unfold PastV.all
            rw [hkz]
            rfl
          have hec80 : ec = 80 := by rw [← EC.out, hc80]
          have hsn : sn = 0 := by
            have h1 := TL.out.1
            rw [hc80] at h1
            rw [SN.out, ← List.length_map (f := ItL.toI), h1]
            rfl
          have GC := Lib.hid (show (p.get 0 v).2 = 80 from by
            unfold PastV.get
            rw [hkz]
            rfl)
          subst hec80 hsn
          clear hkz hc80
          go_wp2_with (fail)
          go_loopw [12] (fun s12 wr => s12 = .int .u32 0 ∧ wr = wA) (fun _ _ => 0)
          case atStart => exact ⟨rfl, rfl⟩
          case round =>
            obtain ⟨rfl, rfl⟩ := hrel
            go_wp2_with (fail)
            refine (get_is wr _ _ F p 0 v PA.out HV.out).mono ?_
            rintro e w7 ⟨hb7, y, rfl, hyo, hyt⟩
            rw [GC.out]
            have B7 := Lib.hid (BA.out.trans (hb7.mono BA.out.size))
            clear hb7 hyo hyt
            go_wp2
            go_ret
            exact ⟨rfl, B7.out.alloc B7.out.size _⟩
        · as_aux_lemma =>
          have hc0 : ec = 0 := by
            rw [← EC.out]
            unfold PastV.all
            rw [hkz]
            rfl
          have HC := Lib.hid (show us.map ItL.toI = wantI p.rows v 10 from by
            rw [TL.out.1, want_all SM.out]
            unfold PastV.all
            rw [hkz]
            rfl)
          subst hc0
          clear hkz
          go_wp2_with (fail)
          go_loopw [11, 12] (fun s11 s12 wr => ∃ (id : Nat) (ys : List ItL), s12 = .int .u32 id ∧ id ≤ 10 ∧ Hid (ItsAt wA.heap.size wr s11 ys ∧ (∀ y ∈ ys, y.OwnI wA.heap.size wr) ∧ ys.map ItL.toI = wantI p.rows v id) ∧ Hid (Below wA.heap.size wA wr)) (fun _ s12 _ => 10 - (intOf s12).toNat)
          case atStart => exact ⟨0, [], rfl, by omega, ⟨RowC.nil _ _ _ _, by simp, rfl⟩, Below.refl _ _⟩
          case round =>
            obtain ⟨id, ys, rfl, hid, HY, HW⟩ := hrel
            obtain ⟨ya, yc, hyf, -⟩ := ItsAt.form HY.out.1
            subst hyf
            obtain ⟨yn, hyn⟩ : ∃ yn, ys.length = yn := ⟨_, rfl⟩
            have YN := Lib.hid hyn
            rw [hyn] at HY ⊢
            have hyl : yn ≤ 10 := by
              have h1 := want_len p.rows v id
              rw [← HY.out.2.2, List.length_map, YN.out] at h1
              omega
            have PR := Lib.hid (PA.out.on HW.out)
            clear hyn
            by_cases hid10 : id < 10
            · obtain ⟨gc, hgc⟩ : ∃ gc, (p.get id v).2 = gc := ⟨_, rfl⟩
              have GCC := Lib.hid hgc
              clear hgc
              go_wp2_with (fail)
              refine (get_is wr _ _ F p id v PR.out HV.out).mono ?_
              rintro e w7 ⟨hb7, y, rfl, hyo, hyt⟩
              rw [GCC.out]
              obtain ⟨w8, hw8⟩ : ∃ w8, w7.alloc (.cells #[.int .u32 (y.id : Int), .slice y.pv.1 y.pv.2.1 y.pv.2.2, .slice y.pt.1 y.pt.2.1 y.pt.2.2] 37) = w8 := ⟨_, rfl⟩
              have hb8 : Below w7.heap.size w7 w8 := by rw [← hw8]; exact (Below.refl _ _).alloc (Nat.le_refl _) _
              have X8 := Lib.hid (show Blk w8 w7.heap.size 37 [.int .u32 (y.id : Int), .slice y.pv.1 y.pv.2.1 y.pv.2.2, .slice y.pt.1 y.pt.2.1 y.pt.2.2] from by rw [← hw8]; exact Blk.new _ _ _)
              have hwz := HW.out.size
              have hb78 := below_on hb7 hb8
              have W8 := Lib.hid (below_on HW.out hb78)
              have Y8 := Lib.hid (show ItsAt wA.heap.size w8 (.slice ya yn yc) ys ∧ (∀ y ∈ ys, y.OwnI wA.heap.size w8) ∧ ys.map ItL.toI = wantI p.rows v id from ⟨HY.out.1.on hb78, fun z hz => (HY.out.2.1 z hz).on hb78, HY.out.2.2⟩)
              have YO := Lib.hid ((hyo.on hb8).mono hwz)
              have YT := Lib.hid hyt
              have x0 : w8.cell? ⟨w7.heap.size, 0, none⟩ = some (.int .u32 (y.id : Int)) := X8.out.cell 0
              have x1 : w8.cell? ⟨w7.heap.size, 1, none⟩ = some (.slice y.pv.1 y.pv.2.1 y.pv.2.2) := X8.out.cell 1
              have x2 : w8.cell? ⟨w7.heap.size, 2, none⟩ = some (.slice y.pt.1 y.pt.2.1 y.pt.2.2) := X8.out.cell 2
              have hlo8 : wA.heap.size ≤ w8.heap.size := W8.out.size
              clear hb7 hb8 hb78 hyo hyt HY HW PR hwz
              rcases get_known KN.out id with ⟨r, hr, hg⟩ | ⟨hr, hg⟩
              · have hgc0 : gc = 0 := by rw [← GCC.out, hg]
                have NX := Lib.hid (show (ys ++ [y]).map ItL.toI = wantI p.rows v (id + 1) from by
                  rw [List.map_append, Y8.out.2.2, List.map_cons, List.map_nil, YT.out, hg]
                  conv => rhs; unfold wantI
                  rw [hr])
                subst hgc0
                clear hg hr
                go_wp2_with (at_builtin; go_must (refine app_c (k := 3) w8 rfl (.tmp 104) (.tmp 106) 54 rfl Try.underlying54 (.agg #[.int .u32 0, .slice none 0 0, .slice none 0 0]) 56 item_info3 rfl (by decide) [.int .u32 (y.id : Int), .slice y.pv.1 y.pv.2.1 y.pv.2.2, .slice y.pt.1 y.pt.2.1 y.pt.2.2] (by rfl) (by rfl) Y8.out.1 rfl (by simp [Value.oneCell']) hlo8 (by rw [List.length_map, YN.out]; omega) (by rw [List.length_map, YN.out]; omega) ?_))
                intro v9 w9 hr9 hk9 hg9
                have hr9' : ItsAt wA.heap.size w9 v9 (ys ++ [y]) := by
                  unfold ItsAt
                  rw [List.map_append]
                  exact hr9
                obtain ⟨a9, c9, hv9, -⟩ := ItsAt.form hr9'
                subst hv9
                have W9 := Lib.hid (W8.out.trans (hk9.below (fun b hb => (RowC.lt Y8.out.1 b (mem_ownB.1 hb)).1) hlo8))
                have Y9 := Lib.hid (show ItsAt wA.heap.size w9 (.slice a9 (ys ++ [y]).length c9) (ys ++ [y]) ∧ (∀ z ∈ ys ++ [y], z.OwnI wA.heap.size w9) ∧ (ys ++ [y]).map ItL.toI = wantI p.rows v (id + 1) from ⟨hr9', fun z hz => by
                  rcases List.mem_append.1 hz with hz | hz
                  · exact (Y8.out.2.1 z hz).keptRow Y8.out.1 hk9
                  · rw [List.mem_singleton.1 hz]
                    exact YO.out.keptRow Y8.out.1 hk9, NX.out⟩)
                obtain ⟨n9, hn9⟩ : ∃ n9, (ys ++ [y]).length = n9 := ⟨_, rfl⟩
                rw [hn9] at Y9 ⊢
                clear hr9 hk9 hg9 hr9' hn9
                go_wp2
                go_roundw
                case rel => exact ⟨id + 1, _, by go_num, by omega, Y9.out, W9.out⟩
                case measure => simp [intOf]; omega
              · have hgc2 : gc = 2 := by rw [← GCC.out, hg]
                have NX := Lib.hid (show ys.map ItL.toI = wantI p.rows v (id + 1) from by
                  rw [Y8.out.2.2]
                  conv => rhs; unfold wantI
                  rw [hr])
                subst hgc2
                clear hg hr
                go_wp2
                go_roundw
                case rel => exact ⟨id + 1, ys, by go_num, by omega, ⟨Y8.out.1, Y8.out.2.1, NX.out⟩, W8.out⟩
                case measure => simp [intOf]; omega
            · obtain rfl : id = 10 := by omega
              obtain ⟨sb, tn, tc, e2, rd2⟩ := its_rd HY.out.1 HY.out.2.1 (by rw [YN.out]; omega)
              simp only [Value.slice.injEq] at e2
              obtain ⟨rfl, rfl, rfl⟩ := e2
              obtain ⟨sa', sn', sc', e1, rd1⟩ := its_rd (T0.out.1.on HW.out) (fun x hx => (T0.out.2 x hx).on HW.out) TL.out.2
              simp only [Value.slice.injEq] at e1
              obtain ⟨rfl, rfl, rfl⟩ := e1
              have RD1 := Lib.hid rd1
              have RD2 := Lib.hid rd2
              have EQ := Lib.hid (show (us.map ItL.tup).map toItem = (ys.map ItL.tup).map toItem from by rw [tups_item, tups_item, HC.out, HY.out.2.2])
              have BR := Lib.hid (BA.out.trans (HW.out.mono BA.out.size))
              clear rd1 rd2 HY HW PR
              go_wp2_with (fail)
              refine (sameItems _ _ _ _ _ _ _ _ wr RD1.out RD2.out).mono ?_
              rintro e w9 ⟨zz, rfl, hz, hb9⟩
              obtain rfl : zz = true := hz.2 EQ.out
              have B9 := Lib.hid (BR.out.trans (hb9.mono BR.out.size))
              clear hz hb9
              go_wp2
              go_ret
              exact ⟨rfl, B9.out⟩

theorem each_row : Rows.PastEachSaid :=
  OpenClaim.holds_of_wide 5 Try.f5 rfl rfl rfl rfl rfl rfl rfl ⟨rfl, rfl, rfl, rfl, rfl⟩ rfl rfl rfl rfl rfl (by kernel_rfl) Try.func5 (by kernel_rfl)
    (of_decide_eq_true (by kernel_rfl)) (by unfold Func.isWrapper; rw [if_neg (of_decide_eq_false (by kernel_rfl))]; exact ⟨rfl, rfl⟩)
    (fun os started H enc _ => lift (C := Try.checked) (s := Rows.pastEachSpec) (conds := Rows.pastEachRow.domain) os started H enc prog_own (by kernel_rfl) Try.func5 prog_laid rfl Try.underlying4 rfl
      (fun ds hl => by
        have hl : ds.length = 2 := hl
        match ds, hl with
        | [_, _], _ => rfl)
      (of_decide_eq_true (by kernel_rfl))
      (ChangeSpec.witness6 (enc := enc) (C := Try.checked) false ⟨#[], #[.slice none 0 0, .int .u64 0], []⟩ 8 (by kernel_rfl) (by kernel_rfl) (by kernel_rfl) (by kernel_rfl))
      (fun W base args ds p g => by
        rw [Try.params5] at g
        obtain ⟨a, n, c, xs, e0, hx⟩ := g.ops 0 rfl
        obtain ⟨v, e1, hv⟩ := g.u64 1 rfl Try.underlying28
        rw [args2 g.count e0 e1]
        exact each_walk a n c xs v hv W hx))
end Go.Proofs.Ytdmnflncgmnghaa
