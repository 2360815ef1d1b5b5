/-
  PastBack holds: what is put or cut at later versions changes nothing of an earlier one.
-/
import Derived.Test.YtkfoakabdhllkaaRows
import Derived.Test.YtkfoakabdhllkaaCy
namespace Go.Proofs.Ytkfoakabdhllkaa
open Go.ChangeShapes Go.WideShapes Go.ChangeAt Go.RowKit

/-- From A to W nothing of A's blocks from lo on has turned. -/
def KeptMid (lo : Nat) (A W : World) : Prop := ∃ G, Kept G A W ∧ ∀ x ∈ G, x < lo ∨ A.heap.size ≤ x
theorem KeptMid.refl (lo : Nat) (A : World) : KeptMid lo A A := ⟨[], Kept.refl _ _, by simp⟩
theorem KeptMid.on {lo : Nat} {A W W' : World} (h : KeptMid lo A W) (hb : Below W.heap.size W W') : KeptMid lo A W' := by
  obtain ⟨G, h1, h2⟩ := h
  exact ⟨G, h1.trans (Kept.of_below (F := G) hb (Nat.le_refl _)) (Grows.refl _ _), h2⟩
theorem KeptMid.kept {lo : Nat} {A W W' : World} {F : List Nat} (h : KeptMid lo A W) (hk : Kept F W W') (hF : ∀ x ∈ F, x < lo ∨ A.heap.size ≤ x) : KeptMid lo A W' := by
  obtain ⟨G, h1, h2⟩ := h
  refine ⟨G ++ F, (h1.mono (fun x hx => List.mem_append.2 (.inl hx))).trans (hk.mono (fun x hx => List.mem_append.2 (.inr hx))) (Grows.refl _ _), fun x hx => ?_⟩
  rcases List.mem_append.1 hx with hx | hx
  · exact h2 x hx
  · exact hF x hx
/-- What was told stays as it was told. -/
theorem KeptMid.told {lo : Nat} {A W : World} {v : Value} {xs : List ItL} (h : KeptMid lo A W) (h1 : ItsAt lo A v xs) (h2 : ∀ x ∈ xs, x.OwnI lo A) : ItsAt lo W v xs ∧ ∀ x ∈ xs, x.OwnI lo W := by
  obtain ⟨G, h3, h4⟩ := h
  refine ⟨RowC.kept h1 h3 (fun g hg hh => ?_), fun x hx => (h2 x hx).kept h3 (fun b hb hh => ?_)⟩
  · have h5 := RowC.lt h1 g hg
    have h6 := h4 g hh
    omega
  · have h5 := (h2 x hx).lo b hb
    have h6 := h4 b hh
    omega
/-- The past behind an earlier one, with rows of later versions alone. -/
def Later (p : PastV) (V : Nat) (q : PastV) : Prop := (∀ v, q.known v = true) ∧ V ≤ q.last ∧ ∃ M, q.rows = p.rows ++ M ∧ ∀ r ∈ M, V < r.v
theorem Later.lay {p q : PastV} {V : Nat} (h : Later p V q) {r : RowV} {i : Nat} (hV : V < 18446744073709551616) (hi : i < 100) (hr : r.v = (V + 1 + i) % 18446744073709551616) : Later p V (q.lay r).1 := by
  obtain ⟨h1, h2, M, h3, h4⟩ := h
  rcases lay_cases q r with e | ⟨e, hle⟩
  · rw [e]
    exact ⟨h1, h2, M, h3, h4⟩
  · rw [e]
    have hg : V < r.v := by
      rw [hr] at hle ⊢
      by_cases hh : V + 1 + i < 18446744073709551616
      · rw [Nat.mod_eq_of_lt hh]
        omega
      · exfalso
        rw [Nat.mod_eq_sub_mod (by omega), Nat.mod_eq_of_lt (by omega)] at hle
        omega
    refine ⟨fun v => h1 v, Nat.le_trans h2 hle, M ++ [r], by simp [h3], fun s hs => ?_⟩
    rcases List.mem_append.1 hs with hs | hs
    · exact h4 s hs
    · rw [List.mem_singleton.1 hs]
      exact hg
theorem Later.all {p q : PastV} {V : Nat} (hp : ∀ v, p.known v = true) (h : Later p V q) : q.all V = p.all V := by
  obtain ⟨h1, h2, M, h3, h4⟩ := h
  unfold PastV.all
  rw [h1, hp, if_pos rfl, if_pos rfl, all_same (M := p.rows) (v' := V) (fun id => ?_)]
  rw [h3, thereP_told, thereP_told, told_earlier id V M p.rows h4]
theorem all_zero {p : PastV} (hp : ∀ v, p.known v = true) (V : Nat) : (p.all V).2 = 0 := by
  unfold PastV.all
  rw [hp, if_pos rfl]

set_option maxRecDepth 100000 in
set_option maxHeartbeats 12800000 in
theorem back_walk (a : Option Addr) (n c : Nat) (xs : List shOp.T) (a2 : Option Addr) (n2 c2 : Nat) (ys : List shOp.T) (w : World) (hx : Rd (· < w.heap.size) w shOps [.slice a n c] xs) (hy : Rd (· < w.heap.size) w shOps [.slice a2 n2 c2] ys) :
    Calls Try.prog 8 #[.slice a n c, .slice a2 n2 c2] w fun e w' => e = .returned (.bool true) ∧ Below w.heap.size w w' := by
  have HX := Lib.hid hx
  have HY := Lib.hid hy
  clear hx hy
  go_enter Try.func8, Try.ntmps8
  go_wp2_with (fail)
  refine (alive8 w).mono ?_
  rintro e w1 ⟨rfl, hb1⟩
  go_wp2_with (fail)
  refine (new_is w1).mono ?_
  rintro e w2 ⟨F2, rfl, hb2, h2⟩
  have B2 := Lib.hid (below_on hb1 hb2)
  have H2 := Lib.hid h2
  have hs1 := hb1.size
  clear hb1 hb2 h2
  go_wp2_with (fail)
  go_loopw [6] (fun s6 wr => ∃ (i : Nat) (p : PastV) (F : List Nat), s6 = .int .i64 i ∧ i ≤ 40 ∧ Hid (PastIs wr w1.heap.size w1.heap.size F p ∧ ∀ v, p.known v = true) ∧ Hid (Below w.heap.size w wr)) (fun s6 _ => 40 - (intOf s6).toNat)
  case atStart => exact ⟨0, PastV.new, F2, rfl, by omega, ⟨H2.out, fun v => by simp [PastV.known, PastV.new]⟩, B2.out⟩
  case round =>
    obtain ⟨i, p, F, rfl, hi, HP, HB⟩ := hrel
    go_upto_region 5 with fail
    go_cut [24] (fun s24 wx => ∃ z : Bool, s24 = .bool z ∧ Hid (z = true ↔ (i < n ∧ i < 40)) ∧ wx = wr)
    case first =>
      by_cases hin : i < n
      · by_cases hi10 : i < 40
        · have hd1 : decide ((i : Int) < 40) = true := decide_eq_true (by omega)
          go_wp2
          go_meet
          exact ⟨true, rfl, by simp [Hid]; omega, rfl⟩
        · have hd1 : decide ((i : Int) < 40) = false := decide_eq_false (by omega)
          go_wp2
          go_meet
          exact ⟨false, rfl, by simp [Hid]; omega, rfl⟩
      · go_wp2
        go_meet
        exact ⟨false, rfl, by simp [Hid]; omega, rfl⟩
    case rest =>
      obtain ⟨z, rfl, HZI, rfl⟩ := hcut
      cases z
      rotate_left
      · obtain ⟨hin, hi40⟩ := HZI.out.1 rfl
        clear HZI
        obtain ⟨b, off, k, ah, x, rfl, hbl, hk, ha1, ha2, OPF⟩ := rd_op_in HX.out i hin
        obtain ⟨hb0, -, -, -, m2, m3, m4⟩ := OPF.out _ HB.out
        go_wp2_with (fail)
        refine (small_any w.heap.size x wc ((OPF.out _ HB.out).2.1) HB.out.size).mono ?_
        rintro e w3 ⟨⟨gs, rfl⟩, hb3⟩
        have P3 := Lib.hid (show PastIs w3 w1.heap.size w1.heap.size F p ∧ ∀ v, p.known v = true from ⟨HP.out.1.on hb3, HP.out.2⟩)
        have B3 := Lib.hid (HB.out.trans (hb3.mono HB.out.size))
        clear hb3 HP HB m2 m3 m4 hb0
        cases gs
        · go_wp2
          go_ret
          exact ⟨rfl, B3.out⟩
        obtain ⟨hb0, -, m0, m1, m2, m3, m4⟩ := OPF.out _ B3.out
        have PD := Lib.hid (show PastIs w3.drew w1.heap.size w1.heap.size F p from P3.out.1.on ((Below.refl w3.heap.size w3).drew))
        have IN := Lib.hid (show x.In (fun _ => True) w3.drew from ((OPF.out _ B3.out.drew).2.1).any)
        have hvl : versionN p.last ah < 18446744073709551616 := versionN_lt _ _ P3.out.1.last64
        by_cases hk2 : k % 3 = 2
        · have hkb : decide ((k : Int) % 3 = 2) = true := decide_eq_true (by omega)
          have hkb2 : ((k : Int) % 3 == 2) = true := by rw [beq_iff_eq]; omega
          go_wp2_with (fail)
          go_region_law (first
            | (rw [if_pos (by rfl)]; go_simp; go_at_call 24; refine (last_is _ _ _ F _ PD.out).mono ?_; rintro e w' ⟨rfl, hw'⟩; have hw'' := hw'.symm; subst hw''; clear hw')
            | (rw [if_pos (by rfl)]; go_simp; go_at_call 12; refine (version_any _ ah _ P3.out.1.last64 ha1 ha2).mono ?_; rintro e w' ⟨rfl, hw'⟩; have hw'' := hw'.symm; subst hw''; clear hw')
            | (rw [if_pos (by rfl)]; go_simp; go_at_call 15; refine (cut_is _ _ _ F _ _ x.id PD.out hvl IN.out.hid).mono ?_; rintro e w4 ⟨F4, rfl, h4, k4, -⟩; have b4 := PD.out.below k4 (show Below w1.heap.size w3.drew w3.drew from Below.refl _ _) PD.out.size1; have P4 := Lib.hid (And.intro h4 (fun v => (lay_known p ⟨versionN p.last ah, true, ⟨x.id, [], []⟩⟩ v).trans (P3.out.2 v))); have B4 := Lib.hid (B3.out.drew.trans (b4.mono hs1)); clear h4 k4 b4))
          all_goals
            go_wp2
            go_roundw
            case rel => exact ⟨i + 1, _, F4, by go_num, by omega, P4.out, B4.out⟩
            case measure => simp [intOf]; omega
        · have hkb : decide ((k : Int) % 3 = 2) = false := decide_eq_false (by omega)
          have hkb2 : ((k : Int) % 3 == 2) = false := by rw [Bool.eq_false_iff]; intro h; rw [beq_iff_eq] at h; omega
          go_wp2_with (fail)
          go_region_law (first
            | (rw [if_pos (by rfl)]; go_simp; go_at_call 24; refine (last_is _ _ _ F _ PD.out).mono ?_; rintro e w' ⟨rfl, hw'⟩; have hw'' := hw'.symm; subst hw''; clear hw')
            | (rw [if_pos (by rfl)]; go_simp; go_at_call 12; refine (version_any _ ah _ P3.out.1.last64 ha1 ha2).mono ?_; rintro e w' ⟨rfl, hw'⟩; have hw'' := hw'.symm; subst hw''; clear hw')
            | (rw [if_pos (by rfl)]; go_simp; go_at_call 13; refine (put_is _ _ _ F _ _ x PD.out hvl IN.out).mono ?_; rintro e w4 ⟨F4, rfl, h4, k4, -⟩; have b4 := PD.out.below k4 (show Below w1.heap.size w3.drew w3.drew from Below.refl _ _) PD.out.size1; have P4 := Lib.hid (And.intro h4 (fun v => (lay_known p ⟨versionN p.last ah, false, x.toI⟩ v).trans (P3.out.2 v))); have B4 := Lib.hid (B3.out.drew.trans (b4.mono hs1)); clear h4 k4 b4))
          all_goals
            go_wp2
            go_roundw
            case rel => exact ⟨i + 1, _, F4, by go_num, by omega, P4.out, B4.out⟩
            case measure => simp [intOf]; omega
      · clear HZI hi
        go_wp2_with (fail)
        refine (last_is wc _ _ F _ HP.out.1).mono ?_
        rintro e w3 ⟨rfl, hw3⟩
        subst hw3
        have hv64 := HP.out.1.last64
        obtain ⟨V, hV⟩ : ∃ V, p.last = V := ⟨_, rfl⟩
        have HV := Lib.hid hV
        rw [hV] at hv64 ⊢
        clear hV
        go_wp2_with (fail)
        refine (all_is w3 _ _ F _ V HP.out.1 hv64).mono ?_
        rintro e wA ⟨hbA, sv, us, rfl, hus, huo, hut⟩
        rw [all_zero HP.out.2 V]
        have hfl := HP.out.1.lt
        have huz : us.length ≤ 1000000 := by
          have h1 := all_len p V
          rw [← hut, List.length_map] at h1
          have h2 := HP.out.1.few
          omega
        obtain ⟨sa, sn, sc, rfl, -⟩ := its_rd hus huo huz
        have T0 := Lib.hid (And.intro hus huo)
        have TL := Lib.hid (And.intro hut huz)
        have PA := Lib.hid (HP.out.1.on hbA)
        have BA := Lib.hid (HB.out.trans (hbA.mono HB.out.size))
        have KN := Lib.hid HP.out.2
        have FL := Lib.hid (show ∀ x ∈ F, x < w3.heap.size ∨ wA.heap.size ≤ x from fun x hx => .inl (hfl x hx).2)
        clear hbA hus huo hut huz hfl HP HB
        go_wp2_with (fail)
        go_loopw [10] (fun s10 wr => ∃ (i : Nat) (q : PastV) (G : List Nat), s10 = .int .i64 i ∧ i ≤ 30 ∧ Hid (PastIs wr w1.heap.size w1.heap.size G q ∧ Later p V q ∧ ∀ x ∈ G, x < w3.heap.size ∨ wA.heap.size ≤ x) ∧ Hid (KeptMid w3.heap.size wA wr) ∧ Hid (Below w.heap.size w wr) ∧ Hid (wA.heap.size ≤ wr.heap.size)) (fun s10 _ => 30 - (intOf s10).toNat)
        case atStart => exact ⟨0, p, F, rfl, by omega, ⟨PA.out, ⟨KN.out, by rw [HV.out]; exact Nat.le_refl _, [], by simp, by simp⟩, FL.out⟩, KeptMid.refl _ _, BA.out, Nat.le_refl _⟩
        case round =>
          clear PA BA FL
          obtain ⟨i, q, G, rfl, hi, HQ, HM, HB, HS⟩ := hrel
          go_upto_region 15 with fail
          go_cut [87] (fun s87 wx => ∃ z : Bool, s87 = .bool z ∧ Hid (z = true ↔ (i < n2 ∧ i < 30)) ∧ wx = wr)
          case first =>
            by_cases hin : i < n2
            · by_cases hi10 : i < 30
              · have hd1 : decide ((i : Int) < 30) = true := decide_eq_true (by omega)
                go_wp2
                go_meet
                exact ⟨true, rfl, by simp [Hid]; omega, rfl⟩
              · have hd1 : decide ((i : Int) < 30) = false := decide_eq_false (by omega)
                go_wp2
                go_meet
                exact ⟨false, rfl, by simp [Hid]; omega, rfl⟩
            · go_wp2
              go_meet
              exact ⟨false, rfl, by simp [Hid]; omega, rfl⟩
          case rest =>
            obtain ⟨z, rfl, HZI, rfl⟩ := hcut
            cases z
            rotate_left
            · obtain ⟨hin, hi40⟩ := HZI.out.1 rfl
              clear HZI
              obtain ⟨b, off, k, ah, x, rfl, hbl, hk, ha1, ha2, OPF⟩ := rd_op_in HY.out i hin
              obtain ⟨hb0, -, -, -, m2, m3, m4⟩ := OPF.out _ HB.out
              go_wp2_with (fail)
              refine (small_any w.heap.size x wc ((OPF.out _ HB.out).2.1) HB.out.size).mono ?_
              rintro e w5 ⟨⟨gs, rfl⟩, hb3⟩
              have Q5 := Lib.hid (show PastIs w5 w1.heap.size w1.heap.size G q ∧ Later p V q ∧ ∀ x ∈ G, x < w3.heap.size ∨ wA.heap.size ≤ x from ⟨HQ.out.1.on hb3, HQ.out.2⟩)
              have B5 := Lib.hid (HB.out.trans (hb3.mono HB.out.size))
              have M5 := Lib.hid (HM.out.on hb3)
              have S5 := Lib.hid (Nat.le_trans HS.out hb3.size)
              clear hb3 HQ HB HM HS m2 m3 m4 hb0
              cases gs
              · go_wp2
                go_ret
                exact ⟨rfl, B5.out⟩
              obtain ⟨hb0, -, m0, -, m2, m3, m4⟩ := OPF.out _ B5.out
              have IN := Lib.hid (show x.In (fun _ => True) w5 from ((OPF.out _ B5.out).2.1).any)
              obtain ⟨V1, hV1⟩ : ∃ V1, (V + 1) % 18446744073709551616 = V1 := ⟨_, rfl⟩
              obtain ⟨W1, hW1⟩ : ∃ W1, (V + 1 + i) % 18446744073709551616 = W1 := ⟨_, rfl⟩
              have hw1 : IntKind.u64.wrap ((V : Int) + 1) = (V1 : Int) := by rw [IntKind.wrap_u64]; omega
              have hwi : IntKind.u64.wrap (i : Int) = (i : Int) := by rw [IntKind.wrap_u64]; omega
              have hw2 : IntKind.u64.wrap ((V1 : Int) + (i : Int)) = (W1 : Int) := by rw [IntKind.wrap_u64]; omega
              have hW64 : W1 < 18446744073709551616 := by rw [← hW1]; exact Nat.mod_lt _ (by decide)
              have HW1 := Lib.hid hW1
              clear hV1 hW1
              by_cases hk2 : k % 3 = 2
              · have hkb : decide ((k : Int) % 3 = 2) = true := decide_eq_true (by omega)
                have hkb2 : ((k : Int) % 3 == 2) = true := by rw [beq_iff_eq]; omega
                go_wp2_with (fail)
                refine (cut_is w5 _ _ G _ W1 x.id Q5.out.1 hW64 IN.out.hid).mono ?_
                rintro e w6 ⟨G6, rfl, h6, k6, g6⟩
                have b6 := Q5.out.1.below k6 (show Below w1.heap.size w5 w5 from Below.refl _ _) Q5.out.1.size1
                have P6 := Lib.hid (show PastIs w6 w1.heap.size w1.heap.size G6 (q.lay ⟨W1, true, ⟨x.id, [], []⟩⟩).1 ∧ Later p V (q.lay ⟨W1, true, ⟨x.id, [], []⟩⟩).1 ∧ ∀ x ∈ G6, x < w3.heap.size ∨ wA.heap.size ≤ x from ⟨h6, Q5.out.2.1.lay hv64 (show i < 100 by omega) HW1.out.symm, fun y hy => by
                  rcases g6 y hy with h7 | h7
                  · exact Q5.out.2.2 y h7
                  · exact .inr (Nat.le_trans S5.out h7)⟩)
                have M6 := Lib.hid (M5.out.kept k6 Q5.out.2.2)
                have B6 := Lib.hid (B5.out.trans (b6.mono hs1))
                have S6 := Lib.hid (Nat.le_trans S5.out k6.size)
                clear h6 k6 g6 b6
                go_wp2
                go_roundw
                case rel => exact ⟨i + 1, _, G6, by go_num, by omega, P6.out, M6.out, B6.out, S6.out⟩
                case measure => simp [intOf]; omega
              · have hkb : decide ((k : Int) % 3 = 2) = false := decide_eq_false (by omega)
                have hkb2 : ((k : Int) % 3 == 2) = false := by rw [Bool.eq_false_iff]; intro h; rw [beq_iff_eq] at h; omega
                go_wp2_with (fail)
                refine (put_is w5 _ _ G _ W1 x Q5.out.1 hW64 IN.out).mono ?_
                rintro e w6 ⟨G6, rfl, h6, k6, g6⟩
                have b6 := Q5.out.1.below k6 (show Below w1.heap.size w5 w5 from Below.refl _ _) Q5.out.1.size1
                have P6 := Lib.hid (show PastIs w6 w1.heap.size w1.heap.size G6 (q.lay ⟨W1, false, x.toI⟩).1 ∧ Later p V (q.lay ⟨W1, false, x.toI⟩).1 ∧ ∀ x ∈ G6, x < w3.heap.size ∨ wA.heap.size ≤ x from ⟨h6, Q5.out.2.1.lay hv64 (show i < 100 by omega) HW1.out.symm, fun y hy => by
                  rcases g6 y hy with h7 | h7
                  · exact Q5.out.2.2 y h7
                  · exact .inr (Nat.le_trans S5.out h7)⟩)
                have M6 := Lib.hid (M5.out.kept k6 Q5.out.2.2)
                have B6 := Lib.hid (B5.out.trans (b6.mono hs1))
                have S6 := Lib.hid (Nat.le_trans S5.out k6.size)
                clear h6 k6 g6 b6
                go_wp2
                go_roundw
                case rel => exact ⟨i + 1, _, G6, by go_num, by omega, P6.out, M6.out, B6.out, S6.out⟩
                case measure => simp [intOf]; omega
            · clear HZI hi
              go_wp2_with (fail)
              refine (all_is wc _ _ G _ V HQ.out.1 hv64).mono ?_
              rintro e wB ⟨hbB, sv2, us2, rfl, hus2, huo2, hut2⟩
              rw [all_zero HQ.out.2.1.1 V]
              have huz2 : us2.length ≤ 1000000 := by
                have h1 := all_len q V
                rw [← hut2, List.length_map] at h1
                have h2 := HQ.out.1.few
                omega
              obtain ⟨sb, tn, tc, rfl, rd2⟩ := its_rd hus2 huo2 huz2
              have T1 := (HM.out.on hbB).told T0.out.1 T0.out.2
              obtain ⟨sa', sn', sc', e1, rd1⟩ := its_rd T1.1 T1.2 TL.out.2
              simp only [Value.slice.injEq] at e1
              obtain ⟨rfl, rfl, rfl⟩ := e1
              have RD1 := Lib.hid rd1
              have RD2 := Lib.hid rd2
              have EQ := Lib.hid (show (us.map ItL.tup).map toItem = (us2.map ItL.tup).map toItem from by
                have e2 : ∀ l : List ItL, (l.map ItL.tup).map toItem = l.map ItL.toI := fun l => by rw [List.map_map]; rfl
                rw [e2, e2, TL.out.1, hut2, HQ.out.2.1.all KN.out])
              have BB := Lib.hid (HB.out.trans (hbB.mono HB.out.size))
              clear hbB hus2 huo2 hut2 huz2 rd1 rd2 T1
              go_wp2_with (fail)
              refine (sameItems _ _ _ _ _ _ _ _ wB RD1.out RD2.out).mono ?_
              rintro e w9 ⟨z, rfl, hz, hb9⟩
              obtain rfl : z = true := hz.2 EQ.out
              have B9 := Lib.hid (BB.out.trans (hb9.mono BB.out.size))
              clear hz hb9
              go_wp2
              go_ret
              exact ⟨rfl, B9.out⟩

theorem back_row : Rows.PastBackSaid :=
  OpenClaim.holds_of_wide 8 Try.f8 rfl rfl rfl rfl rfl rfl rfl ⟨rfl, rfl, rfl, rfl, rfl⟩ rfl rfl rfl rfl rfl (by kernel_rfl) Try.func8 (by kernel_rfl)
    (of_decide_eq_true (by kernel_rfl)) (by unfold Func.isWrapper; rw [if_neg (of_decide_eq_false (by kernel_rfl))]; exact ⟨rfl, rfl⟩)
    (fun os started H enc _ => lift (C := Try.checked) (s := Rows.pastBackSpec) (conds := Rows.pastBackRow.domain) os started H enc prog_own (by kernel_rfl) Try.func8 prog_laid rfl Try.underlying4 rfl
      (fun ds hl => by
        have hl : ds.length = 2 := hl
        match ds, hl with
        | [_, _], _ => rfl)
      (of_decide_eq_true (by kernel_rfl))
      (ChangeSpec.witness6 (enc := enc) (C := Try.checked) false ⟨#[], #[.slice none 0 0, .slice none 0 0], []⟩ 8 (by kernel_rfl) (by kernel_rfl) (by kernel_rfl) (by kernel_rfl))
      (fun W base args ds p g => by
        rw [Try.params8] at g
        obtain ⟨a, n, c, xs, e0, hx⟩ := g.ops 0 rfl
        obtain ⟨a2, n2, c2, ys, e1, hy⟩ := g.ops 1 rfl
        rw [args2 g.count e0 e1]
        exact back_walk a n c xs a2 n2 c2 ys W hx hy))
end Go.Proofs.Ytkfoakabdhllkaa
