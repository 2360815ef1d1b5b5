/-
  HnswNow holds: of each Id one node at most is there still, and what is there at the last version is just those.
-/
import Derived.Test.YtadkfedglkhgjaaGreatRows
import Derived.Test.YtadkfedglkhgjaaGreatKM5
import Derived.Test.YtadkfedglkhgjaaGreatPr
import Derived.StillTailTactics
import Derived.Deep.QuietTactic
import Derived.BigQuiet
namespace Go.Proofs.YtadkfedglkhgjaaGreat
open Go.ChangeShapes Go.WideShapes Go.ChangeAt Go.RowKit Go.Maps

/-- Two nodes of a list. -/
theorem one_false {L : List NodeV} (h : OneStill L) {i k : Nat} {a b : NodeV} (ha : L[i]? = some a) (hb : L[k]? = some b) (hik : k < i) : (decide (a.id = b.id) && (decide (a.til = 0) && decide (b.til = 0))) = false := by
  rw [Bool.eq_false_iff]
  intro hh
  simp only [Bool.and_eq_true, decide_eq_true_eq] at hh
  have := h i k a b ha hb hh.2.1 hh.2.2 hh.1
  omega
set_option maxRecDepth 100000 in
set_option maxHeartbeats 25600000 in
theorem now_walk (a : Option Addr) (n c : Nat) (xs : List shOp12.T) (w : World) (_hn : n ≤ 140737488351232) (hx : Rd (· < w.heap.size) w shOps12 [.slice a n c] xs) :
    Calls Tryz.prog 9 #[.slice a n c] w fun e w' => e = .returned (.bool true) ∧ Below w.heap.size w w' := by
  have HX := Lib.hid hx
  clear hx
  go_enter Tryz.func9, Tryz.ntmps9
  go_wp2_with (fail)
  refine (alive12 w).mono ?_
  rintro e w1 ⟨rfl, hb1⟩
  go_wp2_with (fail)
  refine (i_new (w0 := w) hb1 0 (by decide) 3 8).mono ?_
  rintro e w2 ⟨x, rfl, h2⟩
  obtain ⟨s0, hs0⟩ : ∃ s0, newV 0 (mostN 3) (widthN 8) = s0 := ⟨_, rfl⟩
  have HS0 := Lib.hid (show s0.g.L = [] from by rw [← hs0]; rfl)
  rw [hs0] at h2
  have H2 := Lib.hid h2
  have HN2 := Lib.hid (show NowOk s0 1 from fun t ht => by
    unfold GraphV.ts at ht
    rw [HS0.out] at ht
    cases ht)
  clear hb1 h2 hs0
  go_wp2_with (fail)
  go_loopw [4, 5] (fun s4 s5 wr => ∃ (i v : Nat) (s : IdxV), s4 = .int .u64 (v : Int) ∧ s5 = .int .i64 (i : Int) ∧ i ≤ 60 ∧ Hid (v = i + 1) ∧ Hid (IAt w x s wr) ∧ Hid (NowOk s v) ∧ Hid (s.g.L.length ≤ i)) (fun _ s5 _ => 60 - (intOf s5).toNat)
  case atStart => exact ⟨0, 1, s0, rfl, rfl, by omega, (show (1 : Nat) = 0 + 1 from rfl), H2.out, HN2.out, by show s0.g.L.length ≤ 0; rw [HS0.out]; exact Nat.le_refl _⟩
  case round =>
    clear H2 HN2 HS0
    obtain ⟨i, v, s, rfl, rfl, hi60, hvi, HS, HNW, HSL⟩ := hrel
    go_upto_region 6 with fail
    go_cut [19] (fun s19 wx => ∃ z : Bool, s19 = .bool z ∧ Hid (z = true ↔ (i < n ∧ i < 60)) ∧ wx = wr)
    case first =>
      by_cases hin : i < n
      · by_cases hi10 : i < 60
        · have hd1 : decide ((i : Int) < 60) = true := decide_eq_true (by omega)
          go_wp2
          go_meet
          exact ⟨true, rfl, by simp [Hid]; omega, rfl⟩
        · have hd1 : decide ((i : Int) < 60) = false := decide_eq_false (by omega)
          go_wp2
          go_meet
          exact ⟨false, rfl, by simp [Hid]; omega, rfl⟩
      · go_wp2
        go_meet
        exact ⟨false, rfl, by simp [Hid]; omega, rfl⟩
    case rest =>
      obtain ⟨z, rfl, HZI, rfl⟩ := hcut
      rename World => wq
      have BQ := Lib.hid HS.out.below
      cases z
      · clear HZI
        obtain ⟨N, hN⟩ : ∃ N, s.g.L.length = N := ⟨_, rfl⟩
        have hN60 : N ≤ 60 := by have := HSL.out; omega
        have CN := i_nodes HS.out (by omega)
        rw [hN] at CN
        have CN2 := Lib.hid CN
        have HONE := Lib.hid HS.out.one.1
        have HNL := Lib.hid hN
        clear CN hN
        go_wp2_with (fail)
        refine CN2.out.mono ?_
        rintro e w3 ⟨gn, ys, rfl, hna, hvv, hb3⟩
        have HNA := Lib.hid hna
        have HVV := Lib.hid hvv
        have HB3 := Lib.hid (BQ.out.trans (hb3.mono BQ.out.size))
        have HYL := Lib.hid (show ys.length = N from by have := congrArg List.length hvv; simpa [HNL.out] using this)
        have HKK := Lib.hid (Below.refl w3.heap.size w3)
        clear hna hvv hb3 CN2
        go_wp2_with (fail)
        go_loopw [7] (fun s7 wr => ∃ k : Nat, s7 = .int .i64 (k : Int) ∧ k ≤ N ∧ Hid (Below w3.heap.size w3 wr)) (fun s7 _ => N - (intOf s7).toNat)
        case atStart => exact ⟨0, rfl, Nat.zero_le _, HKK.out⟩
        case round =>
          obtain ⟨k, rfl, hk, HBK⟩ := hrel
          rename World => wk
          by_cases hkN : k < N
          · obtain ⟨y, hy⟩ : ∃ y, ys[k]? = some y := ⟨_, List.getElem?_eq_getElem (by rw [HYL.out]; exact hkN)⟩
            have hGk : s.g.L[k]? = some y.toV := by rw [← HVV.out, List.getElem?_map, hy]; rfl
            obtain ⟨la, ln, lc, hpl, -⟩ := ownsRow_slice (HNA.out.2 y (List.mem_of_getElem? hy)).lrow
            have he : Value.agg y.cells.toArray = .agg #[.int .u32 (y.it.id : Int), .slice y.it.pv.1 y.it.pv.2.1 y.it.pv.2.2, .slice y.it.pt.1 y.it.pt.2.1 y.it.pt.2.2, .int .u64 (y.frm : Int), .int .u64 (y.til : Int), .slice la ln lc] := by
              show Value.agg #[_, _, _, _, _, y.pl] = _
              rw [hpl]
            have HE := Lib.hid he
            have HS18 := Lib.hid (fun (X : World) (hb : Below w3.heap.size w3 X) => show X.cell? ⟨gn, k * 6, none⟩ = some (.int .u32 (y.it.id : Int)) ∧ X.cell? ⟨gn, k * 6 + 1, none⟩ = some (.slice y.it.pv.1 y.it.pv.2.1 y.it.pv.2.2) ∧ X.cell? ⟨gn, k * 6 + 2, none⟩ = some (.slice y.it.pt.1 y.it.pt.2.1 y.it.pt.2.2) ∧ X.cell? ⟨gn, k * 6 + 3, none⟩ = some (.int .u64 (y.frm : Int)) ∧ X.cell? ⟨gn, k * 6 + 4, none⟩ = some (.int .u64 (y.til : Int)) ∧ X.cell? ⟨gn, k * 6 + 5, none⟩ = some (.slice la ln lc) from by
              obtain ⟨g', c', e', -, -, hrng⟩ := RowC.at (RowC.on HNA.out.1 hb) k y.cells (by rw [List.getElem?_map, hy]; rfl)
              simp only [Value.slice.injEq, Option.some.injEq, Addr.mk.injEq, and_true] at e'
              obtain ⟨rfl, -⟩ := e'
              refine ⟨?_, hrng 1 _ rfl, hrng 2 _ rfl, hrng 3 _ rfl, hrng 4 _ rfl, by rw [← hpl]; exact hrng 5 _ rfl⟩
              have := hrng 0 _ rfl
              rwa [Nat.add_zero] at this)
            have s18 := HS18.out wk HBK.out
            have HNO := Lib.hid (show seenB y.frm y.til v = decide (y.til = 0) from HNW.out.at (z := y.toV) (List.mem_of_getElem? hGk))
            have HGK := Lib.hid hGk
            obtain ⟨zt, hzt⟩ : ∃ zt, decide (y.til = 0) = zt := ⟨_, rfl⟩
            have CT := Lib.hid (fun (X : World) => show Calls Tryz.prog 23 #[.agg #[.int .u32 (y.it.id : Int), .slice y.it.pv.1 y.it.pv.2.1 y.it.pv.2.2, .slice y.it.pt.1 y.it.pt.2.1 y.it.pt.2.2, .int .u64 (y.frm : Int), .int .u64 (y.til : Int), .slice la ln lc], .int .u64 (v : Int)] X fun e w' => e = .returned (.bool zt) ∧ Below X.heap.size X w' from by
              have h9 := rthere12_any X y v zt (by rw [HNO.out, hzt])
              rw [HE.out] at h9
              exact h9)
            have d78 : ((y.til : Int) == 0) = zt := by
              rw [← hzt]
              by_cases h0 : y.til = 0
              · rw [h0]; rfl
              · rw [decide_eq_false h0, beq_eq_false_iff_ne]; omega
            have hk0 : (0 : Int) ≤ (k : Int) := by omega
            have hk1 : (k : Int) < (N : Int) := by omega
            clear hy hGk hpl he
            go_upto_region 18 with fail
            go_cut [78] (fun s78 wx => s78 = .bool false ∧ Hid (Below w3.heap.size w3 wx))
            case first =>
              clear hzt HNO HGK HONE HNW HSL HVV HE
              cases zt
              all_goals
                go_region_held3 (fun X => X.cell? ⟨gn, k * 6, none⟩ = some (.int .u32 (y.it.id : Int)) ∧ X.cell? ⟨gn, k * 6 + 1, none⟩ = some (.slice y.it.pv.1 y.it.pv.2.1 y.it.pv.2.2) ∧ X.cell? ⟨gn, k * 6 + 2, none⟩ = some (.slice y.it.pt.1 y.it.pt.2.1 y.it.pt.2.2) ∧ X.cell? ⟨gn, k * 6 + 3, none⟩ = some (.int .u64 (y.frm : Int)) ∧ X.cell? ⟨gn, k * 6 + 4, none⟩ = some (.int .u64 (y.til : Int)) ∧ X.cell? ⟨gn, k * 6 + 5, none⟩ = some (.slice la ln lc))
                  (first
                    | with_reducible exact s18
                    | with_reducible exact HS18.out _ HBK.out.drew
                    | with_reducible exact HS18.out _ HB8.out
                    | (go_keep; done))
                  (first
                    | (go_at_call 23
                       go_split_ands
                       refine (CT.out wk.drew).mono ?_
                       rintro e w8 ⟨rfl, hb8⟩
                       have HB8 := Lib.hid (HBK.out.drew.trans (hb8.mono HBK.out.size))
                       clear hb8))
                all_goals
                  try go_wp2
                  go_meet
                  exact ⟨by first | rfl | simp [d78], HB8.out⟩
            case rest =>
              obtain ⟨rfl, HB8⟩ := hcut
              rename World => w8
              clear s18 CT HBK
              go_wp2_with (fail)
              go_loopw [8] (fun s8 wr => ∃ q : Nat, s8 = .int .i64 (q : Int) ∧ q ≤ k ∧ Hid (Below w3.heap.size w3 wr)) (fun s8 _ => k - (intOf s8).toNat)
              case atStart => exact ⟨0, rfl, Nat.zero_le _, HB8.out⟩
              case round =>
                clear HB8
                obtain ⟨q, rfl, hq, HBQ3⟩ := hrel
                rename World => w9
                by_cases hqk : q < k
                · obtain ⟨y2, hy2⟩ : ∃ y2, ys[q]? = some y2 := ⟨_, List.getElem?_eq_getElem (by rw [HYL.out]; omega)⟩
                  have hGq : s.g.L[q]? = some y2.toV := by rw [← HVV.out, List.getElem?_map, hy2]; rfl
                  have HOF := one_false HONE.out HGK.out hGq hqk
                  obtain ⟨ia, hia⟩ : ∃ ia, y.it.id = ia := ⟨_, rfl⟩
                  obtain ⟨ib, hib⟩ : ∃ ib, y2.it.id = ib := ⟨_, rfl⟩
                  obtain ⟨ta, hta⟩ : ∃ ta, y.til = ta := ⟨_, rfl⟩
                  obtain ⟨tb, htb⟩ : ∃ tb, y2.til = tb := ⟨_, rfl⟩
                  have HS23 := Lib.hid (fun (X : World) (hb : Below w3.heap.size w3 X) => show X.cell? ⟨gn, k * 6, none⟩ = some (.int .u32 (ia : Int)) ∧ X.cell? ⟨gn, k * 6 + 4, none⟩ = some (.int .u64 (ta : Int)) ∧ X.cell? ⟨gn, q * 6, none⟩ = some (.int .u32 (ib : Int)) ∧ X.cell? ⟨gn, q * 6 + 4, none⟩ = some (.int .u64 (tb : Int)) from by
                    obtain ⟨p0, p1, p2, p3, p4, p5⟩ := HS18.out X hb
                    obtain ⟨g', c', e', -, -, hrng⟩ := RowC.at (RowC.on HNA.out.1 hb) q y2.cells (by rw [List.getElem?_map, hy2]; rfl)
                    simp only [Value.slice.injEq, Option.some.injEq, Addr.mk.injEq, and_true] at e'
                    obtain ⟨rfl, -⟩ := e'
                    rw [← hia, ← hib, ← hta, ← htb]
                    refine ⟨p0, p4, ?_, hrng 4 _ rfl⟩
                    have := hrng 0 _ rfl
                    rwa [Nat.add_zero] at this)
                  have HOF2 : (decide (ia = ib) && (decide (ta = 0) && decide (tb = 0))) = false := by rw [← hia, ← hib, ← hta, ← htb]; exact HOF
                  have s23 := HS23.out w9 HBQ3.out
                  have hq0 : (0 : Int) ≤ (q : Int) := by omega
                  have hqN : (q : Int) < (N : Int) := by omega
                  clear hy2 hGq HOF hia hib hta htb d78 hzt
                  go_upto_region 23 with fail
                  go_cut [112] (fun s112 wx => s112 = .bool false ∧ Hid (Below w3.heap.size w3 wx))
                  case first =>
                    by_cases h1 : ia = ib
                    · have e1 : ((ia : Int) == (ib : Int)) = true := by rw [h1]; simp
                      by_cases h2 : ta = 0
                      · have h3 : ¬ tb = 0 := by
                          intro h3
                          rw [h1, h2, h3] at HOF2
                          simp at HOF2
                        have e2 : ((ta : Int) == 0) = true := by rw [h2]; rfl
                        have e3 : ((tb : Int) == 0) = false := by rw [beq_eq_false_iff_ne]; omega
                        clear HOF2 h1 h2 h3
                        obtain ⟨p0, p4, r0, r4⟩ := s23
                        go_quiet (fail)
                        all_goals
                          try go_wp2
                          go_meet
                          exact ⟨by first | rfl | simp, below_draws HBQ3.out _⟩
                      · have e2 : ((ta : Int) == 0) = false := by rw [beq_eq_false_iff_ne]; omega
                        clear HOF2 h1 h2
                        obtain ⟨p0, p4, r0, r4⟩ := s23
                        go_quiet (fail)
                        all_goals
                          try go_wp2
                          go_meet
                          exact ⟨by first | rfl | simp, below_draws HBQ3.out _⟩
                    · have e1 : ((ia : Int) == (ib : Int)) = false := by rw [beq_eq_false_iff_ne]; omega
                      clear HOF2 h1
                      obtain ⟨p0, p4, r0, r4⟩ := s23
                      go_quiet (fail)
                      all_goals
                        try go_wp2
                        go_meet
                        exact ⟨by first | rfl | simp, below_draws HBQ3.out _⟩
                  case rest =>
                    obtain ⟨rfl, HB10⟩ := hcut
                    rename World => w10
                    clear s23 HS23 HBQ3
                    go_wp2_with (fail)
                    go_roundw
                    case rel => exact ⟨q + 1, by go_num, by omega, HB10.out⟩
                    case measure => first | (simp [intOf]; done) | (simp [intOf]; omega)
                · clear d78 hzt
                  go_wp2_with (fail)
                  go_roundw
                  case rel => exact ⟨k + 1, by go_num, by omega, HBQ3.out⟩
                  case measure => first | (simp [intOf]; done) | (simp [intOf]; omega)
          · go_wp2_with (fail)
            go_ret
            exact ⟨rfl, HB3.out.trans (HBK.out.mono HB3.out.size)⟩
      obtain ⟨hin, hi2⟩ := HZI.out.1 rfl
      clear HZI
      obtain ⟨b, off, o, rfl, hbl, OPF⟩ := rd_op12 HX.out i hin
      obtain ⟨hb0, hoi, hcc⟩ := OPF.out _ BQ.out
      have m0 : wq.cell? ⟨b, off + i * 13, none⟩ = some (.int .u8 (o.kind : Int)) := hcc 0 _ rfl
      have m1 : wq.cell? ⟨b, off + i * 13 + 1, none⟩ = some (.int .u32 (o.it.id : Int)) := hcc 1 _ rfl
      have m2 : wq.cell? ⟨b, off + i * 13 + 2, none⟩ = some (.slice o.it.pv.1 o.it.pv.2.1 o.it.pv.2.2) := hcc 2 _ rfl
      have m3 : wq.cell? ⟨b, off + i * 13 + 3, none⟩ = some (.slice o.it.pt.1 o.it.pt.2.1 o.it.pt.2.2) := hcc 3 _ rfl
      have m4 : wq.cell? ⟨b, off + i * 13 + 4, none⟩ = some (.int .i64 o.level) := hcc 4 _ rfl
      have m5 : wq.cell? ⟨b, off + i * 13 + 5, none⟩ = some (.int .u8 (o.ahead : Int)) := hcc 5 _ rfl
      have m6 : wq.cell? ⟨b, off + i * 13 + 6, none⟩ = some (.slice o.fl.p0.1 o.fl.p0.2.1 o.fl.p0.2.2) := hcc 6 _ rfl
      have m7 : wq.cell? ⟨b, off + i * 13 + 7, none⟩ = some (.slice o.fl.p1.1 o.fl.p1.2.1 o.fl.p1.2.2) := hcc 7 _ rfl
      have m8 : wq.cell? ⟨b, off + i * 13 + 8, none⟩ = some (.slice o.fl.p2.1 o.fl.p2.2.1 o.fl.p2.2.2) := hcc 8 _ rfl
      have m9 : wq.cell? ⟨b, off + i * 13 + 9, none⟩ = some (.int .i64 o.k) := hcc 9 _ rfl
      have m10 : wq.cell? ⟨b, off + i * 13 + 10, none⟩ = some (.int .i64 o.width) := hcc 10 _ rfl
      have m11 : wq.cell? ⟨b, off + i * 13 + 11, none⟩ = some (.int .u64 (o.v : Int)) := hcc 11 _ rfl
      have m12 : wq.cell? ⟨b, off + i * 13 + 12, none⟩ = some (.slice o.kp.1 o.kp.2.1 o.kp.2.2) := hcc 12 _ rfl
      have hbq := hoi.hkind
      have CG := hgreat_any wq w.heap.size BQ.out.size o hoi
      rw [show o.cells.toArray = #[.int .u8 (o.kind : Int), .int .u32 (o.it.id : Int), .slice o.it.pv.1 o.it.pv.2.1 o.it.pv.2.2, .slice o.it.pt.1 o.it.pt.2.1 o.it.pt.2.2, .int .i64 o.level, .int .u8 (o.ahead : Int), .slice o.fl.p0.1 o.fl.p0.2.1 o.fl.p0.2.2, .slice o.fl.p1.1 o.fl.p1.2.1 o.fl.p1.2.2, .slice o.fl.p2.1 o.fl.p2.2.1 o.fl.p2.2.2, .int .i64 o.k, .int .i64 o.width, .int .u64 (o.v : Int), .slice o.kp.1 o.kp.2.1 o.kp.2.2] from rfl] at CG
      have CG2 := Lib.hid CG
      clear CG hcc hoi
      go_wp2_with (fail)
      refine CG2.out.mono ?_
      rintro e w5 ⟨gg, rfl, -, hb5⟩
      have HS5 := Lib.hid (HS.out.on hb5)
      have BQ5 := Lib.hid HS5.out.below
      clear hb5 CG2 HS m0 m1 m2 m3 m4 m5 m6 m7 m8 m9 m10 m11 m12
      cases gg
      rotate_left
      · go_wp2_with (fail)
        go_ret
        exact ⟨rfl, BQ5.out⟩
      obtain ⟨hb2, hoi2, hc2⟩ := OPF.out _ BQ5.out
      obtain ⟨vv, hvv⟩ : ∃ vv, v + 1 = vv := ⟨_, rfl⟩
      have HVI := Lib.hid (show vv = i + 2 from by have := hvi.out; omega)
      have hvi61 : v ≤ 61 := by have := hvi.out; omega
      have hvv62 : vv ≤ 62 := by omega
      have hvw : IntKind.u64.wrap ((v : Int) + 1) = (vv : Int) := by rw [IntKind.wrap_u64]; omega
      have hvv0 : vv ≠ 0 := by omega
      have hvv64 : vv < 18446744073709551616 := by omega
      have HNV := Lib.hid (HNW.out.more (show v ≤ vv from by omega))
      obtain ⟨kd, hkd⟩ : ∃ kd, o.kind = kd := ⟨_, rfl⟩
      have n0 : w5.cell? ⟨b, off + i * 13, none⟩ = some (.int .u8 (kd : Int)) := by rw [← hkd]; exact hc2 0 _ rfl
      have hkd5 : kd ≤ 255 := by omega
      obtain ⟨kk, hkk⟩ : ∃ kk, kd % 3 = kk := ⟨_, rfl⟩
      have hk3 : kk < 3 := by omega
      have hko : (kd : Int) % 3 = (kk : Int) := by omega
      have hkt : Int.tmod (kd : Int) 3 = (kk : Int) := by rw [← hkk]; exact (Int.ofNat_tmod kd 3).symm
      have HVV2 := Lib.hid hvv
      clear hkk hkd hvv BQ hbq hvi61 hvv62
      by_cases hk1 : kk = 1
      · have z1 : ((kk : Int) == 1) = true := by rw [beq_iff_eq]; omega
        have n1 : w5.cell? ⟨b, off + i * 13 + 1, none⟩ = some (.int .u32 (o.it.id : Int)) := hc2 1 _ rfl
        have CC := Lib.hid (i_cut HS5.out o.it.id vv hoi2.it.hid hvv0 hvv64)
        have HN6 := Lib.hid (HNV.out.cut o.it.id)
        have HL6 := Lib.hid (show (s.cutV o.it.id vv).g.L.length ≤ i + 1 from by rw [cutV_len]; exact Nat.le_succ_of_le HSL.out)
        clear hoi2 hc2 hk1
        go_wp2_with (fail)
        refine CC.out.mono ?_
        rintro e w6 ⟨rfl, h6⟩
        have R1 := Lib.hid h6
        clear h6 CC HS5 BQ5 n0 n1
        go_wp2_with (fail)
        go_roundw
        case rel => exact ⟨i + 1, vv, _, rfl, by go_num, by omega, by have h9 := HVI.out; show vv = i + 1 + 1; omega, R1.out, HN6.out, HL6.out⟩
        case measure => first | (simp [intOf]; done) | (simp [intOf]; omega)
      · have z1 : ((kk : Int) == 1) = false := by rw [beq_eq_false_iff_ne]; omega
        have n1 : w5.cell? ⟨b, off + i * 13 + 1, none⟩ = some (.int .u32 (o.it.id : Int)) := hc2 1 _ rfl
        have n2 : w5.cell? ⟨b, off + i * 13 + 2, none⟩ = some (.slice o.it.pv.1 o.it.pv.2.1 o.it.pv.2.2) := hc2 2 _ rfl
        have n3 : w5.cell? ⟨b, off + i * 13 + 3, none⟩ = some (.slice o.it.pt.1 o.it.pt.2.1 o.it.pt.2.2) := hc2 3 _ rfl
        have n4 : w5.cell? ⟨b, off + i * 13 + 4, none⟩ = some (.int .i64 o.level) := hc2 4 _ rfl
        have CP := i_put HS5.out (Below.refl _ _).drew (by have h9 := HSL.out; omega) o.it (show o.it.In (fun b => b < w.heap.size ∨ w5.heap.size ≤ b) w5.drew from
          have h9 := hoi2.it.under ((Below.refl w5.heap.size w5).drew.mono BQ5.out.size)
          ⟨h9.hid, h9.hvec.mono fun b hb _ => .inl hb, h9.htags.mono fun b hb _ => .inl hb⟩) o.level vv hvv0 hvv64
        rw [show o.it.cells.toArray = #[.int .u32 (o.it.id : Int), .slice o.it.pv.1 o.it.pv.2.1 o.it.pv.2.2, .slice o.it.pt.1 o.it.pt.2.1 o.it.pt.2.2] from rfl] at CP
        have CP2 := Lib.hid CP
        have HN6 := Lib.hid (HNV.out.put o.it (levN o.level))
        have HL6 := Lib.hid (show (s.putV o.it (levN o.level) vv).g.L.length ≤ i + 1 from by rw [(putV_ok HS5.out.ok o.it _ vv).2]; exact Nat.succ_le_succ HSL.out)
        clear hoi2 hc2 hk1 CP
        go_wp2_with (fail)
        go_still_tail 12, (by kernel_rfl)
        change wpList _ _ _ _ _ w5.drew
        go_wp2_with (fail)
        refine CP2.out.mono ?_
        rintro e w6 ⟨rfl, h6⟩
        have R1 := Lib.hid h6
        clear h6 CP2 HS5 BQ5 n0 n1 n2 n3 n4
        go_wp2_with (fail)
        go_roundw
        case rel => exact ⟨i + 1, vv, _, rfl, by go_num, by omega, by have h9 := HVI.out; show vv = i + 1 + 1; omega, R1.out, HN6.out, HL6.out⟩
        case measure => first | (simp [intOf]; done) | (simp [intOf]; omega)
theorem now_row : Rows.HnswNowSaid :=
  OpenClaim.holds_of_wide 9 Tryz.f9 rfl rfl rfl rfl rfl rfl rfl ⟨rfl, rfl, rfl, rfl, rfl⟩ rfl rfl rfl rfl rfl (by kernel_rfl) Tryz.func9 (by kernel_rfl)
    (of_decide_eq_true (by kernel_rfl)) (by unfold Func.isWrapper; rw [if_neg (of_decide_eq_false (by kernel_rfl))]; exact ⟨rfl, rfl⟩)
    (fun os started H enc _ => lift (C := Tryz.checked) (s := Rows.hnswNowSpec) (conds := Rows.hnswNowRow.domain) os started H enc prog_own (by kernel_rfl) Tryz.func9 prog_laid rfl Tryz.underlying4 rfl
      (fun ds hl => by
        have hl : ds.length = 1 := hl
        match ds, hl with
        | [_], _ => rfl)
      (of_decide_eq_true (by kernel_rfl))
      (ChangeSpec.witness6 (enc := enc) (C := Tryz.checked) false ⟨#[], #[.slice none 0 0], []⟩ 8 (by kernel_rfl) (by kernel_rfl) (by kernel_rfl) (by kernel_rfl))
      (fun W base args ds p g => by
        rw [Tryz.params9] at g
        obtain ⟨a, n, c, xs, e0, hn, hx⟩ := g.ops12 0 rfl
        rw [args1 g.count e0]
        exact now_walk a n c xs W hn hx))
end Go.Proofs.YtadkfedglkhgjaaGreat
