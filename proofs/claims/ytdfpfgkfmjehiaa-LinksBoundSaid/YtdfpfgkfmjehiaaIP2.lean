/-
  The document's graph: Choose, Link; the region that lays a hit; slices of hits that wait. (Ib, Ic, If merged.)
-/
import Derived.Test.YtdfpfgkfmjehiaaIP1
import Derived.WalkKit
namespace Go.Proofs.Ytdfpfgkfmjehiaa
open Go.RowKit Go.ChangeShapes Go.WideShapes Go.ChangeAt

theorem choose_mem_lt {g : GraphV} {q l : List Int} {M k j : Nat} (hj : j ∈ (g.chooseF M ((g.near q l).take k)).1) : j < g.L.length := by
  obtain ⟨h, hh, rfl⟩ := List.mem_map.1 (g.choose_sub M _ j (.inl hj))
  obtain ⟨i, rfl, h1, -⟩ := GraphV.near_mem (List.mem_of_mem_take hh)
  simpa [GraphV.hit] using GraphV.lv_lt h1
theorem nearer_snoc (g : GraphV) (t : List Nat) (one i : Nat) (d : Int) : g.nearer (t ++ [one]) i d = (g.nearer t i d || decide ((g.hit (g.vec one) i).1 < d)) := by
  unfold GraphV.nearer
  rw [List.any_append]
  congr 1
  simp only [List.any_cons, List.any_nil, Bool.or_false]
  congr 2
  exact farV_comm _ _ _
theorem secondL_le (M : Nat) (T l : List Nat) : (secondL M T l).length ≤ T.length + l.length := by
  unfold secondL
  rw [List.length_append, List.length_take]
  have := List.length_filter_le (fun j => !decide (j ∈ T)) l
  omega
theorem mem_second {M : Nat} {T l : List Nat} {j : Nat} (h : j ∈ secondL M T l) : j ∈ T ∨ j ∈ l := by
  unfold secondL at h
  exact (List.mem_append.1 h).imp id fun h => (List.mem_filter.1 (List.mem_of_mem_take h)).1
section
variable {T : TypeId} {rs : List Value} {okI : Nat → Prop} {w : World} {lo g m : Nat} {u : Value} {L : List NodeL}
set_option maxRecDepth 100000 in
set_option maxHeartbeats 6400000 in
theorem rchoose_any (h : GrD T rs okI w lo g m u L) (hm : m < 256) (qa : Option Addr) (qn qc : Nat) (q : List Int) (hq : Reads .i32 w qa qn q) (la : Option Addr) (ln lc : Nat) (l : List Int) (hl : Reads .i64 w la ln l) (hln : ln ≤ 100000) (most : Int) :
    Calls Try.prog 29 #[.pointer (some ⟨g, 0, none⟩), .slice qa qn qc, .slice la ln lc, .int .i64 most] w (PlacesPost ((graphV m L).choose q l most.toNat) w) := by
  obtain ⟨N, hN⟩ : ∃ N, L.length = N := ⟨_, rfl⟩
  obtain ⟨M, hM⟩ : ∃ M, most.toNat = M := ⟨_, rfl⟩
  have hfew := h.few
  obtain ⟨G, hG⟩ : ∃ G, graphV m L = G := ⟨_, rfl⟩
  have CN := Lib.hid (rnear_any h hm qa qn qc q hq la ln lc l hl hln)
  have CF := Lib.hid (fun (W : World) (hb : Below w.heap.size w W) (ta : Option Addr) (tn tc : Nat) (t : List Int) (ht : Reads .i32 W ta tn t) (i : Nat) (hi : i < L.length) (d : Int) (hd : Hid (((graphV m L).hit t i).1 = d)) => rfar_any (h.on hb) hm ta tn tc t ht i hi d hd)
  have HV := Lib.hid (fun (j : Nat) (hj : j < L.length) => show ∃ (gu cu vn vc : Nat) (va : Option Addr), ∀ W, Below w.heap.size w W → W.cell? ⟨g, 1, none⟩ = some (.slice (some ⟨gu, 0, none⟩) L.length cu) ∧ W.cell? ⟨gu, j * 6 + 1, none⟩ = some (.slice va vn vc) ∧ Reads .i32 W va vn ((graphV m L).vec j) from by
    obtain ⟨x, gu, cu, hx, hmem, hu, hgu, hrg⟩ := h.toGrN.nodeAt j hj
    refine ⟨gu, cu, x.it.pv.2.1, x.it.pv.2.2, x.it.pv.1, fun W hb => ⟨?_, (hb.cell (p := ⟨gu, j * 6 + 1, none⟩) hgu).trans (hrg 1 _ rfl), ?_⟩⟩
    · rw [← hu]
      exact (h.on hb).blk.cell 1
    · rw [graphV_vec hx]
      exact Rd.ints ((h.item x hmem).hvec.on hb) rfl)
  have HLT := Lib.hid (fun (x : Hit) (hx : x ∈ (graphV m L).near q l) => show x.2.toNat < L.length ∧ x.2 = (x.2.toNat : Int) from by
    obtain ⟨j, rfl, h1, _⟩ := GraphV.near_mem hx
    have := GraphV.lv_lt h1
    rw [graphV_len] at this
    exact ⟨this, rfl⟩)
  have HLN := Lib.hid (show ((graphV m L).near q l).length ≤ 100000 from by
    have := (graphV m L).near_len q l
    have := hl.len
    omega)
  have HTL := Lib.hid (fun (k j : Nat) (hj : j ∈ ((graphV m L).chooseF M (((graphV m L).near q l).take k)).1) => show j < L.length from by
    have := choose_mem_lt hj
    rw [graphV_len] at this
    exact this)
  have HND := Lib.hid ((graphV m L).near_ids q l)
  rw [hN] at CF HV HLT HTL hfew
  rw [hG] at CN CF HV HLT HLN HTL HND ⊢
  rw [hM]
  obtain ⟨near, hnear⟩ : ∃ near, G.near q l = near := ⟨_, rfl⟩
  have HCH := Lib.hid (choose_second G q l M)
  rw [hnear] at CN HLT HLN HTL HND HCH
  have HM := Lib.hid hM
  clear h hm hq hl hln hN hG hnear hM
  go_enter Try.func29, Try.ntmps29
  go_wp2_with (fail)
  refine CN.out.mono ?_
  rintro e w1 ⟨v1, rfl, hon, hb1⟩
  obtain ⟨na, nn, nc, rfl⟩ := hon.parts11
  have HNN := Lib.hid (show near.length = nn from by
    obtain ⟨a', c', e⟩ := hon.own.size
    simp only [Value.slice.injEq] at e
    exact e.2.1.symm)
  have HNB := Lib.hid (fun (k : Nat) (hk : k < nn) => show ∃ (nb j : Nat) (d : Int), na = some ⟨nb, 0, none⟩ ∧ near.getD k (0, 0) = (d, (j : Int)) ∧ j < N ∧ ∀ W, Below w1.heap.size w1 W → W.cell? ⟨nb, k * 2, none⟩ = some (.int .i64 d) ∧ W.cell? ⟨nb, k * 2 + 1, none⟩ = some (.int .u32 (j : Int)) from by
    rw [← HNN.out] at hk
    obtain ⟨nb, e1, _, hlt, h1, h2⟩ := hit_cells hon.own hk
    have h3 := HLT.out (near.getD k (0, 0)) (by
      rw [List.getD_eq_getElem?_getD, List.getElem?_eq_getElem hk]
      exact List.getElem_mem hk)
    refine ⟨nb, (near.getD k (0, 0)).2.toNat, (near.getD k (0, 0)).1, e1, Prod.ext rfl h3.2, h3.1, fun W hb => ⟨(hb.cell (p := ⟨nb, k * 2, none⟩) hlt).trans h1, ?_⟩⟩
    rw [← h3.2]
    exact (hb.cell (p := ⟨nb, k * 2 + 1, none⟩) hlt).trans h2)
  have B1 := Lib.hid hb1
  have hnn : nn ≤ 100000 := by rw [← HNN.out]; exact HLN.out
  clear hon hb1 CN HLT
  go_wp2_with (fail)
  go_loopw [10, 11] (fun s10 s11 wr => ∃ (k n c : Nat) (a : Option Addr), k ≤ nn ∧ s11 = .int .i64 (k : Int) ∧ s10 = .slice a n c ∧ Hid (IntsAt w1.heap.size wr (.slice a n c) (G.chooseF M (near.take k)).1) ∧ Hid (Below w1.heap.size w1 wr)) (fun _ s11 _ => nn - (intOf s11).toNat)
  case atStart => exact ⟨0, 0, 0, none, Nat.zero_le _, rfl, rfl, RowC.nil _ _ _ _, Below.refl _ _⟩
  case round =>
    obtain ⟨k, n, c, a, hk, rfl, rfl, HI, HB⟩ := hrel
    have LT := Lib.hid (show (G.chooseF M (near.take k)).1.length = n from by
      obtain ⟨a', c', e, _⟩ := HI.out.form
      simp only [Value.slice.injEq] at e
      exact e.2.1.symm)
    have hnM : n ≤ M := by rw [← LT.out]; exact G.choose_most M _
    have hnk : n ≤ nn := by
      have h1 := G.choose_len M (near.take k)
      rw [List.length_take] at h1
      have h2 := LT.out
      omega
    by_cases h1 : k < nn
    · by_cases h2 : (n : Int) < most
      · have d2 : decide ((n : Int) < most) = true := decide_eq_true h2
        obtain ⟨wo, hwo⟩ : ∃ wo, wo = wr := ⟨_, rfl⟩
        subst hwo
        obtain ⟨nb, j, d, rfl, hjd, hjN, hnb⟩ := HNB.out k h1
        have HX := Lib.hid (show near.take (k + 1) = near.take k ++ [(d, (j : Int))] from take_hit (by rw [HNN.out]; exact h1) hjd)
        have HNC := Lib.hid hnb
        have hnM2 : n < M := by have := HM.out; omega
        obtain ⟨TT, hTT⟩ : ∃ TT, (G.chooseF M (near.take k)).1 = TT := ⟨_, rfl⟩
        have HTT := Lib.hid hTT
        have HTN := Lib.hid (HTL.out k)
        rw [hTT] at HI LT HTN
        have HIT := Lib.hid (show ∀ (i : Nat), i < n → ∃ (tb t : Nat), a = some ⟨tb, 0, none⟩ ∧ TT[i]? = some t ∧ t < N ∧ ∀ W, Below wo.heap.size wo W → W.cell? ⟨tb, i, none⟩ = some (.int .i64 (t : Int)) from fun i hi => by
          have hl : i < TT.length := by rw [LT.out]; exact hi
          have ht : TT[i]? = some TT[i] := List.getElem?_eq_getElem hl
          rcases own_cells1 (show wo.ownsRow w1.heap.size 3 1 _ (intsC TT).length (intsC TT) from by rw [List.length_map]; exact HI.out.own) with ⟨_, h4⟩ | ⟨tb, c2, e1, _, _, h4, h5⟩
          · have := congrArg List.length h4
            rw [List.length_map, LT.out] at this
            simp at this
            omega
          · simp only [Value.slice.injEq] at e1
            refine ⟨tb, TT[i], e1.1, ht, HTN.out _ (List.getElem_mem hl), fun W hb => (hb.cell (p := ⟨tb, i, none⟩) h4).trans ?_⟩
            rw [h5 i (by rw [List.length_map]; exact hl), List.getElem?_map, ht]
            rfl)
        obtain ⟨jj, hjj⟩ : ∃ jj : Int, (j : Int) = jj := ⟨_, rfl⟩
        have hjw : IntKind.i64.wrap jj = jj := by rw [IntKind.wrap_i64]; omega
        have HJJ := Lib.hid hjj
        rw [hjj] at HNC
        have HLR := Lib.hid (B1.out.trans (HB.out.mono B1.out.size))
        clear hnb hjd hTT hjj
        go_wp2_with (fail)
        go_loopw [12, 13] (fun s12 s13 wr => ∃ (i : Nat) (z : Bool), i ≤ n ∧ s13 = .int .i64 (i : Int) ∧ s12 = .bool z ∧ Hid (G.nearer (TT.take i) j d = !z) ∧ Hid (Below wo.heap.size wo wr)) (fun _ s13 _ => n - (intOf s13).toNat)
        case atStart => exact ⟨0, true, Nat.zero_le _, rfl, rfl, rfl, Below.refl _ _⟩
        case round =>
          obtain ⟨i, z, hi, rfl, rfl, HZ, HBX⟩ := hrel
          by_cases hin : i < n
          · obtain ⟨tb, t, rfl, htt, htN, htc⟩ := HIT.out i hin
            have HTK := Lib.hid (show TT.take (i + 1) = TT.take i ++ [t] from take_snoc htt)
            cases z with
            | false =>
              have HE := Lib.hid (show G.nearer (TT.take (i + 1)) j d = !false from by
                rw [HTK.out, nearer_snoc, HZ.out]
                rfl)
              clear htc
              go_wp2_with (fail)
              go_quiet (fail)
              go_wp2
              go_roundw
              case rel => exact ⟨i + 1, false, by omega, by go_num, rfl, HE, below_draws HBX.out _⟩
              case measure => simp [intOf]; omega
            | true =>
              obtain ⟨gu, cu, vn, vc, va, hv⟩ := HV.out t htN
              obtain ⟨f, hf⟩ : ∃ f, (G.hit (G.vec t) j).1 = f := ⟨_, rfl⟩
              obtain ⟨y, hy⟩ : ∃ y, decide (f ≥ d) = y := ⟨_, rfl⟩
              have HE := Lib.hid (show G.nearer (TT.take (i + 1)) j d = !y from by
                rw [HTK.out, nearer_snoc, HZ.out, hf, ← hy]
                by_cases hfd : f < d
                · rw [decide_eq_true hfd, decide_eq_false (by omega)]
                  rfl
                · rw [decide_eq_false hfd, decide_eq_true (by omega)]
                  rfl)
              have HS := Lib.hid (fun (W : World) (hb : Below wr.heap.size wr W) => show W.cell? ⟨g, 1, none⟩ = some (.slice (some ⟨gu, 0, none⟩) N cu) ∧ W.cell? ⟨tb, i, none⟩ = some (.int .i64 (t : Int)) ∧ W.cell? ⟨gu, t * 6 + 1, none⟩ = some (.slice va vn vc) ∧ W.cell? ⟨nb, k * 2, none⟩ = some (.int .i64 d) ∧ W.cell? ⟨nb, k * 2 + 1, none⟩ = some (.int .u32 jj) ∧ Below wr.heap.size wr W from by
                have b2 := HBX.out.trans (hb.mono HBX.out.size)
                have b3 := HB.out.trans (b2.mono HB.out.size)
                have b4 := B1.out.trans (b3.mono B1.out.size)
                exact ⟨(hv W b4).1, htc W b2, (hv W b4).2.1, (HNC.out W b3).1, (HNC.out W b3).2, hb⟩)
              have C1 := Lib.hid (fun (W : World) (hb : Below wr.heap.size wr W) => CF.out W (HLR.out.trans ((HBX.out.trans (hb.mono HBX.out.size)).mono HLR.out.size)) va vn vc (G.vec t) (hv W (HLR.out.trans ((HBX.out.trans (hb.mono HBX.out.size)).mono HLR.out.size))).2.2 j hjN f hf)
              rw [HJJ.out] at C1
              clear hv htc hf
              go_wp2_with (fail)
              go_region_held3 (fun W => W.cell? ⟨g, 1, none⟩ = some (.slice (some ⟨gu, 0, none⟩) N cu) ∧ W.cell? ⟨tb, i, none⟩ = some (.int .i64 (t : Int)) ∧ W.cell? ⟨gu, t * 6 + 1, none⟩ = some (.slice va vn vc) ∧ W.cell? ⟨nb, k * 2, none⟩ = some (.int .i64 d) ∧ W.cell? ⟨nb, k * 2 + 1, none⟩ = some (.int .u32 jj) ∧ Below wr.heap.size wr W)
                (first
                  | (go_keep; done)
                  | exact HS.out _ (Below.refl _ _)
                  | exact HS.out _ (Below.refl _ _).drew
                  | (go_split_ands; exact HS.out _ (below_on (by assumption) hbel)))
                (first
                  | (go_at_call 50; go_split_ands; refine (C1.out _ (by assumption)).mono ?_; rintro e w' ⟨rfl, hbel⟩))
              all_goals
                rename_i hH
                have B9 := Lib.hid (HBX.out.trans (hH.2.2.2.2.2.mono HBX.out.size))
                clear hH
                go_wp2
                go_roundw
                case rel => exact ⟨i + 1, y, by omega, by go_num, rfl, HE, B9.out⟩
                case measure => simp [intOf]; omega
          · obtain rfl : i = n := by omega
            have e0 : TT.take i = TT := List.take_of_length_le (by rw [LT.out]; exact Nat.le_refl _)
            have hz9 := HZ.out
            rw [e0] at hz9
            have HZ9 := Lib.hid hz9
            have hjw1 : j ≤ 1000000 := by omega
            have KM := Lib.hid (show k + 1 ≤ nn from h1)
            have c1 := (HNC.out wr (HB.out.trans (HBX.out.mono HB.out.size))).2
            have HIX := Lib.hid (show IntsAt w1.heap.size wr (.slice a i c) TT from RowC.on HI.out HBX.out)
            have BX := Lib.hid (HB.out.trans (HBX.out.mono HB.out.size))
            have hlx : w1.heap.size ≤ wr.heap.size := BX.out.size
            clear e0 hz9 HIT
            cases z with
            | false =>
              have HE := Lib.hid (show (G.chooseF M (near.take (k + 1))).1 = TT from by
                rw [HX.out, GraphV.chooseF_snoc, GraphV.takeS, if_neg (by rw [HTT.out, LT.out]; omega), HTT.out]
                rw [if_pos (by simpa using HZ9.out)])
              clear HX HTT
              go_wp2
              go_roundw
              case rel => exact ⟨k + 1, i, c, a, KM.out, by go_num, rfl, by rw [HE.out]; exact HIX.out, BX.out⟩
              case measure => simp [intOf]; omega
            | true =>
              have HE := Lib.hid (show (G.chooseF M (near.take (k + 1))).1 = TT ++ [j] from by
                rw [HX.out, GraphV.chooseF_snoc, GraphV.takeS, if_neg (by rw [HTT.out, LT.out]; omega), HTT.out]
                rw [if_neg (by simpa using HZ9.out)]
                simp)
              clear HX HTT
              go_wp2_with (first
                | (at_builtin; rw [← HJJ.out]; go_must (refine app_int wr rfl _ _ rfl w1.heap.size (.slice a i c) _ j rfl rfl HIX.out hlx (by rw [LT.out]; omega) ?_); intro v3 w3 h3 k3 g3; obtain ⟨pa3, pn3, pc3, rfl, -⟩ := h3.parts; have H3 := Lib.hid h3; have B3 := Lib.hid (B1.out.trans (BX.out.mono B1.out.size)); have K3 := Lib.hid k3; clear h3 k3 g3)
                | fail)
              go_roundw
              case rel => exact ⟨k + 1, pn3, pc3, pa3, KM.out, by go_num, rfl, by rw [HE.out]; exact H3.out, BX.out.trans (K3.out.below (fun b hb => (RowC.lt HIX.out b (mem_ownB.1 hb)).1) BX.out.size)⟩
              case measure => simp [intOf]; omega
      · have d2 : decide ((n : Int) < most) = false := decide_eq_false h2
        have HE1 := Lib.hid (show (G.chooseF M (near.take k)).1 = (G.chooseF M near).1 from by
          have h5 : (G.chooseF M (near.take k)).1.length = M := by
            rw [LT.out]
            have := HM.out
            omega
          have h6 := G.choose_full M (near.take k) (near.drop k) h5
          rw [List.take_append_drop] at h6
          rw [h6])
        obtain ⟨T1, hT1⟩ : ∃ T1, (G.chooseF M near).1 = T1 := ⟨_, rfl⟩
        have HT1 := Lib.hid hT1
        rw [hT1] at HE1
        have HIA := Lib.hid (show IntsAt w1.heap.size wr (.slice a n c) T1 from by rw [← HE1.out]; exact HI.out)
        have HLT1 := Lib.hid (show T1.length = n from by rw [← HE1.out]; exact LT.out)
        have HT1N := Lib.hid (show ∀ j ∈ T1, j < N from fun j hj => HTL.out k j (by rw [HE1.out]; exact hj))
        have HRES := Lib.hid (show G.choose q l M = secondL M T1 (idsH near) from by rw [← HT1.out, HCH.out])
        have HIDS := Lib.hid (show (idsH near).length = nn from by rw [idsH, List.length_map]; exact HNN.out)
        have HIDK := Lib.hid (fun (k j : Nat) (d : Int) (hk : k < nn) (h : near.getD k (0, 0) = (d, (j : Int))) => show (idsH near).take (k + 1) = (idsH near).take k ++ [j] ∧ j ∉ (idsH near).take k from by
          have h1 : (idsH near)[k]? = some j := by
            rw [idsH, List.getElem?_map, List.getElem?_eq_getElem (by rw [HNN.out]; exact hk)]
            rw [List.getD_eq_getElem?_getD, List.getElem?_eq_getElem (by rw [HNN.out]; exact hk)] at h
            simp at h
            simp [h]
          refine ⟨take_snoc h1, fun hm => ?_⟩
          have h2 := HND.out
          rw [show (near.map fun h => h.2.toNat) = idsH near from rfl, ← List.take_append_drop (k + 1) (idsH near), take_snoc h1] at h2
          exact (List.nodup_append.1 (List.nodup_append.1 h2).1).2.2 j hm j (by simp) rfl)
        have HIDN := Lib.hid (show ∀ j ∈ idsH near, j < N from fun j hj => by
          obtain ⟨k, hk, e⟩ := List.mem_iff_getElem.1 hj
          have hk2 : k < nn := by rw [← HIDS.out]; exact hk
          obtain ⟨nb, j2, d, -, h2, h3, -⟩ := HNB.out k hk2
          have h4 : (idsH near)[k] = j2 := by
            rw [List.getD_eq_getElem?_getD, List.getElem?_eq_getElem (by rw [HNN.out]; exact hk2)] at h2
            simp at h2
            simp [idsH, h2]
          rw [← e, h4]
          exact h3)
        obtain ⟨ids, hids⟩ : ∃ ids, idsH near = ids := ⟨_, rfl⟩
        rw [hids] at HRES HIDS HIDK HIDN
        have HB2 := HB
        clear HE1 hT1 hids HI HTL HND HCH HV CF HB LT
        go_wp2_with (fail)
        go_loopw [10, 14] (fun s10 s14 wr => ∃ (k2 n2 c2 : Nat) (a2 : Option Addr), k2 ≤ nn ∧ s14 = .int .i64 (k2 : Int) ∧ s10 = .slice a2 n2 c2 ∧ Hid (IntsAt w1.heap.size wr (.slice a2 n2 c2) (secondL M T1 (ids.take k2))) ∧ Hid (Below w1.heap.size w1 wr)) (fun _ s14 _ => nn - (intOf s14).toNat)
        case atStart => exact ⟨0, n, c, a, Nat.zero_le _, rfl, rfl, by rw [List.take_zero, secondL_nil]; exact HIA.out, HB2.out⟩
        case round =>
          clear HIA HB2
          obtain ⟨k2, n2, c2, a2, hk2, rfl, rfl, HI, HB⟩ := hrel
          have LT := Lib.hid (show (secondL M T1 (ids.take k2)).length = n2 from by
            obtain ⟨a', c', e, _⟩ := HI.out.form
            simp only [Value.slice.injEq] at e
            exact e.2.1.symm)
          have hT1M : T1.length ≤ M := by rw [← HT1.out]; exact G.choose_most M _
          have hn2 : n2 ≤ 200000 := by
            have h2 := secondL_le M T1 (ids.take k2)
            rw [List.length_take] at h2
            have := LT.out
            have := HLT1.out
            omega
          have hn2M : n2 ≤ M := by rw [← LT.out]; exact secondL_len hT1M
          by_cases g1 : k2 < nn
          · by_cases g2 : (n2 : Int) < most
            · have e2 : decide ((n2 : Int) < most) = true := decide_eq_true g2
              obtain ⟨nb, j, d, rfl, hjd, hjN, hnb⟩ := HNB.out k2 g1
              obtain ⟨hx1, hx2⟩ := HIDK.out k2 j d g1 hjd
              have HX1 := Lib.hid hx1
              have HX2 := Lib.hid hx2
              have HN2 := Lib.hid (show n2 < M from by have := HM.out; omega)
              have c1 := (hnb wr HB.out).2
              have hrd := HI.out.reads (by rw [LT.out]; omega) (fun y hy => by
                rcases mem_second hy with hy | hy
                · have := HT1N.out y hy
                  omega
                · have := HIDN.out y (List.mem_of_mem_take hy)
                  omega)
              obtain ⟨has, hhas⟩ : ∃ has, decide (j ∈ T1) = has := ⟨_, rfl⟩
              have C2 := rhas_any wr a2 n2 c2 _ hrd (j : Int) has ((decide_eq_decide.2 (mem_natsI.trans (mem_secondL hx2))).trans hhas)
              have HHAS := Lib.hid hhas
              have KM := Lib.hid (show k2 + 1 ≤ nn from g1)
              have hlx : w1.heap.size ≤ wr.heap.size := HB.out.size
              obtain ⟨jj, hjj⟩ : ∃ jj : Int, (j : Int) = jj := ⟨_, rfl⟩
              have hjw : IntKind.i64.wrap jj = jj := by rw [IntKind.wrap_i64]; omega
              rw [hjj] at c1 C2
              have HJJ := Lib.hid hjj
              have HC2 := Lib.hid C2
              have HNC := Lib.hid hnb
              clear hjd hx1 hx2 hrd hhas C2 hjj hnb hT1M
              cases has with
              | true =>
                have HE := Lib.hid (show secondL M T1 (ids.take (k2 + 1)) = secondL M T1 (ids.take k2) from by
                  rw [HX1.out]
                  exact secondL_old (of_decide_eq_true HHAS.out))
                go_wp2_with (first
                  | (go_at_call 14; refine HC2.out.mono ?_; rintro e w2 ⟨rfl, h5⟩; have B2 := Lib.hid h5; clear h5)
                  | fail)
                go_roundw
                case rel => exact ⟨k2 + 1, n2, c2, a2, KM.out, by go_num, rfl, by rw [HE.out]; exact RowC.on HI.out B2.out, HB.out.trans (B2.out.mono HB.out.size)⟩
                case measure => simp [intOf]; omega
              | false =>
                have HE := Lib.hid (show secondL M T1 (ids.take (k2 + 1)) = secondL M T1 (ids.take k2) ++ [j] from by
                  rw [HX1.out]
                  exact secondL_new (of_decide_eq_false HHAS.out) (by rw [LT.out]; exact HN2.out))
                go_wp2_with (first
                  | (go_at_call 14; refine HC2.out.mono ?_; rintro e w2 ⟨rfl, h5⟩; have B2 := Lib.hid (HB.out.trans (h5.mono HB.out.size)); have HI2 := Lib.hid (show IntsAt w1.heap.size w2 (.slice a2 n2 c2) (secondL M T1 (ids.take k2)) from RowC.on HI.out h5); have c1 := (HNC.out w2 B2.out).2; rw [HJJ.out] at c1; have hl2 : w1.heap.size ≤ w2.heap.size := B2.out.size; clear h5)
                  | (at_builtin; rw [← HJJ.out]; go_must (refine app_int w2 rfl _ _ rfl w1.heap.size (.slice a2 n2 c2) _ j rfl rfl HI2.out hl2 (by rw [LT.out]; omega) ?_); intro v3 w3 h3 k3 g3; obtain ⟨pa3, pn3, pc3, rfl, -⟩ := h3.parts; have H3 := Lib.hid h3; have K3 := Lib.hid k3; clear h3 k3 g3)
                  | fail)
                go_roundw
                case rel => exact ⟨k2 + 1, pn3, pc3, pa3, KM.out, by go_num, rfl, by rw [HE.out]; exact H3.out, B2.out.trans (K3.out.below (fun b hb => (RowC.lt HI2.out b (mem_ownB.1 hb)).1) B2.out.size)⟩
                case measure => simp [intOf]; omega
            · have e2 : decide ((n2 : Int) < most) = false := decide_eq_false g2
              have HF := Lib.hid (show secondL M T1 (ids.take k2) = secondL M T1 ids from by
                have h5 : M ≤ (secondL M T1 (ids.take k2)).length := by
                  rw [LT.out]
                  have := HM.out
                  omega
                have h6 := secondL_full (m := ids.drop k2) h5
                rw [List.take_append_drop] at h6
                exact h6.symm)
              go_wp2
              go_ret
              exact ⟨_, rfl, by rw [HRES.out, ← HF.out]; exact RowC.mono HI.out B1.out.size, B1.out.trans (HB.out.mono B1.out.size)⟩
          · obtain rfl : k2 = nn := by omega
            have HF := Lib.hid (show ids.take k2 = ids from List.take_of_length_le (by rw [HIDS.out]; exact Nat.le_refl _))
            go_wp2
            go_ret
            exact ⟨_, rfl, by rw [HRES.out, ← HF.out]; exact RowC.mono HI.out B1.out.size, B1.out.trans (HB.out.mono B1.out.size)⟩
    · have hk1 := Lib.hid (show k = nn from by omega)
      have HE1 := Lib.hid (show (G.chooseF M (near.take k)).1 = (G.chooseF M near).1 from by
        rw [show near.take k = near from List.take_of_length_le (by have := hk1.out; rw [HNN.out]; omega)])
      obtain ⟨T1, hT1⟩ : ∃ T1, (G.chooseF M near).1 = T1 := ⟨_, rfl⟩
      have HT1 := Lib.hid hT1
      rw [hT1] at HE1
      have HIA := Lib.hid (show IntsAt w1.heap.size wr (.slice a n c) T1 from by rw [← HE1.out]; exact HI.out)
      have HLT1 := Lib.hid (show T1.length = n from by rw [← HE1.out]; exact LT.out)
      have HT1N := Lib.hid (show ∀ j ∈ T1, j < N from fun j hj => HTL.out k j (by rw [HE1.out]; exact hj))
      have HRES := Lib.hid (show G.choose q l M = secondL M T1 (idsH near) from by rw [← HT1.out, HCH.out])
      have HIDS := Lib.hid (show (idsH near).length = nn from by rw [idsH, List.length_map]; exact HNN.out)
      have HIDK := Lib.hid (fun (k j : Nat) (d : Int) (hk : k < nn) (h : near.getD k (0, 0) = (d, (j : Int))) => show (idsH near).take (k + 1) = (idsH near).take k ++ [j] ∧ j ∉ (idsH near).take k from by
        have h1 : (idsH near)[k]? = some j := by
          rw [idsH, List.getElem?_map, List.getElem?_eq_getElem (by rw [HNN.out]; exact hk)]
          rw [List.getD_eq_getElem?_getD, List.getElem?_eq_getElem (by rw [HNN.out]; exact hk)] at h
          simp at h
          simp [h]
        refine ⟨take_snoc h1, fun hm => ?_⟩
        have h2 := HND.out
        rw [show (near.map fun h => h.2.toNat) = idsH near from rfl, ← List.take_append_drop (k + 1) (idsH near), take_snoc h1] at h2
        exact (List.nodup_append.1 (List.nodup_append.1 h2).1).2.2 j hm j (by simp) rfl)
      have HIDN := Lib.hid (show ∀ j ∈ idsH near, j < N from fun j hj => by
        obtain ⟨k, hk, e⟩ := List.mem_iff_getElem.1 hj
        have hk2 : k < nn := by rw [← HIDS.out]; exact hk
        obtain ⟨nb, j2, d, -, h2, h3, -⟩ := HNB.out k hk2
        have h4 : (idsH near)[k] = j2 := by
          rw [List.getD_eq_getElem?_getD, List.getElem?_eq_getElem (by rw [HNN.out]; exact hk2)] at h2
          simp at h2
          simp [idsH, h2]
        rw [← e, h4]
        exact h3)
      obtain ⟨ids, hids⟩ : ∃ ids, idsH near = ids := ⟨_, rfl⟩
      rw [hids] at HRES HIDS HIDK HIDN
      have HB2 := HB
      clear HE1 hT1 hids HI HTL HND HCH HV CF HB LT
      go_wp2_with (fail)
      go_loopw [10, 14] (fun s10 s14 wr => ∃ (k2 n2 c2 : Nat) (a2 : Option Addr), k2 ≤ nn ∧ s14 = .int .i64 (k2 : Int) ∧ s10 = .slice a2 n2 c2 ∧ Hid (IntsAt w1.heap.size wr (.slice a2 n2 c2) (secondL M T1 (ids.take k2))) ∧ Hid (Below w1.heap.size w1 wr)) (fun _ s14 _ => nn - (intOf s14).toNat)
      case atStart => exact ⟨0, n, c, a, Nat.zero_le _, rfl, rfl, by rw [List.take_zero, secondL_nil]; exact HIA.out, HB2.out⟩
      case round =>
        clear HIA HB2
        obtain ⟨k2, n2, c2, a2, hk2, rfl, rfl, HI, HB⟩ := hrel
        have LT := Lib.hid (show (secondL M T1 (ids.take k2)).length = n2 from by
          obtain ⟨a', c', e, _⟩ := HI.out.form
          simp only [Value.slice.injEq] at e
          exact e.2.1.symm)
        have hT1M : T1.length ≤ M := by rw [← HT1.out]; exact G.choose_most M _
        have hn2 : n2 ≤ 200000 := by
          have h2 := secondL_le M T1 (ids.take k2)
          rw [List.length_take] at h2
          have := LT.out
          have := HLT1.out
          omega
        have hn2M : n2 ≤ M := by rw [← LT.out]; exact secondL_len hT1M
        by_cases g1 : k2 < nn
        · by_cases g2 : (n2 : Int) < most
          · have e2 : decide ((n2 : Int) < most) = true := decide_eq_true g2
            obtain ⟨nb, j, d, rfl, hjd, hjN, hnb⟩ := HNB.out k2 g1
            obtain ⟨hx1, hx2⟩ := HIDK.out k2 j d g1 hjd
            have HX1 := Lib.hid hx1
            have HX2 := Lib.hid hx2
            have HN2 := Lib.hid (show n2 < M from by have := HM.out; omega)
            have c1 := (hnb wr HB.out).2
            have hrd := HI.out.reads (by rw [LT.out]; omega) (fun y hy => by
              rcases mem_second hy with hy | hy
              · have := HT1N.out y hy
                omega
              · have := HIDN.out y (List.mem_of_mem_take hy)
                omega)
            obtain ⟨has, hhas⟩ : ∃ has, decide (j ∈ T1) = has := ⟨_, rfl⟩
            have C2 := rhas_any wr a2 n2 c2 _ hrd (j : Int) has ((decide_eq_decide.2 (mem_natsI.trans (mem_secondL hx2))).trans hhas)
            have HHAS := Lib.hid hhas
            have KM := Lib.hid (show k2 + 1 ≤ nn from g1)
            have hlx : w1.heap.size ≤ wr.heap.size := HB.out.size
            obtain ⟨jj, hjj⟩ : ∃ jj : Int, (j : Int) = jj := ⟨_, rfl⟩
            have hjw : IntKind.i64.wrap jj = jj := by rw [IntKind.wrap_i64]; omega
            rw [hjj] at c1 C2
            have HJJ := Lib.hid hjj
            have HC2 := Lib.hid C2
            have HNC := Lib.hid hnb
            clear hjd hx1 hx2 hrd hhas C2 hjj hnb hT1M
            cases has with
            | true =>
              have HE := Lib.hid (show secondL M T1 (ids.take (k2 + 1)) = secondL M T1 (ids.take k2) from by
                rw [HX1.out]
                exact secondL_old (of_decide_eq_true HHAS.out))
              go_wp2_with (first
                | (go_at_call 14; refine HC2.out.mono ?_; rintro e w2 ⟨rfl, h5⟩; have B2 := Lib.hid h5; clear h5)
                | fail)
              go_roundw
              case rel => exact ⟨k2 + 1, n2, c2, a2, KM.out, by go_num, rfl, by rw [HE.out]; exact RowC.on HI.out B2.out, HB.out.trans (B2.out.mono HB.out.size)⟩
              case measure => simp [intOf]; omega
            | false =>
              have HE := Lib.hid (show secondL M T1 (ids.take (k2 + 1)) = secondL M T1 (ids.take k2) ++ [j] from by
                rw [HX1.out]
                exact secondL_new (of_decide_eq_false HHAS.out) (by rw [LT.out]; exact HN2.out))
              go_wp2_with (first
                | (go_at_call 14; refine HC2.out.mono ?_; rintro e w2 ⟨rfl, h5⟩; have B2 := Lib.hid (HB.out.trans (h5.mono HB.out.size)); have HI2 := Lib.hid (show IntsAt w1.heap.size w2 (.slice a2 n2 c2) (secondL M T1 (ids.take k2)) from RowC.on HI.out h5); have c1 := (HNC.out w2 B2.out).2; rw [HJJ.out] at c1; have hl2 : w1.heap.size ≤ w2.heap.size := B2.out.size; clear h5)
                | (at_builtin; rw [← HJJ.out]; go_must (refine app_int w2 rfl _ _ rfl w1.heap.size (.slice a2 n2 c2) _ j rfl rfl HI2.out hl2 (by rw [LT.out]; omega) ?_); intro v3 w3 h3 k3 g3; obtain ⟨pa3, pn3, pc3, rfl, -⟩ := h3.parts; have H3 := Lib.hid h3; have K3 := Lib.hid k3; clear h3 k3 g3)
                | fail)
              go_roundw
              case rel => exact ⟨k2 + 1, pn3, pc3, pa3, KM.out, by go_num, rfl, by rw [HE.out]; exact H3.out, B2.out.trans (K3.out.below (fun b hb => (RowC.lt HI2.out b (mem_ownB.1 hb)).1) B2.out.size)⟩
              case measure => simp [intOf]; omega
          · have e2 : decide ((n2 : Int) < most) = false := decide_eq_false g2
            have HF := Lib.hid (show secondL M T1 (ids.take k2) = secondL M T1 ids from by
              have h5 : M ≤ (secondL M T1 (ids.take k2)).length := by
                rw [LT.out]
                have := HM.out
                omega
              have h6 := secondL_full (m := ids.drop k2) h5
              rw [List.take_append_drop] at h6
              exact h6.symm)
            go_wp2
            go_ret
            exact ⟨_, rfl, by rw [HRES.out, ← HF.out]; exact RowC.mono HI.out B1.out.size, B1.out.trans (HB.out.mono B1.out.size)⟩
        · obtain rfl : k2 = nn := by omega
          have HF := Lib.hid (show ids.take k2 = ids from List.take_of_length_le (by rw [HIDS.out]; exact Nat.le_refl _))
          go_wp2
          go_ret
          exact ⟨_, rfl, by rw [HRES.out, ← HF.out]; exact RowC.mono HI.out B1.out.size, B1.out.trans (HB.out.mono B1.out.size)⟩
end

section
variable {T : TypeId} {rs : List Value} {okI : Nat → Prop} {w : World} {lo g m : Nat} {u : Value} {L : List NodeL}
/-- What a link of the document's leaves. -/
def RLinkPost (T : TypeId) (rs : List Value) (okI : Nat → Prop) (lo g m : Nat) (u : Value) (L : List NodeL) (a b level most : Int) (w : World) (e : Ending) (w' : World) : Prop :=
  e = .returned (.bool ((graphV m L).linkB a b level)) ∧ ∃ L', GrD T rs okI w' lo g m u L' ∧ graphV m L' = (graphV m L).link a b level most ∧ Kept (fpG g u L) w w' ∧ Grows w (fpG g u L) (fpG g u L')
theorem own_slice1 {w : World} {lo n : Nat} {t : TypeId} {v : Value} {xs : List Value} (h : w.ownsRow lo t 1 v n xs) (hn : n ≠ 0) : ∃ g c, v = .slice (some ⟨g, 0, none⟩) n c ∧ lo ≤ g ∧ g < w.heap.size ∧ n ≤ c ∧ ∀ i, w.frozen? ⟨g, i, none⟩ = false := by
  obtain ⟨h1, h2⟩ := h
  rcases h2 with ⟨_, h3⟩ | ⟨g, cap, cur, rfl, hg, hh, h3, _⟩
  · exact absurd h3 hn
  · exact ⟨g, cap, rfl, hg, (Array.getElem?_eq_some_iff.1 hh).1, h3, fun i => by simp [World.frozen?, hh]⟩
set_option maxRecDepth 100000 in
set_option maxHeartbeats 1600000 in
theorem rlink_not (h : GrD T rs okI w lo g m u L) (a b level most : Int) (hz : (graphV m L).linkB a b level = false) :
    Calls Try.prog 25 #[.pointer (some ⟨g, 0, none⟩), .int .i64 a, .int .i64 b, .int .i64 level, .int .i64 most] w (RLinkPost T rs okI lo g m u L a b level most w) := by
  have HFIN := Lib.hid (show RLinkPost T rs okI lo g m u L a b level most w (.returned (.bool false)) w from ⟨by rw [hz], L, h, by unfold GraphV.link; rw [if_neg (by simp [hz])], Kept.refl _ _, Grows.refl _ _⟩)
  have CO := Lib.hid (fun (i : Int) (z : Bool) (hz : Hid ((graphV m L).onB i level = z)) => rthere_any h i level z hz)
  unfold GraphV.linkB at hz
  clear h
  cases ha : (graphV m L).onB a level with
  | false =>
    have C1 := Lib.hid (CO.out a false ha)
    clear hz ha
    go_enter Try.func25, Try.ntmps25
    go_wp2_with (go_at_call 27; refine C1.out.mono ?_; rintro e w' ⟨rfl, hw⟩; subst hw)
    go_ret
    exact HFIN.out
  | true =>
    cases hb : (graphV m L).onB b level with
    | false =>
      have C1 := Lib.hid (CO.out a true ha)
      have C2 := Lib.hid (CO.out b false hb)
      clear hz ha hb
      go_enter Try.func25, Try.ntmps25
      go_wp2_with (fail)
      refine C1.out.mono ?_
      rintro e w' ⟨rfl, hw⟩
      subst hw
      go_wp2_with (fail)
      refine C2.out.mono ?_
      rintro e w' ⟨rfl, hw⟩
      subst hw
      go_wp2
      go_ret
      exact HFIN.out
    | true =>
      have hab : a = b := by
        rw [ha, hb] at hz
        simpa using hz
      have C1 := Lib.hid (CO.out a true ha)
      have C2 := Lib.hid (CO.out b true hb)
      have d0 : (a == b) = true := by simpa using hab
      have d1 : decide (a = b) = true := by simpa using hab
      clear hz ha hb hab
      go_enter Try.func25, Try.ntmps25
      go_wp2_with (fail)
      refine C1.out.mono ?_
      rintro e w' ⟨rfl, hw⟩
      subst hw
      go_wp2_with (fail)
      refine C2.out.mono ?_
      rintro e w' ⟨rfl, hw⟩
      subst hw
      go_wp2
      go_ret
      exact HFIN.out
set_option maxRecDepth 100000 in
set_option maxHeartbeats 6400000 in
theorem rlink_yes (h : GrD T rs okI w lo g m u L) (hT : TOk T) (hm : m < 256) (hr : (graphV m L).Right) (a b level most : Int) (hz : (graphV m L).linkB a b level = true) :
    Calls Try.prog 25 #[.pointer (some ⟨g, 0, none⟩), .int .i64 a, .int .i64 b, .int .i64 level, .int .i64 most] w (RLinkPost T rs okI lo g m u L a b level most w) := by
  obtain ⟨gv, h2⟩ : ∃ gv, graphV m L = gv := ⟨_, rfl⟩
  have hgm : gv.m = m := by rw [← h2]; rfl
  rw [h2] at hr hz
  have HE := Lib.hid (show gv.link a b level most = gv.setLink a.toNat level.toNat (gv.linkL a.toNat b.toNat level.toNat most) from by unfold GraphV.link; rw [if_pos hz])
  have HZ := Lib.hid hz
  unfold GraphV.linkB at hz
  simp only [Bool.and_eq_true, Bool.not_eq_true', decide_eq_false_iff_not] at hz
  obtain ⟨⟨ha, hb⟩, hab⟩ := hz
  have hlv : 0 ≤ level := by
    unfold GraphV.onB at ha
    exact (of_decide_eq_true ha).2.2.1
  obtain ⟨k, rfl⟩ : ∃ k : Nat, level = (k : Int) := ⟨level.toNat, by omega⟩
  have C1 := Lib.hid (rthere_any h a (k : Int) true (by rw [h2]; exact ha))
  have C2 := Lib.hid (rthere_any h b (k : Int) true (by rw [h2]; exact hb))
  obtain ⟨i, rfl, hi, hki⟩ := GraphV.on_nat ha
  obtain ⟨j, rfl, hj, hkj⟩ := GraphV.on_nat hb
  simp only [Int.toNat_natCast] at HE
  have hlen : gv.L.length = L.length := by rw [← h2]; exact graphV_len _ _
  have hiL : i < L.length := by omega
  have hjL : j < L.length := by omega
  have hfew := h.few
  obtain ⟨x, gu, cu, hx, hmem, hu, hgu, hrg⟩ := h.toGrN.nodeAt i hiL
  have hkx : k < x.links.length := by rw [← h2, graphV_lv hx] at hki; exact hki
  obtain ⟨v, gl, cl, hv, hpl, hgl, hcell, hfro, hown⟩ := h.listAt hx hkx
  obtain ⟨l, hl⟩ : ∃ l, x.links.getD k [] = l := ⟨_, rfl⟩
  rw [hl] at hown
  have hlg : gv.links i k = l := by rw [← h2, graphV_links hx, hl]
  have hIA : IntsAt lo w v l := IntsAt.mk hown
  obtain ⟨va, vn, vc, rfl, hvn⟩ := hIA.parts
  have hln : ∀ y ∈ l, y < L.length := fun y hy => by
    have := links_lt hr (i := i) (k := k) (by rw [hlg]; exact hy)
    omega
  have hll : l.length ≤ L.length := nodup_le _ _ (by rw [← hlg]; exact hr.each i k) hln
  obtain ⟨NL, hNL⟩ : ∃ NL, gv.linkL i j k most = NL := ⟨_, rfl⟩
  have hvec : gv.vec i = x.it.vec := by rw [← h2, graphV_vec hx]
  have hlens := h.lens x hmem
  have FIN := Lib.hid (fun (wz : World) (hb : Below w.heap.size w wz) (pl' v' : Value) (h3 : wz.ownsRow w.heap.size 46 1 pl' x.ls.length (x.ls.set k v')) (h4 : wz.ownsRow w.heap.size 3 1 v' NL.length (intsC NL)) => show RLinkPost T rs okI lo g m u L (i : Int) (j : Int) (k : Int) most w (.returned (.bool true)) (wz.setCell ⟨gu, i * 6 + 5, none⟩ pl') from by
    have e := h.setRow hT.n hx hu hb h3 h4
    refine ⟨by rw [h2, HZ.out], _, e.1, ?_, e.2.1, e.2.2⟩
    rw [graphV_setR hx, h2, HE.out, hNL])
  have HS := Lib.hid (fun (W : World) (hb : Below w.heap.size w W) => show W.cell? ⟨g, 1, none⟩ = some (.slice (some ⟨gu, 0, none⟩) L.length cu) ∧ W.cell? ⟨gu, i * 6 + 1, none⟩ = some (.slice x.it.pv.1 x.it.pv.2.1 x.it.pv.2.2) ∧ W.cell? ⟨gu, i * 6 + 5, none⟩ = some (.slice (some ⟨gl, 0, none⟩) x.links.length cl) ∧ W.cell? ⟨gl, k, none⟩ = some (.slice va vn vc) ∧ W.frozen? ⟨gu, i * 6 + 5, none⟩ = false from by
    refine ⟨by rw [← hu]; exact (h.on hb).blk.cell 1, (hb.cell (p := ⟨gu, i * 6 + 1, none⟩) hgu).trans (hrg 1 _ rfl), by rw [← hpl]; exact (hb.cell (p := ⟨gu, i * 6 + 5, none⟩) hgu).trans (hrg 5 _ rfl), (hb.cell (p := ⟨gl, k, none⟩) hgl).trans hcell, ?_⟩
    exact RowC.frozen (by rw [← hu]; exact (h.on hb).rows) _)
  have CH := Lib.hid (fun (W : World) (hb : Below w.heap.size w W) (a1 : Option Addr) (n1 c1 : Nat) (l1 : List Nat) (hR : Reads .i64 W a1 n1 (natsI l1)) (hn1 : n1 ≤ 100000) =>
    rchoose_any (h.on hb) hm x.it.pv.1 x.it.pv.2.1 x.it.pv.2.2 x.it.vec (Rd.ints ((h.on hb).item x hmem).hvec rfl) a1 n1 c1 (natsI l1) hR hn1 most)
  rw [h2] at CH
  have HSRC := Lib.hid (hIA.src)
  have HLS := Lib.hid (fun (W : World) (hb : Below w.heap.size w W) => show ∀ q, q < x.links.length → W.cell? ⟨gl, 0 + q, none⟩ = x.ls[q]? from fun q hq => by
    rcases own_cells1 (show w.ownsRow lo 46 1 x.pl x.ls.length x.ls from h.lrow x hmem) with ⟨e, _⟩ | ⟨g2, c2, e, _, _, h4, h5⟩
    · rw [hpl] at e
      cases e
    · rw [hpl] at e
      simp only [Value.slice.injEq, Option.some.injEq, Addr.mk.injEq] at e
      obtain ⟨⟨rfl, _⟩, _⟩ := e
      rw [Nat.zero_add, ← h5 q (by omega)]
      exact hb.cell (p := ⟨gl, q, none⟩) hgl)
  have HONE := Lib.hid (show ∀ y ∈ x.ls, y.oneCell' = true from fun y hy => by
    obtain ⟨q, hq⟩ := List.getElem?_of_mem hy
    obtain ⟨a', m', c', e, -⟩ := ownsRow_slice (h.listOwn hmem hq)
    rw [e]
    rfl)
  have HVN := Lib.hid hvn.out
  have hvnL : vn ≤ L.length := by rw [← hvn.out]; exact hll
  have HLK := Lib.hid (show NL = if most < ((putIn l j).length : Int) then gv.choose x.it.vec (natsI (putIn l j)) most.toNat else putIn l j from by
    rw [← hNL, GraphV.linkL, hlg, hvec]
    rfl)
  have HLN := Lib.hid hln
  have HND := Lib.hid (show l.Nodup from by rw [← hlg]; exact hr.each i k)
  have d0 : ((i : Int) == (j : Int)) = false := by simpa using hab
  have d1 : decide ((i : Int) = (j : Int)) = false := decide_eq_false hab
  have d2 : decide (i = j) = false := decide_eq_false (by omega)
  have hP5 : x.links.length ≤ 5 := hr.most x.toV (by rw [← h2]; exact List.mem_map_of_mem hmem)
  obtain ⟨N, hN⟩ : ∃ N, L.length = N := ⟨_, rfl⟩
  obtain ⟨P, hP⟩ : ∃ P, x.links.length = P := ⟨_, rfl⟩
  obtain ⟨LS, hLS⟩ : ∃ LS, x.ls = LS := ⟨_, rfl⟩
  rw [hLS] at FIN HLS HONE hlens
  rw [hlens] at FIN
  rw [hP] at HS hkx HLS hP5 FIN hlens
  rw [hN] at HS hiL hjL hvnL hfew HLN
  have HLSL := Lib.hid hlens
  obtain ⟨s1, s2, s3, s4, s5⟩ := HS.out w (Below.refl _ _)
  have hj6 : j ≤ 1000000 := by omega
  have HPI := Lib.hid (show (putIn l j).Nodup ∧ ∀ y ∈ putIn l j, y < N from ⟨putIn_nodup HND.out, fun y hy => by
    rcases mem_putIn.1 hy with hy | rfl
    · exact HLN.out y hy
    · exact hjL⟩)
  have HPL := Lib.hid (show (putIn l j).length ≤ N from nodup_le _ _ HPI.out.1 HPI.out.2)
  obtain ⟨P1, hP1⟩ : ∃ P1, putIn l j = P1 := ⟨_, rfl⟩
  have HP1 := Lib.hid hP1
  rw [hP1] at HLK HPI HPL
  have HGU := Lib.hid hgu
  have HG0 := Lib.hid (show g < w.heap.size from h.blk.lt)
  clear h h2 hgm hr HZ HE ha hb hab hlv hi hki hj hkj hx hmem hu hgu hrg hv hpl hgl hcell hfro hown hl hlg hIA hvn hln hll hNL hvec hlens hlen hP hN hLS hP1
  by_cases hjl : j ∈ l
  · have HJL := Lib.hid (show decide (j ∈ l) = true from decide_eq_true hjl)
    have HPE := Lib.hid (show P1 = l from by rw [← HP1.out, putIn, if_pos hjl])
    clear hjl
    by_cases hbig : most < (P1.length : Int)
    · have HBIG := Lib.hid (show decide ((P1.length : Int) > most) = true from decide_eq_true hbig)
      have HNL := Lib.hid (show NL = gv.choose x.it.vec (natsI P1) most.toNat from by rw [HLK.out, if_pos hbig])
      clear hbig
      have C3 := Lib.hid (fun (W : World) (a1 : Option Addr) (n1 c1 : Nat) (hR : Reads .i64 W a1 n1 (natsI l)) => rhas_any W a1 n1 c1 (natsI l) hR (j : Int) true (by rw [show decide ((j : Int) ∈ natsI l) = decide (j ∈ l) from decide_eq_decide.2 mem_natsI]; exact HJL.out))
      go_enter Try.func25, Try.ntmps25
      go_wp2_with (fail)
      refine C1.out.mono ?_
      rintro e w' ⟨rfl, hw⟩
      subst hw
      go_wp2_with (fail)
      refine C2.out.mono ?_
      rintro e w' ⟨rfl, hw⟩
      subst hw
      go_wp2_with (first
        | (at_builtin; go_must (refine app_one w rfl _ _ 46 3 rfl Try.underlying46 (.int .i64 0) 8 int_info11 rfl w.heap.size (.slice none 0 0) [] rfl (World.ownsRow_nil w w.heap.size _ 1) va vn vc (intsC l) rfl (by rw [List.length_map]; exact HVN.out) (fun ha => HSRC.out.1 ha) (by have h8 := HSRC.out.2 l.length (Nat.le_refl _); rw [List.take_length, HVN.out] at h8; exact h8) (ints_one _) (by simp; omega) (by simp; omega) (Nat.le_refl _) ?_); intro v1 w1 h3 h4; obtain ⟨a1, m1, c1, rfl, hm1⟩ := ownsRow_slice h3; have B1 := Lib.hid (((Kept.refl [] w).grown h4 fun q hq => (by cases hq)).below (by simp) (Nat.le_refl _)); have e1 : m1 = l.length := (by rw [hm1.out]; simp); have H1 := Lib.hid (show IntsAt w.heap.size w1 (.slice a1 m1 c1) l from IntsAt.mk (by have h5 := h3; simp only [List.nil_append] at h5; rw [List.length_map] at h5; exact h5)); have HM1 := Lib.hid e1; clear h3 h4 hm1 e1)
        | fail)
      have hm1 : m1 ≤ N := by
        have := HM1.out
        have := HVN.out
        omega
      have C5 := Lib.hid (C3.out w1 a1 m1 c1 (H1.out.reads (by rw [← HM1.out]; omega) (fun y hy => by have := HLN.out y hy; omega)))
      go_wp2_with (fail)
      refine C5.out.mono ?_
      rintro e w2 ⟨rfl, hb2⟩
      have B2 := Lib.hid (B1.out.trans (hb2.mono B1.out.size))
      have H2 := Lib.hid (show IntsAt w.heap.size w2 (.slice a1 m1 c1) l from RowC.on H1.out hb2)
      have hl2 := B2.out.size
      clear C5 H1 B1 hb2
      obtain ⟨w3, hw3⟩ : ∃ w3, w2 = w3 := ⟨_, rfl⟩
      subst hw3
      obtain ⟨a3, hA3⟩ : ∃ a3, a1 = a3 := ⟨_, rfl⟩
      subst hA3
      have B3 := B2
      have H3 := Lib.hid (show IntsAt w.heap.size w2 (.slice a1 m1 c1) P1 from by rw [HPE.out]; exact H2.out)
      have HM3 := Lib.hid (show P1.length = m1 from by rw [HPE.out]; exact HM1.out.symm)
      have hm3 : m1 ≤ N := by rw [← HM3.out]; exact HPL.out
      have hb9 : decide ((m1 : Int) > most) = true := by rw [← HM3.out]; exact HBIG.out
      have C6 := Lib.hid (CH.out w2 B3.out a1 m1 c1 P1 (H3.out.reads (by rw [HM3.out]; omega) (fun y hy => by have := HPI.out.2 y hy; omega)) (by omega))
      rw [← HNL.out] at C6
      obtain ⟨t1, t2, t3, t4, t5⟩ := HS.out w2 B3.out
      clear s1 s2 s3 s4 s5
      go_wp2_with (fail)
      refine C6.out.mono ?_
      rintro e w4 ⟨v4, rfl, hi4, hb4⟩
      obtain ⟨a4, m4, c4, rfl, -⟩ := IntsAt.parts hi4
      have B4 := Lib.hid (B3.out.trans (hb4.mono B3.out.size))
      have H4 := Lib.hid (show IntsAt w.heap.size w4 (.slice a4 m4 c4) NL from RowC.mono hi4 B3.out.size)
      obtain ⟨s1, s2, s3, s4, s5⟩ := HS.out w4 B4.out
      clear hi4 hb4 C6 t1 t2 t3 t4 t5
      have hl4 := B4.out.size
      go_wp2_with (first
        | (at_builtin; go_must (refine app_one w4 rfl _ _ 38 46 rfl Try.underlying38 (.slice none 0 0) 24 lists_info11 rfl w.heap.size (.slice none 0 0) [] rfl (World.ownsRow_nil w4 w.heap.size _ 1) (some ⟨gl, 0, none⟩) P cl LS rfl HLSL.out (fun ha => (by cases ha)) (.inr ⟨gl, 0, rfl, HLS.out w4 B4.out⟩) HONE.out (by simp; omega) (by simp; omega) hl4 ?_); intro v5 w5 h3 h4; simp only [List.nil_append, HLSL.out] at h3; obtain ⟨g5, c5, rfl, hg5, hg5l, hc5, hf5⟩ := own_slice1 h3 (by omega); have h5 := ((Kept.refl [] w4).grown h4 fun q hq => (by cases hq)).below (B := w4.heap.size) (by simp) (Nat.le_refl _); have B5 := Lib.hid (B4.out.trans (h5.mono hl4)); have H5 := Lib.hid (show IntsAt w.heap.size w5 (.slice a4 m4 c4) NL from RowC.on H4.out h5); have R5 := Lib.hid h3; have q0 : w5.cell? ⟨g5, k, none⟩ = some (.slice va vn vc) := (by rcases own_cells1 (show w5.ownsRow w.heap.size 46 1 _ LS.length LS from by rw [HLSL.out]; exact h3) with ⟨e, _⟩ | ⟨g2, c2, e, _, _, -, h8⟩; (cases e); (simp only [Value.slice.injEq, Option.some.injEq, Addr.mk.injEq] at e; obtain ⟨⟨rfl, _⟩, _⟩ := e; rw [h8 k (by rw [HLSL.out]; exact hkx), ← HLS.out w (Below.refl _ _) k hkx, Nat.zero_add]; exact (HS.out w (Below.refl _ _)).2.2.2.1)); have q1 := hf5 k; clear s1 s2 s3 s4 s5; obtain ⟨s1, s2, s3, s4, s5⟩ := HS.out w5 B5.out; have hgu5 : gu < w5.heap.size := (by have := HGU.out; have := B5.out.size; omega); have hne5 : ¬ g5 = gu := (by have := HGU.out; omega); have hne6 : ¬ g5 = g := (by have := HG0.out; omega); clear h3 h4 h5 hf5)
        | fail)
      have FF := Lib.hid (FIN.out (w5.setCell ⟨g5, k, none⟩ (.slice a4 m4 c4)) (B5.out.setCell (p := ⟨g5, k, none⟩) hg5 _) (.slice (some ⟨g5, 0, none⟩) P c5) (.slice a4 m4 c4) (own_set R5.out hkx _) (((Kept.refl [g5] w5).setCell ⟨g5, k, none⟩ _ (.inl (by simp))).own H5.out.own fun b hb hh => by
        simp at hh
        subst hh
        exact rows_apart H5.out.own R5.out (by decide) b hb rfl))
      go_wp2
      go_ret
      exact FF.out
    · have HBIG := Lib.hid (show decide ((P1.length : Int) > most) = false from decide_eq_false hbig)
      have HNL := Lib.hid (show NL = P1 from by rw [HLK.out, if_neg hbig])
      clear hbig
      have C3 := Lib.hid (fun (W : World) (a1 : Option Addr) (n1 c1 : Nat) (hR : Reads .i64 W a1 n1 (natsI l)) => rhas_any W a1 n1 c1 (natsI l) hR (j : Int) true (by rw [show decide ((j : Int) ∈ natsI l) = decide (j ∈ l) from decide_eq_decide.2 mem_natsI]; exact HJL.out))
      go_enter Try.func25, Try.ntmps25
      go_wp2_with (fail)
      refine C1.out.mono ?_
      rintro e w' ⟨rfl, hw⟩
      subst hw
      go_wp2_with (fail)
      refine C2.out.mono ?_
      rintro e w' ⟨rfl, hw⟩
      subst hw
      go_wp2_with (first
        | (at_builtin; go_must (refine app_one w rfl _ _ 46 3 rfl Try.underlying46 (.int .i64 0) 8 int_info11 rfl w.heap.size (.slice none 0 0) [] rfl (World.ownsRow_nil w w.heap.size _ 1) va vn vc (intsC l) rfl (by rw [List.length_map]; exact HVN.out) (fun ha => HSRC.out.1 ha) (by have h8 := HSRC.out.2 l.length (Nat.le_refl _); rw [List.take_length, HVN.out] at h8; exact h8) (ints_one _) (by simp; omega) (by simp; omega) (Nat.le_refl _) ?_); intro v1 w1 h3 h4; obtain ⟨a1, m1, c1, rfl, hm1⟩ := ownsRow_slice h3; have B1 := Lib.hid (((Kept.refl [] w).grown h4 fun q hq => (by cases hq)).below (by simp) (Nat.le_refl _)); have e1 : m1 = l.length := (by rw [hm1.out]; simp); have H1 := Lib.hid (show IntsAt w.heap.size w1 (.slice a1 m1 c1) l from IntsAt.mk (by have h5 := h3; simp only [List.nil_append] at h5; rw [List.length_map] at h5; exact h5)); have HM1 := Lib.hid e1; clear h3 h4 hm1 e1)
        | fail)
      have hm1 : m1 ≤ N := by
        have := HM1.out
        have := HVN.out
        omega
      have C5 := Lib.hid (C3.out w1 a1 m1 c1 (H1.out.reads (by rw [← HM1.out]; omega) (fun y hy => by have := HLN.out y hy; omega)))
      go_wp2_with (fail)
      refine C5.out.mono ?_
      rintro e w2 ⟨rfl, hb2⟩
      have B2 := Lib.hid (B1.out.trans (hb2.mono B1.out.size))
      have H2 := Lib.hid (show IntsAt w.heap.size w2 (.slice a1 m1 c1) l from RowC.on H1.out hb2)
      have hl2 := B2.out.size
      clear C5 H1 B1 hb2
      obtain ⟨w3, hw3⟩ : ∃ w3, w2 = w3 := ⟨_, rfl⟩
      subst hw3
      obtain ⟨a3, hA3⟩ : ∃ a3, a1 = a3 := ⟨_, rfl⟩
      subst hA3
      have B3 := B2
      have H3 := Lib.hid (show IntsAt w.heap.size w2 (.slice a1 m1 c1) P1 from by rw [HPE.out]; exact H2.out)
      have HM3 := Lib.hid (show P1.length = m1 from by rw [HPE.out]; exact HM1.out.symm)
      have hm3 : m1 ≤ N := by rw [← HM3.out]; exact HPL.out
      have hb9 : decide ((m1 : Int) > most) = false := by rw [← HM3.out]; exact HBIG.out
      have B4 := B3
      have H4 := Lib.hid (show IntsAt w.heap.size w2 (.slice a1 m1 c1) NL from by rw [HNL.out]; exact H3.out)
      clear s1 s2 s3 s4 s5
      obtain ⟨s1, s2, s3, s4, s5⟩ := HS.out w2 B4.out
      have hl4 := B4.out.size
      go_wp2_with (first
        | (at_builtin; go_must (refine app_one w2 rfl _ _ 38 46 rfl Try.underlying38 (.slice none 0 0) 24 lists_info11 rfl w.heap.size (.slice none 0 0) [] rfl (World.ownsRow_nil w2 w.heap.size _ 1) (some ⟨gl, 0, none⟩) P cl LS rfl HLSL.out (fun ha => (by cases ha)) (.inr ⟨gl, 0, rfl, HLS.out w2 B4.out⟩) HONE.out (by simp; omega) (by simp; omega) hl4 ?_); intro v5 w5 h3 h4; simp only [List.nil_append, HLSL.out] at h3; obtain ⟨g5, c5, rfl, hg5, hg5l, hc5, hf5⟩ := own_slice1 h3 (by omega); have h5 := ((Kept.refl [] w2).grown h4 fun q hq => (by cases hq)).below (B := w2.heap.size) (by simp) (Nat.le_refl _); have B5 := Lib.hid (B4.out.trans (h5.mono hl4)); have H5 := Lib.hid (show IntsAt w.heap.size w5 (.slice a1 m1 c1) NL from RowC.on H4.out h5); have R5 := Lib.hid h3; have q0 : w5.cell? ⟨g5, k, none⟩ = some (.slice va vn vc) := (by rcases own_cells1 (show w5.ownsRow w.heap.size 46 1 _ LS.length LS from by rw [HLSL.out]; exact h3) with ⟨e, _⟩ | ⟨g2, c2, e, _, _, -, h8⟩; (cases e); (simp only [Value.slice.injEq, Option.some.injEq, Addr.mk.injEq] at e; obtain ⟨⟨rfl, _⟩, _⟩ := e; rw [h8 k (by rw [HLSL.out]; exact hkx), ← HLS.out w (Below.refl _ _) k hkx, Nat.zero_add]; exact (HS.out w (Below.refl _ _)).2.2.2.1)); have q1 := hf5 k; clear s1 s2 s3 s4 s5; obtain ⟨s1, s2, s3, s4, s5⟩ := HS.out w5 B5.out; have hgu5 : gu < w5.heap.size := (by have := HGU.out; have := B5.out.size; omega); have hne5 : ¬ g5 = gu := (by have := HGU.out; omega); have hne6 : ¬ g5 = g := (by have := HG0.out; omega); clear h3 h4 h5 hf5)
        | fail)
      have FF := Lib.hid (FIN.out (w5.setCell ⟨g5, k, none⟩ (.slice a1 m1 c1)) (B5.out.setCell (p := ⟨g5, k, none⟩) hg5 _) (.slice (some ⟨g5, 0, none⟩) P c5) (.slice a1 m1 c1) (own_set R5.out hkx _) (((Kept.refl [g5] w5).setCell ⟨g5, k, none⟩ _ (.inl (by simp))).own H5.out.own fun b hb hh => by
        simp at hh
        subst hh
        exact rows_apart H5.out.own R5.out (by decide) b hb rfl))
      go_wp2
      go_ret
      exact FF.out
  · have HJL := Lib.hid (show decide (j ∈ l) = false from decide_eq_false hjl)
    have HPE := Lib.hid (show P1 = l ++ [j] from by rw [← HP1.out, putIn, if_neg hjl])
    clear hjl
    by_cases hbig : most < (P1.length : Int)
    · have HBIG := Lib.hid (show decide ((P1.length : Int) > most) = true from decide_eq_true hbig)
      have HNL := Lib.hid (show NL = gv.choose x.it.vec (natsI P1) most.toNat from by rw [HLK.out, if_pos hbig])
      clear hbig
      have C3 := Lib.hid (fun (W : World) (a1 : Option Addr) (n1 c1 : Nat) (hR : Reads .i64 W a1 n1 (natsI l)) => rhas_any W a1 n1 c1 (natsI l) hR (j : Int) false (by rw [show decide ((j : Int) ∈ natsI l) = decide (j ∈ l) from decide_eq_decide.2 mem_natsI]; exact HJL.out))
      go_enter Try.func25, Try.ntmps25
      go_wp2_with (fail)
      refine C1.out.mono ?_
      rintro e w' ⟨rfl, hw⟩
      subst hw
      go_wp2_with (fail)
      refine C2.out.mono ?_
      rintro e w' ⟨rfl, hw⟩
      subst hw
      go_wp2_with (first
        | (at_builtin; go_must (refine app_one w rfl _ _ 46 3 rfl Try.underlying46 (.int .i64 0) 8 int_info11 rfl w.heap.size (.slice none 0 0) [] rfl (World.ownsRow_nil w w.heap.size _ 1) va vn vc (intsC l) rfl (by rw [List.length_map]; exact HVN.out) (fun ha => HSRC.out.1 ha) (by have h8 := HSRC.out.2 l.length (Nat.le_refl _); rw [List.take_length, HVN.out] at h8; exact h8) (ints_one _) (by simp; omega) (by simp; omega) (Nat.le_refl _) ?_); intro v1 w1 h3 h4; obtain ⟨a1, m1, c1, rfl, hm1⟩ := ownsRow_slice h3; have B1 := Lib.hid (((Kept.refl [] w).grown h4 fun q hq => (by cases hq)).below (by simp) (Nat.le_refl _)); have e1 : m1 = l.length := (by rw [hm1.out]; simp); have H1 := Lib.hid (show IntsAt w.heap.size w1 (.slice a1 m1 c1) l from IntsAt.mk (by have h5 := h3; simp only [List.nil_append] at h5; rw [List.length_map] at h5; exact h5)); have HM1 := Lib.hid e1; clear h3 h4 hm1 e1)
        | fail)
      have hm1 : m1 ≤ N := by
        have := HM1.out
        have := HVN.out
        omega
      have C5 := Lib.hid (C3.out w1 a1 m1 c1 (H1.out.reads (by rw [← HM1.out]; omega) (fun y hy => by have := HLN.out y hy; omega)))
      go_wp2_with (fail)
      refine C5.out.mono ?_
      rintro e w2 ⟨rfl, hb2⟩
      have B2 := Lib.hid (B1.out.trans (hb2.mono B1.out.size))
      have H2 := Lib.hid (show IntsAt w.heap.size w2 (.slice a1 m1 c1) l from RowC.on H1.out hb2)
      have hl2 := B2.out.size
      clear C5 H1 B1 hb2
      go_upto_region 7 with (first
        | (at_builtin; go_must (refine app_int w2 rfl _ _ rfl w.heap.size (.slice a1 m1 c1) _ j rfl rfl H2.out hl2 (by rw [← HM1.out]; omega) ?_); intro v3 w3 h4 h5 h6; obtain ⟨a3, m3, c3, rfl, hm3⟩ := IntsAt.parts h4; have H3 := Lib.hid (show IntsAt w.heap.size w3 (.slice a3 m3 c3) P1 from by rw [HPE.out]; exact h4); have HM3 := Lib.hid (show P1.length = m3 from by rw [HPE.out]; exact hm3.out); have B3 := Lib.hid (B2.out.trans (h5.below (fun b hb => (RowC.lt H2.out b (mem_ownB.1 hb)).1) hl2)); have HB9 := Lib.hid (show decide ((m3 : Int) > most) = true from by rw [← HM3.out]; exact HBIG.out); have hb9 := HB9.out; clear h4 h5 h6 hm3)
        | fail)
      have hm3 : m3 ≤ N := by rw [← HM3.out]; exact HPL.out
      have hb9 : decide ((m3 : Int) > most) = true := by rw [← HM3.out]; exact HBIG.out
      have C6 := Lib.hid (CH.out w3 B3.out a3 m3 c3 P1 (H3.out.reads (by rw [HM3.out]; omega) (fun y hy => by have := HPI.out.2 y hy; omega)) (by omega))
      rw [← HNL.out] at C6
      obtain ⟨t1, t2, t3, t4, t5⟩ := HS.out w3 B3.out
      clear s1 s2 s3 s4 s5
      go_wp2_with (fail)
      refine C6.out.mono ?_
      rintro e w4 ⟨v4, rfl, hi4, hb4⟩
      obtain ⟨a4, m4, c4, rfl, -⟩ := IntsAt.parts hi4
      have B4 := Lib.hid (B3.out.trans (hb4.mono B3.out.size))
      have H4 := Lib.hid (show IntsAt w.heap.size w4 (.slice a4 m4 c4) NL from RowC.mono hi4 B3.out.size)
      obtain ⟨s1, s2, s3, s4, s5⟩ := HS.out w4 B4.out
      clear hi4 hb4 C6 t1 t2 t3 t4 t5
      have hl4 := B4.out.size
      go_wp2_with (first
        | (at_builtin; go_must (refine app_one w4 rfl _ _ 38 46 rfl Try.underlying38 (.slice none 0 0) 24 lists_info11 rfl w.heap.size (.slice none 0 0) [] rfl (World.ownsRow_nil w4 w.heap.size _ 1) (some ⟨gl, 0, none⟩) P cl LS rfl HLSL.out (fun ha => (by cases ha)) (.inr ⟨gl, 0, rfl, HLS.out w4 B4.out⟩) HONE.out (by simp; omega) (by simp; omega) hl4 ?_); intro v5 w5 h3 h4; simp only [List.nil_append, HLSL.out] at h3; obtain ⟨g5, c5, rfl, hg5, hg5l, hc5, hf5⟩ := own_slice1 h3 (by omega); have h5 := ((Kept.refl [] w4).grown h4 fun q hq => (by cases hq)).below (B := w4.heap.size) (by simp) (Nat.le_refl _); have B5 := Lib.hid (B4.out.trans (h5.mono hl4)); have H5 := Lib.hid (show IntsAt w.heap.size w5 (.slice a4 m4 c4) NL from RowC.on H4.out h5); have R5 := Lib.hid h3; have q0 : w5.cell? ⟨g5, k, none⟩ = some (.slice va vn vc) := (by rcases own_cells1 (show w5.ownsRow w.heap.size 46 1 _ LS.length LS from by rw [HLSL.out]; exact h3) with ⟨e, _⟩ | ⟨g2, c2, e, _, _, -, h8⟩; (cases e); (simp only [Value.slice.injEq, Option.some.injEq, Addr.mk.injEq] at e; obtain ⟨⟨rfl, _⟩, _⟩ := e; rw [h8 k (by rw [HLSL.out]; exact hkx), ← HLS.out w (Below.refl _ _) k hkx, Nat.zero_add]; exact (HS.out w (Below.refl _ _)).2.2.2.1)); have q1 := hf5 k; clear s1 s2 s3 s4 s5; obtain ⟨s1, s2, s3, s4, s5⟩ := HS.out w5 B5.out; have hgu5 : gu < w5.heap.size := (by have := HGU.out; have := B5.out.size; omega); have hne5 : ¬ g5 = gu := (by have := HGU.out; omega); have hne6 : ¬ g5 = g := (by have := HG0.out; omega); clear h3 h4 h5 hf5)
        | fail)
      have FF := Lib.hid (FIN.out (w5.setCell ⟨g5, k, none⟩ (.slice a4 m4 c4)) (B5.out.setCell (p := ⟨g5, k, none⟩) hg5 _) (.slice (some ⟨g5, 0, none⟩) P c5) (.slice a4 m4 c4) (own_set R5.out hkx _) (((Kept.refl [g5] w5).setCell ⟨g5, k, none⟩ _ (.inl (by simp))).own H5.out.own fun b hb hh => by
        simp at hh
        subst hh
        exact rows_apart H5.out.own R5.out (by decide) b hb rfl))
      go_wp2
      go_ret
      exact FF.out
    · have HBIG := Lib.hid (show decide ((P1.length : Int) > most) = false from decide_eq_false hbig)
      have HNL := Lib.hid (show NL = P1 from by rw [HLK.out, if_neg hbig])
      clear hbig
      have C3 := Lib.hid (fun (W : World) (a1 : Option Addr) (n1 c1 : Nat) (hR : Reads .i64 W a1 n1 (natsI l)) => rhas_any W a1 n1 c1 (natsI l) hR (j : Int) false (by rw [show decide ((j : Int) ∈ natsI l) = decide (j ∈ l) from decide_eq_decide.2 mem_natsI]; exact HJL.out))
      go_enter Try.func25, Try.ntmps25
      go_wp2_with (fail)
      refine C1.out.mono ?_
      rintro e w' ⟨rfl, hw⟩
      subst hw
      go_wp2_with (fail)
      refine C2.out.mono ?_
      rintro e w' ⟨rfl, hw⟩
      subst hw
      go_wp2_with (first
        | (at_builtin; go_must (refine app_one w rfl _ _ 46 3 rfl Try.underlying46 (.int .i64 0) 8 int_info11 rfl w.heap.size (.slice none 0 0) [] rfl (World.ownsRow_nil w w.heap.size _ 1) va vn vc (intsC l) rfl (by rw [List.length_map]; exact HVN.out) (fun ha => HSRC.out.1 ha) (by have h8 := HSRC.out.2 l.length (Nat.le_refl _); rw [List.take_length, HVN.out] at h8; exact h8) (ints_one _) (by simp; omega) (by simp; omega) (Nat.le_refl _) ?_); intro v1 w1 h3 h4; obtain ⟨a1, m1, c1, rfl, hm1⟩ := ownsRow_slice h3; have B1 := Lib.hid (((Kept.refl [] w).grown h4 fun q hq => (by cases hq)).below (by simp) (Nat.le_refl _)); have e1 : m1 = l.length := (by rw [hm1.out]; simp); have H1 := Lib.hid (show IntsAt w.heap.size w1 (.slice a1 m1 c1) l from IntsAt.mk (by have h5 := h3; simp only [List.nil_append] at h5; rw [List.length_map] at h5; exact h5)); have HM1 := Lib.hid e1; clear h3 h4 hm1 e1)
        | fail)
      have hm1 : m1 ≤ N := by
        have := HM1.out
        have := HVN.out
        omega
      have C5 := Lib.hid (C3.out w1 a1 m1 c1 (H1.out.reads (by rw [← HM1.out]; omega) (fun y hy => by have := HLN.out y hy; omega)))
      go_wp2_with (fail)
      refine C5.out.mono ?_
      rintro e w2 ⟨rfl, hb2⟩
      have B2 := Lib.hid (B1.out.trans (hb2.mono B1.out.size))
      have H2 := Lib.hid (show IntsAt w.heap.size w2 (.slice a1 m1 c1) l from RowC.on H1.out hb2)
      have hl2 := B2.out.size
      clear C5 H1 B1 hb2
      go_upto_region 7 with (first
        | (at_builtin; go_must (refine app_int w2 rfl _ _ rfl w.heap.size (.slice a1 m1 c1) _ j rfl rfl H2.out hl2 (by rw [← HM1.out]; omega) ?_); intro v3 w3 h4 h5 h6; obtain ⟨a3, m3, c3, rfl, hm3⟩ := IntsAt.parts h4; have H3 := Lib.hid (show IntsAt w.heap.size w3 (.slice a3 m3 c3) P1 from by rw [HPE.out]; exact h4); have HM3 := Lib.hid (show P1.length = m3 from by rw [HPE.out]; exact hm3.out); have B3 := Lib.hid (B2.out.trans (h5.below (fun b hb => (RowC.lt H2.out b (mem_ownB.1 hb)).1) hl2)); have HB9 := Lib.hid (show decide ((m3 : Int) > most) = false from by rw [← HM3.out]; exact HBIG.out); have hb9 := HB9.out; clear h4 h5 h6 hm3)
        | fail)
      have hm3 : m3 ≤ N := by rw [← HM3.out]; exact HPL.out
      have hb9 : decide ((m3 : Int) > most) = false := by rw [← HM3.out]; exact HBIG.out
      have B4 := B3
      have H4 := Lib.hid (show IntsAt w.heap.size w3 (.slice a3 m3 c3) NL from by rw [HNL.out]; exact H3.out)
      clear s1 s2 s3 s4 s5
      obtain ⟨s1, s2, s3, s4, s5⟩ := HS.out w3 B4.out
      have hl4 := B4.out.size
      go_wp2_with (first
        | (at_builtin; go_must (refine app_one w3 rfl _ _ 38 46 rfl Try.underlying38 (.slice none 0 0) 24 lists_info11 rfl w.heap.size (.slice none 0 0) [] rfl (World.ownsRow_nil w3 w.heap.size _ 1) (some ⟨gl, 0, none⟩) P cl LS rfl HLSL.out (fun ha => (by cases ha)) (.inr ⟨gl, 0, rfl, HLS.out w3 B4.out⟩) HONE.out (by simp; omega) (by simp; omega) hl4 ?_); intro v5 w5 h3 h4; simp only [List.nil_append, HLSL.out] at h3; obtain ⟨g5, c5, rfl, hg5, hg5l, hc5, hf5⟩ := own_slice1 h3 (by omega); have h5 := ((Kept.refl [] w3).grown h4 fun q hq => (by cases hq)).below (B := w3.heap.size) (by simp) (Nat.le_refl _); have B5 := Lib.hid (B4.out.trans (h5.mono hl4)); have H5 := Lib.hid (show IntsAt w.heap.size w5 (.slice a3 m3 c3) NL from RowC.on H4.out h5); have R5 := Lib.hid h3; have q0 : w5.cell? ⟨g5, k, none⟩ = some (.slice va vn vc) := (by rcases own_cells1 (show w5.ownsRow w.heap.size 46 1 _ LS.length LS from by rw [HLSL.out]; exact h3) with ⟨e, _⟩ | ⟨g2, c2, e, _, _, -, h8⟩; (cases e); (simp only [Value.slice.injEq, Option.some.injEq, Addr.mk.injEq] at e; obtain ⟨⟨rfl, _⟩, _⟩ := e; rw [h8 k (by rw [HLSL.out]; exact hkx), ← HLS.out w (Below.refl _ _) k hkx, Nat.zero_add]; exact (HS.out w (Below.refl _ _)).2.2.2.1)); have q1 := hf5 k; clear s1 s2 s3 s4 s5; obtain ⟨s1, s2, s3, s4, s5⟩ := HS.out w5 B5.out; have hgu5 : gu < w5.heap.size := (by have := HGU.out; have := B5.out.size; omega); have hne5 : ¬ g5 = gu := (by have := HGU.out; omega); have hne6 : ¬ g5 = g := (by have := HG0.out; omega); clear h3 h4 h5 hf5)
        | fail)
      have FF := Lib.hid (FIN.out (w5.setCell ⟨g5, k, none⟩ (.slice a3 m3 c3)) (B5.out.setCell (p := ⟨g5, k, none⟩) hg5 _) (.slice (some ⟨g5, 0, none⟩) P c5) (.slice a3 m3 c3) (own_set R5.out hkx _) (((Kept.refl [g5] w5).setCell ⟨g5, k, none⟩ _ (.inl (by simp))).own H5.out.own fun b hb hh => by
        simp at hh
        subst hh
        exact rows_apart H5.out.own R5.out (by decide) b hb rfl))
      go_wp2
      go_ret
      exact FF.out
theorem rlink_any (h : GrD T rs okI w lo g m u L) (hT : TOk T) (hm : m < 256) (hr : (graphV m L).Right) (a b level most : Int) :
    Calls Try.prog 25 #[.pointer (some ⟨g, 0, none⟩), .int .i64 a, .int .i64 b, .int .i64 level, .int .i64 most] w (RLinkPost T rs okI lo g m u L a b level most w) := by
  cases hz : (graphV m L).linkB a b level with
  | true => exact rlink_yes h hT hm hr a b level most hz
  | false => exact rlink_not h a b level most hz
end

theorem h_idx (b off n c i : Nat) (w : World) (hi : i < n) : (Instr.indexAt 46 (.slice (some ⟨b, off, none⟩) n c) (.int .i64 (i : Int))).run Try.prog w = .ok (.pointer (some ⟨b, off + i, none⟩)) w := by go_simp
theorem h_load (b off : Nat) (x : Int) (w : World) (h : w.cell? ⟨b, off, none⟩ = some (.int .i64 x)) : (Instr.loadAt 3 (.pointer (some ⟨b, off, none⟩))).run Try.prog w = .ok (.int .i64 x) w := by go_simp
theorem h_conv (x : Int) (w : World) (h : IntKind.u32.wrap x = x) : (convert 3 32 (.int .i64 x)).run Try.prog w = .ok (.int .u32 x) w := by go_simp
theorem h_build (d x : Int) (w : World) : (Instr.build 58 #[(0, .int .i64 d), (1, .int .u32 x)]).run Try.prog w = .ok (.agg #[.int .i64 d, .int .u32 x]) w := by go_simp
theorem h_alloc (w : World) : (Instr.alloc 58 true (.tuple #[])).run Try.prog w = .ok (.pointer (some ⟨w.heap.size, 0, none⟩)) (w.alloc (.cells #[.int .i64 0, .int .u32 0] 58)) := by go_simp
theorem h_store (bb : Nat) (d x : Int) (w : World) (hb : Blk w bb 58 [.int .i64 0, .int .u32 0]) :
    (Instr.storeAt 58 (.pointer (some ⟨bb, 0, none⟩)) (.agg #[.int .i64 d, .int .u32 x])).run Try.prog w = .ok () ((w.setCell ⟨bb, 0, none⟩ (.int .i64 d)).setCell ⟨bb, 1, none⟩ (.int .u32 x)) := by
  have f0 := hb.frozen 0
  have f1 := hb.frozen 1
  have c0 := hb.cell 0
  have c1 := hb.cell 1
  have l0 := hb.lt
  simp only [List.getElem?_cons_zero, List.getElem?_cons_succ] at c0 c1
  go_simp
section
variable {P : Program} {o : Oper} {a : Act} {K : Act → World → Prop} {Q : Exit → Act → World → Prop} {w w' : World}
theorem g_conv {t t' : TypeId} {x : Operand} {u v : Value} (ho : o.op = .convert t t' x) (hx : a.eval x = u) (hr : (convert t t' u).run P w = .ok v w) (h : K (a.put o.dst v) w) : o.wp P a w K Q := by
  unfold Oper.wp execOp
  simp only [ho, hx, Sem.run_bind, Sem.run_pure, hr, Result.andThen_ok]
  exact h
theorem g_alloc {t : TypeId} {v : Value} (ho : o.op = .alloc t) (hr : (Instr.alloc t true (.tuple #[])).run P w = .ok v w') (h : K (a.put o.dst v) w') : o.wp P a w K Q := by
  unfold Oper.wp execOp
  simp only [ho, Sem.run_bind, Sem.run_pure, hr, Result.andThen_ok]
  exact h
end
def factsH (g : Nat) (qa : Option Addr) (qn qc : Nat) (X : Value) (i b off B0 : Nat) (x d : Int) (j : Nat) (u : Value) (w : World) : Prop :=
  match j with
  | 0 => u = .pointer (some ⟨g, 0, none⟩)
  | 1 => u = .slice qa qn qc
  | 2 => u = X
  | 3 => u = .int .i64 (i : Int)
  | 4 => u = .pointer (some ⟨b, off + i, none⟩)
  | 5 => u = .int .i64 x
  | 6 => u = .int .i64 d
  | 7 => u = X
  | 8 => u = .int .i64 (i : Int)
  | 9 => u = .pointer (some ⟨b, off + i, none⟩)
  | 10 => u = .int .i64 x
  | 11 => u = .int .u32 x
  | 12 => u = .agg #[.int .i64 d, .int .u32 x]
  | 13 => ∃ bb, u = .pointer (some ⟨bb, 0, none⟩) ∧ B0 ≤ bb ∧ Blk w bb 58 [.int .i64 0, .int .u32 0]
  | _ => True
theorem factsH_on (g : Nat) (qa : Option Addr) (qn qc : Nat) (X : Value) (i b off B0 : Nat) (x d : Int) (j : Nat) (u : Value) (w w' : World) (h : factsH g qa qn qc X i b off B0 x d j u w) (hb : Below w.heap.size w w') : factsH g qa qn qc X i b off B0 x d j u w' := by
  match j, h with
  | 0, h => exact h
  | 1, h => exact h
  | 2, h => exact h
  | 3, h => exact h
  | 4, h => exact h
  | 5, h => exact h
  | 6, h => exact h
  | 7, h => exact h
  | 8, h => exact h
  | 9, h => exact h
  | 10, h => exact h
  | 11, h => exact h
  | 12, h => exact h
  | 13, h =>
    obtain ⟨bb, h1, h2, h3⟩ := h
    exact ⟨bb, h1, h2, h3.of_eq (hb.block bb h3.lt)⟩
  | _ + 14, _ => exact trivial
def dsH (s bs : Nat) (j : Nat) : Nat := if j < 13 then s + j else if j = 13 then bs else s + j + 1000000
set_option maxHeartbeats 3200000 in
theorem hit_region {rid : Nat} {ops : Array Oper} {Q : Exit → Act → World → Prop} {T0 : Array Value} (s bs xs js : Nat) (w0 : World) (g b off n c i : Nat) (qa : Option Addr) (qn qc : Nat) (x d : Int)
    (op0 : OpIs ops 0 (.move (.tmp 0)) (some s) [])
    (op1 : OpIs ops 1 (.move (.tmp 1)) (some (s + 1)) [])
    (op2 : OpIs ops 2 (.move (.tmp xs)) (some (s + 2)) [])
    (op3 : OpIs ops 3 (.move (.tmp js)) (some (s + 3)) [])
    (op4 : OpIs ops 4 (.indexAddr 46 (.tmp (s + 2)) (.tmp (s + 3))) (some (s + 4)) [2, 3])
    (op5 : OpIs ops 5 (.load 3 (.tmp (s + 4))) (some (s + 5)) [4])
    (op6 : OpIs ops 6 (.call { callee := .value (.func 50), args := #[.tmp s, .tmp (s + 1), .tmp (s + 5)], argTypes := #[27, 33, 3] }) (some (s + 6)) [0, 1, 5])
    (op7 : OpIs ops 7 (.move (.tmp xs)) (some (s + 7)) [])
    (op8 : OpIs ops 8 (.move (.tmp js)) (some (s + 8)) [])
    (op9 : OpIs ops 9 (.indexAddr 46 (.tmp (s + 7)) (.tmp (s + 8))) (some (s + 9)) [7, 8])
    (op10 : OpIs ops 10 (.load 3 (.tmp (s + 9))) (some (s + 10)) [9])
    (op11 : OpIs ops 11 (.convert 3 32 (.tmp (s + 10))) (some (s + 11)) [10])
    (op12 : OpIs ops 12 (.build 58 #[(0, .tmp (s + 6)), (1, .tmp (s + 11))]) (some (s + 12)) [6, 11])
    (op13 : OpIs ops 13 (.alloc 58) (some bs) [])
    (op14 : OpIs ops 14 (.store 58 (.tmp bs) (.tmp (s + 12))) none [12, 13])
    (hsize : ops.size = 15) (hb : edgesB ops = true) (hlead : leadsA ops (Array.replicate 15 false) 14 = true)
    (hT : s + 13 ≤ T0.size) (hbs : bs < s) (hxs : xs < s) (hjs : js < s) (hxb : xs ≠ bs) (hjb : js ≠ bs) (hb2 : 1 < bs)
    (t0 : T0[0]? = some (.pointer (some ⟨g, 0, none⟩))) (t1 : T0[1]? = some (.slice qa qn qc)) (tx : T0[xs]? = some (.slice (some ⟨b, off, none⟩) n c)) (tj : T0[js]? = some (.int .i64 (i : Int)))
    (hi : i < n) (hc : w0.cell? ⟨b, off + i, none⟩ = some (.int .i64 x)) (hlt : b < w0.heap.size) (hx : IntKind.u32.wrap x = x)
    (hF : ∀ W, Below w0.heap.size w0 W → Calls Try.prog 50 #[.pointer (some ⟨g, 0, none⟩), .slice qa qn qc, .int .i64 x] W fun e w' => e = .returned (.int .i64 d) ∧ Below W.heap.size W w')
    (hQ : ∀ E w' bb, E 13 = .pointer (some ⟨bb, 0, none⟩) → w0.heap.size ≤ bb → Blk w' bb 58 [.int .i64 d, .int .u32 x] → Below w0.heap.size w0 w' → Q .normal ⟨filledR T0 (dsH s bs) E 14, []⟩ w') :
    (Code.region rid ops true).wp Try.prog Q ⟨T0, []⟩ w0 := by
  obtain ⟨X, hX⟩ : ∃ X, Value.slice (some ⟨b, off, none⟩) n c = X := ⟨_, rfl⟩
  rw [hX] at tx
  have hnone : ∀ i, (Array.replicate 15 false).getD i false = false := fun i => by
    rw [Array.getD_eq_getD_getElem?, Array.getElem?_replicate]
    split <;> rfl
  have hds : ∀ p, p < 14 → dsH s bs p < T0.size := fun p hp => by
    unfold dsH
    split
    · omega
    · rw [if_pos (by omega)]
      omega
  have hinj : ∀ p q, dsH s bs p = dsH s bs q → p = q := fun p q h => by
    unfold dsH at h
    split at h <;> split at h <;> (try split at h) <;> (try split at h) <;> omega
  refine wp_region_any (by kernel_rfl) ?_
  rw [hsize]
  have D0 : Below w0.heap.size w0 w0.drew := (Below.refl _ w0).drew
  refine wpAny_inv (fun l a w => l.size = ops.size ∧ ((l.getD 14 false = false ∧ a.tmps.size = T0.size ∧ a.defers = [] ∧ (∀ k, (∀ p, p < 14 → l.getD p false = true → dsH s bs p ≠ k) → a.tmps[k]? = T0[k]?) ∧ Below w0.heap.size w0 w ∧ (∀ q2 oq, ops[q2]? = some oq → l.getD q2 false = true → ∀ q, waits oq q = true → l.getD q false = true) ∧ (∀ p, p < 14 → l.getD p false = true → factsH g qa qn qc X i b off w0.heap.size x d p (a.tmps.getD (dsH s bs p) undef) w)) ∨ ((∀ p, p < 15 → l.getD p false = true) ∧ Q .normal a w))) (fun l a w h => h.1) (edges_of hb) ?_ ?_ 15 _ _ _ ?_ (by simp)
  · rintro l a w p o ⟨hs, hI⟩ ho hl hd K hK
    have hp : p < 15 := by rw [← hsize]; exact (Array.getElem?_eq_some_iff.1 ho).1
    have hil : p < l.size := by omega
    have hl' : l.getD p false = false := by
      rw [Array.getD_eq_getD_getElem?, Array.getElem?_eq_getElem hil] at hl ⊢
      exact hl
    have hset : ∀ k, (l.setIfInBounds p true).getD k false = (if p = k then true else l.getD k false) := fun k => getD_set hil
    rcases hI with ⟨h14, htz, hdf, hfar, hbl, hcls, hfact⟩ | ⟨hall, _⟩
    rotate_left
    · rw [hall p hp] at hl'
      cases hl'
    have hwd : ∀ q, waits o q = true → l.getD q false = true := waits_listed hd
    have ev : ∀ k v, T0[k]? = some v → k < s → k ≠ bs → a.eval (.tmp k) = v := fun k v hk h1 h2 => by
      show a.tmps.getD k undef = v
      rw [Array.getD_eq_getD_getElem?, hfar k fun q hq _ => by unfold dsH; split; omega; rw [if_pos (by omega)]; exact fun e => h2 e.symm, hk]
      rfl
    have e0 := ev 0 _ t0 (by omega) (by omega)
    have e1 := ev 1 _ t1 (by omega) (by omega)
    have ex := ev xs _ tx hxs hxb
    have ej := ev js _ tj hjs hjb
    have slot : ∀ q, q < 13 → l.getD q false = true → factsH g qa qn qc X i b off w0.heap.size x d q (a.eval (.tmp (s + q))) w := fun q hq hlq => by
      have h := hfact q (by omega) hlq
      unfold dsH at h
      rw [if_pos hq] at h
      exact h
    have hcw : w.cell? ⟨b, off + i, none⟩ = some (.int .i64 x) := (hbl.cell (p := ⟨b, off + i, none⟩) hlt).trans hc
    have nxt : p < 14 → ∀ v w', o.dst = some (dsH s bs p) → factsH g qa qn qc X i b off w0.heap.size x d p v w' → Below w.heap.size w w' → K (a.put o.dst v) w' := fun hp14 v w' hdst hf hbw => by
      rw [hdst]
      refine hK _ _ ⟨by simp [hs], .inl ⟨by rw [hset, if_neg (by omega)]; exact h14, by simp [Act.put, htz], by simp [Act.put, hdf], fun k hk => ?_, hbl.trans (hbw.mono hbl.size), fun q2 oq hoq hl2 q hw => ?_, fun q hq hlq => ?_⟩⟩
      · have h1 : dsH s bs p ≠ k := hk p hp14 (by rw [hset, if_pos rfl])
        rw [← hfar k fun q hq hlq => hk q hq (by rw [hset]; split <;> simp_all)]
        simp [Act.put, h1]
      · rw [hset] at hl2 ⊢
        split
        · rfl
        · by_cases hpq : p = q2
          · subst hpq
            rw [ho] at hoq
            obtain rfl := Option.some.inj hoq
            exact hwd q hw
          · rw [if_neg hpq] at hl2
            exact hcls q2 oq hoq hl2 q hw
      · rw [hset] at hlq
        by_cases hpq : p = q
        · subst hpq
          have e : (a.put (some (dsH s bs p)) v).tmps.getD (dsH s bs p) undef = v := by
            show (a.tmps.setIfInBounds (dsH s bs p) v).getD (dsH s bs p) undef = v
            rw [Array.getD_eq_getD_getElem?, Array.getElem?_setIfInBounds]
            simp [htz, hds p hp14]
          rw [e]
          exact hf
        · rw [if_neg hpq] at hlq
          have hne : dsH s bs p ≠ dsH s bs q := fun e => hpq (hinj _ _ e)
          have e : (a.put (some (dsH s bs p)) v).tmps.getD (dsH s bs q) undef = a.tmps.getD (dsH s bs q) undef := by
            show (a.tmps.setIfInBounds (dsH s bs p) v).getD (dsH s bs q) undef = _
            rw [Array.getD_eq_getD_getElem?, Array.getD_eq_getD_getElem?, Array.getElem?_setIfInBounds]
            simp [hne]
          rw [e]
          exact factsH_on _ _ _ _ _ _ _ _ _ _ _ _ _ _ _ (hfact q hq hlq) hbw
    have ds1 : ∀ q, q < 13 → dsH s bs q = s + q := fun q hq => by unfold dsH; rw [if_pos hq]
    have hcase : p = 0 ∨ p = 1 ∨ p = 2 ∨ p = 3 ∨ p = 4 ∨ p = 5 ∨ p = 6 ∨ p = 7 ∨ p = 8 ∨ p = 9 ∨ p = 10 ∨ p = 11 ∨ p = 12 ∨ p = 13 ∨ p = 14 := by omega
    rcases hcase with rfl | rfl | rfl | rfl | rfl | rfl | rfl | rfl | rfl | rfl | rfl | rfl | rfl | rfl | rfl
    · obtain ⟨hop, hdst, hgd, hL⟩ := op0.useA ho
      exact g_if hgd (g_move hop (nxt (by decide) _ _ (by rw [hdst, ds1 0 (by decide)]; rfl) e0 (Below.refl _ _)))
    · obtain ⟨hop, hdst, hgd, hL⟩ := op1.useA ho
      exact g_if hgd (g_move hop (nxt (by decide) _ _ (by rw [hdst, ds1 1 (by decide)]) e1 (Below.refl _ _)))
    · obtain ⟨hop, hdst, hgd, hL⟩ := op2.useA ho
      exact g_if hgd (g_move hop (nxt (by decide) _ _ (by rw [hdst, ds1 2 (by decide)]) ex (Below.refl _ _)))
    · obtain ⟨hop, hdst, hgd, hL⟩ := op3.useA ho
      exact g_if hgd (g_move hop (nxt (by decide) _ _ (by rw [hdst, ds1 3 (by decide)]) ej (Below.refl _ _)))
    · obtain ⟨hop, hdst, hgd, hL⟩ := op4.useA ho
      exact g_if hgd (g_index hop ((slot 2 (by decide) (hwd 2 (hL 2 (by simp)))).trans hX.symm) (slot 3 (by decide) (hwd 3 (hL 3 (by simp)))) (h_idx b off n c i w hi) (nxt (by decide) _ _ (by rw [hdst, ds1 4 (by decide)]) rfl (Below.refl _ _)))
    · obtain ⟨hop, hdst, hgd, hL⟩ := op5.useA ho
      exact g_if hgd (g_load hop (slot 4 (by decide) (hwd 4 (hL 4 (by simp)))) (h_load b (off + i) x w hcw) (nxt (by decide) _ _ (by rw [hdst, ds1 5 (by decide)]) rfl (Below.refl _ _)))
    · obtain ⟨hop, hdst, hgd, hL⟩ := op6.useA ho
      have f0 : a.eval (.tmp s) = _ := slot 0 (by decide) (hwd 0 (hL 0 (by simp)))
      have f1 : a.eval (.tmp (s + 1)) = _ := slot 1 (by decide) (hwd 1 (hL 1 (by simp)))
      have f5 : a.eval (.tmp (s + 5)) = _ := slot 5 (by decide) (hwd 5 (hL 5 (by simp)))
      refine g_if hgd (ga_call (enters_of Try.func50 (by kernel_rfl) rfl) hop (us := #[.pointer (some ⟨g, 0, none⟩), .slice qa qn qc, .int .i64 x]) (by simp [f0, f1, f5]) (hF w hbl) ?_)
      rintro e w' ⟨rfl, hb'⟩
      exact ⟨_, rfl, nxt (by decide) _ _ (by rw [hdst, ds1 6 (by decide)]) rfl hb'⟩
    · obtain ⟨hop, hdst, hgd, hL⟩ := op7.useA ho
      exact g_if hgd (g_move hop (nxt (by decide) _ _ (by rw [hdst, ds1 7 (by decide)]) ex (Below.refl _ _)))
    · obtain ⟨hop, hdst, hgd, hL⟩ := op8.useA ho
      exact g_if hgd (g_move hop (nxt (by decide) _ _ (by rw [hdst, ds1 8 (by decide)]) ej (Below.refl _ _)))
    · obtain ⟨hop, hdst, hgd, hL⟩ := op9.useA ho
      exact g_if hgd (g_index hop ((slot 7 (by decide) (hwd 7 (hL 7 (by simp)))).trans hX.symm) (slot 8 (by decide) (hwd 8 (hL 8 (by simp)))) (h_idx b off n c i w hi) (nxt (by decide) _ _ (by rw [hdst, ds1 9 (by decide)]) rfl (Below.refl _ _)))
    · obtain ⟨hop, hdst, hgd, hL⟩ := op10.useA ho
      exact g_if hgd (g_load hop (slot 9 (by decide) (hwd 9 (hL 9 (by simp)))) (h_load b (off + i) x w hcw) (nxt (by decide) _ _ (by rw [hdst, ds1 10 (by decide)]) rfl (Below.refl _ _)))
    · obtain ⟨hop, hdst, hgd, hL⟩ := op11.useA ho
      exact g_if hgd (g_conv hop (slot 10 (by decide) (hwd 10 (hL 10 (by simp)))) (h_conv x w hx) (nxt (by decide) _ _ (by rw [hdst, ds1 11 (by decide)]) rfl (Below.refl _ _)))
    · obtain ⟨hop, hdst, hgd, hL⟩ := op12.useA ho
      have f6 : a.eval (.tmp (s + 6)) = _ := slot 6 (by decide) (hwd 6 (hL 6 (by simp)))
      have f11 : a.eval (.tmp (s + 11)) = _ := slot 11 (by decide) (hwd 11 (hL 11 (by simp)))
      exact g_if hgd (ga_build hop (us := #[(0, .int .i64 d), (1, .int .u32 x)]) (by simp [f6, f11]) (h_build d x w) (nxt (by decide) _ _ (by rw [hdst, ds1 12 (by decide)]) rfl (Below.refl _ _)))
    · obtain ⟨hop, hdst, hgd, hL⟩ := op13.useA ho
      exact g_if hgd (g_alloc hop (h_alloc w) (nxt (by decide) _ _ (by rw [hdst]; unfold dsH; rw [if_neg (by decide), if_pos rfl]) (show ∃ bb, _ = _ ∧ _ from ⟨w.heap.size, rfl, hbl.size, Blk.new w _ _⟩) ((Below.refl _ w).alloc (Nat.le_refl _) _)))
    · obtain ⟨hop, hdst, hgd, hL⟩ := op14.useA ho
      have f12 : a.eval (.tmp (s + 12)) = _ := slot 12 (by decide) (hwd 12 (hL 12 (by simp)))
      obtain ⟨bb, f13, hbb, hblk⟩ := hfact 13 (by decide) (hwd 13 (hL 13 (by simp)))
      have f13' : a.eval (.tmp bs) = .pointer (some ⟨bb, 0, none⟩) := by
        unfold dsH at f13
        rw [if_neg (by decide), if_pos rfl] at f13
        exact f13
      have hall : ∀ q, q < 14 → l.getD q false = true := by
        have key : ∀ k q, 14 - q = k → q < 14 → l.getD q false = true := by
          intro k
          induction k using Nat.strongRecOn with
          | ind k ih =>
            intro q hk hq
            obtain ⟨q2, oq, hq1, hq2, hoq, hw⟩ := leadsA_of hlead q hq (hnone q)
            rcases Nat.lt_or_eq_of_le hq2 with hlt2 | rfl
            · have h1 := ih (14 - q2) (by omega) q2 rfl hlt2
              exact hcls q2 oq hoq h1 q hw
            · rw [ho] at hoq
              obtain rfl := Option.some.inj hoq
              exact hwd q hw
        exact fun q hq => key _ q rfl hq
      refine g_if hgd (ga_store hop f13' f12 (h_store bb d x w hblk) ?_)
      rw [hdst]
      refine hK _ _ ⟨by simp [hs], .inr ⟨fun q hq => ?_, ?_⟩⟩
      · rw [hset]
        split
        · rfl
        · exact hall q (by omega)
      · have e := filledR_eq (ds := dsH s bs) 14 htz (fun k hk => hfar k fun q hq _ => hk q hq)
        have e2 : a.put none undef = ⟨filledR T0 (dsH s bs) (fun q => a.tmps.getD (dsH s bs q) undef) 14, []⟩ := by
          show a = _
          cases a
          simp only at e hdf
          rw [← e, hdf]
        rw [e2]
        have hbl2 : Below w0.heap.size w0 ((w.setCell ⟨bb, 0, none⟩ (.int .i64 d)).setCell ⟨bb, 1, none⟩ (.int .u32 x)) := (hbl.setCell (p := ⟨bb, 0, none⟩) hbb _).setCell (p := ⟨bb, 1, none⟩) hbb _
        exact hQ _ _ bb f13 hbb ((hblk.set 0 _).set 1 _) hbl2
  · rintro l a w ⟨hs, hI⟩ hall
    rcases hI with ⟨h14, _⟩ | ⟨_, hq⟩
    · rw [hall 14 (by rw [hsize]; decide)] at h14
      cases h14
    · exact hq
  · refine ⟨by simp [hsize], .inl ⟨hnone _, rfl, rfl, fun _ _ => rfl, D0, fun q2 _ _ h => ?_, fun p _ h => ?_⟩⟩
    · rw [hnone q2] at h
      cases h
    · rw [hnone p] at h
      cases h

/-- A slice of hits that reads, its block one of hits. -/
structure WR (lo : Nat) (w : World) (a : Option Addr) (n c : Nat) (xs : List Hit) : Prop where
  rd : HReads w a n xs
  room : Hid (n ≤ c)
  at_ : ∀ ad, a = some ad → lo ≤ ad.block ∧ ad.block < w.heap.size ∧ ∃ es fr, w.heap[ad.block]? = some (.cells es 58 fr)
theorem WR.own {lo : Nat} {w : World} {a : Option Addr} {n c : Nat} {xs : List Hit} (h : OwnB w lo (.slice a n c) xs) (hs : xs.length ≤ 1000000) : WR lo w a n c xs := by
  refine ⟨HReads.of_own h.own hs, ?_, fun ad had => ?_⟩
  · rcases h.own.form with ⟨h1, _⟩ | ⟨g, cap, rest, h1, _, h2, _⟩
    · simp at h1
      show n ≤ c
      omega
    · simp at h1
      show n ≤ c
      omega
  · subst had
    rcases h.own.form with ⟨h1, _⟩ | ⟨g, cap, rest, h1, h2, _⟩
    · simp at h1
    · simp only [Value.slice.injEq, Option.some.injEq] at h1
      obtain ⟨rfl, -, -⟩ := h1
      exact ⟨h.new g rfl, h2.lt, _, _, h2⟩
theorem WR.kept {lo : Nat} {w w' : World} {a : Option Addr} {n c : Nat} {xs : List Hit} {F : List Nat} (h : WR lo w a n c xs) (hk : Kept F w w') (hF : ∀ ad, a = some ad → ad.block ∉ F) : WR lo w' a n c xs := by
  refine ⟨⟨h.rd.len, h.rd.small, ?_⟩, h.room, fun ad had => ?_⟩
  · rcases h.rd.cells with h0 | ⟨b, off, rfl, hlt, hc⟩
    · exact .inl h0
    · have hb := hF ⟨b, off, none⟩ rfl
      refine .inr ⟨b, off, rfl, Nat.lt_of_lt_of_le hlt hk.size, fun i hi => ?_⟩
      rw [hk.cell (p := ⟨b, off + i * 2, none⟩) hlt hb, hk.cell (p := ⟨b, off + i * 2 + 1, none⟩) hlt hb]
      exact hc i hi
  · obtain ⟨h1, h2, es, fr, h3⟩ := h.at_ ad had
    exact ⟨h1, Nat.lt_of_lt_of_le h2 hk.size, es, fr, (hk.block _ h2 (hF ad had)).trans h3⟩
theorem WR.on {lo : Nat} {w w' : World} {a : Option Addr} {n c : Nat} {xs : List Hit} (h : WR lo w a n c xs) (hb : Below w.heap.size w w') : WR lo w' a n c xs := h.kept (F := []) (Kept.of_below hb (Nat.le_refl _)) (by simp)
theorem WR.apart {lo lo' : Nat} {w : World} {a : Option Addr} {n c : Nat} {xs : List Hit} {v : Value} {l : List Nat} (h : WR lo w a n c xs) (hv : IntsAt lo' w v l) : ∀ ad, a = some ad → ad.block ∉ ownB v := fun ad had hh => by
  obtain ⟨-, -, es, fr, h3⟩ := h.at_ ad had
  have hb := mem_ownB.1 hh
  rcases hv.2.2 with ⟨h1, _⟩ | ⟨g, cap, cur, h1, _, h2, _⟩
  · rw [h1] at hb
    cases hb
  · rw [h1] at hb
    cases hb
    rw [h3] at h2
    simp only [Option.some.injEq, Obj.cells.injEq] at h2
    exact absurd h2.2.1 (by decide)
theorem hit_sz2 : (Try.prog.info? 58).map (·.size) = some 2 := by kernel_rfl
theorem WR.tail {lo : Nat} {w : World} {a : Option Addr} {m c : Nat} {x : Hit} {xs : List Hit} (h : WR lo w a (m + 1) c (x :: xs)) :
    ∃ a2 c2, (∀ W, (Instr.slice 48 (.slice a (m + 1) c) (some (.int .i64 1)) none none).run Try.prog W = .ok (.slice a2 m c2) W) ∧ WR lo w a2 m c2 xs := by
  have hroom := h.room.out
  rcases h.rd.cells with h0 | ⟨b, off, rfl, hlt, hc⟩
  · omega
  have hl := h.rd.len
  simp only [List.length_cons] at hl
  refine ⟨if c = 1 then some ⟨b, off, none⟩ else some ⟨b, off + 2, none⟩, c - 1, fun W => ?_, ⟨by omega, by have := h.rd.small; omega, ?_⟩, ?_, fun ad had => ?_⟩
  · have hs : (sizeOf (Try.prog.elem 48)).run Try.prog W = .ok 2 W := by
      have he : Try.prog.elem 48 = 58 := by kernel_rfl
      rw [he]
      exact hit_sz11 W
    rw [run_slice_l (P := Try.prog) W 48 (some ⟨b, off, none⟩) (m + 1) c (by kernel_rfl) .i64 1 (by omega) (by omega), hs]
    simp [Result.andThen, sliced, Addr.add]

  · by_cases hm : m = 0
    · exact .inl hm
    · refine .inr ⟨b, off + 2, by rw [if_neg (by omega)], hlt, fun i hi => ?_⟩
      have := hc (i + 1) (by omega)
      rw [show off + (i + 1) * 2 = off + 2 + i * 2 by omega] at this
      simpa [List.getD] using this
  · show m ≤ c - 1
    omega
  · have := h.at_ ⟨b, off, none⟩ rfl
    split at had <;> (obtain rfl := Option.some.inj had; exact this)
end Go.Proofs.Ytdfpfgkfmjehiaa
