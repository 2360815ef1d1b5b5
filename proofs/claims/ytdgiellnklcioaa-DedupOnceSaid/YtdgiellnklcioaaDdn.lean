/-
  DedupOnce holds: each number is Fresh once, in order; from then on it is Again with its answer, till it is Past for ever; never are more answers kept than may be. For every list of ops.
-/
import Derived.Test.YtdgiellnklcioaaRows
import Derived.Test.YtdgiellnklcioaaDdl
import Derived.Deep.RegionLaw
import Derived.Test.YtdgiellnklcioaaFr
namespace Go.Proofs.Ytdgiellnklcioaa
open Go.ChangeShapes Go.WideShapes Go.ChangeAt Go.RowKit Go.Maps

/-- What the law keeps: the table beside the verdicts that it told. -/
structure Once (w0 : World) (x : Nat) (v : Value) (vs : List Nat) (t : TV) (w : World) : Prop where
  tab : At16 w0 (ownB v) x t w
  row : OwnV w w0.heap.size 49 v vs
  len : vs.length = t.L.length
  two : ∀ (k z : Nat), vs[k]? = some z → z = 2 ∨ (z = 3 ∧ k + 1 ≤ t.acked)
  num : ∀ k, k < t.L.length → (t.L.getD k (zeroM 0)).n = k + 1
section
variable {w0 w w' : World} {x : Nat} {v : Value} {vs : List Nat} {t : TV}
theorem Once.on (h : Once w0 x v vs t w) (hb : Below w.heap.size w w') : Once w0 x v vs t w' := ⟨h.tab.on hb, h.row.on hb, h.len, h.two, h.num⟩
theorem Once.keep (h : Once w0 x v vs t w) {v' : Value} {w1 : World} {d1 : Nat} (hd : d1 = t.L.length + 1) (h1 : At16 w0 (ownB v) x ⟨t.L ++ [(nL d1).toM], t.acked⟩ w1) (hr : OwnV w' w0.heap.size 49 v' (vs ++ [2])) (hk : Kept (ownB v) w1 w') (hg : Grows w1 (ownB v) (ownB v')) : Once w0 x v' (vs ++ [2]) ⟨t.L ++ [(nL d1).toM], t.acked⟩ w' := by
  have hF : ∀ k ∈ ownB v, k ∈ ownB v ∧ w0.heap.size ≤ k := fun k hk => ⟨hk, (h.row.lt k (mem_ownB.1 hk)).1⟩
  have g1 : At16 w0 (ownB v') x ⟨t.L ++ [(nL d1).toM], t.acked⟩ w' := by
    have h2 := h1.kept hk hF
    obtain ⟨⟨b, Ms, d, e⟩, hB⟩ := h1
    obtain ⟨⟨b', Ms', d', e'⟩, hB'⟩ := h2
    refine ⟨⟨b, Ms, ?_, e⟩, hB'⟩
    have dk := d.kept hk (fun k hk => .inl hk)
    have hx := d.blk.lt
    have hb := d.map.lt
    exact ⟨dk.blk, dk.map, d.len, d.few, d.most, fun m hm => (d.each m hm).stay hk.size (fun k ho hlt => hk.block k hlt ho.2.2.2) (fun k ho hlt => ⟨ho.1, ho.2.1, ho.2.2.1, fun hgg => by
      rcases hg k hgg with h1 | h1
      · exact ho.2.2.2 h1
      · omega⟩), fun hgg => by
      rcases hg x hgg with h1 | h1
      · exact d.gx h1
      · omega, fun hgg => by
      rcases hg b hgg with h1 | h1
      · exact d.gb h1
      · omega, d.lx, d.lb, fun g hgg => (hr.lt g (mem_ownB.1 hgg)).2⟩
  refine ⟨g1, hr, by simp [h.len], fun k z hz => ?_, fun k hk => ?_⟩
  · by_cases hlt : k < vs.length
    · rw [List.getElem?_append_left hlt] at hz
      exact h.two k z hz
    · rw [List.getElem?_append_right (by omega)] at hz
      have : k - vs.length = 0 := by
        have := (List.getElem?_eq_some_iff.1 hz).1
        simp at this
        omega
      rw [this] at hz
      simp at hz
      exact .inl hz.symm
  · show ((t.L ++ [(nL d1).toM]).getD k (zeroM 0)).n = k + 1
    have hk' : k < t.L.length + 1 := by simpa using hk
    rw [List.getD_eq_getElem?_getD]
    by_cases hlt : k < t.L.length
    · rw [List.getElem?_append_left hlt, ← List.getD_eq_getElem?_getD]
      exact h.num k hlt
    · rw [show k = t.L.length by omega, List.getElem?_append_right (Nat.le_refl _), Nat.sub_self]
      show (nL d1).toM.n = _
      rw [← hd]
      rfl
theorem Once.ack (h : Once w0 x v vs t w) {n : Nat} (h1 : At16 w0 (ownB v) x (t.ack n).2 w') (hs : Spare w0.heap.size (ownB v) w w') : Once w0 x v vs (t.ack n).2 w' := by
  have hL : (t.ack n).2.L = t.L := by unfold TV.ack; split <;> rfl
  have hA : t.acked ≤ (t.ack n).2.acked := by
    unfold TV.ack
    split
    · exact Nat.le_refl _
    · exact Nat.le_max_left _ _
  have hr : OwnV w' w0.heap.size 49 v vs := by
    obtain ⟨hr, hb⟩ := h.row
    refine ⟨⟨hr.1, ?_⟩, hb⟩
    rcases hr.2 with h2 | ⟨g, cap, cur, rfl, h3, h4, h5⟩
    · exact .inl h2
    · exact .inr ⟨g, cap, cur, rfl, h3, (hs.g g (mem_ownB.2 rfl) (Array.getElem?_eq_some_iff.1 h4).1).trans h4, h5⟩
  exact ⟨h1, hr, by rw [hL]; exact h.len, fun k z hz => (h.two k z hz).imp id (fun hh => ⟨hh.1, Nat.le_trans hh.2 hA⟩), by rw [hL]; exact h.num⟩
theorem Once.put {g n c k z : Nat} (h : Once w0 x (.slice (some ⟨g, 0, none⟩) n c) vs t w) (hz : z = 2 ∨ (z = 3 ∧ k + 1 ≤ t.acked)) : Once w0 x (.slice (some ⟨g, 0, none⟩) n c) (vs.set k z) t (w.setCell ⟨g, k, none⟩ (.int .u8 (z : Int))) := by
  have hk : Kept (ownB (.slice (some ⟨g, 0, none⟩) n c)) w (w.setCell ⟨g, k, none⟩ (.int .u8 (z : Int))) := (Kept.refl _ _).setCell _ _ (.inl (mem_ownB.2 rfl))
  have hF : ∀ j ∈ ownB (.slice (some ⟨g, 0, none⟩) n c), j ∈ ownB (.slice (some ⟨g, 0, none⟩) n c) ∧ w0.heap.size ≤ j := fun j hj => ⟨hj, (h.row.lt j (mem_ownB.1 hj)).1⟩
  refine ⟨h.tab.kept hk hF, h.row.set k z (by omega), by rw [List.length_set]; exact h.len, fun j y hj => ?_, h.num⟩
  by_cases hjk : j = k
  · subst hjk
    rw [List.getElem?_set_self (by
      have := (List.getElem?_eq_some_iff.1 hj).1
      simpa using this)] at hj
    simp only [Option.some.injEq] at hj
    subst hj
    exact hz
  · rw [List.getElem?_set_ne (fun e => hjk e.symm)] at hj
    exact h.two j y hj
end
theorem own_len {w : World} {B n : Nat} {ty : TypeId} {a : Option Addr} {c : Nat} {bs : List Nat} (h : OwnV w B ty (.slice a n c) bs) : bs.length = n := by
  obtain ⟨_, _, _, e, hn⟩ := h.parts
  simp only [Value.slice.injEq] at e
  rw [e.2.1]
  exact hn.out
theorem ask_behind (t : TV) (k : Nat) (h : k < t.L.length) : (k + 1 ≤ t.acked ∧ (t.ask (k + 1)).2 = 3) ∨ (¬ k + 1 ≤ t.acked ∧ (t.ask (k + 1)).2 = 2 ∧ (t.ask (k + 1)).1 = t.L.getD k (zeroM 0)) := by
  unfold TV.ask
  by_cases ha : k + 1 ≤ t.acked
  · rw [if_pos ha]
    exact .inl ⟨ha, rfl⟩
  · rw [if_neg ha, if_pos (by omega)]
    exact .inr ⟨ha, rfl, rfl⟩
theorem ask_fresh (t : TV) (h : t.acked ≤ t.L.length) : (t.ask (t.L.length + 1)).2 = 1 := by
  unfold TV.ask
  rw [if_neg (by omega), if_neg (by omega), if_pos rfl]
set_option maxRecDepth 100000 in
set_option maxHeartbeats 6400000 in
theorem once_walk (a : Option Addr) (n c : Nat) (xs : List shOp16.T) (w0 : World) (hx : Rd (· < w0.heap.size) w0 shOps16 [.slice a n c] xs) : Calls Try.prog 4 #[.slice a n c] w0 fun e w' => e = .returned (.bool true) ∧ Below w0.heap.size w0 w' := by
  obtain ⟨Z, hZ⟩ : ∃ Z, (zeroL 0).cells.toArray = Z := ⟨_, rfl⟩
  have hz := msg_zero
  rw [hZ] at hz
  have hb1 := msg_ne hZ
  have hb4 := msg_28 hZ
  have HZ := Lib.hid hZ
  obtain ⟨ZO, hZO⟩ : ∃ Z, zeroO.toArray = Z := ⟨_, rfl⟩
  have hzo := op_zero16
  rw [hZO] at hzo
  have hzo1 : (ZO = #[]) = False := by rw [← hZO]; simp [zeroO, opC]
  have hzo2 : ZO.size = 30 := by rw [← hZO]; rfl
  have HX := Lib.hid hx
  clear hZ hZO hx
  go_enter Try.func4, Try.ntmps4
  go_wp2_with (fail)
  refine (alive16 w0).mono ?_
  rintro e w1 ⟨rfl, hb⟩
  have B1 := Lib.hid hb
  clear hb
  go_wp2_with (fail)
  refine (a_new w0 w1 B1.out).mono ?_
  rintro e w2 ⟨x, rfl, h2, -⟩
  have H2 := Lib.hid (show Once w0 x (.slice none 0 0) [] ⟨[], 0⟩ w2 from ⟨h2, OwnV.nil _ _ _, rfl, by simp, by simp⟩)
  clear h2 B1
  go_wp2_with (fail)
  go_loopw [4, 5] (fun s4 s5 wr => ∃ (i : Nat) (q : SlL) (vs : List Nat) (t : TV), s5 = .int .i64 (i : Int) ∧ s4 = .slice q.a q.n q.c ∧ i ≤ 100 ∧ Hid (t.L.length ≤ i) ∧ Hid (Once w0 x (.slice q.a q.n q.c) vs t wr)) (fun _ s5 _ => 101 - (intOf s5).toNat)
  case atStart => exact ⟨0, .nil, [], ⟨[], 0⟩, rfl, rfl, by omega, Nat.le_refl _, H2.out⟩
  case round =>
    clear H2
    obtain ⟨i, ⟨va, vn, vc⟩, vs, t, rfl, rfl, hi, HLi, HO⟩ := hrel
    by_cases hin : i < n
    · by_cases hi100 : i < 100
      · obtain ⟨b, off, kind, far, m, rfl, hbl, hk8, hf32, -, hrg⟩ := rd_op16 HX.out i hin
        have HRG := Lib.hid (range_below hrg hbl HO.out.tab.2)
        have hblr : b < wr.heap.size := Nat.lt_of_lt_of_le hbl HO.out.tab.2.size
        obtain ⟨OA, hOA⟩ : ∃ O, (opC kind far m).toArray = O := ⟨_, rfl⟩
        have hOA1 : (OA = #[]) = False := by rw [← hOA]; simp [opC]
        have hOA2 : OA.size = 30 := by rw [← hOA]; rfl
        have hstO := op_store16 wr ZO kind far m hzo2
        rw [hOA] at hstO
        obtain ⟨w3, hw3⟩ : ∃ W, wr.alloc (.cells OA 47) = W := ⟨_, rfl⟩
        rw [hw3] at hstO
        have b3 : Below wr.heap.size wr w3 := by rw [← hw3]; exact (Below.refl _ _).alloc (Nat.le_refl _) _
        have hblk3 : Blk w3 wr.heap.size 47 (opC kind far m) := by rw [← hw3, ← hOA]; exact Blk.new wr 47 (opC kind far m).toArray
        have hlt3 := hblk3.lt
        have co0 : w3.cell? ⟨wr.heap.size, 0, none⟩ = some (.int .u8 (kind : Int)) := hblk3.cell 0
        have co1 : w3.cell? ⟨wr.heap.size, 1, none⟩ = some (.int .u32 (far : Int)) := hblk3.cell 1
        have HO3 := Lib.hid (HO.out.on b3)
        have HOA := Lib.hid hOA
        clear hOA hrg HO b3 hblk3 hbl
        obtain ⟨r, hr⟩ : ∃ r, kind % 2 = r := ⟨_, rfl⟩
        have hrt : Int.tmod (kind : Int) 2 = (r : Int) := by rw [← hr]; exact (Int.ofNat_tmod kind 2).symm
        have hr2 : r = 0 ∨ r = 1 := by omega
        clear hr
        rcases hr2 with rfl | rfl
        · have CD := Lib.hid (a_done HO3.out.tab)
          obtain ⟨d, hd⟩ : ∃ d, t.L.length = d := ⟨_, rfl⟩
          rw [hd] at CD
          obtain ⟨d1, hd1⟩ : ∃ d1, d + 1 = d1 := ⟨_, rfl⟩
          have hdw : IntKind.u32.wrap ((d : Int) + 1) = (d1 : Int) := by rw [IntKind.wrap_u32]; have := HLi.out; omega
          obtain ⟨MN, hMN⟩ : ∃ M, (nL d1).cells.toArray = M := ⟨_, rfl⟩
          have hb5 : Z.setIfInBounds 5 (.int .u32 (d1 : Int)) = MN := by rw [← HZ.out, ← hMN]; rfl
          have HMN := Lib.hid hMN
          have HD1 := Lib.hid (show d1 = t.L.length + 1 by omega)
          have CK := Lib.hid (a_keep HO3.out.tab d1 (by have := HLi.out; omega) (nL d1) (nL_in (by have := HLi.out; omega)))
          clear hMN hd hd1
          go_wp2_with (first | (refine wp_load_m wr (by rfl) 47 (.tmp 28) rfl b (off + i * 30) (opC kind far m) _ (by rfl) HRG.out Try.underlying47 rfl op_size16 ?_; rw [HOA.out]) | fail)
          refine CD.out.mono ?_
          rintro e w4 ⟨rfl, rfl⟩
          clear CD
          go_wp2_with (fail)
          rw [← HMN.out]
          refine CK.out.mono ?_
          by_cases hfull : 16 ≤ t.L.length - t.acked
          · rintro e w4 ⟨rfl, h4, hs4⟩
            have NX := keep_full (t := t) (req := d1) (a := (nL d1).toM) HD1.out (by have := HLi.out; omega) hfull
            rw [NX] at h4 ⊢
            have HQ := Lib.hid (show Once w0 x (.slice va vn vc) vs t w4 from by
              have := HO3.out.ack (n := 0) (w' := w4) (by rw [show (t.ack 0).2 = t from by rw [ack_ok (Nat.zero_le _)]; simp]; exact h4) hs4
              rw [show (t.ack 0).2 = t from by rw [ack_ok (Nat.zero_le _)]; simp] at this
              exact this)
            have HLL := Lib.hid (show t.L.length ≤ i + 1 by have := HLi.out; omega)
            obtain ⟨t2, ht2⟩ : ∃ t2, t = t2 := ⟨_, rfl⟩
            obtain ⟨vs2, hvs2⟩ : ∃ v2, vs = v2 := ⟨_, rfl⟩
            obtain ⟨va2, vn2, vc2, hva2, hvn2, hvc2⟩ : ∃ va2 vn2 vc2, va = va2 ∧ vn = vn2 ∧ vc = vc2 := ⟨_, _, _, rfl, rfl, rfl⟩
            rw [ht2] at HLL
            rw [ht2, hvs2, hva2, hvn2, hvc2] at HQ
            rw [hva2, hvn2, hvc2]
            clear h4 hs4 NX CK HO3 hb5 co0 co1 hfull HLi HMN HD1 ht2 hvs2 hva2 hvn2 hvc2
            go_wp2_with (fail)
            (try clear hstO hw3 hOA1 hOA2)
            have hfew := HQ.out.tab.1.facts
            obtain ⟨kn, hkn⟩ : ∃ kn, t2.L.length - t2.acked = kn := ⟨_, rfl⟩
            have hk16 : ¬ (16 : Int) < (kn : Int) := by omega
            have CL := Lib.hid (a_len HQ.out.tab)
            rw [hkn] at CL
            clear hkn hfew
            go_wp2_with (fail)
            refine CL.out.mono ?_
            rintro e we ⟨rfl, rfl⟩
            clear CL
            have HL := Lib.hid HQ.out.len
            have HVN := Lib.hid (own_len HQ.out.row)
            have hv101 : vn2 ≤ 101 := by have := HVN.out; have := HL.out; have := HLL.out; omega
            go_wp2_with (fail)
            clear hk16
            go_loopw [8] (fun s8 wr => ∃ (k : Nat) (vs' : List Nat), s8 = .int .i64 (k : Int) ∧ k ≤ vn2 ∧ Hid (vs'.length = vn2) ∧ Hid (Once w0 x (.slice va2 vn2 vc2) vs' t2 wr)) (fun s8 _ => vn2 - (intOf s8).toNat)
            case atStart => exact ⟨0, vs2, rfl, by omega, HVN.out, HQ.out⟩
            case round =>
              clear HQ
              obtain ⟨k, vs', rfl, hk, HV', HI⟩ := hrel
              by_cases hkv : k < vn2
              · obtain ⟨k1, hk1⟩ : ∃ k1, k + 1 = k1 := ⟨_, rfl⟩
                have hkw : IntKind.u32.wrap ((k : Int) + 1) = (k1 : Int) := by rw [IntKind.wrap_u32]; omega
                have HK1 := Lib.hid hk1
                have CK := Lib.hid (a_ask HI.out.tab k1 (by omega))
                have hkl : k < t2.L.length := by have := HVN.out; have := HL.out; omega
                have AB := Lib.hid (hk1 ▸ ask_behind t2 k hkl)
                have HNK := Lib.hid (HI.out.num k hkl)
                obtain ⟨g, cap, hva, hgl, hgs⟩ := HI.out.row.head (by have := HV'.out; omega)
                simp only [Value.slice.injEq] at hva
                obtain ⟨rfl, -, -⟩ := hva
                obtain ⟨z, hz⟩ : ∃ z, vs'[k]? = some z := ⟨_, List.getElem?_eq_getElem (by have := HV'.out; omega)⟩
                have HZ2 := Lib.hid (HI.out.two k z hz)
                have hzb : byteAt vs' k = z := by unfold byteAt; rw [List.getD_eq_getElem?_getD, hz]; rfl
                have HCF := Lib.hid (fun (wx : World) (hb : Below wr.heap.size wr wx) => show wx.cell? ⟨g, k, none⟩ = some (.int .u8 (z : Int)) ∧ wx.frozen? ⟨g, k, none⟩ = false from by
                  have := (HI.out.row.on hb).cellAt k (by have := HV'.out; omega)
                  rw [hzb] at this
                  exact this)
                clear hk1 hkl hz hzb hgl hk
                go_wp2_with (fail)
                refine CK.out.mono ?_
                rintro e w7 ⟨y, rfl, hb, -, hto⟩
                obtain ⟨Y, hY⟩ : ∃ Y, y.cells.toArray = Y := ⟨_, rfl⟩
                have hst := msg_store_new w7 Z y hb4
                rw [hY] at hst ⊢
                have hYn := msg_ne hY
                have hYs := msg_28 hY
                obtain ⟨w8, hw8⟩ : ∃ W, w7.alloc (.cells Y 45) = W := ⟨_, rfl⟩
                rw [hw8] at hst
                have hb' : Below wr.heap.size wr w8 := by rw [← hw8]; exact hb.alloc hb.size _
                have H8 := Lib.hid (HI.out.on hb')
                have HA := Lib.hid (show Blk w8 w7.heap.size 45 y.cells from by rw [← hw8, ← hY]; exact Blk.new w7 45 y.cells.toArray)
                obtain ⟨cz, fz⟩ := HCF.out w8 hb'
                have HTO := Lib.hid hto
                have HBX := Lib.hid hb'
                clear hto hY hb hb' CK HI HCF
                have HVS := Lib.hid (show ∀ q, (vs'.set k q).length = vn2 from fun q => by rw [List.length_set]; exact HV'.out)
                rcases AB.out with ⟨hka, hv⟩ | ⟨hka, hv, ha1⟩
                · rw [hv]
                  have H9 := Lib.hid (H8.out.put (k := k) (z := 3) (.inr ⟨rfl, by rw [HK1.out]; exact hka⟩))
                  rcases HZ2.out with rfl | ⟨rfl, -⟩
                  all_goals
                    clear hka hv AB HTO HA HZ2 H8
                    go_wp2_with (fail)
                    try clear hst hw8 hYn hYs
                    go_wp2
                    go_roundw
                    case rel => exact ⟨k + 1, _, by go_num, by omega, HVS.out 3, H9.out⟩
                    case measure => simp [intOf]; omega
                · rw [hv]
                  have H9 := Lib.hid (H8.out.put (k := k) (z := 2) (.inl rfl))
                  have ca : w8.cell? ⟨w7.heap.size, 5, none⟩ = some (.int .u32 (k1 : Int)) := by
                    have h1 : w8.cell? ⟨w7.heap.size, 5, none⟩ = some (.int .u32 (y.n : Int)) := HA.out.cell 5
                    have h2 : y.n = k1 := (show y.toM.n = k1 from by rw [HTO.out, ha1, HNK.out]; exact HK1.out)
                    rw [h2] at h1
                    exact h1
                  rcases HZ2.out with rfl | ⟨-, hz3⟩
                  · clear hka hv AB HTO HA HZ2 H8 ha1
                    go_wp2_with (fail)
                    try clear hst hw8 hYn hYs
                    go_wp2
                    go_roundw
                    case rel => exact ⟨k + 1, _, by go_num, by omega, HVS.out 2, H9.out⟩
                    case measure => simp [intOf]; omega
                  · exact absurd (by rw [← HK1.out]; exact hz3) hka
              · have hkv' : k = vn2 := by omega
                have HKV := Lib.hid hkv'
                obtain ⟨d1, hd1⟩ : ∃ d1, vn2 + 1 = d1 := ⟨_, rfl⟩
                have hdw : IntKind.u32.wrap ((vn2 : Int) + 1) = (d1 : Int) := by rw [IntKind.wrap_u32]; omega
                have CK := Lib.hid (a_ask HI.out.tab d1 (by omega))
                have AF := Lib.hid (show (t2.ask d1).2 = 1 from by
                  rw [show d1 = t2.L.length + 1 by have := HVN.out; have := HL.out; omega]
                  exact ask_fresh t2 HI.out.tab.1.facts.1)
                clear hd1 hkv'
                go_wp2_with (fail)
                refine CK.out.mono ?_
                rintro e w7 ⟨y, rfl, hb, -, hto⟩
                rw [AF.out]
                obtain ⟨Y, hY⟩ : ∃ Y, y.cells.toArray = Y := ⟨_, rfl⟩
                have hst := msg_store_new w7 Z y hb4
                rw [hY] at hst ⊢
                have hYn := msg_ne hY
                have hYs := msg_28 hY
                obtain ⟨w8, hw8⟩ : ∃ W, w7.alloc (.cells Y 45) = W := ⟨_, rfl⟩
                rw [hw8] at hst
                have hb' : Below wr.heap.size wr w8 := by rw [← hw8]; exact hb.alloc hb.size _
                have H8 := Lib.hid (HI.out.on hb')
                clear hto hY hb hb' CK HI AF
                go_wp2_with (fail)
                try clear hst hw8 hYn hYs
                go_wp2
                go_roundw
                case rel => exact ⟨i + 1, ⟨va2, vn2, vc2⟩, _, t2, by go_num, rfl, by omega, HLL.out, H8.out⟩
                case measure => simp [intOf]; omega
          · rintro e w4 ⟨rfl, h4, hs4⟩
            have NX := keep_ok (t := t) (req := d1) (a := (nL d1).toM) HD1.out (by have := HLi.out; omega) (by omega)
            rw [NX] at h4 ⊢
            have HR4 := Lib.hid (show OwnV w4 w0.heap.size 49 (.slice va vn vc) vs from by
              have := HO3.out.row
              refine ⟨⟨this.1.1, ?_⟩, this.2⟩
              rcases this.1.2 with h2 | ⟨g, cap, cur, e1, h3, h4, h5⟩
              · exact .inl h2
              · exact .inr ⟨g, cap, cur, e1, h3, (hs4.g g (mem_ownB.2 (by rw [e1]; rfl)) (Array.getElem?_eq_some_iff.1 h4).1).trans h4, h5⟩)
            have HVL := Lib.hid (show vs.length ≤ 2000000 by have := HO3.out.len; have := HLi.out; omega)
            have HB4 := Lib.hid h4.2.size
            have H4 := Lib.hid h4
            have HLL := Lib.hid (show (t.L ++ [(nL d1).toM]).length ≤ i + 1 by rw [List.length_append]; have := HLi.out; simp; omega)
            clear h4 hs4 NX CK hb5 co0 co1 hfull HLi HMN
            go_wp2_with (first
              | (at_builtin; go_must (refine app_byteK w4 rfl (.tmp 43) (.tmp 44) 63 49 rfl Try.underlying63 ver_info w0.heap.size (.slice va vn vc) vs 2 (by decide) rfl rfl HR4.out HB4.out HVL.out ?_))
              | fail)
            (try clear hstO hw3 hOA1 hOA2)
            intro v5 w5 ho5 hk5 hg5
            have HQ := Lib.hid (HO3.out.keep HD1.out H4.out ho5 hk5 hg5)
            obtain ⟨va2, vn2, vc2, rfl, -⟩ := ho5.parts
            obtain ⟨t2, ht2⟩ : ∃ t2 : TV, ⟨t.L ++ [(nL d1).toM], t.acked⟩ = t2 := ⟨_, rfl⟩
            have HLL := Lib.hid (show t2.L.length ≤ i + 1 from by rw [← ht2]; exact HLL.out)
            obtain ⟨vs2, hvs2⟩ : ∃ v2, vs ++ [2] = v2 := ⟨_, rfl⟩
            rw [ht2, hvs2] at HQ
            clear ho5 hk5 hg5 HR4 HVL HB4 H4 HD1 HO3 ht2 hvs2
            go_wp2_with (fail)
            have hfew := HQ.out.tab.1.facts
            obtain ⟨kn, hkn⟩ : ∃ kn, t2.L.length - t2.acked = kn := ⟨_, rfl⟩
            have hk16 : ¬ (16 : Int) < (kn : Int) := by omega
            have CL := Lib.hid (a_len HQ.out.tab)
            rw [hkn] at CL
            clear hkn hfew
            go_wp2_with (fail)
            refine CL.out.mono ?_
            rintro e we ⟨rfl, rfl⟩
            clear CL
            have HL := Lib.hid HQ.out.len
            have HVN := Lib.hid (own_len HQ.out.row)
            have hv101 : vn2 ≤ 101 := by have := HVN.out; have := HL.out; have := HLL.out; omega
            go_wp2_with (fail)
            clear hk16
            go_loopw [8] (fun s8 wr => ∃ (k : Nat) (vs' : List Nat), s8 = .int .i64 (k : Int) ∧ k ≤ vn2 ∧ Hid (vs'.length = vn2) ∧ Hid (Once w0 x (.slice va2 vn2 vc2) vs' t2 wr)) (fun s8 _ => vn2 - (intOf s8).toNat)
            case atStart => exact ⟨0, vs2, rfl, by omega, HVN.out, HQ.out⟩
            case round =>
              clear HQ
              obtain ⟨k, vs', rfl, hk, HV', HI⟩ := hrel
              by_cases hkv : k < vn2
              · obtain ⟨k1, hk1⟩ : ∃ k1, k + 1 = k1 := ⟨_, rfl⟩
                have hkw : IntKind.u32.wrap ((k : Int) + 1) = (k1 : Int) := by rw [IntKind.wrap_u32]; omega
                have HK1 := Lib.hid hk1
                have CK := Lib.hid (a_ask HI.out.tab k1 (by omega))
                have hkl : k < t2.L.length := by have := HVN.out; have := HL.out; omega
                have AB := Lib.hid (hk1 ▸ ask_behind t2 k hkl)
                have HNK := Lib.hid (HI.out.num k hkl)
                obtain ⟨g, cap, hva, hgl, hgs⟩ := HI.out.row.head (by have := HV'.out; omega)
                simp only [Value.slice.injEq] at hva
                obtain ⟨rfl, -, -⟩ := hva
                obtain ⟨z, hz⟩ : ∃ z, vs'[k]? = some z := ⟨_, List.getElem?_eq_getElem (by have := HV'.out; omega)⟩
                have HZ2 := Lib.hid (HI.out.two k z hz)
                have hzb : byteAt vs' k = z := by unfold byteAt; rw [List.getD_eq_getElem?_getD, hz]; rfl
                have HCF := Lib.hid (fun (wx : World) (hb : Below wr.heap.size wr wx) => show wx.cell? ⟨g, k, none⟩ = some (.int .u8 (z : Int)) ∧ wx.frozen? ⟨g, k, none⟩ = false from by
                  have := (HI.out.row.on hb).cellAt k (by have := HV'.out; omega)
                  rw [hzb] at this
                  exact this)
                clear hk1 hkl hz hzb hgl hk
                go_wp2_with (fail)
                refine CK.out.mono ?_
                rintro e w7 ⟨y, rfl, hb, -, hto⟩
                obtain ⟨Y, hY⟩ : ∃ Y, y.cells.toArray = Y := ⟨_, rfl⟩
                have hst := msg_store_new w7 Z y hb4
                rw [hY] at hst ⊢
                have hYn := msg_ne hY
                have hYs := msg_28 hY
                obtain ⟨w8, hw8⟩ : ∃ W, w7.alloc (.cells Y 45) = W := ⟨_, rfl⟩
                rw [hw8] at hst
                have hb' : Below wr.heap.size wr w8 := by rw [← hw8]; exact hb.alloc hb.size _
                have H8 := Lib.hid (HI.out.on hb')
                have HA := Lib.hid (show Blk w8 w7.heap.size 45 y.cells from by rw [← hw8, ← hY]; exact Blk.new w7 45 y.cells.toArray)
                obtain ⟨cz, fz⟩ := HCF.out w8 hb'
                have HTO := Lib.hid hto
                have HBX := Lib.hid hb'
                clear hto hY hb hb' CK HI HCF
                have HVS := Lib.hid (show ∀ q, (vs'.set k q).length = vn2 from fun q => by rw [List.length_set]; exact HV'.out)
                rcases AB.out with ⟨hka, hv⟩ | ⟨hka, hv, ha1⟩
                · rw [hv]
                  have H9 := Lib.hid (H8.out.put (k := k) (z := 3) (.inr ⟨rfl, by rw [HK1.out]; exact hka⟩))
                  rcases HZ2.out with rfl | ⟨rfl, -⟩
                  all_goals
                    clear hka hv AB HTO HA HZ2 H8
                    go_wp2_with (fail)
                    try clear hst hw8 hYn hYs
                    go_wp2
                    go_roundw
                    case rel => exact ⟨k + 1, _, by go_num, by omega, HVS.out 3, H9.out⟩
                    case measure => simp [intOf]; omega
                · rw [hv]
                  have H9 := Lib.hid (H8.out.put (k := k) (z := 2) (.inl rfl))
                  have ca : w8.cell? ⟨w7.heap.size, 5, none⟩ = some (.int .u32 (k1 : Int)) := by
                    have h1 : w8.cell? ⟨w7.heap.size, 5, none⟩ = some (.int .u32 (y.n : Int)) := HA.out.cell 5
                    have h2 : y.n = k1 := (show y.toM.n = k1 from by rw [HTO.out, ha1, HNK.out]; exact HK1.out)
                    rw [h2] at h1
                    exact h1
                  rcases HZ2.out with rfl | ⟨-, hz3⟩
                  · clear hka hv AB HTO HA HZ2 H8 ha1
                    go_wp2_with (fail)
                    try clear hst hw8 hYn hYs
                    go_wp2
                    go_roundw
                    case rel => exact ⟨k + 1, _, by go_num, by omega, HVS.out 2, H9.out⟩
                    case measure => simp [intOf]; omega
                  · exact absurd (by rw [← HK1.out]; exact hz3) hka
              · have hkv' : k = vn2 := by omega
                have HKV := Lib.hid hkv'
                obtain ⟨d1, hd1⟩ : ∃ d1, vn2 + 1 = d1 := ⟨_, rfl⟩
                have hdw : IntKind.u32.wrap ((vn2 : Int) + 1) = (d1 : Int) := by rw [IntKind.wrap_u32]; omega
                have CK := Lib.hid (a_ask HI.out.tab d1 (by omega))
                have AF := Lib.hid (show (t2.ask d1).2 = 1 from by
                  rw [show d1 = t2.L.length + 1 by have := HVN.out; have := HL.out; omega]
                  exact ask_fresh t2 HI.out.tab.1.facts.1)
                clear hd1 hkv'
                go_wp2_with (fail)
                refine CK.out.mono ?_
                rintro e w7 ⟨y, rfl, hb, -, hto⟩
                rw [AF.out]
                obtain ⟨Y, hY⟩ : ∃ Y, y.cells.toArray = Y := ⟨_, rfl⟩
                have hst := msg_store_new w7 Z y hb4
                rw [hY] at hst ⊢
                have hYn := msg_ne hY
                have hYs := msg_28 hY
                obtain ⟨w8, hw8⟩ : ∃ W, w7.alloc (.cells Y 45) = W := ⟨_, rfl⟩
                rw [hw8] at hst
                have hb' : Below wr.heap.size wr w8 := by rw [← hw8]; exact hb.alloc hb.size _
                have H8 := Lib.hid (HI.out.on hb')
                clear hto hY hb hb' CK HI AF
                go_wp2_with (fail)
                try clear hst hw8 hYn hYs
                go_wp2
                go_roundw
                case rel => exact ⟨i + 1, ⟨va2, vn2, vc2⟩, _, t2, by go_num, rfl, by omega, HLL.out, H8.out⟩
                case measure => simp [intOf]; omega
        · have HO3d := Lib.hid (HO3.out.on (Below.refl w3.heap.size w3).drew)
          have CD := Lib.hid (a_done HO3d.out.tab)
          obtain ⟨d, hd⟩ : ∃ d, t.L.length = d := ⟨_, rfl⟩
          rw [hd] at CD
          obtain ⟨f20, hf20⟩ : ∃ f, far % 20 = f := ⟨_, rfl⟩
          have hft : Int.tmod (far : Int) 20 = (f20 : Int) := by rw [← hf20]; exact (Int.ofNat_tmod far 20).symm
          obtain ⟨q2, hq2⟩ : ∃ q2 : Nat, IntKind.u32.wrap ((d : Int) - (f20 : Int)) = (q2 : Int) := Int.eq_ofNat_of_zero_le (by rw [IntKind.wrap_u32]; omega)
          have CA := Lib.hid (a_ack HO3d.out.tab q2)
          have co1d : w3.drew.cell? ⟨wr.heap.size, 1, none⟩ = some (.int .u32 (far : Int)) := co1
          clear hd hf20
          go_wp2_with (first | (refine wp_load_m wr (by rfl) 47 (.tmp 28) rfl b (off + i * 30) (opC kind far m) _ (by rfl) HRG.out Try.underlying47 rfl op_size16 ?_; rw [HOA.out]) | fail)
          go_region_law (first
            | (rw [if_pos (by rfl)]; go_simp; go_at_call 17; (with_reducible refine CD.out.mono ?_); rintro e wk ⟨rfl, rfl⟩)
            | (rw [if_pos (by rfl)]; go_simp; go_at_call 15; (with_reducible refine CA.out.mono ?_); rintro e w4 ⟨rfl, h4, hs4⟩))
          all_goals
            have HQ := Lib.hid (HO3d.out.ack h4 hs4)
            have HLL := Lib.hid (show (t.ack q2).2.L.length ≤ i + 1 by
              have e : (t.ack q2).2.L = t.L := by unfold TV.ack; split <;> rfl
              rw [e]
              have := HLi.out
              omega)
            obtain ⟨t2, ht2⟩ : ∃ t2, (t.ack q2).2 = t2 := ⟨_, rfl⟩
            obtain ⟨vs2, hvs2⟩ : ∃ v2, vs = v2 := ⟨_, rfl⟩
            obtain ⟨va2, vn2, vc2, hva2, hvn2, hvc2⟩ : ∃ va2 vn2 vc2, va = va2 ∧ vn = vn2 ∧ vc = vc2 := ⟨_, _, _, rfl, rfl, rfl⟩
            rw [ht2] at HLL
            rw [ht2, hvs2, hva2, hvn2, hvc2] at HQ
            rw [hva2, hvn2, hvc2]
            clear h4 hs4 CA CD HO3 HO3d co0 co1 co1d HLi ht2 hvs2 hva2 hvn2 hvc2 hq2 hft
            go_wp2_with (fail)
            (try clear hstO hw3 hOA1 hOA2)
            have hfew := HQ.out.tab.1.facts
            obtain ⟨kn, hkn⟩ : ∃ kn, t2.L.length - t2.acked = kn := ⟨_, rfl⟩
            have hk16 : ¬ (16 : Int) < (kn : Int) := by omega
            have CL := Lib.hid (a_len HQ.out.tab)
            rw [hkn] at CL
            clear hkn hfew
            go_wp2_with (fail)
            refine CL.out.mono ?_
            rintro e we ⟨rfl, rfl⟩
            clear CL
            have HL := Lib.hid HQ.out.len
            have HVN := Lib.hid (own_len HQ.out.row)
            have hv101 : vn2 ≤ 101 := by have := HVN.out; have := HL.out; have := HLL.out; omega
            go_wp2_with (fail)
            clear hk16
            go_loopw [8] (fun s8 wr => ∃ (k : Nat) (vs' : List Nat), s8 = .int .i64 (k : Int) ∧ k ≤ vn2 ∧ Hid (vs'.length = vn2) ∧ Hid (Once w0 x (.slice va2 vn2 vc2) vs' t2 wr)) (fun s8 _ => vn2 - (intOf s8).toNat)
            case atStart => exact ⟨0, vs2, rfl, by omega, HVN.out, HQ.out⟩
            case round =>
              clear HQ
              obtain ⟨k, vs', rfl, hk, HV', HI⟩ := hrel
              by_cases hkv : k < vn2
              · obtain ⟨k1, hk1⟩ : ∃ k1, k + 1 = k1 := ⟨_, rfl⟩
                have hkw : IntKind.u32.wrap ((k : Int) + 1) = (k1 : Int) := by rw [IntKind.wrap_u32]; omega
                have HK1 := Lib.hid hk1
                have CK := Lib.hid (a_ask HI.out.tab k1 (by omega))
                have hkl : k < t2.L.length := by have := HVN.out; have := HL.out; omega
                have AB := Lib.hid (hk1 ▸ ask_behind t2 k hkl)
                have HNK := Lib.hid (HI.out.num k hkl)
                obtain ⟨g, cap, hva, hgl, hgs⟩ := HI.out.row.head (by have := HV'.out; omega)
                simp only [Value.slice.injEq] at hva
                obtain ⟨rfl, -, -⟩ := hva
                obtain ⟨z, hz⟩ : ∃ z, vs'[k]? = some z := ⟨_, List.getElem?_eq_getElem (by have := HV'.out; omega)⟩
                have HZ2 := Lib.hid (HI.out.two k z hz)
                have hzb : byteAt vs' k = z := by unfold byteAt; rw [List.getD_eq_getElem?_getD, hz]; rfl
                have HCF := Lib.hid (fun (wx : World) (hb : Below wr.heap.size wr wx) => show wx.cell? ⟨g, k, none⟩ = some (.int .u8 (z : Int)) ∧ wx.frozen? ⟨g, k, none⟩ = false from by
                  have := (HI.out.row.on hb).cellAt k (by have := HV'.out; omega)
                  rw [hzb] at this
                  exact this)
                clear hk1 hkl hz hzb hgl hk
                go_wp2_with (fail)
                refine CK.out.mono ?_
                rintro e w7 ⟨y, rfl, hb, -, hto⟩
                obtain ⟨Y, hY⟩ : ∃ Y, y.cells.toArray = Y := ⟨_, rfl⟩
                have hst := msg_store_new w7 Z y hb4
                rw [hY] at hst ⊢
                have hYn := msg_ne hY
                have hYs := msg_28 hY
                obtain ⟨w8, hw8⟩ : ∃ W, w7.alloc (.cells Y 45) = W := ⟨_, rfl⟩
                rw [hw8] at hst
                have hb' : Below wr.heap.size wr w8 := by rw [← hw8]; exact hb.alloc hb.size _
                have H8 := Lib.hid (HI.out.on hb')
                have HA := Lib.hid (show Blk w8 w7.heap.size 45 y.cells from by rw [← hw8, ← hY]; exact Blk.new w7 45 y.cells.toArray)
                obtain ⟨cz, fz⟩ := HCF.out w8 hb'
                have HTO := Lib.hid hto
                have HBX := Lib.hid hb'
                clear hto hY hb hb' CK HI HCF
                have HVS := Lib.hid (show ∀ q, (vs'.set k q).length = vn2 from fun q => by rw [List.length_set]; exact HV'.out)
                rcases AB.out with ⟨hka, hv⟩ | ⟨hka, hv, ha1⟩
                · rw [hv]
                  have H9 := Lib.hid (H8.out.put (k := k) (z := 3) (.inr ⟨rfl, by rw [HK1.out]; exact hka⟩))
                  rcases HZ2.out with rfl | ⟨rfl, -⟩
                  all_goals
                    clear hka hv AB HTO HA HZ2 H8
                    go_wp2_with (fail)
                    try clear hst hw8 hYn hYs
                    go_wp2
                    go_roundw
                    case rel => exact ⟨k + 1, _, by go_num, by omega, HVS.out 3, H9.out⟩
                    case measure => simp [intOf]; omega
                · rw [hv]
                  have H9 := Lib.hid (H8.out.put (k := k) (z := 2) (.inl rfl))
                  have ca : w8.cell? ⟨w7.heap.size, 5, none⟩ = some (.int .u32 (k1 : Int)) := by
                    have h1 : w8.cell? ⟨w7.heap.size, 5, none⟩ = some (.int .u32 (y.n : Int)) := HA.out.cell 5
                    have h2 : y.n = k1 := (show y.toM.n = k1 from by rw [HTO.out, ha1, HNK.out]; exact HK1.out)
                    rw [h2] at h1
                    exact h1
                  rcases HZ2.out with rfl | ⟨-, hz3⟩
                  · clear hka hv AB HTO HA HZ2 H8 ha1
                    go_wp2_with (fail)
                    try clear hst hw8 hYn hYs
                    go_wp2
                    go_roundw
                    case rel => exact ⟨k + 1, _, by go_num, by omega, HVS.out 2, H9.out⟩
                    case measure => simp [intOf]; omega
                  · exact absurd (by rw [← HK1.out]; exact hz3) hka
              · have hkv' : k = vn2 := by omega
                have HKV := Lib.hid hkv'
                obtain ⟨d1, hd1⟩ : ∃ d1, vn2 + 1 = d1 := ⟨_, rfl⟩
                have hdw : IntKind.u32.wrap ((vn2 : Int) + 1) = (d1 : Int) := by rw [IntKind.wrap_u32]; omega
                have CK := Lib.hid (a_ask HI.out.tab d1 (by omega))
                have AF := Lib.hid (show (t2.ask d1).2 = 1 from by
                  rw [show d1 = t2.L.length + 1 by have := HVN.out; have := HL.out; omega]
                  exact ask_fresh t2 HI.out.tab.1.facts.1)
                clear hd1 hkv'
                go_wp2_with (fail)
                refine CK.out.mono ?_
                rintro e w7 ⟨y, rfl, hb, -, hto⟩
                rw [AF.out]
                obtain ⟨Y, hY⟩ : ∃ Y, y.cells.toArray = Y := ⟨_, rfl⟩
                have hst := msg_store_new w7 Z y hb4
                rw [hY] at hst ⊢
                have hYn := msg_ne hY
                have hYs := msg_28 hY
                obtain ⟨w8, hw8⟩ : ∃ W, w7.alloc (.cells Y 45) = W := ⟨_, rfl⟩
                rw [hw8] at hst
                have hb' : Below wr.heap.size wr w8 := by rw [← hw8]; exact hb.alloc hb.size _
                have H8 := Lib.hid (HI.out.on hb')
                clear hto hY hb hb' CK HI AF
                go_wp2_with (fail)
                try clear hst hw8 hYn hYs
                go_wp2
                go_roundw
                case rel => exact ⟨i + 1, ⟨va2, vn2, vc2⟩, _, t2, by go_num, rfl, by omega, HLL.out, H8.out⟩
                case measure => simp [intOf]; omega
      · have BF := Lib.hid HO.out.tab.2
        clear HO HLi
        go_wp2
        go_ret
        exact ⟨rfl, BF.out⟩
    · have BF := Lib.hid HO.out.tab.2
      clear HO HLi
      go_wp2
      go_ret
      exact ⟨rfl, BF.out⟩
theorem once_row : Rows.DedupOnceSaid :=
  OpenClaim.holds_of_wide 4 Try.f4 rfl rfl rfl rfl rfl rfl rfl ⟨rfl, rfl, rfl, rfl, rfl⟩ rfl rfl rfl rfl rfl (by kernel_rfl) Try.func4 (by kernel_rfl)
    (of_decide_eq_true (by kernel_rfl)) (by unfold Func.isWrapper; rw [if_neg (of_decide_eq_false (by kernel_rfl))]; exact ⟨rfl, rfl⟩)
    (fun os started H enc _ => lift (C := Try.checked) (s := Rows.dedupOnceSpec) (conds := Rows.dedupOnceRow.domain) os started H enc prog_own (by kernel_rfl) Try.func4 prog_laid rfl Try.underlying4 rfl
      (fun ds hl => by
        have hl : ds.length = 1 := hl
        match ds, hl with
        | [_], _ => rfl)
      (of_decide_eq_true (by kernel_rfl))
      (ChangeSpec.witness6 (enc := enc) (C := Try.checked) false ⟨#[], #[.slice none 0 0], []⟩ 8 (by kernel_rfl) (by kernel_rfl) (by kernel_rfl) (by kernel_rfl))
      (fun W base args ds p g => by
        rw [Try.params4] at g
        obtain ⟨a, n, c, xs, e0, _, hx⟩ := g.ops16 0 rfl
        rw [args1 g.count e0]
        exact once_walk a n c xs W hx))
end Go.Proofs.Ytdgiellnklcioaa
