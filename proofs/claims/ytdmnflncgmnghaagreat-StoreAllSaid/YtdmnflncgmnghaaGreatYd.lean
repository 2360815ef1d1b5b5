/-
  StoreAll holds: a write is done whole, or not at all.
-/
import Derived.Test.YtdmnflncgmnghaaGreatRows
import Derived.Test.YtdmnflncgmnghaaGreatYa
namespace Go.Proofs.YtdmnflncgmnghaaGreat
open Go.ChangeShapes Go.WideShapes Go.ChangeAt Go.RowKit

theorem op9_cells {b off i : Nat} {o : OpL} {wr : World} (h : ∀ j v, o.cells[j]? = some v → wr.cell? ⟨b, off + i * 10 + j, none⟩ = some v) :
    wr.cell? ⟨b, off + i * 10, none⟩ = some (.int .u8 (o.kind : Int)) ∧ wr.cell? ⟨b, off + i * 10 + 1, none⟩ = some (.string o.cf.name) ∧ wr.cell? ⟨b, off + i * 10 + 2, none⟩ = some (.int .u8 (o.cf.dim : Int)) ∧ wr.cell? ⟨b, off + i * 10 + 3, none⟩ = some (.int .u8 (o.cf.metric : Int)) ∧ wr.cell? ⟨b, off + i * 10 + 4, none⟩ = some (.bool o.cf.graph) ∧ wr.cell? ⟨b, off + i * 10 + 5, none⟩ = some (.int .u8 (o.cf.links : Int)) ∧
    wr.cell? ⟨b, off + i * 10 + 6, none⟩ = some (.int .u16 (o.cf.width : Int)) ∧ wr.cell? ⟨b, off + i * 10 + 7, none⟩ = some (.slice o.ca o.cn o.cc) ∧ wr.cell? ⟨b, off + i * 10 + 8, none⟩ = some (.int .u32 (o.id : Int)) ∧ wr.cell? ⟨b, off + i * 10 + 9, none⟩ = some (.int .i64 o.n) :=
  ⟨h 0 _ rfl, h 1 _ rfl, h 2 _ rfl, h 3 _ rfl, h 4 _ rfl, h 5 _ rfl, h 6 _ rfl, h 7 _ rfl, h 8 _ rfl, h 9 _ rfl⟩
/-- From A to W nothing of A's blocks from lo on has turned, but for those of the store. -/
structure PinS (w : World) (lo N g : Nat) (G : List Nat) (p : PastV) (L : List Nat) (Qs : List (Nat × Nat)) (ver np : Nat) : Prop where
  one : OneIs w lo N g G (cfA 2) p L Qs ver np
  good : GoodP ver p
theorem tups9 (l : List ItL) : (l.map ItL.tup).map toItem = l.map ItL.toI := by
  rw [List.map_map]
  rfl
/-- From A to W nothing of A's blocks from lo on has turned. -/
def KeptMid (lo : Nat) (A W : World) : Prop := ∃ G, Kept G A W ∧ ∀ x ∈ G, x < lo ∨ A.heap.size ≤ x
theorem KeptMid.refl (lo : Nat) (A : World) : KeptMid lo A A := ⟨[], Kept.refl _ _, by simp⟩
theorem KeptMid.size {lo : Nat} {A W : World} (h : KeptMid lo A W) : A.heap.size ≤ W.heap.size := by
  obtain ⟨G, h1, _⟩ := h
  exact h1.size
theorem KeptMid.on {lo : Nat} {A W W' : World} (h : KeptMid lo A W) (hb : Below W.heap.size W W') : KeptMid lo A W' := by
  obtain ⟨G, h1, h2⟩ := h
  exact ⟨G, h1.trans (Kept.of_below (F := G) hb (Nat.le_refl _)) (Grows.refl _ _), h2⟩
theorem KeptMid.kept {lo : Nat} {A W W' : World} {F : List Nat} (h : KeptMid lo A W) (hk : Kept F W W') (hF : ∀ x ∈ F, x < lo ∨ A.heap.size ≤ x) : KeptMid lo A W' := by
  obtain ⟨G, h1, h2⟩ := h
  refine ⟨G ++ F, (h1.mono (fun x hx => List.mem_append.2 (.inl hx))).trans (hk.mono (fun x hx => List.mem_append.2 (.inr hx))) (Grows.refl _ _), fun x hx => ?_⟩
  rcases List.mem_append.1 hx with hx | hx
  · exact h2 x hx
  · exact hF x hx
theorem KeptMid.told {lo : Nat} {A W : World} {v : Value} {xs : List ItL} (h : KeptMid lo A W) (h1 : ItsAt lo A v xs) (h2 : ∀ x ∈ xs, x.OwnI lo A) : ItsAt lo W v xs ∧ ∀ x ∈ xs, x.OwnI lo W := by
  obtain ⟨G, h3, h4⟩ := h
  refine ⟨RowC.kept h1 h3 (fun g hg hh => ?_), fun x hx => (h2 x hx).kept h3 (fun b hb hh => ?_)⟩
  · have h5 := RowC.lt h1 g hg
    have h6 := h4 g hh
    omega
  · have h5 := (h2 x hx).lo b hb
    have h6 := h4 b hh
    omega
theorem write_err {ver : Nat} {cf : ConfL} {p : PastV} {L : List Nat} {xs : List ChL} (h : mayW cf p xs ≠ 0) : writeV ver cf p L xs = ((p, ver), (0, mayW cf p xs)) := by
  unfold writeV
  rw [if_pos h]
theorem write_ok {ver : Nat} {cf : ConfL} {p : PastV} {L : List Nat} {xs : List ChL} (h : mayW cf p xs = 0) : (writeV ver cf p L xs).2 = ((writeV ver cf p L xs).1.2, 0) ∧ (writeV ver cf p L xs).1.2 = ver + (if xs.length = 0 then 0 else 1) := by
  unfold writeV
  rw [if_neg (by rw [h]; simp)]
  by_cases h0 : xs.length = 0
  · rw [if_pos h0, if_pos h0]
    exact ⟨rfl, rfl⟩
  · rw [if_neg h0, if_neg h0]
    exact ⟨rfl, rfl⟩
set_option maxRecDepth 100000 in
set_option maxHeartbeats 25600000 in
theorem all_walk (a : Option Addr) (n c : Nat) (xs : List shOp9.T) (la : Option Addr) (ln lc : Nat) (lys : List shChange.T) (w : World) (hx : Rd (· < w.heap.size) w shOps9 [.slice a n c] xs) (hy : Rd (· < w.heap.size) w shChanges [.slice la ln lc] lys) :
    Calls Tryz.prog 5 #[.slice a n c, .slice la ln lc] w fun e w' => e = .returned (.bool true) ∧ Below w.heap.size w w' := by
  have HX := Lib.hid hx
  have HY := Lib.hid hy
  clear hx hy
  go_enter Tryz.func5, Tryz.ntmps5
  go_wp2_with (fail)
  refine (alive9 w).mono ?_
  rintro e w1 ⟨rfl, hb1⟩
  go_wp2_with (fail)
  refine (new_store w1).mono ?_
  rintro e w2 ⟨g, gc, gp, rfl, hb2, h2⟩
  go_wp2_with (fail)
  refine (one_create w2 w1.heap.size g (cfA 2) (wfA 2 (by decide)) (by kernel_rfl) hb2.size ⟨gc, gp, h2⟩).mono ?_
  rintro e w3 ⟨rfl, G3, h3, hb3⟩
  obtain ⟨lo, hlo⟩ : ∃ lo, w1.heap.size = lo := ⟨_, rfl⟩
  have hwl : w.heap.size ≤ lo := by rw [← hlo]; exact hb1.size
  have B3 := Lib.hid (show Below w.heap.size w w3 from (hb1.trans (hb2.mono hb1.size)).trans (hb3.mono hb1.size))
  have H3 := Lib.hid (show PinS w3 lo 0 g G3 PastV.new [] [] 0 0 from ⟨hlo ▸ h3, GoodP.new⟩)
  clear hb1 hb2 hb3 h2 h3 hlo
  go_wp2_with (fail)
  go_loopw [6] (fun s6 wr => ∃ (i ver : Nat) (p : PastV) (G : List Nat), s6 = .int .i64 i ∧ i ≤ 20 ∧ Hid (PinS wr lo i g G p [] [] ver 0) ∧ Hid (Below w.heap.size w wr)) (fun s6 _ => 20 - (intOf s6).toNat)
  case atStart => exact ⟨0, 0, PastV.new, G3, rfl, by omega, H3.out, B3.out⟩
  case round =>
    clear H3 B3
    obtain ⟨i, ver, p, G, rfl, hi, HP, HB⟩ := hrel
    go_upto_region 6 with fail
    go_cut [38] (fun s38 wx => ∃ z : Bool, s38 = .bool z ∧ Hid (z = true ↔ (i < n ∧ i < 20)) ∧ wx = wr)
    case first =>
      by_cases hin : i < n
      · by_cases hi10 : i < 20
        · have hd1 : decide ((i : Int) < 20) = true := decide_eq_true (by omega)
          go_wp2
          go_meet
          exact ⟨true, rfl, by simp [Hid]; omega, rfl⟩
        · have hd1 : decide ((i : Int) < 20) = false := decide_eq_false (by omega)
          go_wp2
          go_meet
          exact ⟨false, rfl, by simp [Hid]; omega, rfl⟩
      · go_wp2
        go_meet
        exact ⟨false, rfl, by simp [Hid]; omega, rfl⟩
    case rest =>
      obtain ⟨z, rfl, HZI, rfl⟩ := hcut
      cases z
      rotate_left
      · obtain ⟨hin, hi40⟩ := HZI.out.1 rfl
        clear HZI
        obtain ⟨b, off, o, ys, rfl, hbl, hk, hcf, -, -, OPF⟩ := rd_op9 HX.out i hin
        obtain ⟨hb0, hrc, hcc⟩ := OPF.out _ HB.out
        obtain ⟨m0, m1, m2, m3, m4, m5, m6, m7, m8, m9⟩ := op9_cells hcc
        have GR := Lib.hid (great9 o ys wc hcf.size hrc)
        clear hcc hrc
        go_wp2_with (fail)
        refine GR.out.mono ?_
        rintro e w5 ⟨gr, rfl, hb5, hgr⟩
        have P5 := Lib.hid (show PinS w5 lo i g G p [] [] ver 0 from ⟨HP.out.one.on hb5, HP.out.good⟩)
        have B5 := Lib.hid (below_on HB.out hb5)
        clear hb5 HP HB m0 m1 m2 m3 m4 m5 m6 m7 m8 m9 hb0 GR
        cases gr
        rotate_left
        · go_wp2
          go_ret
          exact ⟨rfl, B5.out⟩
        have hcn := hgr rfl
        obtain ⟨hb0, hrc, hcc⟩ := OPF.out _ B5.out
        obtain ⟨-, -, -, -, -, -, -, m7, -, -⟩ := op9_cells hcc
        obtain ⟨cs, hcs⟩ := chs_of hrc (show o.cn ≤ 1000000 by omega)
        have CS := Lib.hid hcs
        have HOK := Lib.hid (show ∀ k, k < w.heap.size → k ∉ G from fun k hk hx => by
          have := (P5.out.one.lt k hx).1
          omega)
        clear hcs hrc hcc hgr
        go_wp2_with (fail)
        refine (one_write w5 lo i g ver 0 G (cfA 2) p [] [] (· < w.heap.size) o.ca o.cn o.cc cs (by omega) HOK.out (szA 2) P5.out.one CS.out).mono ?_
        rintro e w6 ⟨G6, rfl, h6, k6, -⟩
        have B6 := Lib.hid (B5.out.trans ((P5.out.one.below k6).mono hwl))
        have P6 := Lib.hid (show PinS w6 lo (i + 1) g G6 _ [] [] _ 0 from ⟨h6, P5.out.good.write _ _ _⟩)
        clear k6 h6
        go_wp2
        go_roundw
        case rel => exact ⟨i + 1, _, _, G6, by go_num, by omega, P6.out, B6.out⟩
        case measure => simp [intOf]; omega
      · clear HZI
        have P3 := Lib.hid (show PinS wc lo 20 g G p [] [] ver 0 from ⟨HP.out.one.raise hi, HP.out.good⟩)
        clear HP
        have GR := Lib.hid (great9 ⟨0, ⟨⟨#[]⟩, 0, 0, false, 0, 0⟩, la, ln, lc, 0, 0⟩ lys wc (show (0 : Nat) ≤ 140737488351232 by decide) (HY.out.under HB.out))
        go_wp2_with (fail)
        refine GR.out.mono ?_
        rintro e w4 ⟨gr, rfl, hb4, hgr⟩
        have P4 := Lib.hid (show PinS w4 lo 20 g G p [] [] ver 0 from ⟨P3.out.one.on hb4, P3.out.good⟩)
        have B4 := Lib.hid (below_on HB.out hb4)
        clear hb4 P3 HB GR
        cases gr
        rotate_left
        · go_wp2
          go_ret
          exact ⟨rfl, B4.out⟩
        have hln : ln ≤ 300 := hgr rfl
        clear hgr
        go_wp2_with (fail)
        refine (one_pin w4 lo 20 g ver 0 G (cfA 2) p [] [] (by decide) (szA 2) P4.out.one).mono ?_
        rintro e w5 ⟨G5, rfl, h5, k5, -⟩
        have B5 := Lib.hid (B4.out.trans ((P4.out.one.below k5).mono hwl))
        have P5 := Lib.hid (show PinS w5 lo 21 g G5 p [ver] [(1, ver)] ver 1 from ⟨h5, P4.out.good⟩)
        have hkn : p.known ver = true := P4.out.good.now P4.out.good.last
        have KN := Lib.hid hkn
        have PN := Lib.hid (one_pinned w5 lo 21 g ver 1 G5 (cfA 2) p [ver] [(1, ver)] (1, ver) (by decide) (by simp) P5.out.one)
        rw [show (p.all ((1, ver) : Nat × Nat).2).2 = 0 from all_code hkn] at PN
        clear h5 k5 P4 B4 hkn
        go_wp2_with (fail)
        refine PN.out.mono ?_
        rintro e wA ⟨hbA, sv, us, rfl, hus, huo, hut⟩
        have huz : us.length ≤ 1000000 := by
          have h1 := all_len p ver
          rw [← (show us.map ItL.toI = (p.all ver).1 from hut), List.length_map] at h1
          have h2 := P5.out.one.few
          omega
        obtain ⟨sa, sn, sc, rfl, -⟩ := its_rd hus huo huz
        have T0 := Lib.hid (And.intro hus huo)
        have TL := Lib.hid (show us.map ItL.toI = (p.all ver).1 ∧ us.length ≤ 1000000 from ⟨hut, huz⟩)
        have BA := Lib.hid (below_on B5.out hbA)
        have PA := Lib.hid (show PinS wA lo 21 g G5 p [ver] [(1, ver)] ver 1 from ⟨P5.out.one.on hbA, P5.out.good⟩)
        have FA := Lib.hid (show ∀ x ∈ G5, x < w5.heap.size ∨ wA.heap.size ≤ x from fun x hx => .inl (P5.out.one.lt x hx).2)
        obtain ⟨l5, hl5⟩ : ∃ l5, w5.heap.size = l5 := ⟨_, rfl⟩
        rw [hl5] at T0 FA
        rw [cfA_cells]
        clear hbA hus huo hut huz PN P5 B5 hl5
        have VC := Lib.hid (fun W (hW : Below wA.heap.size wA W) => one_version W lo 21 g ver 1 G5 (cfA 2) p [ver] [(1, ver)] (PA.out.one.on hW))
        have SC := Lib.hid (fun W (hW : Below wA.heap.size wA W) => one_size W lo 21 g ver 1 G5 (cfA 2) p [ver] [(1, ver)] (szA 2) (PA.out.one.on hW))
        have RC := Lib.hid (fun W (hW : Below wA.heap.size wA W) => one_rows W lo 21 g ver 1 G5 (cfA 2) p [ver] [(1, ver)] (szA 2) (PA.out.one.on hW))
        obtain ⟨sz, hsz⟩ : ∃ sz, (p.all p.last).1.length = sz := ⟨_, rfl⟩
        obtain ⟨rw0, hrw⟩ : ∃ rw0, p.rows.length = rw0 := ⟨_, rfl⟩
        have SZ := Lib.hid hsz
        have RW := Lib.hid hrw
        rw [hsz] at SC
        rw [hrw] at RC
        clear hsz hrw
        go_wp2_with (fail)
        have BC := (Below.refl wA.heap.size wA).alloc (Nat.le_refl _) (.cells #[.string ⟨#[97]⟩, .int .u8 2, .int .u8 0, .bool false, .int .u8 0, .int .u16 0] 36)
        refine (VC.out _ BC).mono ?_
        rintro e wb ⟨rfl, hwb⟩
        have BB := Lib.hid (show Below wA.heap.size wA wb from by rw [hwb]; exact BC)
        clear BC hwb
        go_wp2_with (fail)
        refine (SC.out _ BB.out).mono ?_
        rintro e wd ⟨rfl, hbd⟩
        have BD := Lib.hid (below_on BB.out hbd)
        clear hbd
        go_wp2_with (fail)
        refine (RC.out _ BD.out).mono ?_
        rintro e we ⟨rfl, hwe⟩
        subst hwe
        have P6 := Lib.hid (show PinS we lo 21 g G5 p [ver] [(1, ver)] ver 1 from ⟨PA.out.one.on BD.out, PA.out.good⟩)
        have M6 := Lib.hid ((KeptMid.refl l5 wA).on BD.out)
        have B6 := Lib.hid (below_on BA.out BD.out)
        obtain ⟨cs, hcs⟩ := chs_of (HY.out.under B6.out) (show ln ≤ 1000000 by omega)
        have CS := Lib.hid hcs
        have CL := Lib.hid (show cs.length = ln from hcs.1)
        have HOK := Lib.hid (show ∀ k, k < w.heap.size → k ∉ G5 from fun k hk hx => by
          have := (P6.out.one.lt k hx).1
          omega)
        have WC := Lib.hid (one_write we lo 21 g ver 1 G5 (cfA 2) p [ver] [(1, ver)] (· < w.heap.size) la ln lc cs (by decide) HOK.out (szA 2) P6.out.one CS.out)
        clear VC SC RC BB BD PA BA hcs HOK
        by_cases hm : mayW (cfA 2) p cs = 0
        rotate_left
        · obtain ⟨code, hcode⟩ : ∃ code, mayW (cfA 2) p cs = code := ⟨_, rfl⟩
          rw [write_err hm, hcode] at WC
          rw [hcode] at hm
          have d2 : decide ((code : Int) = 0) = false := decide_eq_false (by omega)
          have d2' : ((code : Int) == 0) = false := by rw [beq_eq_false_iff_ne]; omega
          clear hcode hm
          go_wp2_with (fail)
          refine WC.out.mono ?_
          rintro e w7 ⟨G7, rfl, h7, k7, g7⟩
          have P7 := Lib.hid (show PinS w7 lo 22 g G7 p [ver] [(1, ver)] ver 1 from ⟨h7, P6.out.good⟩)
          have M7 := Lib.hid (M6.out.kept k7 FA.out)
          have F7 := Lib.hid (show ∀ x ∈ G7, x < l5 ∨ wA.heap.size ≤ x from fun x hx => by
            rcases g7 x hx with h9 | h9
            · exact FA.out x h9
            · exact .inr (Nat.le_trans M6.out.size h9))
          have B7 := Lib.hid (B6.out.trans ((P6.out.one.below k7).mono hwl))
          clear h7 k7 g7 WC P6 M6 B6 FA
          go_wp2_with (fail)
          refine (one_pin w7 lo 22 g ver 1 G7 (cfA 2) p [ver] [(1, ver)] (by decide) (szA 2) P7.out.one).mono ?_
          rintro e w8 ⟨G8, rfl, h8, k8, -⟩
          have P8 := Lib.hid (show PinS w8 lo 23 g G8 p [ver, ver] [(1, ver), (2, ver)] ver 2 from ⟨h8, P7.out.good⟩)
          have M8 := Lib.hid (M7.out.kept k8 F7.out)
          have B8 := Lib.hid (B7.out.trans ((P7.out.one.below k8).mono hwl))
          have PN := Lib.hid (one_pinned w8 lo 23 g ver 2 G8 (cfA 2) p [ver, ver] [(1, ver), (2, ver)] (2, ver) (by decide) (by simp) P8.out.one)
          rw [show (p.all ((2, ver) : Nat × Nat).2).2 = 0 from all_code KN.out] at PN
          clear h8 k8 P7 M7 F7 B7
          go_wp2_with (fail)
          refine PN.out.mono ?_
          rintro e wB ⟨hbB, sv, vs, rfl, hvs, hvo, hvt⟩
          have hvz : vs.length ≤ 1000000 := by
            have h1 := all_len p ver
            rw [← (show vs.map ItL.toI = (p.all ver).1 from hvt), List.length_map] at h1
            have h2 := P8.out.one.few
            omega
          obtain ⟨ta, tn, tc, rfl, -⟩ := its_rd hvs hvo hvz
          have V7 := Lib.hid (And.intro hvs hvo)
          have EQ := Lib.hid (show (us.map ItL.tup).map toItem = (vs.map ItL.tup).map toItem from by rw [tups9, tups9, TL.out.1]; exact (show vs.map ItL.toI = (p.all ver).1 from hvt).symm)
          have P9 := Lib.hid (show PinS wB lo 23 g G8 p [ver, ver] [(1, ver), (2, ver)] ver 2 from ⟨P8.out.one.on hbB, P8.out.good⟩)
          have M9 := Lib.hid (M8.out.on hbB)
          have B9 := Lib.hid (below_on B8.out hbB)
          have RD := Lib.hid (show ∀ W, Below wB.heap.size wB W → Rd (fun _ => True) W shItems [.slice sa sn sc] (us.map ItL.tup) ∧ Rd (fun _ => True) W shItems [.slice ta tn tc] (vs.map ItL.tup) from fun W hW => by
            have q1 := M9.out.on hW
            have q2 := q1.told T0.out.1 T0.out.2
            obtain ⟨x1, y1, z1, e1, r1⟩ := its_rd (V7.out.1.on hW) (fun x hx => (V7.out.2 x hx).on hW) hvz
            simp only [Value.slice.injEq] at e1
            obtain ⟨rfl, rfl, rfl⟩ := e1
            obtain ⟨x2, y2, z2, e2, r2⟩ := its_rd q2.1 q2.2 TL.out.2
            simp only [Value.slice.injEq] at e2
            obtain ⟨rfl, rfl, rfl⟩ := e2
            exact ⟨r2, r1⟩)
          have VC := Lib.hid (fun W (hW : Below wB.heap.size wB W) => one_version W lo 23 g ver 2 G8 (cfA 2) p [ver, ver] [(1, ver), (2, ver)] (P9.out.one.on hW))
          have SC := Lib.hid (fun W (hW : Below wB.heap.size wB W) => one_size W lo 23 g ver 2 G8 (cfA 2) p [ver, ver] [(1, ver), (2, ver)] (szA 2) (P9.out.one.on hW))
          have RC := Lib.hid (fun W (hW : Below wB.heap.size wB W) => one_rows W lo 23 g ver 2 G8 (cfA 2) p [ver, ver] [(1, ver), (2, ver)] (szA 2) (P9.out.one.on hW))
          rw [SZ.out] at SC
          rw [RW.out] at RC
          rw [cfA_cells]
          clear hbB hvs hvo hvt hvz PN P8 M8 B8
          go_wp2_with (fail)
          have BC := (Below.refl wB.heap.size wB).alloc (Nat.le_refl _) (.cells #[.string ⟨#[97]⟩, .int .u8 2, .int .u8 0, .bool false, .int .u8 0, .int .u16 0] 36)
          refine (VC.out _ BC).mono ?_
          rintro e wb ⟨rfl, hwb⟩
          have BB := Lib.hid (show Below wB.heap.size wB wb from by rw [hwb]; exact BC)
          clear BC hwb
          go_wp2_with (fail)
          refine (SC.out _ BB.out).mono ?_
          rintro e wd ⟨rfl, hbd⟩
          have BD := Lib.hid (below_on BB.out hbd)
          clear hbd
          go_wp2_with (fail)
          refine (RC.out _ BD.out).mono ?_
          rintro e we ⟨rfl, hwe⟩
          subst hwe
          go_wp2_with (fail)
          refine (sameItems _ _ _ _ _ _ _ _ _ (RD.out _ BD.out).1 (RD.out _ BD.out).2).mono ?_
          rintro e wf ⟨zz, rfl, hzz, hbf⟩
          obtain rfl : zz = true := hzz.2 EQ.out
          have BF := Lib.hid (below_on (below_on B9.out BD.out) hbf)
          clear hzz hbf
          go_wp2
          go_ret
          exact ⟨rfl, BF.out⟩
        · obtain ⟨ho1, ho2⟩ := write_ok (ver := ver) (L := [ver]) hm
          obtain ⟨q, hq⟩ : ∃ q, (writeV ver (cfA 2) p [ver] cs).1.1 = q := ⟨_, rfl⟩
          obtain ⟨v2, hv2⟩ : ∃ v2, (writeV ver (cfA 2) p [ver] cs).1.2 = v2 := ⟨_, rfl⟩
          have QG := Lib.hid (show GoodP v2 q from by rw [← hq, ← hv2]; exact P6.out.good.write _ _ _)
          rw [ho1, hq, hv2] at WC
          rw [hv2] at ho2
          have hver : ver ≤ 21 := P6.out.one.bound.1
          have hkn2 : q.known v2 = true := QG.out.now QG.out.last
          have HV2 := Lib.hid (show v2 = ver + (if ln = 0 then 0 else 1) from by rw [← CL.out]; exact ho2)
          have hv23 : v2 ≤ 22 := by have := HV2.out; split at this <;> omega
          have hw1 : IntKind.u64.wrap ((ver : Int) + 1) = ((ver : Int) + 1) := by rw [IntKind.wrap_u64]; omega
          have hw0 : IntKind.u64.wrap ((ver : Int) + 0) = (ver : Int) := by rw [IntKind.wrap_u64]; omega
          have hw00 : IntKind.u64.wrap (ver : Int) = (ver : Int) := by rw [IntKind.wrap_u64]; omega
          clear ho1 ho2 hq hv2 hm
          go_wp2_with (fail)
          refine WC.out.mono ?_
          rintro e w7 ⟨G7, rfl, h7, k7, -⟩
          have P7 := Lib.hid (show PinS w7 lo 22 g G7 q [ver] [(1, ver)] v2 1 from ⟨h7, QG.out⟩)
          have B7 := Lib.hid (B6.out.trans ((P6.out.one.below k7).mono hwl))
          clear h7 k7 WC P6 M6 B6 FA
          go_wp2_with (fail)
          refine (one_pin w7 lo 22 g v2 1 G7 (cfA 2) q [ver] [(1, ver)] (by decide) (szA 2) P7.out.one).mono ?_
          rintro e w8 ⟨G8, rfl, h8, k8, -⟩
          have P8 := Lib.hid (show PinS w8 lo 23 g G8 q [v2, ver] [(1, ver), (2, v2)] v2 2 from ⟨h8, QG.out⟩)
          have B8 := Lib.hid (B7.out.trans ((P7.out.one.below k8).mono hwl))
          have PN := Lib.hid (one_pinned w8 lo 23 g v2 2 G8 (cfA 2) q [v2, ver] [(1, ver), (2, v2)] (2, v2) (by decide) (by simp) P8.out.one)
          rw [show (q.all ((2, v2) : Nat × Nat).2).2 = 0 from all_code hkn2] at PN
          clear h8 k8 P7 B7
          go_wp2_with (fail)
          refine PN.out.mono ?_
          rintro e wB ⟨hbB, sv, vs, rfl, hvs, hvo, hvt⟩
          obtain ⟨ta, tc, rfl, -⟩ := hvs.form
          have P9 := Lib.hid (show PinS wB lo 23 g G8 q [v2, ver] [(1, ver), (2, v2)] v2 2 from ⟨P8.out.one.on hbB, QG.out⟩)
          have B9 := Lib.hid (below_on B8.out hbB)
          have hlen : (q.all q.last).1.length = vs.length := by
            rw [← QG.out.all QG.out.last, ← (show vs.map ItL.toI = (q.all v2).1 from hvt), List.length_map]
          obtain ⟨m, hm⟩ : ∃ m, vs.length = m := ⟨_, rfl⟩
          have VC := Lib.hid (fun W (hW : Below wB.heap.size wB W) => one_version W lo 23 g v2 2 G8 (cfA 2) q [v2, ver] [(1, ver), (2, v2)] (P9.out.one.on hW))
          have SC := Lib.hid (fun W (hW : Below wB.heap.size wB W) => one_size W lo 23 g v2 2 G8 (cfA 2) q [v2, ver] [(1, ver), (2, v2)] (szA 2) (P9.out.one.on hW))
          rw [hlen, hm] at SC
          rw [cfA_cells, hm]
          clear hbB hvs hvo hvt hlen hm PN P8 B8
          by_cases hl0 : ln = 0
          · have hv0 : v2 = ver := by
              have := HV2.out
              rw [if_pos hl0] at this
              exact this
            subst hl0 hv0
            go_wp2_with (fail)
            have BC := (Below.refl wB.heap.size wB).alloc (Nat.le_refl _) (.cells #[.string ⟨#[97]⟩, .int .u8 2, .int .u8 0, .bool false, .int .u8 0, .int .u16 0] 36)
            refine (VC.out _ BC).mono ?_
            rintro e wb ⟨rfl, hwb⟩
            have BB := Lib.hid (show Below wB.heap.size wB wb from by rw [hwb]; exact BC)
            clear BC hwb
            go_wp2_with (fail)
            refine (SC.out _ BB.out).mono ?_
            rintro e wd ⟨rfl, hbd⟩
            have BD := Lib.hid (below_on (below_on B9.out BB.out) hbd)
            clear hbd
            go_wp2
            go_ret
            exact ⟨rfl, BD.out⟩
          · have hv0 : v2 = ver + 1 := by
              have := HV2.out
              rw [if_neg hl0] at this
              exact this
            have hpos : 0 < ln := Nat.pos_of_ne_zero hl0
            have hw2 : IntKind.u64.wrap ((ver : Int) + 1) = (v2 : Int) := by rw [IntKind.wrap_u64]; omega
            clear hl0 hv0 hw1 hw0 hw00
            go_wp2_with (fail)
            have BC := (Below.refl wB.heap.size wB).alloc (Nat.le_refl _) (.cells #[.string ⟨#[97]⟩, .int .u8 2, .int .u8 0, .bool false, .int .u8 0, .int .u16 0] 36)
            refine (VC.out _ BC).mono ?_
            rintro e wb ⟨rfl, hwb⟩
            have BB := Lib.hid (show Below wB.heap.size wB wb from by rw [hwb]; exact BC)
            clear BC hwb
            go_wp2_with (fail)
            refine (SC.out _ BB.out).mono ?_
            rintro e wd ⟨rfl, hbd⟩
            have BD := Lib.hid (below_on (below_on B9.out BB.out) hbd)
            clear hbd
            go_wp2
            go_ret
            exact ⟨rfl, BD.out⟩
theorem all_row : Rows.StoreAllSaid :=
  OpenClaim.holds_of_wide 5 Tryz.f5 rfl rfl rfl rfl rfl rfl rfl ⟨rfl, rfl, rfl, rfl, rfl⟩ rfl rfl rfl rfl rfl (by kernel_rfl) Tryz.func5 (by kernel_rfl)
    (of_decide_eq_true (by kernel_rfl)) (by unfold Func.isWrapper; rw [if_neg (of_decide_eq_false (by kernel_rfl))]; exact ⟨rfl, rfl⟩)
    (fun os started H enc _ => lift (C := Tryz.checked) (s := Rows.storeAllSpec) (conds := Rows.storeAllRow.domain) os started H enc prog_own (by kernel_rfl) Tryz.func5 prog_laid rfl Tryz.underlying4 rfl
      (fun ds hl => by
        have hl : ds.length = 2 := hl
        match ds, hl with
        | [_, _], _ => rfl)
      (of_decide_eq_true (by kernel_rfl))
      (ChangeSpec.witness6 (enc := enc) (C := Tryz.checked) false ⟨#[], #[.slice none 0 0, .slice none 0 0], []⟩ 8 (by kernel_rfl) (by kernel_rfl) (by kernel_rfl) (by kernel_rfl))
      (fun W base args ds p g => by
        rw [Tryz.params5] at g
        obtain ⟨a, n, c, xs, e0, hx⟩ := g.ops9 0 rfl
        obtain ⟨a2, n2, c2, ys, e1, hy⟩ := g.changes9 1 rfl
        rw [args2 g.count e0 e1]
        exact all_walk a n c xs a2 n2 c2 ys W hx hy))
end Go.Proofs.YtdmnflncgmnghaaGreat
