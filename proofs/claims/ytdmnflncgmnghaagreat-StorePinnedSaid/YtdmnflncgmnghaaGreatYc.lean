/-
  StorePinned holds: what is pinned never changes, whatever is written, pinned and taken away behind it.
-/
import Derived.Test.YtdmnflncgmnghaaGreatRows
import Derived.Test.YtdmnflncgmnghaaGreatYa
namespace Go.Proofs.YtdmnflncgmnghaaGreat
open Go.ChangeShapes Go.WideShapes Go.ChangeAt Go.RowKit

theorem op9_cells {b off i : Nat} {o : OpL} {wr : World} (h : ∀ j v, o.cells[j]? = some v → wr.cell? ⟨b, off + i * 10 + j, none⟩ = some v) :
    wr.cell? ⟨b, off + i * 10, none⟩ = some (.int .u8 (o.kind : Int)) ∧ wr.cell? ⟨b, off + i * 10 + 1, none⟩ = some (.string o.cf.name) ∧ wr.cell? ⟨b, off + i * 10 + 2, none⟩ = some (.int .u8 (o.cf.dim : Int)) ∧ wr.cell? ⟨b, off + i * 10 + 3, none⟩ = some (.int .u8 (o.cf.metric : Int)) ∧ wr.cell? ⟨b, off + i * 10 + 4, none⟩ = some (.bool o.cf.graph) ∧ wr.cell? ⟨b, off + i * 10 + 5, none⟩ = some (.int .u8 (o.cf.links : Int)) ∧
    wr.cell? ⟨b, off + i * 10 + 6, none⟩ = some (.int .u16 (o.cf.width : Int)) ∧ wr.cell? ⟨b, off + i * 10 + 7, none⟩ = some (.slice o.ca o.cn o.cc) ∧ wr.cell? ⟨b, off + i * 10 + 8, none⟩ = some (.int .u32 (o.id : Int)) ∧ wr.cell? ⟨b, off + i * 10 + 9, none⟩ = some (.int .i64 o.n) :=
  ⟨h 0 _ rfl, h 1 _ rfl, h 2 _ rfl, h 3 _ rfl, h 4 _ rfl, h 5 _ rfl, h 6 _ rfl, h 7 _ rfl, h 8 _ rfl, h 9 _ rfl⟩
/-- From A to W nothing of A's blocks from lo on has turned, but for those of the store. -/
structure PinS (w : World) (lo N g : Nat) (G : List Nat) (p : PastV) (L : List Nat) (Qs : List (Nat × Nat)) (ver np : Nat) : Prop where
  one : OneIs w lo N g G (cfA 2) p L Qs ver np
  good : GoodP ver p
/-- A pin that stays: q is there, its version is known, what is told of it is as it was. -/
structure HeldS (n v0 : Nat) (it : List ItemV) (p : PastV) (Qs : List (Nat × Nat)) : Prop where
  mem : (n, v0) ∈ Qs
  known : p.known v0 = true
  told : (p.all v0).1 = it
theorem HeldS.inL {w : World} {lo N g n v0 ver np : Nat} {it : List ItemV} {G L : List Nat} {p : PastV} {Qs : List (Nat × Nat)} (h : HeldS n v0 it p Qs) (k : PinS w lo N g G p L Qs ver np) : v0 ∈ L := k.one.held.mem_iff.2 (List.mem_map.2 ⟨_, h.mem, rfl⟩)
theorem HeldS.keeps {n v0 : Nat} {it : List ItemV} {p p' : PastV} {Qs Qs' : List (Nat × Nat)} (h : HeldS n v0 it p Qs) (hk : KeepsV p p' v0) (hm : (n, v0) ∈ Qs') : HeldS n v0 it p' Qs' := ⟨hm, hk.1, by rw [hk.all h.known]; exact h.told⟩
-- MARK
theorem tups9 (l : List ItL) : (l.map ItL.tup).map toItem = l.map ItL.toI := by
  rw [List.map_map]
  rfl
/-- From A to W nothing of A's blocks from lo on has turned. -/
def KeptMid (lo : Nat) (A W : World) : Prop := ∃ G, Kept G A W ∧ ∀ x ∈ G, x < lo ∨ A.heap.size ≤ x
theorem KeptMid.refl (lo : Nat) (A : World) : KeptMid lo A A := ⟨[], Kept.refl _ _, by simp⟩
theorem KeptMid.size {lo : Nat} {A W : World} (h : KeptMid lo A W) : A.heap.size ≤ W.heap.size := by
  obtain ⟨G, h1, _⟩ := h
  exact h1.size
theorem KeptMid.on {lo : Nat} {A W W' : World} (h : KeptMid lo A W) (hb : Below W.heap.size W W') : KeptMid lo A W' := by
  obtain ⟨G, h1, h2⟩ := h
  exact ⟨G, h1.trans (Kept.of_below (F := G) hb (Nat.le_refl _)) (Grows.refl _ _), h2⟩
theorem KeptMid.kept {lo : Nat} {A W W' : World} {F : List Nat} (h : KeptMid lo A W) (hk : Kept F W W') (hF : ∀ x ∈ F, x < lo ∨ A.heap.size ≤ x) : KeptMid lo A W' := by
  obtain ⟨G, h1, h2⟩ := h
  refine ⟨G ++ F, (h1.mono (fun x hx => List.mem_append.2 (.inl hx))).trans (hk.mono (fun x hx => List.mem_append.2 (.inr hx))) (Grows.refl _ _), fun x hx => ?_⟩
  rcases List.mem_append.1 hx with hx | hx
  · exact h2 x hx
  · exact hF x hx
theorem KeptMid.told {lo : Nat} {A W : World} {v : Value} {xs : List ItL} (h : KeptMid lo A W) (h1 : ItsAt lo A v xs) (h2 : ∀ x ∈ xs, x.OwnI lo A) : ItsAt lo W v xs ∧ ∀ x ∈ xs, x.OwnI lo W := by
  obtain ⟨G, h3, h4⟩ := h
  refine ⟨RowC.kept h1 h3 (fun g hg hh => ?_), fun x hx => (h2 x hx).kept h3 (fun b hb hh => ?_)⟩
  · have h5 := RowC.lt h1 g hg
    have h6 := h4 g hh
    omega
  · have h5 := (h2 x hx).lo b hb
    have h6 := h4 b hh
    omega
set_option maxRecDepth 100000 in
set_option maxHeartbeats 25600000 in
theorem pinned_walk (a : Option Addr) (n c : Nat) (xs : List shOp9.T) (a2 : Option Addr) (n2 c2 : Nat) (ys0 : List shOp9.T) (w : World) (hx : Rd (· < w.heap.size) w shOps9 [.slice a n c] xs) (hy : Rd (· < w.heap.size) w shOps9 [.slice a2 n2 c2] ys0) :
    Calls Tryz.prog 4 #[.slice a n c, .slice a2 n2 c2] w fun e w' => e = .returned (.bool true) ∧ Below w.heap.size w w' := by
  have HX := Lib.hid hx
  have HY := Lib.hid hy
  clear hx hy
  go_enter Tryz.func4, Tryz.ntmps4
  go_wp2_with (fail)
  refine (alive9 w).mono ?_
  rintro e w1 ⟨rfl, hb1⟩
  go_wp2_with (fail)
  refine (new_store w1).mono ?_
  rintro e w2 ⟨g, gc, gp, rfl, hb2, h2⟩
  go_wp2_with (fail)
  refine (one_create w2 w1.heap.size g (cfA 2) (wfA 2 (by decide)) (by kernel_rfl) hb2.size ⟨gc, gp, h2⟩).mono ?_
  rintro e w3 ⟨rfl, G3, h3, hb3⟩
  obtain ⟨lo, hlo⟩ : ∃ lo, w1.heap.size = lo := ⟨_, rfl⟩
  have hwl : w.heap.size ≤ lo := by rw [← hlo]; exact hb1.size
  have B3 := Lib.hid (show Below w.heap.size w w3 from (hb1.trans (hb2.mono hb1.size)).trans (hb3.mono hb1.size))
  have H3 := Lib.hid (show PinS w3 lo 0 g G3 PastV.new [] [] 0 0 from ⟨hlo ▸ h3, GoodP.new⟩)
  clear hb1 hb2 hb3 h2 h3 hlo
  go_wp2_with (fail)
  go_loopw [6] (fun s6 wr => ∃ (i ver : Nat) (p : PastV) (G : List Nat), s6 = .int .i64 i ∧ i ≤ 20 ∧ Hid (PinS wr lo i g G p [] [] ver 0) ∧ Hid (Below w.heap.size w wr)) (fun s6 _ => 20 - (intOf s6).toNat)
  case atStart => exact ⟨0, 0, PastV.new, G3, rfl, by omega, H3.out, B3.out⟩
  case round =>
    clear H3 B3
    obtain ⟨i, ver, p, G, rfl, hi, HP, HB⟩ := hrel
    go_upto_region 6 with fail
    go_cut [31] (fun s31 wx => ∃ z : Bool, s31 = .bool z ∧ Hid (z = true ↔ (i < n ∧ i < 20)) ∧ wx = wr)
    case first =>
      by_cases hin : i < n
      · by_cases hi10 : i < 20
        · have hd1 : decide ((i : Int) < 20) = true := decide_eq_true (by omega)
          go_wp2
          go_meet
          exact ⟨true, rfl, by simp [Hid]; omega, rfl⟩
        · have hd1 : decide ((i : Int) < 20) = false := decide_eq_false (by omega)
          go_wp2
          go_meet
          exact ⟨false, rfl, by simp [Hid]; omega, rfl⟩
      · go_wp2
        go_meet
        exact ⟨false, rfl, by simp [Hid]; omega, rfl⟩
    case rest =>
      obtain ⟨z, rfl, HZI, rfl⟩ := hcut
      cases z
      rotate_left
      · obtain ⟨hin, hi40⟩ := HZI.out.1 rfl
        clear HZI
        obtain ⟨b, off, o, ys, rfl, hbl, hk, hcf, -, -, OPF⟩ := rd_op9 HX.out i hin
        obtain ⟨hb0, hrc, hcc⟩ := OPF.out _ HB.out
        obtain ⟨m0, m1, m2, m3, m4, m5, m6, m7, m8, m9⟩ := op9_cells hcc
        have GR := Lib.hid (great9 o ys wc hcf.size hrc)
        clear hcc hrc
        go_wp2_with (fail)
        refine GR.out.mono ?_
        rintro e w5 ⟨gr, rfl, hb5, hgr⟩
        have P5 := Lib.hid (show PinS w5 lo i g G p [] [] ver 0 from ⟨HP.out.one.on hb5, HP.out.good⟩)
        have B5 := Lib.hid (below_on HB.out hb5)
        clear hb5 HP HB m0 m1 m2 m3 m4 m5 m6 m7 m8 m9 hb0 GR
        cases gr
        rotate_left
        · go_wp2
          go_ret
          exact ⟨rfl, B5.out⟩
        have hcn := hgr rfl
        obtain ⟨hb0, hrc, hcc⟩ := OPF.out _ B5.out
        obtain ⟨-, -, -, -, -, -, -, m7, -, -⟩ := op9_cells hcc
        obtain ⟨cs, hcs⟩ := chs_of hrc (show o.cn ≤ 1000000 by omega)
        have CS := Lib.hid hcs
        have HOK := Lib.hid (show ∀ k, k < w.heap.size → k ∉ G from fun k hk hx => by
          have := (P5.out.one.lt k hx).1
          omega)
        clear hcs hrc hcc hgr
        go_wp2_with (fail)
        refine (one_write w5 lo i g ver 0 G (cfA 2) p [] [] (· < w.heap.size) o.ca o.cn o.cc cs (by omega) HOK.out (szA 2) P5.out.one CS.out).mono ?_
        rintro e w6 ⟨G6, rfl, h6, k6, -⟩
        have B6 := Lib.hid (B5.out.trans ((P5.out.one.below k6).mono hwl))
        have P6 := Lib.hid (show PinS w6 lo (i + 1) g G6 _ [] [] _ 0 from ⟨h6, P5.out.good.write _ _ _⟩)
        clear k6 h6
        go_wp2
        go_roundw
        case rel => exact ⟨i + 1, _, _, G6, by go_num, by omega, P6.out, B6.out⟩
        case measure => simp [intOf]; omega
      · clear HZI
        have P3 := Lib.hid (show PinS wc lo 20 g G p [] [] ver 0 from ⟨HP.out.one.raise hi, HP.out.good⟩)
        clear HP
        go_wp2_with (fail)
        refine (one_pin wc lo 20 g ver 0 G (cfA 2) p [] [] (by decide) (szA 2) P3.out.one).mono ?_
        rintro e w5 ⟨G5, rfl, h5, k5, -⟩
        have B5 := Lib.hid (HB.out.trans ((P3.out.one.below k5).mono hwl))
        have P5 := Lib.hid (show PinS w5 lo 21 g G5 p [ver] [(1, ver)] ver 1 from ⟨h5, P3.out.good⟩)
        have hkn : p.known ver = true := P3.out.good.now P3.out.good.last
        obtain ⟨it, hit⟩ : ∃ it, (p.all ver).1 = it := ⟨_, rfl⟩
        have E5 := Lib.hid (show HeldS 1 ver it p [(1, ver)] from ⟨by simp, hkn, hit⟩)
        have PN := Lib.hid (one_pinned w5 lo 21 g ver 1 G5 (cfA 2) p [ver] [(1, ver)] (1, ver) (by decide) (by simp) P5.out.one)
        rw [show (p.all ((1, ver) : Nat × Nat).2).2 = 0 from all_code hkn] at PN
        have HIT := Lib.hid hit
        clear h5 k5 P3 HB hkn hit
        go_wp2_with (fail)
        refine PN.out.mono ?_
        rintro e wA ⟨hbA, sv, us, rfl, hus, huo, hut⟩
        have huz : us.length ≤ 1000000 := by
          have h1 := all_len p ver
          rw [← (show us.map ItL.toI = (p.all ver).1 from hut), List.length_map] at h1
          have h2 := P5.out.one.few
          omega
        obtain ⟨sa, sn, sc, rfl, -⟩ := its_rd hus huo huz
        have T0 := Lib.hid (And.intro hus huo)
        have TL := Lib.hid (show us.map ItL.toI = it ∧ us.length ≤ 1000000 from ⟨by rw [← HIT.out]; exact hut, huz⟩)
        have BA := Lib.hid (below_on B5.out hbA)
        have PA := Lib.hid (show PinS wA lo 21 g G5 p [ver] [(1, ver)] ver 1 from ⟨P5.out.one.on hbA, P5.out.good⟩)
        have FA := Lib.hid (show ∀ x ∈ G5, x < w5.heap.size ∨ wA.heap.size ≤ x from fun x hx => .inl (P5.out.one.lt x hx).2)
        obtain ⟨l5, hl5⟩ : ∃ l5, w5.heap.size = l5 := ⟨_, rfl⟩
        rw [hl5] at T0 FA
        rw [cfA_cells]
        clear hbA hus huo hut huz PN P5 B5 HIT hl5
        go_wp2_with (fail)
        go_loopw [13] (fun s13 wr => ∃ (i np ver2 : Nat) (p : PastV) (L : List Nat) (Qs : List (Nat × Nat)) (G : List Nat), s13 = .int .i64 i ∧ i ≤ 30 ∧ Hid (PinS wr lo (21 + i) g G p L Qs ver2 np) ∧ Hid (HeldS 1 ver it p Qs) ∧ Hid (KeptMid l5 wA wr) ∧ Hid (∀ x ∈ G, x < l5 ∨ wA.heap.size ≤ x) ∧ Hid (Below w.heap.size w wr)) (fun s13 _ => 30 - (intOf s13).toNat)
        case atStart =>
          have BC := (Below.refl wA.heap.size wA).alloc (Nat.le_refl _) (.cells #[.string ⟨#[97]⟩, .int .u8 2, .int .u8 0, .bool false, .int .u8 0, .int .u16 0] 36)
          exact ⟨0, 1, ver, p, [ver], [(1, ver)], G5, rfl, by omega, ⟨PA.out.one.on BC, PA.out.good⟩, E5.out, (KeptMid.refl _ _).on BC, FA.out, below_on BA.out BC⟩
        case round =>
          clear PA E5 FA BA
          obtain ⟨i, np, ver2, p, L, Qs, G, rfl, hi, HP, HE, HM, HF, HB⟩ := hrel
          go_upto_region 16 with fail
          go_cut [72] (fun s72 wx => ∃ z : Bool, s72 = .bool z ∧ Hid (z = true ↔ (i < n2 ∧ i < 30)) ∧ wx = wr)
          case first =>
            by_cases hin : i < n2
            · by_cases hi10 : i < 30
              · have hd1 : decide ((i : Int) < 30) = true := decide_eq_true (by omega)
                go_wp2
                go_meet
                exact ⟨true, rfl, by simp [Hid]; omega, rfl⟩
              · have hd1 : decide ((i : Int) < 30) = false := decide_eq_false (by omega)
                go_wp2
                go_meet
                exact ⟨false, rfl, by simp [Hid]; omega, rfl⟩
            · go_wp2
              go_meet
              exact ⟨false, rfl, by simp [Hid]; omega, rfl⟩
          case rest =>
            obtain ⟨z, rfl, HZI, rfl⟩ := hcut
            cases z
            · go_wp2
              go_ret
              exact ⟨rfl, HB.out⟩
            obtain ⟨hin, hi40⟩ := HZI.out.1 rfl
            clear HZI
            obtain ⟨b, off, o, ys, rfl, hbl, hk, hcf, hnw, -, OPF⟩ := rd_op9 HY.out i hin
            obtain ⟨hb0, hrc, hcc⟩ := OPF.out _ HB.out
            obtain ⟨m0, m1, m2, m3, m4, m5, m6, m7, m8, m9⟩ := op9_cells hcc
            obtain ⟨W4, hW4⟩ : ∃ W4, wc.alloc (.cells #[.int .u8 (o.kind : Int), .string o.cf.name, .int .u8 (o.cf.dim : Int), .int .u8 (o.cf.metric : Int), .bool o.cf.graph, .int .u8 (o.cf.links : Int), .int .u16 (o.cf.width : Int), .slice o.ca o.cn o.cc, .int .u32 (o.id : Int), .int .i64 o.n] 40) = W4 := ⟨_, rfl⟩
            obtain ⟨ob, hob⟩ : ∃ ob, wc.heap.size = ob := ⟨_, rfl⟩
            have hb4 : Below wc.heap.size wc W4 := by rw [← hW4]; exact (Below.refl _ _).alloc (Nat.le_refl _) _
            have O4 := Lib.hid (show Blk W4 ob 40 [.int .u8 (o.kind : Int), .string o.cf.name, .int .u8 (o.cf.dim : Int), .int .u8 (o.cf.metric : Int), .bool o.cf.graph, .int .u8 (o.cf.links : Int), .int .u16 (o.cf.width : Int), .slice o.ca o.cn o.cc, .int .u32 (o.id : Int), .int .i64 o.n] from by rw [← hW4, ← hob]; exact Blk.new _ _ _)
            have HPo := Lib.hid (show ob ∉ G from fun hx => by
              have := (HP.out.one.lt ob hx).2
              omega)
            have P4 := Lib.hid (show PinS W4 lo (21 + i) g G p L Qs ver2 np from ⟨HP.out.one.on hb4, HP.out.good⟩)
            have M4 := Lib.hid (HM.out.on hb4)
            have B4 := Lib.hid (below_on HB.out hb4)
            have e0 : W4.cell? ⟨ob, 0, none⟩ = some (.int .u8 (o.kind : Int)) := O4.out.cell 0
            have e1 : W4.cell? ⟨ob, 1, none⟩ = some (.string o.cf.name) := O4.out.cell 1
            have e2 : W4.cell? ⟨ob, 2, none⟩ = some (.int .u8 (o.cf.dim : Int)) := O4.out.cell 2
            have e3 : W4.cell? ⟨ob, 3, none⟩ = some (.int .u8 (o.cf.metric : Int)) := O4.out.cell 3
            have e4 : W4.cell? ⟨ob, 4, none⟩ = some (.bool o.cf.graph) := O4.out.cell 4
            have e5 : W4.cell? ⟨ob, 5, none⟩ = some (.int .u8 (o.cf.links : Int)) := O4.out.cell 5
            have e6 : W4.cell? ⟨ob, 6, none⟩ = some (.int .u16 (o.cf.width : Int)) := O4.out.cell 6
            have e7 : W4.cell? ⟨ob, 7, none⟩ = some (.slice o.ca o.cn o.cc) := O4.out.cell 7
            have e8 : W4.cell? ⟨ob, 8, none⟩ = some (.int .u32 (o.id : Int)) := O4.out.cell 8
            have e9 : W4.cell? ⟨ob, 9, none⟩ = some (.int .i64 o.n) := O4.out.cell 9
            have hobl := O4.out.lt
            have GR := Lib.hid (great9 o ys W4 hcf.size (OPF.out _ B4.out).2.1)
            clear hcc hrc hb4 HP HM HB
            go_wp2_with (fail)
            refine GR.out.mono ?_
            rintro e w5 ⟨gr, rfl, hb5, hgr⟩
            have P5 := Lib.hid (show PinS w5 lo (21 + i) g G p L Qs ver2 np from ⟨P4.out.one.on hb5, P4.out.good⟩)
            have M5 := Lib.hid (M4.out.on hb5)
            have B5 := Lib.hid (below_on B4.out hb5)
            have O5 := (Kept.of_below (F := []) hb5 (Nat.le_refl _)).blk O4.out (by simp)
            have f0 : w5.cell? ⟨ob, 0, none⟩ = some (.int .u8 (o.kind : Int)) := O5.cell 0
            have f7 : w5.cell? ⟨ob, 7, none⟩ = some (.slice o.ca o.cn o.cc) := O5.cell 7
            have f9 : w5.cell? ⟨ob, 9, none⟩ = some (.int .i64 o.n) := O5.cell 9
            have hobl5 := O5.lt
            clear hb5 P4 M4 B4 O4 O5 m0 m1 m2 m3 m4 m5 m6 m7 m8 m9 e0 e1 e2 e3 e4 e5 e6 e7 e8 e9 hb0 GR hobl hW4
            cases gr
            rotate_left
            · go_wp2
              go_ret
              exact ⟨rfl, B5.out⟩
            have hcn := hgr rfl
            obtain ⟨cs, hcs⟩ := chs_of (OPF.out _ B5.out).2.1 (show o.cn ≤ 1000000 by omega)
            have CS := Lib.hid hcs
            have HOK := Lib.hid (show ∀ k, k < w.heap.size → k ∉ G from fun k hk hx => by
              have := (P5.out.one.lt k hx).1
              omega)
            obtain ⟨kd, hkd⟩ : ∃ kd, o.kind = kd := ⟨_, rfl⟩
            obtain ⟨on, hon⟩ : ∃ on, o.n = on := ⟨_, rfl⟩
            rw [hkd] at f0 hk
            rw [hon] at f9 hnw
            have hS5 := M5.out.size
            clear hcs hgr hkd hon OPF hob
            have hk3 : kd % 3 = 0 ∨ kd % 3 = 1 ∨ kd % 3 = 2 := by omega
            rcases hk3 with hk3 | hk3 | hk3
            · have hkb0 : decide ((kd : Int) % 3 = 0) = true := decide_eq_true (by omega)
              have hkc0 : ((kd : Int) % 3 == 0) = true := by rw [beq_iff_eq]; omega
              have hkb1 : decide ((kd : Int) % 3 = 1) = false := decide_eq_false (by omega)
              have hkc1 : ((kd : Int) % 3 == 1) = false := by rw [beq_eq_false_iff_ne]; omega
              go_wp2_with (fail)
              refine (one_write w5 lo (21 + i) g ver2 np G (cfA 2) p L Qs (· < w.heap.size) o.ca o.cn o.cc cs (by omega) HOK.out (szA 2) P5.out.one CS.out).mono ?_
              rintro e w6 ⟨G6, rfl, h6, k6, g6⟩
              have F6 := Lib.hid (show ∀ x ∈ G6, x < l5 ∨ wA.heap.size ≤ x from fun x hx => by
                rcases g6 x hx with h9 | h9
                · exact HF.out x h9
                · exact .inr (Nat.le_trans hS5 h9))
              have M6 := Lib.hid (M5.out.kept k6 HF.out)
              have B6 := Lib.hid (B5.out.trans ((P5.out.one.below k6).mono hwl))
              obtain ⟨PP, hPP⟩ : ∃ PP, (writeV ver2 (cfA 2) p L cs).1.1 = PP := ⟨_, rfl⟩
              have E6 := Lib.hid (show HeldS 1 ver it PP Qs from by
                rw [← hPP]
                exact HE.out.keeps (KeepsV.write (cfA 2) cs HE.out.known (P5.out.one.pin HE.out.mem).1 (HE.out.inL P5.out)) HE.out.mem)
              have P6 := Lib.hid (show PinS w6 lo (21 + (i + 1)) g G6 PP L Qs _ np from by
                rw [← hPP]
                exact ⟨h6, P5.out.good.write _ _ _⟩)
              clear h6 k6 g6 hPP P5 M5 B5
              have PN := Lib.hid (one_pinned w6 lo (21 + (i + 1)) g _ _ _ (cfA 2) _ _ _ (1, ver) (by omega) E6.out.mem P6.out.one)
              rw [show (PP.all ((1, ver) : Nat × Nat).2).2 = 0 from all_code E6.out.known] at PN
              clear f0 f7 f9
              go_wp2_with (fail)
              refine PN.out.mono ?_
              rintro e wB ⟨hbB, sv, vs, rfl, hvs, hvo, hvt⟩
              have hvz : vs.length ≤ 1000000 := by
                have h1 := all_len PP ver
                rw [← (show vs.map ItL.toI = (PP.all ver).1 from hvt), List.length_map] at h1
                have h2 := P6.out.one.few
                omega
              obtain ⟨ta, tn, tc, rfl, -⟩ := its_rd hvs hvo hvz
              have V7 := Lib.hid (And.intro hvs hvo)
              have EQ := Lib.hid (show (vs.map ItL.tup).map toItem = (us.map ItL.tup).map toItem from by rw [tups9, tups9, TL.out.1]; exact (show vs.map ItL.toI = (PP.all ver).1 from hvt).trans E6.out.told)
              have P7 := Lib.hid (show PinS wB lo (21 + (i + 1)) g _ PP _ _ _ _ from ⟨P6.out.one.on hbB, P6.out.good⟩)
              have M7 := Lib.hid (M6.out.on hbB)
              have B7 := Lib.hid (below_on B6.out hbB)
              have RD := Lib.hid (show ∀ W, Below wB.heap.size wB W → Rd (fun _ => True) W shItems [.slice ta tn tc] (vs.map ItL.tup) ∧ Rd (fun _ => True) W shItems [.slice sa sn sc] (us.map ItL.tup) from fun W hW => by
                have q1 := M7.out.on hW
                have q2 := q1.told T0.out.1 T0.out.2
                obtain ⟨x1, y1, z1, e1, r1⟩ := its_rd (V7.out.1.on hW) (fun x hx => (V7.out.2 x hx).on hW) hvz
                simp only [Value.slice.injEq] at e1
                obtain ⟨rfl, rfl, rfl⟩ := e1
                obtain ⟨x2, y2, z2, e2, r2⟩ := its_rd q2.1 q2.2 TL.out.2
                simp only [Value.slice.injEq] at e2
                obtain ⟨rfl, rfl, rfl⟩ := e2
                exact ⟨r1, r2⟩)
              rw [cfA_cells]
              clear hbB hvs hvo hvt hvz PN P6 M6 B6 V7
              go_wp2_with (fail)
              have BC := (Below.refl wB.heap.size wB).alloc (Nat.le_refl _) (.cells #[.string ⟨#[97]⟩, .int .u8 2, .int .u8 0, .bool false, .int .u8 0, .int .u16 0] 36)
              refine (sameItems _ _ _ _ _ _ _ _ _ (RD.out _ BC).1 (RD.out _ BC).2).mono ?_
              rintro e wD ⟨zz, rfl, hzz, hbD⟩
              obtain rfl : zz = true := hzz.2 EQ.out
              have BD := below_on BC hbD
              have P8 := Lib.hid (show PinS wD lo (21 + (i + 1)) g _ PP _ _ _ _ from ⟨P7.out.one.on BD, P7.out.good⟩)
              have M8 := Lib.hid (M7.out.on BD)
              have B8 := Lib.hid (below_on B7.out BD)
              clear BC BD hbD hzz P7 M7 B7 RD EQ
              go_wp2
              go_roundw
              case rel => exact ⟨i + 1, _, _, PP, _, _, _, by go_num, by omega, P8.out, E6.out, M8.out, F6.out, B8.out⟩
              case measure => simp [intOf]; omega
            · have hkb0 : decide ((kd : Int) % 3 = 0) = false := decide_eq_false (by omega)
              have hkc0 : ((kd : Int) % 3 == 0) = false := by rw [beq_eq_false_iff_ne]; omega
              have hkb1 : decide ((kd : Int) % 3 = 1) = true := decide_eq_true (by omega)
              have hkc1 : ((kd : Int) % 3 == 1) = true := by rw [beq_iff_eq]; omega
              go_wp2_with (fail)
              refine (one_pin w5 lo (21 + i) g ver2 np G (cfA 2) p L Qs (by omega) (szA 2) P5.out.one).mono ?_
              rintro e w6 ⟨G6, rfl, h6, k6, g6⟩
              have F6 := Lib.hid (show ∀ x ∈ G6, x < l5 ∨ wA.heap.size ≤ x from fun x hx => by
                rcases g6 x hx with h9 | h9
                · exact HF.out x h9
                · exact .inr (Nat.le_trans hS5 h9))
              have M6 := Lib.hid (M5.out.kept k6 HF.out)
              have B6 := Lib.hid (B5.out.trans ((P5.out.one.below k6).mono hwl))
              obtain ⟨PP, hPP⟩ : ∃ PP, p = PP := ⟨_, rfl⟩
              have E6 := Lib.hid (show HeldS 1 ver it PP (Qs ++ [(np + 1, ver2)]) from by
                rw [← hPP]
                exact ⟨List.mem_append.2 (.inl HE.out.mem), HE.out.known, HE.out.told⟩)
              have P6 := Lib.hid (show PinS w6 lo (21 + (i + 1)) g G6 PP (ver2 :: L) (Qs ++ [(np + 1, ver2)]) ver2 (np + 1) from by
                rw [← hPP]
                exact ⟨h6, P5.out.good⟩)
              clear h6 k6 g6 hPP P5 M5 B5
              have PN := Lib.hid (one_pinned w6 lo (21 + (i + 1)) g _ _ _ (cfA 2) _ _ _ (1, ver) (by omega) E6.out.mem P6.out.one)
              rw [show (PP.all ((1, ver) : Nat × Nat).2).2 = 0 from all_code E6.out.known] at PN
              clear f0 f7 f9
              go_wp2_with (fail)
              refine PN.out.mono ?_
              rintro e wB ⟨hbB, sv, vs, rfl, hvs, hvo, hvt⟩
              have hvz : vs.length ≤ 1000000 := by
                have h1 := all_len PP ver
                rw [← (show vs.map ItL.toI = (PP.all ver).1 from hvt), List.length_map] at h1
                have h2 := P6.out.one.few
                omega
              obtain ⟨ta, tn, tc, rfl, -⟩ := its_rd hvs hvo hvz
              have V7 := Lib.hid (And.intro hvs hvo)
              have EQ := Lib.hid (show (vs.map ItL.tup).map toItem = (us.map ItL.tup).map toItem from by rw [tups9, tups9, TL.out.1]; exact (show vs.map ItL.toI = (PP.all ver).1 from hvt).trans E6.out.told)
              have P7 := Lib.hid (show PinS wB lo (21 + (i + 1)) g _ PP _ _ _ _ from ⟨P6.out.one.on hbB, P6.out.good⟩)
              have M7 := Lib.hid (M6.out.on hbB)
              have B7 := Lib.hid (below_on B6.out hbB)
              have RD := Lib.hid (show ∀ W, Below wB.heap.size wB W → Rd (fun _ => True) W shItems [.slice ta tn tc] (vs.map ItL.tup) ∧ Rd (fun _ => True) W shItems [.slice sa sn sc] (us.map ItL.tup) from fun W hW => by
                have q1 := M7.out.on hW
                have q2 := q1.told T0.out.1 T0.out.2
                obtain ⟨x1, y1, z1, e1, r1⟩ := its_rd (V7.out.1.on hW) (fun x hx => (V7.out.2 x hx).on hW) hvz
                simp only [Value.slice.injEq] at e1
                obtain ⟨rfl, rfl, rfl⟩ := e1
                obtain ⟨x2, y2, z2, e2, r2⟩ := its_rd q2.1 q2.2 TL.out.2
                simp only [Value.slice.injEq] at e2
                obtain ⟨rfl, rfl, rfl⟩ := e2
                exact ⟨r1, r2⟩)
              rw [cfA_cells]
              clear hbB hvs hvo hvt hvz PN P6 M6 B6 V7
              go_wp2_with (fail)
              have BC := (Below.refl wB.heap.size wB).alloc (Nat.le_refl _) (.cells #[.string ⟨#[97]⟩, .int .u8 2, .int .u8 0, .bool false, .int .u8 0, .int .u16 0] 36)
              refine (sameItems _ _ _ _ _ _ _ _ _ (RD.out _ BC).1 (RD.out _ BC).2).mono ?_
              rintro e wD ⟨zz, rfl, hzz, hbD⟩
              obtain rfl : zz = true := hzz.2 EQ.out
              have BD := below_on BC hbD
              have P8 := Lib.hid (show PinS wD lo (21 + (i + 1)) g _ PP _ _ _ _ from ⟨P7.out.one.on BD, P7.out.good⟩)
              have M8 := Lib.hid (M7.out.on BD)
              have B8 := Lib.hid (below_on B7.out BD)
              clear BC BD hbD hzz P7 M7 B7 RD EQ
              go_wp2
              go_roundw
              case rel => exact ⟨i + 1, _, _, PP, _, _, _, by go_num, by omega, P8.out, E6.out, M8.out, F6.out, B8.out⟩
              case measure => simp [intOf]; omega
            · have hkb0 : decide ((kd : Int) % 3 = 0) = false := decide_eq_false (by omega)
              have hkc0 : ((kd : Int) % 3 == 0) = false := by rw [beq_eq_false_iff_ne]; omega
              have hkb1 : decide ((kd : Int) % 3 = 1) = false := decide_eq_false (by omega)
              have hkc1 : ((kd : Int) % 3 == 1) = false := by rw [beq_eq_false_iff_ne]; omega
              by_cases hon1 : on = 1
              · subst hon1
                obtain ⟨w6, hw6⟩ : ∃ w6, w5 = w6 := ⟨_, rfl⟩
                subst hw6
                obtain ⟨PP, hPP⟩ : ∃ PP, p = PP := ⟨_, rfl⟩
                have E6 := Lib.hid (show HeldS 1 ver it PP Qs from hPP ▸ HE.out)
                have P6 := Lib.hid (show PinS w5 lo (21 + (i + 1)) g G PP L Qs ver2 np from hPP ▸ ⟨P5.out.one.raise (by omega), P5.out.good⟩)
                have F6 := HF
                have M6 := M5
                have B6 := B5
                clear hPP P5
                have PN := Lib.hid (one_pinned w5 lo (21 + (i + 1)) g _ _ _ (cfA 2) _ _ _ (1, ver) (by omega) E6.out.mem P6.out.one)
                rw [show (PP.all ((1, ver) : Nat × Nat).2).2 = 0 from all_code E6.out.known] at PN
                go_wp2_with (fail)
                refine PN.out.mono ?_
                rintro e wB ⟨hbB, sv, vs, rfl, hvs, hvo, hvt⟩
                have hvz : vs.length ≤ 1000000 := by
                  have h1 := all_len PP ver
                  rw [← (show vs.map ItL.toI = (PP.all ver).1 from hvt), List.length_map] at h1
                  have h2 := P6.out.one.few
                  omega
                obtain ⟨ta, tn, tc, rfl, -⟩ := its_rd hvs hvo hvz
                have V7 := Lib.hid (And.intro hvs hvo)
                have EQ := Lib.hid (show (vs.map ItL.tup).map toItem = (us.map ItL.tup).map toItem from by rw [tups9, tups9, TL.out.1]; exact (show vs.map ItL.toI = (PP.all ver).1 from hvt).trans E6.out.told)
                have P7 := Lib.hid (show PinS wB lo (21 + (i + 1)) g _ PP _ _ _ _ from ⟨P6.out.one.on hbB, P6.out.good⟩)
                have M7 := Lib.hid (M6.out.on hbB)
                have B7 := Lib.hid (below_on B6.out hbB)
                have RD := Lib.hid (show ∀ W, Below wB.heap.size wB W → Rd (fun _ => True) W shItems [.slice ta tn tc] (vs.map ItL.tup) ∧ Rd (fun _ => True) W shItems [.slice sa sn sc] (us.map ItL.tup) from fun W hW => by
                  have q1 := M7.out.on hW
                  have q2 := q1.told T0.out.1 T0.out.2
                  obtain ⟨x1, y1, z1, e1, r1⟩ := its_rd (V7.out.1.on hW) (fun x hx => (V7.out.2 x hx).on hW) hvz
                  simp only [Value.slice.injEq] at e1
                  obtain ⟨rfl, rfl, rfl⟩ := e1
                  obtain ⟨x2, y2, z2, e2, r2⟩ := its_rd q2.1 q2.2 TL.out.2
                  simp only [Value.slice.injEq] at e2
                  obtain ⟨rfl, rfl, rfl⟩ := e2
                  exact ⟨r1, r2⟩)
                rw [cfA_cells]
                clear hbB hvs hvo hvt hvz PN P6 M6 B6 V7
                go_wp2_with (fail)
                have BC := (Below.refl wB.heap.size wB).alloc (Nat.le_refl _) (.cells #[.string ⟨#[97]⟩, .int .u8 2, .int .u8 0, .bool false, .int .u8 0, .int .u16 0] 36)
                refine (sameItems _ _ _ _ _ _ _ _ _ (RD.out _ BC).1 (RD.out _ BC).2).mono ?_
                rintro e wD ⟨zz, rfl, hzz, hbD⟩
                obtain rfl : zz = true := hzz.2 EQ.out
                have BD := below_on BC hbD
                have P8 := Lib.hid (show PinS wD lo (21 + (i + 1)) g _ PP _ _ _ _ from ⟨P7.out.one.on BD, P7.out.good⟩)
                have M8 := Lib.hid (M7.out.on BD)
                have B8 := Lib.hid (below_on B7.out BD)
                clear BC BD hbD hzz P7 M7 B7 RD EQ
                go_wp2
                go_roundw
                case rel => exact ⟨i + 1, _, _, PP, _, _, _, by go_num, by omega, P8.out, E6.out, M8.out, F6.out, B8.out⟩
                case measure => simp [intOf]; omega
              · have hon2 : (on == 1) = false := by rw [beq_eq_false_iff_ne]; exact hon1
                by_cases hex : ∃ q ∈ Qs, (q.1 : Int) = on
                · obtain ⟨q, hq, rfl⟩ := hex
                  have UC := Lib.hid (one_unpin w5 lo (21 + i) g ver2 np G (cfA 2) p L Qs q (by omega) hq P5.out.one)
                  go_wp2_with (fail)
                  refine UC.out.mono ?_
                  rintro e w6 ⟨G6, rfl, h6, k6, g6⟩
                  have F6 := Lib.hid (show ∀ x ∈ G6, x < l5 ∨ wA.heap.size ≤ x from fun x hx => by
                    rcases g6 x hx with h9 | h9
                    · exact HF.out x h9
                    · exact .inr (Nat.le_trans hS5 h9))
                  have M6 := Lib.hid (M5.out.kept k6 HF.out)
                  have B6 := Lib.hid (B5.out.trans ((P5.out.one.below k6).mono hwl))
                  have hmem : (1, ver) ∈ Qs.filter (fun r => decide (r.1 ≠ q.1)) := List.mem_filter.2 ⟨HE.out.mem, decide_eq_true (show 1 ≠ q.1 by omega)⟩
                  have hvL : ver ∈ L.erase q.2 := h6.held.mem_iff.2 (List.mem_map.2 ⟨_, hmem, rfl⟩)
                  obtain ⟨PP, hPP⟩ : ∃ PP, (p.sweep (L.erase q.2)).1 = PP := ⟨_, rfl⟩
                  have E6 := Lib.hid (show HeldS 1 ver it PP (Qs.filter fun r => decide (r.1 ≠ q.1)) from by
                    rw [← hPP]
                    exact HE.out.keeps (KeepsV.sweep HE.out.known hvL) hmem)
                  have P6 := Lib.hid (show PinS w6 lo (21 + (i + 1)) g G6 PP (L.erase q.2) (Qs.filter fun r => decide (r.1 ≠ q.1)) ver2 np from by
                    rw [← hPP]
                    exact ⟨h6.raise (by omega), P5.out.good.sweep _⟩)
                  clear h6 k6 g6 hPP P5 M5 B5 hmem hvL UC
                  have PN := Lib.hid (one_pinned w6 lo (21 + (i + 1)) g _ _ _ (cfA 2) _ _ _ (1, ver) (by omega) E6.out.mem P6.out.one)
                  rw [show (PP.all ((1, ver) : Nat × Nat).2).2 = 0 from all_code E6.out.known] at PN
                  clear f0 f7 f9
                  go_wp2_with (fail)
                  refine PN.out.mono ?_
                  rintro e wB ⟨hbB, sv, vs, rfl, hvs, hvo, hvt⟩
                  have hvz : vs.length ≤ 1000000 := by
                    have h1 := all_len PP ver
                    rw [← (show vs.map ItL.toI = (PP.all ver).1 from hvt), List.length_map] at h1
                    have h2 := P6.out.one.few
                    omega
                  obtain ⟨ta, tn, tc, rfl, -⟩ := its_rd hvs hvo hvz
                  have V7 := Lib.hid (And.intro hvs hvo)
                  have EQ := Lib.hid (show (vs.map ItL.tup).map toItem = (us.map ItL.tup).map toItem from by rw [tups9, tups9, TL.out.1]; exact (show vs.map ItL.toI = (PP.all ver).1 from hvt).trans E6.out.told)
                  have P7 := Lib.hid (show PinS wB lo (21 + (i + 1)) g _ PP _ _ _ _ from ⟨P6.out.one.on hbB, P6.out.good⟩)
                  have M7 := Lib.hid (M6.out.on hbB)
                  have B7 := Lib.hid (below_on B6.out hbB)
                  have RD := Lib.hid (show ∀ W, Below wB.heap.size wB W → Rd (fun _ => True) W shItems [.slice ta tn tc] (vs.map ItL.tup) ∧ Rd (fun _ => True) W shItems [.slice sa sn sc] (us.map ItL.tup) from fun W hW => by
                    have q1 := M7.out.on hW
                    have q2 := q1.told T0.out.1 T0.out.2
                    obtain ⟨x1, y1, z1, e1, r1⟩ := its_rd (V7.out.1.on hW) (fun x hx => (V7.out.2 x hx).on hW) hvz
                    simp only [Value.slice.injEq] at e1
                    obtain ⟨rfl, rfl, rfl⟩ := e1
                    obtain ⟨x2, y2, z2, e2, r2⟩ := its_rd q2.1 q2.2 TL.out.2
                    simp only [Value.slice.injEq] at e2
                    obtain ⟨rfl, rfl, rfl⟩ := e2
                    exact ⟨r1, r2⟩)
                  rw [cfA_cells]
                  clear hbB hvs hvo hvt hvz PN P6 M6 B6 V7
                  go_wp2_with (fail)
                  have BC := (Below.refl wB.heap.size wB).alloc (Nat.le_refl _) (.cells #[.string ⟨#[97]⟩, .int .u8 2, .int .u8 0, .bool false, .int .u8 0, .int .u16 0] 36)
                  refine (sameItems _ _ _ _ _ _ _ _ _ (RD.out _ BC).1 (RD.out _ BC).2).mono ?_
                  rintro e wD ⟨zz, rfl, hzz, hbD⟩
                  obtain rfl : zz = true := hzz.2 EQ.out
                  have BD := below_on BC hbD
                  have P8 := Lib.hid (show PinS wD lo (21 + (i + 1)) g _ PP _ _ _ _ from ⟨P7.out.one.on BD, P7.out.good⟩)
                  have M8 := Lib.hid (M7.out.on BD)
                  have B8 := Lib.hid (below_on B7.out BD)
                  clear BC BD hbD hzz P7 M7 B7 RD EQ
                  go_wp2
                  go_roundw
                  case rel => exact ⟨i + 1, _, _, PP, _, _, _, by go_num, by omega, P8.out, E6.out, M8.out, F6.out, B8.out⟩
                  case measure => simp [intOf]; omega
                · have UN := Lib.hid (one_unpin_none w5 lo (21 + i) g ver2 np G (cfA 2) p L Qs on hnw (fun q hq e => hex ⟨q, hq, e⟩) P5.out.one)
                  go_wp2_with (fail)
                  refine UN.out.mono ?_
                  rintro e w6 ⟨rfl, hb6⟩
                  obtain ⟨PP, hPP⟩ : ∃ PP, p = PP := ⟨_, rfl⟩
                  have E6 := Lib.hid (show HeldS 1 ver it PP Qs from hPP ▸ HE.out)
                  have P6 := Lib.hid (show PinS w6 lo (21 + (i + 1)) g G PP L Qs ver2 np from hPP ▸ ⟨(P5.out.one.raise (by omega)).on hb6, P5.out.good⟩)
                  have F6 := HF
                  have M6 := Lib.hid (M5.out.on hb6)
                  have B6 := Lib.hid (below_on B5.out hb6)
                  clear hPP P5 hb6 UN M5 B5
                  have PN := Lib.hid (one_pinned w6 lo (21 + (i + 1)) g _ _ _ (cfA 2) _ _ _ (1, ver) (by omega) E6.out.mem P6.out.one)
                  rw [show (PP.all ((1, ver) : Nat × Nat).2).2 = 0 from all_code E6.out.known] at PN
                  clear f0 f7 f9
                  go_wp2_with (fail)
                  refine PN.out.mono ?_
                  rintro e wB ⟨hbB, sv, vs, rfl, hvs, hvo, hvt⟩
                  have hvz : vs.length ≤ 1000000 := by
                    have h1 := all_len PP ver
                    rw [← (show vs.map ItL.toI = (PP.all ver).1 from hvt), List.length_map] at h1
                    have h2 := P6.out.one.few
                    omega
                  obtain ⟨ta, tn, tc, rfl, -⟩ := its_rd hvs hvo hvz
                  have V7 := Lib.hid (And.intro hvs hvo)
                  have EQ := Lib.hid (show (vs.map ItL.tup).map toItem = (us.map ItL.tup).map toItem from by rw [tups9, tups9, TL.out.1]; exact (show vs.map ItL.toI = (PP.all ver).1 from hvt).trans E6.out.told)
                  have P7 := Lib.hid (show PinS wB lo (21 + (i + 1)) g _ PP _ _ _ _ from ⟨P6.out.one.on hbB, P6.out.good⟩)
                  have M7 := Lib.hid (M6.out.on hbB)
                  have B7 := Lib.hid (below_on B6.out hbB)
                  have RD := Lib.hid (show ∀ W, Below wB.heap.size wB W → Rd (fun _ => True) W shItems [.slice ta tn tc] (vs.map ItL.tup) ∧ Rd (fun _ => True) W shItems [.slice sa sn sc] (us.map ItL.tup) from fun W hW => by
                    have q1 := M7.out.on hW
                    have q2 := q1.told T0.out.1 T0.out.2
                    obtain ⟨x1, y1, z1, e1, r1⟩ := its_rd (V7.out.1.on hW) (fun x hx => (V7.out.2 x hx).on hW) hvz
                    simp only [Value.slice.injEq] at e1
                    obtain ⟨rfl, rfl, rfl⟩ := e1
                    obtain ⟨x2, y2, z2, e2, r2⟩ := its_rd q2.1 q2.2 TL.out.2
                    simp only [Value.slice.injEq] at e2
                    obtain ⟨rfl, rfl, rfl⟩ := e2
                    exact ⟨r1, r2⟩)
                  rw [cfA_cells]
                  clear hbB hvs hvo hvt hvz PN P6 M6 B6 V7
                  go_wp2_with (fail)
                  have BC := (Below.refl wB.heap.size wB).alloc (Nat.le_refl _) (.cells #[.string ⟨#[97]⟩, .int .u8 2, .int .u8 0, .bool false, .int .u8 0, .int .u16 0] 36)
                  refine (sameItems _ _ _ _ _ _ _ _ _ (RD.out _ BC).1 (RD.out _ BC).2).mono ?_
                  rintro e wD ⟨zz, rfl, hzz, hbD⟩
                  obtain rfl : zz = true := hzz.2 EQ.out
                  have BD := below_on BC hbD
                  have P8 := Lib.hid (show PinS wD lo (21 + (i + 1)) g _ PP _ _ _ _ from ⟨P7.out.one.on BD, P7.out.good⟩)
                  have M8 := Lib.hid (M7.out.on BD)
                  have B8 := Lib.hid (below_on B7.out BD)
                  clear BC BD hbD hzz P7 M7 B7 RD EQ
                  go_wp2
                  go_roundw
                  case rel => exact ⟨i + 1, _, _, PP, _, _, _, by go_num, by omega, P8.out, E6.out, M8.out, F6.out, B8.out⟩
                  case measure => simp [intOf]; omega
theorem pinned_row : Rows.StorePinnedSaid :=
  OpenClaim.holds_of_wide 4 Tryz.f4 rfl rfl rfl rfl rfl rfl rfl ⟨rfl, rfl, rfl, rfl, rfl⟩ rfl rfl rfl rfl rfl (by kernel_rfl) Tryz.func4 (by kernel_rfl)
    (of_decide_eq_true (by kernel_rfl)) (by unfold Func.isWrapper; rw [if_neg (of_decide_eq_false (by kernel_rfl))]; exact ⟨rfl, rfl⟩)
    (fun os started H enc _ => lift (C := Tryz.checked) (s := Rows.storePinnedSpec) (conds := Rows.storePinnedRow.domain) os started H enc prog_own (by kernel_rfl) Tryz.func4 prog_laid rfl Tryz.underlying4 rfl
      (fun ds hl => by
        have hl : ds.length = 2 := hl
        match ds, hl with
        | [_, _], _ => rfl)
      (of_decide_eq_true (by kernel_rfl))
      (ChangeSpec.witness6 (enc := enc) (C := Tryz.checked) false ⟨#[], #[.slice none 0 0, .slice none 0 0], []⟩ 8 (by kernel_rfl) (by kernel_rfl) (by kernel_rfl) (by kernel_rfl))
      (fun W base args ds p g => by
        rw [Tryz.params4] at g
        obtain ⟨a, n, c, xs, e0, hx⟩ := g.ops9 0 rfl
        obtain ⟨a2, n2, c2, ys, e1, hy⟩ := g.ops9 1 rfl
        rw [args2 g.count e0 e1]
        exact pinned_walk a n c xs a2 n2 c2 ys W hx hy))
end Go.Proofs.YtdmnflncgmnghaaGreat
