/-
  CursorGone holds: there are at most so many cursors; one that is gone, by whichever way, is told as ErrCursor for ever.
-/
import Derived.Test.YtadkfedglkhgjaaRows
import Derived.Test.YtadkfedglkhgjaaQrx
import Derived.StillTailTactics
import Derived.Deep.CutBlock
import Derived.Deep.RegionHeld3
namespace Go.Proofs.Ytadkfedglkhgjaa
open Go.ChangeShapes Go.WideShapes Go.ChangeAt Go.RowKit

def GoneS (w0 : World) (x k : Nat) (s : CTab) (v7 v8 v9 : Value) (ows : List Nat) (gs : List Bool) (w : World) : Prop := CAt w0 k x s w ∧ Row1 w0.heap.size w 22 v7 (numsV ows.length) ∧ Row1 w0.heap.size w 42 v8 (owsV ows) ∧ Row1 w0.heap.size w 4 v9 (gsV gs) ∧ GOK s ows gs
section
variable {w0 w w' : World} {x k k' : Nat} {s s' : CTab} {v7 v8 v9 v : Value} {ows : List Nat} {gs : List Bool}
theorem GoneS.on (h : GoneS w0 x k s v7 v8 v9 ows gs w) (hb : Below w.heap.size w w') : GoneS w0 x k s v7 v8 v9 ows gs w' := ⟨h.1.on hb, h.2.1.on hb, h.2.2.1.on hb, h.2.2.2.1.on hb, h.2.2.2.2⟩
theorem GoneS.step (h : GoneS w0 x k s v7 v8 v9 ows gs w) (hc : CAt w0 k' x s' w') (hs : Stays w w') (hg : GOK s' ows gs) : GoneS w0 x k' s' v7 v8 v9 ows gs w' :=
  ⟨hc, h.2.1.stays hs (by decide) (by decide) (by decide) (by decide), h.2.2.1.stays hs (by decide) (by decide) (by decide) (by decide), h.2.2.2.1.stays hs (by decide) (by decide) (by decide) (by decide), hg⟩
theorem GoneS.more (h : GoneS w0 x k s v7 v8 v9 ows gs w) (hk : k ≤ k') : GoneS w0 x k' s v7 v8 v9 ows gs w := ⟨h.1.more hk, h.2⟩
end
def InnerG (w0 : World) (x k0 : Nat) (s : CTab) (a7 a8 a9 : Option Addr) (c7 c8 c9 M : Nat) (ows : List Nat) (gs : List Bool) (k : Nat) (w : World) : Prop := CAt w0 k0 x s w ∧ Row1 w0.heap.size w 22 (.slice a7 M c7) (numsV M) ∧ Row1 w0.heap.size w 42 (.slice a8 M c8) (owsV ows) ∧ Row1 w0.heap.size w 4 (.slice a9 M c9) (gsV (goneL s gs k))
theorem InnerG.step {w0 w w' : World} {x k0 c7 c8 c9 M k : Nat} {s : CTab} {a7 a8 a9 : Option Addr} {ows : List Nat} {gs : List Bool} (h : InnerG w0 x k0 s a7 a8 a9 c7 c8 c9 M ows gs k w) (hc : CAt w0 k0 x s w') (hs : Stays w w') : InnerG w0 x k0 s a7 a8 a9 c7 c8 c9 M ows gs k w' :=
  ⟨hc, h.2.1.stays hs (by decide) (by decide) (by decide) (by decide), h.2.2.1.stays hs (by decide) (by decide) (by decide) (by decide), h.2.2.2.stays hs (by decide) (by decide) (by decide) (by decide)⟩
theorem InnerG.store {w0 w : World} {x k0 c7 c8 c9 M k g : Nat} {s : CTab} {a7 a8 : Option Addr} {ows : List Nat} {gs : List Bool} (h : InnerG w0 x k0 s a7 a8 (some ⟨g, 0, none⟩) c7 c8 c9 M ows gs k w) (hk : k < gs.length) (b : Bool) (hb : b = !there14 s k) : InnerG w0 x k0 s a7 a8 (some ⟨g, 0, none⟩) c7 c8 c9 M ows gs (k + 1) (w.setCell ⟨g, k, none⟩ (.bool b)) := by
  obtain ⟨h1, h2, h3, h4⟩ := h
  have hl : k < (gsV (goneL s gs k)).length := by simp [gsV, goneL_len s gs k (Nat.le_of_lt hk)]; exact hk
  have hkp : Kept (ownB (.slice (some ⟨g, 0, none⟩) M c9)) w (w.setCell ⟨g, k, none⟩ (.bool b)) := (Kept.refl _ w).setCell ⟨g, k, none⟩ (.bool b) (.inl (mem_ownB.2 rfl))
  have h5 := h4.put k hl (.bool b)
  rw [gsV_set, hb, goneL_set s gs k hk, ← hb] at h5
  exact ⟨h1.kept_row h4 (by decide) (by decide) (by decide) (by decide) hkp, h2.kept_row h4 (by decide) hkp, h3.kept_row h4 (by decide) hkp, h5⟩
theorem blank_below {g : Nat} {w W : World} (h : Below w.heap.size w W) (hg : w.heap.size ≤ g) (v0 v1 v2 v3 v4 v5 v6 v7 : Value) : Below w.heap.size w ((((((((W.setCell ⟨g, 0, none⟩ v0).setCell ⟨g, 1, none⟩ v1).setCell ⟨g, 2, none⟩ v2).setCell ⟨g, 3, none⟩ v3).setCell ⟨g, 4, none⟩ v4).setCell ⟨g, 5, none⟩ v5).setCell ⟨g, 6, none⟩ v6).setCell ⟨g, 7, none⟩ v7) := by
  have k : Kept [g] W _ := ((((((((Kept.refl [g] W).setCell ⟨g, 0, none⟩ v0 (.inl (by simp))).setCell ⟨g, 1, none⟩ v1 (.inl (by simp))).setCell ⟨g, 2, none⟩ v2 (.inl (by simp))).setCell ⟨g, 3, none⟩ v3 (.inl (by simp))).setCell ⟨g, 4, none⟩ v4 (.inl (by simp))).setCell ⟨g, 5, none⟩ v5 (.inl (by simp))).setCell ⟨g, 6, none⟩ v6 (.inl (by simp))).setCell ⟨g, 7, none⟩ v7 (.inl (by simp))
  exact h.trans (k.below (fun b hb => by rw [List.mem_singleton] at hb; omega) h.size)
set_option maxRecDepth 100000 in
set_option maxHeartbeats 12800000 in
theorem gone_walk (a : Option Addr) (n c : Nat) (xs : List shOp14.T) (idle : Nat) (hi : idle < 4294967296) (w : World) (hn : n ≤ 140737488351232) (hx : Rd (· < w.heap.size) w shOps14 [.slice a n c] xs) :
    Calls Try.prog 4 #[.slice a n c, .int .u32 (idle : Int)] w fun e w' => e = .returned (.bool true) ∧ Below w.heap.size w w' := by
  have HX := Lib.hid hx
  clear hx
  go_enter Try.func4, Try.ntmps4
  go_wp2_with (fail)
  refine (alive14 w).mono ?_
  rintro e w1 ⟨rfl, hb1⟩
  go_wp2_with (fail)
  refine (c_new w w1 hb1 idle hi).mono ?_
  rintro e w2 ⟨x, rfl, h2⟩
  have H2 := Lib.hid (show GoneS w x 0 ⟨[], 0, idle⟩ (.slice none 0 0) (.slice none 0 0) (.slice none 0 0) [] [] w2 from ⟨h2, Row1.nil _ _ _, Row1.nil _ _ _, Row1.nil _ _ _, ⟨rfl, rfl, by simp, by simp, by simp⟩⟩)
  clear hb1 h2
  go_wp2
  go_loopw [6, 7, 8, 9, 10] (fun s6 s7 s8 s9 s10 wr => ∃ (i now : Nat) (s : CTab) (ows : List Nat) (gs : List Bool) (v7 v8 v9 : Value), s6 = .int .u32 (now : Int) ∧ s7 = v7 ∧ s8 = v8 ∧ s9 = v9 ∧ s10 = .int .i64 (i : Int) ∧ i ≤ 60 ∧ now < 4294967296 ∧ ows.length ≤ i ∧ Hid (GoneS w x i s v7 v8 v9 ows gs wr)) (fun _ _ _ _ s10 _ => 60 - (intOf s10).toNat)
  case atStart => exact ⟨0, 0, _, [], [], _, _, _, rfl, rfl, rfl, rfl, rfl, by omega, by omega, by simp, H2.out⟩
  case round =>
    clear H2
    obtain ⟨i, now, s, ows, gs, v7, v8, v9, rfl, e7, e8, e9, rfl, hi60, hnow, hol, HS⟩ := hrel
    obtain rfl := e7.symm
    obtain rfl := e8.symm
    obtain rfl := e9.symm
    go_upto_region 9 with fail
    go_cut [30] (fun s30 wx => ∃ z : Bool, s30 = .bool z ∧ Hid (z = true ↔ (i < n ∧ i < 60)) ∧ wx = wr)
    case first =>
      by_cases hin : i < n
      · by_cases hi10 : i < 60
        · have hd1 : decide ((i : Int) < 60) = true := decide_eq_true (by omega)
          go_wp2
          go_meet
          exact ⟨true, rfl, by simp [Hid]; omega, rfl⟩
        · have hd1 : decide ((i : Int) < 60) = false := decide_eq_false (by omega)
          go_wp2
          go_meet
          exact ⟨false, rfl, by simp [Hid]; omega, rfl⟩
      · go_wp2
        go_meet
        exact ⟨false, rfl, by simp [Hid]; omega, rfl⟩
    case rest =>
      obtain ⟨z, rfl, HZI, rfl⟩ := hcut
      rename World => wq
      have BQ := Lib.hid HS.out.1.below
      cases z
      · clear HZI
        go_wp2
        go_ret
        exact ⟨rfl, BQ.out⟩
      obtain ⟨hin, hi2⟩ := HZI.out.1 rfl
      clear HZI
      obtain ⟨b, off, o, l, rfl, hbl, hk, how, hon, hpg, hah, hpw, hhn, OPF⟩ := rd_op14 HX.out i hin
      obtain ⟨hb0, hql, -, hcc⟩ := OPF.out _ BQ.out
      have m0 : wq.cell? ⟨b, off + i * 12, none⟩ = some (.int .u8 (o.kind : Int)) := hcc 0 _ rfl
      have m1 : wq.cell? ⟨b, off + i * 12 + 1, none⟩ = some (.int .u8 (o.owner : Int)) := hcc 1 _ rfl
      have m2 : wq.cell? ⟨b, off + i * 12 + 2, none⟩ = some (.int .i64 o.pin) := hcc 2 _ rfl
      have m3 : wq.cell? ⟨b, off + i * 12 + 3, none⟩ = some (.slice o.ql.pv.1 o.ql.pv.2.1 o.ql.pv.2.2) := hcc 3 _ rfl
      have m4 : wq.cell? ⟨b, off + i * 12 + 4, none⟩ = some (.slice o.ql.p0.1 o.ql.p0.2.1 o.ql.p0.2.2) := hcc 4 _ rfl
      have m5 : wq.cell? ⟨b, off + i * 12 + 5, none⟩ = some (.slice o.ql.p1.1 o.ql.p1.2.1 o.ql.p1.2.2) := hcc 5 _ rfl
      have m6 : wq.cell? ⟨b, off + i * 12 + 6, none⟩ = some (.slice o.ql.p2.1 o.ql.p2.2.1 o.ql.p2.2.2) := hcc 6 _ rfl
      have m7 : wq.cell? ⟨b, off + i * 12 + 7, none⟩ = some (.int .u32 (o.n : Int)) := hcc 7 _ rfl
      have m8 : wq.cell? ⟨b, off + i * 12 + 8, none⟩ = some (.int .u32 (o.page : Int)) := hcc 8 _ rfl
      have m9 : wq.cell? ⟨b, off + i * 12 + 9, none⟩ = some (.slice o.ha o.hn o.hc) := hcc 9 _ rfl
      have m10 : wq.cell? ⟨b, off + i * 12 + 10, none⟩ = some (.bool o.tell) := hcc 10 _ rfl
      have m11 : wq.cell? ⟨b, off + i * 12 + 11, none⟩ = some (.int .u32 (o.ahead : Int)) := hcc 11 _ rfl
      have IN0 := Lib.hid (fun (wz : World) (hz : Below w.heap.size w wz) => show o.ql.In (· < w.heap.size) wz from (OPF.out wz hz).2.1)
      clear hcc hql OPF hhn
      obtain ⟨kd, ow, pin, ql, n1, pg, ha, hm, hc, tl, ah⟩ := o
      have IN := Lib.hid (show ∀ wz, Below w.heap.size w wz → ql.In (· < w.heap.size) wz from IN0.out)
      clear IN0
      simp only at m0 m1 m2 m3 m4 m5 m6 m7 m8 m9 m10 m11 hk how hon hpg hah hpw
      obtain ⟨W4, hW4⟩ : ∃ W4, wq.alloc (.cells #[.int .u8 (kd : Int), .int .u8 (ow : Int), .int .i64 pin, .slice ql.pv.1 ql.pv.2.1 ql.pv.2.2, .slice ql.p0.1 ql.p0.2.1 ql.p0.2.2, .slice ql.p1.1 ql.p1.2.1 ql.p1.2.2, .slice ql.p2.1 ql.p2.2.1 ql.p2.2.2, .int .u32 (n1 : Int), .int .u32 (pg : Int), .slice ha hm hc, .bool tl, .int .u32 (ah : Int)] 37) = W4 := ⟨_, rfl⟩
      have hb4 : Below wq.heap.size wq W4 := by rw [← hW4]; exact (Below.refl _ _).alloc (Nat.le_refl _) _
      have HG4 := Lib.hid (HS.out.on hb4)
      obtain ⟨bo, hob⟩ : ∃ bo, wq.heap.size = bo := ⟨_, rfl⟩
      have X4 := Lib.hid (show Blk W4 bo 37 [.int .u8 (kd : Int), .int .u8 (ow : Int), .int .i64 pin, .slice ql.pv.1 ql.pv.2.1 ql.pv.2.2, .slice ql.p0.1 ql.p0.2.1 ql.p0.2.2, .slice ql.p1.1 ql.p1.2.1 ql.p1.2.2, .slice ql.p2.1 ql.p2.2.1 ql.p2.2.2, .int .u32 (n1 : Int), .int .u32 (pg : Int), .slice ha hm hc, .bool tl, .int .u32 (ah : Int)] from by rw [← hob, ← hW4]; exact Blk.new _ _ _)
      have q3 : W4.cell? ⟨bo, 3, none⟩ = some (.slice ql.pv.1 ql.pv.2.1 ql.pv.2.2) := X4.out.cell 3
      have B4 := Lib.hid (BQ.out.trans (hb4.mono BQ.out.size))
      obtain ⟨W5, hW5⟩ : ∃ W5, W4.alloc (.cells #[.int .u32 0, .slice ql.pv.1 ql.pv.2.1 ql.pv.2.2, .slice none 0 0] 40) = W5 := ⟨_, rfl⟩
      have bi : Below W4.heap.size W4 W5 := by rw [← hW5]; exact (Below.refl W4.heap.size W4).alloc (Nat.le_refl _) _
      have HG5 := Lib.hid (HG4.out.on bi)
      have X5 := Lib.hid ((Kept.of_below (F := []) bi (Nat.le_refl _)).blk X4.out (by simp))
      have B5 := Lib.hid (B4.out.trans (bi.mono B4.out.size))
      have q4 : W5.cell? ⟨bo, 4, none⟩ = some (.slice ql.p0.1 ql.p0.2.1 ql.p0.2.2) := X5.out.cell 4
      have q5 : W5.cell? ⟨bo, 5, none⟩ = some (.slice ql.p1.1 ql.p1.2.1 ql.p1.2.2) := X5.out.cell 5
      have q6 : W5.cell? ⟨bo, 6, none⟩ = some (.slice ql.p2.1 ql.p2.2.1 ql.p2.2.2) := X5.out.cell 6
      have GR0 := item_one W4 ql.pv ql.q.vec _ (IN.out W4 B4.out).vec
      rw [hW5] at GR0
      have GR := Lib.hid (rgreat14 W5 (fun _ => True) _ 1 1 _ ql GR0 ((IN.out W5 B5.out).mono (fun _ _ _ => trivial)))
      clear HS BQ hb4 bi HG4 X4 B4 GR0
      go_wp2_with (first | (rw [hW4]) | (rw [hW5]) | fail)
      clear hW4 hW5 m0 m1 m2 m3 m4 m5 m6 m7 m8 m9 m10 m11 q3 q4 q5 q6
      refine GR.out.mono ?_
      rintro e w6 ⟨gg, rfl, -, hb6⟩
      have HG6 := Lib.hid (HG5.out.on hb6)
      have X6 := Lib.hid ((Kept.of_below (F := []) hb6 (Nat.le_refl _)).blk X5.out (by simp))
      have B6 := Lib.hid (B5.out.trans (hb6.mono B5.out.size))
      have c0 : w6.cell? ⟨bo, 0, none⟩ = some (.int .u8 (kd : Int)) := X6.out.cell 0
      have c1 : w6.cell? ⟨bo, 1, none⟩ = some (.int .u8 (ow : Int)) := X6.out.cell 1
      have c2 : w6.cell? ⟨bo, 2, none⟩ = some (.int .i64 pin) := X6.out.cell 2
      have c3 : w6.cell? ⟨bo, 3, none⟩ = some (.slice ql.pv.1 ql.pv.2.1 ql.pv.2.2) := X6.out.cell 3
      have c4 : w6.cell? ⟨bo, 4, none⟩ = some (.slice ql.p0.1 ql.p0.2.1 ql.p0.2.2) := X6.out.cell 4
      have c5 : w6.cell? ⟨bo, 5, none⟩ = some (.slice ql.p1.1 ql.p1.2.1 ql.p1.2.2) := X6.out.cell 5
      have c6 : w6.cell? ⟨bo, 6, none⟩ = some (.slice ql.p2.1 ql.p2.2.1 ql.p2.2.2) := X6.out.cell 6
      have c7 : w6.cell? ⟨bo, 7, none⟩ = some (.int .u32 (n1 : Int)) := X6.out.cell 7
      have c11 : w6.cell? ⟨bo, 11, none⟩ = some (.int .u32 (ah : Int)) := X6.out.cell 11
      clear hb6 HG5 X5 B5 GR
      cases gg
      rotate_left
      · go_wp2
        go_ret
        exact ⟨rfl, B6.out⟩
      obtain ⟨nw, hnw⟩ : ∃ nw, (now + ah) % 4294967296 = nw := ⟨_, rfl⟩
      have hnwl : nw < 4294967296 := by omega
      have hnwW : IntKind.u32.wrap ((now : Int) + (ah : Int)) = (nw : Int) := by rw [IntKind.wrap_u32]; omega
      obtain ⟨o2, ho2⟩ : ∃ o2, ow % 3 = o2 := ⟨_, rfl⟩
      have ho3 : o2 < 3 := by omega
      have hmo : (ow : Int) % 3 = (o2 : Int) := by omega
      have hmt : Int.tmod (ow : Int) 3 = (o2 : Int) := by rw [← ho2]; exact (Int.ofNat_tmod ow 3).symm
      have hmw : IntKind.u64.wrap (o2 : Int) = (o2 : Int) := by rw [IntKind.wrap_u64]; omega
      obtain ⟨kk, hkk⟩ : ∃ kk, kd % 6 = kk := ⟨_, rfl⟩
      have hk6 : kk < 6 := by omega
      have hko : (kd : Int) % 6 = (kk : Int) := by omega
      have hkt : Int.tmod (kd : Int) 6 = (kk : Int) := by rw [← hkk]; exact (Int.ofNat_tmod kd 6).symm
      clear hnw ho2 hkk hnow
      go_upto_block 2 with fail
      go_cut [7, 8, 9, 13, 14] from 55 to 97 (fun s7 s8 s9 s13 s14 wx => ∃ (s' : CTab) (ows' : List Nat) (gs' : List Bool) (v7' v8' v9' u13 u14 : Value), s7 = v7' ∧ s8 = v8' ∧ s9 = v9' ∧ s13 = u13 ∧ s14 = u14 ∧ ows'.length ≤ i + 1 ∧ Hid (GoneS w x (i + 1) s' v7' v8' v9' ows' gs' wx))
      case first =>
        by_cases hk0 : kk = 0
        · have z0 : ((kk : Int) == 0) = true := by rw [beq_iff_eq]; omega
          clear hk0
          have OP := Lib.hid (c_open HG6.out.1 (Below.refl _ w6) (by omega) o2 nw pin (by omega) hnwl ql ((IN.out w6 B6.out).mono (fun b hb _ => .inl hb)))
          have hlast : s.last = ows.length := HG6.out.2.2.2.2.last
          have GK := Lib.hid (show gs.length = ows.length from HG6.out.2.2.2.2.len)
          clear X6 B6 IN
          go_wp2_with (fail)
          refine OP.out.mono ?_
          rintro e w7 ⟨s0, gone, hs, rfl, hc7, hst⟩
          have GG := Lib.hid (show GOK (s0.start o2 pin ql.q nw) (ows ++ [o2]) (gs ++ [false]) from by
            have h0 := HG6.out.2.2.2.2
            rcases hs with ⟨-, rfl, -⟩ | ⟨-, c', -, rfl, -⟩
            · exact h0.start o2 nw ho3 pin ql.q
            · have h1 : GOK (s.cut c'.n) ows gs := GOK.fewer h0 rfl (fun c hc => (List.mem_filter.1 hc).1)
              exact h1.start o2 nw ho3 pin ql.q)
          obtain ⟨nn, hnn⟩ : ∃ nn, ows.length + 1 = nn := ⟨_, rfl⟩
          rw [hlast, hnn]
          have HNN := Lib.hid hnn
          have Hw7 := Lib.hid hc7
          have R7 := Lib.hid (HG6.out.2.1.stays hst (by decide) (by decide) (by decide) (by decide))
          have R8 := Lib.hid (HG6.out.2.2.1.stays hst (by decide) (by decide) (by decide) (by decide))
          have R9 := Lib.hid (HG6.out.2.2.2.1.stays hst (by decide) (by decide) (by decide) (by decide))
          clear hs hc7 hst hlast hnn OP HG6 c0 c1 c2 c3 c4 c5 c6 c7 c11
          go_wp2_with (first
            | (at_builtin
               refine app_row1 w7 ?_ (.tmp 75) (.tmp 77) 70 22 ?_ Try.underlying70 (.int .u32 0) 4 u32_info14 ?_ w.heap.size v7 (numsV ows.length) (.int .u32 (nn : Int)) ?_ ?_ R7.out ?_ ?_ ?_ ?_ ?_
               · rfl
               · rfl
               · rfl
               · rfl
               · rfl
               · simp [Value.oneCell']
               · exact Hw7.out.below.size
               · simp [numsV]; omega
               · simp [numsV]; omega
               intro w7v w8 a1 a2 a3
               have Hw8 := Lib.hid (Hw7.out.kept_row R7.out (by decide) (by decide) (by decide) (by decide) a2)
               have S8 := Lib.hid (R8.out.kept_row R7.out (by decide) a2)
               have S9 := Lib.hid (R9.out.kept_row R7.out (by decide) a2)
               have S7 := Lib.hid a1
               clear a1 a2 a3 Hw7 R7 R8 R9)
            | (at_builtin
               refine app_row1 w8 ?_ (.tmp 79) (.tmp 81) 71 42 ?_ Try.underlying71 (.int .u64 0) 8 u64_info14 ?_ w.heap.size v8 (owsV ows) (.int .u64 (o2 : Int)) ?_ ?_ S8.out ?_ ?_ ?_ ?_ ?_
               · rfl
               · rfl
               · rfl
               · rfl
               · rfl
               · simp [Value.oneCell']
               · exact Hw8.out.below.size
               · simp [owsV]; omega
               · simp [owsV]; omega
               intro w8v w9 b1 b2 b3
               have Hw9 := Lib.hid (Hw8.out.kept_row S8.out (by decide) (by decide) (by decide) (by decide) b2)
               have U7 := Lib.hid (S7.out.kept_row S8.out (by decide) b2)
               have U9 := Lib.hid (S9.out.kept_row S8.out (by decide) b2)
               have U8 := Lib.hid b1
               clear b1 b2 b3 Hw8 S7 S8 S9)
            | (at_builtin
               refine app_row1 w9 ?_ (.tmp 83) (.tmp 84) 72 4 ?_ Try.underlying72 (.bool false) 1 bool_info14 ?_ w.heap.size v9 (gsV gs) (.bool false) ?_ ?_ U9.out ?_ ?_ ?_ ?_ ?_
               · rfl
               · rfl
               · rfl
               · rfl
               · rfl
               · simp [Value.oneCell']
               · exact Hw9.out.below.size
               · simp [gsV, GK.out]; omega
               · simp [gsV, GK.out]; omega
               intro w9v w10 d1 d2 d3
               have Hw10 := Lib.hid (Hw9.out.kept_row U9.out (by decide) (by decide) (by decide) (by decide) d2)
               have V7 := Lib.hid (U7.out.kept_row U9.out (by decide) d2)
               have V8 := Lib.hid (U8.out.kept_row U9.out (by decide) d2)
               have V9 := Lib.hid d1
               clear d1 d2 d3 Hw9 U7 U8 U9)
            | fail)
          go_meet
          refine ⟨_, ows ++ [o2], gs ++ [false], w7v, w8v, w9v, _, _, rfl, rfl, rfl, rfl, rfl, by simp; omega, Hw10.out, ?_, ?_, ?_, GG.out⟩
          · have h := V7.out
            rw [← HNN.out, numsV_succ] at h
            simpa using h
          · have h := V8.out
            unfold owsV at h ⊢
            rw [List.map_append]
            exact h
          · have h := V9.out
            unfold gsV at h ⊢
            rw [List.map_append]
            exact h
        by_cases hk1 : kk = 1
        · have z0 : ((kk : Int) == 0) = false := by rw [beq_eq_false_iff_ne]; omega
          have z1 : ((kk : Int) == 1) = true := by rw [beq_iff_eq]; omega
          clear hk1
          have OP := Lib.hid (c_open HG6.out.1 (Below.refl _ w6) (by omega) o2 nw pin (by omega) hnwl ql ((IN.out w6 B6.out).mono (fun b hb _ => .inl hb)))
          have hlast : s.last = ows.length := HG6.out.2.2.2.2.last
          have GK := Lib.hid (show gs.length = ows.length from HG6.out.2.2.2.2.len)
          clear X6 B6 IN
          go_wp2_with (fail)
          refine OP.out.mono ?_
          rintro e w7 ⟨s0, gone, hs, rfl, hc7, hst⟩
          have GG := Lib.hid (show GOK (s0.start o2 pin ql.q nw) (ows ++ [o2]) (gs ++ [false]) from by
            have h0 := HG6.out.2.2.2.2
            rcases hs with ⟨-, rfl, -⟩ | ⟨-, c', -, rfl, -⟩
            · exact h0.start o2 nw ho3 pin ql.q
            · have h1 : GOK (s.cut c'.n) ows gs := GOK.fewer h0 rfl (fun c hc => (List.mem_filter.1 hc).1)
              exact h1.start o2 nw ho3 pin ql.q)
          obtain ⟨nn, hnn⟩ : ∃ nn, ows.length + 1 = nn := ⟨_, rfl⟩
          rw [hlast, hnn]
          have HNN := Lib.hid hnn
          have Hw7 := Lib.hid hc7
          have R7 := Lib.hid (HG6.out.2.1.stays hst (by decide) (by decide) (by decide) (by decide))
          have R8 := Lib.hid (HG6.out.2.2.1.stays hst (by decide) (by decide) (by decide) (by decide))
          have R9 := Lib.hid (HG6.out.2.2.2.1.stays hst (by decide) (by decide) (by decide) (by decide))
          clear hs hc7 hst hlast hnn OP HG6 c0 c1 c2 c3 c4 c5 c6 c7 c11
          go_wp2_with (first
            | (at_builtin
               refine app_row1 w7 ?_ (.tmp 75) (.tmp 77) 70 22 ?_ Try.underlying70 (.int .u32 0) 4 u32_info14 ?_ w.heap.size v7 (numsV ows.length) (.int .u32 (nn : Int)) ?_ ?_ R7.out ?_ ?_ ?_ ?_ ?_
               · rfl
               · rfl
               · rfl
               · rfl
               · rfl
               · simp [Value.oneCell']
               · exact Hw7.out.below.size
               · simp [numsV]; omega
               · simp [numsV]; omega
               intro w7v w8 a1 a2 a3
               have Hw8 := Lib.hid (Hw7.out.kept_row R7.out (by decide) (by decide) (by decide) (by decide) a2)
               have S8 := Lib.hid (R8.out.kept_row R7.out (by decide) a2)
               have S9 := Lib.hid (R9.out.kept_row R7.out (by decide) a2)
               have S7 := Lib.hid a1
               clear a1 a2 a3 Hw7 R7 R8 R9)
            | (at_builtin
               refine app_row1 w8 ?_ (.tmp 79) (.tmp 81) 71 42 ?_ Try.underlying71 (.int .u64 0) 8 u64_info14 ?_ w.heap.size v8 (owsV ows) (.int .u64 (o2 : Int)) ?_ ?_ S8.out ?_ ?_ ?_ ?_ ?_
               · rfl
               · rfl
               · rfl
               · rfl
               · rfl
               · simp [Value.oneCell']
               · exact Hw8.out.below.size
               · simp [owsV]; omega
               · simp [owsV]; omega
               intro w8v w9 b1 b2 b3
               have Hw9 := Lib.hid (Hw8.out.kept_row S8.out (by decide) (by decide) (by decide) (by decide) b2)
               have U7 := Lib.hid (S7.out.kept_row S8.out (by decide) b2)
               have U9 := Lib.hid (S9.out.kept_row S8.out (by decide) b2)
               have U8 := Lib.hid b1
               clear b1 b2 b3 Hw8 S7 S8 S9)
            | (at_builtin
               refine app_row1 w9 ?_ (.tmp 83) (.tmp 84) 72 4 ?_ Try.underlying72 (.bool false) 1 bool_info14 ?_ w.heap.size v9 (gsV gs) (.bool false) ?_ ?_ U9.out ?_ ?_ ?_ ?_ ?_
               · rfl
               · rfl
               · rfl
               · rfl
               · rfl
               · simp [Value.oneCell']
               · exact Hw9.out.below.size
               · simp [gsV, GK.out]; omega
               · simp [gsV, GK.out]; omega
               intro w9v w10 d1 d2 d3
               have Hw10 := Lib.hid (Hw9.out.kept_row U9.out (by decide) (by decide) (by decide) (by decide) d2)
               have V7 := Lib.hid (U7.out.kept_row U9.out (by decide) d2)
               have V8 := Lib.hid (U8.out.kept_row U9.out (by decide) d2)
               have V9 := Lib.hid d1
               clear d1 d2 d3 Hw9 U7 U8 U9)
            | fail)
          go_meet
          refine ⟨_, ows ++ [o2], gs ++ [false], w7v, w8v, w9v, _, _, rfl, rfl, rfl, rfl, rfl, by simp; omega, Hw10.out, ?_, ?_, ?_, GG.out⟩
          · have h := V7.out
            rw [← HNN.out, numsV_succ] at h
            simpa using h
          · have h := V8.out
            unfold owsV at h ⊢
            rw [List.map_append]
            exact h
          · have h := V9.out
            unfold gsV at h ⊢
            rw [List.map_append]
            exact h
        by_cases hk2 : kk = 2
        · have z0 : ((kk : Int) == 0) = false := by rw [beq_eq_false_iff_ne]; omega
          have z1 : ((kk : Int) == 1) = false := by rw [beq_eq_false_iff_ne]; omega
          have z2 : ((kk : Int) == 2) = true := by rw [beq_iff_eq]; omega
          clear hk2
          have OP := Lib.hid (c_open HG6.out.1 (Below.refl _ w6) (by omega) o2 nw pin (by omega) hnwl ql ((IN.out w6 B6.out).mono (fun b hb _ => .inl hb)))
          have hlast : s.last = ows.length := HG6.out.2.2.2.2.last
          have GK := Lib.hid (show gs.length = ows.length from HG6.out.2.2.2.2.len)
          clear X6 B6 IN
          go_wp2_with (fail)
          refine OP.out.mono ?_
          rintro e w7 ⟨s0, gone, hs, rfl, hc7, hst⟩
          have GG := Lib.hid (show GOK (s0.start o2 pin ql.q nw) (ows ++ [o2]) (gs ++ [false]) from by
            have h0 := HG6.out.2.2.2.2
            rcases hs with ⟨-, rfl, -⟩ | ⟨-, c', -, rfl, -⟩
            · exact h0.start o2 nw ho3 pin ql.q
            · have h1 : GOK (s.cut c'.n) ows gs := GOK.fewer h0 rfl (fun c hc => (List.mem_filter.1 hc).1)
              exact h1.start o2 nw ho3 pin ql.q)
          obtain ⟨nn, hnn⟩ : ∃ nn, ows.length + 1 = nn := ⟨_, rfl⟩
          rw [hlast, hnn]
          have HNN := Lib.hid hnn
          have Hw7 := Lib.hid hc7
          have R7 := Lib.hid (HG6.out.2.1.stays hst (by decide) (by decide) (by decide) (by decide))
          have R8 := Lib.hid (HG6.out.2.2.1.stays hst (by decide) (by decide) (by decide) (by decide))
          have R9 := Lib.hid (HG6.out.2.2.2.1.stays hst (by decide) (by decide) (by decide) (by decide))
          clear hs hc7 hst hlast hnn OP HG6 c0 c1 c2 c3 c4 c5 c6 c7 c11
          go_wp2_with (first
            | (at_builtin
               refine app_row1 w7 ?_ (.tmp 75) (.tmp 77) 70 22 ?_ Try.underlying70 (.int .u32 0) 4 u32_info14 ?_ w.heap.size v7 (numsV ows.length) (.int .u32 (nn : Int)) ?_ ?_ R7.out ?_ ?_ ?_ ?_ ?_
               · rfl
               · rfl
               · rfl
               · rfl
               · rfl
               · simp [Value.oneCell']
               · exact Hw7.out.below.size
               · simp [numsV]; omega
               · simp [numsV]; omega
               intro w7v w8 a1 a2 a3
               have Hw8 := Lib.hid (Hw7.out.kept_row R7.out (by decide) (by decide) (by decide) (by decide) a2)
               have S8 := Lib.hid (R8.out.kept_row R7.out (by decide) a2)
               have S9 := Lib.hid (R9.out.kept_row R7.out (by decide) a2)
               have S7 := Lib.hid a1
               clear a1 a2 a3 Hw7 R7 R8 R9)
            | (at_builtin
               refine app_row1 w8 ?_ (.tmp 79) (.tmp 81) 71 42 ?_ Try.underlying71 (.int .u64 0) 8 u64_info14 ?_ w.heap.size v8 (owsV ows) (.int .u64 (o2 : Int)) ?_ ?_ S8.out ?_ ?_ ?_ ?_ ?_
               · rfl
               · rfl
               · rfl
               · rfl
               · rfl
               · simp [Value.oneCell']
               · exact Hw8.out.below.size
               · simp [owsV]; omega
               · simp [owsV]; omega
               intro w8v w9 b1 b2 b3
               have Hw9 := Lib.hid (Hw8.out.kept_row S8.out (by decide) (by decide) (by decide) (by decide) b2)
               have U7 := Lib.hid (S7.out.kept_row S8.out (by decide) b2)
               have U9 := Lib.hid (S9.out.kept_row S8.out (by decide) b2)
               have U8 := Lib.hid b1
               clear b1 b2 b3 Hw8 S7 S8 S9)
            | (at_builtin
               refine app_row1 w9 ?_ (.tmp 83) (.tmp 84) 72 4 ?_ Try.underlying72 (.bool false) 1 bool_info14 ?_ w.heap.size v9 (gsV gs) (.bool false) ?_ ?_ U9.out ?_ ?_ ?_ ?_ ?_
               · rfl
               · rfl
               · rfl
               · rfl
               · rfl
               · simp [Value.oneCell']
               · exact Hw9.out.below.size
               · simp [gsV, GK.out]; omega
               · simp [gsV, GK.out]; omega
               intro w9v w10 d1 d2 d3
               have Hw10 := Lib.hid (Hw9.out.kept_row U9.out (by decide) (by decide) (by decide) (by decide) d2)
               have V7 := Lib.hid (U7.out.kept_row U9.out (by decide) d2)
               have V8 := Lib.hid (U8.out.kept_row U9.out (by decide) d2)
               have V9 := Lib.hid d1
               clear d1 d2 d3 Hw9 U7 U8 U9)
            | fail)
          go_meet
          refine ⟨_, ows ++ [o2], gs ++ [false], w7v, w8v, w9v, _, _, rfl, rfl, rfl, rfl, rfl, by simp; omega, Hw10.out, ?_, ?_, ?_, GG.out⟩
          · have h := V7.out
            rw [← HNN.out, numsV_succ] at h
            simpa using h
          · have h := V8.out
            unfold owsV at h ⊢
            rw [List.map_append]
            exact h
          · have h := V9.out
            unfold gsV at h ⊢
            rw [List.map_append]
            exact h
        by_cases hk3 : kk = 3
        · have z0 : ((kk : Int) == 0) = false := by rw [beq_eq_false_iff_ne]; omega
          have z1 : ((kk : Int) == 1) = false := by rw [beq_eq_false_iff_ne]; omega
          have z2 : ((kk : Int) == 2) = false := by rw [beq_eq_false_iff_ne]; omega
          have z3 : ((kk : Int) == 3) = true := by rw [beq_iff_eq]; omega
          clear hk3
          have OP := Lib.hid (c_close HG6.out.1 o2 n1 hon)
          clear X6 B6 IN
          go_wp2_with (fail)
          refine OP.out.mono ?_
          rintro e w7 (⟨-, rfl, hc7, hst⟩ | ⟨c', -, rfl, hc7, hst⟩)
          · have HF := Lib.hid ((HG6.out.step hc7 hst (HG6.out.2.2.2.2)).more (Nat.le_succ i))
            clear hc7 hst OP HG6 c0 c1 c2 c3 c4 c5 c6 c7 c11
            go_wp2
            go_meet
            exact ⟨_, ows, gs, v7, v8, v9, _, _, rfl, rfl, rfl, rfl, rfl, by omega, HF.out⟩
          · have HF := Lib.hid ((HG6.out.step hc7 hst (GOK.fewer HG6.out.2.2.2.2 rfl (fun c hc => (List.mem_filter.1 hc).1))).more (Nat.le_succ i))
            clear hc7 hst OP HG6 c0 c1 c2 c3 c4 c5 c6 c7 c11
            go_wp2
            go_meet
            exact ⟨_, ows, gs, v7, v8, v9, _, _, rfl, rfl, rfl, rfl, rfl, by omega, HF.out⟩
        by_cases hk4 : kk = 4
        · have z0 : ((kk : Int) == 0) = false := by rw [beq_eq_false_iff_ne]; omega
          have z1 : ((kk : Int) == 1) = false := by rw [beq_eq_false_iff_ne]; omega
          have z2 : ((kk : Int) == 2) = false := by rw [beq_eq_false_iff_ne]; omega
          have z3 : ((kk : Int) == 3) = false := by rw [beq_eq_false_iff_ne]; omega
          have z4 : ((kk : Int) == 4) = true := by rw [beq_iff_eq]; omega
          clear hk4
          have OP := Lib.hid (c_leave HG6.out.1 o2)
          clear X6 B6 IN
          go_wp2_with (fail)
          refine OP.out.mono ?_
          rintro e w7 ⟨vv, rfl, -, hc7, hst⟩
          have HF := Lib.hid ((HG6.out.step hc7 hst (GOK.fewer HG6.out.2.2.2.2 rfl (fun c hc => (List.mem_filter.1 hc).1))).more (Nat.le_succ i))
          clear hc7 hst OP HG6 c0 c1 c2 c3 c4 c5 c6 c7 c11
          go_wp2
          go_meet
          exact ⟨_, ows, gs, v7, v8, v9, _, _, rfl, rfl, rfl, rfl, rfl, by omega, HF.out⟩
        · have z0 : ((kk : Int) == 0) = false := by rw [beq_eq_false_iff_ne]; omega
          have z1 : ((kk : Int) == 1) = false := by rw [beq_eq_false_iff_ne]; omega
          have z2 : ((kk : Int) == 2) = false := by rw [beq_eq_false_iff_ne]; omega
          have z3 : ((kk : Int) == 3) = false := by rw [beq_eq_false_iff_ne]; omega
          have z4 : ((kk : Int) == 4) = false := by rw [beq_eq_false_iff_ne]; omega
          clear hk0 hk1 hk2 hk3 hk4
          have OP := Lib.hid (c_tick HG6.out.1 nw hnwl)
          clear X6 B6 IN
          go_wp2_with (fail)
          refine OP.out.mono ?_
          rintro e w7 ⟨vv, rfl, -, hc7, hst⟩
          have HF := Lib.hid ((HG6.out.step hc7 hst (GOK.fewer HG6.out.2.2.2.2 rfl (fun c hc => (List.mem_filter.1 hc).1))).more (Nat.le_succ i))
          clear hc7 hst OP HG6 c0 c1 c2 c3 c4 c5 c6 c7 c11
          go_wp2
          go_meet
          exact ⟨_, ows, gs, v7, v8, v9, _, _, rfl, rfl, rfl, rfl, rfl, by omega, HF.out⟩
      case rest =>
        obtain ⟨s', ows', gs', v7', v8', v9', u13', u14', e7, e8, e9, e13, e14, hol', HC⟩ := hcut
        obtain rfl := e7.symm
        obtain rfl := e8.symm
        obtain rfl := e9.symm
        clear e13 e14
        rename World => wc
        have h8 : s'.cs.length ≤ 8 := HC.out.1.few.eight
        obtain ⟨a7, n7, p7, rfl, y7⟩ := HC.out.2.1.parts
        obtain ⟨a8, n8, p8, rfl, y8⟩ := HC.out.2.2.1.parts
        obtain ⟨a9, n9, p9, rfl, y9⟩ := HC.out.2.2.2.1.parts
        obtain ⟨M, hM⟩ : ∃ M, ows'.length = M := ⟨_, rfl⟩
        have z7 : M = n7 := by rw [← y7.out, ← hM]; simp [numsV]
        have z8 : M = n8 := by rw [← y8.out, ← hM]; simp [owsV]
        have hgl : gs'.length = M := HC.out.2.2.2.2.len.trans hM
        have z9 : M = n9 := by rw [← y9.out, ← hgl]; simp [gsV]
        subst z7
        subst z8
        subst z9
        clear y7 y8 y9
        obtain ⟨L, hL⟩ : ∃ L, s'.cs.length = L := ⟨_, rfl⟩
        have CN := Lib.hid (c_len HC.out.1)
        rw [hL] at CN h8
        have hgt : ¬ (8 : Int) < (L : Int) := by omega
        have GOKh := Lib.hid HC.out.2.2.2.2
        have FEW := Lib.hid HC.out.1.few
        have HM := Lib.hid (And.intro hM hgl)
        have HL := Lib.hid hL
        have HC0 := Lib.hid (show InnerG w x (i + 1) s' a7 a8 a9 p7 p8 p9 M ows' gs' 0 wc from ⟨HC.out.1, hM ▸ HC.out.2.1, HC.out.2.2.1, (goneL_zero s' gs').symm ▸ HC.out.2.2.2.1⟩)
        have hM60 : M ≤ 61 := by omega
        have hM61 : M ≤ i + 1 := by omega
        clear HC hM hgl hL HG6 X6 B6 IN c0 c1 c2 c3 c4 c5 c6 c7 c11 hol' e7 e8 e9
        go_wp2_with (fail)
        refine CN.out.mono ?_
        rintro e w7 ⟨rfl, rfl⟩
        clear CN
        go_wp2
        go_loopw [15, 16, 17, 18] (fun s15 s16 s17 s18 wr2 => ∃ (k : Nat) (u17 u18 : Value), s15 = .int .i64 (countT s' k : Int) ∧ s16 = .int .i64 (k : Int) ∧ s17 = u17 ∧ s18 = u18 ∧ k ≤ M ∧ Hid (InnerG w x (i + 1) s' a7 a8 a9 p7 p8 p9 M ows' gs' k wr2)) (fun _ s16 _ _ _ => M - (intOf s16).toNat)
        case atStart => exact ⟨0, _, _, rfl, rfl, rfl, rfl, by omega, HC0.out⟩
        case round =>
          clear HC0
          obtain ⟨k, t17, t18, rfl, rfl, f17, f18, hk, HI⟩ := hrel
          clear f17 f18
          rename World => wr2
          by_cases hkM : k < M
          · obtain ⟨ok, hok⟩ : ∃ o, ows'[k]? = some o := ⟨_, List.getElem?_eq_getElem (by rw [HM.out.1]; exact hkM)⟩
            obtain ⟨gk, hgk⟩ : ∃ g, gs'[k]? = some g := ⟨_, List.getElem?_eq_getElem (by rw [HM.out.2]; exact hkM)⟩
            have ho3 : ok < 3 := GOKh.out.few ok (List.mem_of_getElem? hok)
            obtain ⟨g7, rfl, l7, h7, d7⟩ := HI.out.2.1.at k _ (numsV_at M k hkM)
            obtain ⟨g8, rfl, l8, h8', d8⟩ := HI.out.2.2.1.at k (.int .u64 (ok : Int)) (by unfold owsV; rw [List.getElem?_map, hok]; rfl)
            obtain ⟨g9, rfl, l9, h9', d9⟩ := HI.out.2.2.2.at k (.bool gk) (by unfold gsV; rw [List.getElem?_map, goneL_at, hgk]; rfl)
            obtain ⟨nk, hnk⟩ : ∃ nk, k + 1 = nk := ⟨_, rfl⟩
            rw [hnk] at d7
            have TE := GOKh.out.takeE FEW.out hok
            rw [hnk] at TE
            have HIDW := Lib.hid (fun (W : World) (hb : Below wr2.heap.size wr2 W) => HI.out.step (HI.out.1.on hb) (Stays.below hb))
            have SW := Lib.hid (fun (W : World) (hb : Below wr2.heap.size wr2 W) => show W.cell? ⟨g8, k, none⟩ = some (.int .u64 (ok : Int)) ∧ W.cell? ⟨g7, k, none⟩ = some (.int .u32 (nk : Int)) from ⟨(hb.cell (p := ⟨g8, k, none⟩) h8').trans d8, (hb.cell (p := ⟨g7, k, none⟩) h7).trans d7⟩)
            have GG := Lib.hid (fun (h : gk = true) => GOKh.out.gone k (by rw [hgk, h]))
            have CS := Lib.hid (countT_succ s' k)
            obtain ⟨J, hJ⟩ : ∃ J, countT s' k = J := ⟨_, rfl⟩
            have hJk : J ≤ k := hJ ▸ countT_le s' k
            rw [hJ] at CS ⊢
            have HNK := Lib.hid hnk
            have hnk61 : nk ≤ 61 := by omega
            have HGV := Lib.hid (show (gsV (goneL s' gs' k))[k]? = some (.bool gk) from by unfold gsV; rw [List.getElem?_map, goneL_at, hgk]; rfl)
            have hkw : IntKind.i64.wrap ((k : Int) + 1) = ((k + 1 : Nat) : Int) := by rw [IntKind.wrap_i64]; omega
            have hJw : IntKind.i64.wrap ((J : Int) + 1) = ((J + 1 : Nat) : Int) := by rw [IntKind.wrap_i64]; omega
            clear hJ hok hgk hnk l7 l8 l9 HI
            by_cases ht : there14 s' k = true
            · rw [if_pos ht] at TE
              have CT := Lib.hid (fun (W : World) (hb : Below wr2.heap.size wr2 W) => show Calls Try.prog 11 #[.pointer (some ⟨x, 0, none⟩), .int .u64 (ok : Int), .int .u32 (nk : Int), .int .u32 3, .int .u32 (nw : Int)] W fun e w' => e = .returned (.tuple #[.agg #[.int .i64 0, .slice none 0 0, .slice none 0 0, .slice none 0 0, .slice none 0 0, .bool false, .int .i64 0, .int .u32 0], .int .i64 1]) ∧ Below W.heap.size W w' from c_take_quiet (HIDW.out W hb).1 ok nk 3 nw (by omega) (by decide) hnwl 1 TE (by decide))
              have hgk0 : gk = false := by
                cases gk
                · rfl
                · exact absurd ht (by rw [GG.out rfl]; decide)
              subst hgk0
              clear TE GG
              go_wp2_with (fail)
              refine take35 wr2 x g7 g8 p7 p8 M k ok nk nw 1 idle rfl (by kernel_rfl) ⟨_, rfl, rfl, rfl, rfl, by kernel_rfl⟩ ⟨_, rfl, rfl, rfl, rfl, by kernel_rfl⟩ ⟨_, rfl, rfl, rfl, rfl, by kernel_rfl⟩ ⟨_, rfl, rfl, rfl, rfl, by kernel_rfl⟩ ⟨_, rfl, rfl, rfl, rfl, by kernel_rfl⟩ ⟨_, rfl, rfl, rfl, rfl, by kernel_rfl⟩ ⟨_, rfl, rfl, rfl, rfl, by kernel_rfl⟩ ⟨_, rfl, rfl, rfl, rfl, by kernel_rfl⟩ ⟨_, rfl, rfl, rfl, rfl, by kernel_rfl⟩ ⟨_, rfl, rfl, rfl, rfl, by kernel_rfl⟩ ⟨_, rfl, rfl, rfl, rfl, by kernel_rfl⟩ ⟨_, rfl, rfl, rfl, rfl, by kernel_rfl⟩ ⟨_, rfl, rfl, rfl, rfl, by kernel_rfl⟩ ⟨_, rfl, rfl, rfl, rfl, by kernel_rfl⟩ ⟨_, rfl, rfl, rfl, rfl, by kernel_rfl⟩ ⟨_, rfl, rfl, rfl, rfl, by kernel_rfl⟩ ⟨_, rfl, rfl, rfl, rfl, by kernel_rfl⟩ rfl rfl rfl rfl rfl rfl rfl h7 h8' hkM d7 d8 (fun W hb => CT.out W hb) ?_
              intro E w9 _ hb9 hE hE2
              have HI9 := Lib.hid (HIDW.out w9 hb9)
              simp only [filledR, dsT35, Nat.reduceAdd, hE, hE2]
              clear hE hE2 hb9
              go_simp
              go_step
              obtain ⟨g9', eq9, _, _, e9⟩ := HI9.out.2.2.2.at k _ HGV.out
              cases eq9
              have y9 : w9.frozen? ⟨g9, k, none⟩ = false := HI9.out.2.2.2.frozen k
              have HST := Lib.hid (HI9.out.store (by rw [HM.out.2]; exact hkM) false (by rw [ht]; rfl))
              clear CT HIDW SW d7 d8 d9
              go_wp2
              go_roundw
              case rel => exact ⟨k + 1, _, _, by rw [CS.out, if_pos ht]; go_num, by go_num, rfl, rfl, by omega, HST.out⟩
              case measure => simp [intOf]; omega
            · rw [if_neg ht] at TE
              have CT := Lib.hid (fun (W : World) (hb : Below wr2.heap.size wr2 W) => show Calls Try.prog 11 #[.pointer (some ⟨x, 0, none⟩), .int .u64 (ok : Int), .int .u32 (nk : Int), .int .u32 3, .int .u32 (nw : Int)] W fun e w' => e = .returned (.tuple #[.agg #[.int .i64 0, .slice none 0 0, .slice none 0 0, .slice none 0 0, .slice none 0 0, .bool false, .int .i64 0, .int .u32 0], .int .i64 140]) ∧ Below W.heap.size W w' from c_take_quiet (HIDW.out W hb).1 ok nk 3 nw (by omega) (by decide) hnwl 140 TE (by decide))
              have htf : there14 s' k = false := by
                cases e : there14 s' k
                · rfl
                · exact absurd e ht
              clear TE GG
              cases gk
              all_goals
                go_wp2_with (fail)
                refine take35 wr2 x g7 g8 p7 p8 M k ok nk nw 140 idle rfl (by kernel_rfl) ⟨_, rfl, rfl, rfl, rfl, by kernel_rfl⟩ ⟨_, rfl, rfl, rfl, rfl, by kernel_rfl⟩ ⟨_, rfl, rfl, rfl, rfl, by kernel_rfl⟩ ⟨_, rfl, rfl, rfl, rfl, by kernel_rfl⟩ ⟨_, rfl, rfl, rfl, rfl, by kernel_rfl⟩ ⟨_, rfl, rfl, rfl, rfl, by kernel_rfl⟩ ⟨_, rfl, rfl, rfl, rfl, by kernel_rfl⟩ ⟨_, rfl, rfl, rfl, rfl, by kernel_rfl⟩ ⟨_, rfl, rfl, rfl, rfl, by kernel_rfl⟩ ⟨_, rfl, rfl, rfl, rfl, by kernel_rfl⟩ ⟨_, rfl, rfl, rfl, rfl, by kernel_rfl⟩ ⟨_, rfl, rfl, rfl, rfl, by kernel_rfl⟩ ⟨_, rfl, rfl, rfl, rfl, by kernel_rfl⟩ ⟨_, rfl, rfl, rfl, rfl, by kernel_rfl⟩ ⟨_, rfl, rfl, rfl, rfl, by kernel_rfl⟩ ⟨_, rfl, rfl, rfl, rfl, by kernel_rfl⟩ ⟨_, rfl, rfl, rfl, rfl, by kernel_rfl⟩ rfl rfl rfl rfl rfl rfl rfl h7 h8' hkM d7 d8 (fun W hb => CT.out W hb) ?_
                intro E w9 _ hb9 hE hE2
                have HI9 := Lib.hid (HIDW.out w9 hb9)
                simp only [filledR, dsT35, Nat.reduceAdd, hE, hE2]
                clear hE hE2 hb9
                go_simp
                go_step
                obtain ⟨g9', eq9, _, _, e9⟩ := HI9.out.2.2.2.at k _ HGV.out
                cases eq9
                have y9 : w9.frozen? ⟨g9, k, none⟩ = false := HI9.out.2.2.2.frozen k
                have HST := Lib.hid (HI9.out.store (by rw [HM.out.2]; exact hkM) true (by rw [htf]; rfl))
                clear CT HIDW SW d7 d8 d9
                go_wp2
                go_roundw
                case rel => exact ⟨k + 1, _, _, by rw [CS.out, if_neg ht]; go_num, by go_num, rfl, rfl, by omega, HST.out⟩
                case measure => simp [intOf]; omega
          · obtain rfl : k = M := by omega
            have HCT := Lib.hid (countT_all FEW.out (m := k) (by rw [GOKh.out.last, HM.out.1]; exact Nat.le_refl _))
            have CN2 := Lib.hid (c_len HI.out.1)
            have HF := Lib.hid (show GoneS w x (i + 1) s' (.slice a7 k p7) (.slice a8 k p8) (.slice a9 k p9) ows' (goneL s' gs' gs'.length) wr2 from ⟨HI.out.1, by rw [HM.out.1]; exact HI.out.2.1, HI.out.2.2.1, by rw [HM.out.2]; exact HI.out.2.2.2, GOKh.out.after⟩)
            rw [HCT.out, HL.out]
            rw [HL.out] at CN2
            clear HI HCT
            go_wp2_with (fail)
            refine CN2.out.mono ?_
            rintro e w8 ⟨rfl, rfl⟩
            clear CN2
            go_wp2
            go_roundw
            case rel => exact ⟨i + 1, nw, s', ows', goneL s' gs' gs'.length, _, _, _, rfl, rfl, rfl, rfl, by go_num, by omega, hnwl, by rw [HM.out.1]; omega, HF.out⟩
            case measure => simp [intOf]; omega
theorem gone_row : Rows.CursorGoneSaid :=
  OpenClaim.holds_of_wide 4 Try.f4 rfl rfl rfl rfl rfl rfl rfl ⟨rfl, rfl, rfl, rfl, rfl⟩ rfl rfl rfl rfl rfl (by kernel_rfl) Try.func4 (by kernel_rfl)
    (of_decide_eq_true (by kernel_rfl)) (by unfold Func.isWrapper; rw [if_neg (of_decide_eq_false (by kernel_rfl))]; exact ⟨rfl, rfl⟩)
    (fun os started H enc _ => lift (C := Try.checked) (s := Rows.cursorGoneSpec) (conds := Rows.cursorGoneRow.domain) os started H enc prog_own (by kernel_rfl) Try.func4 prog_laid rfl Try.underlying4 rfl
      (fun ds hl => by
        have hl : ds.length = 2 := hl
        match ds, hl with
        | [_, _], _ => rfl)
      (of_decide_eq_true (by kernel_rfl))
      (ChangeSpec.witness6 (enc := enc) (C := Try.checked) false ⟨#[], #[.slice none 0 0, .int .u32 0], []⟩ 8 (by kernel_rfl) (by kernel_rfl) (by kernel_rfl) (by kernel_rfl))
      (fun W base args ds p g => by
        rw [Try.params4] at g
        obtain ⟨a, n, c, xs, e0, hn, hx⟩ := g.ops14 0 rfl
        obtain ⟨idle, e1, hi⟩ := g.u32 1 rfl Try.underlying22
        rw [args2 g.count e0 e1]
        exact gone_walk a n c xs idle hi W hn hx))
end Go.Proofs.Ytadkfedglkhgjaa
