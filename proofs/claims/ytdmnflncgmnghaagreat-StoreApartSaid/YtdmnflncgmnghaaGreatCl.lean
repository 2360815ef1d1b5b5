/-
  The program's past: lay, Put, Cut, Get, by walks over their texts.
-/
import Derived.Test.YtdmnflncgmnghaaGreatCt
import Derived.Test.YtdmnflncgmnghaaGreatCc
import Derived.Test.YtdmnflncgmnghaaGreatCb
import Derived.Test.YtdmnflncgmnghaaGreatJp
namespace Go.Proofs.YtdmnflncgmnghaaGreat
open Go.RowKit

/-- All blocks of a past. -/
def FpC (g : Nat) (u k : Value) (It : List Nat) : List Nat := g :: (ownB u ++ ownB k ++ It)
theorem mem_fpC {g x : Nat} {u k : Value} {It : List Nat} : x ∈ FpC g u k It ↔ x = g ∨ u.ownBlock = some x ∨ k.ownBlock = some x ∨ x ∈ It := by
  simp only [FpC, List.mem_cons, List.mem_append, mem_ownB, or_assoc]
theorem told_bk (L : List RowL) (id v : Nat) : ∀ m, toldP ((rowsV L).take m) id v = (((bk L v m).find? fun x => x.1.2.id == id).map fun x => x.1.2).map RowL.toR := by
  intro m
  induction m with
  | zero => rfl
  | succ m ih =>
    cases hr : L[m]? with
    | none =>
      have hl : L.length ≤ m := List.getElem?_eq_none_iff.1 hr
      have e1 : (rowsV L).take (m + 1) = (rowsV L).take m := by
        rw [List.take_of_length_le (by rw [rowsV_len]; omega), List.take_of_length_le (by rw [rowsV_len]; omega)]
      have e2 : bk L v (m + 1) = bk L v m := by rw [bk, dif_neg (by omega)]
      rw [e1, e2, ih]
    | some r =>
      have e1 : (rowsV L).take (m + 1) = (rowsV L).take m ++ [r.toR] := by
        rw [List.take_add_one, rowsV, List.getElem?_map, hr]
        rfl
      rw [e1, toldP_snoc]
      by_cases hv : r.v ≤ v
      · rw [bk_take hr hv, List.find?_cons]
        by_cases hid : r.id = id
        · have h1 : r.toR.hit id v = true := by simp [RowV.hit, RowL.toR, RowL.item, hid, hv]
          rw [if_pos h1]
          simp [hid]
        · have h1 : r.toR.hit id v = false := by simp [RowV.hit, RowL.toR, RowL.item, hid]
          have hb : (r.id == id) = false := by simp [hid]
          rw [h1, ih]
          simp [hb]
      · have h1 : r.toR.hit id v = false := by
          unfold RowV.hit
          rw [decide_eq_false (show ¬ r.toR.v ≤ v from hv), Bool.and_false]
        rw [bk_skip hr hv, h1, ih]
        rfl
theorem told_last (L : List RowL) (id v : Nat) : toldP (rowsV L) id v = (lastL L id v).map RowL.toR := by
  have h := told_bk L id v L.length
  rw [List.take_of_length_le (by rw [rowsV_len]; exact Nat.le_refl _)] at h
  exact h
theorem there_last (L : List RowL) (id v : Nat) : thereP (rowsV L) id v = ((lastL L id v).map RowL.toR).filter fun r => !r.gone := by rw [thereP_told, told_last]
theorem lastL_mem {L : List RowL} {id v : Nat} {r : RowL} (h : lastL L id v = some r) : r ∈ L ∧ r.id = id := by
  unfold lastL at h
  cases hf : (bk L v L.length).find? fun x => x.1.2.id == id with
  | none =>
    rw [hf] at h
    cases h
  | some x =>
    rw [hf] at h
    cases h
    have h1 := List.find?_some hf
    exact ⟨List.mem_of_getElem? x.2, by simpa using h1⟩
/-- What a call of Put or Cut leaves. -/
def LayPostC (lo g : Nat) (It : List Nat) (u k : Value) (L : List RowL) (last floor : Nat) (kept : List Nat) (r : RowV) (w : World) (e : Ending) (w' : World) : Prop :=
  ∃ (u' : Value) (It' : List Nat) (L' : List RowL) (last' code : Nat), e = .returned (.int .i64 (code : Int)) ∧ PastC w' lo g It' u' k L' last' floor kept ∧ (PastC.st L last floor kept).lay r = (PastC.st L' last' floor kept, code) ∧ Kept (FpC g u k It) w w' ∧ Grows w (FpC g u k It) (FpC g u' k It')
theorem LayPostC.same {lo g : Nat} {It : List Nat} {u k : Value} {L : List RowL} {last floor : Nat} {kept : List Nat} {r : RowV} {w w' : World} {code : Nat} (h : PastC w lo g It u k L last floor kept) (hb : Below w.heap.size w w') (hl : (PastC.st L last floor kept).lay r = (PastC.st L last floor kept, code)) : LayPostC lo g It u k L last floor kept r w (.returned (.int .i64 (code : Int))) w' :=
  ⟨u, It, L, last, code, rfl, h.on hb, hl, Kept.of_below hb (Nat.le_refl _), Grows.refl _ _⟩
/-- A row with other lists. -/
def RowL.with (r : RowL) (y : ItL) : RowL := ⟨r.v, r.gone, y.id, y.pv, y.pt, y.vec, y.tags⟩
theorem PastC.laid {w wx w8 : World} {lo g last floor : Nat} {It : List Nat} {u k : Value} {L : List RowL} {ks : List Nat} {r : RowL} {y : ItL} (h : PastC w lo g It u k L last floor ks) (hb : Below w.heap.size w wx) (hy : y.OwnI w.heap.size wx) (hrv : r.v < 18446744073709551616) (hlast : last ≤ r.v) (hL : L.length < 1024)
    {v8 : Value} (hr8 : RowC lo w8 157 5 v8 (L.map RowL.cells ++ [(r.with y).cells])) (hk8 : Kept (ownB u) wx.drew w8) (hg8 : Grows wx.drew (ownB u) (ownB v8)) :
    Blk w8 g 139 [u, .int .u64 (last : Int), .int .u64 (floor : Int), k] ∧ PastC ((w8.setCell ⟨g, 0, none⟩ v8).setCell ⟨g, 1, none⟩ (.int .u64 (r.v : Int))) lo g (It ++ y.bs) v8 k (L ++ [r.with y]) r.v floor ks ∧
    Kept (FpC g u k It) w ((w8.setCell ⟨g, 0, none⟩ v8).setCell ⟨g, 1, none⟩ (.int .u64 (r.v : Int))) ∧ Grows w (FpC g u k It) (FpC g v8 k (It ++ y.bs)) := by
  have hx := h.on hb
  have hu := h.rows.lt
  have hyl := hy.lo
  have hws := hb.size
  have hk : Kept (ownB u) wx w8 := ((Kept.refl (ownB u) wx).drew).trans hk8 (Grows.refl _ _)
  have hug := row_blk8 hx.rows.2 hx.blk (by decide)
  have hblk : Blk w8 g 139 [u, .int .u64 (last : Int), .int .u64 (floor : Int), k] := hk.blk hx.blk (fun hh => hug (mem_ownB.1 hh))
  have hgx : g < wx.heap.size := hx.blk.lt
  have hgw : g < w.heap.size := h.blk.lt
  have k9 : Kept [g] w8 ((w8.setCell ⟨g, 0, none⟩ v8).setCell ⟨g, 1, none⟩ (.int .u64 (r.v : Int))) := ((Kept.refl [g] w8).setCell _ _ (.inl (by simp))).setCell _ _ (.inl (by simp))
  have hvg := row_blk8 hr8.2 hblk (by decide)
  have huk : ∀ x ∈ ownB u, k.ownBlock ≠ some x := fun x hx' => row_apart8 hx.rows.2 hx.vers.2 (by decide) x (mem_ownB.1 hx')
  have hkg := row_blk8 hx.vers.2 hx.blk (by decide)
  have hku := h.vers.lt
  have hg8' : ∀ x, v8.ownBlock = some x → u.ownBlock = some x ∨ wx.heap.size ≤ x := fun x hx' => by
    rcases hg8 x (mem_ownB.2 hx') with h1 | h1
    · exact .inl (mem_ownB.1 h1)
    · exact .inr h1
  have ITB : ∀ x ∈ It, x ∉ ownB u ∧ x ≠ g := fun x hx' => by
    have := h.items x hx'
    exact ⟨fun hh => this.2.2.2.1 (mem_ownB.1 hh), this.2.2.1⟩
  have YB : ∀ x ∈ y.bs, x ∉ ownB u ∧ x ≠ g := fun x hx' => by
    have h1 := hyl x hx'
    refine ⟨fun hh => ?_, by omega⟩
    have h2 := hu x (mem_ownB.1 hh)
    omega
  have k89 : Kept (g :: ownB u) wx ((w8.setCell ⟨g, 0, none⟩ v8).setCell ⟨g, 1, none⟩ (.int .u64 (r.v : Int))) := (hk.mono (G := g :: ownB u) (fun x hx' => List.mem_cons_of_mem _ hx')).trans (k9.mono (G := g :: ownB u) (by simp)) (Grows.refl _ _)
  have hws9 := k89.size
  refine ⟨hblk, ?_, ?_, ?_⟩
  · refine ⟨(hblk.set 0 v8).set 1 _, ?_, fun q hq => ?_, fun x hx' => ?_, (hx.vers.kept hk (fun x hx hh => huk x hh hx)).kept k9 (fun x hx' hh => hkg (by rw [hx']; simpa using hh)), hrv, Nat.le_trans h.hfl hlast, fun q hq => ?_, ?_, h.hkept, h.hks, by simp; omega, h.hK, h.glo⟩
    · have : (L ++ [r.with y]).map RowL.cells = L.map RowL.cells ++ [(r.with y).cells] := by simp
      rw [this]
      exact hr8.kept k9 (fun x hx' hh => hvg (by rw [hx']; simpa using hh))
    · rcases List.mem_append.1 hq with hq | hq
      · exact (hx.each q hq).stay k89.size (fun x hx' hlt => k89.block x hlt (fun hh => by
          rcases List.mem_cons.1 hh with h1 | h1
          · exact (ITB x hx').2 h1
          · exact (ITB x hx').1 h1)) (fun x hx' _ => List.mem_append.2 (.inl hx'))
      · rw [List.mem_singleton.1 hq]
        have hi : y.In (· ∈ It ++ y.bs) ((w8.setCell ⟨g, 0, none⟩ v8).setCell ⟨g, 1, none⟩ (.int .u64 (r.v : Int))) := (hy.inn (ok := (· ∈ y.bs)) (fun _ h => h)).stay k89.size (fun x hx' hlt => k89.block x hlt (fun hh => by
          rcases List.mem_cons.1 hh with h1 | h1
          · exact (YB x hx').2 h1
          · exact (YB x hx').1 h1)) (fun x hx' _ => List.mem_append.2 (.inr hx'))
        exact ⟨hrv, hi.hid, hi.hvec, hi.htags⟩
    · rcases List.mem_append.1 hx' with hx' | hx'
      · have h1 := h.items x hx'
        refine ⟨h1.1, by omega, h1.2.2.1, fun hh => ?_, h1.2.2.2.2⟩
        rcases hg8' x hh with h2 | h2
        · exact h1.2.2.2.1 h2
        · omega
      · have h1 := hyl x hx'
        have h3 := h.glo
        refine ⟨by omega, by omega, (YB x hx').2, fun hh => ?_, fun hh => ?_⟩
        · rcases hg8' x hh with h2 | h2
          · exact (YB x hx').1 (mem_ownB.2 h2)
          · omega
        · have := hku x hh
          omega
    · rcases List.mem_append.1 hq with hq | hq
      · exact Nat.le_trans (h.hv q hq) hlast
      · rw [List.mem_singleton.1 hq]
        exact Nat.le_refl _
    · refine List.pairwise_append.2 ⟨h.hsort, by simp, fun a ha b hb' => ?_⟩
      rw [List.mem_singleton.1 hb']
      exact Nat.le_trans (h.hv a ha) hlast
  · refine ((Kept.of_below hb (Nat.le_refl _)).trans (k89.mono (G := FpC g u k It) (fun x hx' => ?_)) (Grows.refl _ _))
    rcases List.mem_cons.1 hx' with h1 | h1
    · exact mem_fpC.2 (.inl h1)
    · exact mem_fpC.2 (.inr (.inl (mem_ownB.1 h1)))
  · intro x hx'
    rcases mem_fpC.1 hx' with h1 | h1 | h1 | h1
    · exact .inl (mem_fpC.2 (.inl h1))
    · rcases hg8' x h1 with h2 | h2
      · exact .inl (mem_fpC.2 (.inr (.inl h2)))
      · exact .inr (by omega)
    · exact .inl (mem_fpC.2 (.inr (.inr (.inl h1))))
    · rcases List.mem_append.1 h1 with h2 | h2
      · exact .inl (mem_fpC.2 (.inr (.inr (.inr h2))))
      · exact .inr (hyl x h2).1
theorem row_info8c : (Tryz.prog.info? 157).map (fun i => (i.zero, i.size, i.bytes)) = some (some (.agg #[.int .u64 0, .bool false, .int .u32 0, .slice none 0 0, .slice none 0 0]), 5, 72) := by kernel_rfl
set_option maxRecDepth 100000 in
set_option maxHeartbeats 6400000 in
theorem lay_any (w : World) (lo g : Nat) (It : List Nat) (u k : Value) (L : List RowL) (last floor : Nat) (kept : List Nat) (r : RowL) (h : PastC w lo g It u k L last floor kept) (hr : r.In (fun _ => True) w) (hv : last ≤ r.v) :
    Calls Tryz.prog 94 #[.pointer (some ⟨g, 0, none⟩), .agg r.cells.toArray] w fun e w' => (1024 ≤ L.length ∧ e = .returned (.int .i64 4) ∧ Below w.heap.size w w') ∨ (L.length < 1024 ∧ e = .returned (.int .i64 0) ∧ ∃ (u' : Value) (It' : List Nat) (r' : RowL), PastC w' lo g It' u' k (L ++ [r']) r.v floor kept ∧ r'.toR = r.toR ∧ Kept (FpC g u k It) w w' ∧ Grows w (FpC g u k It) (FpC g u' k It')) := by
  obtain ⟨a, c, rfl, hnc⟩ := h.u_form
  have hL := h.hL
  show Calls _ _ #[_, .agg #[.int .u64 (r.v : Int), .bool r.gone, .int .u32 (r.id : Int), .slice r.pv.1 r.pv.2.1 r.pv.2.2, .slice r.pt.1 r.pt.2.1 r.pt.2.2]] _ _
  obtain ⟨w1, hw1⟩ : ∃ w1, w.alloc (.cells #[.int .u64 (r.v : Int), .bool r.gone, .int .u32 (r.id : Int), .slice r.pv.1 r.pv.2.1 r.pv.2.2, .slice r.pt.1 r.pt.2.1 r.pt.2.2] 157) = w1 := ⟨_, rfl⟩
  have hb1 : Below w.heap.size w w1 := by rw [← hw1]; exact (Below.refl _ _).alloc (Nat.le_refl _) _
  have hs1 : w1.heap.size = w.heap.size + 1 := by rw [← hw1]; simp
  have D1 := Lib.hid (show Blk w1 w.heap.size 157 r.cells from by rw [← hw1]; exact Blk.new w 157 r.cells.toArray)
  have P1 := Lib.hid (h.on hb1)
  have c0 : w1.cell? ⟨g, 0, none⟩ = some (.slice a L.length c) := P1.out.blk.cell 0
  have HP := Lib.hid h
  have HV := Lib.hid hv
  have HB1 := Lib.hid hb1
  have RIN := Lib.hid (show r.it.In (fun _ => True) w1 from hr.it.stay hb1.size (fun k _ hk => hb1.block k hk) (fun _ h _ => h))
  have RV := Lib.hid hr.hv
  clear h hr hb1 hv
  go_enter Tryz.func94, Tryz.ntmps94
  go_upto_region 1 with fail
  try rw [hw1]
  clear hw1
  by_cases hfull : 1024 ≤ L.length
  · have hfb : decide ((1024 : Int) ≤ (L.length : Int)) = true := decide_eq_true (by omega)
    go_wp2
    go_ret
    exact .inl ⟨hfull, rfl, HB1.out⟩
  · have hfb : decide ((1024 : Int) ≤ (L.length : Int)) = false := decide_eq_false (by omega)
    have hLL : L.length < 1024 := by omega
    have d2 : w1.cell? ⟨w.heap.size, 2, none⟩ = some (.int .u32 (r.id : Int)) := D1.out.cell 2
    have d3 : w1.cell? ⟨w.heap.size, 3, none⟩ = some (.slice r.pv.1 r.pv.2.1 r.pv.2.2) := D1.out.cell 3
    have d4 : w1.cell? ⟨w.heap.size, 4, none⟩ = some (.slice r.pt.1 r.pt.2.1 r.pt.2.2) := D1.out.cell 4
    go_wp2_with (fail)
    refine (cloneI_any w1 r.it RIN.out).mono ?_
    rintro e w2 ⟨y, he, hb2, hy, hyi, -, -⟩
    obtain rfl : e = .returned (.agg #[.int .u32 (y.id : Int), .slice y.pv.1 y.pv.2.1 y.pv.2.2, .slice y.pt.1 y.pt.2.1 y.pt.2.2]) := he
    obtain ⟨wx, hwx⟩ : ∃ wx, ((w2.setCell ⟨w.heap.size, 2, none⟩ (.int .u32 (y.id : Int))).setCell ⟨w.heap.size, 3, none⟩ (.slice y.pv.1 y.pv.2.1 y.pv.2.2)).setCell ⟨w.heap.size, 4, none⟩ (.slice y.pt.1 y.pt.2.1 y.pt.2.2) = wx := ⟨_, rfl⟩
    have D2 := (Kept.of_below (F := []) hb2 (Nat.le_refl _)).blk D1.out (by simp)
    have e2 : w2.cell? ⟨w.heap.size, 2, none⟩ = some (.int .u32 (r.id : Int)) := D2.cell 2
    have e3 : w2.cell? ⟨w.heap.size, 3, none⟩ = some (.slice r.pv.1 r.pv.2.1 r.pv.2.2) := D2.cell 3
    have e4 : w2.cell? ⟨w.heap.size, 4, none⟩ = some (.slice r.pt.1 r.pt.2.1 r.pt.2.2) := D2.cell 4
    have g2 := D2.frozen 2
    have g3 := D2.frozen 3
    have g4 := D2.frozen 4
    have kx : Kept [w.heap.size] w2 wx := by
      rw [← hwx]
      exact (((Kept.refl [w.heap.size] w2).setCell _ _ (.inl (by simp))).setCell _ _ (.inl (by simp))).setCell _ _ (.inl (by simp))
    have DX := Lib.hid (show Blk wx w.heap.size 157 (r.with y).cells from by
      rw [← hwx]
      exact ((D2.set 2 _).set 3 _).set 4 _)
    have hbx : Below w.heap.size w wx := (HB1.out.trans (hb2.mono HB1.out.size)).trans (kx.below (by simp) (Nat.le_trans HB1.out.size hb2.size))
    have HBX := Lib.hid hbx
    have YX := Lib.hid (show y.OwnI w.heap.size wx from by
      have h1 := hy.kept kx (fun x hx => by
        have h2 := (hy.lo x hx).1
        simp
        omega)
      exact ⟨h1.hid, own_on h1.vec (by omega) (Below.refl _ _), own_on h1.tags (by omega) (Below.refl _ _), h1.wv, h1.wt, h1.lv, h1.lt⟩)
    have YI := Lib.hid (show (r.with y).toR = r.toR from by
      show (⟨r.v, r.gone, y.toI⟩ : RowV) = ⟨r.v, r.gone, r.it.toI⟩
      rw [hyi])
    have hd : w.heap.size < wx.heap.size := DX.out.lt
    have PX := Lib.hid (HP.out.on hbx)
    clear hb2 hy hyi D2 kx hbx
    go_upto_region 4 with fail
    try rw [hwx]
    clear hwx e2 e3 e4 g2 g3 g4 d2 d3 d4 c0
    have c0 : wx.cell? ⟨g, 0, none⟩ = some (.slice a L.length c) := PX.out.blk.cell 0
    have b0 : wx.cell? ⟨w.heap.size, 0, none⟩ = some (.int .u64 (r.v : Int)) := DX.out.cell 0
    have b1 : wx.cell? ⟨w.heap.size, 1, none⟩ = some (.bool r.gone) := DX.out.cell 1
    have b2 : wx.cell? ⟨w.heap.size, 2, none⟩ = some (.int .u32 (y.id : Int)) := DX.out.cell 2
    have b3 : wx.cell? ⟨w.heap.size, 3, none⟩ = some (.slice y.pv.1 y.pv.2.1 y.pv.2.2) := DX.out.cell 3
    have b4 : wx.cell? ⟨w.heap.size, 4, none⟩ = some (.slice y.pt.1 y.pt.2.1 y.pt.2.2) := DX.out.cell 4
    have hgl : g < wx.heap.size := PX.out.blk.lt
    have hgw : g < w.heap.size := HP.out.blk.lt
    have ROW := Lib.hid (PX.out.rows.kept ((Kept.refl [] wx).drew) (by simp))
    have hlo : lo ≤ wx.drew.heap.size := by
      have h1 := PX.out.glo
      have h2 : wx.drew.heap.size = wx.heap.size := rfl
      omega
    have LAID := Lib.hid (fun (v8 : Value) (w8 : World) (hr8 : RowC lo w8 157 5 v8 (L.map RowL.cells ++ [(r.with y).cells])) hk8 hg8 => HP.out.laid HBX.out YX.out RV.out HV.out hLL hr8 hk8 hg8)
    go_wp2
    go_region_law (refine step_c wx.drew (by rfl) (.tmp 19) (.tmp 21) 137 (by rfl) Tryz.underlying137 (.agg #[.int .u64 0, .bool false, .int .u32 0, .slice none 0 0, .slice none 0 0]) 72 row_info8c rfl (by decide) [.int .u64 (r.v : Int), .bool r.gone, .int .u32 (y.id : Int), .slice y.pv.1 y.pv.2.1 y.pv.2.2, .slice y.pt.1 y.pt.2.1 y.pt.2.2] (by rfl) (by rfl) ROW.out rfl (by simp [Value.oneCell']) hlo (by simp; omega) (by simp; omega) ?_; intro v8 w8 hr8 hk8 hg8; obtain ⟨a8, c8, e8, _⟩ := hr8.form; obtain ⟨n8, hn8⟩ : ∃ n8, (L.map RowL.cells ++ [(r.with y).cells]).length = n8 := ⟨_, rfl⟩; obtain rfl : v8 = .slice a8 n8 c8 := e8.trans (by rw [← hn8]; rfl); clear e8 hn8; obtain ⟨hblk8, hp8, hk9, hg9⟩ := LAID.out _ _ hr8 hk8 hg8; have POST := Lib.hid (And.intro hp8 (And.intro hk9 hg9)); have hbox8 := hk8.blk (DX.out.of_eq (w' := wx.drew) rfl) (fun hh => by have h5 := (HP.out.rows.lt _ (mem_ownB.1 hh)).2; exact absurd h5 (Nat.lt_irrefl _)); have x0 : w8.cell? ⟨g, 0, none⟩ = some (.slice a L.length c) := hblk8.cell 0; have x1 : w8.cell? ⟨g, 1, none⟩ = some (.int .u64 (last : Int)) := hblk8.cell 1; have y0 : w8.cell? ⟨w.heap.size, 0, none⟩ = some (.int .u64 (r.v : Int)) := hbox8.cell 0; have fg0 := hblk8.frozen 0; have fg1 := hblk8.frozen 1; clear hblk8 hbox8 hr8 hk8 hg8 hp8 hk9 hg9)
    all_goals
      go_wp2
      go_ret
      exact .inr ⟨hLL, rfl, _, _, _, POST.out.1, YI.out, POST.out.2.1, POST.out.2.2⟩
end Go.Proofs.YtdmnflncgmnghaaGreat
