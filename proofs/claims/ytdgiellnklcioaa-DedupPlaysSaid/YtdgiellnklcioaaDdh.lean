/-
  Layer 16, what its laws share: messages that the text lays; the example.
-/
import Derived.Test.YtdgiellnklcioaaDdg
import Derived.Deep.RegionHeld3
import Derived.Handy
namespace Go.Proofs.Ytdgiellnklcioaa
open Go.RowKit Go.ChangeShapes Go.WideShapes Go.ChangeAt Go.Maps

theorem zeroL_any {ok : Nat → Prop} {w : World} : (zeroL 0).In ok w := zeroL_in _ _ 0 (by decide)
/-- A message with a number alone. -/
def numL (n : Nat) : MsgL := { zeroL 0 with num := n }
def nL (n : Nat) : MsgL := { zeroL 0 with n := n }
theorem numL_in {ok : Nat → Prop} {w : World} {n : Nat} (h : n ≤ 4294967295) : (numL n).In ok w := by
  have z := zeroL_any (ok := ok) (w := w)
  exact ⟨z.hkind, z.hreq, z.hcaps, z.htoken, z.hcode, z.hn, z.hname, z.hcname, z.hdim, z.hmetric, z.hlinks, z.hcwidth, z.hchanges, z.hid, z.hvec, z.hk, z.hwidth, z.hall, z.hany, z.hno, h, z.hpage, z.hbytes, z.hversion, z.hnames, z.hitems, z.hhits⟩
theorem nL_in {ok : Nat → Prop} {w : World} {n : Nat} (h : n ≤ 4294967295) : (nL n).In ok w := by
  have z := zeroL_any (ok := ok) (w := w)
  exact ⟨z.hkind, z.hreq, z.hcaps, z.htoken, z.hcode, h, z.hname, z.hcname, z.hdim, z.hmetric, z.hlinks, z.hcwidth, z.hchanges, z.hid, z.hvec, z.hk, z.hwidth, z.hall, z.hany, z.hno, z.hnum, z.hpage, z.hbytes, z.hversion, z.hnames, z.hitems, z.hhits⟩
theorem msg_ne {y : MsgL} {Y : Array Value} (h : y.cells.toArray = Y) : (Y = #[]) = False := by rw [← h]; simp [MsgL.cells]
theorem msg_28 {y : MsgL} {Y : Array Value} (h : y.cells.toArray = Y) : Y.size = 28 := by rw [← h]; rfl
set_option maxRecDepth 100000 in
set_option maxHeartbeats 3200000 in
theorem alive16 (w : World) : Calls Try.prog 7 #[] w fun e w' => e = .returned (.bool true) ∧ Below w.heap.size w w' := by
  obtain ⟨Z, hZ⟩ : ∃ Z, (zeroL 0).cells.toArray = Z := ⟨_, rfl⟩
  have hz := msg_zero
  rw [hZ] at hz
  have hb1 := msg_ne hZ
  have hb4 := msg_28 hZ
  obtain ⟨M5, hM5⟩ : ∃ M, (nL 5).cells.toArray = M := ⟨_, rfl⟩
  have hb5 : Z.setIfInBounds 5 (.int .u32 5) = M5 := by rw [← hZ, ← hM5]; rfl
  have HM5 := Lib.hid hM5
  clear hM5
  go_enter Try.func7, Try.ntmps7
  go_wp2_with (fail)
  refine (dnew_any w w.heap.size (Nat.le_refl _)).mono ?_
  rintro e w1 ⟨x, rfl, hb, hd⟩
  have HD1 := Lib.hid hd
  have HB1 := Lib.hid hb
  clear hb hd
  go_wp2_with (fail)
  refine (dask_any w1 w.heap.size x [] ⟨[], 0⟩ HD1.out 1 (by decide)).mono ?_
  rintro e w2 ⟨y1, rfl, hb, -, hto⟩
  rw [show (TV.ask ⟨[], 0⟩ 1).2 = 1 from rfl]
  obtain ⟨Y1, hY⟩ : ∃ Y, y1.cells.toArray = Y := ⟨_, rfl⟩
  have hst := msg_store_new w2 Z y1 hb4
  rw [hY] at hst ⊢
  have hYn := msg_ne hY
  have hYs := msg_28 hY
  obtain ⟨w3, hw⟩ : ∃ W, w2.alloc (.cells Y1 45) = W := ⟨_, rfl⟩
  rw [hw] at hst
  have hb' : Below w1.heap.size w1 w3 := by rw [← hw]; exact hb.alloc hb.size _
  have HD3 := Lib.hid (HD1.out.on hb')
  have HB3 := Lib.hid (HB1.out.trans (hb'.mono HB1.out.size))
  clear hb hb' hto hY HD1 HB1
  go_wp2_with (fail)
  try clear hst hw hYn hYs
  rw [← HM5.out]
  refine (dkeep_any w3 w.heap.size x [] ⟨[], 0⟩ HD3.out 1 (by decide) (nL 5) (nL_in (by decide))).mono ?_
  rintro e w4 ⟨rfl, hd, hs⟩
  rw [show (TV.keep ⟨[], 0⟩ 1 (nL 5).toM).1 = 0 from rfl]
  have HD4 := Lib.hid (show DIs w4 w.heap.size [] x ⟨[(nL 5).toM], 0⟩ from hd)
  have HB4 := Lib.hid (HB3.out.trans hs.below)
  clear hd hs HD3 HB3
  go_wp2_with (fail)
  refine (dask_any w4 w.heap.size x [] ⟨[(nL 5).toM], 0⟩ HD4.out 1 (by decide)).mono ?_
  rintro e w5 ⟨y4, rfl, hb, -, hto⟩
  rw [show (TV.ask ⟨[(nL 5).toM], 0⟩ 1).2 = 2 from rfl]
  obtain ⟨Y4, hY⟩ : ∃ Y, y4.cells.toArray = Y := ⟨_, rfl⟩
  have hst := msg_store_new w5 Z y4 hb4
  rw [hY] at hst ⊢
  have hYn := msg_ne hY
  have hYs := msg_28 hY
  obtain ⟨w6, hw⟩ : ∃ W, w5.alloc (.cells Y4 45) = W := ⟨_, rfl⟩
  rw [hw] at hst
  have hb' : Below w4.heap.size w4 w6 := by rw [← hw]; exact hb.alloc hb.size _
  have HD6 := Lib.hid (HD4.out.on hb')
  have HB6 := Lib.hid (HB4.out.trans (hb'.mono HB4.out.size))
  have HA := Lib.hid (show Blk w6 w5.heap.size 45 y4.cells from by rw [← hw, ← hY]; exact Blk.new w5 45 y4.cells.toArray)
  have HAN := Lib.hid (show y4.n = 5 from (show y4.n = (nL 5).n from (show y4.toM.n = (nL 5).toM.n from by rw [hto]; rfl)))
  have HD6 := Lib.hid (HD4.out.grow (w' := w6) (G' := [w5.heap.size]) (fun k hk => by simp at hk; exact ⟨by have := HA.out.lt; omega, .inr (by rw [hk]; exact hb.size)⟩) hb')
  clear hb hb' hto hY HD4 HB4
  go_wp2_with (fail)
  try clear hst hw hYn hYs
  refine (dask_any w6 w.heap.size x [w5.heap.size] ⟨[(nL 5).toM], 0⟩ HD6.out 3 (by decide)).mono ?_
  rintro e w7 ⟨y6, rfl, hb, -, hto⟩
  rw [show (TV.ask ⟨[(nL 5).toM], 0⟩ 3).2 = 4 from rfl]
  obtain ⟨Y6, hY⟩ : ∃ Y, y6.cells.toArray = Y := ⟨_, rfl⟩
  have hst := msg_store_new w7 Z y6 hb4
  rw [hY] at hst ⊢
  have hYn := msg_ne hY
  have hYs := msg_28 hY
  obtain ⟨w8, hw⟩ : ∃ W, w7.alloc (.cells Y6 45) = W := ⟨_, rfl⟩
  rw [hw] at hst
  have hb' : Below w6.heap.size w6 w8 := by rw [← hw]; exact hb.alloc hb.size _
  have HD8 := Lib.hid (HD6.out.on hb')
  have HB8 := Lib.hid (HB6.out.trans (hb'.mono HB6.out.size))
  have HA := Lib.hid ((Kept.of_below (F := []) hb' (Nat.le_refl _)).blk HA.out (by simp))
  clear hb hb' hto hY HD6 HB6
  go_wp2_with (fail)
  try clear hst hw hYn hYs
  refine (dack_any w8 w.heap.size x [w5.heap.size] ⟨[(nL 5).toM], 0⟩ HD8.out 1).mono ?_
  rintro e w9 ⟨rfl, hd, hs⟩
  rw [show (TV.ack ⟨[(nL 5).toM], 0⟩ 1).1 = 0 from rfl]
  have HD9 := Lib.hid (show DIs w9 w.heap.size [w5.heap.size] x ⟨[(nL 5).toM], 1⟩ from hd)
  have HB9 := Lib.hid (HB8.out.trans hs.below)
  have HA := Lib.hid (hs.blk HA.out (by simp))
  clear hd hs HD8 HB8
  go_wp2_with (fail)
  refine (dask_any w9 w.heap.size x [w5.heap.size] ⟨[(nL 5).toM], 1⟩ HD9.out 1 (by decide)).mono ?_
  rintro e w10 ⟨y9, rfl, hb, -, hto⟩
  rw [show (TV.ask ⟨[(nL 5).toM], 1⟩ 1).2 = 3 from rfl]
  obtain ⟨Y9, hY⟩ : ∃ Y, y9.cells.toArray = Y := ⟨_, rfl⟩
  have hst := msg_store_new w10 Z y9 hb4
  rw [hY] at hst ⊢
  have hYn := msg_ne hY
  have hYs := msg_28 hY
  obtain ⟨w11, hw⟩ : ∃ W, w10.alloc (.cells Y9 45) = W := ⟨_, rfl⟩
  rw [hw] at hst
  have hb' : Below w9.heap.size w9 w11 := by rw [← hw]; exact hb.alloc hb.size _
  have HD11 := Lib.hid (HD9.out.on hb')
  have HB11 := Lib.hid (HB9.out.trans (hb'.mono HB9.out.size))
  have HA := Lib.hid ((Kept.of_below (F := []) hb' (Nat.le_refl _)).blk HA.out (by simp))
  have ca : w11.cell? ⟨w5.heap.size, 5, none⟩ = some (.int .u32 5) := by
    have h5 : w11.cell? ⟨w5.heap.size, 5, none⟩ = some (.int .u32 (y4.n : Int)) := HA.out.cell 5
    rw [HAN.out] at h5
    exact h5
  clear hb hb' hto hY HD9 HB9
  go_wp2_with (fail)
  try clear hst hw hYn hYs
  refine (dack_any w11 w.heap.size x [w5.heap.size] ⟨[(nL 5).toM], 1⟩ HD11.out 2).mono ?_
  rintro e w12 ⟨rfl, hd, hs⟩
  rw [show (TV.ack ⟨[(nL 5).toM], 1⟩ 2).1 = 1 from rfl]
  have HD12 := Lib.hid (show DIs w12 w.heap.size [w5.heap.size] x ⟨[(nL 5).toM], 1⟩ from hd)
  have HB12 := Lib.hid (HB11.out.trans hs.below)
  have HA := Lib.hid (hs.blk HA.out (by simp))
  clear hd hs HD11 HB11
  go_wp2_with (fail)
  go_ret
  exact ⟨rfl, HB12.out⟩
end Go.Proofs.Ytdgiellnklcioaa
