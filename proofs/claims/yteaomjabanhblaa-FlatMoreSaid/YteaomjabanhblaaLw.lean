/-
  The program's wanted: an iterator over the hits of those items that are wanted: its contract for any body that goes on.
-/
import Derived.Test.YteaomjabanhblaaLg
import Derived.Test.YteaomjabanhblaaGe
import Derived.Test.YteaomjabanhblaaRf
import Derived.Test.YteaomjabanhblaaHm
import Derived.Test.YteaomjabanhblaaSn
import Derived.Shelf.RegionOpen
import Derived.WalkKit
import Derived.OwnWalkIn
import Derived.TacticsInMore
import Derived.LoopNIn
import Derived.LoopIn
namespace Go.Proofs.Yteaomjabanhblaa
open Go.RowKit Go.Shelf

attribute [local go_sem] Oper.semAt_some

/-- What a hit is handed to a round as. -/
def hitE (h : Hit) : Array Value := #[.agg #[.int .i64 h.1, .int .u32 h.2]]
/-- The hit of an item that is wanted. -/
def wantO (m : Nat) (q : List Int) (f : Filt) : shItem.T → Option Hit := fun (x : Int × List Int × List ByteArray × Unit) =>
  match distV m q.length x.2.1.length q x.2.1 with
  | some d => if matchB f x.2.2.1 then some (d, x.1) else none
  | none => none
/-- The hits of a list's items that are wanted. -/
def wantL (m : Nat) (q : List Int) (f : Filt) (xs : List shItem.T) : List Hit := xs.filterMap (wantO m q f)
theorem wantL_next {m : Nat} {q : List Int} {f : Filt} {xs : List shItem.T} {i : Nat} {x : shItem.T} (h : xs[i]? = some x) : wantL m q f (xs.take (i + 1)) = wantL m q f (xs.take i) ++ (wantO m q f x).toList := by
  rw [wantL, wantL, List.take_add_one, h, List.filterMap_append]
  simp [List.filterMap_cons]
  cases wantO m q f x <;> rfl
theorem wantL_pre (m : Nat) (q : List Int) (f : Filt) (xs : List shItem.T) (i : Nat) : wantL m q f (xs.take i) <+: wantL m q f xs := by
  refine ⟨wantL m q f (xs.drop i), ?_⟩
  rw [wantL, wantL, wantL, ← List.filterMap_append, List.take_append_drop]
theorem wantO_none {m : Nat} {q vec : List Int} {f : Filt} {tags : List ByteArray} {id : Int} {n n' : Nat} (hq : q.length = n) (hv : vec.length = n') (h : distV m n n' q vec = none) : wantO m q f ((id, vec, tags, ()) : Int × List Int × List ByteArray × Unit) = none := by
  unfold wantO
  simp only [hq, hv, h]
theorem wantO_not {m : Nat} {q vec : List Int} {f : Filt} {tags : List ByteArray} {id d : Int} {n n' : Nat} (hq : q.length = n) (hv : vec.length = n') (h : distV m n n' q vec = some d) (hm : matchB f tags = false) : wantO m q f ((id, vec, tags, ()) : Int × List Int × List ByteArray × Unit) = none := by
  unfold wantO
  simp only [hq, hv, h, hm]
  rfl
theorem wantO_some {m : Nat} {q vec : List Int} {f : Filt} {tags : List ByteArray} {id d : Int} {n n' : Nat} (hq : q.length = n) (hv : vec.length = n') (h : distV m n n' q vec = some d) (hm : matchB f tags = true) : wantO m q f ((id, vec, tags, ()) : Int × List Int × List ByteArray × Unit) = some (d, id) := by
  unfold wantO
  simp only [hq, hv, h, hm]
  rfl

/-- A filter's letters. -/
structure FltL where
  p0 : Option Addr × Nat × Nat
  p1 : Option Addr × Nat × Nat
  p2 : Option Addr × Nat × Nat
  f : Filt
def FltL.cells (x : FltL) : Array Value := #[.slice x.p0.1 x.p0.2.1 x.p0.2.2, .slice x.p1.1 x.p1.2.1 x.p1.2.2, .slice x.p2.1 x.p2.2.1 x.p2.2.2]
structure FltL.In (w : World) (x : FltL) : Prop where
  all : SReads w x.p0.1 x.p0.2.1 x.p0.2.2 x.f.all
  any : SReads w x.p1.1 x.p1.2.1 x.p1.2.2 x.f.any
  none : SReads w x.p2.1 x.p2.2.1 x.p2.2.2 x.f.none
theorem FltL.In.on {w w' : World} {x : FltL} (h : x.In w) (hb : Below w.heap.size w w') : x.In w' := ⟨h.all.on hb, h.any.on hb, h.none.on hb⟩

/-- What wanted has captured. -/
structure WantAt (w : World) (Bl Bm Bq Bf : Nat) (m : Nat) (a : Option Addr) (n c : Nat) (xs : List shItem.T) (qa : Option Addr) (qn qc : Nat) (q : List Int) (fl : FltL) : Prop where
  bl : Blk w Bl 22 [.slice a n c]
  bm : Blk w Bm 35 [.int .u8 (m : Int)]
  bq : Blk w Bq 23 [.slice qa qn qc]
  bf : Blk w Bf 26 fl.cells.toList
  hm : m < 256
  items : Rd (fun _ => True) w shItems [.slice a n c] xs
  vec : Reads .i32 w qa qn q
  flt : fl.In w
theorem WantAt.on {w w' : World} {Bl Bm Bq Bf m : Nat} {a qa : Option Addr} {n c qn qc : Nat} {xs : List shItem.T} {q : List Int} {fl : FltL} (h : WantAt w Bl Bm Bq Bf m a n c xs qa qn qc q fl) (hb : Below w.heap.size w w') : WantAt w' Bl Bm Bq Bf m a n c xs qa qn qc q fl :=
  ⟨h.bl.of_eq (hb.block _ h.bl.lt), h.bm.of_eq (hb.block _ h.bm.lt), h.bq.of_eq (hb.block _ h.bq.lt), h.bf.of_eq (hb.block _ h.bf.lt), h.hm, h.items.on hb, h.vec.below (Nat.le_refl _) hb, h.flt.on hb⟩

set_option maxRecDepth 100000 in
set_option maxHeartbeats 3200000 in
theorem wanted1_in (d : Nat) (hd : 1 ≤ d) (w : World) (Bl Bm Bq Bf m : Nat) (a qa : Option Addr) (n c qn qc : Nat) (xs : List shItem.T) (q : List Int) (fl : FltL) (PC : WantAt w Bl Bm Bq Bf m a n c xs qa qn qc q fl)
    (l : Nat) (J : List Nat → List Hit → World → Prop) (W : World) (F : List Nat) (hW : Below w.heap.size w W) (hA : Abide W.heap.size J)
    (hF : ∀ F pre W, J F pre W → ∀ x ∈ F, w.heap.size ≤ x ∧ x < W.heap.size)
    (hY : ∀ F pre x W1, J F pre W1 → pre ++ [x] <+: wantL m q fl.f xs → YieldAt Fence.wide 9 Try.prog l (hitE x) W1 fun e W' => e = .returned (.bool true) ∧ ∃ F', J F' (pre ++ [x]) W' ∧ Kept F W1 W' ∧ Grows W1 F F')
    (h0 : J F [] W) :
    CallsIn Fence.wide d Try.prog 34 #[.func (.yield l) #[] #[], .pointer (some ⟨Bl, 0, none⟩), .pointer (some ⟨Bm, 0, none⟩), .pointer (some ⟨Bq, 0, none⟩), .pointer (some ⟨Bf, 0, none⟩)] W fun e W' => (∃ v, e = .returned v) ∧ ∃ F', J F' (wantL m q fl.f xs) W' := by
  obtain ⟨_, _, _, hcs, HN, hn, _⟩ := Rd.slice_is (e := shItem) PC.items
  simp only [List.cons.injEq, Value.slice.injEq, and_true] at hcs
  obtain ⟨rfl, rfl, rfl⟩ := hcs
  have HPC := Lib.hid PC
  have HA := Lib.hid hA
  have HY := Lib.hid hY
  have HF := Lib.hid hF
  have HWB := Lib.hid hW
  have hsz := hW.size
  have PW0 := PC.on hW
  clear PC hA hY hF hW
  have cL : W.cell? ⟨Bl, 0, none⟩ = some (.slice a n c) := PW0.bl.cell 0
  clear PW0
  refine callsIn_of_wp Try.func34 rfl trivial ?_ rfl
  simp only [Try.ntmps34, List.size_toArray, List.length_cons, List.length_nil, Nat.reduceAdd, Nat.reduceSub, Array.replicate_succ, Array.replicate_zero, List.push_toArray, List.append_toArray, List.nil_append, List.cons_append]
  gi_wp2
  gi_loopw [12] (fun s12 wr => ∃ (i : Nat) (F : List Nat), s12 = .int .i64 (i : Int) ∧ i ≤ n ∧ Hid (J F (wantL m q fl.f (xs.take i)) wr) ∧ Hid (Below w.heap.size w wr) ∧ Hid (W.heap.size ≤ wr.heap.size)) (fun s12 _ => n - (intOf s12).toNat)
  case atStart => exact ⟨0, F, rfl, Nat.zero_le _, h0, HWB.out, Nat.le_refl _⟩
  case round =>
    obtain ⟨i, F, rfl, hi, HJ, HWR, HWS⟩ := hrel
    by_cases h1 : i < n
    · have PW := Lib.hid (HPC.out.on HWR.out)
      obtain ⟨b, off, x, c0, c1, c2, rfl, hblt, hx, hrd, k0, k1, k2⟩ := rd_item_in PW.out.items i h1
      obtain ⟨id, vec, tags, va, vn, vc, ta, tn, tc, rfl, hcs, hid, rv, rt, hvl, htl, hvn, htn⟩ := rd_item hrd.out
      simp only [List.cons.injEq, and_true] at hcs
      obtain ⟨rfl, rfl, rfl⟩ := hcs
      have HX := Lib.hid hx
      have RV := Lib.hid (Rd.ints rv rfl)
      have RT := Lib.hid (Rd.strs rt rfl).1
      have cM : wr.cell? ⟨Bm, 0, none⟩ = some (.int .u8 (m : Int)) := PW.out.bm.cell 0
      have cQ : wr.cell? ⟨Bq, 0, none⟩ = some (.slice qa qn qc) := PW.out.bq.cell 0
      clear hx hrd rv rt
      obtain ⟨w2, hw2⟩ : ∃ w2, wr.alloc (.cells #[.int .u32 (id : Int), .slice va vn vc, .slice ta tn tc] 44) = w2 := ⟨_, rfl⟩
      have b2 : Below wr.heap.size wr w2 := by rw [← hw2]; exact (Below.refl _ _).alloc (Nat.le_refl _) _
      have P2 := Lib.hid (PW.out.on b2)
      have bx := Lib.hid (show Blk w2 wr.heap.size 44 [.int .u32 (id : Int), .slice va vn vc, .slice ta tn tc] from by rw [← hw2]; exact Blk.new wr _ _)
      have x0 : w2.cell? ⟨wr.heap.size, 0, none⟩ = some (.int .u32 (id : Int)) := bx.out.cell 0
      have x1 : w2.cell? ⟨wr.heap.size, 1, none⟩ = some (.slice va vn vc) := bx.out.cell 1
      have x2 : w2.cell? ⟨wr.heap.size, 2, none⟩ = some (.slice ta tn tc) := bx.out.cell 2
      have cM2 : w2.cell? ⟨Bm, 0, none⟩ = some (.int .u8 (m : Int)) := P2.out.bm.cell 0
      have cQ2 : w2.cell? ⟨Bq, 0, none⟩ = some (.slice qa qn qc) := P2.out.bq.cell 0
      have HB2 := Lib.hid b2
      have J2 := Lib.hid (HA.out F _ wr w2 [] HJ.out (Kept.of_below b2 (Nat.le_refl _)) (by simp))
      clear b2
      have hwq := HPC.out.vec.len
      rcases hdv : distV m qn vn q vec with _ | dd
      · have HN2 := Lib.hid (show wantL m q fl.f (xs.take (i + 1)) = wantL m q fl.f (xs.take i) from by rw [wantL_next HX.out, wantO_none hwq hvl.out hdv]; simp)
        have CD := Lib.hid (dist_none (m : Int) qa va qn vn qc vc q vec w2 (by omega) (by have := HPC.out.hm; omega) P2.out.vec (RV.out.below (Nat.le_refl _) HB2.out) hdv)
        clear hdv
        gi_wp2_with (first | (rw [hw2]) | fail)
        refine ⟨trivial, (callsIn_wide.2 CD.out).mono ?_⟩
        rintro e w3 ⟨rfl, hb3⟩
        have HB3 := Lib.hid (HB2.out.trans (hb3.mono HB2.out.size))
        have J3 := Lib.hid (HA.out F _ w2 w3 [] J2.out (Kept.of_below hb3 (Nat.le_refl _)) (by simp))
        clear hb3 CD cM2 cQ2 x0 x1 x2 cM cQ k0 k1 k2 hw2
        gi_wp2
        refine ⟨trivial, ?_⟩
        gi_wp2
        refine ⟨fun _ h => (by cases h), ?_⟩
        gi_wp2
        go_roundw
        case rel => exact ⟨i + 1, F, by go_num, by omega, by rw [HN2.out]; exact J3.out, HWR.out.trans (HB3.out.mono HWR.out.size), Nat.le_trans HWS.out HB3.out.size⟩
        case measure => first | (simp [intOf]; done) | (simp [intOf]; omega)
      · have CD := Lib.hid (dist_some (m : Int) qa va qn vn qc vc q vec dd w2 (by omega) (by have := HPC.out.hm; omega) P2.out.vec (RV.out.below (Nat.le_refl _) HB2.out) hdv)
        have HDV := Lib.hid hdv
        clear hdv
        gi_wp2_with (first | (rw [hw2]) | fail)
        refine ⟨trivial, (callsIn_wide.2 CD.out).mono ?_⟩
        rintro e w3 ⟨rfl, hb3⟩
        have HB3 := Lib.hid (HB2.out.trans (hb3.mono HB2.out.size))
        have P3 := Lib.hid (P2.out.on hb3)
        have J3 := Lib.hid (HA.out F _ w2 w3 [] J2.out (Kept.of_below hb3 (Nat.le_refl _)) (by simp))
        have bx3 := bx.out.of_eq (hb3.block _ bx.out.lt)
        have x0 : w3.cell? ⟨wr.heap.size, 0, none⟩ = some (.int .u32 (id : Int)) := bx3.cell 0
        have x2 : w3.cell? ⟨wr.heap.size, 2, none⟩ = some (.slice ta tn tc) := bx3.cell 2
        have f0 : w3.cell? ⟨Bf, 0, none⟩ = some (.slice fl.p0.1 fl.p0.2.1 fl.p0.2.2) := P3.out.bf.cell 0
        have f1 : w3.cell? ⟨Bf, 1, none⟩ = some (.slice fl.p1.1 fl.p1.2.1 fl.p1.2.2) := P3.out.bf.cell 1
        have f2 : w3.cell? ⟨Bf, 2, none⟩ = some (.slice fl.p2.1 fl.p2.2.1 fl.p2.2.2) := P3.out.bf.cell 2
        have CM := Lib.hid (match_reads fl.p0.1 fl.p1.1 fl.p2.1 ta fl.p0.2.1 fl.p0.2.2 fl.p1.2.1 fl.p1.2.2 fl.p2.2.1 fl.p2.2.2 tn tc fl.f.all fl.f.any fl.f.none tags w3 P3.out.flt.all P3.out.flt.any P3.out.flt.none (RT.out.on HB3.out))
        have BX3 := Lib.hid bx3
        clear hb3 bx3 CD cM2 cQ2 x1 cM cQ k0 k1 k2 hw2
        cases hmb : matchB fl.f tags with
        | false =>
          have CM2 := CM.out
          rw [show (⟨fl.f.all, fl.f.any, fl.f.none⟩ : Filt) = fl.f from rfl, hmb] at CM2
          have HN2 := Lib.hid (show wantL m q fl.f (xs.take (i + 1)) = wantL m q fl.f (xs.take i) from by rw [wantL_next HX.out, wantO_not hwq hvl.out HDV.out hmb]; simp)
          have CM3 := Lib.hid CM2
          clear CM CM2 hmb
          gi_wp2
          refine ⟨trivial, (callsIn_wide.2 CM3.out).mono ?_⟩
          rintro e w4 ⟨rfl, hb4⟩
          have HB4 := Lib.hid (HB3.out.trans (hb4.mono HB3.out.size))
          have J4 := Lib.hid (HA.out F _ w3 w4 [] J3.out (Kept.of_below hb4 (Nat.le_refl _)) (by simp))
          clear hb4 x0 x2 f0 f1 f2
          gi_wp2
          refine ⟨fun _ h => (by cases h), ?_⟩
          gi_wp2
          go_roundw
          case rel => exact ⟨i + 1, F, by go_num, by omega, by rw [HN2.out]; exact J4.out, HWR.out.trans (HB4.out.mono HWR.out.size), Nat.le_trans HWS.out HB4.out.size⟩
          case measure => first | (simp [intOf]; done) | (simp [intOf]; omega)
        | true =>
          have CM2 := CM.out
          rw [show (⟨fl.f.all, fl.f.any, fl.f.none⟩ : Filt) = fl.f from rfl, hmb] at CM2
          have HN2 := Lib.hid (show wantL m q fl.f (xs.take (i + 1)) = wantL m q fl.f (xs.take i) ++ [(dd, (id : Int))] from by rw [wantL_next HX.out, wantO_some hwq hvl.out HDV.out hmb]; rfl)
          have CM3 := Lib.hid CM2
          clear CM CM2 hmb
          gi_wp2
          refine ⟨trivial, (callsIn_wide.2 CM3.out).mono ?_⟩
          rintro e w4 ⟨rfl, hb4⟩
          have HB4 := Lib.hid (HB3.out.trans (hb4.mono HB3.out.size))
          have J4 := Lib.hid (HA.out F _ w3 w4 [] J3.out (Kept.of_below hb4 (Nat.le_refl _)) (by simp))
          have x0' : w4.cell? ⟨wr.heap.size, 0, none⟩ = some (.int .u32 (id : Int)) := (BX3.out.of_eq (hb4.block _ BX3.out.lt)).cell 0
          clear hb4 x0 x2 f0 f1 f2
          obtain ⟨fn, tmps, assign, body, hy, hR⟩ := yield_any (d - 1) (HY.out F _ (dd, (id : Int)) w4 J4.out (by rw [← HN2.out]; exact wantL_pre _ _ _ _ _))
          dsimp only [hitE] at hy
          gi_wp2
          refine hR.mono ?_
          rintro e w5 ⟨rfl, F', hJ5, hk5, hg5⟩
          have HB5 := Lib.hid ((HWR.out.trans (HB4.out.mono HWR.out.size)).trans (hk5.below (fun x hx => (HF.out F _ w4 J4.out x hx).1) (Nat.le_trans HWR.out.size HB4.out.size)))
          have J5 := Lib.hid hJ5
          have S5 := Lib.hid (Nat.le_trans (Nat.le_trans HWS.out HB4.out.size) hk5.size)
          clear hJ5 hk5 hg5 hR hy x0'
          gi_wp2
          go_roundw
          case rel => exact ⟨i + 1, F', by go_num, by omega, by rw [HN2.out]; exact J5.out, HB5.out, S5.out⟩
          case measure => first | (simp [intOf]; done) | (simp [intOf]; omega)
    · have ht : xs.take i = xs := List.take_of_length_le (by have := HN.out; omega)
      rw [ht] at HJ
      gi_wp2
      go_end0
      exact ⟨⟨_, rfl⟩, F, HJ.out⟩
theorem wanted_gives (w : World) (Bl Bm Bq Bf m : Nat) (a qa : Option Addr) (n c qn qc : Nat) (xs : List shItem.T) (q : List Int) (fl : FltL) (PC : WantAt w Bl Bm Bq Bf m a n c xs qa qn qc q fl) :
    GivesL Try.prog 34 #[.pointer (some ⟨Bl, 0, none⟩), .pointer (some ⟨Bm, 0, none⟩), .pointer (some ⟨Bq, 0, none⟩), .pointer (some ⟨Bf, 0, none⟩)] hitE (wantL m q fl.f xs) w :=
  fun l J W F hW hA hF hY h0 => callsIn_wide.1 (wanted1_in 9 (by omega) w Bl Bm Bq Bf m a qa n c qn qc xs q fl PC l J W F hW hA hF hY h0)

set_option maxHeartbeats 1600000 in
/-- wanted(m, l, q, f): an iterator over the hits of those items that are wanted. -/
theorem wanted_any (w : World) (ok : Nat → Prop) (m : Nat) (a qa : Option Addr) (n c qn qc : Nat) (xs : List shItem.T) (q : List Int) (fl : FltL) (hm : m < 256) (h : Rd ok w shItems [.slice a n c] xs) (hq : Reads .i32 w qa qn q) (hf : fl.In w) :
    Calls Try.prog 24 #[.int .u8 (m : Int), .slice a n c, .slice qa qn qc, .agg fl.cells] w fun e w' => ∃ lb, e = .returned (.func (.func 34) #[] lb) ∧ GivesL Try.prog 34 lb hitE (wantL m q fl.f xs) w' ∧ Below w.heap.size w w' := by
  obtain ⟨w4, hw4⟩ : ∃ w4, (((w.alloc (.cells #[.int .u8 (m : Int)] 35)).alloc (.cells #[.slice a n c] 22)).alloc (.cells #[.slice qa qn qc] 23)).alloc (.cells #[.slice fl.p0.1 fl.p0.2.1 fl.p0.2.2, .slice fl.p1.1 fl.p1.2.1 fl.p1.2.2, .slice fl.p2.1 fl.p2.2.1 fl.p2.2.2] 26) = w4 := ⟨_, rfl⟩
  have hb : Below w.heap.size w w4 := by
    rw [← hw4]
    exact ((((Below.refl _ w).alloc (Nat.le_refl _) _).alloc (by simp) _).alloc (by simp; omega) _).alloc (by simp; omega) _
  have PC : WantAt w4 (w.heap.size + 1) w.heap.size (w.heap.size + 2) (w.heap.size + 3) m a n c xs qa qn qc q fl := by
    refine ⟨?_, ?_, ?_, ?_, hm, (h.mono fun _ _ _ => trivial).on hb, hq.below (Nat.le_refl _) hb, hf.on hb⟩
    · rw [← hw4]
      have := ((Blk.new (w.alloc (.cells #[.int .u8 (m : Int)] 35)) 22 #[.slice a n c]).alloc (.cells #[.slice qa qn qc] 23)).alloc (.cells #[.slice fl.p0.1 fl.p0.2.1 fl.p0.2.2, .slice fl.p1.1 fl.p1.2.1 fl.p1.2.2, .slice fl.p2.1 fl.p2.2.1 fl.p2.2.2] 26)
      simpa using this
    · rw [← hw4]
      exact (((Blk.new w 35 #[.int .u8 (m : Int)]).alloc _).alloc _).alloc _
    · rw [← hw4]
      have := (Blk.new ((w.alloc (.cells #[.int .u8 (m : Int)] 35)).alloc (.cells #[.slice a n c] 22)) 23 #[.slice qa qn qc]).alloc (.cells #[.slice fl.p0.1 fl.p0.2.1 fl.p0.2.2, .slice fl.p1.1 fl.p1.2.1 fl.p1.2.2, .slice fl.p2.1 fl.p2.2.1 fl.p2.2.2] 26)
      simpa using this
    · rw [← hw4]
      have := Blk.new (((w.alloc (.cells #[.int .u8 (m : Int)] 35)).alloc (.cells #[.slice a n c] 22)).alloc (.cells #[.slice qa qn qc] 23)) 26 #[.slice fl.p0.1 fl.p0.2.1 fl.p0.2.2, .slice fl.p1.1 fl.p1.2.1 fl.p1.2.2, .slice fl.p2.1 fl.p2.2.1 fl.p2.2.2]
      show Blk _ _ _ [.slice fl.p0.1 fl.p0.2.1 fl.p0.2.2, .slice fl.p1.1 fl.p1.2.1 fl.p1.2.2, .slice fl.p2.1 fl.p2.2.1 fl.p2.2.2]
      simpa using this
  have HG := Lib.hid (wanted_gives w4 _ _ _ _ m a qa n c qn qc xs q fl PC)
  have HB := Lib.hid hb
  clear PC hb h hq hf hm
  show Calls _ _ #[_, _, _, .agg #[.slice fl.p0.1 fl.p0.2.1 fl.p0.2.2, .slice fl.p1.1 fl.p1.2.1 fl.p1.2.2, .slice fl.p2.1 fl.p2.2.1 fl.p2.2.2]] _ _
  go_enter Try.func24, Try.ntmps24
  go_wp2
  try rw [hw4]
  go_ret
  exact ⟨_, rfl, HG.out, HB.out⟩
end Go.Proofs.Yteaomjabanhblaa
