/-
  DedupPlays holds: whatever is asked, kept and acknowledged, each answer is the document's. For every list of ops.
-/
import Derived.Test.YtdgiellnklcioaaRows
import Derived.Test.YtdgiellnklcioaaDdp
import Derived.Test.YtdgiellnklcioaaSp
import Derived.Test.YtdgiellnklcioaaMy
import Derived.Test.YtdgiellnklcioaaFr
namespace Go.Proofs.Ytdgiellnklcioaa
open Go.ChangeShapes Go.WideShapes Go.ChangeAt Go.RowKit Go.Maps

theorem At16.turn {w0 w w' : World} {G G' F : List Nat} {x : Nat} {t : TV} (h : At16 w0 G x t w) (hk : Kept F w w') (hF : ∀ k ∈ F, k ∈ G ∧ w0.heap.size ≤ k) (hG : ∀ k ∈ G', k < w'.heap.size ∧ (k ∈ G ∨ w.heap.size ≤ k)) : At16 w0 G' x t w' := by
  have h2 := h.kept hk hF
  obtain ⟨⟨b, Ms, d, e⟩, hB⟩ := h
  obtain ⟨-, hB'⟩ := h2
  refine ⟨⟨b, Ms, ?_, e⟩, hB'⟩
  have dk := d.kept hk (fun k hk => .inl (hF k hk).1)
  have hx := d.blk.lt
  have hb := d.map.lt
  exact ⟨dk.blk, dk.map, d.len, d.few, d.most, fun m hm => (d.each m hm).stay hk.size (fun k ho hlt => hk.block k hlt (fun hf => ho.2.2.2 (hF k hf).1)) (fun k ho hlt => ⟨ho.1, ho.2.1, ho.2.2.1, fun hgg => by
    rcases (hG k hgg).2 with h1 | h1
    · exact ho.2.2.2 h1
    · omega⟩), fun hgg => by
    rcases (hG x hgg).2 with h1 | h1
    · exact d.gx h1
    · omega, fun hgg => by
    rcases (hG b hgg).2 with h1 | h1
    · exact d.gb h1
    · omega, d.lx, d.lb, fun g hgg => (hG g hgg).1⟩
/-- Both tables beside each other. -/
structure Both16 (w0 : World) (x y : Nat) (v : Value) (Ms : List MsgL) (t : TV) (w : World) : Prop where
  tab : At16 w0 (y :: ownB v) x t w
  doc : DocT w w0.heap.size y v Ms t
section
variable {w0 w w' : World} {x y : Nat} {v : Value} {Ms : List MsgL} {t : TV}
theorem Both16.on (h : Both16 w0 x y v Ms t w) (hb : Below w.heap.size w w') : Both16 w0 x y v Ms t w' := ⟨h.tab.on hb, h.doc.on hb⟩
theorem doc_turn16 {t2 t3 : TV} {c : Nat} {e : Ending} (d0 : DocT w w0.heap.size y v Ms t) (h2 : At16 w0 (y :: ownB v) x t2 w) (hp : RTabPost w0.heap.size y v t3 c w e w') : e = .returned (.int .i64 (c : Int)) ∧ ∃ v' Ms', At16 w0 (y :: ownB v') x t2 w' ∧ DocT w' w0.heap.size y v' Ms' t3 := by
  obtain ⟨rfl, v', Ms', d, k, g⟩ := hp
  refine ⟨rfl, v', Ms', h2.turn k (fun j hj => ⟨hj, ?_⟩) (fun j hj => ⟨?_, g j hj⟩), d⟩
  · rcases List.mem_cons.1 hj with rfl | hj
    · exact d0.ly
    · exact (d0.row.lt j (mem_ownB.1 hj)).1
  · rcases List.mem_cons.1 hj with rfl | hj
    · exact d.blk.lt
    · exact (d.row.lt j (mem_ownB.1 hj)).2
end
/-- The same in the midst of two Keeps: beside the tables the op's box, block ob. -/
structure Mid16 (w0 : World) (x y ob : Nat) (cs : List Value) (v : Value) (Ms : List MsgL) (tp td : TV) (w : World) : Prop where
  tab : At16 w0 (ob :: y :: ownB v) x tp w
  doc : DocT w w0.heap.size y v Ms td
  box : Blk w ob 47 cs
section
variable {w0 w w' : World} {x y ob : Nat} {cs : List Value} {v : Value} {Ms : List MsgL} {t tp td : TV}
theorem Both16.mid (h : Both16 w0 x y v Ms t w) (hb : Below w.heap.size w w') (hx : Blk w' ob 47 cs) (ho : w.heap.size ≤ ob) : Mid16 w0 x y ob cs v Ms t t w' :=
  ⟨h.tab.turn (F := []) (Kept.of_below hb (Nat.le_refl _)) (by simp) (fun k hk => by
    rcases List.mem_cons.1 hk with rfl | hk
    · exact ⟨hx.lt, .inr ho⟩
    · exact ⟨by
        rcases List.mem_cons.1 hk with rfl | hk
        · exact (h.doc.on hb).blk.lt
        · exact ((h.doc.on hb).row.lt k (mem_ownB.1 hk)).2, .inl hk⟩), h.doc.on hb, hx⟩
theorem Mid16.both (h : Mid16 w0 x y ob cs v Ms t t w) : Both16 w0 x y v Ms t w := ⟨h.tab.turn (F := []) (Kept.refl _ _) (by simp) (fun k hk => ⟨by
    rcases List.mem_cons.1 hk with rfl | hk
    · exact h.doc.blk.lt
    · exact (h.doc.row.lt k (mem_ownB.1 hk)).2, .inl (List.mem_cons_of_mem _ hk)⟩), h.doc⟩
theorem Mid16.on (h : Mid16 w0 x y ob cs v Ms tp td w) (hb : Below w.heap.size w w') : Mid16 w0 x y ob cs v Ms tp td w' := ⟨h.tab.on hb, h.doc.on hb, (Kept.of_below (F := []) hb (Nat.le_refl _)).blk h.box (by simp)⟩
theorem Mid16.prog (h : Mid16 w0 x y ob cs v Ms tp td w) {t2 : TV} (h2 : At16 w0 (ob :: y :: ownB v) x t2 w') (hs : Spare w0.heap.size (ob :: y :: ownB v) w w') : Mid16 w0 x y ob cs v Ms t2 td w' :=
  ⟨h2, h.doc.same hs.below (fun k hk hlt => hs.g k (List.mem_cons_of_mem _ hk) hlt), hs.blk h.box (by simp)⟩
theorem Mid16.docs (h : Mid16 w0 x y ob cs v Ms tp td w) (hob : w0.heap.size ≤ ob) {t3 : TV} {c : Nat} {e : Ending} (hp : RTabPost w0.heap.size y v t3 c w e w') : e = .returned (.int .i64 (c : Int)) ∧ ∃ v' Ms', Mid16 w0 x y ob cs v' Ms' tp t3 w' := by
  obtain ⟨rfl, v', Ms', d, k, g⟩ := hp
  have hn : ob ∉ y :: ownB v := fun hh => by
    rcases List.mem_cons.1 hh with e | hh
    · have h1 := h.doc.blk
      have h2 := h.box
      rw [← e] at h1
      unfold Blk at h1 h2
      rw [h1] at h2
      simp at h2
    · exact row_blk8 h.doc.row.2 h.box (by decide) (mem_ownB.1 hh)
  refine ⟨rfl, v', Ms', h.tab.turn k (fun j hj => ⟨List.mem_cons_of_mem _ hj, ?_⟩) (fun j hj => ?_), d, k.blk h.box hn⟩
  · rcases List.mem_cons.1 hj with rfl | hj
    · exact h.doc.ly
    · exact (h.doc.row.lt j (mem_ownB.1 hj)).1
  · rcases List.mem_cons.1 hj with rfl | hj
    · exact ⟨Nat.lt_of_lt_of_le h.box.lt k.size, .inl (by simp)⟩
    · refine ⟨?_, (g j hj).imp (fun h1 => List.mem_cons_of_mem _ h1) id⟩
      rcases List.mem_cons.1 hj with rfl | hj
      · exact d.blk.lt
      · exact (d.row.lt j (mem_ownB.1 hj)).2
theorem Mid16.msg {kind far : Nat} {m : MsgL} (h : Mid16 w0 x y ob (opC kind far m) v Ms tp td w) : w.rangeAt ob 2 m.cells.toArray.toList := fun j u hj => by
  have := (blk_range h.box) (j + 2) u (by simpa [opC] using hj)
  rw [Nat.zero_add] at this
  rw [Nat.add_comm]
  exact this
end
theorem box_msg {w : World} {ob kind far : Nat} {m : MsgL} (h : Blk w ob 47 (opC kind far m)) : w.rangeAt ob 2 m.cells.toArray.toList := fun j u hj => by
  have := (blk_range h) (j + 2) u (by simpa [opC] using hj)
  rw [Nat.zero_add] at this
  rw [Nat.add_comm]
  exact this
theorem w64_nat {n : Nat} (h : n ≤ 1073741824) : wrap64 (n : Int) = (n : Int) := by unfold wrap64; omega
theorem w64_sub {n k : Nat} (h : n ≤ 1073741824) (hk : k ≤ n) : wrap64 ((n : Int) - (k : Int)) = (n : Int) - (k : Int) := by unfold wrap64; omega
theorem w64_32 {q : Nat} (h : q < 4294967296) : wrap64 (q : Int) = (q : Int) := by unfold wrap64; omega
theorem i64_32 {q : Nat} (h : q < 4294967296) : IntKind.i64.wrap (q : Int) = (q : Int) := by rw [IntKind.wrap_i64]; omega
theorem i64_nat {n : Nat} (h : n ≤ 1073741824) : IntKind.i64.wrap (n : Int) = (n : Int) := by rw [IntKind.wrap_i64]; omega
theorem ask_small (t : TV) (q : Nat) : (t.ask q).2 ≤ 4 := by
  unfold TV.ask
  repeat' split
  all_goals simp
theorem keep_len (t : TV) (q : Nat) (a : MsgV) : (t.keep q a).2.L.length ≤ t.L.length + 1 := by
  unfold TV.keep
  split
  · exact Nat.le_succ _
  · split
    · exact Nat.le_succ _
    · split
      · exact Nat.le_succ _
      · simp
theorem ack_len (t : TV) (q : Nat) : (t.ack q).2.L.length = t.L.length := by
  unfold TV.ack
  split <;> rfl
set_option maxRecDepth 100000 in
set_option maxHeartbeats 12800000 in
theorem plays_walk (a : Option Addr) (n c : Nat) (xs : List shOp16.T) (w0 : World) (hx : Rd (· < w0.heap.size) w0 shOps16 [.slice a n c] xs) : Calls Try.prog 3 #[.slice a n c] w0 fun e w' => e = .returned (.bool true) ∧ Below w0.heap.size w0 w' := by
  obtain ⟨Z, hZ⟩ : ∃ Z, (zeroL 0).cells.toArray = Z := ⟨_, rfl⟩
  have hz := msg_zero
  rw [hZ] at hz
  have hb1 := msg_ne hZ
  have hb4 := msg_28 hZ
  have HZ := Lib.hid hZ
  obtain ⟨ZO, hZO⟩ : ∃ Z, zeroO.toArray = Z := ⟨_, rfl⟩
  have hzo := op_zero16
  rw [hZO] at hzo
  have hzo1 : (ZO = #[]) = False := by rw [← hZO]; simp [zeroO, opC]
  have hzo2 : ZO.size = 30 := by rw [← hZO]; rfl
  have HX := Lib.hid hx
  clear hZ hZO hx
  go_enter Try.func3, Try.ntmps3
  go_wp2_with (fail)
  refine (alive16 w0).mono ?_
  rintro e w1 ⟨rfl, hb⟩
  have B1 := Lib.hid hb
  clear hb
  go_wp2_with (fail)
  refine (a_new w0 w1 B1.out).mono ?_
  rintro e w2 ⟨x, rfl, h2, -⟩
  have B2 := Lib.hid h2.2.size
  obtain ⟨w3, hw3⟩ : ∃ w3, w2.alloc (.cells #[.slice none 0 0, .int .i64 0] 29) = w3 := ⟨_, rfl⟩
  have b3 : Below w2.heap.size w2 w3 := by rw [← hw3]; exact (Below.refl _ _).alloc (Nat.le_refl _) _
  have hY3 : Blk w3 w2.heap.size 29 [.slice none 0 0, .int .i64 0] := by rw [← hw3]; exact Blk.new _ _ _
  have H3 := Lib.hid (show Both16 w0 x w2.heap.size (.slice none 0 0) [] ⟨[], 0⟩ w3 from ⟨h2.turn (F := []) (Kept.of_below b3 (Nat.le_refl _)) (by simp) (fun k hk => by simp [ownB, Value.ownBlock] at hk; rw [hk]; exact ⟨hY3.lt, .inr (Nat.le_refl _)⟩), ⟨hY3, RowC.nil _ _ _ _, by simp, rfl, B2.out⟩⟩)
  clear h2 B1 b3 hY3
  go_wp2_with (fail)
  try rw [hw3]
  clear hw3
  obtain ⟨y, hy⟩ : ∃ y, w2.heap.size = y := ⟨_, rfl⟩
  rw [hy] at H3 ⊢
  clear hy B2
  go_loopw [5] (fun s5 wr => ∃ (i : Nat) (q : SlL) (Ms : List MsgL) (t : TV), s5 = .int .i64 (i : Int) ∧ i ≤ 100 ∧ Hid (t.L.length ≤ i) ∧ Hid (Both16 w0 x y (.slice q.a q.n q.c) Ms t wr)) (fun s5 _ => 101 - (intOf s5).toNat)
  case atStart => exact ⟨0, .nil, [], ⟨[], 0⟩, rfl, by omega, Nat.le_refl _, H3.out⟩
  case round =>
    clear H3
    obtain ⟨i, ⟨va, vn, vc⟩, Ms, t, rfl, hi, HLi, HO⟩ := hrel
    by_cases hin : i < n
    · by_cases hi100 : i < 100
      · obtain ⟨b, off, kind, far, m, rfl, hbl, hk8, hf32, hmin, hrg⟩ := rd_op16 HX.out i hin
        have HRG := Lib.hid (range_below hrg hbl HO.out.tab.2)
        have hblr : b < wr.heap.size := Nat.lt_of_lt_of_le hbl HO.out.tab.2.size
        have HMI := Lib.hid hmin
        obtain ⟨OA, hOA⟩ : ∃ O, (opC kind far m).toArray = O := ⟨_, rfl⟩
        have hOA1 : (OA = #[]) = False := by rw [← hOA]; simp [opC]
        have hOA2 : OA.size = 30 := by rw [← hOA]; rfl
        have hstO := op_store16 wr ZO kind far m hzo2
        rw [hOA] at hstO
        obtain ⟨w3, hw3⟩ : ∃ W, wr.alloc (.cells OA 47) = W := ⟨_, rfl⟩
        rw [hw3] at hstO
        have b3 : Below wr.heap.size wr w3 := by rw [← hw3]; exact (Below.refl _ _).alloc (Nat.le_refl _) _
        have OB3 := Lib.hid (show Blk w3 wr.heap.size 47 (opC kind far m) from by rw [← hw3, ← hOA]; exact Blk.new wr 47 (opC kind far m).toArray)
        have hlt3 := OB3.out.lt
        obtain ⟨M, hM⟩ : ∃ M, m.cells.toArray = M := ⟨_, rfl⟩
        have hM1 := msg_ne hM
        have hM2 := msg_28 hM
        have hinfoM : (Try.prog.info? 45).map (·.size) = some M.size := by rw [hM2]; exact msg_size16
        have RM3 := Lib.hid (show w3.rangeAt wr.heap.size 2 M.toList from by rw [← hM]; exact box_msg OB3.out)
        have HMM := Lib.hid hM
        have HO3 := Lib.hid (HO.out.on b3)
        have B3 := Lib.hid b3
        have HOA := Lib.hid hOA
        clear hOA hrg b3 hbl hM hmin
        go_wp2_with (first | (refine wp_load_m wr (by rfl) 47 (.tmp 31) rfl b (off + i * 30) (opC kind far m) _ (by rfl) HRG.out Try.underlying47 rfl op_size16 ?_; rw [HOA.out]) | (refine wp_load_mA w3 (by rfl) 45 (.tmp 33) rfl wr.heap.size 2 M _ (by rfl) RM3.out Try.underlying45 rfl hinfoM ?_) | fail)
        rw [← HMM.out]
        refine (great_msg m w3 (HMI.out.under HO3.out.tab.2)).mono ?_
        rintro e w4 ⟨⟨gg, rfl⟩, hb4⟩
        rw [HMM.out]
        have HO4 := Lib.hid (HO3.out.on hb4)
        have OB4 := Lib.hid ((Kept.of_below (F := []) hb4 (Nat.le_refl _)).blk OB3.out (by simp))
        have B4 := Lib.hid (below_on B3.out hb4)
        have co0 : w4.cell? ⟨wr.heap.size, 0, none⟩ = some (.int .u8 (kind : Int)) := OB4.out.cell 0
        have co1 : w4.cell? ⟨wr.heap.size, 1, none⟩ = some (.int .u32 (far : Int)) := OB4.out.cell 1
        clear hb4 HO3 OB3 RM3 hlt3 hstO hw3 hOA1 hOA2 HOA HRG B3
        cases gg
        · obtain ⟨r, hr⟩ : ∃ r, kind % 3 = r := ⟨_, rfl⟩
          have hrt : Int.tmod (kind : Int) 3 = (r : Int) := by rw [← hr]; exact (Int.ofNat_tmod kind 3).symm
          have hr2 : r = 0 ∨ r = 1 ∨ r = 2 := by omega
          have hvl := HO.out.doc.vlen
          have hv100 : vn ≤ 100 := by have := HLi.out; omega
          have HVL := Lib.hid hvl
          have cy0 : w4.cell? ⟨y, 0, none⟩ = some (.slice va vn vc) := HO4.out.doc.blk.cell 0
          have hvw : IntKind.u32.wrap (vn : Int) = (vn : Int) := by rw [IntKind.wrap_u32]; omega
          obtain ⟨v1, hv1⟩ : ∃ v1, vn + 1 = v1 := ⟨_, rfl⟩
          have hv1w : IntKind.u32.wrap ((vn : Int) + 1) = (v1 : Int) := by rw [IntKind.wrap_u32]; omega
          have HMD4 := Lib.hid (HO.out.mid B4.out OB4.out (Nat.le_refl _))
          have HOBL := Lib.hid HO.out.tab.2.size
          clear hr hvl hv1 HO
          rcases hr2 with rfl | rfl | rfl
          · have hsz := Lib.hid (show t.L.length ≤ 1000 from by rw [HVL.out]; omega)
            have HLL := Lib.hid (show t.L.length ≤ i + 1 by have := HLi.out; omega)
            by_cases hbig : 1000 < far
            · have hbg : decide ((1000 : Int) < (far : Int)) = true := decide_eq_true (by omega)
              obtain ⟨g4, hg4⟩ : ∃ g4, 4294967295 - far = g4 := ⟨_, rfl⟩
              have hg4w : IntKind.u32.wrap (4294967295 - (far : Int)) = (g4 : Int) := by rw [IntKind.wrap_u32]; omega
              obtain ⟨q, hq⟩ : ∃ q : Nat, IntKind.u32.wrap ((v1 : Int) - (g4 : Int)) = (q : Int) := Int.eq_ofNat_of_zero_le (by rw [IntKind.wrap_u32]; omega)
              have hq32 : q < 4294967296 := by rw [IntKind.wrap_u32] at hq; omega
              have hqw : wrap64 (q : Int) = (q : Int) := w64_32 hq32
              have hqi : IntKind.i64.wrap (q : Int) = (q : Int) := i64_32 hq32
              have HQ32 := Lib.hid hq32
              have HF32 := Lib.hid hf32
              clear hq32 hg4 hbig hf32 HMD4 HOBL
              have CK := Lib.hid (a_ask HO4.out.tab q HQ32.out)
              obtain ⟨cd, hcd⟩ : ∃ cd, (t.ask q).2 = cd := ⟨_, rfl⟩
              have hcds : cd ≤ 1073741824 := by rw [← hcd]; exact Nat.le_trans (ask_small t q) (by decide)
              have hcdw : wrap64 (cd : Int) = (cd : Int) := w64_nat hcds
              have hcdi : IntKind.i64.wrap (cd : Int) = (cd : Int) := i64_nat hcds
              clear hcds
              go_wp2_with (fail)
              refine CK.out.mono ?_
              rintro e w5 ⟨y1, rfl, hb5, hin5, hto5⟩
              obtain ⟨Y1, hY1⟩ : ∃ Y, y1.cells.toArray = Y := ⟨_, rfl⟩
              have hst := msg_store_new w5 Z y1 hb4
              rw [hY1] at hst ⊢
              rw [hcd]
              have hYn := msg_ne hY1
              have hYs := msg_28 hY1
              obtain ⟨w6, hw6⟩ : ∃ W, w5.alloc (.cells Y1 45) = W := ⟨_, rfl⟩
              rw [hw6] at hst
              have hb6 : Below w4.heap.size w4 w6 := by rw [← hw6]; exact hb5.alloc hb5.size _
              have HO6 := Lib.hid (HO4.out.on hb6)
              have hY6 : w6.heap[w5.heap.size]? = some (.cells Y1 45 (0, 0)) := by rw [← hw6]; exact heap_alloc_new w5 _
              have hin6 := hin5.on (show Below w5.heap.size w5 w6 from by rw [← hw6]; exact (Below.refl _ _).alloc (Nat.le_refl _) _)
              have HIN6 := Lib.hid hin6
              have HY6 := Lib.hid hY6
              have HYY := Lib.hid hY1
              have HT5 := Lib.hid hto5
              have CR := Lib.hid (rask_any w6 w0.heap.size y (.slice va vn vc) Ms t HO6.out.doc q HQ32.out hsz.out)
              clear hY1 hb5 hin5 hto5 hb6 hY6 hin6 CK co0 co1 cy0 OB4 HO4
              go_wp2_with (fail)
              try clear hst hw6 hYn
              refine CR.out.mono ?_
              rintro e w7 ⟨m2, rfl, hb7, hin7, hto7⟩
              obtain ⟨M2, hMM2⟩ : ∃ Y, m2.cells.toArray = Y := ⟨_, rfl⟩
              have hst := msg_store_new w7 Z m2 hb4
              rw [hMM2] at hst ⊢
              rw [hcd]
              have hMn := msg_ne hMM2
              have hMs := msg_28 hMM2
              obtain ⟨w8, hw8⟩ : ∃ W, w7.alloc (.cells M2 45) = W := ⟨_, rfl⟩
              rw [hw8] at hst
              have b78 : Below w7.heap.size w7 w8 := by rw [← hw8]; exact (Below.refl _ _).alloc (Nat.le_refl _) _
              have hb8 : Below w6.heap.size w6 w8 := below_on hb7 b78
              have HO8 := Lib.hid (HO6.out.on hb8)
              have hlt6 : w5.heap.size < w6.heap.size := (Array.getElem?_eq_some_iff.1 HY6.out).1
              have HY8 : w8.heap[w5.heap.size]? = some (.cells Y1 45 (0, 0)) := (hb8.block _ hlt6).trans HY6.out
              have HM8 : w8.heap[w7.heap.size]? = some (.cells M2 45 (0, 0)) := by rw [← hw8]; exact heap_alloc_new w7 _
              have hinfoY : (Try.prog.info? 45).map (·.size) = some Y1.size := by rw [hYs]; exact msg_size16
              have hinfo2 : (Try.prog.info? 45).map (·.size) = some M2.size := by rw [hMs]; exact msg_size16
              have SM := Lib.hid (sameMsg y1 m2 w8 (HIN6.out.on hb8) (hin7.on b78))
              have EQ := Lib.hid (show y1.toM = m2.toM from by rw [HT5.out, hto7])
              have HMQ := Lib.hid hMM2
              clear hb7 hin7 hto7 hMM2 b78 hb8 hlt6 HY6 HIN6 HT5 HO6 CR hcd
              go_upto_region 21 with fail
              try clear hst hw8
              go_wp2_with (first | (refine wp_load_any w8 (by rfl) 45 (.tmp 8) rfl w5.heap.size 45 Y1 _ (by rfl) HY8 Try.underlying45 rfl hinfoY ?_) | (refine wp_load_any w8 (by rfl) 45 (.tmp 10) rfl w7.heap.size 45 M2 _ (by rfl) HM8 Try.underlying45 rfl hinfo2 ?_) | fail)
              rw [← HYY.out, ← HMQ.out]
              refine SM.out.mono ?_
              rintro e WX ⟨z, rfl, hz8, hb9⟩
              obtain rfl : z = true := hz8.2 EQ.out
              rw [HYY.out, HMQ.out]
              have HB := Lib.hid (HO8.out.on hb9)
              obtain ⟨t2, ht2⟩ : ∃ t2, t = t2 := ⟨_, rfl⟩
              obtain ⟨va2, vn2, vc2, hva2, hvn2, hvc2⟩ : ∃ va2 vn2 vc2, va = va2 ∧ vn = vn2 ∧ vc = vc2 := ⟨_, _, _, rfl, rfl, rfl⟩
              obtain ⟨Ms2, hMs2⟩ : ∃ M2, Ms = M2 := ⟨_, rfl⟩
              rw [ht2] at HLL
              rw [ht2, hva2, hvn2, hvc2, hMs2] at HB
              clear hz8 hb9 SM EQ HO8 ht2 hva2 hvn2 hvc2 hMs2 HY8 HM8 hinfoY hinfo2 hMn hMs hYs
              have hvl2 := HB.out.doc.vlen
              have hfc := HB.out.tab.1.facts
              obtain ⟨k2, hk2⟩ : ∃ k2, t2.acked = k2 := ⟨_, rfl⟩
              rw [hvl2, hk2] at hfc
              have hv2w : wrap64 (vn2 : Int) = (vn2 : Int) := w64_nat hfc.2.2
              have hk2w : wrap64 (k2 : Int) = (k2 : Int) := w64_nat (Nat.le_trans hfc.1 hfc.2.2)
              have hd2w : wrap64 ((vn2 : Int) - (k2 : Int)) = (vn2 : Int) - (k2 : Int) := w64_sub hfc.2.2 hfc.1
              have z0 : WX.cell? ⟨y, 0, none⟩ = some (.slice va2 vn2 vc2) := HB.out.doc.blk.cell 0
              have z1 : WX.cell? ⟨y, 1, none⟩ = some (.int .i64 (k2 : Int)) := by have := HB.out.doc.blk.cell 1; rw [hk2] at this; exact this
              have QD := Lib.hid (fun j => show Calls Try.prog 17 #[.pointer (some ⟨x, 0, none⟩)] (WX.drewN j) fun e w' => e = .returned (.int .u32 (vn2 : Int)) ∧ w' = WX.drewN j from (a_done ((HB.out.on (below_draws (Below.refl _ _) j)).tab)).mono fun e w' h => ⟨by rw [h.1, hvl2], h.2.symm⟩)
              have QA := Lib.hid (fun j => show Calls Try.prog 18 #[.pointer (some ⟨x, 0, none⟩)] (WX.drewN j) fun e w' => e = .returned (.int .u32 (k2 : Int)) ∧ w' = WX.drewN j from (a_acked ((HB.out.on (below_draws (Below.refl _ _) j)).tab)).mono fun e w' h => ⟨by rw [h.1, hk2], h.2.symm⟩)
              have QL := Lib.hid (fun j => show Calls Try.prog 19 #[.pointer (some ⟨x, 0, none⟩)] (WX.drewN j) fun e w' => e = .returned (.int .i64 ((vn2 : Int) - (k2 : Int))) ∧ w' = WX.drewN j from (a_len ((HB.out.on (below_draws (Below.refl _ _) j)).tab)).mono fun e w' h => ⟨by rw [h.1, hvl2, hk2, Int.ofNat_sub hfc.1], h.2.symm⟩)
              clear hvl2 hfc hk2
              go_wp2_with (fail)
              go_quiet (first | (go_at_call 17; refine Calls.quiet_of_same (QD.out _)) | (go_at_call 18; refine Calls.quiet_of_same (QA.out _)) | (go_at_call 19; refine Calls.quiet_of_same (QL.out _)))
              go_wp2
              go_roundw
              case rel => exact ⟨i + 1, ⟨va2, vn2, vc2⟩, _, t2, by go_num, by omega, HLL.out, HB.out.on (below_draws (Below.refl _ _) _)⟩
              case measure => simp [intOf]; omega
            · have hbg : decide ((1000 : Int) < (far : Int)) = false := decide_eq_false (by omega)
              obtain ⟨q, hq⟩ : ∃ q, far = q := ⟨_, rfl⟩
              have HQ32 := Lib.hid (show q < 4294967296 by omega)
              have hqw : wrap64 (q : Int) = (q : Int) := w64_32 HQ32.out
              have hqi : IntKind.i64.wrap (q : Int) = (q : Int) := i64_32 HQ32.out
              rw [hq] at co1 hbg
              have HF32 := Lib.hid hf32
              clear hq hbig hf32 HMD4 HOBL
              have CK := Lib.hid (a_ask HO4.out.tab q HQ32.out)
              obtain ⟨cd, hcd⟩ : ∃ cd, (t.ask q).2 = cd := ⟨_, rfl⟩
              have hcds : cd ≤ 1073741824 := by rw [← hcd]; exact Nat.le_trans (ask_small t q) (by decide)
              have hcdw : wrap64 (cd : Int) = (cd : Int) := w64_nat hcds
              have hcdi : IntKind.i64.wrap (cd : Int) = (cd : Int) := i64_nat hcds
              clear hcds
              go_wp2_with (fail)
              refine CK.out.mono ?_
              rintro e w5 ⟨y1, rfl, hb5, hin5, hto5⟩
              obtain ⟨Y1, hY1⟩ : ∃ Y, y1.cells.toArray = Y := ⟨_, rfl⟩
              have hst := msg_store_new w5 Z y1 hb4
              rw [hY1] at hst ⊢
              rw [hcd]
              have hYn := msg_ne hY1
              have hYs := msg_28 hY1
              obtain ⟨w6, hw6⟩ : ∃ W, w5.alloc (.cells Y1 45) = W := ⟨_, rfl⟩
              rw [hw6] at hst
              have hb6 : Below w4.heap.size w4 w6 := by rw [← hw6]; exact hb5.alloc hb5.size _
              have HO6 := Lib.hid (HO4.out.on hb6)
              have hY6 : w6.heap[w5.heap.size]? = some (.cells Y1 45 (0, 0)) := by rw [← hw6]; exact heap_alloc_new w5 _
              have hin6 := hin5.on (show Below w5.heap.size w5 w6 from by rw [← hw6]; exact (Below.refl _ _).alloc (Nat.le_refl _) _)
              have HIN6 := Lib.hid hin6
              have HY6 := Lib.hid hY6
              have HYY := Lib.hid hY1
              have HT5 := Lib.hid hto5
              have CR := Lib.hid (rask_any w6 w0.heap.size y (.slice va vn vc) Ms t HO6.out.doc q HQ32.out hsz.out)
              clear hY1 hb5 hin5 hto5 hb6 hY6 hin6 CK co0 co1 cy0 OB4 HO4
              go_wp2_with (fail)
              try clear hst hw6 hYn
              refine CR.out.mono ?_
              rintro e w7 ⟨m2, rfl, hb7, hin7, hto7⟩
              obtain ⟨M2, hMM2⟩ : ∃ Y, m2.cells.toArray = Y := ⟨_, rfl⟩
              have hst := msg_store_new w7 Z m2 hb4
              rw [hMM2] at hst ⊢
              rw [hcd]
              have hMn := msg_ne hMM2
              have hMs := msg_28 hMM2
              obtain ⟨w8, hw8⟩ : ∃ W, w7.alloc (.cells M2 45) = W := ⟨_, rfl⟩
              rw [hw8] at hst
              have b78 : Below w7.heap.size w7 w8 := by rw [← hw8]; exact (Below.refl _ _).alloc (Nat.le_refl _) _
              have hb8 : Below w6.heap.size w6 w8 := below_on hb7 b78
              have HO8 := Lib.hid (HO6.out.on hb8)
              have hlt6 : w5.heap.size < w6.heap.size := (Array.getElem?_eq_some_iff.1 HY6.out).1
              have HY8 : w8.heap[w5.heap.size]? = some (.cells Y1 45 (0, 0)) := (hb8.block _ hlt6).trans HY6.out
              have HM8 : w8.heap[w7.heap.size]? = some (.cells M2 45 (0, 0)) := by rw [← hw8]; exact heap_alloc_new w7 _
              have hinfoY : (Try.prog.info? 45).map (·.size) = some Y1.size := by rw [hYs]; exact msg_size16
              have hinfo2 : (Try.prog.info? 45).map (·.size) = some M2.size := by rw [hMs]; exact msg_size16
              have SM := Lib.hid (sameMsg y1 m2 w8 (HIN6.out.on hb8) (hin7.on b78))
              have EQ := Lib.hid (show y1.toM = m2.toM from by rw [HT5.out, hto7])
              have HMQ := Lib.hid hMM2
              clear hb7 hin7 hto7 hMM2 b78 hb8 hlt6 HY6 HIN6 HT5 HO6 CR hcd
              go_upto_region 21 with fail
              try clear hst hw8
              go_wp2_with (first | (refine wp_load_any w8 (by rfl) 45 (.tmp 8) rfl w5.heap.size 45 Y1 _ (by rfl) HY8 Try.underlying45 rfl hinfoY ?_) | (refine wp_load_any w8 (by rfl) 45 (.tmp 10) rfl w7.heap.size 45 M2 _ (by rfl) HM8 Try.underlying45 rfl hinfo2 ?_) | fail)
              rw [← HYY.out, ← HMQ.out]
              refine SM.out.mono ?_
              rintro e WX ⟨z, rfl, hz8, hb9⟩
              obtain rfl : z = true := hz8.2 EQ.out
              rw [HYY.out, HMQ.out]
              have HB := Lib.hid (HO8.out.on hb9)
              obtain ⟨t2, ht2⟩ : ∃ t2, t = t2 := ⟨_, rfl⟩
              obtain ⟨va2, vn2, vc2, hva2, hvn2, hvc2⟩ : ∃ va2 vn2 vc2, va = va2 ∧ vn = vn2 ∧ vc = vc2 := ⟨_, _, _, rfl, rfl, rfl⟩
              obtain ⟨Ms2, hMs2⟩ : ∃ M2, Ms = M2 := ⟨_, rfl⟩
              rw [ht2] at HLL
              rw [ht2, hva2, hvn2, hvc2, hMs2] at HB
              clear hz8 hb9 SM EQ HO8 ht2 hva2 hvn2 hvc2 hMs2 HY8 HM8 hinfoY hinfo2 hMn hMs hYs
              have hvl2 := HB.out.doc.vlen
              have hfc := HB.out.tab.1.facts
              obtain ⟨k2, hk2⟩ : ∃ k2, t2.acked = k2 := ⟨_, rfl⟩
              rw [hvl2, hk2] at hfc
              have hv2w : wrap64 (vn2 : Int) = (vn2 : Int) := w64_nat hfc.2.2
              have hk2w : wrap64 (k2 : Int) = (k2 : Int) := w64_nat (Nat.le_trans hfc.1 hfc.2.2)
              have hd2w : wrap64 ((vn2 : Int) - (k2 : Int)) = (vn2 : Int) - (k2 : Int) := w64_sub hfc.2.2 hfc.1
              have z0 : WX.cell? ⟨y, 0, none⟩ = some (.slice va2 vn2 vc2) := HB.out.doc.blk.cell 0
              have z1 : WX.cell? ⟨y, 1, none⟩ = some (.int .i64 (k2 : Int)) := by have := HB.out.doc.blk.cell 1; rw [hk2] at this; exact this
              have QD := Lib.hid (fun j => show Calls Try.prog 17 #[.pointer (some ⟨x, 0, none⟩)] (WX.drewN j) fun e w' => e = .returned (.int .u32 (vn2 : Int)) ∧ w' = WX.drewN j from (a_done ((HB.out.on (below_draws (Below.refl _ _) j)).tab)).mono fun e w' h => ⟨by rw [h.1, hvl2], h.2.symm⟩)
              have QA := Lib.hid (fun j => show Calls Try.prog 18 #[.pointer (some ⟨x, 0, none⟩)] (WX.drewN j) fun e w' => e = .returned (.int .u32 (k2 : Int)) ∧ w' = WX.drewN j from (a_acked ((HB.out.on (below_draws (Below.refl _ _) j)).tab)).mono fun e w' h => ⟨by rw [h.1, hk2], h.2.symm⟩)
              have QL := Lib.hid (fun j => show Calls Try.prog 19 #[.pointer (some ⟨x, 0, none⟩)] (WX.drewN j) fun e w' => e = .returned (.int .i64 ((vn2 : Int) - (k2 : Int))) ∧ w' = WX.drewN j from (a_len ((HB.out.on (below_draws (Below.refl _ _) j)).tab)).mono fun e w' h => ⟨by rw [h.1, hvl2, hk2, Int.ofNat_sub hfc.1], h.2.symm⟩)
              clear hvl2 hfc hk2
              go_wp2_with (fail)
              go_quiet (first | (go_at_call 17; refine Calls.quiet_of_same (QD.out _)) | (go_at_call 18; refine Calls.quiet_of_same (QA.out _)) | (go_at_call 19; refine Calls.quiet_of_same (QL.out _)))
              go_wp2
              go_roundw
              case rel => exact ⟨i + 1, ⟨va2, vn2, vc2⟩, _, t2, by go_num, by omega, HLL.out, HB.out.on (below_draws (Below.refl _ _) _)⟩
              case measure => simp [intOf]; omega
          · obtain ⟨q, hq⟩ : ∃ q : Nat, IntKind.u32.wrap ((v1 : Int) + (far : Int)) = (q : Int) := Int.eq_ofNat_of_zero_le (by rw [IntKind.wrap_u32]; omega)
            have hq32 : q < 4294967296 := by have := congrArg Int.toNat hq; rw [IntKind.wrap_u32] at hq; omega
            have hqw : wrap64 (q : Int) = (q : Int) := w64_32 hq32
            have hqi : IntKind.i64.wrap (q : Int) = (q : Int) := i64_32 hq32
            have HQ32 := Lib.hid hq32
            have CPQ := Lib.hid (show t.L.length ≤ 1000 ∧ t.acked ≤ t.L.length from ⟨by rw [HVL.out]; omega, HO4.out.tab.1.facts.1⟩)
            obtain ⟨cd, hcd⟩ : ∃ cd, (t.keep q m.toM).1 = cd := ⟨_, rfl⟩
            obtain ⟨t2, ht2⟩ : ∃ t2, (t.keep q m.toM).2 = t2 := ⟨_, rfl⟩
            have HLL := Lib.hid (show t2.L.length ≤ i + 1 by rw [← ht2]; have := keep_len t q m.toM; have := HLi.out; omega)
            clear hq32
            go_wp2_with (fail)
            go_quiet (fail)
            clear co0 co1 cy0 OB4 HO4 hvw hv1w hrt hq
            go_wp2_with (fail)
            refine wp_region_any (by kernel_rfl) ?_
            change wpAny _ _ _ _ _ _ _ (World.drew (w4.drewN nq))
            have HM5 := Lib.hid (HMD4.out.on ((below_draws (Below.refl w4.heap.size w4) nq).drew))
            generalize hW : (w4.drewN nq).drew = W5
            rw [hW] at HM5
            clear hW HMD4
            refine wpAny_take (i := 0) (v := ?v0k) rfl (by kernel_rfl) (by kernel_rfl) (by kernel_rfl) (fun _ _ _ h => h) (Or.inl ⟨by rfl, ?y0k⟩) ?_
            case y0k => (intro w; go_simp) <;> with_reducible rfl
            go_simp
            refine wpAny_take (i := 1) (v := ?v1k) rfl (by kernel_rfl) (by kernel_rfl) (by kernel_rfl) (fun _ _ _ h => h) (Or.inl ⟨by rfl, ?y1k⟩) ?_
            case y1k => (intro w; go_simp) <;> with_reducible rfl
            go_simp
            refine wpAny_take (i := 2) (v := ?v2k) rfl (by kernel_rfl) (by kernel_rfl) (by kernel_rfl) (fun _ _ _ h => h) (Or.inl ⟨by rfl, ?y2k⟩) ?_
            case y2k => (intro w; go_simp) <;> with_reducible rfl
            go_simp
            refine wpAny_take (i := 5) (v := ?v5k) rfl (by kernel_rfl) (by kernel_rfl) (by kernel_rfl) (fun _ _ _ h => h) (Or.inl ⟨by rfl, ?y5k⟩) ?_
            case y5k => (intro w; go_simp) <;> with_reducible rfl
            go_simp
            refine wpAny_take (i := 6) (v := ?v6k) rfl (by kernel_rfl) (by kernel_rfl) (by kernel_rfl) (fun _ _ _ h => h) (Or.inl ⟨by rfl, ?y6k⟩) ?_
            case y6k => (intro w; go_simp) <;> with_reducible rfl
            go_simp
            refine wpAny_take (i := 7) (v := ?v7k) rfl (by kernel_rfl) (by kernel_rfl) (by kernel_rfl) (fun _ _ _ h => h) (Or.inl ⟨by rfl, ?y7k⟩) ?_
            case y7k => (intro w; go_simp) <;> with_reducible rfl
            go_simp
            refine wpAny_take (i := 8) (v := ?v8k) rfl (by kernel_rfl) (by kernel_rfl) (by kernel_rfl) (fun _ _ _ h => h) (Or.inl ⟨by rfl, ?y8k⟩) ?_
            case y8k => (intro w; go_simp) <;> with_reducible rfl
            go_simp
            refine any_cons [3, 9] (by kernel_rfl) (by simp) ?_
            intro i9 hi9
            rcases (by simpa using hi9 : i9 = 3 ∨ i9 = 9) with rfl | rfl
            · clear hi9
              refine wpOp_step rfl fun K hK => ?_
              rw [if_pos (by rfl)]
              refine wp_load_midA W5 45 (.tmp 109) rfl wr.heap.size 2 M _ (by rfl) (by rw [← HMM.out]; exact HM5.out.msg) Try.underlying45 rfl hinfoM ?_
              refine hK _ _ ?_
              clear hK K
              refine any_cons [4, 9] (by kernel_rfl) (by simp) ?_
              intro i9 hi9
              rcases (by simpa using hi9 : i9 = 4 ∨ i9 = 9) with rfl | rfl
              · clear hi9
                refine wpOp_step rfl fun K hK => ?_
                rw [if_pos (by rfl)]
                go_simp
                rw [← HMM.out]
                refine (a_keep HM5.out.tab q HQ32.out m (HMI.out.under HM5.out.tab.2)).mono ?_
                rintro e w6_1 ⟨rfl, h6, s6⟩
                rw [HMM.out, hcd]
                rw [ht2] at h6
                have HM6_1 := Lib.hid (HM5.out.prog h6 s6)
                refine hK _ _ ?_
                clear hK K h6 s6 HM5
                refine any_one (i := 9) (by kernel_rfl) ?_
                refine wpOp_step rfl fun K hK => ?_
                rw [if_pos (by rfl)]
                refine wp_load_midA w6_1 45 (.tmp 115) rfl wr.heap.size 2 M _ (by rfl) (by rw [← HMM.out]; exact HM6_1.out.msg) Try.underlying45 rfl hinfoM ?_
                refine hK _ _ ?_
                clear hK K
                refine any_one (i := 10) (by kernel_rfl) ?_
                refine wpOp_step rfl fun K hK => ?_
                rw [if_pos (by rfl)]
                go_simp
                rw [← HMM.out]
                refine (rkeep_any w6_1 w0.heap.size y (.slice va vn vc) Ms t HM6_1.out.doc q m (HMI.out.under HM6_1.out.tab.2) CPQ.out.1 CPQ.out.2).mono ?_
                rintro e w6_3 hp
                rw [hcd, ht2] at hp
                obtain ⟨rfl, v6, Ms6, h6⟩ := HM6_1.out.docs HOBL.out hp
                rw [HMM.out]
                have HM6_3 := Lib.hid h6
                refine hK _ _ ?_
                clear hK K hp h6 HM6_1
                obtain ⟨va2, vn2, vc2, rfl, -⟩ := HM6_3.out.doc.form
                have HB := Lib.hid HM6_3.out.both
                clear HM6_3 CPQ
                refine wpAny_take (i := 11) (v := .bool false) rfl (by kernel_rfl) (by kernel_rfl) (by kernel_rfl) (fun _ _ _ h => h) (Or.inl ⟨by rfl, ?y11z4⟩) ?_
                case y11z4 => (intro w; go_simp) <;> with_reducible rfl
                go_simp
                refine wpAny_done (by kernel_rfl) ?_ _
                have hvl2 := HB.out.doc.vlen
                have hfc := HB.out.tab.1.facts
                obtain ⟨k2, hk2⟩ : ∃ k2, t2.acked = k2 := ⟨_, rfl⟩
                rw [hvl2, hk2] at hfc
                have hv2w : wrap64 (vn2 : Int) = (vn2 : Int) := w64_nat hfc.2.2
                have hk2w : wrap64 (k2 : Int) = (k2 : Int) := w64_nat (Nat.le_trans hfc.1 hfc.2.2)
                have hd2w : wrap64 ((vn2 : Int) - (k2 : Int)) = (vn2 : Int) - (k2 : Int) := w64_sub hfc.2.2 hfc.1
                have z0 : w6_3.cell? ⟨y, 0, none⟩ = some (.slice va2 vn2 vc2) := HB.out.doc.blk.cell 0
                have z1 : w6_3.cell? ⟨y, 1, none⟩ = some (.int .i64 (k2 : Int)) := by have := HB.out.doc.blk.cell 1; rw [hk2] at this; exact this
                have QD := Lib.hid (fun j => show Calls Try.prog 17 #[.pointer (some ⟨x, 0, none⟩)] (w6_3.drewN j) fun e w' => e = .returned (.int .u32 (vn2 : Int)) ∧ w' = w6_3.drewN j from (a_done ((HB.out.on (below_draws (Below.refl _ _) j)).tab)).mono fun e w' h => ⟨by rw [h.1, hvl2], h.2.symm⟩)
                have QA := Lib.hid (fun j => show Calls Try.prog 18 #[.pointer (some ⟨x, 0, none⟩)] (w6_3.drewN j) fun e w' => e = .returned (.int .u32 (k2 : Int)) ∧ w' = w6_3.drewN j from (a_acked ((HB.out.on (below_draws (Below.refl _ _) j)).tab)).mono fun e w' h => ⟨by rw [h.1, hk2], h.2.symm⟩)
                have QL := Lib.hid (fun j => show Calls Try.prog 19 #[.pointer (some ⟨x, 0, none⟩)] (w6_3.drewN j) fun e w' => e = .returned (.int .i64 ((vn2 : Int) - (k2 : Int))) ∧ w' = w6_3.drewN j from (a_len ((HB.out.on (below_draws (Below.refl _ _) j)).tab)).mono fun e w' h => ⟨by rw [h.1, hvl2, hk2, Int.ofNat_sub hfc.1], h.2.symm⟩)
                clear hvl2 hfc hk2
                go_wp2_with (fail)
                go_quiet (first | (go_at_call 17; refine Calls.quiet_of_same (QD.out _)) | (go_at_call 18; refine Calls.quiet_of_same (QA.out _)) | (go_at_call 19; refine Calls.quiet_of_same (QL.out _)))
                go_wp2
                go_roundw
                case rel => exact ⟨i + 1, ⟨va2, vn2, vc2⟩, _, t2, by go_num, by omega, HLL.out, HB.out.on (below_draws (Below.refl _ _) _)⟩
                case measure => simp [intOf]; omega
              · clear hi9
                refine wpOp_step rfl fun K hK => ?_
                rw [if_pos (by rfl)]
                refine wp_load_midA W5 45 (.tmp 115) rfl wr.heap.size 2 M _ (by rfl) (by rw [← HMM.out]; exact HM5.out.msg) Try.underlying45 rfl hinfoM ?_
                refine hK _ _ ?_
                clear hK K
                refine any_one (i := 4) (by kernel_rfl) ?_
                refine wpOp_step rfl fun K hK => ?_
                rw [if_pos (by rfl)]
                go_simp
                rw [← HMM.out]
                refine (a_keep HM5.out.tab q HQ32.out m (HMI.out.under HM5.out.tab.2)).mono ?_
                rintro e w6_6 ⟨rfl, h6, s6⟩
                rw [HMM.out, hcd]
                rw [ht2] at h6
                have HM6_6 := Lib.hid (HM5.out.prog h6 s6)
                refine hK _ _ ?_
                clear hK K h6 s6 HM5
                refine any_one (i := 10) (by kernel_rfl) ?_
                refine wpOp_step rfl fun K hK => ?_
                rw [if_pos (by rfl)]
                go_simp
                rw [← HMM.out]
                refine (rkeep_any w6_6 w0.heap.size y (.slice va vn vc) Ms t HM6_6.out.doc q m (HMI.out.under HM6_6.out.tab.2) CPQ.out.1 CPQ.out.2).mono ?_
                rintro e w6_7 hp
                rw [hcd, ht2] at hp
                obtain ⟨rfl, v6, Ms6, h6⟩ := HM6_6.out.docs HOBL.out hp
                rw [HMM.out]
                have HM6_7 := Lib.hid h6
                refine hK _ _ ?_
                clear hK K hp h6 HM6_6
                obtain ⟨va2, vn2, vc2, rfl, -⟩ := HM6_7.out.doc.form
                have HB := Lib.hid HM6_7.out.both
                clear HM6_7 CPQ
                refine wpAny_take (i := 11) (v := .bool false) rfl (by kernel_rfl) (by kernel_rfl) (by kernel_rfl) (fun _ _ _ h => h) (Or.inl ⟨by rfl, ?y11z8⟩) ?_
                case y11z8 => (intro w; go_simp) <;> with_reducible rfl
                go_simp
                refine wpAny_done (by kernel_rfl) ?_ _
                have hvl2 := HB.out.doc.vlen
                have hfc := HB.out.tab.1.facts
                obtain ⟨k2, hk2⟩ : ∃ k2, t2.acked = k2 := ⟨_, rfl⟩
                rw [hvl2, hk2] at hfc
                have hv2w : wrap64 (vn2 : Int) = (vn2 : Int) := w64_nat hfc.2.2
                have hk2w : wrap64 (k2 : Int) = (k2 : Int) := w64_nat (Nat.le_trans hfc.1 hfc.2.2)
                have hd2w : wrap64 ((vn2 : Int) - (k2 : Int)) = (vn2 : Int) - (k2 : Int) := w64_sub hfc.2.2 hfc.1
                have z0 : w6_7.cell? ⟨y, 0, none⟩ = some (.slice va2 vn2 vc2) := HB.out.doc.blk.cell 0
                have z1 : w6_7.cell? ⟨y, 1, none⟩ = some (.int .i64 (k2 : Int)) := by have := HB.out.doc.blk.cell 1; rw [hk2] at this; exact this
                have QD := Lib.hid (fun j => show Calls Try.prog 17 #[.pointer (some ⟨x, 0, none⟩)] (w6_7.drewN j) fun e w' => e = .returned (.int .u32 (vn2 : Int)) ∧ w' = w6_7.drewN j from (a_done ((HB.out.on (below_draws (Below.refl _ _) j)).tab)).mono fun e w' h => ⟨by rw [h.1, hvl2], h.2.symm⟩)
                have QA := Lib.hid (fun j => show Calls Try.prog 18 #[.pointer (some ⟨x, 0, none⟩)] (w6_7.drewN j) fun e w' => e = .returned (.int .u32 (k2 : Int)) ∧ w' = w6_7.drewN j from (a_acked ((HB.out.on (below_draws (Below.refl _ _) j)).tab)).mono fun e w' h => ⟨by rw [h.1, hk2], h.2.symm⟩)
                have QL := Lib.hid (fun j => show Calls Try.prog 19 #[.pointer (some ⟨x, 0, none⟩)] (w6_7.drewN j) fun e w' => e = .returned (.int .i64 ((vn2 : Int) - (k2 : Int))) ∧ w' = w6_7.drewN j from (a_len ((HB.out.on (below_draws (Below.refl _ _) j)).tab)).mono fun e w' h => ⟨by rw [h.1, hvl2, hk2, Int.ofNat_sub hfc.1], h.2.symm⟩)
                clear hvl2 hfc hk2
                go_wp2_with (fail)
                go_quiet (first | (go_at_call 17; refine Calls.quiet_of_same (QD.out _)) | (go_at_call 18; refine Calls.quiet_of_same (QA.out _)) | (go_at_call 19; refine Calls.quiet_of_same (QL.out _)))
                go_wp2
                go_roundw
                case rel => exact ⟨i + 1, ⟨va2, vn2, vc2⟩, _, t2, by go_num, by omega, HLL.out, HB.out.on (below_draws (Below.refl _ _) _)⟩
                case measure => simp [intOf]; omega
            · clear hi9
              refine wpOp_step rfl fun K hK => ?_
              rw [if_pos (by rfl)]
              refine wp_load_midA W5 45 (.tmp 115) rfl wr.heap.size 2 M _ (by rfl) (by rw [← HMM.out]; exact HM5.out.msg) Try.underlying45 rfl hinfoM ?_
              refine hK _ _ ?_
              clear hK K
              refine any_one (i := 3) (by kernel_rfl) ?_
              refine wpOp_step rfl fun K hK => ?_
              rw [if_pos (by rfl)]
              refine wp_load_midA W5 45 (.tmp 109) rfl wr.heap.size 2 M _ (by rfl) (by rw [← HMM.out]; exact HM5.out.msg) Try.underlying45 rfl hinfoM ?_
              refine hK _ _ ?_
              clear hK K
              refine any_one (i := 4) (by kernel_rfl) ?_
              refine wpOp_step rfl fun K hK => ?_
              rw [if_pos (by rfl)]
              go_simp
              rw [← HMM.out]
              refine (a_keep HM5.out.tab q HQ32.out m (HMI.out.under HM5.out.tab.2)).mono ?_
              rintro e w6_11 ⟨rfl, h6, s6⟩
              rw [HMM.out, hcd]
              rw [ht2] at h6
              have HM6_11 := Lib.hid (HM5.out.prog h6 s6)
              refine hK _ _ ?_
              clear hK K h6 s6 HM5
              refine any_one (i := 10) (by kernel_rfl) ?_
              refine wpOp_step rfl fun K hK => ?_
              rw [if_pos (by rfl)]
              go_simp
              rw [← HMM.out]
              refine (rkeep_any w6_11 w0.heap.size y (.slice va vn vc) Ms t HM6_11.out.doc q m (HMI.out.under HM6_11.out.tab.2) CPQ.out.1 CPQ.out.2).mono ?_
              rintro e w6_12 hp
              rw [hcd, ht2] at hp
              obtain ⟨rfl, v6, Ms6, h6⟩ := HM6_11.out.docs HOBL.out hp
              rw [HMM.out]
              have HM6_12 := Lib.hid h6
              refine hK _ _ ?_
              clear hK K hp h6 HM6_11
              obtain ⟨va2, vn2, vc2, rfl, -⟩ := HM6_12.out.doc.form
              have HB := Lib.hid HM6_12.out.both
              clear HM6_12 CPQ
              refine wpAny_take (i := 11) (v := .bool false) rfl (by kernel_rfl) (by kernel_rfl) (by kernel_rfl) (fun _ _ _ h => h) (Or.inl ⟨by rfl, ?y11z13⟩) ?_
              case y11z13 => (intro w; go_simp) <;> with_reducible rfl
              go_simp
              refine wpAny_done (by kernel_rfl) ?_ _
              have hvl2 := HB.out.doc.vlen
              have hfc := HB.out.tab.1.facts
              obtain ⟨k2, hk2⟩ : ∃ k2, t2.acked = k2 := ⟨_, rfl⟩
              rw [hvl2, hk2] at hfc
              have hv2w : wrap64 (vn2 : Int) = (vn2 : Int) := w64_nat hfc.2.2
              have hk2w : wrap64 (k2 : Int) = (k2 : Int) := w64_nat (Nat.le_trans hfc.1 hfc.2.2)
              have hd2w : wrap64 ((vn2 : Int) - (k2 : Int)) = (vn2 : Int) - (k2 : Int) := w64_sub hfc.2.2 hfc.1
              have z0 : w6_12.cell? ⟨y, 0, none⟩ = some (.slice va2 vn2 vc2) := HB.out.doc.blk.cell 0
              have z1 : w6_12.cell? ⟨y, 1, none⟩ = some (.int .i64 (k2 : Int)) := by have := HB.out.doc.blk.cell 1; rw [hk2] at this; exact this
              have QD := Lib.hid (fun j => show Calls Try.prog 17 #[.pointer (some ⟨x, 0, none⟩)] (w6_12.drewN j) fun e w' => e = .returned (.int .u32 (vn2 : Int)) ∧ w' = w6_12.drewN j from (a_done ((HB.out.on (below_draws (Below.refl _ _) j)).tab)).mono fun e w' h => ⟨by rw [h.1, hvl2], h.2.symm⟩)
              have QA := Lib.hid (fun j => show Calls Try.prog 18 #[.pointer (some ⟨x, 0, none⟩)] (w6_12.drewN j) fun e w' => e = .returned (.int .u32 (k2 : Int)) ∧ w' = w6_12.drewN j from (a_acked ((HB.out.on (below_draws (Below.refl _ _) j)).tab)).mono fun e w' h => ⟨by rw [h.1, hk2], h.2.symm⟩)
              have QL := Lib.hid (fun j => show Calls Try.prog 19 #[.pointer (some ⟨x, 0, none⟩)] (w6_12.drewN j) fun e w' => e = .returned (.int .i64 ((vn2 : Int) - (k2 : Int))) ∧ w' = w6_12.drewN j from (a_len ((HB.out.on (below_draws (Below.refl _ _) j)).tab)).mono fun e w' h => ⟨by rw [h.1, hvl2, hk2, Int.ofNat_sub hfc.1], h.2.symm⟩)
              clear hvl2 hfc hk2
              go_wp2_with (fail)
              go_quiet (first | (go_at_call 17; refine Calls.quiet_of_same (QD.out _)) | (go_at_call 18; refine Calls.quiet_of_same (QA.out _)) | (go_at_call 19; refine Calls.quiet_of_same (QL.out _)))
              go_wp2
              go_roundw
              case rel => exact ⟨i + 1, ⟨va2, vn2, vc2⟩, _, t2, by go_num, by omega, HLL.out, HB.out.on (below_draws (Below.refl _ _) _)⟩
              case measure => simp [intOf]; omega
          · obtain ⟨q, hq⟩ : ∃ q : Nat, IntKind.u32.wrap ((vn : Int) - (far : Int)) = (q : Int) := Int.eq_ofNat_of_zero_le (by rw [IntKind.wrap_u32]; omega)
            have hq32 : q < 4294967296 := by have := congrArg Int.toNat hq; rw [IntKind.wrap_u32] at hq; omega
            have hqw : wrap64 (q : Int) = (q : Int) := by unfold wrap64; omega
            have HQ32 := Lib.hid hq32
            clear hq32
            go_wp2_with (fail)
            go_quiet (fail)
            have HO5 := Lib.hid (HO4.out.on (below_draws (Below.refl w4.heap.size w4) nq))
            have CA := Lib.hid (a_ack HO5.out.tab q)
            clear co0 co1 cy0 OB4 HO4
            go_wp2_with (fail)
            refine CA.out.mono ?_
            rintro e w5 ⟨rfl, h5, hs5⟩
            have D5 := HO5.out.doc.same hs5.below hs5.g
            obtain ⟨cd, hcd⟩ : ∃ cd, (t.ack q).1 = cd := ⟨_, rfl⟩
            obtain ⟨t2, ht2⟩ : ∃ t2, (t.ack q).2 = t2 := ⟨_, rfl⟩
            have HLL := Lib.hid (show t2.L.length ≤ i + 1 by rw [← ht2, ack_len]; have := HLi.out; omega)
            have CR := Lib.hid (rack_any w5 w0.heap.size y (.slice va vn vc) Ms t D5 q)
            have H5 := Lib.hid h5
            have HD5 := Lib.hid D5
            rw [ht2] at H5
            rw [hcd, ht2] at CR
            rw [hcd]
            clear hs5 h5 CA HO5 D5 HMD4
            go_wp2_with (fail)
            refine CR.out.mono ?_
            rintro e WX hp
            obtain ⟨rfl, v', Ms2, h6, d6⟩ := doc_turn16 HD5.out H5.out hp
            obtain ⟨va2, vn2, vc2, rfl, -⟩ := d6.form
            have HB := Lib.hid (Both16.mk h6 d6)
            clear hp h6 d6 CR H5 HD5 hcd ht2 hq hqw HQ32 HOBL HVL hv1w hvw hrt
            have hvl2 := HB.out.doc.vlen
            have hfc := HB.out.tab.1.facts
            obtain ⟨k2, hk2⟩ : ∃ k2, t2.acked = k2 := ⟨_, rfl⟩
            rw [hvl2, hk2] at hfc
            have hv2w : wrap64 (vn2 : Int) = (vn2 : Int) := w64_nat hfc.2.2
            have hk2w : wrap64 (k2 : Int) = (k2 : Int) := w64_nat (Nat.le_trans hfc.1 hfc.2.2)
            have hd2w : wrap64 ((vn2 : Int) - (k2 : Int)) = (vn2 : Int) - (k2 : Int) := w64_sub hfc.2.2 hfc.1
            have z0 : WX.cell? ⟨y, 0, none⟩ = some (.slice va2 vn2 vc2) := HB.out.doc.blk.cell 0
            have z1 : WX.cell? ⟨y, 1, none⟩ = some (.int .i64 (k2 : Int)) := by have := HB.out.doc.blk.cell 1; rw [hk2] at this; exact this
            have QD := Lib.hid (fun j => show Calls Try.prog 17 #[.pointer (some ⟨x, 0, none⟩)] (WX.drewN j) fun e w' => e = .returned (.int .u32 (vn2 : Int)) ∧ w' = WX.drewN j from (a_done ((HB.out.on (below_draws (Below.refl _ _) j)).tab)).mono fun e w' h => ⟨by rw [h.1, hvl2], h.2.symm⟩)
            have QA := Lib.hid (fun j => show Calls Try.prog 18 #[.pointer (some ⟨x, 0, none⟩)] (WX.drewN j) fun e w' => e = .returned (.int .u32 (k2 : Int)) ∧ w' = WX.drewN j from (a_acked ((HB.out.on (below_draws (Below.refl _ _) j)).tab)).mono fun e w' h => ⟨by rw [h.1, hk2], h.2.symm⟩)
            have QL := Lib.hid (fun j => show Calls Try.prog 19 #[.pointer (some ⟨x, 0, none⟩)] (WX.drewN j) fun e w' => e = .returned (.int .i64 ((vn2 : Int) - (k2 : Int))) ∧ w' = WX.drewN j from (a_len ((HB.out.on (below_draws (Below.refl _ _) j)).tab)).mono fun e w' h => ⟨by rw [h.1, hvl2, hk2, Int.ofNat_sub hfc.1], h.2.symm⟩)
            clear hvl2 hfc hk2
            go_wp2_with (fail)
            go_quiet (first | (go_at_call 17; refine Calls.quiet_of_same (QD.out _)) | (go_at_call 18; refine Calls.quiet_of_same (QA.out _)) | (go_at_call 19; refine Calls.quiet_of_same (QL.out _)))
            go_wp2
            go_roundw
            case rel => exact ⟨i + 1, ⟨va2, vn2, vc2⟩, _, t2, by go_num, by omega, HLL.out, HB.out.on (below_draws (Below.refl _ _) _)⟩
            case measure => simp [intOf]; omega
        · go_wp2
          go_ret
          exact ⟨rfl, HO4.out.tab.2⟩
      · have BF := Lib.hid HO.out.tab.2
        clear HO HLi
        go_wp2
        go_ret
        exact ⟨rfl, BF.out⟩
    · have BF := Lib.hid HO.out.tab.2
      clear HO HLi
      go_wp2
      go_ret
      exact ⟨rfl, BF.out⟩
theorem plays_row : Rows.DedupPlaysSaid :=
  OpenClaim.holds_of_wide 3 Try.f3 rfl rfl rfl rfl rfl rfl rfl ⟨rfl, rfl, rfl, rfl, rfl⟩ rfl rfl rfl rfl rfl (by kernel_rfl) Try.func3 (by kernel_rfl)
    (of_decide_eq_true (by kernel_rfl)) (by unfold Func.isWrapper; rw [if_neg (of_decide_eq_false (by kernel_rfl))]; exact ⟨rfl, rfl⟩)
    (fun os started H enc _ => lift (C := Try.checked) (s := Rows.dedupPlaysSpec) (conds := Rows.dedupPlaysRow.domain) os started H enc prog_own (by kernel_rfl) Try.func3 prog_laid rfl Try.underlying4 rfl
      (fun ds hl => by
        have hl : ds.length = 1 := hl
        match ds, hl with
        | [_], _ => rfl)
      (of_decide_eq_true (by kernel_rfl))
      (ChangeSpec.witness6 (enc := enc) (C := Try.checked) false ⟨#[], #[.slice none 0 0], []⟩ 8 (by kernel_rfl) (by kernel_rfl) (by kernel_rfl) (by kernel_rfl))
      (fun W base args ds p g => by
        rw [Try.params3] at g
        obtain ⟨a, n, c, xs, e0, _, hx⟩ := g.ops16 0 rfl
        rw [args1 g.count e0]
        exact plays_walk a n c xs W hx))
end Go.Proofs.Ytdgiellnklcioaa
