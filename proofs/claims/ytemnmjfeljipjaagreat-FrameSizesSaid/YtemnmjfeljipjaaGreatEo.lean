/-
  The document's frames: the sum's bytes, Encode, by walks over their texts.
-/
import Derived.Test.YtemnmjfeljipjaaGreatRd
import Derived.Test.YtemnmjfeljipjaaGreatRc
import Derived.Test.YtemnmjfeljipjaaGreatVb
import Derived.Test.YtemnmjfeljipjaaGreatMx
namespace Go.Proofs.YtemnmjfeljipjaaGreat
open Go.RowKit Go.ChangeShapes Go.WideShapes Go.ChangeAt

set_option maxRecDepth 100000 in
set_option maxHeartbeats 3200000 in
theorem rsum_any (a : Option Addr) (n c : Nat) (bs : List Nat) (w : World) (h : BReads w a n c bs) :
    Calls Tryz.prog 63 #[.slice a n c] w fun e w' => ∃ a8 c8, e = .returned (.slice a8 4 c8) ∧ BReads w' a8 4 c8 (sumL bs) ∧ Below w.heap.size w w' := by
  have HR := Lib.hid h
  clear h
  go_enter Tryz.func63, Tryz.ntmps63
  go_wp2_with (fail)
  refine (rof_any a n c bs w HR.out).mono ?_
  rintro e w1 ⟨rfl, rfl⟩
  obtain ⟨m, hm⟩ : ∃ m, (crcMore 0#32 bs).toNat = m := ⟨_, rfl⟩
  have hm32 : m < 4294967296 := by rw [← hm]; exact (crcMore 0#32 bs).isLt
  rw [hm]
  have HM := Lib.hid (show sumL bs = sumB m from by rw [sumL, hm])
  clear hm HR
  go_wp2
  go_ret
  refine ⟨_, 4, rfl, ?_, (Below.refl _ _).alloc (Nat.le_refl _) _⟩
  rw [HM.out]
  have ho := OwnV.lits w 5 (sumB m) _ 4 (show #[.int .u8 ((m : Int) / 16777216), .int .u8 ((m : Int) / 65536 % 256), .int .u8 ((m : Int) / 256 % 256), .int .u8 ((m : Int) % 256)] = _ from by
    simp [sumB, byteV]
    omega) rfl (by simp [sumB]) (sumB_byte m)
  obtain ⟨a8, c8, e8, h8, _⟩ := ho.reads (by simp [sumB])
  simp only [Value.slice.injEq] at e8
  obtain ⟨rfl, _, rfl⟩ := e8
  exact h8

set_option maxRecDepth 100000 in
set_option maxHeartbeats 12800000 in
theorem renc_any {ok : Nat → Prop} (m : MsgL) (w : World) (h : m.In ok w) :
    Calls Tryz.prog 27 #[.agg m.cells.toArray] w fun e w' => EncPost m.toM w e w' := by
  have HM := Lib.hid h.lt
  clear h
  obtain ⟨M, hM⟩ : ∃ M, m.cells.toArray = M := ⟨_, rfl⟩
  have hM28 : M.size = 28 := by
    rw [← hM]
    rfl
  have hinfoM : (Tryz.prog.info? 37).map (·.size) = some M.size := by
    rw [hM28]
    kernel_rfl
  rw [hM]
  obtain ⟨w1, hw1⟩ : ∃ w1, w.alloc (.cells M 37) = w1 := ⟨_, rfl⟩
  have HB1 : w1.heap[w.heap.size]? = some (.cells M 37 (0, 0)) := by
    rw [← hw1]
    exact heap_alloc_new w _
  have X1 := Lib.hid (show Blk w1 w.heap.size 37 m.cells from by rw [← hw1, ← hM]; exact Blk.new w 37 m.cells.toArray)
  have B1 := Lib.hid (show Below w.heap.size w w1 from by rw [← hw1]; exact (Below.refl _ _).alloc (Nat.le_refl _) _)
  have l1 := X1.out.lt
  have hk255 := HM.out.hkind
  have HMM := Lib.hid hM
  clear hM
  go_enter Tryz.func27, Tryz.ntmps27
  go_wp2_with (refine wp_load_e w1 (by rfl) 37 (.tmp 1) rfl w.heap.size 37 M _ (by rfl) HB1 Tryz.underlying37 rfl hinfoM ?_)
  try rw [hw1]
  clear hw1
  rw [← HMM.out]
  refine (rput_msg m w1 ((HM.out.under B1.out).mono (fun k hk _ => by have := B1.out.size; omega))).mono ?_
  rintro e w2 ⟨hb2, ⟨hf, v, rfl, ho⟩ | ⟨hf, rfl⟩⟩
  rotate_left
  · have B2 := Lib.hid (below_on B1.out hb2)
    have HF := Lib.hid hf
    clear hb2 hf
    go_wp2
    go_ret2
    exact ⟨B2.out, .inr (.inl ⟨HF.out, rfl⟩)⟩
  have hbl := bytesM_small _ hf
  obtain ⟨bs, hbs⟩ : ∃ bs, bytesM m.toM = bs := ⟨_, rfl⟩
  rw [hbs] at ho hbl
  obtain ⟨L, hL⟩ : ∃ L, bs.length = L := ⟨_, rfl⟩
  obtain ⟨va, vc, rfl, hvr, _⟩ := ho.reads (by omega)
  rw [hL] at hvr hbl ⊢
  have V2 := Lib.hid hvr
  have HBS := Lib.hid hbs
  have HL := Lib.hid hL
  have HF := Lib.hid hf
  have X2 := Lib.hid ((Kept.of_below (F := []) hb2 (Nat.le_refl _)).blk X1.out (by simp))
  have B2 := Lib.hid (below_on B1.out hb2)
  have hs2 := hb2.size
  have c0 : w2.cell? ⟨w.heap.size, 0, none⟩ = some (.int .u8 (m.kind : Int)) := X2.out.cell 0
  clear hb2 hf ho hbs hL hvr X1 HB1
  by_cases h4 : 4096 < L
  · go_wp2
    go_ret2
    exact ⟨B2.out, .inr (.inr ⟨HF.out, by rw [HBS.out, HL.out]; exact h4, rfl⟩)⟩
  have hlt2 : w.heap.size < w2.heap.size := by omega
  obtain ⟨k, hk⟩ : ∃ k, m.kind = k := ⟨_, rfl⟩
  rw [hk] at c0 hk255
  have HK := Lib.hid hk
  clear hk
  obtain ⟨w3, hw3⟩ : ∃ w3, w2.alloc (.cells #[.int .u8 76, .int .u8 68, .int .u8 1, .int .u8 (k : Int)] 5) = w3 := ⟨_, rfl⟩
  have O3 := Lib.hid (show OwnV w3 w2.heap.size 5 (.slice (some ⟨w2.heap.size, 0, none⟩) 4 4) [76, 68, 1, k] from by
    rw [← hw3]
    exact OwnV.lits w2 5 [76, 68, 1, k] _ 4 (by simp [byteV]) rfl (by simp) (by simp; omega))
  have B3 := Lib.hid (show Below w2.heap.size w2 w3 from by rw [← hw3]; exact (Below.refl _ _).alloc (Nat.le_refl _) _)
  go_wp2_with (fail)
  try rw [hw3]
  clear hw3 c0
  refine (rput_any L w3 (by omega)).mono ?_
  rintro e w4 ⟨v4, rfl, ho4, hb4⟩
  obtain ⟨n4, hn4⟩ : ∃ n4, (vput L).length = n4 := ⟨_, rfl⟩
  have hn10 : n4 ≤ 10 := by rw [← hn4]; exact vput_len10 (by omega)
  obtain ⟨a4, c4, rfl, hr4, _⟩ := ho4.reads (by omega)
  rw [hn4] at hr4 ⊢
  have O4 := Lib.hid (O3.out.on hb4)
  have B4 := Lib.hid (B3.out.trans (hb4.mono B3.out.size))
  have R4 := Lib.hid hr4
  have hs4 := B4.out.size
  clear ho4 hb4 hn4 hr4 O3 B3
  go_wp2_with (at_builtin; go_must (refine app_bytes _ rfl (.tmp 20) (.tmp 24) 33 5 rfl Tryz.underlying33 byte_info w2.heap.size _ [76, 68, 1, k] (by rfl) O4.out a4 n4 c4 (vput L) (by rfl) R4.out (by simp; omega) hs4 ?_))
  intro v5 w5 ho5 hg5 _
  have O5 := Lib.hid ho5
  have B5 := Lib.hid (B4.out.grown hg5 hs4 (fun k hk => (O4.out.lt k hk).1))
  have hs5 := B5.out.size
  have hl5 : ([76, 68, 1, k] ++ vput L).length ≤ 14 := by
    have := R4.out.len
    simp
    omega
  have R5 := Lib.hid (V2.out.on B5.out)
  clear ho5 hg5 O4 B4 R4
  go_wp2_with (at_builtin; go_must (refine app_bytes _ rfl (.tmp 26) (.tmp 27) 33 5 rfl Tryz.underlying33 byte_info w2.heap.size v5 ([76, 68, 1, k] ++ vput L) (by rfl) O5.out va L vc bs (by rfl) R5.out (by omega) hs5 ?_))
  intro v6 w6 ho6 hg6 _
  obtain ⟨op, hop⟩ : ∃ op, [76, 68, 1, k] ++ vput L ++ bs = op := ⟨_, rfl⟩
  have hlo : op.length ≤ 14 + L := by
    rw [← hop, List.length_append, HL.out]
    omega
  have HOP := Lib.hid (show openF m.toM.kind (bytesM m.toM) = op from by
    rw [← hop, HBS.out]
    unfold openF
    rw [HL.out, show m.toM.kind = k from HK.out])
  have ho6 : OwnV w6 w2.heap.size 5 v6 op := by
    rw [← hop]
    exact ho6
  have B6 := Lib.hid (B5.out.grown hg6 hs5 (fun k hk => (O5.out.lt k hk).1))
  have hs6 := B6.out.size
  have O6 := Lib.hid ho6
  obtain ⟨a6, c6, rfl, hr6, _⟩ := ho6.reads (by omega)
  obtain ⟨n6, hn6⟩ : ∃ n6, op.length = n6 := ⟨_, rfl⟩
  rw [hn6] at hr6 O6 hlo ⊢
  have HN6 := Lib.hid hn6
  have R6 := Lib.hid hr6
  clear ho6 hg6 hop hr6 hn6 O5 B5 R5 V2
  go_wp2_with (fail)
  refine (rsum_any a6 n6 c6 op w6 R6.out).mono ?_
  rintro e w8 ⟨a8, c8, rfl, hr8, hb8⟩
  have B8 := Lib.hid (B6.out.trans (hb8.mono hs6))
  have O8 := Lib.hid (O6.out.on hb8)
  have R8 := Lib.hid hr8
  have hs8 := B8.out.size
  clear hr8 hb8 O6 R6
  go_wp2_with (at_builtin; go_must (refine app_bytes _ rfl (.tmp 29) (.tmp 31) 33 5 rfl Tryz.underlying33 byte_info w2.heap.size _ op (by rfl) O8.out a8 4 c8 (sumL op) (by rfl) R8.out (by have := HN6.out; omega) hs8 ?_))
  intro v9 w9 ho9 hg9 _
  have B9 := Lib.hid (B8.out.grown hg9 hs8 (fun k hk => (O8.out.lt k hk).1))
  have O9 := Lib.hid ho9
  clear ho9 hg9 O8 B8 R8
  go_wp2
  go_ret2
  refine ⟨B2.out.trans (B9.out.mono B2.out.size), .inl ⟨HF.out, by rw [HBS.out, HL.out]; omega, v9, rfl, ?_⟩⟩
  unfold frameF
  rw [HOP.out]
  exact O9.out.mono B2.out.size
end Go.Proofs.YtemnmjfeljipjaaGreat
