/-
  The document's writers of flags and items, by walks over their texts.
-/
import Derived.Test.YtemnmjfeljipjaaGreatMb
namespace Go.Proofs.YtemnmjfeljipjaaGreat
open Go.RowKit

set_option maxRecDepth 100000 in
theorem flag_any (b : Bool) (w : World) : Calls Tryz.prog 43 #[.bool b] w fun e w' => PutsV (cFlag.enc b) w e w' := by
  cases b
  · have HO := Lib.hid (OwnV.lit w 5 [0] (by simp) (by simp))
    have HB := Lib.hid ((Below.refl w.heap.size w).alloc (Nat.le_refl _) (.cells (([0] : List Nat).map byteV).toArray 5))
    have HE := Lib.hid (show cFlag.enc false = [0] from by rw [show cFlag.enc false = vput 0 from rfl, vput_small (by decide)])
    go_enter Tryz.func43, Tryz.ntmps43
    go_wp2
    go_ret
    exact ⟨_, rfl, by rw [HE.out]; exact HO.out, HB.out⟩
  · have HO := Lib.hid (OwnV.lit w 5 [1] (by simp) (by simp))
    have HB := Lib.hid ((Below.refl w.heap.size w).alloc (Nat.le_refl _) (.cells (([1] : List Nat).map byteV).toArray 5))
    have HE := Lib.hid (show cFlag.enc true = [1] from by rw [show cFlag.enc true = vput 1 from rfl, vput_small (by decide)])
    go_enter Tryz.func43, Tryz.ntmps43
    go_wp2
    go_ret
    exact ⟨_, rfl, by rw [HE.out]; exact HO.out, HB.out⟩

set_option maxRecDepth 100000 in
set_option maxHeartbeats 3200000 in
theorem item_any (B : Nat) (v : Value) (bs : List Nat) (c0 c1 c2 : Value) (x : shItem.T) (w : World) (h : OwnV w B 5 v bs) (hB : B ≤ w.heap.size) (hl : bs.length ≤ 137438953472) (hx : Rd (· < B) w shItem [c0, c1, c2] x) :
    Calls Tryz.prog 55 #[v, .agg #[c0, c1, c2]] w fun e w' => WPost cItem B v bs (toItem x) w e w' := by
  obtain ⟨id, vec, tags, a, n, c, a', n', c', rfl, hcs, hid, rv, rt, lv, lt, nv, nt⟩ := rd_item hx
  simp only [List.cons.injEq, and_true] at hcs
  obtain ⟨rfl, rfl, rfl⟩ := hcs
  have HO := Lib.hid h
  have HX := Lib.hid hx
  have RV := Lib.hid rv
  have RT := Lib.hid rt
  have HF := Lib.hid (cItem_fits (toItem ((id : Int), vec, tags, ())))
  have HE := Lib.hid (cItem_enc (toItem ((id : Int), vec, tags, ())))
  have HI := Lib.hid (show (toItem ((id : Int), vec, tags, ())).id = id from rfl)
  have hw : IntKind.i64.wrap (id : Int) = (id : Int) := by rw [IntKind.wrap_i64]; omega
  clear h hx rv rt
  have hnot : w.heap.size ∉ ownL v := fun hk => by
    have := (HO.out.lt _ (mem_ownL.1 hk)).2
    omega
  have HN := Lib.hid hnot
  clear hnot
  go_enter Tryz.func55, Tryz.ntmps55
  go_wp2_with (fail)
  obtain ⟨w1, hw1⟩ : ∃ w1, w.alloc (.cells #[.int .u32 (id : Int), .slice a n c, .slice a' n' c'] 79) = w1 := ⟨_, rfl⟩
  have K1 := Lib.hid (show Kept (ownL v) w w1 from by rw [← hw1]; exact (Kept.refl _ _).alloc _)
  have X1 := Lib.hid (show Blk w1 w.heap.size 79 [.int .u32 (id : Int), .slice a n c, .slice a' n' c'] from by rw [← hw1]; exact Blk.new w _ _)
  have O1 := Lib.hid (show OwnV w1 B 5 v bs from by rw [← hw1]; exact HO.out.alloc _)
  rw [hw1]
  have hB1 : B ≤ w1.heap.size := Nat.le_trans hB K1.out.size
  have hs1 : w1.heap.size = w.heap.size + 1 := by rw [← hw1]; simp
  clear hw1
  refine (num_any id w1 (by omega)).mono ?_
  rintro e w2 ⟨v2, rfl, ho, hb⟩
  have HO2 := Lib.hid ho
  have HB2 := Lib.hid hb
  clear ho hb
  go_wp2_with (at_builtin; refine app_put w1 _ rfl (.tmp 7) (.tmp 11) 33 rfl Tryz.underlying33 byte_info B v v2 bs (vput id) (by rfl) (by rfl) O1.out hB1 HO2.out HB2.out (by omega) (by have := vput_len10 (n := id) (by omega); omega) ?_)
  intro v3 w3 hw3
  have HW3 := Lib.hid hw3
  have X3 := Lib.hid (hw3.2.1.out.blk X1.out HN.out)
  have hc1 : w3.cell? ⟨w.heap.size, 1, none⟩ = some (.slice a n c) := X3.out.cell 1
  have hB3 := hw3.size hB1
  have W3 := Lib.hid (show Wrote B v v3 (bs ++ vput id) w w3 from ⟨hw3.1, K1.out.trans hw3.2.1.out (Grows.refl _ _), fun k hk => (hw3.2.2.out k hk).imp (fun h => h) (Nat.le_trans K1.out.size)⟩)
  have N3 := Lib.hid (show w.heap.size ∉ ownL v3 from fun hk => (hw3.2.2.out _ hk).elim HN.out (fun h => by omega))
  clear hw3 HO2 HB2 HW3
  have l1 := vput_len10 (n := id) (by omega)
  have hbw3 := Lib.hid (W3.out.below HO.out hB)
  go_wp2_with (fail)
  refine (vec_any B v3 _ a n c vec w3 W3.out.1 hB3 (by rw [List.length_append]; omega) (fun w' hb => ((RV.out.under hbw3.out).under hb).ints rfl)).mono ?_
  rintro e w4 (⟨hf, v4, rfl, hw4⟩ | ⟨hf, v4, rfl, hw4⟩)
  · have W4 := Lib.hid (W3.out.trans hw4)
    have X4 := Lib.hid (hw4.2.1.out.blk X3.out N3.out)
    have hc2 : w4.cell? ⟨w.heap.size, 2, none⟩ = some (.slice a' n' c') := X4.out.cell 2
    have hB4 := hw4.size hB3
    have L4 := Lib.hid (cVec_len _ hf)
    have HFV := Lib.hid hf
    have hbw4 := Lib.hid (W4.out.below HO.out hB)
    have hlen : (bs ++ vput id ++ cVec.enc vec).length ≤ 274877906944 := by
      have := L4.out
      rw [List.length_append, List.length_append]
      omega
    clear hf hw4 hc1
    go_wp2_with (fail)
    refine (texts_any B v4 _ a' n' c' tags w4 W4.out.1 hB4 hlen (fun w' hb => (((RT.out.under hbw4.out).under hb).strs rfl).1) (RT.out.strs rfl).2).mono ?_
    rintro e w5 (⟨hf, v5, rfl, hw5⟩ | ⟨hf, v5, rfl, hw5⟩)
    · have W5 := Lib.hid (show Wrote B v v5 (bs ++ cItem.enc (toItem ((id : Int), vec, tags, ()))) w w5 from by
        have := W4.out.trans hw5
        rw [List.append_assoc, List.append_assoc] at this
        rw [HE.out]
        exact this)
      have HFF := Lib.hid (HF.out.2 ⟨hid, HFV.out, hf⟩)
      clear hf hw5
      go_wp2
      go_ret2
      exact .inl ⟨HFF.out, v5, rfl, W5.out⟩
    · have W5 := Lib.hid (W4.out.lost hw5.out)
      have HNF := Lib.hid (fun hh => hf (HF.out.1 hh).2.2)
      clear hf hw5
      go_wp2
      go_ret2
      exact .inr ⟨HNF.out, v5, rfl, W5⟩
  · have W4 := Lib.hid (W3.out.lost hw4.out)
    have HNF := Lib.hid (fun hh => hf (HF.out.1 hh).2.1)
    clear hf hw4
    go_wp2
    go_ret2
    exact .inr ⟨HNF.out, v4, rfl, W4⟩
end Go.Proofs.YtemnmjfeljipjaaGreat
