/-
  The document's examples of layer 6 hold: what the laws' alive tells.
-/
import Derived.Test.YtemnmjfeljipjaaGreatNt
import Derived.Test.YtemnmjfeljipjaaGreatPr
namespace Go.Proofs.YtemnmjfeljipjaaGreat
open Go.RowKit Go.ChangeShapes Go.WideShapes Go.ChangeAt

def pingL : MsgL := { zeroL 7 with n := 300 }
theorem pingL_in (ok : Nat → Prop) (w : World) : pingL.In ok w := { zeroL_in ok w 7 (by decide) with hn := (by decide : (300 : Nat) ≤ 4294967295) }
theorem ping_fit : fitM pingL.toM := ⟨[.n], rfl, rfl, fun f hf => by
  simp at hf
  subst hf
  exact (by decide : (300 : Nat) ≤ 4294967295)⟩
theorem ping_bytes : bytesM pingL.toM = [172, 2] := by
  show ([vput 300] : List (List Nat)).flatten = _
  rw [vput_big (by decide), vput_small (by decide)]
  rfl
theorem ping_back : readM 7 [172, 2] = .inl pingL.toM := by
  have := readM_back pingL.toM ping_fit
  rw [ping_bytes] at this
  exact this
theorem ping_more : readM 7 [172, 2, 0] = .inr 60 := by
  have := readM_more pingL.toM ping_fit [0] (by simp)
  rw [ping_bytes] at this
  exact this
/-- What Get leaves, where it is known what is read. -/
theorem GetPost.good {k : Nat} {l : List Nat} {w w' : World} {e : Ending} {x : MsgV} (h : GetPost k l w e w') (hr : readM k l = .inl x) : Below w.heap.size w w' ∧ ∃ y : MsgL, e = .returned (.tuple #[.agg y.cells.toArray, .int .i64 0]) ∧ y.In (w.heap.size ≤ ·) w' ∧ y.toM = x := by
  obtain ⟨hb, y, er, rfl, hi, ⟨rfl, h1⟩ | ⟨_, h1, _⟩⟩ := h
  · rw [hr] at h1
    exact ⟨hb, y, rfl, hi, (Sum.inl.inj h1).symm⟩
  · rw [hr] at h1
    cases h1
theorem GetPost.bad {k e0 : Nat} {l : List Nat} {w w' : World} {e : Ending} (h : GetPost k l w e w') (hr : readM k l = .inr e0) : Below w.heap.size w w' ∧ e0 ≠ 0 ∧ e = .returned (.tuple #[.agg (zeroL 0).cells.toArray, .int .i64 (e0 : Int)]) := by
  obtain ⟨hb, y, er, rfl, hi, ⟨rfl, h1⟩ | ⟨h0, h1, rfl⟩⟩ := h
  · rw [hr] at h1
    cases h1
  · rw [hr] at h1
    cases h1
    exact ⟨hb, h0, rfl⟩
theorem PutPost.good {x : MsgV} {w w' : World} {e : Ending} (h : PutPost x w e w') (hf : fitM x) : Below w.heap.size w w' ∧ ∃ v, e = .returned (.tuple #[v, .bool true]) ∧ OwnV w' w.heap.size 5 v (bytesM x) := by
  obtain ⟨hb, ⟨_, h⟩ | ⟨hn, _⟩⟩ := h
  · exact ⟨hb, h⟩
  · exact absurd hf hn
theorem PutPost.bad {x : MsgV} {w w' : World} {e : Ending} (h : PutPost x w e w') (hf : ¬ fitM x) : Below w.heap.size w w' ∧ e = .returned (.tuple #[.slice none 0 0, .bool false]) := by
  obtain ⟨hb, ⟨h, _⟩ | ⟨_, h⟩⟩ := h
  · exact absurd h hf
  · exact ⟨hb, h⟩

set_option maxRecDepth 100000 in
set_option maxHeartbeats 6400000 in
theorem alive6 (w : World) : Calls Tryz.prog 11 #[] w fun e w' => e = .returned (.bool true) ∧ Below w.heap.size w w' := by
  obtain ⟨Z, hZ⟩ : ∃ Z, (zeroL 0).cells.toArray = Z := ⟨_, rfl⟩
  obtain ⟨PA, hPA⟩ : ∃ PA, pingL.cells.toArray = PA := ⟨_, rfl⟩
  have hz := msg_zero
  rw [hZ] at hz
  have hb1 : (Z = #[]) = False := by
    rw [← hZ]
    simp [MsgL.cells]
  have hb2 : (Z.setIfInBounds 0 (.int .u8 7)).setIfInBounds 5 (.int .u32 300) = PA := by
    rw [← hZ, ← hPA]
    rfl
  have hb4 : Z.size = 28 := by
    rw [← hZ]
    rfl
  have HZ := Lib.hid hZ
  have HPA := Lib.hid hPA
  clear hZ hPA
  go_enter Tryz.func11, Tryz.ntmps11
  go_wp2_with (fail)
  rw [← HPA.out]
  refine (mput_any pingL w (pingL_in (· < w.heap.size) w)).mono ?_
  rintro e w1 hp
  obtain ⟨hb1', v, rfl, ho⟩ := hp.good ping_fit
  rw [ping_bytes] at ho
  have hlt2 : ([172, 2] : List Nat).length = 2 := rfl
  obtain ⟨a, c, rfl, hr1, _⟩ := ho.reads (by decide)
  rw [hlt2] at hr1 ⊢
  have R1 := Lib.hid hr1
  have B1 := Lib.hid hb1'
  clear hp hb1' ho hr1
  go_wp2_with (fail)
  refine (mget_any 7 (by decide) a 2 c [172, 2] w1 R1.out).mono ?_
  rintro e w2 hp
  obtain ⟨hb, y, rfl, hyi, hym⟩ := hp.good ping_back
  obtain ⟨F, hF⟩ : ∃ F, y.cells.toArray = F := ⟨_, rfl⟩
  have hst := msg_store_new w2 Z y (by rw [← HZ.out]; rfl)
  have hyn : y.n = 300 := congrArg MsgV.n hym
  obtain ⟨w3, hw3⟩ : ∃ w3, w2.alloc (.cells F 37) = w3 := ⟨_, rfl⟩
  have B3 := Lib.hid (show Below w.heap.size w w3 from by rw [← hw3]; exact (below_on B1.out hb).alloc (below_on B1.out hb).size _)
  have R3 := Lib.hid (show BReads w3 a 2 c [172, 2] from by rw [← hw3]; exact (R1.out.on hb).alloc _)
  have X3 := Lib.hid (show w3.cell? ⟨w2.heap.size, 5, none⟩ = some (.int .u32 300) from by
    have h1 : Blk w3 w2.heap.size 37 y.cells := by rw [← hw3, ← hF]; exact Blk.new w2 37 y.cells.toArray
    have h2 : w3.cell? ⟨w2.heap.size, 5, none⟩ = some (.int .u32 (y.n : Int)) := h1.cell 5
    rw [h2, hyn]
    rfl)
  have hl3 : w2.heap.size < w3.heap.size := by rw [← hw3]; simp
  rw [hF] at hst ⊢
  have hF28 : F.size = 28 := by rw [← hF]; rfl
  clear hp hb hyi hym hF hyn B1 R1
  have HR := Lib.hid (BReads.built w3 [172, 2, 0] 5 (by decide) (by decide))
  have B4 := Lib.hid (B3.out.alloc B3.out.size (.cells (([172, 2, 0] : List Nat).map byteV).toArray 5))
  have k34 := (Below.refl w3.heap.size w3).alloc (Nat.le_refl _) (.cells (([172, 2, 0] : List Nat).map byteV).toArray 5)
  have R4 := Lib.hid (R3.out.on k34)
  have X4 := Lib.hid ((k34.cell (p := ⟨w2.heap.size, 5, none⟩) hl3).trans X3.out)
  have hs4 := k34.size
  clear k34
  go_wp2_with (fail)
  try rw [hw3]
  clear hw3 hst
  refine (mget_any 7 (by decide) _ 3 3 [172, 2, 0] _ HR.out).mono ?_
  rintro e w5 hp
  obtain ⟨hb5, _, rfl⟩ := hp.bad ping_more
  have B5 := Lib.hid (below_on B4.out hb5)
  have R5 := Lib.hid (R4.out.on hb5)
  have X5 := Lib.hid ((hb5.cell (p := ⟨w2.heap.size, 5, none⟩) (show w2.heap.size < _ by omega)).trans X4.out)
  have hs5 := hb5.size
  have hst5 := msg_store_new w5 Z (zeroL 0) (by rw [← HZ.out]; rfl)
  rw [HZ.out] at hst5 ⊢
  obtain ⟨w6, hw6⟩ : ∃ w6, w5.alloc (.cells Z 37) = w6 := ⟨_, rfl⟩
  rw [hw6] at hst5
  have k56 : Below w5.heap.size w5 w6 := by rw [← hw6]; exact (Below.refl _ _).alloc (Nat.le_refl _) _
  have B6 := Lib.hid (below_on B5.out k56)
  have R6 := Lib.hid (R5.out.on k56)
  have X6 := Lib.hid ((k56.cell (p := ⟨w2.heap.size, 5, none⟩) (show w2.heap.size < _ by omega)).trans X5.out)
  have hs6 := k56.size
  clear hp hb5 k56 HR B4 R4 X4 B3 R3 X3 B5 R5 X5
  go_wp2_with (fail)
  try rw [hw6]
  clear hst5 hw6
  refine (mget_any 25 (by decide) none 0 0 [] w6 (BReads.nil _)).mono ?_
  rintro e w7 hp
  obtain ⟨hb7, _, rfl⟩ := hp.bad (e0 := 61) rfl
  have B7 := Lib.hid (below_on B6.out hb7)
  have R7 := Lib.hid (R6.out.on hb7)
  have X7 := Lib.hid ((hb7.cell (p := ⟨w2.heap.size, 5, none⟩) (show w2.heap.size < _ by omega)).trans X6.out)
  have hs7 := hb7.size
  have hst7 := msg_store_new w7 Z (zeroL 0) (by rw [← HZ.out]; rfl)
  rw [HZ.out] at hst7 ⊢
  obtain ⟨w8, hw8⟩ : ∃ w8, w7.alloc (.cells Z 37) = w8 := ⟨_, rfl⟩
  rw [hw8] at hst7
  have k78 : Below w7.heap.size w7 w8 := by rw [← hw8]; exact (Below.refl _ _).alloc (Nat.le_refl _) _
  have B8 := Lib.hid (below_on B7.out k78)
  have R8 := Lib.hid (R7.out.on k78)
  have x5 : w8.cell? ⟨w2.heap.size, 5, none⟩ = some (.int .u32 300) := (k78.cell (p := ⟨w2.heap.size, 5, none⟩) (show w2.heap.size < _ by omega)).trans X7.out
  have hl8 : w2.heap.size < w8.heap.size := by have := k78.size; omega
  have kc : (convert 33 9 (.slice a 2 c)).run Tryz.prog w8 = .ok (.string ⟨#[172, 2]⟩) w8 := by
    have := R8.out.str (P := Tryz.prog) 33 5 Tryz.underlying33 Tryz.underlying5 9 Tryz.underlying9
    rw [this]
    rfl
  clear hp hb7 k78 B6 R6 X6 B7 R7 X7
  go_wp2
  go_ret
  exact ⟨rfl, B8.out⟩
end Go.Proofs.YtemnmjfeljipjaaGreat
