/-
  MessageChanges holds: changes written, and read, are the document's.
-/
import Derived.Test.YtkhcoinpplpomaaGreatRows
import Derived.Test.YtkhcoinpplpomaaGreatNu
import Derived.Test.YtkhcoinpplpomaaGreatNx
import Derived.Test.YtkhcoinpplpomaaGreatMy
import Derived.Test.YtkhcoinpplpomaaGreatSo
import Derived.Test.YtkhcoinpplpomaaGreatMj
import Derived.Test.YtkhcoinpplpomaaGreatMu
import Derived.Test.YtkhcoinpplpomaaGreatMz
namespace Go.Proofs.YtkhcoinpplpomaaGreat
open Go.ChangeShapes Go.WideShapes Go.ChangeAt Go.RowKit

theorem readC_back (l : List ChangeV) (h : (cMany cChange).fits l) : readC ((cMany cChange).enc l) = .inl l := by
  have := (cMany cChange).back l [] h
  rw [List.append_nil] at this
  unfold readC
  rw [this]
  rfl
/-- What the document's reader tells, as what bytes say. -/
theorem endP_readC {l : List Nat} {x : List ChangeV} {st : List Nat ⊕ Nat} (h : Step (cMany cChange) (.inl l) x st) : readC l = endC x st := by
  unfold readC
  rcases st with r | e
  · have h1 : (cMany cChange).dec l = .inl (x, r) := h
    rw [h1]
    rfl
  · have h1 : (cMany cChange).dec l = .inr e := h
    rw [h1]
    rfl

/-- The last part: what bytes say is the document's. -/
theorem cChanges_len (l : List ChangeV) (h : (cMany cChange).fits l) : ((cMany cChange).enc l).length ≤ 140737488351232 := by
  obtain ⟨h1, h2⟩ := (cMany_fits cChange l).1 h
  have h3 := vput_len10 (n := l.length) (by omega)
  have h4 := encN_len cChange l 800000 (fun c hc => cChange_len c (h2 c hc))
  have h5 : l.length * 800000 ≤ 128 * 800000 := Nat.mul_le_mul_right _ h1
  rw [cMany_enc, List.length_append]
  omega

set_option maxRecDepth 100000 in
set_option maxHeartbeats 12800000 in
theorem changes_walk (a : Option Addr) (n c : Nat) (xs : List shChange.T) (a2 : Option Addr) (n2 c2 : Nat) (bs : List Nat) (w : World) (hx : Rd (· < w.heap.size) w shChanges [.slice a n c] xs) (hb : BReads w a2 n2 c2 bs) :
    Calls Tryz.prog 4 #[.slice a n c, .slice a2 n2 c2] w fun e w' => e = .returned (.bool true) ∧ Below w.heap.size w w' := by
  have HX := Lib.hid hx
  have HB := Lib.hid hb
  obtain ⟨_, _, _, hcs, hlen, hsm, _⟩ := Rd.slice_is (e := shChange) hx
  simp only [List.cons.injEq, Value.slice.injEq, and_true] at hcs
  obtain ⟨rfl, rfl, rfl⟩ := hcs
  have hsm2 := hb.small
  have HN2 := Lib.hid hb.nilOk
  clear hx hb hlen
  go_enter Tryz.func4, Tryz.ntmps4
  go_wp2_with (fail)
  refine (alive6 w).mono ?_
  rintro e w1 ⟨rfl, hb⟩
  have B1 := Lib.hid hb
  clear hb
  go_wp2_with (fail)
  refine (greatChanges a n c xs w1 (HX.out.stay B1.out.size (fun k hk _ => B1.out.block k hk) (fun _ h _ => h))).mono ?_
  rintro e w2 ⟨⟨g, rfl⟩, rfl⟩
  cases g
  rotate_left
  · go_wp2
    go_ret
    exact ⟨rfl, B1.out⟩
  by_cases h4 : 400 < n
  · have h4' : decide ((400 : Int) < (n : Int)) = true := decide_eq_true (by omega)
    go_wp2
    go_ret
    exact ⟨rfl, B1.out⟩
  have h4' : decide ((400 : Int) < (n : Int)) = false := decide_eq_false (by omega)
  by_cases h2 : 20000 < n2
  · have h2' : decide ((20000 : Int) < (n2 : Int)) = true := decide_eq_true (by omega)
    go_wp2
    go_ret
    exact ⟨rfl, B1.out⟩
  have h2' : decide ((20000 : Int) < (n2 : Int)) = false := decide_eq_false (by omega)
  have X1 := Lib.hid (show Rd (· < w2.heap.size) w2 shChanges [.slice a n c] xs from (HX.out.stay B1.out.size (fun k hk _ => B1.out.block k hk) (fun k hk _ => Nat.lt_of_lt_of_le hk B1.out.size)))
  go_wp2_with (fail)
  refine (mputc_any a n c xs w2 X1.out).mono ?_
  rintro e w3 ⟨hb3, hpost⟩
  have B3 := Lib.hid (below_on B1.out hb3)
  have X3 := Lib.hid (show Rd (· < w3.heap.size) w3 shChanges [.slice a n c] xs from X1.out.stay hb3.size (fun k hk _ => hb3.block k hk) (fun k hk _ => Nat.lt_of_lt_of_le hk hb3.size))
  rcases hpost with ⟨hf, v, rfl, hown⟩ | ⟨hf, rfl⟩
  · have HF := Lib.hid hf
    obtain ⟨S, hS⟩ : ∃ S, strOfB ((cMany cChange).enc (xs.map toChange)) = S := ⟨_, rfl⟩
    have hel := cChanges_len _ hf
    obtain ⟨va, vc, rfl, hvr, _⟩ := hown.reads (by omega)
    obtain ⟨L, hL⟩ : ∃ L, ((cMany cChange).enc (xs.map toChange)).length = L := ⟨_, rfl⟩
    rw [hL] at hvr hel ⊢
    have VR := Lib.hid hvr
    have HS := Lib.hid hS
    clear hb3 hown hvr hS hL hf
    go_wp2_with (fail)
    refine (changes_any w3.heap.size (.slice none 0 0) [] a n c xs w3 (OwnV.nil _ _ _) (Nat.le_refl _) (by simp) X3.out).mono ?_
    rintro e w4 (⟨_, v4, rfl, hw4⟩ | ⟨hn, _⟩)
    rotate_left
    · exact absurd HF.out hn
    rw [List.nil_append] at hw4
    obtain ⟨va4, vc4, rfl, hvr4, _⟩ := hw4.1.reads (by have := cChanges_len _ HF.out; omega)
    have hk34 : Below w3.heap.size w3 w4 := Kept.below (F := []) (hw4.2.1.out.mono (by simp [ownL, Value.ownBlock])) (by simp) (Nat.le_refl _)
    obtain ⟨L4, hL4⟩ : ∃ L4, ((cMany cChange).enc (xs.map toChange)).length = L4 := ⟨_, rfl⟩
    rw [hL4] at hvr4 ⊢
    have B4 := Lib.hid (below_on B3.out hk34)
    have V4 := Lib.hid (VR.out.on hk34)
    have X4 := Lib.hid (show Rd (· < w4.heap.size) w4 shChanges [.slice a n c] xs from X3.out.stay hk34.size (fun k hk _ => hk34.block k hk) (fun k hk _ => Nat.lt_of_lt_of_le hk hk34.size))
    have kc : (convert 33 9 (.slice va L vc)).run Tryz.prog w4 = .ok (.string S) w4 := by
      rw [← HS.out]
      exact V4.out.str 33 5 Tryz.underlying33 Tryz.underlying5 9 Tryz.underlying9
    have kd : (convert 33 9 (.slice va4 L4 vc4)).run Tryz.prog w4 = .ok (.string S) w4 := by
      rw [← HS.out]
      exact hvr4.str 33 5 Tryz.underlying33 Tryz.underlying5 9 Tryz.underlying9
    clear hw4 hk34 hL4 hvr4 VR B3 X3
    go_wp2_with (fail)
    refine (mgetc_any va L vc _ w4 V4.out).mono ?_
    rintro e w5 ⟨hb5, hpost⟩
    have B5 := Lib.hid (below_on B4.out hb5)
    have RB := Lib.hid (readC_back _ HF.out)
    rcases hpost with ⟨p, ys, h1, rfl, hr5⟩ | ⟨er, h1, _⟩
    rotate_left
    · rw [RB.out] at h1
      cases h1
    have HEQ := Lib.hid (show xs.map toChange = ys.map toChange from by
      rw [RB.out] at h1
      exact Sum.inl.inj h1)
    have X5 := Lib.hid (X4.out.on hb5)
    have R5 := Lib.hid hr5
    clear hb5 h1 hr5 kc kd
    go_wp2_with (fail)
    refine (sameChanges a p.a n p.n c p.c xs ys w5 X5.out R5.out).mono ?_
    rintro e w6 ⟨z, rfl, hz, hb6⟩
    obtain rfl : z = true := hz.2 HEQ.out
    have B6 := Lib.hid (below_on B5.out hb6)
    clear hz hb6
    have R6 := Lib.hid (HB.out.below (Nat.le_refl _) B6.out)
    go_wp2_with (fail)
    refine (mgetc_any a2 n2 c2 bs w6 R6.out).mono ?_
    rintro e w7 ⟨hb7, hpost⟩
    have B7 := Lib.hid (below_on B6.out hb7)
    have R7 := Lib.hid (R6.out.on hb7)
    obtain ⟨w8, hw8⟩ : ∃ w8, w7.alloc (.cells #[.slice a2 n2 c2, .int .i64 0] 54) = w8 := ⟨_, rfl⟩
    have k78 : Below w7.heap.size w7 w8 := by rw [← hw8]; exact (Below.refl _ _).alloc (Nat.le_refl _) _
    have B8 := Lib.hid (below_on B7.out k78)
    have S8 := Lib.hid (show RState w8 w7.heap.size (.inl bs) from by
      refine ⟨a2, n2, c2, by rw [← hw8]; exact Blk.new w7 _ _, R7.out.on k78, fun h0 ad had => ?_⟩
      rcases R7.out.cells with h | ⟨b, off, e, hlt, _⟩
      · omega
      · rw [had] at e
        cases e
        exact hlt)
    have hl8 : w7.heap.size < w8.heap.size := by rw [← hw8]; simp
    have hw7 := B7.out.size
    rcases hpost with ⟨p, ys, h1, rfl, hr7⟩ | ⟨er, h1, her, rfl⟩
    · have HC := Lib.hid h1
      have Y8 := Lib.hid (hr7.lt.on k78)
      clear hb7 h1 hr7 k78
      go_wp2_with (fail)
      try rw [hw8]
      clear hw8
      refine (rchanges_u w7.heap.size (.inl bs) w8 S8.out hl8).mono ?_
      rintro e w9 ⟨hk, v, x, st, rfl, hV, hs, ht⟩
      obtain ⟨q, qn, qc, zs, rfl, hzr, rfl⟩ := hV.one
      have E9 := Lib.hid (show endC (zs.map toChange) st = .inl (ys.map toChange) from (endP_readC ht).symm.trans HC.out)
      have S9 := Lib.hid hs
      have Z9 := Lib.hid hzr.lt
      have Y9 := Lib.hid (Y8.out.kept hk (fun k hk ho => by simp at hk; omega))
      have B9 := Lib.hid (show Below w.heap.size w w9 from B8.out.trans (hk.below (B := w.heap.size) (by simp; omega) (by omega)))
      have hs9 := hk.size
      clear hk hV hzr hs ht
      go_wp2_with (fail)
      refine (rend_st w7.heap.size st w9 S9.out).mono ?_
      rintro e w10 ⟨hend, hk⟩
      have Z10 := Lib.hid (Z9.out.kept hk (fun k hk ho => by simp at hk; omega))
      have Y10 := Lib.hid (Y9.out.kept hk (fun k hk ho => by simp at hk; omega))
      have B10 := Lib.hid (show Below w.heap.size w w10 from B9.out.trans (hk.below (B := w.heap.size) (by simp; omega) (by omega)))
      obtain ⟨hE, hQ⟩ : e = .returned (.int .i64 0) ∧ zs.map toChange = ys.map toChange := by
        have h1 := E9.out
        rcases st with r | k
        · by_cases hr : r = []
          · subst hr
            exact ⟨hend, Sum.inl.inj h1⟩
          · simp only [endC, if_neg hr] at h1
            cases h1
        · cases h1
      subst hE
      have HQ := Lib.hid hQ.symm
      clear hend hk hQ
      go_wp2_with (fail)
      refine (sameChanges p.a q p.n qn p.c qc ys zs w10 Y10.out Z10.out).mono ?_
      rintro e w11 ⟨z, rfl, hz, hb11⟩
      obtain rfl : z = true := hz.2 HQ.out
      have B11 := Lib.hid (below_on B10.out hb11)
      clear hz hb11
      go_wp2
      go_ret
      exact ⟨rfl, B11.out⟩
    · have HC := Lib.hid h1
      clear hb7 h1 k78
      go_wp2_with (fail)
      try rw [hw8]
      clear hw8
      refine (rchanges_u w7.heap.size (.inl bs) w8 S8.out hl8).mono ?_
      rintro e w9 ⟨hk, v, x, st, rfl, hV, hs, ht⟩
      obtain ⟨q, qn, qc, zs, rfl, hzr, rfl⟩ := hV.one
      have E9 := Lib.hid (show endC (zs.map toChange) st = .inr er from (endP_readC ht).symm.trans HC.out)
      have S9 := Lib.hid hs
      have B9 := Lib.hid (show Below w.heap.size w w9 from B8.out.trans (hk.below (B := w.heap.size) (by simp; omega) (by omega)))
      have hs9 := hk.size
      clear hk hV hzr hs ht
      go_wp2_with (fail)
      refine (rend_st w7.heap.size st w9 S9.out).mono ?_
      rintro e w10 ⟨hend, hk⟩
      have B10 := Lib.hid (show Below w.heap.size w w10 from B9.out.trans (hk.below (B := w.heap.size) (by simp; omega) (by omega)))
      have hE : e = .returned (.int .i64 (er : Int)) := by
        have h1 := E9.out
        rcases st with r | k
        · by_cases hr : r = []
          · subst hr
            simp [endC] at h1
          · simp only [endC, if_neg hr, Sum.inr.injEq] at h1
            subst h1
            have h2 := hend
            simp only [EndPost, if_neg hr] at h2
            exact h2
        · simp only [endC, Sum.inr.injEq] at h1
          subst h1
          exact hend
      subst hE
      have he0b : ((er : Int) != 0) = true := by simp; omega
      clear hend hk
      go_wp2
      go_ret
      exact ⟨rfl, B10.out⟩
  · have HF := Lib.hid hf
    clear hb3 hf
    go_wp2_with (fail)
    refine (changes_any w3.heap.size (.slice none 0 0) [] a n c xs w3 (OwnV.nil _ _ _) (Nat.le_refl _) (by simp) X3.out).mono ?_
    rintro e w4 (⟨hy, _⟩ | ⟨_, v4, rfl, hw4⟩)
    · exact absurd hy HF.out
    have hk34 : Below w3.heap.size w3 w4 := Kept.below (F := []) (hw4.out.mono (by simp [ownL, Value.ownBlock])) (by simp) (Nat.le_refl _)
    have B4 := Lib.hid (below_on B3.out hk34)
    clear hw4 hk34 B3 X3
    go_wp2_with (fail)
    refine (mgetc_any none 0 0 [] w4 (BReads.nil _)).mono ?_
    rintro e w6 ⟨hb5, hpost⟩
    have B6 := Lib.hid (below_on B4.out hb5)
    obtain ⟨v5, er, rfl⟩ : ∃ (v5 : Value) (er : Int), e = .returned (.tuple #[v5, .int .i64 er]) := by
      rcases hpost with ⟨p, ys, h1, rfl, hr5⟩ | ⟨er, h1, _, rfl⟩
      · exact ⟨_, _, rfl⟩
      · exact ⟨_, _, rfl⟩
    clear hb5 hpost
    have R6 := Lib.hid (HB.out.below (Nat.le_refl _) B6.out)
    go_wp2_with (fail)
    refine (mgetc_any a2 n2 c2 bs w6 R6.out).mono ?_
    rintro e w7 ⟨hb7, hpost⟩
    have B7 := Lib.hid (below_on B6.out hb7)
    have R7 := Lib.hid (R6.out.on hb7)
    obtain ⟨w8, hw8⟩ : ∃ w8, w7.alloc (.cells #[.slice a2 n2 c2, .int .i64 0] 54) = w8 := ⟨_, rfl⟩
    have k78 : Below w7.heap.size w7 w8 := by rw [← hw8]; exact (Below.refl _ _).alloc (Nat.le_refl _) _
    have B8 := Lib.hid (below_on B7.out k78)
    have S8 := Lib.hid (show RState w8 w7.heap.size (.inl bs) from by
      refine ⟨a2, n2, c2, by rw [← hw8]; exact Blk.new w7 _ _, R7.out.on k78, fun h0 ad had => ?_⟩
      rcases R7.out.cells with h | ⟨b, off, e, hlt, _⟩
      · omega
      · rw [had] at e
        cases e
        exact hlt)
    have hl8 : w7.heap.size < w8.heap.size := by rw [← hw8]; simp
    have hw7 := B7.out.size
    rcases hpost with ⟨p, ys, h1, rfl, hr7⟩ | ⟨er, h1, her, rfl⟩
    · have HC := Lib.hid h1
      have Y8 := Lib.hid (hr7.lt.on k78)
      clear hb7 h1 hr7 k78
      go_wp2_with (fail)
      try rw [hw8]
      clear hw8
      refine (rchanges_u w7.heap.size (.inl bs) w8 S8.out hl8).mono ?_
      rintro e w9 ⟨hk, v, x, st, rfl, hV, hs, ht⟩
      obtain ⟨q, qn, qc, zs, rfl, hzr, rfl⟩ := hV.one
      have E9 := Lib.hid (show endC (zs.map toChange) st = .inl (ys.map toChange) from (endP_readC ht).symm.trans HC.out)
      have S9 := Lib.hid hs
      have Z9 := Lib.hid hzr.lt
      have Y9 := Lib.hid (Y8.out.kept hk (fun k hk ho => by simp at hk; omega))
      have B9 := Lib.hid (show Below w.heap.size w w9 from B8.out.trans (hk.below (B := w.heap.size) (by simp; omega) (by omega)))
      have hs9 := hk.size
      clear hk hV hzr hs ht
      go_wp2_with (fail)
      refine (rend_st w7.heap.size st w9 S9.out).mono ?_
      rintro e w10 ⟨hend, hk⟩
      have Z10 := Lib.hid (Z9.out.kept hk (fun k hk ho => by simp at hk; omega))
      have Y10 := Lib.hid (Y9.out.kept hk (fun k hk ho => by simp at hk; omega))
      have B10 := Lib.hid (show Below w.heap.size w w10 from B9.out.trans (hk.below (B := w.heap.size) (by simp; omega) (by omega)))
      obtain ⟨hE, hQ⟩ : e = .returned (.int .i64 0) ∧ zs.map toChange = ys.map toChange := by
        have h1 := E9.out
        rcases st with r | k
        · by_cases hr : r = []
          · subst hr
            exact ⟨hend, Sum.inl.inj h1⟩
          · simp only [endC, if_neg hr] at h1
            cases h1
        · cases h1
      subst hE
      have HQ := Lib.hid hQ.symm
      clear hend hk hQ
      go_wp2_with (fail)
      refine (sameChanges p.a q p.n qn p.c qc ys zs w10 Y10.out Z10.out).mono ?_
      rintro e w11 ⟨z, rfl, hz, hb11⟩
      obtain rfl : z = true := hz.2 HQ.out
      have B11 := Lib.hid (below_on B10.out hb11)
      clear hz hb11
      go_wp2
      go_ret
      exact ⟨rfl, B11.out⟩
    · have HC := Lib.hid h1
      clear hb7 h1 k78
      go_wp2_with (fail)
      try rw [hw8]
      clear hw8
      refine (rchanges_u w7.heap.size (.inl bs) w8 S8.out hl8).mono ?_
      rintro e w9 ⟨hk, v, x, st, rfl, hV, hs, ht⟩
      obtain ⟨q, qn, qc, zs, rfl, hzr, rfl⟩ := hV.one
      have E9 := Lib.hid (show endC (zs.map toChange) st = .inr er from (endP_readC ht).symm.trans HC.out)
      have S9 := Lib.hid hs
      have B9 := Lib.hid (show Below w.heap.size w w9 from B8.out.trans (hk.below (B := w.heap.size) (by simp; omega) (by omega)))
      have hs9 := hk.size
      clear hk hV hzr hs ht
      go_wp2_with (fail)
      refine (rend_st w7.heap.size st w9 S9.out).mono ?_
      rintro e w10 ⟨hend, hk⟩
      have B10 := Lib.hid (show Below w.heap.size w w10 from B9.out.trans (hk.below (B := w.heap.size) (by simp; omega) (by omega)))
      have hE : e = .returned (.int .i64 (er : Int)) := by
        have h1 := E9.out
        rcases st with r | k
        · by_cases hr : r = []
          · subst hr
            simp [endC] at h1
          · simp only [endC, if_neg hr, Sum.inr.injEq] at h1
            subst h1
            have h2 := hend
            simp only [EndPost, if_neg hr] at h2
            exact h2
        · simp only [endC, Sum.inr.injEq] at h1
          subst h1
          exact hend
      subst hE
      have he0b : ((er : Int) != 0) = true := by simp; omega
      clear hend hk
      go_wp2
      go_ret
      exact ⟨rfl, B10.out⟩

theorem changes_row : Rows.MessageChangesSaid :=
  OpenClaim.holds_of_wide 4 Tryz.f4 rfl rfl rfl rfl rfl rfl rfl ⟨rfl, rfl, rfl, rfl, rfl⟩ rfl rfl rfl rfl rfl (by kernel_rfl) Tryz.func4 (by kernel_rfl)
    (of_decide_eq_true (by kernel_rfl)) (by unfold Func.isWrapper; rw [if_neg (of_decide_eq_false (by kernel_rfl))]; exact ⟨rfl, rfl⟩)
    (fun os started H enc _ => lift (C := Tryz.checked) (s := Rows.messageChangesSpec) (conds := Rows.messageChangesRow.domain) os started H enc prog_own (by kernel_rfl) Tryz.func4 prog_laid rfl Tryz.underlying4 rfl
      (fun ds hl => by
        have hl : ds.length = 2 := hl
        match ds, hl with
        | [_, _], _ => rfl)
      (of_decide_eq_true (by kernel_rfl))
      (ChangeSpec.witness6 (enc := enc) (C := Tryz.checked) false ⟨#[], #[.slice none 0 0, .slice none 0 0], []⟩ 8 (by kernel_rfl) (by kernel_rfl) (by kernel_rfl) (by kernel_rfl))
      (fun W base args ds p g => by
        rw [Tryz.params4] at g
        obtain ⟨a, n, c, xs, e0, hx⟩ := g.changes 0 rfl
        obtain ⟨a2, n2, c2, bs, e1, hb, _⟩ := g.bytes 1 rfl Tryz.underlying33 Tryz.underlying5 (by kernel_rfl) (by kernel_rfl)
        rw [args2 g.count e0 e1]
        exact changes_walk a n c xs a2 n2 c2 bs W hx hb))
end Go.Proofs.YtkhcoinpplpomaaGreat
