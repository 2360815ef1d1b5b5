/-
  The document's writers of lists of texts and of vectors, by walks over their texts.
-/
import Derived.Test.YtemnmjfeljipjaaGreatMa
import Derived.Test.YtemnmjfeljipjaaGreatMp
namespace Go.Proofs.YtemnmjfeljipjaaGreat
open Go.RowKit

set_option maxRecDepth 100000 in
set_option maxHeartbeats 3200000 in
theorem texts_any (B : Nat) (v : Value) (bs : List Nat) (a : Option Addr) (n c : Nat) (ss : List ByteArray) (w : World) (h : OwnV w B 5 v bs) (hB : B ≤ w.heap.size) (hl : bs.length ≤ 274877906944)
    (hr : ∀ w', Below B w w' → SReads w' a n c ss) (hz : ∀ s ∈ ss, s.size ≤ maxLen) :
    Calls Tryz.prog 45 #[v, .slice a n c] w fun e w' => WPost cStrs B v bs (ss.map strB) w e w' := by
  have HO := Lib.hid h
  have HR := Lib.hid hr
  have HZ := Lib.hid hz
  have hr0 := hr w ⟨rfl, rfl, rfl, Nat.le_refl _, fun _ _ => rfl⟩
  have HL := Lib.hid hr0.len
  have hsm := hr0.small
  have HF := Lib.hid (cMany_fits cStr (ss.map strB))
  have HE := Lib.hid (cMany_enc cStr (ss.map strB))
  have HLB := Lib.hid (show (ss.map strB).length = n by rw [List.length_map]; exact hr0.len)
  clear h hr hz hr0
  by_cases hc : 128 < n
  · go_enter Tryz.func45, Tryz.ntmps45
    go_wp2
    go_ret2
    exact .inr ⟨fun hf => by have := (HF.out.1 hf).1; have := HLB.out; omega, v, rfl, Kept.refl _ _⟩
  · go_enter Tryz.func45, Tryz.ntmps45
    go_wp2_with (fail)
    refine (num_any n w (by omega)).mono ?_
    rintro e w2 ⟨v2, rfl, ho, hb⟩
    have HO2 := Lib.hid ho
    have HB2 := Lib.hid hb
    clear ho hb
    go_wp2_with (at_builtin; refine app_put w _ rfl (.tmp 12) (.tmp 15) 33 rfl Tryz.underlying33 byte_info B v v2 bs (vput n) (by rfl) (by rfl) HO.out hB HO2.out HB2.out (by omega) (by have := vput_len10 (n := n) (by omega); omega) ?_)
    intro v3 w3 hw3
    have HW3 := Lib.hid hw3
    clear hw3 HO2 HB2
    go_wp2_with (fail)
    go_loopw [0, 6, 7] (fun s0 s6 s7 wr => ∃ (i : Nat) (t : Bool), s7 = .int .i64 i ∧ i ≤ n ∧ s6 = .bool t ∧ Hid (ManyI cStr B v bs (ss.map strB) i t s0 w wr)) (fun _ _ s7 _ => n - (intOf s7).toNat)
    case atStart => exact ⟨0, true, rfl, by omega, rfl, .inl ⟨rfl, by simp, by rw [HLB.out]; simpa [encN] using HW3.out⟩⟩
    case round =>
      clear HW3
      obtain ⟨i, t, rfl, hi, rfl, HI⟩ := hrel
      cases t
      · obtain ⟨hno, hw⟩ := HI.out.no
        have HNO := Lib.hid hno
        have HW := hw
        clear hno hw HI
        by_cases hin : i < n
        all_goals
          go_wp2
          go_ret2
          exact .inr ⟨fun hf => HNO.out (HF.out.1 hf).2, _, rfl, HW⟩
      · obtain ⟨hall, hw⟩ := HI.out.yes
        have HALL := Lib.hid hall
        have HW := Lib.hid hw
        have hBr := hw.size hB
        have HRr := Lib.hid (HR.out wr (hw.below HO.out hB))
        clear hall hw HI
        by_cases hin : i < n
        · rcases HRr.out.cells with h0 | ⟨b, off, rfl, hlt, hcl⟩
          · omega
          obtain ⟨s, hs⟩ : ∃ s, strAt ss i = s := ⟨_, rfl⟩
          have hcell := hcl i hin
          rw [hs] at hcell
          have hil : i < ss.length := by rw [HL.out]; exact hin
          have hmem : s ∈ ss := by rw [← hs]; simp [strAt, List.getD, hil]
          have hsz := HZ.out s hmem
          have hget : (ss.map strB)[i]? = some (strB s) := by rw [← hs]; simp [strAt, List.getD, hil]
          have htake : (ss.map strB).take (i + 1) = (ss.map strB).take i ++ [strB s] := by rw [List.take_add_one, hget]; rfl
          have HT := Lib.hid htake
          have HMEM := Lib.hid (show strB s ∈ ss.map strB from List.mem_map.2 ⟨s, hmem, rfl⟩)
          have HLN := Lib.hid (show (bs ++ (vput (ss.map strB).length ++ encN cStr ((ss.map strB).take i))).length ≤ 549755813888 from by
            have h1 := vput_len10 (n := (ss.map strB).length) (by rw [HLB.out]; omega)
            have h2 := encN_len cStr ((ss.map strB).take i) 4106 (fun x hx => cStr_len x (HALL.out x hx))
            have h3 : ((ss.map strB).take i).length ≤ 128 := by rw [List.length_take]; omega
            have h4 : ((ss.map strB).take i).length * 4106 ≤ 128 * 4106 := Nat.mul_le_mul_right _ h3
            rw [List.length_append, List.length_append]
            omega)
          clear hcl hs hget htake hmem
          go_wp2_with (fail)
          refine (text_any B _ _ s wr HW.out.1 hBr HLN.out hsz).mono ?_
          rintro e w4 (⟨hf, v4, rfl, hw4⟩ | ⟨hf, v4, rfl, hw4⟩)
          · have HN := Lib.hid (show ManyI cStr B v bs (ss.map strB) (i + 1) true v4 w w4 from by
              refine .inl ⟨rfl, ?_, ?_⟩
              · rw [HT.out]
                intro x hx
                rcases List.mem_append.1 hx with hx | hx
                · exact HALL.out x hx
                · simp at hx; rw [hx]; exact hf
              · rw [HT.out, encN_snoc]
                have := HW.out.trans hw4
                simpa [List.append_assoc] using this)
            clear hf hw4
            go_wp2
            go_roundw
            case rel => exact ⟨i + 1, true, by go_num, by omega, rfl, HN.out⟩
            case measure => simp [intOf]; omega
          · have HN := Lib.hid (show ManyI cStr B v bs (ss.map strB) (i + 1) false v4 w w4 from
              .inr ⟨rfl, fun hall => hf (hall _ HMEM.out), HW.out.lost hw4.out⟩)
            clear hf hw4
            go_wp2
            go_roundw
            case rel => exact ⟨i + 1, false, by go_num, by omega, rfl, HN.out⟩
            case measure => simp [intOf]; omega
        · have hin' : i = n := by omega
          subst hin'
          have htk : (ss.map strB).take i = ss.map strB := List.take_of_length_le (by have := HLB.out; omega)
          have HFIN := Lib.hid (show cStrs.fits (ss.map strB) ∧ Wrote B v _ (bs ++ cStrs.enc (ss.map strB)) w wr from by
            have h1 := HALL.out
            have h2 := HW.out
            rw [htk] at h1 h2
            exact ⟨HF.out.2 ⟨by have := HLB.out; omega, h1⟩, by rw [show cStrs.enc (ss.map strB) = vput (ss.map strB).length ++ encN cStr (ss.map strB) from HE.out]; exact h2⟩)
          clear htk
          go_wp2
          go_ret2
          exact .inl ⟨HFIN.out.1, _, rfl, HFIN.out.2⟩

set_option maxRecDepth 100000 in
set_option maxHeartbeats 3200000 in
theorem vec_any (B : Nat) (v : Value) (bs : List Nat) (a : Option Addr) (n c : Nat) (xs : List Int) (w : World) (h : OwnV w B 5 v bs) (hB : B ≤ w.heap.size) (hl : bs.length ≤ 274877906944)
    (hr : ∀ w', Below B w w' → Reads .i32 w' a n xs) :
    Calls Tryz.prog 44 #[v, .slice a n c] w fun e w' => WPost cVec B v bs xs w e w' := by
  have HO := Lib.hid h
  have HR := Lib.hid hr
  have hr0 := hr w ⟨rfl, rfl, rfl, Nat.le_refl _, fun _ _ => rfl⟩
  have HL := Lib.hid hr0.len
  have hsm := hr0.small
  have HWF := Lib.hid (fun x (hx : x ∈ xs) => i32_wf (hr0.wf x hx))
  have HF := Lib.hid (cMany_fits (cInt (-2147483648) 2147483647) xs)
  have HE := Lib.hid (cMany_enc (cInt (-2147483648) 2147483647) xs)
  clear h hr hr0
  by_cases hc : 128 < n
  · go_enter Tryz.func44, Tryz.ntmps44
    go_wp2
    go_ret2
    exact .inr ⟨fun hf => by have := (HF.out.1 hf).1; have := HL.out; omega, v, rfl, Kept.refl _ _⟩
  · go_enter Tryz.func44, Tryz.ntmps44
    go_wp2_with (fail)
    refine (num_any n w (by omega)).mono ?_
    rintro e w2 ⟨v2, rfl, ho, hb⟩
    have HO2 := Lib.hid ho
    have HB2 := Lib.hid hb
    clear ho hb
    go_wp2_with (at_builtin; refine app_put w _ rfl (.tmp 11) (.tmp 14) 33 rfl Tryz.underlying33 byte_info B v v2 bs (vput n) (by rfl) (by rfl) HO.out hB HO2.out HB2.out (by omega) (by have := vput_len10 (n := n) (by omega); omega) ?_)
    intro v3 w3 hw3
    have HW3 := Lib.hid hw3
    clear hw3 HO2 HB2
    go_wp2_with (fail)
    go_loopw [0, 6] (fun s0 s6 wr => ∃ i : Nat, s6 = .int .i64 i ∧ i ≤ n ∧ Hid (ManyI (cInt (-2147483648) 2147483647) B v bs xs i true s0 w wr)) (fun _ s6 _ => n - (intOf s6).toNat)
    case atStart => exact ⟨0, rfl, by omega, .inl ⟨rfl, by simp, by rw [HL.out]; simpa [encN] using HW3.out⟩⟩
    case round =>
      clear HW3
      obtain ⟨i, rfl, hi, HI⟩ := hrel
      obtain ⟨hall, hw⟩ := HI.out.yes
      have HALL := Lib.hid hall
      have HW := Lib.hid hw
      have hBr := hw.size hB
      have HRr := Lib.hid (HR.out wr (hw.below HO.out hB))
      clear hall hw HI
      by_cases hin : i < n
      · rcases HRr.out.cells with h0 | ⟨b, off, rfl, hlt, hcl⟩
        · omega
        obtain ⟨x, hx⟩ : ∃ x, xs.getD i 0 = x := ⟨_, rfl⟩
        have hcell := hcl i hin
        rw [hx] at hcell
        have hil : i < xs.length := by rw [HL.out]; exact hin
        have hmem : x ∈ xs := by rw [← hx]; simp [List.getD, hil]
        obtain ⟨hx0, hx1⟩ := HWF.out x hmem
        have hget : xs[i]? = some x := by rw [← hx]; simp [List.getD, hil]
        have htake : xs.take (i + 1) = xs.take i ++ [x] := by rw [List.take_add_one, hget]; rfl
        have HT := Lib.hid htake
        have hfit := (cInt_fits (-2147483648) 2147483647 x (by omega) (by omega)).2 ⟨hx0, hx1⟩
        have HFIT := Lib.hid hfit
        have HLN := Lib.hid (show (bs ++ (vput xs.length ++ encN (cInt (-2147483648) 2147483647) (xs.take i))).length ≤ 1099511627776 from by
          have h1 := vput_len10 (n := xs.length) (by rw [HL.out]; omega)
          have h2 := encN_len (cInt (-2147483648) 2147483647) (xs.take i) 10 (fun y hy => cInt_len _ _ y (HALL.out y hy))
          have h3 : (xs.take i).length ≤ 128 := by rw [List.length_take]; omega
          rw [List.length_append, List.length_append]
          omega)
        clear hcl hx hget htake hmem hfit
        go_wp2_with (fail)
        refine (rputint_any x wr (by omega) (by omega)).mono ?_
        rintro e w4 ⟨v4, rfl, ho4, hb4⟩
        have HO4 := Lib.hid ho4
        have HB4 := Lib.hid hb4
        clear ho4 hb4 hcell
        go_wp2_with (at_builtin; refine app_put wr _ rfl (.tmp 22) (.tmp 28) 33 rfl Tryz.underlying33 byte_info B _ v4 _ (vput (vfold x)) (by rfl) (by rfl) HW.out.1 hBr HO4.out HB4.out HLN.out (by have := vput_len10 (vfold_lt (n := x) (by omega) (by omega)); omega) ?_)
        intro v5 w5 hw5
        have HN := Lib.hid (show ManyI (cInt (-2147483648) 2147483647) B v bs xs (i + 1) true v5 w w5 from by
          refine .inl ⟨rfl, ?_, ?_⟩
          · rw [HT.out]
            intro y hy
            rcases List.mem_append.1 hy with hy | hy
            · exact HALL.out y hy
            · simp at hy; rw [hy]; exact HFIT.out
          · rw [HT.out, encN_snoc, cInt_enc]
            have := HW.out.trans hw5
            simpa [List.append_assoc] using this)
        clear hw5 HO4 HB4 HW HALL
        go_wp2
        go_roundw
        case rel => exact ⟨i + 1, by go_num, by omega, HN.out⟩
        case measure => simp [intOf]; omega
      · have hin' : i = n := by omega
        subst hin'
        have htk : xs.take i = xs := List.take_of_length_le (by have := HL.out; omega)
        have HFIN := Lib.hid (show cVec.fits xs ∧ Wrote B v _ (bs ++ cVec.enc xs) w wr from by
          have h1 := HALL.out
          have h2 := HW.out
          rw [htk] at h1 h2
          exact ⟨HF.out.2 ⟨by have := HL.out; omega, h1⟩, by rw [show cVec.enc xs = vput xs.length ++ encN (cInt (-2147483648) 2147483647) xs from HE.out]; exact h2⟩)
        clear htk
        go_wp2
        go_ret2
        exact .inl ⟨HFIN.out.1, _, rfl, HFIN.out.2⟩
end Go.Proofs.YtemnmjfeljipjaaGreat
