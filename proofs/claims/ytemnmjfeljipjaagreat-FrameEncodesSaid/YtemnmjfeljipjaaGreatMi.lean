/-
  The document's writers of lists of items and of hits, by walks over their texts.
-/
import Derived.Test.YtemnmjfeljipjaaGreatMh
import Derived.Deep.DeepMust
namespace Go.Proofs.YtemnmjfeljipjaaGreat
open Go.RowKit

set_option maxRecDepth 100000 in
set_option maxHeartbeats 3200000 in
theorem items_any (B : Nat) (v : Value) (bs : List Nat) (a : Option Addr) (n c : Nat) (xs : List shItem.T) (w : World) (h : OwnV w B 5 v bs) (hB : B ≤ w.heap.size) (hl : bs.length ≤ 68719476736) (hx : Rd (· < B) w shItems [.slice a n c] xs) :
    Calls Tryz.prog 46 #[v, .slice a n c] w fun e w' => WPost (cMany cItem) B v bs (xs.map toItem) w e w' := by
  have HO := Lib.hid h
  have HX := Lib.hid hx
  obtain ⟨_, _, _, hcs, hlen, hsm, _⟩ := Rd.slice_is (e := shItem) hx
  simp only [List.cons.injEq, Value.slice.injEq, and_true] at hcs
  obtain ⟨rfl, rfl, rfl⟩ := hcs
  have HL := hlen
  have HF := Lib.hid (cMany_fits cItem (xs.map toItem))
  have HE := Lib.hid (cMany_enc cItem (xs.map toItem))
  have HLB := Lib.hid (show (xs.map toItem).length = n by rw [List.length_map]; exact hlen.out)
  clear h hx hlen
  by_cases hc : 128 < n
  · go_enter Tryz.func46, Tryz.ntmps46
    go_wp2
    go_ret2
    exact .inr ⟨fun hf => by have := (HF.out.1 hf).1; have := HLB.out; omega, v, rfl, Kept.refl _ _⟩
  · go_enter Tryz.func46, Tryz.ntmps46
    go_wp2_with (fail)
    refine (num_any n w (by omega)).mono ?_
    rintro e w2 ⟨v2, rfl, ho, hb⟩
    have HO2 := Lib.hid ho
    have HB2 := Lib.hid hb
    clear ho hb
    go_wp2_with (at_builtin; refine app_put w _ rfl (.tmp 12) (.tmp 15) 33 rfl Tryz.underlying33 byte_info B v v2 bs (vput n) (by rfl) (by rfl) HO.out hB HO2.out HB2.out (by omega) (by have := vput_len10 (n := n) (by omega); omega) ?_)
    intro v3 w3 hw3
    have HW3 := Lib.hid hw3
    clear hw3 HO2 HB2
    go_wp2_with (fail)
    go_loopw [0, 6, 7] (fun s0 s6 s7 wr => ∃ (i : Nat) (t : Bool), s7 = .int .i64 i ∧ i ≤ n ∧ s6 = .bool t ∧ Hid (ManyI cItem B v bs (xs.map toItem) i t s0 w wr)) (fun _ _ s7 _ => n - (intOf s7).toNat)
    case atStart => exact ⟨0, true, rfl, by omega, rfl, .inl ⟨rfl, by simp, by rw [HLB.out]; simpa [encN] using HW3.out⟩⟩
    case round =>
      clear HW3
      obtain ⟨i, t, rfl, hi, rfl, HI⟩ := hrel
      cases t
      · obtain ⟨hno, hw⟩ := HI.out.no
        have HNO := Lib.hid hno
        have HW := hw
        clear hno hw HI
        by_cases hin : i < n
        all_goals
          go_wp2
          go_ret2
          exact .inr ⟨fun hf => HNO.out (HF.out.1 hf).2, _, rfl, HW⟩
      · obtain ⟨hall, hw⟩ := HI.out.yes
        have HALL := Lib.hid hall
        have HW := Lib.hid hw
        have hBr := hw.size hB
        have HRr := Lib.hid (HX.out.under (hw.below HO.out hB))
        clear hall hw HI
        by_cases hin : i < n
        · obtain ⟨b, off, x, c0, c1, c2, rfl, hlt, hget, HRX, k0, k1, k2⟩ := rd_item_at HRr.out i hin
          have hgetm : (xs.map toItem)[i]? = some (toItem x) := by rw [List.getElem?_map, hget]; rfl
          have HT := Lib.hid (show (xs.map toItem).take (i + 1) = (xs.map toItem).take i ++ [toItem x] by rw [List.take_add_one, hgetm]; rfl)
          have HMEM := Lib.hid (List.mem_of_getElem? hgetm)
          have HLN := Lib.hid (many_len cItem 700000 cItem_len ((xs.map toItem).take i) HALL.out (xs.map toItem).length (by rw [List.length_take]; omega) bs 137438953472 (by rw [HLB.out]; omega) (by omega))
          clear hget hgetm
          go_wp2_with (fail)
          refine (item_any B _ _ c0 c1 c2 x wr HW.out.1 hBr HLN.out HRX.out).mono ?_
          rintro e w4 (⟨hf, v4, rfl, hw4⟩ | ⟨hf, v4, rfl, hw4⟩)
          · have HN := Lib.hid (show ManyI cItem B v bs (xs.map toItem) (i + 1) true v4 w w4 from by
              refine .inl ⟨rfl, ?_, ?_⟩
              · rw [HT.out]
                intro y hy
                rcases List.mem_append.1 hy with hy | hy
                · exact HALL.out y hy
                · simp at hy; rw [hy]; exact hf
              · rw [HT.out, encN_snoc]
                have := HW.out.trans hw4
                simpa [List.append_assoc] using this)
            clear hf hw4 k0 k1 k2
            go_wp2
            go_roundw
            case rel => exact ⟨i + 1, true, by go_num, by omega, rfl, HN.out⟩
            case measure => simp [intOf]; omega
          · have HN := Lib.hid (show ManyI cItem B v bs (xs.map toItem) (i + 1) false v4 w w4 from
              .inr ⟨rfl, fun hall => hf (hall _ HMEM.out), HW.out.lost hw4.out⟩)
            clear hf hw4 k0 k1 k2
            go_wp2
            go_roundw
            case rel => exact ⟨i + 1, false, by go_num, by omega, rfl, HN.out⟩
            case measure => simp [intOf]; omega
        · have hin' : i = n := by omega
          subst hin'
          have htk : (xs.map toItem).take i = xs.map toItem := List.take_of_length_le (by have := HLB.out; omega)
          have HFIN := Lib.hid (show (cMany cItem).fits (xs.map toItem) ∧ Wrote B v _ (bs ++ (cMany cItem).enc (xs.map toItem)) w wr from by
            have h1 := HALL.out
            have h2 := HW.out
            rw [htk] at h1 h2
            exact ⟨HF.out.2 ⟨by have := HLB.out; omega, h1⟩, by rw [HE.out]; exact h2⟩)
          clear htk
          go_wp2
          go_ret2
          exact .inl ⟨HFIN.out.1, _, rfl, HFIN.out.2⟩

set_option maxRecDepth 100000 in
set_option maxHeartbeats 3200000 in
theorem hits_any (B : Nat) (v : Value) (bs : List Nat) (a : Option Addr) (n c : Nat) (xs : List shHit.T) (w : World) (h : OwnV w B 5 v bs) (hB : B ≤ w.heap.size) (hl : bs.length ≤ 68719476736) (hx : Rd (· < B) w shHits [.slice a n c] xs) :
    Calls Tryz.prog 47 #[v, .slice a n c] w fun e w' => WPost (cMany cHit) B v bs (xs.map toHit) w e w' := by
  have HO := Lib.hid h
  have HX := Lib.hid hx
  obtain ⟨_, _, _, hcs, hlen, hsm, _⟩ := Rd.slice_is (e := shHit) hx
  simp only [List.cons.injEq, Value.slice.injEq, and_true] at hcs
  obtain ⟨rfl, rfl, rfl⟩ := hcs
  have HL := hlen
  have HF := Lib.hid (cMany_fits cHit (xs.map toHit))
  have HE := Lib.hid (cMany_enc cHit (xs.map toHit))
  have HLB := Lib.hid (show (xs.map toHit).length = n by rw [List.length_map]; exact hlen.out)
  clear h hx hlen
  by_cases hc : 128 < n
  · go_enter Tryz.func47, Tryz.ntmps47
    go_wp2
    go_ret2
    exact .inr ⟨fun hf => by have := (HF.out.1 hf).1; have := HLB.out; omega, v, rfl, Kept.refl _ _⟩
  · go_enter Tryz.func47, Tryz.ntmps47
    go_wp2_with (fail)
    refine (num_any n w (by omega)).mono ?_
    rintro e w2 ⟨v2, rfl, ho, hb⟩
    have HO2 := Lib.hid ho
    have HB2 := Lib.hid hb
    clear ho hb
    go_wp2_with (at_builtin; refine app_put w _ rfl (.tmp 11) (.tmp 14) 33 rfl Tryz.underlying33 byte_info B v v2 bs (vput n) (by rfl) (by rfl) HO.out hB HO2.out HB2.out (by omega) (by have := vput_len10 (n := n) (by omega); omega) ?_)
    intro v3 w3 hw3
    have HW3 := Lib.hid hw3
    clear hw3 HO2 HB2
    go_wp2_with (fail)
    go_loopw [0, 6] (fun s0 s6 wr => ∃ i : Nat, s6 = .int .i64 i ∧ i ≤ n ∧ Hid (ManyI cHit B v bs (xs.map toHit) i true s0 w wr)) (fun _ s6 _ => n - (intOf s6).toNat)
    case atStart => exact ⟨0, rfl, by omega, .inl ⟨rfl, by simp, by rw [HLB.out]; simpa [encN] using HW3.out⟩⟩
    case round =>
      clear HW3
      obtain ⟨i, rfl, hi, HI⟩ := hrel
      obtain ⟨hall, hw⟩ := HI.out.yes
      have HALL := Lib.hid hall
      have HW := Lib.hid hw
      have hBr := hw.size hB
      have HRr := Lib.hid (HX.out.under (hw.below HO.out hB))
      clear hall hw HI
      by_cases hin : i < n
      · obtain ⟨b, off, x, d, id, rfl, hlt, hget, hto, hd0, hd1, hid, k0, k1⟩ := rd_hit_at HRr.out i hin
        have hgetm : (xs.map toHit)[i]? = some ⟨d, id⟩ := by rw [List.getElem?_map, hget, Option.map_some, hto]
        have HT := Lib.hid (show (xs.map toHit).take (i + 1) = (xs.map toHit).take i ++ [⟨d, id⟩] by rw [List.take_add_one, hgetm]; rfl)
        have HFIT := Lib.hid (cHit_fits ⟨d, id⟩ hd0 hd1 hid)
        have HLN := Lib.hid (many_len cHit 20 cHit_len ((xs.map toHit).take i) HALL.out (xs.map toHit).length (by rw [List.length_take]; omega) bs 137438953472 (by rw [HLB.out]; omega) (by omega))
        have hwi : IntKind.i64.wrap (id : Int) = (id : Int) := by rw [IntKind.wrap_i64]; omega
        have hbl : b < B := by
          obtain ⟨b', off', _, _, ha', hok, _⟩ := Rd.elem (e := shHit) HRr.out i hin
          cases ha'
          exact hok
        clear hget hgetm hto
        go_wp2_with (fail)
        refine (rputint_any d wr hd0 hd1).mono ?_
        rintro e w4 ⟨v4, rfl, ho4, hb4⟩
        have HO4 := Lib.hid ho4
        have HB4 := Lib.hid hb4
        clear ho4 hb4
        have lf := vput_len10 (vfold_lt (n := d) hd0 hd1)
        go_wp2_with (at_builtin; refine app_put wr _ rfl (.tmp 22) (.tmp 28) 33 rfl Tryz.underlying33 byte_info B _ v4 _ (vput (vfold d)) (by rfl) (by rfl) HW.out.1 hBr HO4.out HB4.out (by have := HLN.out; omega) (by omega) ?_)
        intro v5 w5 hw5
        have W5 := Lib.hid (HW.out.trans hw5)
        have k1' : w5.cell? ⟨b, off + i * 2 + 1, none⟩ = some (.int .u32 (id : Int)) := ((hw5.below HW.out.1 hBr).cell (p := ⟨b, off + i * 2 + 1, none⟩) hbl).trans k1
        have hB5 := hw5.size hBr
        have hlt5 : b < w5.heap.size := by omega
        clear hw5 HO4 HB4 k0 k1 HW
        go_wp2_with (fail)
        refine (num_any id w5 (by omega)).mono ?_
        rintro e w6 ⟨v6, rfl, ho6, hb6⟩
        have HO6 := Lib.hid ho6
        have HB6 := Lib.hid hb6
        clear ho6 hb6
        have li := vput_len10 (n := id) (by omega)
        go_wp2_with (at_builtin; go_must (refine app_put w5 _ rfl (.tmp 30) (.tmp 37) 33 rfl Tryz.underlying33 byte_info B v5 v6 _ (vput id) (by rfl) (by rfl) W5.out.1 hB5 HO6.out HB6.out (by have := HLN.out; simp only [List.length_append, List.length_map] at this ⊢; omega) (by omega) ?_))
        intro v7 w7 hw7
        have HN := Lib.hid (show ManyI cHit B v bs (xs.map toHit) (i + 1) true v7 w w7 from by
          refine .inl ⟨rfl, ?_, ?_⟩
          · rw [HT.out]
            intro y hy
            rcases List.mem_append.1 hy with hy | hy
            · exact HALL.out y hy
            · simp at hy; rw [hy]; exact HFIT.out
          · rw [HT.out, encN_snoc, cHit_enc]
            have := W5.out.trans hw7
            simpa [List.append_assoc] using this)
        clear hw7 HO6 HB6 W5 HALL k1'
        go_wp2
        go_roundw
        case rel => exact ⟨i + 1, by go_num, by omega, HN.out⟩
        case measure => simp [intOf]; omega
      · have hin' : i = n := by omega
        subst hin'
        have htk : (xs.map toHit).take i = xs.map toHit := List.take_of_length_le (by have := HLB.out; omega)
        have HFIN := Lib.hid (show (cMany cHit).fits (xs.map toHit) ∧ Wrote B v _ (bs ++ (cMany cHit).enc (xs.map toHit)) w wr from by
          have h1 := HALL.out
          have h2 := HW.out
          rw [htk] at h1 h2
          exact ⟨HF.out.2 ⟨by have := HLB.out; omega, h1⟩, by rw [HE.out]; exact h2⟩)
        clear htk
        go_wp2
        go_ret2
        exact .inl ⟨HFIN.out.1, _, rfl, HFIN.out.2⟩
end Go.Proofs.YtemnmjfeljipjaaGreat
