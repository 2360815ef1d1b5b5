/-
  The document's writer of changes, by a walk over its text.
-/
import Derived.Test.YtemnmjfeljipjaaGreatMi
import Derived.Deep.DeepMust
namespace Go.Proofs.YtemnmjfeljipjaaGreat
open Go.RowKit

set_option maxRecDepth 100000 in
set_option maxHeartbeats 6400000 in
theorem changes_any (B : Nat) (v : Value) (bs : List Nat) (a : Option Addr) (n c : Nat) (xs : List shChange.T) (w : World) (h : OwnV w B 5 v bs) (hB : B ≤ w.heap.size) (hl : bs.length ≤ 68719476736) (hx : Rd (· < B) w shChanges [.slice a n c] xs) :
    Calls Tryz.prog 19 #[v, .slice a n c] w fun e w' => WPost (cMany cChange) B v bs (xs.map toChange) w e w' := by
  have HO := Lib.hid h
  have HX := Lib.hid hx
  obtain ⟨_, _, _, hcs, hlen, hsm, _⟩ := Rd.slice_is (e := shChange) hx
  simp only [List.cons.injEq, Value.slice.injEq, and_true] at hcs
  obtain ⟨rfl, rfl, rfl⟩ := hcs
  have HL := hlen
  have HF := Lib.hid (cMany_fits cChange (xs.map toChange))
  have HE := Lib.hid (cMany_enc cChange (xs.map toChange))
  have HLB := Lib.hid (show (xs.map toChange).length = n by rw [List.length_map]; exact hlen.out)
  clear h hx hlen
  by_cases hc : 128 < n
  · go_enter Tryz.func19, Tryz.ntmps19
    go_wp2
    go_ret2
    exact .inr ⟨fun hf => by have := (HF.out.1 hf).1; have := HLB.out; omega, v, rfl, Kept.refl _ _⟩
  · go_enter Tryz.func19, Tryz.ntmps19
    go_wp2_with (fail)
    refine (num_any n w (by omega)).mono ?_
    rintro e w2 ⟨v2, rfl, ho, hb⟩
    have HO2 := Lib.hid ho
    have HB2 := Lib.hid hb
    clear ho hb
    go_wp2_with (at_builtin; go_must (refine app_put w _ rfl (.tmp 13) (.tmp 16) 33 rfl Tryz.underlying33 byte_info B v v2 bs (vput n) (by rfl) (by rfl) HO.out hB HO2.out HB2.out (by omega) (by have := vput_len10 (n := n) (by omega); omega) ?_))
    intro v3 w3 hw3
    have HW3 := Lib.hid hw3
    clear hw3 HO2 HB2
    go_wp2_with (fail)
    go_loopw [0, 6] (fun s0 s6 wr => ∃ i : Nat, s6 = .int .i64 i ∧ i ≤ n ∧ Hid (ManyI cChange B v bs (xs.map toChange) i true s0 w wr)) (fun _ s6 _ => n - (intOf s6).toNat)
    case atStart => exact ⟨0, rfl, by omega, .inl ⟨rfl, by simp, by rw [HLB.out]; simpa [encN] using HW3.out⟩⟩
    case round =>
      clear HW3
      obtain ⟨i, rfl, hi, HI⟩ := hrel
      obtain ⟨hall, hw⟩ := HI.out.yes
      have HALL := Lib.hid hall
      have HW := Lib.hid hw
      have hBr := hw.size hB
      have HRr := Lib.hid (HX.out.under (hw.below HO.out hB))
      clear hall hw HI
      by_cases hin : i < n
      · obtain ⟨b, off, x, g, id, vec, tags, a1, n1, d1, a2, n2, d2, rfl, hbl, hlt, hget, hto, hid, HRI, E1, E2, l1, l2, k0, k1, k2, k3⟩ := rd_change_at HRr.out i hin
        have hgetm : (xs.map toChange)[i]? = some ⟨g, ⟨id, vec, toTags tags⟩⟩ := by rw [List.getElem?_map, hget, Option.map_some, hto]
        have HT := Lib.hid (show (xs.map toChange).take (i + 1) = (xs.map toChange).take i ++ [⟨g, ⟨id, vec, toTags tags⟩⟩] by rw [List.take_add_one, hgetm]; rfl)
        have HMEM := Lib.hid (List.mem_of_getElem? hgetm)
        have HLN := Lib.hid (many_len cChange 800000 cChange_len ((xs.map toChange).take i) HALL.out (xs.map toChange).length (by rw [List.length_take]; omega) bs 137438950000 (by rw [HLB.out]; omega) (by omega))
        have hwi : IntKind.i64.wrap (id : Int) = (id : Int) := by rw [IntKind.wrap_i64]; omega
        have HLF := Lib.hid (cFlag_len g)
        clear hget hgetm hto
        go_wp2_with (fail)
        refine (flag_any g wr).mono ?_
        rintro e w4 ⟨v4, rfl, ho4, hb4⟩
        have HO4 := Lib.hid ho4
        have HB4 := Lib.hid hb4
        clear ho4 hb4
        go_wp2_with (at_builtin; go_must (refine app_put wr _ rfl (.tmp 24) (.tmp 30) 33 rfl Tryz.underlying33 byte_info B _ v4 _ (cFlag.enc g) (by rfl) (by rfl) HW.out.1 hBr HO4.out HB4.out (by have := HLN.out; simp only [List.length_append, List.length_map] at this ⊢; omega) (by have := HLF.out; omega) ?_))
        intro v5 w5 hw5
        have W5 := Lib.hid (HW.out.trans hw5)
        have L5 := Lib.hid (show ((bs ++ (vput (xs.map toChange).length ++ encN cChange ((xs.map toChange).take i))) ++ cFlag.enc g).length ≤ 137438950001 from by
          have h1 := HLN.out
          have h2 := HLF.out
          rw [List.length_append]
          omega)
        have hb5 := hw5.below HW.out.1 hBr
        have k0' : w5.cell? ⟨b, off + i * 4, none⟩ = some (.bool g) := (hb5.cell (p := ⟨b, off + i * 4, none⟩) hbl).trans k0
        have k1' : w5.cell? ⟨b, off + i * 4 + 1, none⟩ = some (.int .u32 (id : Int)) := (hb5.cell (p := ⟨b, off + i * 4 + 1, none⟩) hbl).trans k1
        have k2' : w5.cell? ⟨b, off + i * 4 + 2, none⟩ = some (.slice a1 n1 d1) := (hb5.cell (p := ⟨b, off + i * 4 + 2, none⟩) hbl).trans k2
        have k3' : w5.cell? ⟨b, off + i * 4 + 3, none⟩ = some (.slice a2 n2 d2) := (hb5.cell (p := ⟨b, off + i * 4 + 3, none⟩) hbl).trans k3
        have HRI5 := Lib.hid (HRI.out.under hb5)
        have hB5 := hw5.size hBr
        have hlt5 : b < w5.heap.size := by omega
        clear hw5 HO4 HB4 k0 k1 k2 k3 HW hb5 HRI hlt
        cases g
        · go_wp2_with (fail)
          refine (item_any B v5 _ _ _ _ _ w5 W5.out.1 hB5 (by have := L5.out; simp only [List.length_append, List.length_map] at this ⊢; omega) HRI5.out).mono ?_
          rintro e w6 (⟨hf, v6, rfl, hw6⟩ | ⟨hf, v6, rfl, hw6⟩)
          · have HN := Lib.hid (show ManyI cChange B v bs (xs.map toChange) (i + 1) true v6 w w6 from by
              refine .inl ⟨rfl, ?_, ?_⟩
              · rw [HT.out]
                intro y hy
                rcases List.mem_append.1 hy with hy | hy
                · exact HALL.out y hy
                · simp at hy; rw [hy]; exact (cChange_item _).2 hf
              · rw [HT.out, encN_snoc, cChange_enc_item]
                have := W5.out.trans hw6
                rw [toItem_id] at this
                simpa [List.append_assoc] using this)
            clear hf hw6 k0' k1' k2' k3' W5 HALL
            go_wp2
            go_roundw
            case rel => exact ⟨i + 1, by go_num, by omega, HN.out⟩
            case measure => simp [intOf]; omega
          · have HNF := Lib.hid (show ¬ (cMany cChange).fits (xs.map toChange) from fun hh => hf ((cChange_item _).1 ((HF.out.1 hh).2 _ HMEM.out)))
            have W6 := Lib.hid (W5.out.lost hw6.out)
            clear hf hw6 k0' k1' k2' k3'
            go_wp2
            go_ret2
            exact .inr ⟨HNF.out, _, rfl, W6⟩
        · go_wp2_with (fail)
          refine (num_any id w5 (by omega)).mono ?_
          rintro e w6 ⟨v6, rfl, ho6, hb6⟩
          have HO6 := Lib.hid ho6
          have HB6 := Lib.hid hb6
          clear ho6 hb6
          have li := vput_len10 (n := id) (by omega)
          go_wp2_with (at_builtin; go_must (refine app_put w5 _ rfl (.tmp 37) (.tmp 45) 33 rfl Tryz.underlying33 byte_info B v5 v6 _ (vput id) (by rfl) (by rfl) W5.out.1 hB5 HO6.out HB6.out (by have := L5.out; simp only [List.length_append, List.length_map] at this ⊢; omega) (by omega) ?_))
          intro v7 w7 hw7
          have W7 := Lib.hid (W5.out.trans hw7)
          have hb7 := hw7.below W5.out.1 hB5
          have k2 : w7.cell? ⟨b, off + i * 4 + 2, none⟩ = some (.slice a1 n1 d1) := (hb7.cell (p := ⟨b, off + i * 4 + 2, none⟩) hbl).trans k2'
          have k3 : w7.cell? ⟨b, off + i * 4 + 3, none⟩ = some (.slice a2 n2 d2) := (hb7.cell (p := ⟨b, off + i * 4 + 3, none⟩) hbl).trans k3'
          have hlt7 : b < w7.heap.size := by have := hw7.size hB5; omega
          clear hw7 HO6 HB6 W5 k0' k1' k2' k3' hb7
          by_cases hv : 0 < n1
          · have HNF := Lib.hid (show ¬ (cMany cChange).fits (xs.map toChange) from fun hh => by
              have h1 := ((cChange_gone _).1 ((HF.out.1 hh).2 _ HMEM.out)).2.1
              have h2 := E1.out
              simp only at h1
              rw [h1] at h2
              simp at h2
              omega)
            go_wp2
            go_ret2
            exact .inr ⟨HNF.out, v7, rfl, W7.out.2.1⟩
          by_cases hg : 0 < n2
          · have HNF := Lib.hid (show ¬ (cMany cChange).fits (xs.map toChange) from fun hh => by
              have h1 := ((cChange_gone _).1 ((HF.out.1 hh).2 _ HMEM.out)).2.2
              have h2 := E2.out
              simp only [toTags, List.map_eq_nil_iff] at h1
              rw [h1] at h2
              simp at h2
              omega)
            go_wp2
            go_ret2
            exact .inr ⟨HNF.out, v7, rfl, W7.out.2.1⟩
          have HN := Lib.hid (show ManyI cChange B v bs (xs.map toChange) (i + 1) true v7 w w7 from by
            refine .inl ⟨rfl, ?_, ?_⟩
            · rw [HT.out]
              intro y hy
              rcases List.mem_append.1 hy with hy | hy
              · exact HALL.out y hy
              · simp at hy
                rw [hy]
                refine (cChange_gone _).2 ⟨hid, ?_, ?_⟩
                · exact List.eq_nil_of_length_eq_zero (show vec.length = 0 by have := E1.out; omega)
                · have : tags = [] := List.eq_nil_of_length_eq_zero (by have := E2.out; omega)
                  rw [this]
                  rfl
            · rw [HT.out, encN_snoc, cChange_enc_gone]
              simpa [List.append_assoc] using W7.out)
          clear W7 HALL
          go_wp2
          go_roundw
          case rel => exact ⟨i + 1, by go_num, by omega, HN.out⟩
          case measure => simp [intOf]; omega
      · have hin' : i = n := by omega
        subst hin'
        have htk : (xs.map toChange).take i = xs.map toChange := List.take_of_length_le (by have := HLB.out; omega)
        have HFIN := Lib.hid (show (cMany cChange).fits (xs.map toChange) ∧ Wrote B v _ (bs ++ (cMany cChange).enc (xs.map toChange)) w wr from by
          have h1 := HALL.out
          have h2 := HW.out
          rw [htk] at h1 h2
          exact ⟨HF.out.2 ⟨by have := HLB.out; omega, h1⟩, by rw [HE.out]; exact h2⟩)
        clear htk
        go_wp2
        go_ret2
        exact .inl ⟨HFIN.out.1, _, rfl, HFIN.out.2⟩
end Go.Proofs.YtemnmjfeljipjaaGreat
