/-
  The document's writers of numbers, flags and texts, by walks over their texts; append of a string.
-/
import Derived.Test.YtemnmjfeljipjaaGreatVh
import Derived.Test.YtemnmjfeljipjaaGreatMl
namespace Go.Proofs.YtemnmjfeljipjaaGreat
open Go.RowKit

set_option maxRecDepth 100000 in
theorem num_any (n : Nat) (w : World) (hn : n ≤ 9223372036854775807) :
    Calls Tryz.prog 41 #[.int .i64 n] w fun e w' => PutsV (vput n) w e w' := by
  have hw : IntKind.u64.wrap (n : Int) = (n : Int) := by rw [IntKind.wrap_u64]; omega
  have HN := Lib.hid hn
  clear hn
  go_enter Tryz.func41, Tryz.ntmps41
  go_wp2_with (fail)
  refine (rput_any n w (by have := HN.out; omega)).mono ?_
  rintro e w2 ⟨v, rfl, ho, hb⟩
  have HO := Lib.hid ho
  have HB := Lib.hid hb
  clear ho hb
  go_wp2
  go_ret
  exact ⟨v, rfl, HO.out, HB.out⟩

set_option maxRecDepth 100000 in
set_option maxHeartbeats 1600000 in
theorem text_any (B : Nat) (v : Value) (bs : List Nat) (s : ByteArray) (w : World) (h : OwnV w B 5 v bs) (hB : B ≤ w.heap.size) (hl : bs.length ≤ 549755813888) (hsz : s.size ≤ maxLen) :
    Calls Tryz.prog 42 #[v, .string s] w fun e w' => WPost cStr B v bs (strB s) w e w' := by
  have HO := Lib.hid h
  have HF := Lib.hid (cStr_fits (strB s) (strB_byte s))
  have HE := Lib.hid (cStr_enc (strB s))
  obtain ⟨n, hn⟩ : ∃ n, s.size = n := ⟨_, rfl⟩
  have HSL := Lib.hid (strB_len s)
  rw [hn] at HSL hsz
  have HSN := Lib.hid hn
  have hsn := hn
  unfold maxLen at hsz
  clear h hn
  by_cases hc : 4096 < n
  · go_enter Tryz.func42, Tryz.ntmps42
    go_wp2
    go_ret2
    exact .inr ⟨fun hf => by have := HF.out.1 hf; have := HSL.out; omega, v, rfl, Kept.refl _ _⟩
  · go_enter Tryz.func42, Tryz.ntmps42
    go_wp2_with (fail)
    refine (num_any n w (by omega)).mono ?_
    rintro e w2 ⟨v2, rfl, ho, hb⟩
    have HO2 := Lib.hid ho
    have HB2 := Lib.hid hb
    clear ho hb
    go_wp2_with (at_builtin; refine app_put w _ rfl (.tmp 10) (.tmp 13) 33 rfl Tryz.underlying33 byte_info B v v2 bs (vput n) (by rfl) (by rfl) HO.out hB HO2.out HB2.out (by omega) (by have := vput_len10 (n := n) (by omega); omega) ?_)
    intro v3 w3 hw3
    have HW3 := Lib.hid hw3
    have hB3 := hw3.size hB
    clear hw3 HO2 HB2
    go_wp2_with (at_builtin; refine app_string _ rfl (.tmp 15) (.tmp 16) 33 9 5 rfl Tryz.underlying33 Tryz.underlying9 byte_info B v3 (bs ++ vput n) (by rfl) HW3.out.1 s (by rfl) (by have := vput_len10 (n := n) (by omega); rw [List.length_append, HSN.out]; omega) hB3 ?_)
    intro v4 w4 hown hg4 hl4
    have HW4 := Lib.hid (show Wrote B v v4 (bs ++ cStr.enc (strB s)) w w4 from by
      refine HW3.out.trans ⟨?_, (Kept.refl _ _).grown hg4 (fun k hk => .inl (mem_ownL.2 hk)), ?_⟩
      · rw [HE.out, HSL.out]
        first | exact hown | (rw [← List.append_assoc]; exact hown)
      · intro k hk
        rcases hl4 with h5 | h5
        · exact .inl (mem_ownL.2 (by rw [← h5]; exact mem_ownL.1 hk))
        · have := mem_ownL.1 hk
          rw [h5] at this
          simp only [Option.some.injEq] at this
          exact .inr (by omega))
    clear hown hg4 hl4 HW3
    go_wp2
    go_ret2
    exact .inl ⟨HF.out.2 (by have := HSL.out; omega), v4, rfl, HW4.out⟩
end Go.Proofs.YtemnmjfeljipjaaGreat
