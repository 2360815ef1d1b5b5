/-
  The document's reader of bytes: vectors and lists of texts, as things of a shape, by walks over their texts.
-/
import Derived.Test.YtkhcoinpplpomaaGreatMf
import Derived.Deep.DeepMust
namespace Go.Proofs.YtkhcoinpplpomaaGreat
open Go.RowKit

/-- What is read: the thing, as V says it of the value; or the error's number, and some thing. -/
def RdS {α : Type} (C : Cod α) (V : World → Value → α → Prop) (g : Nat) (s : List Nat ⊕ Nat) (w : World) (e : Ending) (w' : World) : Prop :=
  Kept [g] w w' ∧ ((∃ l a r v, s = .inl l ∧ C.dec l = .inl (a, r) ∧ e = .returned v ∧ V w' v a ∧ RAt w' g r) ∨
    (∃ k z a, (s = .inr k ∨ ∃ l, s = .inl l ∧ C.dec l = .inr k) ∧ e = .returned z ∧ V w' z a ∧ RBad w' g k))
theorem RState.kept {g : Nat} {s : List Nat ⊕ Nat} {F : List Nat} {w w' : World} (h : RState w g s) (hk : Kept F w w') (hF : ∀ k ∈ F, g < k) : RState w' g s := by
  have hg : g ∉ F := fun hx => by have := hF g hx; omega
  rcases s with l | k
  · obtain ⟨a, n, c, hb, hr, hn⟩ := h
    refine ⟨a, n, c, hk.blk hb hg, ⟨hr.len, hr.small, hr.byte, hr.nilOk, hr.room, ?_⟩, hn⟩
    rcases hr.cells with h0 | ⟨b, off, ha, hlt, hc⟩
    · exact .inl h0
    · by_cases h0 : n = 0
      · exact .inl h0
      · have hbg := hn (by omega) _ ha
        refine .inr ⟨b, off, ha, Nat.lt_of_lt_of_le hlt hk.size, fun i hi => ?_⟩
        rw [hk.cell (p := ⟨b, off + i, none⟩) hlt (fun hx => by have := hF b hx; simp only at hbg; omega)]
        exact hc i hi
  · obtain ⟨v, hb, hk0⟩ := h
    exact ⟨v, hk.blk hb hg, hk0⟩
theorem RAt.byte {w : World} {g : Nat} {l : List Nat} (h : RAt w g l) : ∀ b ∈ l, b < 256 := by
  obtain ⟨_, _, _, _, hr, _⟩ := h
  exact hr.byte

set_option maxRecDepth 100000 in
set_option maxHeartbeats 6400000 in
theorem rvec_sh (g : Nat) (s : List Nat ⊕ Nat) (w : World) (h : RState w g s) (hgl : g < w.heap.size) :
    Calls Tryz.prog 92 #[.pointer (some ⟨g, 0, none⟩)] w fun e w' => RdS cVec (IsSl w.heap.size (.int .i32) 4 (fun xs => xs)) g s w e w' := by
  have HS := Lib.hid h
  clear h
  go_enter Tryz.func92, Tryz.ntmps92
  go_wp2_with (fail)
  refine (rnum_st 128 g s w HS.out (by decide)).mono ?_
  rintro e w2 ⟨hk, ⟨l, n, r, v, hl, hd, rfl, hv, hr⟩ | ⟨k, z, hl, rfl, hz, hbad⟩⟩
  · have hn := cNum_le hd
    rw [IsU64] at hv
    subst hv
    have HD := Lib.hid (cMany_dec (cInt (-2147483648) 2147483647) l)
    rw [hd] at HD
    have HL := Lib.hid hl
    have HK := Lib.hid hk
    have HR := Lib.hid hr
    have hwn : IntKind.i64.wrap (n : Int) = (n : Int) := by rw [IntKind.wrap_i64]; omega
    clear hd hk hl hr
    go_wp2_with (fail)
    go_loopw [3, 5] (fun s3 s5 wr => ∃ (i : Nat) (st : List Nat ⊕ Nat) (xs : List Int), s5 = .int .i64 i ∧ i ≤ n ∧ Hid (RState wr g st) ∧ Hid (ManyR (cInt (-2147483648) 2147483647) n i r xs st) ∧ Hid (OwnR w.heap.size wr 21 (.int .i32) s3 xs) ∧ Hid (xs.length ≤ i) ∧ Hid (Kept [g] w wr)) (fun _ s5 _ => n - (intOf s5).toNat)
    case atStart => exact ⟨0, .inl r, [], rfl, by omega, HR.out, ManyR.start _ n r, OwnR.nil _ _ _ _, by simp [Hid], HK.out⟩
    case round =>
      clear HK HR
      obtain ⟨i, st, xs, rfl, hi, HST, HM, HO, HLN, HK⟩ := hrel
      have hwr := HK.out.size
      rcases st with q | k
      · have hat : RAt wr g q := HST.out
        obtain ⟨a, m, c, c0, c1, f0, f1, hlt, _, _, _⟩ := hat.cells
        clear hat f0 f1 c0
        by_cases hin : i < n
        · go_wp2_with (fail)
          refine (rwhole_st (-2147483648) 2147483647 g (.inl q) wr HST.out).mono ?_
          rintro e w4 ⟨hk4, ⟨l4, x, r4, v4, hl4, hd4, rfl, hx, hr4⟩ | ⟨k, z, hl4, rfl, rfl, hbad⟩⟩
          · have hq : l4 = q := by injection hl4 with h; exact h.symm
            subst hq
            rw [IsI64] at hx
            subst hx
            have hrg := cInt_range (RAt.byte HST.out) hd4
            have O4 := Lib.hid (HO.out.kept hk4 (by simp; omega))
            have K4 := Lib.hid (HK.out.trans hk4 (Grows.refl _ _))
            have h4s := K4.out.size
            have M4 := Lib.hid (HM.out.ok hin hd4)
            have R4 := Lib.hid (show RState w4 g (.inl r4) from hr4)
            have hln := HLN.out
            have X4 := Lib.hid (show Rd (fun k => w.heap.size ≤ k ∧ Value.ownBlock u3 ≠ some k) w4 (.int .i32) [.int .i32 x] x from Rd.int_mk rfl (i32_mk hrg))
            have hwx : IntKind.i32.wrap x = x := by rw [IntKind.wrap_i32]; omega
            clear hk4 hl4 hd4 hr4 HO HM HST HK c1
            go_wp2_with (at_builtin; go_must (refine app_row (e := .int .i32) w4 rfl (.tmp 21) (.tmp 25) 29 rfl Tryz.underlying29 (.int .i32 0) 4 i32_info rfl (by decide) x [.int .i32 x] (by rfl) (by rfl) O4.out X4.out h4s (show (List.length (α := Int) xs + 1) * 4 ≤ 140737488355328 by omega) (show List.length (α := Int) xs ≤ 2000000 by omega) ?_))
            intro v5 w5 ho5 hk5 hg5
            have O5 := Lib.hid ho5
            have hown := fun k (hk : k ∈ ownB u3) => (O4.out.lt k (mem_ownB.1 hk)).1
            have K5 := Lib.hid (K4.out.trans hk5 (fun k hk => .inr (hown k hk)))
            have R5 := Lib.hid (R4.out.kept hk5 (fun k hk => by have := hown k hk; omega))
            clear ho5 hk5 hg5 hown O4 K4 R4
            go_wp2
            go_roundw
            case rel => exact ⟨i + 1, .inl r4, xs ++ [x], by go_num, by omega, R5.out, M4.out, O5.out, by simp [Hid]; omega, K5.out⟩
            case measure => simp [intOf]; omega
          · have hdk : (cInt (-2147483648) 2147483647).dec q = .inr k := by
              rcases hl4 with h | ⟨l4, h, hd4⟩
              · cases h
              · injection h with h
                rw [h]
                exact hd4
            have O4 := Lib.hid (HO.out.kept hk4 (by simp; omega))
            have K4 := Lib.hid (HK.out.trans hk4 (Grows.refl _ _))
            have h4s := K4.out.size
            have M4 := Lib.hid (show ManyR (cInt (-2147483648) 2147483647) n (i + 1) r (xs ++ [0]) (.inr k) from HM.out.bad hin hdk)
            have R4 := Lib.hid (show RState w4 g (.inr k) from hbad)
            have hln := HLN.out
            have X4 := Lib.hid (show Rd (fun k => w.heap.size ≤ k ∧ Value.ownBlock u3 ≠ some k) w4 (.int .i32) [.int .i32 0] (0 : Int) from Rd.int_mk rfl (i32_mk (by decide)))
            clear hk4 hl4 hdk hbad HO HM HST HK c1
            go_wp2_with (at_builtin; go_must (refine app_row (e := .int .i32) w4 rfl (.tmp 21) (.tmp 25) 29 rfl Tryz.underlying29 (.int .i32 0) 4 i32_info rfl (by decide) (0 : Int) [.int .i32 0] (by rfl) (by rfl) O4.out X4.out h4s (show (List.length (α := Int) xs + 1) * 4 ≤ 140737488355328 by omega) (show List.length (α := Int) xs ≤ 2000000 by omega) ?_))
            intro v5 w5 ho5 hk5 hg5
            have O5 := Lib.hid ho5
            have hown := fun k (hk : k ∈ ownB u3) => (O4.out.lt k (mem_ownB.1 hk)).1
            have K5 := Lib.hid (K4.out.trans hk5 (fun k hk => .inr (hown k hk)))
            have R5 := Lib.hid (R4.out.kept hk5 (fun k hk => by have := hown k hk; omega))
            clear ho5 hk5 hg5 hown O4 K4 R4
            go_wp2
            go_roundw
            case rel => exact ⟨i + 1, .inr k, xs ++ [0], by go_num, by omega, R5.out, M4.out, O5.out, by simp [Hid]; omega, K5.out⟩
            case measure => simp [intOf]; omega
        · have hin' : i = n := by omega
          subst hin'
          have HE := Lib.hid (show cVec.dec l = .inl (xs, q) from HD.out.trans HM.out.fin)
          have HR := Lib.hid (HO.out.rd 4 (by decide) (show List.length (α := Int) xs * 4 ≤ 140737488351232 by have := HLN.out; omega))
          go_wp2
          go_ret
          exact ⟨HK.out, .inl ⟨l, _, q, _, HL.out, HE.out, rfl, ⟨xs, HR.out, rfl⟩, HST.out⟩⟩
      · have hbad : RBad wr g k := HST.out
        obtain ⟨c1, hlt, e1, e2⟩ := hbad.cells
        have HE := Lib.hid (show cVec.dec l = .inr k from HD.out.trans HM.out)
        have HR := Lib.hid (HO.out.rd 4 (by decide) (show List.length (α := Int) xs * 4 ≤ 140737488351232 by have := HLN.out; omega))
        clear hbad
        by_cases hin : i < n
        all_goals
          go_wp2
          go_ret
          exact ⟨HK.out, .inr ⟨k, _, xs, .inr ⟨l, HL.out, HE.out⟩, rfl, ⟨xs, HR.out, rfl⟩, HST.out⟩⟩
  · subst hz
    have HK := Lib.hid hk
    have HBAD := Lib.hid hbad
    have HL := Lib.hid (show s = .inr k ∨ ∃ l, s = .inl l ∧ cVec.dec l = .inr k from by
      rcases hl with hl | ⟨l, hl, hd⟩
      · exact .inl hl
      · refine .inr ⟨l, hl, ?_⟩
        have := cMany_dec (cInt (-2147483648) 2147483647) l
        rw [hd] at this
        exact this)
    have HR := Lib.hid ((OwnR.nil w.heap.size w2 21 (.int .i32)).rd 4 (by decide) (by simp))
    clear hk hbad hl
    go_wp2
    go_rounds 1
    go_wp2
    go_ret
    exact ⟨HK.out, .inr ⟨k, _, [], HL.out, rfl, ⟨[], HR.out, rfl⟩, HBAD.out⟩⟩
set_option maxRecDepth 100000 in
set_option maxHeartbeats 6400000 in
theorem rtexts_sh (g : Nat) (s : List Nat ⊕ Nat) (w : World) (h : RState w g s) (hgl : g < w.heap.size) :
    Calls Tryz.prog 93 #[.pointer (some ⟨g, 0, none⟩)] w fun e w' => RdS cStrs (IsSl w.heap.size .str 16 toTags) g s w e w' := by
  have HS := Lib.hid h
  clear h
  go_enter Tryz.func93, Tryz.ntmps93
  go_wp2_with (fail)
  refine (rnum_st 128 g s w HS.out (by decide)).mono ?_
  rintro e w2 ⟨hk, ⟨l, n, r, v, hl, hd, rfl, hv, hr⟩ | ⟨k, z, hl, rfl, hz, hbad⟩⟩
  · have hn := cNum_le hd
    rw [IsU64] at hv
    subst hv
    have HD := Lib.hid (cMany_dec cStr l)
    rw [hd] at HD
    have HL := Lib.hid hl
    have HK := Lib.hid hk
    have HR := Lib.hid hr
    have hwn : IntKind.i64.wrap (n : Int) = (n : Int) := by rw [IntKind.wrap_i64]; omega
    clear hd hk hl hr
    go_wp2_with (fail)
    go_loopw [3, 5] (fun s3 s5 wr => ∃ (i : Nat) (st : List Nat ⊕ Nat) (xs : List ByteArray), s5 = .int .i64 i ∧ i ≤ n ∧ Hid (RState wr g st) ∧ Hid (ManyR cStr n i r (toTags xs) st) ∧ Hid (OwnR w.heap.size wr 9 .str s3 xs) ∧ Hid (xs.length ≤ i) ∧ Hid (Kept [g] w wr)) (fun _ s5 _ => n - (intOf s5).toNat)
    case atStart => exact ⟨0, .inl r, [], rfl, by omega, HR.out, ManyR.start _ n r, OwnR.nil _ _ _ _, by simp [Hid], HK.out⟩
    case round =>
      clear HK HR
      obtain ⟨i, st, xs, rfl, hi, HST, HM, HO, HLN, HK⟩ := hrel
      have hwr := HK.out.size
      rcases st with q | k
      · have hat : RAt wr g q := HST.out
        obtain ⟨a, m, c, c0, c1, f0, f1, hlt, _, _, _⟩ := hat.cells
        clear hat f0 f1 c0
        by_cases hin : i < n
        · go_wp2_with (fail)
          refine (rtext_st g (.inl q) wr HST.out).mono ?_
          rintro e w4 ⟨hk4, ⟨l4, tx, r4, v4, hl4, hd4, rfl, ⟨x, rfl, hx⟩, hr4⟩ | ⟨k, z, hl4, rfl, rfl, hbad⟩⟩
          · have hq : l4 = q := by injection hl4 with h; exact h.symm
            subst hq
            have hxs : x.size ≤ 140737488351232 := by
              have hf := (cStr.only l4 tx r4 (RAt.byte HST.out) hd4).1
              have h1 : tx.length ≤ 4096 := hf.1.1
              have h2 := strB_len x
              rw [hx] at h2
              omega
            have O4 := Lib.hid (HO.out.kept hk4 (by simp; omega))
            have K4 := Lib.hid (HK.out.trans hk4 (Grows.refl _ _))
            have h4s := K4.out.size
            have M4 := Lib.hid (show ManyR cStr n (i + 1) r (toTags (xs ++ [x])) (.inl r4) from by
              have := HM.out.ok hin hd4
              rw [← hx] at this
              simpa [toTags] using this)
            have R4 := Lib.hid (show RState w4 g (.inl r4) from hr4)
            have hln := HLN.out
            have X4 := Lib.hid (show Rd (fun k => w.heap.size ≤ k ∧ Value.ownBlock u3 ≠ some k) w4 .str [.string x] x from Rd.str_mk rfl hxs)
            clear hk4 hl4 hd4 hr4 hx HO HM HST HK c1
            go_wp2_with (at_builtin; go_must (refine app_row (e := .str) w4 rfl (.tmp 21) (.tmp 24) 30 rfl Tryz.underlying30 (.string ⟨#[]⟩) 16 string_info rfl (by decide) x [.string x] (by rfl) (by rfl) O4.out X4.out h4s (show (List.length (α := ByteArray) xs + 1) * 16 ≤ 140737488355328 by omega) (show List.length (α := ByteArray) xs ≤ 2000000 by omega) ?_))
            intro v5 w5 ho5 hk5 hg5
            have O5 := Lib.hid ho5
            have hown := fun k (hk : k ∈ ownB u3) => (O4.out.lt k (mem_ownB.1 hk)).1
            have K5 := Lib.hid (K4.out.trans hk5 (fun k hk => .inr (hown k hk)))
            have R5 := Lib.hid (R4.out.kept hk5 (fun k hk => by have := hown k hk; omega))
            clear ho5 hk5 hg5 hown O4 K4 R4
            go_wp2
            go_roundw
            case rel => exact ⟨i + 1, .inl r4, xs ++ [x], by go_num, by omega, R5.out, M4.out, O5.out, by simp [Hid]; omega, K5.out⟩
            case measure => simp [intOf]; omega
          · have hdk : cStr.dec q = .inr k := by
              rcases hl4 with h | ⟨l4, h, hd4⟩
              · cases h
              · injection h with h
                rw [h]
                exact hd4
            have O4 := Lib.hid (HO.out.kept hk4 (by simp; omega))
            have K4 := Lib.hid (HK.out.trans hk4 (Grows.refl _ _))
            have h4s := K4.out.size
            have M4 := Lib.hid (show ManyR cStr n (i + 1) r (toTags (xs ++ [(⟨#[]⟩ : ByteArray)])) (.inr k) from HM.out.bad hin hdk)
            have R4 := Lib.hid (show RState w4 g (.inr k) from hbad)
            have hln := HLN.out
            have X4 := Lib.hid (show Rd (fun k => w.heap.size ≤ k ∧ Value.ownBlock u3 ≠ some k) w4 .str [.string ⟨#[]⟩] (⟨#[]⟩ : ByteArray) from Rd.str_mk rfl (by decide))
            clear hk4 hl4 hdk hbad HO HM HST HK c1
            go_wp2_with (at_builtin; go_must (refine app_row (e := .str) w4 rfl (.tmp 21) (.tmp 24) 30 rfl Tryz.underlying30 (.string ⟨#[]⟩) 16 string_info rfl (by decide) (⟨#[]⟩ : ByteArray) [.string ⟨#[]⟩] (by rfl) (by rfl) O4.out X4.out h4s (show (List.length (α := ByteArray) xs + 1) * 16 ≤ 140737488355328 by omega) (show List.length (α := ByteArray) xs ≤ 2000000 by omega) ?_))
            intro v5 w5 ho5 hk5 hg5
            have O5 := Lib.hid ho5
            have hown := fun k (hk : k ∈ ownB u3) => (O4.out.lt k (mem_ownB.1 hk)).1
            have K5 := Lib.hid (K4.out.trans hk5 (fun k hk => .inr (hown k hk)))
            have R5 := Lib.hid (R4.out.kept hk5 (fun k hk => by have := hown k hk; omega))
            clear ho5 hk5 hg5 hown O4 K4 R4
            go_wp2
            go_roundw
            case rel => exact ⟨i + 1, .inr k, xs ++ [(⟨#[]⟩ : ByteArray)], by go_num, by omega, R5.out, M4.out, O5.out, by simp [Hid]; omega, K5.out⟩
            case measure => simp [intOf]; omega
        · have hin' : i = n := by omega
          subst hin'
          have HE := Lib.hid (show cStrs.dec l = .inl (toTags xs, q) from HD.out.trans HM.out.fin)
          have HR := Lib.hid (HO.out.rd 16 (by decide) (show List.length (α := ByteArray) xs * 16 ≤ 140737488351232 by have := HLN.out; omega))
          go_wp2
          go_ret
          exact ⟨HK.out, .inl ⟨l, _, q, _, HL.out, HE.out, rfl, ⟨xs, HR.out, rfl⟩, HST.out⟩⟩
      · have hbad : RBad wr g k := HST.out
        obtain ⟨c1, hlt, e1, e2⟩ := hbad.cells
        have HE := Lib.hid (show cStrs.dec l = .inr k from HD.out.trans HM.out)
        have HR := Lib.hid (HO.out.rd 16 (by decide) (show List.length (α := ByteArray) xs * 16 ≤ 140737488351232 by have := HLN.out; omega))
        clear hbad
        by_cases hin : i < n
        all_goals
          go_wp2
          go_ret
          exact ⟨HK.out, .inr ⟨k, _, _, .inr ⟨l, HL.out, HE.out⟩, rfl, ⟨xs, HR.out, rfl⟩, HST.out⟩⟩
  · subst hz
    have HK := Lib.hid hk
    have HBAD := Lib.hid hbad
    have HL := Lib.hid (show s = .inr k ∨ ∃ l, s = .inl l ∧ cStrs.dec l = .inr k from by
      rcases hl with hl | ⟨l, hl, hd⟩
      · exact .inl hl
      · refine .inr ⟨l, hl, ?_⟩
        have := cMany_dec cStr l
        rw [hd] at this
        exact this)
    have HR := Lib.hid ((OwnR.nil w.heap.size w2 9 .str).rd 16 (by decide) (by simp))
    clear hk hbad hl
    go_wp2
    go_rounds 1
    go_wp2
    go_ret
    exact ⟨HK.out, .inr ⟨k, _, _, HL.out, rfl, ⟨[], HR.out, rfl⟩, HBAD.out⟩⟩
end Go.Proofs.YtkhcoinpplpomaaGreat
