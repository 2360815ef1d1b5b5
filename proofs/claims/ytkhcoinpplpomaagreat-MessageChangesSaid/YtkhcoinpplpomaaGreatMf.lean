/-
  The document's reader of bytes: lists of texts, by a walk over its text.
-/
import Derived.Test.YtkhcoinpplpomaaGreatMe
import Derived.Test.YtkhcoinpplpomaaGreatGs
import Derived.Handy
namespace Go.Proofs.YtkhcoinpplpomaaGreat
open Go.RowKit
theorem OwnS.kept1 {F : List Nat} {w w' : World} {B : Nat} {t : TypeId} {v : Value} {ss : List ByteArray} (h : OwnS w B t v ss) (hk : Kept F w w') (hF : ∀ k, v.ownBlock = some k → k ∉ F) : OwnS w' B t v ss := hk.own h hF
/-- append(v, p), v a row of strings of the call's own. -/
theorem app_str1 {ops : Array Oper} {rest : List Oper} {o : Oper} {act : Act} {Q : Exit → Act → World → Prop} (w : World) (hg : o.guard = none) (s x : Operand)
    (hop : o.op = .call { callee := .builtin .append, args := #[s, x], argTypes := #[30, 30] }) (B : Nat) (v : Value) (zs : List ByteArray) (p : ByteArray) (hs : act.eval s = v)
    (hx : act.eval x = .slice (some ⟨w.heap.size, 0, none⟩) 1 1) (hown : OwnS w B 9 v zs) (hB : B ≤ w.heap.size) (hl : zs.length ≤ 2000000)
    (K : ∀ v' w', OwnS w' B 9 v' (zs ++ [p]) → (∀ w1, Below B w1 w → Below B w1 w') → (∀ F w1, Kept F w1 w → w1.heap.size ≤ B → Kept F w1 w') → (∀ k, k < w.heap.size → some k ≠ v.ownBlock → w'.heap[k]? = w.heap[k]?) → wpList Tryz.prog ops Q rest (act.put o.dst v') w') :
    wpList Tryz.prog ops Q (o :: rest) act (w.alloc (.cells #[.string p] 9)) := by
  have hr := SReads.built w [p] 9 (by simp)
  refine app_strs _ hg s x 30 9 hop Tryz.underlying30 string_info B v zs hs (World.ownsRow.alloc hown _) _ 1 1 [p] hx hr (by omega) (by simp; omega) ?_
  intro v' w' h1 h2
  refine K v' w' h1 (fun w1 hb => (hb.alloc hB _).grown h2 (by simp; omega) (fun k hk => (hown.lt k hk).1)) (fun F w1 hk hw => (hk.alloc _).grown h2 (fun k hk2 => .inr (by have := (hown.lt k hk2).1; omega))) fun k hk hne => ?_
  rw [h2.block k (by simp; omega) hne, Below.heap_alloc _ _ _ hk]
def IsStrs (B : Nat) (w : World) (v : Value) (a : List (List Nat)) : Prop := ∃ ss, OwnS w B 9 v ss ∧ ss.map strB = a ∧ ∀ s ∈ ss, s.size ≤ maxLen

set_option maxRecDepth 100000 in
set_option maxHeartbeats 6400000 in
theorem rtexts_st (g : Nat) (s : List Nat ⊕ Nat) (w : World) (h : RState w g s) (hgl : g < w.heap.size) :
    Calls Tryz.prog 93 #[.pointer (some ⟨g, 0, none⟩)] w fun e w' => RdPost cStrs (IsStrs w.heap.size) (fun _ => True) g s w e w' := by
  have HS := Lib.hid h
  clear h
  go_enter Tryz.func93, Tryz.ntmps93
  go_wp2_with (fail)
  refine (rnum_st 128 g s w HS.out (by decide)).mono ?_
  rintro e w2 ⟨hk, ⟨l, n, r, v, hl, hd, rfl, hv, hr⟩ | ⟨k, z, hl, rfl, hz, hbad⟩⟩
  · have hn := cNum_le hd
    rw [IsU64] at hv
    subst hv
    have HD := Lib.hid (cMany_dec cStr l)
    rw [hd] at HD
    have HL := Lib.hid hl
    have HK := Lib.hid hk
    have HR := Lib.hid hr
    have hwn : IntKind.i64.wrap (n : Int) = (n : Int) := by rw [IntKind.wrap_i64]; omega
    clear hd hk hl hr
    go_wp2_with (fail)
    go_loopw [3, 5] (fun s3 s5 wr => ∃ (i : Nat) (st : List Nat ⊕ Nat) (ss : List ByteArray), s5 = .int .i64 i ∧ i ≤ n ∧ Hid (RState wr g st) ∧ Hid (ManyR cStr n i r (ss.map strB) st) ∧ Hid (OwnS wr w.heap.size 9 s3 ss) ∧ Hid (ss.length ≤ i) ∧ Hid (∀ x ∈ ss, x.size ≤ maxLen) ∧ Hid (Kept [g] w wr)) (fun _ s5 _ => n - (intOf s5).toNat)
    case atStart => exact ⟨0, .inl r, [], rfl, by omega, HR.out, ManyR.start cStr n r, OwnS.nil _ _ _, by simp [Hid], by simp [Hid], HK.out⟩
    case round =>
      clear HK HR
      obtain ⟨i, st, ss, rfl, hi, HST, HM, HO, HLN, HZ, HK⟩ := hrel
      have hwr := HK.out.size
      rcases st with q | k
      · have hat : RAt wr g q := HST.out
        obtain ⟨a, m, c, c0, c1, f0, f1, hlt, _, _, _⟩ := hat.cells
        clear hat f0 f1 c0
        by_cases hin : i < n
        · go_wp2_with (fail)
          refine (rtext_st g (.inl q) wr HST.out).mono ?_
          rintro e w4 ⟨hk4, ⟨l4, tx, r4, v4, hl4, hd4, rfl, ⟨x, rfl, hx⟩, hr4⟩ | ⟨k, z, hl4, rfl, rfl, hbad⟩⟩
          · have hq : l4 = q := by injection hl4 with h; exact h.symm
            subst hq
            have O4 := Lib.hid (HO.out.kept1 hk4 (fun k hk => by have := (OwnS.lt HO.out k hk).1; simp; omega))
            have K4 := Lib.hid (HK.out.trans hk4 (Grows.refl _ _))
            have h4s := K4.out.size
            have M4 := Lib.hid (show ManyR cStr n (i + 1) r ((ss ++ [x]).map strB) (.inl r4) from by
              rw [List.map_append]
              have := HM.out.ok hin hd4
              rw [← hx] at this
              exact this)
            have hxs : x.size ≤ maxLen := by
              have hf := (cStr.only l4 tx r4 (by obtain ⟨_, _, _, _, hb, _⟩ := HST.out; exact hb.byte) hd4).1
              have h1 : tx.length ≤ 4096 := hf.1.1
              have h2 := strB_len x
              rw [hx] at h2
              unfold maxLen
              omega
            have Z4 := Lib.hid (show ∀ y ∈ ss ++ [x], y.size ≤ maxLen from by
              intro y hy
              rcases List.mem_append.1 hy with hy | hy
              · exact HZ.out y hy
              · simp at hy; rw [hy]; exact hxs)
            have R4 := Lib.hid hr4
            have hln := HLN.out
            clear hk4 hl4 hd4 hx hr4 hxs HO HM HST HK HZ c1
            go_wp2_with (at_builtin; refine app_str1 w4 rfl (.tmp 21) (.tmp 24) rfl w.heap.size _ ss x (by rfl) (by rfl) O4.out h4s (by omega) ?_)
            intro v5 w5 ho5 _ hkk hbl
            have O5 := Lib.hid ho5
            have K5 := Lib.hid (show Kept [g] w w5 from hkk [g] w K4.out (Nat.le_refl _))
            have R5 := Lib.hid (show RAt w5 g r4 from by
              obtain ⟨a', m', c', hb, hr, hn'⟩ := R4.out
              have hg4 := hb.lt
              have hne : ∀ b, b < w.heap.size → some b ≠ Value.ownBlock _ := fun b hb' e => by
                have := (OwnS.lt O4.out b e.symm).1
                omega
              refine ⟨a', m', c', hb.of_eq (hbl g hg4 (hne g hgl)), ?_, hn'⟩
              refine ⟨hr.len, hr.small, hr.byte, hr.nilOk, hr.room, ?_⟩
              rcases hr.cells with h0 | ⟨b, off, rfl, hlt', hc'⟩
              · exact .inl h0
              · by_cases hm0 : m' = 0
                · exact .inl hm0
                · have hbg := hn' (by omega) _ rfl
                  simp only at hbg
                  have hsame := hbl b hlt' (hne b (by omega))
                  refine .inr ⟨b, off, rfl, ?_, fun j hj => (World.cell?_of_block (a := ⟨b, off + j, none⟩) hsame).trans (hc' j hj)⟩
                  have := K5.out.size
                  omega)
            clear ho5 hkk hbl O4 K4 R4
            go_wp2
            go_roundw
            case rel => exact ⟨i + 1, .inl r4, ss ++ [x], by go_num, by omega, R5.out, M4.out, O5.out, by simp [Hid]; omega, Z4.out, K5.out⟩
            case measure => simp [intOf]; omega
          · have hdk : cStr.dec q = .inr k := by
              rcases hl4 with h | ⟨l4, h, hd4⟩
              · cases h
              · injection h with h
                rw [h]
                exact hd4
            have O4 := Lib.hid (HO.out.kept1 hk4 (fun k hk => by have := (OwnS.lt HO.out k hk).1; simp; omega))
            have K4 := Lib.hid (HK.out.trans hk4 (Grows.refl _ _))
            have h4s := K4.out.size
            have M4 := Lib.hid (show ManyR cStr n (i + 1) r ((ss ++ [(⟨#[]⟩ : ByteArray)]).map strB) (.inr k) from HM.out.bad hin hdk)
            have Z4 := Lib.hid (show ∀ y ∈ ss ++ [(⟨#[]⟩ : ByteArray)], y.size ≤ maxLen from by
              intro y hy
              rcases List.mem_append.1 hy with hy | hy
              · exact HZ.out y hy
              · simp at hy; rw [hy]; decide)
            have R4 := Lib.hid hbad
            have hln := HLN.out
            clear hk4 hl4 hdk hbad HO HM HST HK HZ c1
            go_wp2_with (at_builtin; refine app_str1 w4 rfl (.tmp 21) (.tmp 24) rfl w.heap.size _ ss ⟨#[]⟩ (by rfl) (by rfl) O4.out h4s (by omega) ?_)
            intro v5 w5 ho5 _ hkk hbl
            have O5 := Lib.hid ho5
            have K5 := Lib.hid (show Kept [g] w w5 from hkk [g] w K4.out (Nat.le_refl _))
            have R5 := Lib.hid (show RBad w5 g k from by
              obtain ⟨z, hb, hk0⟩ := R4.out
              exact ⟨z, hb.of_eq (hbl g hb.lt (fun e => by have := (OwnS.lt O4.out g e.symm).1; omega)), hk0⟩)
            clear ho5 hkk hbl O4 K4 R4
            go_wp2
            go_roundw
            case rel => exact ⟨i + 1, .inr k, ss ++ [(⟨#[]⟩ : ByteArray)], by go_num, by omega, R5.out, M4.out, O5.out, by simp [Hid]; omega, Z4.out, K5.out⟩
            case measure => simp [intOf]; omega
        · have hin' : i = n := by omega
          subst hin'
          have HE := Lib.hid (show cStrs.dec l = .inl (ss.map strB, q) from HD.out.trans HM.out.fin)
          go_wp2
          go_ret
          exact ⟨HK.out, .inl ⟨l, _, q, _, HL.out, HE.out, rfl, ⟨ss, HO.out, rfl, HZ.out⟩, HST.out⟩⟩
      · have hbad : RBad wr g k := HST.out
        obtain ⟨c1, hlt, e1, e2⟩ := hbad.cells
        have HE := Lib.hid (show cStrs.dec l = .inr k from HD.out.trans HM.out)
        clear hbad
        by_cases hin : i < n
        all_goals
          go_wp2
          go_ret
          exact ⟨HK.out, .inr ⟨k, _, .inr ⟨l, HL.out, HE.out⟩, rfl, trivial, HST.out⟩⟩
  · subst hz
    have HK := Lib.hid hk
    have HBAD := Lib.hid hbad
    have HL := Lib.hid (show s = .inr k ∨ ∃ l, s = .inl l ∧ cStrs.dec l = .inr k from by
      rcases hl with hl | ⟨l, hl, hd⟩
      · exact .inl hl
      · refine .inr ⟨l, hl, ?_⟩
        have := cMany_dec cStr l
        rw [hd] at this
        exact this)
    clear hk hbad hl
    go_wp2
    go_rounds 1
    go_wp2
    go_ret
    exact ⟨HK.out, .inr ⟨k, _, HL.out, rfl, trivial, HBAD.out⟩⟩
end Go.Proofs.YtkhcoinpplpomaaGreat
