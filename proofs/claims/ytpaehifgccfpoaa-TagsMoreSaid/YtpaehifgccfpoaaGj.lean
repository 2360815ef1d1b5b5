/-
  The document's Sort of tags, by a walk over its text.
-/
import Derived.Test.YtpaehifgccfpoaaGi
namespace Go.Proofs.Ytpaehifgccfpoaa
open Go.RowKit

/-- One round of the document's search for a place. -/
def stepU (x : ByteArray) (s : List ByteArray × Bool) (p : ByteArray) : List ByteArray × Bool :=
  if s.2 then (s.1 ++ [p], true) else if ltB x p then (s.1 ++ [x, p], true) else (s.1 ++ [p], false)
def scanU (x : ByteArray) (l : List ByteArray) : List ByteArray × Bool := l.foldl (stepU x) ([], false)

theorem scan_done (x : ByteArray) (l acc : List ByteArray) : l.foldl (stepU x) (acc, true) = (acc ++ l, true) := by
  induction l generalizing acc with
  | nil => simp
  | cons y l ih => simp [stepU, ih]
theorem scan_open (x : ByteArray) (l acc : List ByteArray) (h : x ∉ l) : acc ++ insU x l = if (l.foldl (stepU x) (acc, false)).2 then (l.foldl (stepU x) (acc, false)).1 else (l.foldl (stepU x) (acc, false)).1 ++ [x] := by
  induction l generalizing acc with
  | nil => simp [insU]
  | cons y l ih =>
    have hy : x ≠ y := fun e => h (by simp [e])
    have hl : x ∉ l := fun e => h (by simp [e])
    by_cases hlt : ltB x y = true
    · simp [insU, stepU, hlt, scan_done]
    · have e := ih (acc ++ [y]) hl
      simp only [List.foldl_cons, stepU, Bool.false_eq_true, if_false]
      rw [if_neg hlt, ← e]
      simp [insU, hlt, hy]
theorem scanU_ins (x : ByteArray) (l : List ByteArray) (h : x ∉ l) : insU x l = if (scanU x l).2 then (scanU x l).1 else (scanU x l).1 ++ [x] := by
  have := scan_open x l [] h
  rw [List.nil_append] at this
  exact this
theorem scanU_snoc (x : ByteArray) (l : List ByteArray) (p : ByteArray) : scanU x (l ++ [p]) = stepU x (scanU x l) p := by simp [scanU, List.foldl_append]
theorem stepU_len (x p : ByteArray) (s : List ByteArray × Bool) : (stepU x s p).1.length ≤ s.1.length + 2 := by
  unfold stepU
  split
  · simp
  · split <;> simp
theorem scanU_len (x : ByteArray) (l : List ByteArray) : (scanU x l).1.length ≤ l.length * 2 := by
  have : ∀ (l : List ByteArray) (s : List ByteArray × Bool), (l.foldl (stepU x) s).1.length ≤ s.1.length + l.length * 2 := by
    intro l
    induction l with
    | nil => simp
    | cons y l ih =>
      intro s
      have h1 := ih (stepU x s y)
      have h2 := stepU_len x y s
      rw [List.foldl_cons, List.length_cons]
      omega
  simpa [scanU] using this l ([], false)
theorem take_snocS (l : List ByteArray) (i : Nat) (h : i < l.length) : l.take (i + 1) = l.take i ++ [strAt l i] := by
  rw [List.take_add_one]
  simp [strAt, List.getD, h]

theorem string_info : (Try.prog.info? 9).map (fun i => (i.zero, i.size, i.bytes)) = some (some (.string ⟨#[]⟩), 1, 16) := by kernel_rfl

/-- append(v, p), v a row of strings of the call's own. -/
theorem app_str {ops : Array Oper} {rest : List Oper} {o : Oper} {act : Act} {Q : Exit → Act → World → Prop} (w : World) (hg : o.guard = none) (s x : Operand)
    (hop : o.op = .call { callee := .builtin .append, args := #[s, x], argTypes := #[22, 22] }) (B : Nat) (v : Value) (zs : List ByteArray) (p : ByteArray) (hs : act.eval s = v)
    (hx : act.eval x = .slice (some ⟨w.heap.size, 0, none⟩) 1 1) (hown : OwnS w B 9 v zs) (hB : B ≤ w.heap.size) (hl : zs.length ≤ 2000000)
    (K : ∀ v' w', OwnS w' B 9 v' (zs ++ [p]) → (∀ w1, Below B w1 w → Below B w1 w') → wpList Try.prog ops Q rest (act.put o.dst v') w') :
    wpList Try.prog ops Q (o :: rest) act (w.alloc (.cells #[.string p] 9)) := by
  have hr := SReads.built w [p] 9 (by simp)
  refine app_strs _ hg s x 22 9 hop Try.underlying22 string_info B v zs hs (World.ownsRow.alloc hown _) _ 1 1 [p] hx hr (by omega) (by simp; omega) ?_
  intro v' w' h1 h2
  exact K v' w' h1 fun w1 hb => (hb.alloc hB _).grown h2 (by simp; omega) (fun k hk => (hown.lt k hk).1)

theorem OwnS.mono {w : World} {B B' : Nat} {t : TypeId} {v : Value} {ss : List ByteArray} (h : OwnS w B t v ss) (hB : B' ≤ B) : OwnS w B' t v ss := by
  obtain ⟨h1, h2⟩ := h
  refine ⟨h1, ?_⟩
  rcases h2 with h2 | ⟨g, cap, cur, rfl, hg, r⟩
  · exact .inl h2
  · exact .inr ⟨g, cap, cur, rfl, Nat.le_trans hB hg, r⟩
theorem OwnS.kept {F : List Nat} {w w' : World} {B : Nat} {t : TypeId} {v : Value} {ss : List ByteArray} (h : OwnS w B t v ss) (hk : Kept F w w') (hF : ∀ k, v.ownBlock = some k → k ∉ F) : OwnS w' B t v ss := hk.own h hF
theorem OwnS.drawn {w : World} {B : Nat} {t : TypeId} {v : Value} {ss : List ByteArray} (h : OwnS w B t v ss) (n : Nat) : OwnS (w.drewN n) B t v ss := h.kept ((Kept.refl [] _).drewN n) (by simp)

/-- What the document's Sort tells. -/
def RSorted (ss : List ByteArray) (w : World) (e : Ending) (w' : World) : Prop :=
  Below w.heap.size w w' ∧ ((fineB (sortU ss) = true ∧ ∃ a c, e = .returned (.tuple #[.slice a (sortU ss).length c, .bool true]) ∧ SReads w' a (sortU ss).length c (sortU ss)) ∨
    (fineB (sortU ss) = false ∧ e = .returned (.tuple #[.slice none 0 0, .bool false])))

theorem rsorted_yes {ss : List ByteArray} {w w' : World} {a : Option Addr} {m c : Nat} (hm : Hid ((sortU ss).length = m)) (hf : fineB (sortU ss) = true) (hb : Below w.heap.size w w') (hr : SReads w' a m c (sortU ss)) :
    RSorted ss w (.returned (.tuple #[.slice a m c, .bool true])) w' := by
  rw [← hm.out] at hr ⊢
  exact ⟨hb, .inl ⟨hf, a, c, rfl, hr⟩⟩
theorem rsorted_long {ss : List ByteArray} {w w' : World} {i : Nat} (h : 8 < (sortU (ss.take i)).length) (hb : Below w.heap.size w w') : RSorted ss w (.returned (.tuple #[.slice none 0 0, .bool false])) w' :=
  ⟨hb, .inr ⟨fineB_long (Nat.lt_of_lt_of_le h (sortU_take ss i)), rfl⟩⟩

set_option maxHeartbeats 6400000 in
theorem rsort_reads (a : Option Addr) (n c : Nat) (ss : List ByteArray) (w : World) (h : SReads w a n c ss) (hz : ∀ s ∈ ss, s.size ≤ maxLen) :
    Calls Try.prog 18 #[.slice a n c] w fun e w' => RSorted ss w e w' := by
  have HC := Lib.hid h.cells
  have HL := Lib.hid h.len
  have HZ := Lib.hid hz
  have hsm := h.small
  clear h hz
  go_enter Try.func18, Try.ntmps18
  go_wp2
  go_loopw [4, 5] (fun s4 s5 wr => ∃ (i m : Nat) (a' : Option Addr) (c' : Nat) (out : List ByteArray), s5 = .int .i64 i ∧ i ≤ n ∧ s4 = .slice a' m c' ∧ m ≤ 8 ∧ Hid (out = sortU (ss.take i)) ∧ Hid (out.length = m) ∧ Hid (OwnS wr w.heap.size 9 s4 out) ∧ Hid (Below w.heap.size w wr)) (fun _ s5 _ => n - (intOf s5).toNat)
  case atStart => exact ⟨0, 0, none, 0, [], rfl, Nat.zero_le _, rfl, by omega, rfl, rfl, OwnS.nil _ _ _, Below.refl _ _⟩
  case round =>
    obtain ⟨i, m, a', c', out, rfl, hi, rfl, hm8, HE, HM, HO, HB⟩ := hrel
    have hwo := HB.out.size
    obtain ⟨_, _, e0, r0, _⟩ := HO.out.reads (by have := HM.out; omega)
    have hr : SReads wr a' m c' out := by
      have := HM.out
      injection e0 with e1 e2 e3
      subst e1; subst e3
      rw [← this]
      rw [this] at r0 ⊢
      exact r0
    have HR := Lib.hid hr
    clear e0 r0 hr
    by_cases hc : i < n
    · rcases HC.out with h0 | ⟨b, off, rfl, hlt, hcl⟩
      · omega
      obtain ⟨x, hx⟩ : ∃ x, strAt ss i = x := ⟨_, rfl⟩
      have hcc := hcl i hc
      rw [hx] at hcc
      have HX := Lib.hid hx
      have HCC := Lib.hid hcc
      have HNX := Lib.hid (show sortU (ss.take (i + 1)) = insU x out from by
        rw [take_snocS ss i (by have := HL.out; omega), sortU_snoc, HX.out, HE.out])
      have t1 := (HB.out.cell (p := ⟨b, off + i, none⟩) hlt).trans hcc
      have t2 : b < wr.heap.size := Nat.lt_of_lt_of_le hlt HB.out.size
      clear hx hcc hcl
      go_wp2_with (fail)
      refine (has_reads a' m c' out x wr HR.out).mono ?_
      rintro e w1 ⟨rfl, rfl⟩
      by_cases hin : Lib.containsS out x = true
      · have HIN := Lib.hid hin
        go_wp2
        go_roundw
        case rel => exact ⟨i + 1, m, a', c', out, by go_num, by omega, rfl, hm8, by rw [HNX.out, insU_mem (by rw [HE.out]; exact rising_sortU _) ((Lib.containsS_iff _ _).1 HIN.out)]; exact rfl, HM.out, HO.out, HB.out⟩
        case measure => simp [intOf]; omega
      · rw [Bool.not_eq_true] at hin
        have HIN := Lib.hid (show x ∉ out from fun hx => by rw [(Lib.containsS_iff _ _).2 hx] at hin; cases hin)
        go_wp2
        go_loopw [6, 7, 8] (fun s6 s7 s8 w2 => ∃ (k : Nat) (d : Bool), k ≤ m ∧ s8 = .int .i64 k ∧ s7 = .bool d ∧ Hid ((scanU x (out.take k)).2 = d) ∧ Hid (OwnS w2 w1.heap.size 9 s6 (scanU x (out.take k)).1) ∧ Hid (Below w1.heap.size w1 w2)) (fun _ _ s8 _ => m - (intOf s8).toNat)
        case atStart => exact ⟨0, false, Nat.zero_le _, rfl, rfl, rfl, OwnS.nil _ _ _, Below.refl _ _⟩
        case round =>
          clear t1 t2
          obtain ⟨k, d, hk, rfl, rfl, HD, HN, HW⟩ := hrel
          have hw12 := HW.out.size
          have hsl := scanU_len x (out.take k)
          have hkl : (out.take k).length ≤ k := by simp; omega
          have hsl1 : (scanU x (out.take k)).1.length ≤ 20 := by omega
          clear hsl hkl
          have t1 : wr.cell? ⟨b, off + i, none⟩ = some (.string x) := (HW.out.cell (p := ⟨b, off + i, none⟩) (Nat.lt_of_lt_of_le hlt hwo)).trans ((HB.out.cell (p := ⟨b, off + i, none⟩) hlt).trans HCC.out)
          have t2 : b < wr.heap.size := by omega
          by_cases hkm : k < m
          · rcases HR.out.cells with h0 | ⟨b', off', rfl, hlt', hcl'⟩
            · omega
            obtain ⟨p, hp⟩ : ∃ p, strAt out k = p := ⟨_, rfl⟩
            have hcp := hcl' k hkm
            rw [hp] at hcp
            have HS := Lib.hid (fun (w' : World) (hb : Below w1.heap.size w1 w') => show w'.cell? ⟨b, off + i, none⟩ = some (.string x) ∧ w'.cell? ⟨b', off' + k, none⟩ = some (.string p) ∧ b < w'.heap.size ∧ b' < w'.heap.size ∧ w1.heap.size ≤ w'.heap.size from
              ⟨(hb.cell (p := ⟨b, off + i, none⟩) (Nat.lt_of_lt_of_le hlt hwo)).trans ((HB.out.cell (p := ⟨b, off + i, none⟩) hlt).trans HCC.out), (hb.cell (p := ⟨b', off' + k, none⟩) hlt').trans hcp, by have := hb.size; omega, by have := hb.size; omega, hb.size⟩)
            have HSN := Lib.hid (show scanU x (out.take (k + 1)) = stepU x (scanU x (out.take k)) p from by
              rw [take_snocS out k (by have := HM.out; omega), scanU_snoc, hp])
            clear t1 t2 hp hcp hcl'
            obtain ⟨t1, t2, t3, t4, t5⟩ := HS.out wr HW.out
            cases d
            · obtain ⟨z, hz⟩ : ∃ z, ltB x p = z := ⟨_, rfl⟩
              have HZ2 := Lib.hid hz
              have hlss : Op.bytesLess x.toList p.toList = z := hz
              clear hz
              have HD1 := Lib.hid (show scanU x (out.take (k + 1)) = (if z = true then ((scanU x (out.take k)).1 ++ [x, p], true) else ((scanU x (out.take k)).1 ++ [p], false)) from by
                rw [HSN.out, stepU, HD.out, HZ2.out]
                simp)
              cases z
              all_goals
                go_wp2
                go_quiet (fail)
                have HN1 := Lib.hid (HN.out.drawn nq)
                have HW1 := Lib.hid (below_draws HW.out nq)
                obtain ⟨s1, s2, s3, s4, s5⟩ := HS.out _ HW1.out
                clear t1 t2 t3 t4 t5 HN HW hlss HSN
                generalize wr.drewN nq = wd at *
              · go_wp2_with (at_builtin; refine app_str _ rfl (.tmp 47) (.tmp 52) rfl w1.heap.size _ (scanU x (out.take k)).1 p (by rfl) (by rfl) HN1.out (by omega) (by omega) ?_)
                intro v' w3 hown hbel
                have N1 := Lib.hid hown
                have N2 := Lib.hid (hbel _ HW1.out)
                clear hown hbel HN1 HW1 s1 s2 s3 s4 s5
                go_wp2
                go_roundw
                case rel => exact ⟨k + 1, false, by omega, by go_num, rfl, by rw [HD1.out]; rfl, by rw [HD1.out]; exact N1.out, N2.out⟩
                case measure => simp [intOf]; omega
              · go_wp2_with (at_builtin; refine app_str _ rfl (.tmp 40) (.tmp 45) rfl w1.heap.size _ (scanU x (out.take k)).1 x (by rfl) (by rfl) HN1.out (by omega) (by omega) ?_)
                intro v' w3 hown hbel
                have N1 := Lib.hid hown
                have N2 := Lib.hid (hbel _ HW1.out)
                clear hown hbel HN1 HW1 s1 s2 s3 s4 s5
                obtain ⟨s1, s2, s3, s4, s5⟩ := HS.out _ N2.out
                go_wp2_with (at_builtin; refine app_str _ rfl (.tmp 47) (.tmp 52) rfl w1.heap.size _ ((scanU x (out.take k)).1 ++ [x]) p (by rfl) (by rfl) N1.out (by omega) (by simp; omega) ?_)
                intro v2 w4 hown hbel
                have M1 := Lib.hid hown
                have M2 := Lib.hid (hbel _ N2.out)
                clear hown hbel N1 N2 s1 s2 s3 s4 s5
                go_wp2
                go_roundw
                case rel => exact ⟨k + 1, true, by omega, by go_num, rfl, by rw [HD1.out]; rfl, by rw [HD1.out, if_pos (by trivial)]; first | exact M1.out | (have := M1.out; rw [List.append_assoc] at this; exact this), M2.out⟩
                case measure => simp [intOf]; omega
            · have HD1 := Lib.hid (show scanU x (out.take (k + 1)) = ((scanU x (out.take k)).1 ++ [p], true) from by
                rw [HSN.out, stepU, HD.out]
                simp)
              go_wp2
              go_quiet (fail)
              have HN1 := Lib.hid (HN.out.drawn nq)
              have HW1 := Lib.hid (below_draws HW.out nq)
              obtain ⟨s1, s2, s3, s4, s5⟩ := HS.out _ HW1.out
              clear t1 t2 t3 t4 t5 HN HW HSN
              generalize wr.drewN nq = wd at *
              go_wp2_with (at_builtin; refine app_str _ rfl (.tmp 47) (.tmp 52) rfl w1.heap.size _ (scanU x (out.take k)).1 p (by rfl) (by rfl) HN1.out (by omega) (by omega) ?_)
              intro v' w3 hown hbel
              have N1 := Lib.hid hown
              have N2 := Lib.hid (hbel _ HW1.out)
              clear hown hbel HN1 HW1 s1 s2 s3 s4 s5
              go_wp2
              go_roundw
              case rel => exact ⟨k + 1, true, by omega, by go_num, rfl, by rw [HD1.out]; rfl, by rw [HD1.out]; exact N1.out, N2.out⟩
              case measure => simp [intOf]; omega
          · have hkm' : k = m := by omega
            have htk : out.take k = out := List.take_of_length_le (by have := HM.out; omega)
            have hfin := scanU_ins x out HIN.out
            rw [htk] at HD HN hsl1
            rw [HD.out] at hfin
            have HF := Lib.hid hfin
            have hin8 := insU_len (x := x) (l := out)
            have HI8 := Lib.hid hin8
            clear hkm' htk hfin hin8
            cases d
            · go_wp2_with (at_builtin; refine app_str _ rfl (.tmp 56) (.tmp 61) rfl w1.heap.size _ (scanU x out).1 x (by rfl) (by rfl) HN.out (by omega) (by omega) ?_)
              intro v' w3 hown hbel
              have e := HF.out
              rw [if_neg (by simp)] at e
              rw [← e] at hown
              obtain ⟨a2, m2, c2, rfl, hm2⟩ := hown.parts
              have N1 := Lib.hid hown
              have N2 := Lib.hid (hbel _ HW.out)
              have hm9 : m2 ≤ 9 := by have := hm2.out; have := HI8.out; have := HM.out; omega
              clear hown hbel HN HW e
              by_cases h9 : 8 < m2
              · go_wp2
                go_ret2
                exact rsorted_long (i := i + 1) (by rw [HNX.out]; have := hm2.out; omega) (HB.out.trans (N2.out.mono hwo))
              · go_wp2
                go_roundw
                case rel => exact ⟨i + 1, m2, a2, c2, insU x out, by go_num, by omega, rfl, by omega, HNX.out.symm, hm2, N1.out.mono hwo, HB.out.trans (N2.out.mono hwo)⟩
                case measure => simp [intOf]; omega
            · have e := HF.out
              rw [if_pos (by trivial)] at e
              rw [← e] at HN
              obtain ⟨a2, m2, c2, rfl, hm2⟩ := HN.out.parts
              have N1 := HN
              have hm9 : m2 ≤ 9 := by have := hm2.out; have := HI8.out; have := HM.out; omega
              clear e
              by_cases h9 : 8 < m2
              · go_wp2
                go_ret2
                exact rsorted_long (i := i + 1) (by rw [HNX.out]; have := hm2.out; omega) (HB.out.trans (HW.out.mono hwo))
              · go_wp2
                go_roundw
                case rel => exact ⟨i + 1, m2, a2, c2, insU x out, by go_num, by omega, rfl, by omega, HNX.out.symm, hm2, N1.out.mono hwo, HB.out.trans (HW.out.mono hwo)⟩
                case measure => simp [intOf]; omega
    · have hti : ss.take i = ss := List.take_of_length_le (by have := HL.out; omega)
      rw [hti] at HE
      have HE' := HE.out
      subst HE'
      clear hti HE
      go_wp2_with (fail)
      refine (fine_reads a' m c' (sortU ss) wr HR.out (sortU_size HZ.out)).mono ?_
      rintro e w2 ⟨rfl, hb2⟩
      have HB2 := Lib.hid (HB.out.trans (hb2.mono hwo))
      have HR2 := Lib.hid (HR.out.on hb2)
      clear hb2 HB HR HO
      by_cases hf : fineB (sortU ss) = true
      · have HF := Lib.hid hf
        go_wp2
        go_ret2
        exact rsorted_yes HM HF.out HB2.out HR2.out
      · rw [Bool.not_eq_true] at hf
        have HF := Lib.hid hf
        go_wp2
        go_ret2
        exact ⟨HB2.out, .inr ⟨HF.out, rfl⟩⟩
end Go.Proofs.Ytpaehifgccfpoaa
