/-
  The document's table of uploads: Leave; the table in plain words (DIs), and each call over it.
-/
import Derived.Test.YtdlpifcfgfhagaaSgs
import Derived.Test.YtdlpifcfgfhagaaSge
namespace Go.Proofs.Ytdlpifcfgfhagaa
open Go.RowKit Go.ChangeShapes Go.WideShapes Go.ChangeAt

/-- What is left when those from place j on have been asked. -/
def leftD (R : List UpR) (owner j : Nat) : List UpR := R.take j ++ (R.drop j).filter fun t => decide (t.u.owner ≠ owner)
theorem leftD_all (R : List UpR) (owner : Nat) {n : Nat} (h : R.length ≤ n) : leftD R owner n = R := by
  unfold leftD
  rw [List.take_of_length_le h, List.drop_eq_nil_of_le h]
  simp
theorem leftD_zero (R : List UpR) (owner : Nat) : leftD R owner 0 = R.filter fun t => decide (t.u.owner ≠ owner) := by
  unfold leftD
  simp
theorem leftD_at {R : List UpR} {owner q : Nat} {t : UpR} (h : R[q]? = some t) : (leftD R owner (q + 1))[q]? = some t := by
  have hq := (List.getElem?_eq_some_iff.1 h).1
  unfold leftD
  rw [List.getElem?_append_left (by rw [List.length_take]; omega), List.getElem?_take_of_lt (by omega), h]
theorem leftD_cut {R : List UpR} {owner q : Nat} {t : UpR} (h : R[q]? = some t) : (if t.u.owner = owner then (leftD R owner (q + 1)).eraseIdx q else leftD R owner (q + 1)) = leftD R owner q := by
  have hq := (List.getElem?_eq_some_iff.1 h).1
  have e1 : R.take (q + 1) = R.take q ++ [t] := by rw [List.take_add_one, h]; rfl
  have e2 : R.drop q = t :: R.drop (q + 1) := by
    rw [List.drop_eq_getElem_cons hq]
    congr 1
    exact (List.getElem?_eq_some_iff.1 h).2
  have hl : (R.take q).length = q := by rw [List.length_take]; omega
  unfold leftD
  rw [e2, e1]
  by_cases ho : t.u.owner = owner
  · rw [if_pos ho, List.filter_cons_of_neg (by simp [ho]), List.append_assoc, List.eraseIdx_append_of_length_le (by omega), hl, Nat.sub_self]
    simp
  · rw [if_neg ho, List.filter_cons_of_pos (by simp [ho]), List.append_assoc]
    rfl
theorem leftD_few (R : List UpR) (owner j : Nat) : (leftD R owner j).length ≤ R.length := by
  unfold leftD
  have h1 := List.length_filter_le (fun t : UpR => decide (t.u.owner ≠ owner)) (R.drop j)
  rw [List.length_append, List.length_take]
  rw [List.length_drop] at h1
  omega
theorem DPost.trans {lo g last : Nat} {F : List Nat} {R1 R2 : List UpR} {w w1 w2 : World} {v1 : Value} (hk : Kept F w w1) (hg : Grows w F (fpR v1 g R1)) (h : DPost lo g (fpR v1 g R1) R2 last w1 w2) : DPost lo g F R2 last w w2 := by
  obtain ⟨v, h1, h2, h3⟩ := h
  exact ⟨v, h1, hk.trans h2 hg, hg.trans h3 hk.size⟩
set_option maxRecDepth 100000 in
set_option maxHeartbeats 3200000 in
theorem dleave_any (w : World) (lo g last : Nat) (v : Value) (R : List UpR) (h : DTab w lo g v R last) (owner : Nat) :
    Calls Try.prog 21 #[.pointer (some ⟨g, 0, none⟩), .int .u64 (owner : Int)] w fun e w' => e = .returned (.int .i64 ((R.length - (R.filter fun t => decide (t.u.owner ≠ owner)).length : Nat) : Int)) ∧ DPost lo g (fpR v g R) (R.filter fun t => decide (t.u.owner ≠ owner)) last w w' := by
  obtain ⟨n, hn⟩ : ∃ n, R.length = n := ⟨_, rfl⟩
  have D0 := Lib.hid (show DPost lo g (fpR v g R) (leftD R owner n) last w w from by
    rw [leftD_all R owner (by omega)]
    exact DPost.same h)
  obtain ⟨va, vc, hv, hvc⟩ := h.form
  have c0 : w.cell? ⟨g, 0, none⟩ = some (.slice va n vc) := by rw [← hn, ← hv]; exact h.blk.cell 0
  have hn4 : n ≤ 4 := by rw [← hn]; exact h.few
  have HN := Lib.hid hn
  rw [hn]
  clear h hv hvc hn
  obtain ⟨k, hk⟩ : ∃ k, (R.filter fun t => decide (t.u.owner ≠ owner)).length = k := ⟨_, rfl⟩
  have HK := Lib.hid hk
  have hkn : k ≤ n := by rw [← hk, ← HN.out]; exact List.length_filter_le _ _
  obtain ⟨d, hd⟩ : ∃ d, n - k = d := ⟨_, rfl⟩
  have hsub : IntKind.i64.wrap ((n : Int) - (k : Int)) = (d : Int) := by rw [IntKind.wrap_i64]; omega
  rw [hk, hd]
  clear hk hd hkn
  have F0 : ∃ F, fpR v g R = F := ⟨_, rfl⟩
  obtain ⟨F, hF⟩ := F0
  rw [hF] at D0 ⊢
  clear hF
  go_enter Try.func21, Try.ntmps21
  go_wp2
  go_loopw [6] (fun s6 wr => ∃ j : Nat, ((j = 0 ∧ s6 = .int .i64 (-1)) ∨ ∃ q : Nat, j = q + 1 ∧ s6 = .int .i64 (q : Int)) ∧ j ≤ n ∧ Hid (DPost lo g F (leftD R owner j) last w wr)) (fun s6 _ => (intOf s6 + 1).toNat)
  case atStart =>
    by_cases h0 : n = 0
    · exact ⟨0, .inl ⟨rfl, by rw [h0]; rfl⟩, Nat.zero_le _, by rw [← h0]; exact D0⟩
    · obtain ⟨q, hq⟩ : ∃ q, n = q + 1 := ⟨n - 1, by omega⟩
      exact ⟨n, .inr ⟨q, hq, by rw [hq]; simp⟩, Nat.le_refl _, D0⟩
  case round =>
    obtain ⟨j, hj, hjn, HD⟩ := hrel
    rcases hj with ⟨rfl, rfl⟩ | ⟨q, rfl, rfl⟩
    · obtain ⟨v2, h2, hk2, hg2⟩ := HD.out
      rw [leftD_zero] at h2 hg2
      obtain ⟨va2, vc2, hv2, -⟩ := h2.form
      have c2 : wr.cell? ⟨g, 0, none⟩ = some (.slice va2 k vc2) := by rw [← HK.out, ← hv2]; exact h2.blk.cell 0
      have FIN := Lib.hid (show DPost lo g F (R.filter fun t => decide (t.u.owner ≠ owner)) last w wr from ⟨v2, h2, hk2, hg2⟩)
      clear h2 hk2 hg2 hv2 HD D0
      go_wp2
      go_ret
      exact ⟨rfl, FIN.out⟩
    · obtain ⟨v2, h2, hk2, hg2⟩ := HD.out
      have hqR : q < R.length := by rw [HN.out]; omega
      obtain ⟨t, ht⟩ : ∃ t, R[q]? = some t := ⟨R[q], by simp [hqR]⟩
      have hql : q < (leftD R owner (q + 1)).length := (List.getElem?_eq_some_iff.1 (leftD_at (owner := owner) ht)).1
      obtain ⟨t', gr, cx, ht', rfl, _, hlt, hrg, htm⟩ := h2.up q hql
      obtain rfl := Option.some.inj ((leftD_at (owner := owner) ht).symm.trans ht')
      obtain ⟨-, q1, -, -, -⟩ := at_cells hrg
      obtain ⟨m, hm⟩ : ∃ m, (leftD R owner (q + 1)).length = m := ⟨_, rfl⟩
      have c2 : wr.cell? ⟨g, 0, none⟩ = some (.slice (some ⟨gr, 0, none⟩) m cx) := by rw [← hm]; exact h2.blk.cell 0
      have CUT := Lib.hid (leftD_cut (owner := owner) ht)
      obtain ⟨tw, htw⟩ : ∃ tw, t.u.owner = tw := ⟨_, rfl⟩
      rw [htw] at q1 CUT
      have CC := Lib.hid (dcut_any wr lo g last _ _ h2 q)
      have K2 := Lib.hid (And.intro hk2 hg2)
      have hm4 : m ≤ 4 := by rw [← hm]; exact h2.few
      rw [hm] at hql
      clear h2 hk2 hg2 ht ht' hrg htm htw hm D0
      by_cases ho : tw = owner
      · subst ho
        go_wp2_with (fail)
        refine CC.out.mono ?_
        rintro e w3 ⟨rfl, h3, -⟩
        have H3 := Lib.hid (show DPost lo g F (leftD R tw q) last w w3 from by
          have h4 := CUT.out
          simp only [if_true] at h4
          rw [← h4]
          exact h3.trans K2.out.1 K2.out.2)
        clear h3 CC HD K2 CUT
        go_wp2
        go_roundw
        case rel =>
          by_cases h0 : q = 0
          · exact ⟨0, .inl ⟨rfl, by rw [h0]; rfl⟩, Nat.zero_le _, by rw [← h0]; exact H3⟩
          · obtain ⟨q', hq'⟩ : ∃ q', q = q' + 1 := ⟨q - 1, by omega⟩
            exact ⟨q, .inr ⟨q', hq', by rw [hq']; simp⟩, by omega, H3⟩
        case measure => simp [intOf]
      · have hob : ((tw : Int) == (owner : Int)) = false := by rw [beq_eq_false_iff_ne]; omega
        have H3 := Lib.hid (show DPost lo g F (leftD R owner q) last w wr from by
          have h4 := CUT.out
          rw [if_neg ho] at h4
          rw [← h4]
          exact HD.out)
        clear CC HD K2 CUT ho
        go_wp2
        go_roundw
        case rel =>
          by_cases h0 : q = 0
          · exact ⟨0, .inl ⟨rfl, by rw [h0]; rfl⟩, Nat.zero_le _, by rw [← h0]; exact H3⟩
          · obtain ⟨q', hq'⟩ : ∃ q', q = q' + 1 := ⟨q - 1, by omega⟩
            exact ⟨q, .inr ⟨q', hq', by rw [hq']; simp⟩, by omega, H3⟩
        case measure => simp [intOf]
end Go.Proofs.Ytdlpifcfgfhagaa
