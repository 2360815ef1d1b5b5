/-
  Slices of hits that are read; the document's Same and First, each by a walk over its text.
-/
import Derived.Test.YtadkfedglkhgjaaGreatHM1
import Derived.WalkSmall
import Derived.Laws.StructEq
namespace Go.Proofs.YtadkfedglkhgjaaGreat
open Go.RowKit

/-- The slice value (a, n, _) reads in w as the hits xs. -/
structure HReads (w : World) (a : Option Addr) (n : Nat) (xs : List Hit) : Prop where
  len : xs.length = n
  small : n * 16 ≤ 140737488351232
  cells : n = 0 ∨ ∃ b off, a = some ⟨b, off, none⟩ ∧ b < w.heap.size ∧ ∀ i, i < n → w.cell? ⟨b, off + i * 2, none⟩ = some (.int .i64 (xs.getD i (0, 0)).1) ∧ w.cell? ⟨b, off + i * 2 + 1, none⟩ = some (.int .u32 (xs.getD i (0, 0)).2)

theorem HReads.below {w w' : World} {a : Option Addr} {n : Nat} {xs : List Hit} (h : HReads w a n xs) {B : Nat} (hB : w.heap.size ≤ B) (hb : Below B w w') : HReads w' a n xs := by
  refine ⟨h.len, h.small, ?_⟩
  rcases h.cells with h4 | ⟨b, off, ha, hlt, hc⟩
  · exact .inl h4
  · refine .inr ⟨b, off, ha, Nat.lt_of_lt_of_le hlt hb.size, fun i hi => ?_⟩
    rw [hb.cell (p := ⟨b, off + i * 2, none⟩) (Nat.lt_of_lt_of_le hlt hB), hb.cell (p := ⟨b, off + i * 2 + 1, none⟩) (Nat.lt_of_lt_of_le hlt hB)]
    exact hc i hi
theorem HReads.of_own {w : World} {t : TypeId} {a : Option Addr} {n cap : Nat} {xs : List Hit} (h : Own w t (.slice a n cap) xs) (hs : xs.length ≤ 1000000) : HReads w a n xs := by
  rcases h.form with ⟨h1, rfl⟩ | ⟨g, cap', rest, h1, hg, hn, hcap, hl⟩
  · simp at h1
    obtain ⟨rfl, rfl, rfl⟩ := h1
    exact ⟨rfl, by omega, .inl rfl⟩
  · simp at h1
    obtain ⟨rfl, rfl, rfl⟩ := h1
    have hf := flat_len xs
    refine ⟨rfl, by omega, .inr ⟨g, 0, rfl, hg.lt, fun i hi => ?_⟩⟩
    rw [Nat.zero_add, hg.cell, hg.cell, List.getElem?_append_left (by omega), List.getElem?_append_left (by omega), flat_fst xs i hi, flat_snd xs i hi]
    exact ⟨rfl, rfl⟩

theorem run_neq_hit (x y : Hit) (w : World) (z : Bool) (hz : (!decide (x = y)) = z) : (binOp .neq 51 (.agg #[.int .i64 x.1, .int .u32 x.2]) (.agg #[.int .i64 y.1, .int .u32 y.2])).run Tryz.prog w = .ok (.bool z) w := by
  subst hz
  have e : decide (x = y) = (x.1 == y.1 && x.2 == y.2) := by
    rw [Bool.eq_iff_iff]
    simp [Prod.ext_iff]
  rw [e]
  simp [go_sem]
  by_cases h1 : x.1 = y.1
  · by_cases h2 : x.2 = y.2 <;> simp [h1, h2]
  · simp [h1]
theorem run_eql_hit (x y : Hit) (w : World) (z : Bool) (hz : decide (x = y) = z) : (binOp .eql 51 (.agg #[.int .i64 x.1, .int .u32 x.2]) (.agg #[.int .i64 y.1, .int .u32 y.2])).run Tryz.prog w = .ok (.bool z) w := by
  subst hz
  have e : decide (x = y) = (x.1 == y.1 && x.2 == y.2) := by
    rw [Bool.eq_iff_iff]
    simp [Prod.ext_iff]
  rw [e]
  simp [go_sem]
  by_cases h1 : x.1 = y.1
  · by_cases h2 : x.2 = y.2 <;> simp [h1, h2]
  · simp [h1]

theorem take_succ_eq (xs ys : List Hit) (k : Nat) (hx : k < xs.length) (hy : k < ys.length) (h : xs.take k = ys.take k) (hk : xs.getD k (0, 0) = ys.getD k (0, 0)) : xs.take (k + 1) = ys.take (k + 1) := by
  have e1 : xs.getD k (0, 0) = xs[k] := by simp [List.getD, hx]
  have e2 : ys.getD k (0, 0) = ys[k] := by simp [List.getD, hy]
  rw [List.take_succ_eq_append_getElem hx, List.take_succ_eq_append_getElem hy, h, ← e1, ← e2, hk]

set_option maxHeartbeats 800000 in
theorem same_any (a c : Option Addr) (n n' cap cap' : Nat) (xs ys : List Hit) (w : World) (h : HReads w a n xs) (h' : HReads w c n' ys) :
    Calls Tryz.prog 20 #[.slice a n cap, .slice c n' cap'] w fun e w' => e = .returned (.bool (decide (xs = ys))) ∧ Below w.heap.size w w' := by
  obtain ⟨hl, hn, hc⟩ := h
  obtain ⟨hl', hn', hc'⟩ := h'
  by_cases he : n = n'
  · subst he
    have HL := Lib.hid hl
    have HL' := Lib.hid hl'
    have HC := Lib.hid hc
    have HC' := Lib.hid hc'
    clear hl hl' hc hc'
    rcases HC.out with h0 | ⟨b, off, rfl, hlt, hc⟩
    · subst h0
      have e1 : xs = [] := List.eq_nil_of_length_eq_zero HL.out
      have e2 : ys = [] := List.eq_nil_of_length_eq_zero HL'.out
      subst e1 e2
      clear HC HC' HL HL'
      go_enter Tryz.func20, Tryz.ntmps20
      go_wp2
      go_rounds 1
      go_ret
      exact ⟨rfl, Below.refl _ _⟩
    rcases HC'.out with h0 | ⟨b', off', rfl, hlt', hc'⟩
    · subst h0
      have e1 : xs = [] := List.eq_nil_of_length_eq_zero HL.out
      have e2 : ys = [] := List.eq_nil_of_length_eq_zero HL'.out
      subst e1 e2
      clear HC HC' HL HL' hc
      go_enter Tryz.func20, Tryz.ntmps20
      go_wp2
      go_rounds 1
      go_ret
      exact ⟨rfl, Below.refl _ _⟩
    have HD := Lib.hid hc
    have HD' := Lib.hid hc'
    clear HC HC' hc hc'
    go_enter Tryz.func20, Tryz.ntmps20
    go_wp2
    go_loopw [5] (fun i wr => ∃ k : Nat, k ≤ n ∧ i = .int .i64 k ∧ Hid (xs.take k = ys.take k) ∧ Below w.heap.size w wr) (fun i _ => n - (intOf i).toNat)
    case atStart => exact ⟨0, Nat.zero_le _, rfl, by simp [Hid], Below.refl _ _⟩
    case round =>
      obtain ⟨k, hk, rfl, HT, hB⟩ := hrel
      by_cases hk' : k < n
      · obtain ⟨p, hp⟩ : ∃ p, p = xs.getD k (0, 0) := ⟨_, rfl⟩
        obtain ⟨q, hq⟩ : ∃ q, q = ys.getD k (0, 0) := ⟨_, rfl⟩
        have hcell := (hB.cell (p := ⟨b, off + k * 2, none⟩) hlt).trans (HD.out k hk').1
        have hcell2 := (hB.cell (p := ⟨b, off + k * 2 + 1, none⟩) hlt).trans (HD.out k hk').2
        have hcell' := (hB.cell (p := ⟨b', off' + k * 2, none⟩) hlt').trans (HD'.out k hk').1
        have hcell2' := (hB.cell (p := ⟨b', off' + k * 2 + 1, none⟩) hlt').trans (HD'.out k hk').2
        rw [← hp] at hcell hcell2
        rw [← hq] at hcell' hcell2'
        have HP := Lib.hid hp
        have HQ := Lib.hid hq
        have HB := Lib.hid hB
        clear hp hq hB
        by_cases hpq : p = q
        · have hne := fun w => run_neq_hit p q w false (by simp [hpq])
          have HPQ := Lib.hid hpq
          clear hpq
          go_wp2
          go_quiet (fail)
          go_wp2
          go_roundw
          case rel => exact ⟨k + 1, by omega, by go_num, take_succ_eq xs ys k (by rw [HL.out]; exact hk') (by rw [HL'.out]; exact hk') HT.out (by rw [← HP.out, ← HQ.out, HPQ.out]), below_draws HB.out _⟩
          case measure => simp [intOf]; omega
        · have hne := fun w => run_neq_hit p q w true (by simp [hpq])
          have HPQ := Lib.hid hpq
          clear hpq
          go_wp2
          go_quiet (fail)
          go_wp2
          go_ret
          refine ⟨ret_bool ?_, below_draws HB.out _⟩
          symm
          apply decide_eq_false
          intro e
          rw [e] at HP
          exact HPQ.out (HP.out.trans HQ.out.symm)
      · go_wp2
        go_ret
        refine ⟨ret_bool ?_, hB⟩
        have e := HT.out
        rw [List.take_of_length_le (by rw [HL.out]; omega), List.take_of_length_le (by rw [HL'.out]; omega)] at e
        exact (decide_eq_true e).symm
  · go_enter Tryz.func20, Tryz.ntmps20
    go_wp2
    go_ret
    exact ⟨ret_bool (by symm; apply decide_eq_false; intro e; rw [e] at hl; omega), Below.refl _ _⟩

/-- A slice value of the call's own, from block B on, reads in w as the hits xs. -/
def OwnB (w : World) (B : Nat) (v : Value) (xs : List Hit) : Prop := w.ownsRow B 51 2 v xs.length (flat xs)
theorem OwnB.own {w : World} {B : Nat} {v : Value} {xs : List Hit} (h : OwnB w B v xs) : Own w 51 v xs := by
  obtain ⟨h1, h2⟩ := h
  refine ⟨h1, ?_⟩
  rcases h2 with h2 | ⟨g, cap, cur, hv, hg, r⟩
  · exact .inl h2
  · exact .inr ⟨g, cap, cur, hv, Nat.zero_le _, r⟩
theorem OwnB.mono {w : World} {B B' : Nat} {v : Value} {xs : List Hit} (h : OwnB w B v xs) (hB : B' ≤ B) : OwnB w B' v xs := by
  obtain ⟨h1, h2⟩ := h
  refine ⟨h1, ?_⟩
  rcases h2 with h2 | ⟨g, cap, cur, hv, hg, r⟩
  · exact .inl h2
  · exact .inr ⟨g, cap, cur, hv, by omega, r⟩
theorem OwnB.new {w : World} {B : Nat} {v : Value} {xs : List Hit} (h : OwnB w B v xs) : ∀ k, v.ownBlock = some k → B ≤ k := fun k hk => (World.ownsRow.lt h k hk).1
theorem OwnB.kept {F : List Nat} {w w' : World} {B : Nat} {v : Value} {xs : List Hit} (h : OwnB w B v xs) (hk : Kept F w w') (hF : ∀ k, v.ownBlock = some k → k ∉ F) : OwnB w' B v xs := hk.own h hF
theorem OwnB.nil (w : World) (B : Nat) : OwnB w B (.slice none 0 0) [] := World.ownsRow_nil w B _ 2
theorem OwnB.snoc {w : World} {B : Nat} {v : Value} {n : Nat} {xs : List Hit} {x : Hit} (h : w.ownsRow B 51 2 v n (flat xs ++ [.int .i64 x.1, .int .u32 x.2])) (hn : n = xs.length + 1) : OwnB w B v (xs ++ [x]) := by
  unfold OwnB
  rw [flat_app]
  simpa [flat, hn] using h
theorem take_snoc' (xs : List Hit) (k : Nat) (h : k < xs.length) : xs.take (k + 1) = xs.take k ++ [xs.getD k (0, 0)] := by
  have e1 : xs.getD k (0, 0) = xs[k] := by simp [List.getD, h]
  rw [List.take_succ_eq_append_getElem h, e1]

set_option maxHeartbeats 1600000 in
theorem first_any (a : Option Addr) (n cap : Nat) (k : Int) (xs : List Hit) (w : World) (h : HReads w a n xs) :
    Calls Tryz.prog 51 #[.slice a n cap, .int .i64 k] w fun e w' => ∃ v, e = .returned v ∧ OwnB w' w.heap.size v (xs.take k.toNat) ∧ Below w.heap.size w w' := by
  obtain ⟨i0, hi0, hz0, hz1, hz2⟩ := info_parts hit_info
  obtain ⟨hl, hn, hc⟩ := h
  have HL := Lib.hid hl
  have HC := Lib.hid hc
  clear hl hc
  go_enter Tryz.func51, Tryz.ntmps51
  go_wp2
  go_loopw [5, 6] (fun s5 s6 wr => ∃ (i : Nat), i ≤ n ∧ s6 = .int .i64 i ∧ Hid ((i : Int) ≤ k ∨ i = 0) ∧ Hid (OwnB wr w.heap.size s5 (xs.take i)) ∧ Hid (Below w.heap.size w wr)) (fun _ s6 _ => n - (intOf s6).toNat)
  case atStart => exact ⟨0, Nat.zero_le _, rfl, .inr rfl, OwnB.nil _ _, Below.refl _ _⟩
  case round =>
    obtain ⟨i, hi, rfl, HK, HO, HB⟩ := hrel
    by_cases h1 : i < n
    · by_cases h2 : (i : Int) < k
      · rcases HC.out with h0 | ⟨b, off, rfl, hlt, hc⟩
        · omega
        obtain ⟨p, hp⟩ : ∃ p, xs.getD i (0, 0) = p := ⟨_, rfl⟩
        have hcell := (HB.out.cell (p := ⟨b, off + i * 2, none⟩) hlt).trans (hc i h1).1
        have hcell2 := (HB.out.cell (p := ⟨b, off + i * 2 + 1, none⟩) hlt).trans (hc i h1).2
        rw [hp] at hcell hcell2
        have HP := Lib.hid hp
        have lw := HB.out.size
        have htl : (xs.take i).length = i := by have := HL.out; simp; omega
        clear hp hc
        go_wp2_with (at_builtin; refine wpList_append_own _ rfl (.tmp 18) (.tmp 23) 47 rfl w.heap.size 51 i0 _ 2 16 Tryz.underlying47 hi0 hz0 hz1 hz2 rfl (by omega) _ _ (flat (xs.take i)) rfl (World.ownsRow.alloc HO.out _) ⟨wr.heap.size, 0, none⟩ 1 1 [.int .i64 p.1, .int .u32 p.2] rfl rfl (World.news_of_block (cs := #[.int .i64 p.1, .int .u32 p.2]) (t := 51) (fr := (0, 0)) (news_one wr _)) (by simp [Value.oneCell']) (by unfold maxLen; omega) (by omega) (by simp; omega) ?_)
        intro v' w1 hown hgrow _
        have HN := Lib.hid (show OwnB w1 w.heap.size v' (xs.take (i + 1)) from by
          rw [take_snoc' xs i (by have := HL.out; omega), HP.out]
          exact OwnB.snoc hown (by rw [htl]))
        have HB2 := Lib.hid ((HB.out.alloc lw _).grown hgrow (by simp; omega) (fun k hk => HO.out.new k hk))
        clear hown hgrow htl hcell hcell2
        go_wp2
        go_roundw
        case rel => exact ⟨i + 1, by omega, by go_num, .inl (by omega), HN.out, HB2.out⟩
        case measure => simp [intOf]; omega
      · go_wp2
        go_ret
        have hk := HK.out
        exact ⟨_, rfl, by rw [show k.toNat = i by omega]; exact HO.out, HB.out⟩
    · go_wp2
      go_ret
      have hk := HK.out
      have hl := HL.out
      exact ⟨_, rfl, by rw [show xs.take k.toNat = xs.take i by rw [List.take_of_length_le (by omega), List.take_of_length_le (by omega)]]; exact HO.out, HB.out⟩

/-- One round of Into: its list and flag. -/
def stepI (x : Hit) (s : List Hit × Bool) (y : Hit) : List Hit × Bool := if s.2 = false ∧ ltH x y = true then (s.1 ++ [x, y], true) else (s.1 ++ [y], s.2)
/-- Into's list and flag, when the hits of l have been gone through. -/
def intoS (x : Hit) (l : List Hit) : List Hit × Bool := l.foldl (stepI x) ([], false)
theorem intoS_snoc (x : Hit) (l : List Hit) (y : Hit) : intoS x (l ++ [y]) = stepI x (intoS x l) y := by
  simp [intoS]
theorem into_fold (x : Hit) (l acc : List Hit) : l.foldl (stepI x) (acc, true) = (acc ++ l, true) := by
  induction l generalizing acc with
  | nil => simp
  | cons y l ih => rw [List.foldl_cons, show stepI x (acc, true) y = (acc ++ [y], true) by simp [stepI], ih]; simp
theorem into_ins (x : Hit) (l acc : List Hit) : (if (l.foldl (stepI x) (acc, false)).2 = true then (l.foldl (stepI x) (acc, false)).1 else (l.foldl (stepI x) (acc, false)).1 ++ [x]) = acc ++ ins x l := by
  induction l generalizing acc with
  | nil => simp [ins]
  | cons y l ih =>
    rw [List.foldl_cons]
    by_cases h : ltH x y = true
    · rw [show stepI x (acc, false) y = (acc ++ [x, y], true) by simp [stepI, h], into_fold]
      simp [ins, h]
    · rw [show stepI x (acc, false) y = (acc ++ [y], false) by simp [stepI, h], ih]
      simp [ins, h]
theorem intoS_ins (x : Hit) (l : List Hit) : (if (intoS x l).2 = true then (intoS x l).1 else (intoS x l).1 ++ [x]) = ins x l := by
  have := into_ins x l []
  rw [List.nil_append] at this
  exact this
theorem intoS_len (x : Hit) (l : List Hit) : (intoS x l).1.length ≤ l.length + 1 := by
  have h := congrArg List.length (intoS_ins x l)
  rw [ins_len] at h
  split at h
  · omega
  · simp at h; omega
end Go.Proofs.YtadkfedglkhgjaaGreat
