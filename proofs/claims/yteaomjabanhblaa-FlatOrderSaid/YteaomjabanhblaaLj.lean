/-
  FlatOrder holds: in what order items stand makes no difference; a filter that wants more finds no fewer; whatever comes in.
-/
import Derived.Test.YteaomjabanhblaaLh
namespace Go.Proofs.Yteaomjabanhblaa
open Go.ChangeShapes Go.WideShapes Go.ChangeAt Go.RowKit

theorem rankL_perm {m : Nat} {q : List Int} {f : Filt} {xs ys : List shItem.T} (h : xs.Perm ys) : rankL m q f xs = rankL m q f ys := sortL_eq (h.filterMap _)
theorem filterMap_more {α β : Type} (g h : α → Option β) (hgh : ∀ x, (g x).isSome = true → (h x).isSome = true) (xs : List α) : (xs.filterMap g).length ≤ (xs.filterMap h).length := by
  induction xs with
  | nil => simp
  | cons x xs ih =>
    rw [List.filterMap_cons, List.filterMap_cons]
    have := hgh x
    cases hg : g x with
    | none =>
      cases h x with
      | none => simpa using ih
      | some y => simp; omega
    | some y =>
      rw [hg] at this
      cases hh : h x with
      | none => rw [hh] at this; simp at this
      | some z => simpa using ih
theorem wantO_more (m : Nat) (q : List Int) (f : Filt) (x : shItem.T) (h : (wantO m q f x).isSome = true) : (wantO m q ⟨f.all, [], []⟩ x).isSome = true := by
  have key : ∀ (y : Int × List Int × List ByteArray × Unit), (match distV m q.length y.2.1.length q y.2.1 with | some d => if matchB f y.2.2.1 then some (d, y.1) else none | none => none).isSome = true → (match distV m q.length y.2.1.length q y.2.1 with | some d => if matchB ⟨f.all, [], []⟩ y.2.2.1 then some (d, y.1) else none | none => none).isSome = true := by
    intro y
    cases distV m q.length y.2.1.length q y.2.1 with
    | none => simp
    | some d =>
      by_cases hm : matchB f y.2.2.1 = true
      · have h2 : matchB ⟨f.all, [], []⟩ y.2.2.1 = true := by
          simp only [matchB, Bool.and_eq_true] at hm ⊢
          exact ⟨⟨hm.1.1, by simp⟩, by simp⟩
        simp [h2]
      · simp [hm]
  exact key x h
theorem rankL_more (m : Nat) (q : List Int) (f : Filt) (xs : List shItem.T) : (rankL m q f xs).length ≤ (rankL m q ⟨f.all, [], []⟩ xs).length := by
  rw [rankL, rankL, sortL_len, sortL_len]
  exact filterMap_more _ _ (wantO_more m q f) xs
/-- The turned list: from p on, then backwards to the first. -/
theorem turned_perm (xs : List shItem.T) (p : Nat) : (xs.drop p ++ (xs.take p).reverse).Perm xs := by
  refine (List.perm_append_comm).trans ?_
  refine ((List.reverse_perm _).append_right _).trans ?_
  rw [List.take_append_drop]
theorem drop_more {xs : List shItem.T} {i p : Nat} {x : shItem.T} (h : xs[i]? = some x) (hp : p ≤ i) : (xs.take (i + 1)).drop p = (xs.take i).drop p ++ [x] := by
  have hi := (List.getElem?_eq_some_iff.1 h).1
  rw [List.take_add_one, h, show (some x).toList = [x] from rfl, List.drop_append_of_le_length (by rw [List.length_take]; omega)]
theorem drop_less {xs : List shItem.T} {j p : Nat} {x : shItem.T} (h : xs[j]? = some x) (hp : j < p) : ((xs.take p).drop j).reverse = ((xs.take p).drop (j + 1)).reverse ++ [x] := by
  have hj := (List.getElem?_eq_some_iff.1 h).1
  have h2 : (xs.take p)[j]? = some x := by rw [List.getElem?_take_of_lt hp]; exact h
  obtain ⟨h3, h4⟩ := List.getElem?_eq_some_iff.1 h2
  rw [List.drop_eq_getElem_cons h3, h4, List.reverse_cons]

set_option maxRecDepth 100000 in
set_option maxHeartbeats 12800000 in
theorem order_walk (w : World) (m : Nat) (a qa : Option Addr) (n c qn qc : Nat) (xs : List shItem.T) (q : List Int) (fl : FltL) (fr : Int) (hm : m < 256) (h : Rd (fun _ => True) w shItems [.slice a n c] xs) (hq : Reads .i32 w qa qn q) (hf : fl.Rds (fun _ => True) w) :
    Calls Try.prog 5 #[.int .u8 (m : Int), .slice a n c, .slice qa qn qc, .agg fl.cells, .int .i64 fr] w fun e w' => e = .returned (.bool true) ∧ Below w.heap.size w w' := by
  obtain ⟨_, _, _, hcs, HN, _, _⟩ := Rd.slice_is (e := shItem) h
  simp only [List.cons.injEq, Value.slice.injEq, and_true] at hcs
  obtain ⟨rfl, rfl, rfl⟩ := hcs
  obtain ⟨w1, hw1⟩ : ∃ w1, w.alloc (.cells #[.slice fl.p0.1 fl.p0.2.1 fl.p0.2.2, .slice fl.p1.1 fl.p1.2.1 fl.p1.2.2, .slice fl.p2.1 fl.p2.2.1 fl.p2.2.2] 26) = w1 := ⟨_, rfl⟩
  have hb1 : Below w.heap.size w w1 := by rw [← hw1]; exact (Below.refl _ w).alloc (Nat.le_refl _) _
  have bf : Blk w1 w.heap.size 26 [.slice fl.p0.1 fl.p0.2.1 fl.p0.2.2, .slice fl.p1.1 fl.p1.2.1 fl.p1.2.2, .slice fl.p2.1 fl.p2.2.1 fl.p2.2.2] := by rw [← hw1]; exact Blk.new _ _ _
  have HB1 := Lib.hid hb1
  have HH := Lib.hid (show Rd (· < w1.heap.size) w1 shItems [.slice a n c] xs from (h.on hb1).lt.mono fun _ hk _ => hk.2)
  have HH' := Lib.hid (h.on hb1)
  have HQ := Lib.hid (hq.below (Nat.le_refl _) hb1)
  have HF := Lib.hid (hf.on hb1)
  have HM := Lib.hid hm
  have HC := Lib.hid (show ∀ w2, Below w1.heap.size w1 w2 → w2.cell? ⟨w.heap.size, 0, none⟩ = some (.slice fl.p0.1 fl.p0.2.1 fl.p0.2.2) ∧ w2.cell? ⟨w.heap.size, 1, none⟩ = some (.slice fl.p1.1 fl.p1.2.1 fl.p1.2.2) ∧ w2.cell? ⟨w.heap.size, 2, none⟩ = some (.slice fl.p2.1 fl.p2.2.1 fl.p2.2.2) from fun w2 hb2 => by
    have b1 := bf.of_eq (hb2.block _ bf.lt)
    exact ⟨b1.cell 0, b1.cell 1, b1.cell 2⟩)
  clear h hq hf hm hb1 bf
  show Calls _ _ #[_, _, _, .agg #[.slice fl.p0.1 fl.p0.2.1 fl.p0.2.2, .slice fl.p1.1 fl.p1.2.1 fl.p1.2.2, .slice fl.p2.1 fl.p2.2.1 fl.p2.2.2], _] _ _
  go_enter Try.func5, Try.ntmps5
  go_wp2_with (first | (rw [hw1]) | fail)
  clear hw1
  refine (alive10 _).mono ?_
  rintro e w2 ⟨rfl, hb2⟩
  have HB2 := Lib.hid hb2
  obtain ⟨f0, f1, f2⟩ := HC.out w2 hb2
  clear hb2
  go_wp2_with (fail)
  refine (rgreat_any w2 _ a n c xs fl (HH'.out.on HB2.out) (HF.out.on HB2.out)).mono ?_
  rintro e w3 ⟨g, rfl, hg, hb3⟩
  have HB3 := Lib.hid (HB2.out.trans (hb3.mono HB2.out.size))
  clear f0 f1 f2 hb3
  cases g with
  | true =>
    go_wp2
    go_ret
    exact ⟨rfl, below_on HB1.out HB3.out⟩
  | false =>
    have hn3 : n ≤ 300 := hg rfl
    clear hg
    by_cases hz : n = 0
    · subst hz
      obtain ⟨p, hp0⟩ : ∃ p : Nat, p = 0 := ⟨_, rfl⟩
      have hp : p ≤ 0 := by omega
      have hpz : (0 : Int) = (p : Int) := by omega
      have HPZ := Lib.hid hpz
      clear hpz hp0
      go_wp2
      go_loopw [11, 13] (fun s11 s13 wr => ∃ (i k vc : Nat) (va : Option Addr) (css : List (List Value)), p ≤ i ∧ i ≤ 0 ∧ s13 = .int .i64 (i : Int) ∧ s11 = .slice va k vc ∧ k ≤ 300 ∧ Hid (RowC w1.heap.size wr 44 3 (.slice va k vc) css ∧ css.length = k ∧ EachI w1.heap.size wr css ((xs.take i).drop p)) ∧ Hid (Below w1.heap.size w1 wr)) (fun _ s13 _ => 0 - (intOf s13).toNat)
      case atStart => exact ⟨p, 0, 0, none, [], Nat.le_refl _, hp, (by first | rfl | rw [← HPZ.out]), rfl, by omega, ⟨RowC.nil _ _ _ _, rfl, by rw [List.drop_of_length_le (by rw [List.length_take]; omega)]; exact EachI.nil _ _⟩, HB3.out⟩
      case round =>
        clear HB3 HB2
        obtain ⟨i, k, vc, va, css, hpi, hi, rfl, rfl, hk, HO, HB⟩ := hrel
        have hle := HB.out.size
        by_cases h1 : i < 0
        · omega
        · have ht : xs.take i = xs := List.take_of_length_le (by have := HN.out; omega)
          rw [ht] at HO
          have hpj : ((p : Nat) : Int) - 1 = ((p : Nat) : Int) - 1 := rfl
          obtain ⟨wo, rfl⟩ : ∃ wo : World, wo = wr := ⟨_, rfl⟩
          go_wp2
          go_loopw [11, 14] (fun s11 s14 wr => ∃ (j k vc : Nat) (va : Option Addr) (css : List (List Value)), j ≤ p ∧ s14 = .int .i64 ((j : Int) - 1) ∧ s11 = .slice va k vc ∧ k ≤ 300 ∧ Hid (RowC w1.heap.size wr 44 3 (.slice va k vc) css ∧ css.length = k ∧ EachI w1.heap.size wr css (xs.drop p ++ ((xs.take p).drop j).reverse)) ∧ Hid (Below w1.heap.size w1 wr)) (fun _ s14 _ => (intOf s14 + 1).toNat)
          case atStart => exact ⟨p, k, vc, va, css, Nat.le_refl _, (by first | rfl | (rw [← HPZ.out]; rfl)), rfl, hk, ⟨HO.out.1, HO.out.2.1, by rw [List.drop_of_length_le (l := xs.take p) (by rw [List.length_take]; omega)]; simpa using HO.out.2.2⟩, HB.out⟩
          case round =>
            clear HO HB hle
            obtain ⟨j, k, vc, va, css, hj, rfl, rfl, hk, HO, HB⟩ := hrel
            have hle := HB.out.size
            cases j with
            | succ j =>
              have := HPZ.out
              omega
            | zero =>
              obtain ⟨hro, hcl, heo⟩ := HO.out
              rw [List.drop_zero] at heo
              have hxl := HN.out
              have hperm := turned_perm xs p
              have hpl := hperm.length_eq
              have hel : css.length = 0 := by rw [heo.1, hpl]; exact hxl
              obtain ⟨a4, c4, hv4, hr4⟩ := hro.items heo (by omega)
              simp only [Value.slice.injEq] at hv4
              obtain ⟨rfl, hk4, rfl⟩ := hv4
              rw [← hk4] at hr4
              have HR4 := Lib.hid hr4
              have HRK := Lib.hid (rankL_perm (m := m) (q := q) (f := fl.f) hperm)
              have hlr : (rankL m q fl.f xs).length ≤ 300 := by
                have h1 := rankL_len m q fl.f xs
                omega
              have hlr2 : (rankL m q ⟨fl.f.all, [], []⟩ xs).length ≤ 300 := by
                have h1 := rankL_len m q ⟨fl.f.all, [], []⟩ xs
                omega
              obtain ⟨f0, f1, f2⟩ := HC.out wr HB.out
              clear hro heo hr4 HO hk4 hel hcl hperm hpl
              rw [show (((0 : Nat) : Int) - 1) = (-1 : Int) from rfl]
              go_wp2_with (fail)
              refine (rank_any wr _ m a qa 0 c qn qc xs q fl HM.out (HH'.out.on HB.out) (by omega) (HQ.out.below (Nat.le_refl _) HB.out) (HF.out.on HB.out).inn).mono ?_
              intro e w5 hp5
              obtain ⟨a5, n5, c5, rfl, hr5, hb5⟩ := hp5.read (by omega)
              have HR5 := Lib.hid hr5
              have K5 := Lib.hid hb5
              have HB5 := Lib.hid (HB.out.trans (hb5.mono HB.out.size))
              clear f0 f1 f2 hr5 hb5 hp5
              obtain ⟨f0, f1, f2⟩ := HC.out w5 HB5.out
              go_wp2_with (fail)
              refine (rank_any w5 _ m va qa k vc qn qc _ q fl HM.out (HR4.out.on K5.out) (by omega) (HQ.out.below (Nat.le_refl _) HB5.out) (HF.out.on HB5.out).inn).mono ?_
              intro e w6 hp6
              rw [HRK.out] at hp6
              obtain ⟨a6, n6, c6, rfl, hr6, hb6⟩ := hp6.read (by omega)
              have HR6 := Lib.hid hr6
              have K6 := Lib.hid hb6
              have HB6 := Lib.hid (HB5.out.trans (hb6.mono HB5.out.size))
              clear f0 f1 f2 hr6 hb6 hp6
              obtain ⟨f0, f1, f2⟩ := HC.out w6 HB6.out
              go_wp2_with (fail)
              refine (rank_any w6 _ m a qa 0 c qn qc xs q ⟨fl.p0, (none, 0, 0), (none, 0, 0), ⟨fl.f.all, [], []⟩⟩ HM.out (HH'.out.on HB6.out) (by omega) (HQ.out.below (Nat.le_refl _) HB6.out) ⟨(HF.out.on HB6.out).inn.all, SReads.nil _, SReads.nil _⟩).mono ?_
              intro e w7 hp7
              obtain ⟨a7, n7, c7, rfl, hr7, hb7⟩ := hp7.read (Nat.le_trans hlr2 (by decide))
              have K7 := Lib.hid hb7
              have HB7 := Lib.hid (HB6.out.trans (hb7.mono HB6.out.size))
              have hlen : n5 ≤ n7 := by
                rw [← HR5.out.len, ← hr7.len]
                exact rankL_more m q fl.f xs
              clear f0 f1 f2 hr7 hb7 hp7
              go_wp2_with (fail)
              refine (same_any a5 a6 n5 n6 c5 c6 _ _ w7 ((HR5.out.below (Nat.le_refl _) K6.out).below (Nat.le_refl _) K7.out) (HR6.out.below (Nat.le_refl _) K7.out)).mono ?_
              rintro e w8 ⟨rfl, hb8⟩
              rw [decide_eq_true rfl]
              have HB8 := Lib.hid (HB7.out.trans (hb8.mono HB7.out.size))
              clear hb8
              have hlb : decide ((n5 : Int) ≤ (n7 : Int)) = true := decide_eq_true (by omega)
              go_wp2
              go_ret
              exact ⟨rfl, below_on HB1.out HB8.out⟩

    · have hzb : 0 < n := by omega
      obtain ⟨p, hp, hpe⟩ : ∃ p : Nat, p ≤ n ∧ wrap64 ((IntKind.u64.wrap fr).tmod (n : Int)) = (p : Int) := by
        have h0 : 0 ≤ IntKind.u64.wrap fr := by rw [IntKind.wrap_u64]; omega
        have h1 : (IntKind.u64.wrap fr).tmod (n : Int) = IntKind.u64.wrap fr % (n : Int) := Int.tmod_eq_emod_of_nonneg h0
        have h2 := Int.emod_nonneg (IntKind.u64.wrap fr) (show (n : Int) ≠ 0 by omega)
        have h3 := Int.emod_lt_of_pos (IntKind.u64.wrap fr) (show (0 : Int) < (n : Int) by omega)
        refine ⟨(IntKind.u64.wrap fr % (n : Int)).toNat, by omega, ?_⟩
        rw [h1]
        unfold wrap64
        omega
      have HPE := Lib.hid hpe
      clear hpe hz
      go_wp2
      rw [HPE.out]
      go_loopw [11, 13] (fun s11 s13 wr => ∃ (i k vc : Nat) (va : Option Addr) (css : List (List Value)), p ≤ i ∧ i ≤ n ∧ s13 = .int .i64 (i : Int) ∧ s11 = .slice va k vc ∧ k ≤ 300 ∧ Hid (RowC w1.heap.size wr 44 3 (.slice va k vc) css ∧ css.length = k ∧ EachI w1.heap.size wr css ((xs.take i).drop p)) ∧ Hid (Below w1.heap.size w1 wr)) (fun _ s13 _ => n - (intOf s13).toNat)
      case atStart => exact ⟨p, 0, 0, none, [], Nat.le_refl _, hp, rfl, rfl, by omega, ⟨RowC.nil _ _ _ _, rfl, by rw [List.drop_of_length_le (by rw [List.length_take]; omega)]; exact EachI.nil _ _⟩, HB3.out⟩
      case round =>
        clear HB3 HB2
        obtain ⟨i, k, vc, va, css, hpi, hi, rfl, rfl, hk, HO, HB⟩ := hrel
        have hle := HB.out.size
        by_cases h1 : i < n
        · obtain ⟨b, off, id, vec, tags, ia, iN, ic, ta, tn, tc, rfl, hx, hid, HI⟩ := rd_item10 HH.out i h1
          have HN2 := Lib.hid (drop_more hx hpi)
          have hkx : k = i - p := by
            have h2 := HO.out.2.2.1
            have h3 := HO.out.2.1
            have h4 := HN.out
            rw [List.length_drop, List.length_take] at h2
            omega
          have HKX := Lib.hid hkx
          obtain ⟨t0, t1, t2, t3, t4, t5, t6⟩ := HI.out _ HB.out
          have T4 := Lib.hid t4
          clear hx t4 t5 t6 hkx
          go_wp2_with (at_builtin; refine app_c _ rfl (.tmp 40) (.tmp 45) 22 rfl Try.underlying22 (.agg #[.int .u32 0, .slice none 0 0, .slice none 0 0]) 56 item_info10 rfl (by decide) [.int .u32 (id : Int), .slice ia iN ic, .slice ta tn tc] rfl rfl HO.out.1 rfl (by simp [Value.oneCell']) hle (by have := HO.out.2.1; omega) (by have := HO.out.2.1; omega) ?_)
          intro v' w5 hr5 hk5 hg5
          obtain ⟨va', vc', hv', _⟩ := hr5.form
          have hkb := hk5.below (fun x hx => (HO.out.1.lt x (mem_ownB.1 hx)).1) hle
          have N1 := Lib.hid hr5
          have N2 := Lib.hid ((HO.out.2.2.snoc T4.out).on hkb)
          have N3 := Lib.hid (HB.out.trans hkb)
          obtain ⟨k', hk'⟩ : ∃ k', (css ++ [[Value.int .u32 (id : Int), .slice ia iN ic, .slice ta tn tc]]).length = k' := ⟨_, rfl⟩
          have hk1 : k' = k + 1 := by rw [← hk', ← HO.out.2.1]; simp
          have HK := Lib.hid hk'
          rw [hk'] at hv'
          subst hv'
          clear hr5 hk5 hg5 hkb t0 t1 t2 t3 HO hk' HB
          go_wp2
          go_roundw
          case rel => exact ⟨i + 1, k', vc', va', _, by omega, by omega, by go_num, rfl, by have := HKX.out; omega, ⟨N1.out, HK.out, by rw [HN2.out]; exact N2.out⟩, N3.out⟩
          case measure => simp [intOf]; omega
        · have ht : xs.take i = xs := List.take_of_length_le (by have := HN.out; omega)
          rw [ht] at HO
          have hpj : ((p : Nat) : Int) - 1 = ((p : Nat) : Int) - 1 := rfl
          obtain ⟨wo, rfl⟩ : ∃ wo : World, wo = wr := ⟨_, rfl⟩
          go_wp2
          go_loopw [11, 14] (fun s11 s14 wr => ∃ (j k vc : Nat) (va : Option Addr) (css : List (List Value)), j ≤ p ∧ s14 = .int .i64 ((j : Int) - 1) ∧ s11 = .slice va k vc ∧ k ≤ 300 ∧ Hid (RowC w1.heap.size wr 44 3 (.slice va k vc) css ∧ css.length = k ∧ EachI w1.heap.size wr css (xs.drop p ++ ((xs.take p).drop j).reverse)) ∧ Hid (Below w1.heap.size w1 wr)) (fun _ s14 _ => (intOf s14 + 1).toNat)
          case atStart => exact ⟨p, k, vc, va, css, Nat.le_refl _, rfl, rfl, hk, ⟨HO.out.1, HO.out.2.1, by rw [List.drop_of_length_le (l := xs.take p) (by rw [List.length_take]; omega)]; simpa using HO.out.2.2⟩, HB.out⟩
          case round =>
            clear HO HB hle
            obtain ⟨j, k, vc, va, css, hj, rfl, rfl, hk, HO, HB⟩ := hrel
            have hle := HB.out.size
            cases j with
            | succ j =>
              obtain ⟨b, off, id, vec, tags, ia, iN, ic, ta, tn, tc, rfl, hx, hid, HI⟩ := rd_item10 HH.out j (by omega)
              have HN2 := Lib.hid (show xs.drop p ++ ((xs.take p).drop j).reverse = (xs.drop p ++ ((xs.take p).drop (j + 1)).reverse) ++ [mkI id vec tags] from by rw [drop_less hx (by omega), List.append_assoc])
              have hkx : k + j + 1 = n := by
                have h2 := HO.out.2.2.1
                have h3 := HO.out.2.1
                have h4 := HN.out
                rw [List.length_append, List.length_reverse, List.length_drop, List.length_drop, List.length_take] at h2
                omega
              have HKX := Lib.hid hkx
              obtain ⟨t0, t1, t2, t3, t4, t5, t6⟩ := HI.out _ HB.out
              have T4 := Lib.hid t4
              clear hx t4 t5 t6 hkx
              have hjn : j < n := by omega
              rw [show (((j + 1 : Nat) : Int) - 1) = (j : Int) by omega]
              go_wp2_with (at_builtin; refine app_c _ rfl (.tmp 53) (.tmp 58) 22 rfl Try.underlying22 (.agg #[.int .u32 0, .slice none 0 0, .slice none 0 0]) 56 item_info10 rfl (by decide) [.int .u32 (id : Int), .slice ia iN ic, .slice ta tn tc] rfl rfl HO.out.1 rfl (by simp [Value.oneCell']) hle (by have := HO.out.2.1; omega) (by have := HO.out.2.1; omega) ?_)
              intro v' w5 hr5 hk5 hg5
              obtain ⟨va', vc', hv', _⟩ := hr5.form
              have hkb := hk5.below (fun x hx => (HO.out.1.lt x (mem_ownB.1 hx)).1) hle
              have N1 := Lib.hid hr5
              have N2 := Lib.hid ((HO.out.2.2.snoc T4.out).on hkb)
              have N3 := Lib.hid (HB.out.trans hkb)
              obtain ⟨k', hk'⟩ : ∃ k', (css ++ [[Value.int .u32 (id : Int), .slice ia iN ic, .slice ta tn tc]]).length = k' := ⟨_, rfl⟩
              have hk1 : k' = k + 1 := by rw [← hk', ← HO.out.2.1]; simp
              have HK := Lib.hid hk'
              rw [hk'] at hv'
              subst hv'
              clear hr5 hk5 hg5 hkb t0 t1 t2 t3 HO hk' HB
              go_wp2
              go_roundw
              case rel => exact ⟨j, k', vc', va', _, by omega, by go_num, rfl, by have := HKX.out; omega, ⟨N1.out, HK.out, by rw [HN2.out]; exact N2.out⟩, N3.out⟩
              case measure => first | (simp [intOf]; done) | (simp [intOf]; omega)
            | zero =>
              obtain ⟨hro, hcl, heo⟩ := HO.out
              rw [List.drop_zero] at heo
              have hxl := HN.out
              have hperm := turned_perm xs p
              have hpl := hperm.length_eq
              have hel : css.length = n := by rw [heo.1, hpl]; exact hxl
              obtain ⟨a4, c4, hv4, hr4⟩ := hro.items heo (by omega)
              simp only [Value.slice.injEq] at hv4
              obtain ⟨rfl, hk4, rfl⟩ := hv4
              rw [← hk4] at hr4
              have HR4 := Lib.hid hr4
              have HRK := Lib.hid (rankL_perm (m := m) (q := q) (f := fl.f) hperm)
              have hlr : (rankL m q fl.f xs).length ≤ 300 := by
                have h1 := rankL_len m q fl.f xs
                omega
              have hlr2 : (rankL m q ⟨fl.f.all, [], []⟩ xs).length ≤ 300 := by
                have h1 := rankL_len m q ⟨fl.f.all, [], []⟩ xs
                omega
              obtain ⟨f0, f1, f2⟩ := HC.out wr HB.out
              clear hro heo hr4 HO hk4 hel hcl hperm hpl
              rw [show (((0 : Nat) : Int) - 1) = (-1 : Int) from rfl]
              go_wp2_with (fail)
              refine (rank_any wr _ m a qa n c qn qc xs q fl HM.out (HH'.out.on HB.out) (by omega) (HQ.out.below (Nat.le_refl _) HB.out) (HF.out.on HB.out).inn).mono ?_
              intro e w5 hp5
              obtain ⟨a5, n5, c5, rfl, hr5, hb5⟩ := hp5.read (by omega)
              have HR5 := Lib.hid hr5
              have K5 := Lib.hid hb5
              have HB5 := Lib.hid (HB.out.trans (hb5.mono HB.out.size))
              clear f0 f1 f2 hr5 hb5 hp5
              obtain ⟨f0, f1, f2⟩ := HC.out w5 HB5.out
              go_wp2_with (fail)
              refine (rank_any w5 _ m va qa k vc qn qc _ q fl HM.out (HR4.out.on K5.out) (by omega) (HQ.out.below (Nat.le_refl _) HB5.out) (HF.out.on HB5.out).inn).mono ?_
              intro e w6 hp6
              rw [HRK.out] at hp6
              obtain ⟨a6, n6, c6, rfl, hr6, hb6⟩ := hp6.read (by omega)
              have HR6 := Lib.hid hr6
              have K6 := Lib.hid hb6
              have HB6 := Lib.hid (HB5.out.trans (hb6.mono HB5.out.size))
              clear f0 f1 f2 hr6 hb6 hp6
              obtain ⟨f0, f1, f2⟩ := HC.out w6 HB6.out
              go_wp2_with (fail)
              refine (rank_any w6 _ m a qa n c qn qc xs q ⟨fl.p0, (none, 0, 0), (none, 0, 0), ⟨fl.f.all, [], []⟩⟩ HM.out (HH'.out.on HB6.out) (by omega) (HQ.out.below (Nat.le_refl _) HB6.out) ⟨(HF.out.on HB6.out).inn.all, SReads.nil _, SReads.nil _⟩).mono ?_
              intro e w7 hp7
              obtain ⟨a7, n7, c7, rfl, hr7, hb7⟩ := hp7.read (Nat.le_trans hlr2 (by decide))
              have K7 := Lib.hid hb7
              have HB7 := Lib.hid (HB6.out.trans (hb7.mono HB6.out.size))
              have hlen : n5 ≤ n7 := by
                rw [← HR5.out.len, ← hr7.len]
                exact rankL_more m q fl.f xs
              clear f0 f1 f2 hr7 hb7 hp7
              go_wp2_with (fail)
              refine (same_any a5 a6 n5 n6 c5 c6 _ _ w7 ((HR5.out.below (Nat.le_refl _) K6.out).below (Nat.le_refl _) K7.out) (HR6.out.below (Nat.le_refl _) K7.out)).mono ?_
              rintro e w8 ⟨rfl, hb8⟩
              rw [decide_eq_true rfl]
              have HB8 := Lib.hid (HB7.out.trans (hb8.mono HB7.out.size))
              clear hb8
              have hlb : decide ((n5 : Int) ≤ (n7 : Int)) = true := decide_eq_true (by omega)
              go_wp2
              go_ret
              exact ⟨rfl, below_on HB1.out HB8.out⟩

theorem flatOrder_row : Rows.FlatOrderSaid :=
  OpenClaim.holds_of_wide 5 Try.f5 rfl rfl rfl rfl rfl rfl rfl ⟨rfl, rfl, rfl, rfl, rfl⟩ rfl rfl rfl rfl rfl (by kernel_rfl) Try.func5 (by kernel_rfl)
    (of_decide_eq_true (by kernel_rfl)) (by unfold Func.isWrapper; rw [if_neg (of_decide_eq_false (by kernel_rfl))]; exact ⟨rfl, rfl⟩)
    (fun os started H enc _ => lift (C := Try.checked) (s := Rows.flatOrderSpec) (conds := Rows.flatOrderRow.domain) os started H enc prog_own (by kernel_rfl) Try.func5 prog_laid rfl Try.underlying4 rfl
      (fun ds hl => by
        have hl : ds.length = 5 := hl
        match ds, hl with
        | [_, _, _, _, _], _ => rfl)
      (of_decide_eq_true (by kernel_rfl))
      (ChangeSpec.witness6 (enc := enc) (C := Try.checked) false ⟨#[], #[.int .u8 0, .slice none 0 0, .slice none 0 0, .agg #[.slice none 0 0, .slice none 0 0, .slice none 0 0], .int .i64 0], []⟩ 8 (by kernel_rfl) (by kernel_rfl) (by kernel_rfl) (by kernel_rfl))
      (fun W base args ds p g => by
        rw [Try.params5] at g
        obtain ⟨m, e0, hm⟩ := g.u8 0 rfl Try.underlying5
        obtain ⟨a, n, c, xs, e1, h1⟩ := g.items10 1 rfl
        obtain ⟨qa, qn, qc, q, e2, h2⟩ := g.vec10 2 rfl
        obtain ⟨fl, e3, h3⟩ := g.filter10 3 rfl
        obtain ⟨fr, e4, _⟩ := g.i64 4 rfl Try.underlying3
        rw [args5 g.count e0 e1 e2 e3 e4]
        exact order_walk W m a qa n c qn qc xs q fl fr hm h1 h2 h3))
end Go.Proofs.Yteaomjabanhblaa
