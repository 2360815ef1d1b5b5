/-
  FlatPages holds: pages that are asked one behind the other, of whatever sizes, are together all hits, each once, in order, where no two items have one Id; whatever comes in.
-/
import Derived.Test.YteaomjabanhblaaLh
namespace Go.Proofs.Yteaomjabanhblaa
open Go.ChangeShapes Go.WideShapes Go.ChangeAt Go.RowKit

def idI : shItem.T → Int := fun (x : Int × List Int × List ByteArray × Unit) => x.1
theorem wantO_id (m : Nat) (q : List Int) (f : Filt) (x : shItem.T) (h : Hit) (hw : wantO m q f x = some h) : h.2 = idI x := by
  have key : ∀ (y : Int × List Int × List ByteArray × Unit), (match distV m q.length y.2.1.length q y.2.1 with | some d => if matchB f y.2.2.1 then some (d, y.1) else none | none => none) = some h → h.2 = y.1 := by
    intro y
    cases distV m q.length y.2.1.length q y.2.1 with
    | none => simp
    | some d =>
      by_cases hm : matchB f y.2.2.1 = true
      · simp only [hm, if_true, Option.some.injEq]
        rintro rfl
        rfl
      · simp [hm]
  exact key x hw
theorem wantL_ids (m : Nat) (q : List Int) (f : Filt) (xs : List shItem.T) : ((wantL m q f xs).map Prod.snd).Sublist (xs.map idI) := by
  induction xs with
  | nil => simp [wantL]
  | cons x xs ih =>
    cases hw : wantO m q f x with
    | none =>
      rw [wantL, List.filterMap_cons_none hw]
      exact ih.trans (List.sublist_cons_self _ _)
    | some h =>
      rw [wantL, List.filterMap_cons_some hw, List.map_cons, List.map_cons, wantO_id m q f x h hw]
      exact ih.cons_cons _
theorem rankL_strict {m : Nat} {q : List Int} {f : Filt} {xs : List shItem.T} (h : (xs.map idI).Nodup) : (rankL m q f xs).Pairwise fun a b => ltH a b = true := by
  have h1 : (wantL m q f xs).Nodup := (List.pairwise_map.1 (h.sublist (wantL_ids m q f xs))).imp fun hne e => hne (congrArg Prod.snd e)
  have h2 : (rankL m q f xs).Nodup := (sortL_perm _).nodup_iff.2 h1
  refine ((sortL_order (wantL m q f xs)).and h2).imp fun {a b} hab => ?_
  cases hlt : ltH a b with
  | true => rfl
  | false => exact absurd (ge_antisymm hlt hab.1) hab.2
theorem behind_drop {S : List Hit} (h : S.Pairwise fun a b => ltH a b = true) (c : Nat) (x : Hit) (hx : S[c]? = some x) : behindL x S = S.drop (c + 1) := by
  obtain ⟨hc, he⟩ := List.getElem?_eq_some_iff.1 hx
  have hs : S = S.take c ++ x :: S.drop (c + 1) := by
    rw [← he, List.getElem_cons_drop, List.take_append_drop]
  rw [hs, List.pairwise_append] at h
  obtain ⟨_, h2, h3⟩ := h
  rw [List.pairwise_cons] at h2
  have e : behindL x S = behindL x (S.take c ++ x :: S.drop (c + 1)) := by rw [← hs]
  rw [e, behindL, List.filter_append, List.filter_cons_of_neg (by rw [ltH_irrefl]; simp)]
  rw [List.filter_eq_nil_iff.2 (fun a ha => by rw [ltH_asymm (h3 a ha x (by simp))]; simp), List.filter_eq_self.2 (fun a ha => h2.1 a ha), List.nil_append]
theorem nodup_of {xs : List shItem.T} (h : ∀ (i k : Nat) (x y : shItem.T), k < i → xs[i]? = some x → xs[k]? = some y → idI x ≠ idI y) : (xs.map idI).Nodup := by
  rw [List.Nodup, List.pairwise_map, List.pairwise_iff_getElem]
  intro k i hk hi hki
  exact fun e => h i k xs[i] xs[k] hki (List.getElem?_eq_getElem hi) (List.getElem?_eq_getElem hk) e.symm

theorem behindL_sort (last : Hit) (xs : List Hit) : sortL (behindL last xs) = behindL last (sortL xs) :=
  order_eq (sortL_order _) ((sortL_order xs).sublist List.filter_sublist) ((sortL_perm _).trans ((sortL_perm xs).filter _).symm)
theorem app_hits {ops : Array Oper} {rest : List Oper} {o : Oper} {act : Act} {Q : Exit → Act → World → Prop} (w : World) (hg : o.guard = none) (s x : Operand)
    (hop : o.op = .call { callee := .builtin .append, args := #[s, x], argTypes := #[32, 32] }) (B : Nat) (v : Value) (xs ys : List Hit) (g n : Nat) (hs : act.eval s = v)
    (hx : act.eval x = .slice (some ⟨g, 0, none⟩) n n) (hown : OwnB w B v xs) (hy : Own w 29 (.slice (some ⟨g, 0, none⟩) n n) ys) (hB : B ≤ w.heap.size) (hl : xs.length + n ≤ 2000000)
    (K : ∀ v' w', OwnB w' B v' (xs ++ ys) → w.grownBy w' v.ownBlock → wpList Try.prog ops Q rest (act.put o.dst v') w') :
    wpList Try.prog ops Q (o :: rest) act w := by
  obtain ⟨i0, hi0, hz0, hz1, hz2⟩ := info_parts hit_info
  obtain ⟨rs, hn, hb, _, _, _⟩ := hy.blk
  subst hn
  refine wpList_append_own _ hg s x 32 hop B 29 i0 _ 2 16 Try.underlying32 hi0 hz0 hz1 hz2 rfl (by omega) v xs.length (flat xs) hs hown ⟨g, 0, none⟩ ys.length ys.length (flat ys) hx (flat_len ys)
    (fun j u hj => by
      rw [addr_add, Nat.zero_add, hb.cell, List.getElem?_append_left (List.getElem?_eq_some_iff.1 hj).1]
      exact hj) (flat_one ys) (by unfold maxLen; omega) (by omega) hB ?_
  intro v' w1 h1 h2 _
  refine K v' w1 ?_ h2
  show w1.ownsRow B 29 2 v' (xs ++ ys).length (flat (xs ++ ys))
  rw [List.length_append, flat_app]
  exact h1

set_option maxRecDepth 100000 in
set_option maxHeartbeats 25600000 in
theorem pages_walk (w : World) (m : Nat) (a qa : Option Addr) (n c qn qc : Nat) (xs : List shItem.T) (q : List Int) (fl : FltL) (sa : Option Addr) (sn sc : Nat) (sz : List Int) (hm : m < 256) (h : Rd (fun _ => True) w shItems [.slice a n c] xs) (hq : Reads .i32 w qa qn q) (hf : fl.Rds (fun _ => True) w) (hsz : Reads .u8 w sa sn sz) :
    Calls Try.prog 4 #[.int .u8 (m : Int), .slice a n c, .slice qa qn qc, .agg fl.cells, .slice sa sn sc] w fun e w' => e = .returned (.bool true) ∧ Below w.heap.size w w' := by
  obtain ⟨_, _, _, hcs, HN, _, _⟩ := Rd.slice_is (e := shItem) h
  simp only [List.cons.injEq, Value.slice.injEq, and_true] at hcs
  obtain ⟨rfl, rfl, rfl⟩ := hcs
  obtain ⟨w1, hw1⟩ : ∃ w1, w.alloc (.cells #[.slice fl.p0.1 fl.p0.2.1 fl.p0.2.2, .slice fl.p1.1 fl.p1.2.1 fl.p1.2.2, .slice fl.p2.1 fl.p2.2.1 fl.p2.2.2] 26) = w1 := ⟨_, rfl⟩
  have hb1 : Below w.heap.size w w1 := by rw [← hw1]; exact (Below.refl _ w).alloc (Nat.le_refl _) _
  have bf : Blk w1 w.heap.size 26 [.slice fl.p0.1 fl.p0.2.1 fl.p0.2.2, .slice fl.p1.1 fl.p1.2.1 fl.p1.2.2, .slice fl.p2.1 fl.p2.2.1 fl.p2.2.2] := by rw [← hw1]; exact Blk.new _ _ _
  have HB1 := Lib.hid hb1
  have HH := Lib.hid (show Rd (· < w1.heap.size) w1 shItems [.slice a n c] xs from (h.on hb1).lt.mono fun _ hk _ => hk.2)
  have HH' := Lib.hid (h.on hb1)
  have HQ := Lib.hid (hq.below (Nat.le_refl _) hb1)
  have HSZ := Lib.hid (hsz.below (Nat.le_refl _) hb1)
  have HF := Lib.hid (hf.on hb1)
  have HM := Lib.hid hm
  have HC := Lib.hid (show ∀ w2, Below w1.heap.size w1 w2 → w2.cell? ⟨w.heap.size, 0, none⟩ = some (.slice fl.p0.1 fl.p0.2.1 fl.p0.2.2) ∧ w2.cell? ⟨w.heap.size, 1, none⟩ = some (.slice fl.p1.1 fl.p1.2.1 fl.p1.2.2) ∧ w2.cell? ⟨w.heap.size, 2, none⟩ = some (.slice fl.p2.1 fl.p2.2.1 fl.p2.2.2) from fun w2 hb2 => by
    have b1 := bf.of_eq (hb2.block _ bf.lt)
    exact ⟨b1.cell 0, b1.cell 1, b1.cell 2⟩)
  have hsn := hsz.small
  clear h hq hf hm hb1 bf hsz
  show Calls _ _ #[_, _, _, .agg #[.slice fl.p0.1 fl.p0.2.1 fl.p0.2.2, .slice fl.p1.1 fl.p1.2.1 fl.p1.2.2, .slice fl.p2.1 fl.p2.2.1 fl.p2.2.2], _] _ _
  go_enter Try.func4, Try.ntmps4
  go_wp2_with (first | (rw [hw1]) | fail)
  clear hw1
  refine (alive10 _).mono ?_
  rintro e w2 ⟨rfl, hb2⟩
  have HB2 := Lib.hid hb2
  obtain ⟨f0, f1, f2⟩ := HC.out w2 hb2
  clear hb2
  go_wp2_with (fail)
  refine (rgreat_any w2 _ a n c xs fl (HH'.out.on HB2.out) (HF.out.on HB2.out)).mono ?_
  rintro e w3 ⟨g, rfl, hg, hb3⟩
  have HB3 := Lib.hid (HB2.out.trans (hb3.mono HB2.out.size))
  clear f0 f1 f2 hb3
  cases g with
  | true =>
    go_wp2
    go_ret
    exact ⟨rfl, below_on HB1.out HB3.out⟩
  | false =>
    have hn3 : n ≤ 300 := hg rfl
    clear hg
    go_wp2
    go_loopw [11] (fun s11 wr => ∃ (i : Nat), i ≤ n ∧ s11 = .int .i64 (i : Int) ∧ Hid (∀ (j k : Nat) (x y : shItem.T), j < i → k < j → xs[j]? = some x → xs[k]? = some y → idI x ≠ idI y) ∧ Hid (Below w1.heap.size w1 wr)) (fun s11 _ => n - (intOf s11).toNat)
    case atStart => exact ⟨0, Nat.zero_le _, rfl, fun j k x y h => by omega, HB3.out⟩
    case round =>
      clear HB3 HB2
      obtain ⟨i, hi, rfl, HU, HB⟩ := hrel
      by_cases h1 : i < n
      · obtain ⟨b, off, id, vec, tags, ia, iN, ic, ta, tn, tc, rfl, hx, hid, HI⟩ := rd_item10 HH.out i h1
        have HX := Lib.hid hx
        clear hx
        obtain ⟨wo, rfl⟩ : ∃ wo : World, wo = wr := ⟨_, rfl⟩
        go_wp2
        go_loopw [12] (fun s12 wr => ∃ (k : Nat), k ≤ i ∧ s12 = .int .i64 (k : Int) ∧ Hid (∀ (k' : Nat) (y : shItem.T), k' < k → xs[k']? = some y → (id : Int) ≠ idI y) ∧ Hid (Below w1.heap.size w1 wr)) (fun s12 _ => i - (intOf s12).toNat)
        case atStart => exact ⟨0, Nat.zero_le _, rfl, fun k y h => by omega, HB.out⟩
        case round =>
          clear HB
          obtain ⟨k, hk, rfl, HV, HB⟩ := hrel
          by_cases h2 : k < i
          · obtain ⟨b2, off2, id2, vec2, tags2, ia2, iN2, ic2, ta2, tn2, tc2, hb2e, hx2, hid2, HI2⟩ := rd_item10 HH.out k (by omega)
            simp only [Option.some.injEq, Addr.mk.injEq, and_true] at hb2e
            obtain ⟨rfl, rfl⟩ := hb2e
            have HX2 := Lib.hid hx2
            obtain ⟨t0, t1, _⟩ := HI.out _ HB.out
            obtain ⟨_, u1, _⟩ := HI2.out _ HB.out
            have hkn : k < n := by omega
            clear hx2
            by_cases h3 : id = id2
            · have h3b : ((id : Int) == (id2 : Int)) = true := by simp [h3]
              go_wp2
              go_quiet (fail)
              go_wp2
              go_ret
              exact ⟨rfl, below_on HB1.out (below_draws HB.out nq)⟩
            · have h3b : ((id : Int) == (id2 : Int)) = false := by simp; omega
              go_wp2
              go_quiet (fail)
              have HB4 := Lib.hid (below_draws HB.out nq)
              clear t0 t1 u1 HB
              generalize wr.drewN nq = wd at *
              go_wp2
              go_roundw
              case rel => exact ⟨k + 1, by omega, by go_num, fun k' y hk' hy => by
                rcases Nat.lt_succ_iff_lt_or_eq.1 hk' with h | h
                · exact HV.out k' y h hy
                · subst h
                  rw [HX2.out] at hy
                  obtain rfl := Option.some.inj hy
                  show (id : Int) ≠ (id2 : Int)
                  omega, HB4.out⟩
              case measure => simp [intOf]; omega
          · have hki : k = i := by omega
            have HKI := Lib.hid hki
            clear hki
            go_wp2
            go_roundw
            case rel => exact ⟨i + 1, by omega, by go_num, fun j k' x y hj hk' hx hy => by
              rcases Nat.lt_succ_iff_lt_or_eq.1 hj with h | h
              · exact HU.out j k' x y h hk' hx hy
              · subst h
                rw [HX.out] at hx
                obtain rfl := Option.some.inj hx
                exact HV.out k' y (by have := HKI.out; omega) hy, HB.out⟩
            case measure => simp [intOf]; omega
      · have HST := Lib.hid (rankL_strict (m := m) (q := q) (f := fl.f) (nodup_of fun j k x y hkj hx hy => HU.out j k x y (by have := (List.getElem?_eq_some_iff.1 hx).1; have := HN.out; omega) hkj hx hy))
        have hxl := HN.out
        have hlr : (rankL m q fl.f xs).length ≤ 300 := by
          have h1 := rankL_len m q fl.f xs
          omega
        obtain ⟨f0, f1, f2⟩ := HC.out wr HB.out
        clear HU
        go_wp2_with (fail)
        refine (rank_any wr _ m a qa n c qn qc xs q fl HM.out (HH'.out.on HB.out) (by omega) (HQ.out.below (Nat.le_refl _) HB.out) (HF.out.on HB.out).inn).mono ?_
        intro e w5 hp5
        obtain ⟨a5, n5, c5, rfl, hr5, hb5⟩ := hp5.read (by omega)
        have HR5 := Lib.hid hr5
        have HB5 := Lib.hid (HB.out.trans (hb5.mono HB.out.size))
        obtain ⟨S, hS⟩ : ∃ S, rankL m q fl.f xs = S := ⟨_, rfl⟩
        have HS := Lib.hid hS
        rw [hS] at HST HR5 hlr
        have hn5 : n5 ≤ 300 := by have := HR5.out.len; omega
        clear f0 f1 f2 hr5 hb5 hp5 hS HB hxl
        go_wp2
        go_loopw [14, 15] (fun s14 s15 wr => ∃ (i c14 vc : Nat) (va : Option Addr), i ≤ n5 + 1 ∧ s15 = .int .i64 (i : Int) ∧ s14 = .slice va c14 vc ∧ c14 ≤ n5 ∧ (i ≤ c14 ∨ c14 = n5) ∧ Hid (OwnB wr w5.heap.size (.slice va c14 vc) (S.take c14)) ∧ Hid (Below w5.heap.size w5 wr)) (fun _ s15 _ => 302 - (intOf s15).toNat)
        case atStart => exact ⟨0, 0, 0, none, Nat.zero_le _, rfl, rfl, Nat.zero_le _, .inl (Nat.le_refl _), by rw [List.take_zero]; exact OwnB.nil _ _, Below.refl _ _⟩
        case round =>
          obtain ⟨i, c14, vc, va, hi, rfl, rfl, hc14, hic, HO, HB⟩ := hrel
          have hle := HB.out.size
          by_cases h1 : i ≤ n5
          · have h4 : i < 400 := by omega
            have HBW := Lib.hid (HB5.out.trans (HB.out.mono HB5.out.size))
            by_cases hs : i < sn
            · obtain ⟨b8, o8, rfl, hb8, hc8⟩ : ∃ b8 o8, sa = some ⟨b8, o8, none⟩ ∧ b8 < w1.heap.size ∧ ∀ i, i < sn → w1.cell? ⟨b8, o8 + i, none⟩ = some (.int .u8 (sz.getD i 0)) := by
                rcases HSZ.out.cells with h | h
                · omega
                · exact h
              have hz := (HBW.out.cell (p := ⟨b8, o8 + i, none⟩) hb8).trans (hc8 i hs)
              have hbz : b8 < wr.heap.size := Nat.lt_of_lt_of_le hb8 HBW.out.size
              obtain ⟨y8, hy8, hy9⟩ : ∃ y8 : Nat, sz.getD i 0 = (y8 : Int) ∧ y8 < 256 := by
                have hmem : sz.getD i 0 ∈ sz := by
                  have := HSZ.out.len
                  have hi : i < sz.length := by omega
                  rw [show sz.getD i 0 = sz[i] from by simp [List.getD, List.getElem?_eq_getElem hi]]
                  exact List.getElem_mem _
                have := u8_wf (HSZ.out.wf _ hmem)
                exact ⟨(sz.getD i 0).toNat, by omega, by omega⟩
              rw [hy8] at hz
              clear hc8 hb8
              obtain ⟨kk, hk1, hk2, hk9⟩ : ∃ kk : Nat, 1 ≤ kk ∧ kk ≤ 9 ∧ 1 + (y8 : Int) % 9 = (kk : Int) := ⟨1 + y8 % 9, by omega, by omega, by omega⟩
              have HK9 := Lib.hid hk9
              have HR := Lib.hid (show ((kk : Nat) : Int) = min (max (kk : Int) 0) 256 from by omega)
              clear hk9 hy8 hy9
              by_cases hcz : c14 = 0
              · subst hcz
                obtain ⟨f0, f1, f2⟩ := HC.out wr HBW.out
                go_wp2_with (fail)
                rw [HK9.out]
                refine (search_any wr _ m a qa n c qn qc xs q fl (kk : Int) kk HR HM.out (HH'.out.on HBW.out) (HQ.out.below (Nat.le_refl _) HBW.out) (HF.out.on HBW.out).inn).mono ?_
                intro e w6 hp6
                obtain ⟨g6, n6, rfl, ho6, hb6, _⟩ := hp6
                have HYS := Lib.hid (show keepL kk (wantL m q fl.f xs) = (S.drop 0).take kk from by rw [List.drop_zero, ← HS.out]; rfl)
                rw [HYS.out] at ho6
                clear f0 f1 f2
                have hpl : n6 ≤ kk := by
                  obtain ⟨_, h, _⟩ := ho6.blk
                  rw [List.length_take] at h
                  omega
                have hgt : decide (((kk : Int) : Int) < (n6 : Int)) = false := decide_eq_false (by omega)
                have hbl : Below w5.heap.size w5 w6 := HB.out.trans (hb6.mono hle)
                have HO6 := Lib.hid (HO.out.kept (Kept.of_below (F := []) hb6 (Nat.le_refl _)) (by simp))
                have HP6 := Lib.hid ho6
                have HB6 := Lib.hid hbl
                have hle6 := hbl.size
                have HL := Lib.hid (show S.take 0 ++ (S.drop 0).take kk = S.take (0 + kk) from List.take_add.symm)
                clear ho6 hb6 hbl HO HB
                go_wp2_with (at_builtin; refine app_hits _ rfl (.tmp 96) (.tmp 97) rfl w5.heap.size _ (S.take 0) ((S.drop 0).take kk) g6 n6 rfl rfl HO6.out HP6.out hle6 (by rw [List.length_take]; omega) ?_)
                intro v' w7 hown hgrow
                rw [show S.take kk = S.take (0 + kk) from by rw [Nat.zero_add]] at hown
                obtain ⟨va', vc', hv'⟩ := hown.own.size
                have hb7 : Below w5.heap.size w6 w7 := (Below.refl w5.heap.size w6).grown hgrow hle6 (fun k hk => HO6.out.new k hk)
                have hS5 := HR5.out.len
                have hlt : (S.take (0 + kk)).length = min (0 + kk) n5 := by rw [List.length_take]; omega
                obtain ⟨c', hc'⟩ : ∃ c', (S.take (0 + kk)).length = c' := ⟨_, rfl⟩
                have hT : S.take (0 + kk) = S.take c' := by
                  rcases Nat.le_total (0 + kk) n5 with h | h
                  · rw [← hc', hlt, Nat.min_eq_left h]
                  · rw [← hc', hlt, Nat.min_eq_right h, List.take_of_length_le (by omega), List.take_of_length_le (by omega)]
                rw [hc'] at hv' hlt
                rw [hT] at hown
                have hc5 : c' ≤ n5 := by omega
                have hci : i + 1 ≤ c' ∨ c' = n5 := by omega
                subst hv'
                have N1 := Lib.hid hown
                have N2 := Lib.hid (HB6.out.trans hb7)
                clear hown hgrow hb7 hlt hT hc' HO6 HP6 HB6
                go_wp2
                go_roundw
                case rel => exact ⟨i + 1, c', vc', va', by omega, by go_num, rfl, hc5, hci, N1.out, N2.out⟩
                case measure => simp [intOf]; omega
              · obtain ⟨d, hd⟩ : ∃ d, d + 1 = c14 := ⟨c14 - 1, by omega⟩
                have hcd : IntKind.i64.wrap ((c14 : Int) - 1) = (d : Int) := by rw [IntKind.wrap_i64]; omega
                have hcd2 : (0 : Int) ≤ (d : Int) := by omega
                have hcd3 : (d : Int) < (c14 : Int) := by omega
                have hdc : d < c14 := by omega
                have hcp : ¬ c14 = 0 := hcz
                have HD := Lib.hid hd
                clear hd hcz
                obtain ⟨a4, n4, c4, hv4, hr4⟩ := HO.out.parts10 (by rw [List.length_take]; omega)
                simp only [Value.slice.injEq] at hv4
                obtain ⟨rfl, rfl, rfl⟩ := hv4
                obtain ⟨bg, og, rfl, hbg, hcg⟩ : ∃ bg og, va = some ⟨bg, og, none⟩ ∧ bg < wr.heap.size ∧ ∀ i, i < c14 → wr.cell? ⟨bg, og + i * 2, none⟩ = some (.int .i64 ((S.take c14).getD i (0, 0)).1) ∧ wr.cell? ⟨bg, og + i * 2 + 1, none⟩ = some (.int .u32 ((S.take c14).getD i (0, 0)).2) := by
                  rcases hr4.cells with h | h
                  · omega
                  · exact h
                obtain ⟨z1, z2⟩ := hcg d hdc
                have hSl := HR5.out.len
                obtain ⟨x, hx⟩ : ∃ x, S[d]? = some x := ⟨_, List.getElem?_eq_getElem (by omega)⟩
                have hgd : (S.take c14).getD d (0, 0) = x := by
                  rw [List.getD, List.getElem?_take_of_lt hdc, hx]
                  rfl
                rw [hgd] at z1 z2
                have HYS := Lib.hid (show keepL kk (behindL x (wantL m q fl.f xs)) = (S.drop c14).take kk from by
                  rw [keepL, behindL_sort, show sortL (wantL m q fl.f xs) = S from HS.out, behind_drop HST.out d x hx, HD.out])
                have HSS := Lib.hid (show ∀ w', Below wr.heap.size wr w' → w'.cell? ⟨w.heap.size, 0, none⟩ = some (.slice fl.p0.1 fl.p0.2.1 fl.p0.2.2) ∧ w'.cell? ⟨w.heap.size, 1, none⟩ = some (.slice fl.p1.1 fl.p1.2.1 fl.p1.2.2) ∧ w'.cell? ⟨w.heap.size, 2, none⟩ = some (.slice fl.p2.1 fl.p2.2.1 fl.p2.2.2) ∧ w'.cell? ⟨bg, og + d * 2, none⟩ = some (.int .i64 x.1) ∧ w'.cell? ⟨bg, og + d * 2 + 1, none⟩ = some (.int .u32 x.2) ∧ bg < w'.heap.size ∧ Below wr.heap.size wr w' from fun w' hw => by
                  obtain ⟨d0, d1, d2⟩ := HC.out w' (HBW.out.trans (hw.mono HBW.out.size))
                  exact ⟨d0, d1, d2, (hw.cell (p := ⟨bg, _, none⟩) hbg).trans z1, (hw.cell (p := ⟨bg, _, none⟩) hbg).trans z2, Nat.lt_of_lt_of_le hbg hw.size, hw⟩)
                have HAF := Lib.hid (show ∀ w', Below wr.heap.size wr w' → Calls Try.prog 14 #[.int .u8 (m : Int), .slice a n c, .slice qa qn qc, .agg #[.slice fl.p0.1 fl.p0.2.1 fl.p0.2.2, .slice fl.p1.1 fl.p1.2.1 fl.p1.2.2, .slice fl.p2.1 fl.p2.2.1 fl.p2.2.2], .agg #[.int .i64 x.1, .int .u32 x.2], .int .i64 (1 + (y8 : Int) % 9)] w' (HitsPost ((S.drop c14).take kk) w') from fun w' hw => by
                  have hbb := HBW.out.trans (hw.mono HBW.out.size)
                  have := after_any w' _ m a qa n c qn qc xs q fl x (kk : Int) kk HR HM.out (HH'.out.on hbb) (HQ.out.below (Nat.le_refl _) hbb) (HF.out.on hbb).inn
                  rw [HYS.out] at this
                  rw [HK9.out]
                  exact this)
                obtain ⟨s1, s2, s3, s4, s5, s6, s7⟩ := HSS.out wr (Below.refl _ _)
                clear hr4 hcg z1 z2 hgd hx hbg
                go_wp2
                go_region_held3 (fun w' => w'.cell? ⟨w.heap.size, 0, none⟩ = some (.slice fl.p0.1 fl.p0.2.1 fl.p0.2.2) ∧ w'.cell? ⟨w.heap.size, 1, none⟩ = some (.slice fl.p1.1 fl.p1.2.1 fl.p1.2.2) ∧ w'.cell? ⟨w.heap.size, 2, none⟩ = some (.slice fl.p2.1 fl.p2.2.1 fl.p2.2.2) ∧ w'.cell? ⟨bg, og + d * 2, none⟩ = some (.int .i64 x.1) ∧ w'.cell? ⟨bg, og + d * 2 + 1, none⟩ = some (.int .u32 x.2) ∧ bg < w'.heap.size ∧ Below wr.heap.size wr w')
                  (first
                    | (go_keep; done)
                    | exact HSS.out _ (Below.refl _ _)
                    | exact HSS.out _ (Below.refl _ _).drew
                    | (go_split_ands; exact HSS.out _ (below_on (by assumption) hbel)))
                  (first
                    | (go_at_call 14; go_split_ands; refine (HAF.out _ (by assumption)).mono ?_; rintro e w' ⟨g6, n6, rfl, ho6, hbel, _⟩))
                rename_i hH
                rw [HK9.out]
                have hb6 := hH.2.2.2.2.2.2
                obtain ⟨w6, hw6⟩ : ∃ w6, w6 = w' := ⟨_, rfl⟩
                subst hw6
                have hpl : n6 ≤ kk := by
                  obtain ⟨_, h, _⟩ := ho6.blk
                  rw [List.length_take] at h
                  omega
                have hgt : decide (((kk : Int) : Int) < (n6 : Int)) = false := decide_eq_false (by omega)
                have hbl : Below w5.heap.size w5 w6 := HB.out.trans (hb6.mono hle)
                have HO6 := Lib.hid (HO.out.kept (Kept.of_below (F := []) hb6 (Nat.le_refl _)) (by simp))
                have HP6 := Lib.hid ho6
                have HB6 := Lib.hid hbl
                have hle6 := hbl.size
                have HL := Lib.hid (show S.take c14 ++ (S.drop c14).take kk = S.take (c14 + kk) from List.take_add.symm)
                clear ho6 hb6 hbl HO HB
                go_wp2_with (at_builtin; refine app_hits _ rfl (.tmp 96) (.tmp 97) rfl w5.heap.size _ (S.take c14) ((S.drop c14).take kk) g6 n6 rfl rfl HO6.out HP6.out hle6 (by rw [List.length_take]; omega) ?_)
                intro v' w7 hown hgrow
                rw [HL.out] at hown
                obtain ⟨va', vc', hv'⟩ := hown.own.size
                have hb7 : Below w5.heap.size w6 w7 := (Below.refl w5.heap.size w6).grown hgrow hle6 (fun k hk => HO6.out.new k hk)
                have hS5 := HR5.out.len
                have hlt : (S.take (c14 + kk)).length = min (c14 + kk) n5 := by rw [List.length_take]; omega
                obtain ⟨c', hc'⟩ : ∃ c', (S.take (c14 + kk)).length = c' := ⟨_, rfl⟩
                have hT : S.take (c14 + kk) = S.take c' := by
                  rcases Nat.le_total (c14 + kk) n5 with h | h
                  · rw [← hc', hlt, Nat.min_eq_left h]
                  · rw [← hc', hlt, Nat.min_eq_right h, List.take_of_length_le (by omega), List.take_of_length_le (by omega)]
                rw [hc'] at hv' hlt
                rw [hT] at hown
                have hc5 : c' ≤ n5 := by omega
                have hci : i + 1 ≤ c' ∨ c' = n5 := by omega
                subst hv'
                have N1 := Lib.hid hown
                have N2 := Lib.hid (HB6.out.trans hb7)
                clear hown hgrow hb7 hlt hT hc' HO6 HP6 HB6
                go_wp2
                go_roundw
                case rel => exact ⟨i + 1, c', vc', va', by omega, by go_num, rfl, hc5, hci, N1.out, N2.out⟩
                case measure => simp [intOf]; omega
            · have HR := Lib.hid (show ((1 : Nat) : Int) = min (max 1 0) 256 from by decide)
              obtain ⟨kk, hkk⟩ : ∃ kk : Nat, kk = 1 := ⟨_, rfl⟩
              have HKK := Lib.hid hkk
              clear hkk
              by_cases hcz : c14 = 0
              · subst hcz
                obtain ⟨f0, f1, f2⟩ := HC.out wr HBW.out
                go_wp2_with (fail)
                refine (search_any wr _ m a qa n c qn qc xs q fl 1 1 HR HM.out (HH'.out.on HBW.out) (HQ.out.below (Nat.le_refl _) HBW.out) (HF.out.on HBW.out).inn).mono ?_
                intro e w6 hp6
                obtain ⟨g6, n6, rfl, ho6, hb6, _⟩ := hp6
                have HYS := Lib.hid (show keepL 1 (wantL m q fl.f xs) = (S.drop 0).take 1 from by rw [List.drop_zero, ← HS.out]; rfl)
                rw [HYS.out] at ho6
                clear f0 f1 f2
                have hpl : n6 ≤ 1 := by
                  obtain ⟨_, h, _⟩ := ho6.blk
                  rw [List.length_take] at h
                  omega
                have hgt : decide ((1 : Int) < (n6 : Int)) = false := decide_eq_false (by omega)
                have hbl : Below w5.heap.size w5 w6 := HB.out.trans (hb6.mono hle)
                have HO6 := Lib.hid (HO.out.kept (Kept.of_below (F := []) hb6 (Nat.le_refl _)) (by simp))
                have HP6 := Lib.hid ho6
                have HB6 := Lib.hid hbl
                have hle6 := hbl.size
                have HL := Lib.hid (show S.take 0 ++ (S.drop 0).take 1 = S.take (0 + 1) from List.take_add.symm)
                clear ho6 hb6 hbl HO HB
                go_wp2_with (at_builtin; refine app_hits _ rfl (.tmp 96) (.tmp 97) rfl w5.heap.size _ (S.take 0) ((S.drop 0).take 1) g6 n6 rfl rfl HO6.out HP6.out hle6 (by rw [List.length_take]; omega) ?_)
                intro v' w7 hown hgrow
                rw [show S.take 1 = S.take (0 + 1) from by rw [Nat.zero_add]] at hown
                obtain ⟨va', vc', hv'⟩ := hown.own.size
                have hb7 : Below w5.heap.size w6 w7 := (Below.refl w5.heap.size w6).grown hgrow hle6 (fun k hk => HO6.out.new k hk)
                have hS5 := HR5.out.len
                have hlt : (S.take (0 + 1)).length = min (0 + 1) n5 := by rw [List.length_take]; omega
                obtain ⟨c', hc'⟩ : ∃ c', (S.take (0 + 1)).length = c' := ⟨_, rfl⟩
                have hT : S.take (0 + 1) = S.take c' := by
                  rcases Nat.le_total (0 + 1) n5 with h | h
                  · rw [← hc', hlt, Nat.min_eq_left h]
                  · rw [← hc', hlt, Nat.min_eq_right h, List.take_of_length_le (by omega), List.take_of_length_le (by omega)]
                rw [hc'] at hv' hlt
                rw [hT] at hown
                have hc5 : c' ≤ n5 := by omega
                have hci : i + 1 ≤ c' ∨ c' = n5 := by omega
                subst hv'
                have N1 := Lib.hid hown
                have N2 := Lib.hid (HB6.out.trans hb7)
                clear hown hgrow hb7 hlt hT hc' HO6 HP6 HB6
                go_wp2
                go_roundw
                case rel => exact ⟨i + 1, c', vc', va', by omega, by go_num, rfl, hc5, hci, N1.out, N2.out⟩
                case measure => simp [intOf]; omega
              · obtain ⟨d, hd⟩ : ∃ d, d + 1 = c14 := ⟨c14 - 1, by omega⟩
                have hcd : IntKind.i64.wrap ((c14 : Int) - 1) = (d : Int) := by rw [IntKind.wrap_i64]; omega
                have hcd2 : (0 : Int) ≤ (d : Int) := by omega
                have hcd3 : (d : Int) < (c14 : Int) := by omega
                have hdc : d < c14 := by omega
                have hcp : ¬ c14 = 0 := hcz
                have HD := Lib.hid hd
                clear hd hcz
                obtain ⟨a4, n4, c4, hv4, hr4⟩ := HO.out.parts10 (by rw [List.length_take]; omega)
                simp only [Value.slice.injEq] at hv4
                obtain ⟨rfl, rfl, rfl⟩ := hv4
                obtain ⟨bg, og, rfl, hbg, hcg⟩ : ∃ bg og, va = some ⟨bg, og, none⟩ ∧ bg < wr.heap.size ∧ ∀ i, i < c14 → wr.cell? ⟨bg, og + i * 2, none⟩ = some (.int .i64 ((S.take c14).getD i (0, 0)).1) ∧ wr.cell? ⟨bg, og + i * 2 + 1, none⟩ = some (.int .u32 ((S.take c14).getD i (0, 0)).2) := by
                  rcases hr4.cells with h | h
                  · omega
                  · exact h
                obtain ⟨z1, z2⟩ := hcg d hdc
                have hSl := HR5.out.len
                obtain ⟨x, hx⟩ : ∃ x, S[d]? = some x := ⟨_, List.getElem?_eq_getElem (by omega)⟩
                have hgd : (S.take c14).getD d (0, 0) = x := by
                  rw [List.getD, List.getElem?_take_of_lt hdc, hx]
                  rfl
                rw [hgd] at z1 z2
                have HYS := Lib.hid (show keepL 1 (behindL x (wantL m q fl.f xs)) = (S.drop c14).take 1 from by
                  rw [keepL, behindL_sort, show sortL (wantL m q fl.f xs) = S from HS.out, behind_drop HST.out d x hx, HD.out])
                have HSS := Lib.hid (show ∀ w', Below wr.heap.size wr w' → w'.cell? ⟨w.heap.size, 0, none⟩ = some (.slice fl.p0.1 fl.p0.2.1 fl.p0.2.2) ∧ w'.cell? ⟨w.heap.size, 1, none⟩ = some (.slice fl.p1.1 fl.p1.2.1 fl.p1.2.2) ∧ w'.cell? ⟨w.heap.size, 2, none⟩ = some (.slice fl.p2.1 fl.p2.2.1 fl.p2.2.2) ∧ w'.cell? ⟨bg, og + d * 2, none⟩ = some (.int .i64 x.1) ∧ w'.cell? ⟨bg, og + d * 2 + 1, none⟩ = some (.int .u32 x.2) ∧ bg < w'.heap.size ∧ Below wr.heap.size wr w' from fun w' hw => by
                  obtain ⟨d0, d1, d2⟩ := HC.out w' (HBW.out.trans (hw.mono HBW.out.size))
                  exact ⟨d0, d1, d2, (hw.cell (p := ⟨bg, _, none⟩) hbg).trans z1, (hw.cell (p := ⟨bg, _, none⟩) hbg).trans z2, Nat.lt_of_lt_of_le hbg hw.size, hw⟩)
                have HAF := Lib.hid (show ∀ w', Below wr.heap.size wr w' → Calls Try.prog 14 #[.int .u8 (m : Int), .slice a n c, .slice qa qn qc, .agg #[.slice fl.p0.1 fl.p0.2.1 fl.p0.2.2, .slice fl.p1.1 fl.p1.2.1 fl.p1.2.2, .slice fl.p2.1 fl.p2.2.1 fl.p2.2.2], .agg #[.int .i64 x.1, .int .u32 x.2], .int .i64 1] w' (HitsPost ((S.drop c14).take 1) w') from fun w' hw => by
                  have hbb := HBW.out.trans (hw.mono HBW.out.size)
                  have := after_any w' _ m a qa n c qn qc xs q fl x 1 1 HR HM.out (HH'.out.on hbb) (HQ.out.below (Nat.le_refl _) hbb) (HF.out.on hbb).inn
                  rw [HYS.out] at this
                  exact this)
                obtain ⟨s1, s2, s3, s4, s5, s6, s7⟩ := HSS.out wr (Below.refl _ _)
                clear hr4 hcg z1 z2 hgd hx hbg
                go_wp2
                go_region_held3 (fun w' => w'.cell? ⟨w.heap.size, 0, none⟩ = some (.slice fl.p0.1 fl.p0.2.1 fl.p0.2.2) ∧ w'.cell? ⟨w.heap.size, 1, none⟩ = some (.slice fl.p1.1 fl.p1.2.1 fl.p1.2.2) ∧ w'.cell? ⟨w.heap.size, 2, none⟩ = some (.slice fl.p2.1 fl.p2.2.1 fl.p2.2.2) ∧ w'.cell? ⟨bg, og + d * 2, none⟩ = some (.int .i64 x.1) ∧ w'.cell? ⟨bg, og + d * 2 + 1, none⟩ = some (.int .u32 x.2) ∧ bg < w'.heap.size ∧ Below wr.heap.size wr w')
                  (first
                    | (go_keep; done)
                    | exact HSS.out _ (Below.refl _ _)
                    | exact HSS.out _ (Below.refl _ _).drew
                    | (go_split_ands; exact HSS.out _ (below_on (by assumption) hbel)))
                  (first
                    | (go_at_call 14; go_split_ands; refine (HAF.out _ (by assumption)).mono ?_; rintro e w' ⟨g6, n6, rfl, ho6, hbel, _⟩))
                rename_i hH
                have hb6 := hH.2.2.2.2.2.2
                obtain ⟨w6, hw6⟩ : ∃ w6, w6 = w' := ⟨_, rfl⟩
                subst hw6
                have hpl : n6 ≤ 1 := by
                  obtain ⟨_, h, _⟩ := ho6.blk
                  rw [List.length_take] at h
                  omega
                have hgt : decide ((1 : Int) < (n6 : Int)) = false := decide_eq_false (by omega)
                have hbl : Below w5.heap.size w5 w6 := HB.out.trans (hb6.mono hle)
                have HO6 := Lib.hid (HO.out.kept (Kept.of_below (F := []) hb6 (Nat.le_refl _)) (by simp))
                have HP6 := Lib.hid ho6
                have HB6 := Lib.hid hbl
                have hle6 := hbl.size
                have HL := Lib.hid (show S.take c14 ++ (S.drop c14).take 1 = S.take (c14 + 1) from List.take_add.symm)
                clear ho6 hb6 hbl HO HB
                go_wp2_with (at_builtin; refine app_hits _ rfl (.tmp 96) (.tmp 97) rfl w5.heap.size _ (S.take c14) ((S.drop c14).take 1) g6 n6 rfl rfl HO6.out HP6.out hle6 (by rw [List.length_take]; omega) ?_)
                intro v' w7 hown hgrow
                rw [HL.out] at hown
                obtain ⟨va', vc', hv'⟩ := hown.own.size
                have hb7 : Below w5.heap.size w6 w7 := (Below.refl w5.heap.size w6).grown hgrow hle6 (fun k hk => HO6.out.new k hk)
                have hS5 := HR5.out.len
                have hlt : (S.take (c14 + 1)).length = min (c14 + 1) n5 := by rw [List.length_take]; omega
                obtain ⟨c', hc'⟩ : ∃ c', (S.take (c14 + 1)).length = c' := ⟨_, rfl⟩
                have hT : S.take (c14 + 1) = S.take c' := by
                  rcases Nat.le_total (c14 + 1) n5 with h | h
                  · rw [← hc', hlt, Nat.min_eq_left h]
                  · rw [← hc', hlt, Nat.min_eq_right h, List.take_of_length_le (by omega), List.take_of_length_le (by omega)]
                rw [hc'] at hv' hlt
                rw [hT] at hown
                have hc5 : c' ≤ n5 := by omega
                have hci : i + 1 ≤ c' ∨ c' = n5 := by omega
                subst hv'
                have N1 := Lib.hid hown
                have N2 := Lib.hid (HB6.out.trans hb7)
                clear hown hgrow hb7 hlt hT hc' HO6 HP6 HB6
                go_wp2
                go_roundw
                case rel => exact ⟨i + 1, c', vc', va', by omega, by go_num, rfl, hc5, hci, N1.out, N2.out⟩
                case measure => simp [intOf]; omega
          · have hend : c14 = n5 := by omega
            have HE := Lib.hid (show S.take c14 = S from List.take_of_length_le (by have := HR5.out.len; omega))
            obtain ⟨a7, n7, c7, hv7, hr7⟩ := HO.out.parts10 (by rw [HE.out]; omega)
            simp only [Value.slice.injEq] at hv7
            obtain ⟨rfl, rfl, rfl⟩ := hv7
            rw [HE.out] at hr7
            have HR7 := Lib.hid hr7
            have h4 : ¬ i ≤ n5 := h1
            clear hr7 hend hic
            go_wp2_with (fail)
            refine (same_any va a5 c14 n5 vc c5 S S wr HR7.out (HR5.out.below (Nat.le_refl _) HB.out)).mono ?_
            rintro e w8 ⟨rfl, hb8⟩
            rw [decide_eq_true rfl]
            have HB8 := Lib.hid ((HB5.out.trans (HB.out.mono HB5.out.size)).trans (hb8.mono (HB5.out.trans (HB.out.mono HB5.out.size)).size))
            clear hb8
            go_wp2
            go_ret
            exact ⟨rfl, below_on HB1.out HB8.out⟩

theorem flatPages_row : Rows.FlatPagesSaid :=
  OpenClaim.holds_of_wide 4 Try.f4 rfl rfl rfl rfl rfl rfl rfl ⟨rfl, rfl, rfl, rfl, rfl⟩ rfl rfl rfl rfl rfl (by kernel_rfl) Try.func4 (by kernel_rfl)
    (of_decide_eq_true (by kernel_rfl)) (by unfold Func.isWrapper; rw [if_neg (of_decide_eq_false (by kernel_rfl))]; exact ⟨rfl, rfl⟩)
    (fun os started H enc _ => lift (C := Try.checked) (s := Rows.flatPagesSpec) (conds := Rows.flatPagesRow.domain) os started H enc prog_own (by kernel_rfl) Try.func4 prog_laid rfl Try.underlying4 rfl
      (fun ds hl => by
        have hl : ds.length = 5 := hl
        match ds, hl with
        | [_, _, _, _, _], _ => rfl)
      (of_decide_eq_true (by kernel_rfl))
      (ChangeSpec.witness6 (enc := enc) (C := Try.checked) false ⟨#[], #[.int .u8 0, .slice none 0 0, .slice none 0 0, .agg #[.slice none 0 0, .slice none 0 0, .slice none 0 0], .slice none 0 0], []⟩ 8 (by kernel_rfl) (by kernel_rfl) (by kernel_rfl) (by kernel_rfl))
      (fun W base args ds p g => by
        rw [Try.params4] at g
        obtain ⟨m, e0, hm⟩ := g.u8 0 rfl Try.underlying5
        obtain ⟨a, n, c, xs, e1, h1⟩ := g.items10 1 rfl
        obtain ⟨qa, qn, qc, q, e2, h2⟩ := g.vec10 2 rfl
        obtain ⟨fl, e3, h3⟩ := g.filter10 3 rfl
        obtain ⟨sa, sn, sc, sz, e4, h4⟩ := g.sizes10 4 rfl
        rw [args5 g.count e0 e1 e2 e3 e4]
        exact pages_walk W m a qa n c qn qc xs q fl sa sn sc sz hm h1 h2 h3 h4))
end Go.Proofs.Yteaomjabanhblaa
