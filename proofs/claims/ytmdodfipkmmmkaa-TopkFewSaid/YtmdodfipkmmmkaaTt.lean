/-
  TopkMerges holds: of any two lists of hits and any k Merge tells the document's least ones, in order; what came in reads as before.
-/
import Derived.Test.YtmdodfipkmmmkaaRows
import Derived.Test.YtmdodfipkmmmkaaFr
import Derived.Test.YtmdodfipkmmmkaaTs
import Derived.Deep.SlicePairs
import Derived.Laws.AppendOwnNone
namespace Go.Proofs.Ytmdodfipkmmmkaa
open Go.ChangeShapes Go.WideShapes Go.ChangeAt Go.RowKit

theorem prog_own : ownKnob Try.prog.godebug = none := by kernel_rfl
theorem prog_laid : laidOutB Try.prog = true := by kernel_rfl

/-- A parameter that is a slice of hits. -/
theorem Given.hits {H : Type} {enc : TypeId × Value → H} {W : World} {base : Nat} {ts : Array TypeId} {args : Array Value} {ds : List (DataW H)} {p : List MemPlace} (g : Given enc Try.prog W base ts args ds p) (j : Nat) (ht : ts[j]? = some 22) :
    ∃ a n cap xs, args[j]? = some (.slice a n cap) ∧ HReads W a n xs ∧ (a = none → n = 0 ∧ cap = 0) ∧ n ≤ cap := by
  obtain ⟨v, d, q, e1, e2, h0, hq, hok⟩ := g.at j ht
  obtain ⟨a, n, cap, rfl⟩ := okWide_slice Try.underlying22 hok
  obtain ⟨fuel, hf⟩ := h0
  rcases Go.Deep.open_slice_pairs Try.underlying22 Try.underlying29 (by kernel_rfl) rfl rfl (by kernel_rfl) (by kernel_rfl) hf with ⟨hcs, _⟩ | ⟨x, l, c, m, nn, V0, V1, D0, D1, P0, P1, hcs, _, hl, hm, hmm, hx, hcell⟩
  · simp [Value.cells] at hcs
    obtain ⟨rfl, rfl, rfl⟩ := hcs
    exact ⟨_, _, _, [], e1, ⟨rfl, by omega, .inl rfl⟩, fun _ => ⟨rfl, rfl⟩, Nat.le_refl _⟩
  · simp [Value.cells] at hcs
    obtain ⟨rfl, rfl, rfl⟩ := hcs
    simp only [Prod.mk.injEq] at hx
    obtain ⟨rfl, rfl⟩ := hx
    simp only [if_true] at hmm
    subst hmm
    have hs := sized_slice g.size (j := j) (t := 22) (e := 29) (by simpa using ht) e2 Try.underlying22
    have hby : Try.prog.bytesOf 29 = 16 := by kernel_rfl
    rw [hby] at hs
    simp only [List.length_map, List.length_range, reachBytes] at hs
    have hcl : ∀ i, ∃ y : Hit, i < n → W.cell? (x.add (i * 2)) = some (.int .i64 y.1) ∧ W.cell? (x.add (i * 2 + 1)) = some (.int .u32 y.2) := by
      intro i
      by_cases hi : i < n
      · obtain ⟨k0, k1, t0, t1⟩ := hcell i (by omega)
        obtain ⟨a, e0, h0, _⟩ := DataW.trod_int Try.underlying2 t0
        obtain ⟨b, e1', h1, _⟩ := DataW.trod_int Try.underlying27 t1
        simp at e0 e1'
        exact ⟨(a, b), fun _ => ⟨by rw [k0, e0], by rw [k1, e1']⟩⟩
      · exact ⟨(0, 0), fun h => absurd h hi⟩
    obtain ⟨f, hf'⟩ := Classical.axiomOfChoice hcl
    refine ⟨_, _, _, (List.range n).map f, e1, ⟨by simp, by omega, ?_⟩, (fun h => by cases h), hl⟩
    by_cases h0 : n = 0
    · exact .inl h0
    · right
      obtain ⟨b, off, spot⟩ := x
      have hspot : spot = none := by simpa [Addr.add] using World.cell?_spot (hf' 0 (by omega)).1
      subst hspot
      refine ⟨b, off, rfl, g.lt (.cell b off) (hq _ (List.mem_append_left _ (MemPlace.mem_row.2 ⟨0, by omega, by simp⟩))), fun i hi => ?_⟩
      have := hf' i hi
      rw [addr_add, addr_add] at this
      rw [← Nat.add_assoc] at this
      simpa [List.getD, hi] using this

/-- append(v, xs..), v a row of hits of the call's own, the source any slice of hits that reads. -/
theorem app_reads {ops : Array Oper} {rest : List Oper} {o : Oper} {act : Act} {Q : Exit → Act → World → Prop} (w : World) (hg : o.guard = none) (s x : Operand)
    (hop : o.op = .call { callee := .builtin .append, args := #[s, x], argTypes := #[22, 22] }) (B : Nat) (v : Value) (zs : List Hit) (hs : act.eval s = v)
    (hown : OwnB w B v zs) (a : Option Addr) (n cap : Nat) (xs : List Hit) (hx : act.eval x = .slice a n cap) (h : HReads w a n xs) (hn : a = none → n = 0 ∧ cap = 0)
    (hb : zs.length + n ≤ 1000000) (hbase : B ≤ w.heap.size)
    (K : ∀ v' w', OwnB w' B v' (zs ++ xs) → w.grownBy w' v.ownBlock → wpList Try.prog ops Q rest (act.put o.dst v') w') : wpList Try.prog ops Q (o :: rest) act w := by
  obtain ⟨i0, hi, hz0, hz1, hz2⟩ := info_parts hit_info
  cases a with
  | none =>
    obtain ⟨rfl, rfl⟩ := hn rfl
    have hxs : xs = [] := List.eq_nil_of_length_eq_zero h.len
    subst hxs
    refine wpList_append_own_none hg s x 22 hop B 29 i0 2 Try.underlying22 hi v zs.length _ hs hown hx ?_
    exact K v w (by simpa using hown) (World.grownBy.refl _ _)
  | some ad =>
    have hfl := flat_len xs
    refine wpList_append_own _ hg s x 22 hop B 29 i0 _ 2 16 Try.underlying22 hi hz0 hz1 hz2 rfl (by decide) v zs.length _ hs hown ad n cap (flat xs) hx (by rw [hfl, h.len]) ?_ (flat_one xs) (by unfold maxLen; omega) (by omega) hbase ?_
    · intro j u hu
      have hj : j < n * 2 := by
        have := (List.getElem?_eq_some_iff.1 hu).1
        rw [hfl, h.len] at this
        exact this
      rcases h.cells with h0 | ⟨b, off, e, _, hc⟩
      · omega
      · obtain rfl := Option.some.inj e
        rw [addr_add]
        have hlen := h.len
        rcases Nat.mod_two_eq_zero_or_one j with hm | hm
        · obtain ⟨i, rfl⟩ : ∃ i, j = i * 2 := ⟨j / 2, by omega⟩
          rw [(hc i (by omega)).1, ← hu, flat_fst xs i (by omega)]
        · obtain ⟨i, rfl⟩ : ∃ i, j = i * 2 + 1 := ⟨j / 2, by omega⟩
          rw [← Nat.add_assoc, (hc i (by omega)).2, ← hu, flat_snd xs i (by omega)]
    · intro v' w' h1 h2 _
      refine K v' w' ?_ h2
      unfold OwnB
      rw [flat_app, List.length_append, h.len]
      exact h1

theorem OwnB.parts {w : World} {B : Nat} {v : Value} {xs : List Hit} (h : OwnB w B v xs) : ∃ a n c, v = .slice a n c ∧ Hid (xs.length = n) := by
  obtain ⟨a, c, e⟩ := h.own.size
  exact ⟨a, _, c, e, rfl⟩

set_option maxHeartbeats 1600000 in
theorem merges_walk (a1 a2 : Option Addr) (n1 n2 cap1 cap2 : Nat) (l1 l2 : List Hit) (k : Int) (w : World) (h1 : HReads w a1 n1 l1) (h2 : HReads w a2 n2 l2) (hn1 : n1 ≤ 200) (hn2 : n2 ≤ 200) (m1 : a1 = none → n1 = 0 ∧ cap1 = 0) (m2 : a2 = none → n2 = 0 ∧ cap2 = 0) :
    Calls Try.prog 5 #[.slice a1 n1 cap1, .slice a2 n2 cap2, .int .i64 k] w fun e w' => e = .returned (.bool true) ∧ Below w.heap.size w w' := by
  have H1 := Lib.hid h1
  have H2 := Lib.hid h2
  have M1 := Lib.hid m1
  have M2 := Lib.hid m2
  have L1 := Lib.hid h1.len
  have L2 := Lib.hid h2.len
  clear h1 h2 m1 m2
  go_enter Try.func5, Try.ntmps5
  go_wp2_with (fail)
  refine (alive2 w).mono ?_
  rintro e w1 ⟨rfl, hb1⟩
  have B1 := Lib.hid hb1
  have lw1 := hb1.size
  clear hb1
  go_wp2_with (at_builtin; refine app_reads _ rfl (.tmp 18) (.tmp 19) rfl w.heap.size _ [] rfl (World.ownsRow_made w1 #[] 0 lw1 (by decide) rfl) a1 n1 cap1 l1 rfl ((H1.out.below (Nat.le_refl _) B1.out).below (Nat.le_refl _) ((Below.refl _ _).alloc (Nat.le_refl _) _)) M1.out (by simp; omega) (by simp; omega) ?_)
  intro v1 w2 o1 g1
  have B2 := Lib.hid ((B1.out.alloc lw1 _).grown g1 (by simp; omega) (fun k hk => by simp [Value.ownBlock] at hk; omega))
  have O1 := Lib.hid o1
  clear o1 g1
  go_wp2_with (at_builtin; refine app_reads _ rfl (.tmp 20) (.tmp 21) rfl w.heap.size _ l1 rfl O1.out a2 n2 cap2 l2 rfl (H2.out.below (Nat.le_refl _) B2.out) M2.out (by have := L1.out; omega) B2.out.size ?_)
  intro v2 w3 o2 g2
  have B3 := Lib.hid (B2.out.grown g2 B2.out.size (fun k hk => O1.out.new k hk))
  obtain ⟨a3, c3, rfl⟩ := o2.own.size
  have hlen : (l1 ++ l2).length = n1 + n2 := by have := L1.out; have := L2.out; simp; omega
  have o3 := HReads.of_own o2.own (by omega)
  rw [hlen] at o3 ⊢
  have O2 := Lib.hid o3
  clear o2 o3 g2 O1 hlen
  go_wp2_with (fail)
  refine (sort_any a3 _ c3 _ w3 O2.out (by omega)).mono ?_
  rintro e w4 ⟨v4, rfl, o4, b4⟩
  obtain ⟨a4, c4, rfl⟩ := o4.own.size
  have hl4 : (sortL (l1 ++ l2)).length = n1 + n2 := by rw [sortL_len]; have := L1.out; have := L2.out; simp; omega
  have o5 := HReads.of_own o4.own (by omega)
  rw [hl4] at o5 ⊢
  have O4 := Lib.hid o5
  have B4 := Lib.hid (B3.out.trans (b4.mono B3.out.size))
  clear o4 o5 b4 hl4 O2
  obtain ⟨room, hroom⟩ : ∃ room : Nat, (room : Int) = max k 0 := ⟨(max k 0).toNat, by omega⟩
  have HRM := Lib.hid hroom
  clear hroom
  go_wp2_with (fail)
  refine (merge_any a1 a2 n1 n2 cap1 cap2 room l1 l2 k HRM w4 (H1.out.below (Nat.le_refl _) B4.out) (H2.out.below (Nat.le_refl _) B4.out) (by omega) (by omega)).mono ?_
  rintro e w5 ⟨g5, n5, rfl, o5, b5, hg5⟩
  have O5 := Lib.hid (HReads.of_own o5 (by have := L1.out; have := L2.out; rw [keepL, List.length_take, sortL_len, List.length_append]; omega))
  have O45 := Lib.hid (O4.out.below (Nat.le_refl _) b5)
  have B5 := Lib.hid (B4.out.trans (b5.mono B4.out.size))
  clear o5 b5 hg5 O4
  go_wp2_with (fail)
  refine (first_any a4 _ c4 k _ w5 O45.out).mono ?_
  rintro e w6 ⟨v6, rfl, o6, b6⟩
  obtain ⟨a6, n6, c6, rfl, hn6⟩ := o6.parts
  have O6 := Lib.hid (HReads.of_own o6.own (by have := L1.out; have := L2.out; rw [List.length_take, sortL_len]; simp; omega))
  have O56 := Lib.hid (O5.out.below (Nat.le_refl _) b6)
  have B6 := Lib.hid (B5.out.trans (b6.mono B5.out.size))
  clear o6 b6 O5 O45
  go_wp2_with (fail)
  refine (same_any _ _ _ _ _ _ _ _ w6 O56.out O6.out).mono ?_
  rintro e w7 ⟨rfl, b7⟩
  have B7 := Lib.hid (B6.out.trans (b7.mono B6.out.size))
  clear b7 O56 O6
  go_wp2
  go_ret
  refine ⟨ret_bool ?_, B7.out⟩
  have hr := HRM.out
  apply decide_eq_true
  rw [keepL, show k.toNat = room by omega]

set_option maxHeartbeats 800000 in
theorem merges_out (a1 a2 : Option Addr) (n1 n2 cap1 cap2 : Nat) (k : Int) (w : World) (hn1 : n1 ≤ 140737488351232) (hn2 : n2 ≤ 140737488351232) (h : 200 < n1 ∨ 200 < n2) :
    Calls Try.prog 5 #[.slice a1 n1 cap1, .slice a2 n2 cap2, .int .i64 k] w fun e w' => e = .returned (.bool true) ∧ Below w.heap.size w w' := by
  by_cases h1 : 200 < n1
  · clear h
    go_enter Try.func5, Try.ntmps5
    go_wp2_with (fail)
    refine (alive2 w).mono ?_
    rintro e w1 ⟨rfl, hb1⟩
    go_wp2
    go_ret
    exact ⟨rfl, hb1⟩
  · have h2 : 200 < n2 := by omega
    clear h
    go_enter Try.func5, Try.ntmps5
    go_wp2_with (fail)
    refine (alive2 w).mono ?_
    rintro e w1 ⟨rfl, hb1⟩
    go_wp2
    go_ret
    exact ⟨rfl, hb1⟩

theorem merges_row : Rows.TopkMergesSaid :=
  OpenClaim.holds_of_wide 5 Try.f5 rfl rfl rfl rfl rfl rfl rfl ⟨rfl, rfl, rfl, rfl, rfl⟩ rfl rfl rfl rfl rfl (by kernel_rfl) Try.func5 (by kernel_rfl)
    (of_decide_eq_true (by kernel_rfl)) (by unfold Func.isWrapper; rw [if_neg (of_decide_eq_false (by kernel_rfl))]; exact ⟨rfl, rfl⟩)
    (fun os started H enc _ => lift (C := Try.checked) (s := Rows.topkMergesSpec) (conds := Rows.topkMergesRow.domain) os started H enc prog_own (by kernel_rfl) Try.func5 prog_laid rfl Try.underlying4 rfl
      (fun ds hl => by
        have hl : ds.length = 3 := hl
        match ds, hl with
        | [_, _, _], _ => rfl)
      (of_decide_eq_true (by kernel_rfl))
      (ChangeSpec.witness6 (enc := enc) (C := Try.checked) false ⟨#[], #[.slice none 0 0, .slice none 0 0, .int .i64 0], []⟩ 8 (by kernel_rfl) (by kernel_rfl) (by kernel_rfl) (by kernel_rfl))
      (fun W base args ds p g => by
        rw [Try.params5] at g
        obtain ⟨a1, n1, cap1, l1, e0, h1, m1, _⟩ := g.hits 0 rfl
        obtain ⟨a2, n2, cap2, l2, e1, h2, m2, _⟩ := g.hits 1 rfl
        obtain ⟨k, e2, _⟩ := g.int 2 rfl Try.underlying3
        rw [args3 g.count e0 e1 e2]
        by_cases hn : n1 ≤ 200 ∧ n2 ≤ 200
        · exact merges_walk a1 a2 n1 n2 cap1 cap2 l1 l2 k W h1 h2 hn.1 hn.2 m1 m2
        · exact merges_out a1 a2 n1 n2 cap1 cap2 k W (by have := h1.small; omega) (by have := h2.small; omega) (by omega)))
end Go.Proofs.Ytmdodfipkmmmkaa
