/-
  FlatTags holds: what is found with a filter is what is found without it of the items that it matches, whatever comes in.
-/
import Derived.Test.YteaomjabanhblaaLh
namespace Go.Proofs.Yteaomjabanhblaa
open Go.ChangeShapes Go.WideShapes Go.ChangeAt Go.RowKit

/-- Does a filter match an item? -/
def matchI (f : Filt) : shItem.T → Bool := fun (x : Int × List Int × List ByteArray × Unit) => matchB f x.2.2.1
theorem match_all (l : List ByteArray) : matchB ⟨[], [], []⟩ l = true := rfl
theorem wantO_tags (m : Nat) (q : List Int) (f : Filt) (x : shItem.T) : (if matchI f x = true then wantO m q ⟨[], [], []⟩ x else none) = wantO m q f x := by
  have key : ∀ (y : Int × List Int × List ByteArray × Unit), (if matchB f y.2.2.1 = true then (match distV m q.length y.2.1.length q y.2.1 with | some d => if matchB ⟨[], [], []⟩ y.2.2.1 then some (d, y.1) else none | none => none) else none) = (match distV m q.length y.2.1.length q y.2.1 with | some d => if matchB f y.2.2.1 then some (d, y.1) else none | none => none) := by
    intro y
    rw [match_all]
    cases distV m q.length y.2.1.length q y.2.1 with
    | none => simp
    | some d => simp
  exact key x
theorem wantL_tags (m : Nat) (q : List Int) (f : Filt) (xs : List shItem.T) : wantL m q ⟨[], [], []⟩ (xs.filter (matchI f)) = wantL m q f xs := by
  rw [wantL, wantL, List.filterMap_filter]
  congr 1
  funext x
  exact wantO_tags m q f x

set_option maxRecDepth 100000 in
set_option maxHeartbeats 12800000 in
theorem tags_walk (w : World) (m : Nat) (a qa : Option Addr) (n c qn qc : Nat) (xs : List shItem.T) (q : List Int) (fl : FltL) (hm : m < 256) (h : Rd (fun _ => True) w shItems [.slice a n c] xs) (hq : Reads .i32 w qa qn q) (hf : fl.Rds (fun _ => True) w) :
    Calls Try.prog 6 #[.int .u8 (m : Int), .slice a n c, .slice qa qn qc, .agg fl.cells] w fun e w' => e = .returned (.bool true) ∧ Below w.heap.size w w' := by
  obtain ⟨_, _, _, hcs, HN, _, _⟩ := Rd.slice_is (e := shItem) h
  simp only [List.cons.injEq, Value.slice.injEq, and_true] at hcs
  obtain ⟨rfl, rfl, rfl⟩ := hcs
  obtain ⟨w1, hw1⟩ : ∃ w1, w.alloc (.cells #[.slice fl.p0.1 fl.p0.2.1 fl.p0.2.2, .slice fl.p1.1 fl.p1.2.1 fl.p1.2.2, .slice fl.p2.1 fl.p2.2.1 fl.p2.2.2] 26) = w1 := ⟨_, rfl⟩
  have hb1 : Below w.heap.size w w1 := by rw [← hw1]; exact (Below.refl _ w).alloc (Nat.le_refl _) _
  have bf : Blk w1 w.heap.size 26 [.slice fl.p0.1 fl.p0.2.1 fl.p0.2.2, .slice fl.p1.1 fl.p1.2.1 fl.p1.2.2, .slice fl.p2.1 fl.p2.2.1 fl.p2.2.2] := by rw [← hw1]; exact Blk.new _ _ _
  have HB1 := Lib.hid hb1
  have HH := Lib.hid (show Rd (· < w1.heap.size) w1 shItems [.slice a n c] xs from (h.on hb1).lt.mono fun _ hk _ => hk.2)
  have HH' := Lib.hid (h.on hb1)
  have HQ := Lib.hid (hq.below (Nat.le_refl _) hb1)
  have HF := Lib.hid (hf.on hb1)
  have HM := Lib.hid hm
  have HC := Lib.hid (show ∀ w2, Below w1.heap.size w1 w2 → w2.cell? ⟨w.heap.size, 0, none⟩ = some (.slice fl.p0.1 fl.p0.2.1 fl.p0.2.2) ∧ w2.cell? ⟨w.heap.size, 1, none⟩ = some (.slice fl.p1.1 fl.p1.2.1 fl.p1.2.2) ∧ w2.cell? ⟨w.heap.size, 2, none⟩ = some (.slice fl.p2.1 fl.p2.2.1 fl.p2.2.2) from fun w2 hb2 => by
    have b1 := bf.of_eq (hb2.block _ bf.lt)
    exact ⟨b1.cell 0, b1.cell 1, b1.cell 2⟩)
  clear h hq hf hm hb1 bf
  show Calls _ _ #[_, _, _, .agg #[.slice fl.p0.1 fl.p0.2.1 fl.p0.2.2, .slice fl.p1.1 fl.p1.2.1 fl.p1.2.2, .slice fl.p2.1 fl.p2.2.1 fl.p2.2.2]] _ _
  go_enter Try.func6, Try.ntmps6
  go_wp2_with (first | (rw [hw1]) | fail)
  clear hw1
  refine (alive10 _).mono ?_
  rintro e w2 ⟨rfl, hb2⟩
  have HB2 := Lib.hid hb2
  obtain ⟨f0, f1, f2⟩ := HC.out w2 hb2
  clear hb2
  go_wp2_with (fail)
  refine (rgreat_any w2 _ a n c xs fl (HH'.out.on HB2.out) (HF.out.on HB2.out)).mono ?_
  rintro e w3 ⟨g, rfl, hg, hb3⟩
  have HB3 := Lib.hid (HB2.out.trans (hb3.mono HB2.out.size))
  clear f0 f1 f2 hb3
  cases g with
  | true =>
    go_wp2
    go_ret
    exact ⟨rfl, below_on HB1.out HB3.out⟩
  | false =>
    have hn3 : n ≤ 300 := hg rfl
    clear hg
    go_wp2
    go_loopw [9, 10] (fun s9 s10 wr => ∃ (i k vc : Nat) (va : Option Addr) (css : List (List Value)), i ≤ n ∧ s10 = .int .i64 (i : Int) ∧ s9 = .slice va k vc ∧ k ≤ i ∧ Hid (RowC w1.heap.size wr 44 3 (.slice va k vc) css ∧ css.length = k ∧ EachI w1.heap.size wr css ((xs.take i).filter (matchI fl.f))) ∧ Hid (Below w1.heap.size w1 wr)) (fun _ s10 _ => n - (intOf s10).toNat)
    case atStart => exact ⟨0, 0, 0, none, [], Nat.zero_le _, rfl, rfl, Nat.le_refl _, ⟨RowC.nil _ _ _ _, rfl, EachI.nil _ _⟩, HB3.out⟩
    case round =>
      clear HB3 HB2
      obtain ⟨i, k, vc, va, css, hi, rfl, rfl, hk, HO, HB⟩ := hrel
      have hle := HB.out.size
      by_cases h1 : i < n
      · obtain ⟨b, off, id, vec, tags, ia, iN, ic, ta, tn, tc, rfl, hx, hid, HI⟩ := rd_item10 HH.out i h1
        have HX := Lib.hid hx
        obtain ⟨z, hz⟩ : ∃ z, matchB fl.f tags = z := ⟨_, rfl⟩
        have HZ := Lib.hid hz
        clear hx hz
        have HS := Lib.hid (show ∀ w', Below wr.heap.size wr w' → w'.cell? ⟨w.heap.size, 0, none⟩ = some (.slice fl.p0.1 fl.p0.2.1 fl.p0.2.2) ∧ w'.cell? ⟨w.heap.size, 1, none⟩ = some (.slice fl.p1.1 fl.p1.2.1 fl.p1.2.2) ∧ w'.cell? ⟨w.heap.size, 2, none⟩ = some (.slice fl.p2.1 fl.p2.2.1 fl.p2.2.2) ∧ w'.cell? ⟨b, off + i * 3 + 2, none⟩ = some (.slice ta tn tc) ∧ b < w'.heap.size ∧ Below wr.heap.size wr w' from fun w' hw => by
          have hbb := HB.out.trans (hw.mono HB.out.size)
          obtain ⟨d0, d1, d2⟩ := HC.out w' hbb
          have d3 := HI.out w' hbb
          exact ⟨d0, d1, d2, d3.2.2.2.1, d3.1, hw⟩)
        have HMT := Lib.hid (show ∀ w', Below wr.heap.size wr w' → Calls Try.prog 18 #[.agg #[.slice fl.p0.1 fl.p0.2.1 fl.p0.2.2, .slice fl.p1.1 fl.p1.2.1 fl.p1.2.2, .slice fl.p2.1 fl.p2.2.1 fl.p2.2.2], .slice ta tn tc] w' fun e w'' => e = .returned (.bool z) ∧ Below w'.heap.size w' w'' from fun w' hw => by
          have hbb := HB.out.trans (hw.mono HB.out.size)
          have hf := (HF.out.on hbb).inn
          have d3 := HI.out w' hbb
          have := rmatch_reads fl.p0.1 fl.p1.1 fl.p2.1 ta fl.p0.2.1 fl.p0.2.2 fl.p1.2.1 fl.p1.2.2 fl.p2.2.1 fl.p2.2.2 tn tc fl.f.all fl.f.any fl.f.none tags w' hf.all hf.any hf.none (Rd.strs d3.2.2.2.2.2.2 rfl).1
          rw [show (⟨fl.f.all, fl.f.any, fl.f.none⟩ : Filt) = fl.f from rfl, HZ.out] at this
          exact this)
        obtain ⟨s1, s2, s3, s4, s5, s6⟩ := HS.out wr (Below.refl _ _)
        go_wp2
        go_region_held3 (fun w' => w'.cell? ⟨w.heap.size, 0, none⟩ = some (.slice fl.p0.1 fl.p0.2.1 fl.p0.2.2) ∧ w'.cell? ⟨w.heap.size, 1, none⟩ = some (.slice fl.p1.1 fl.p1.2.1 fl.p1.2.2) ∧ w'.cell? ⟨w.heap.size, 2, none⟩ = some (.slice fl.p2.1 fl.p2.2.1 fl.p2.2.2) ∧ w'.cell? ⟨b, off + i * 3 + 2, none⟩ = some (.slice ta tn tc) ∧ b < w'.heap.size ∧ Below wr.heap.size wr w')
          (first
            | (go_keep; done)
            | exact HS.out _ (Below.refl _ _)
            | exact HS.out _ (Below.refl _ _).drew
            | (go_split_ands; exact HS.out _ (below_on (by assumption) hbel)))
          (first
            | (go_at_call 18; go_split_ands; refine (HMT.out _ (by assumption)).mono ?_; rintro e w' ⟨rfl, hbel⟩))
        rename_i hH
        have hb := hH.2.2.2.2.2
        have HB3 := Lib.hid (HB.out.trans (hb.mono HB.out.size))
        have R3 := Lib.hid (HO.out.1.on hb)
        have E3 := Lib.hid (HO.out.2.2.on (hb.mono hle))
        have hcl := HO.out.2.1
        obtain ⟨t0, t1, t2, t3, t4, t5, t6⟩ := HI.out _ HB3.out
        have T4 := Lib.hid t4
        have hle3 := HB3.out.size
        clear hH hb hbel s1 s2 s3 s4 s5 s6 HS HMT HO HB t4 t5 t6
        cases z
        · have HN2 := Lib.hid (show (xs.take (i + 1)).filter (matchI fl.f) = (xs.take i).filter (matchI fl.f) from by
            rw [List.take_add_one, HX.out, List.filter_append, show (some (mkI id vec tags)).toList = [mkI id vec tags] from rfl, List.filter_cons_of_neg (by rw [show matchI fl.f (mkI id vec tags) = false from HZ.out]; simp), List.filter_nil, List.append_nil])
          go_wp2
          go_roundw
          case rel => exact ⟨i + 1, k, vc, va, css, by omega, by go_num, rfl, by omega, by rw [HN2.out]; exact ⟨R3.out, hcl, E3.out⟩, HB3.out⟩
          case measure => simp [intOf]; omega
        · have HN2 := Lib.hid (show (xs.take (i + 1)).filter (matchI fl.f) = (xs.take i).filter (matchI fl.f) ++ [(mkI id vec tags)] from by
            rw [List.take_add_one, HX.out, List.filter_append, show (some (mkI id vec tags)).toList = [mkI id vec tags] from rfl, List.filter_cons_of_pos (show matchI fl.f (mkI id vec tags) = true from HZ.out), List.filter_nil])
          go_wp2_with (at_builtin; refine app_c _ rfl (.tmp 29) (.tmp 34) 22 rfl Try.underlying22 (.agg #[.int .u32 0, .slice none 0 0, .slice none 0 0]) 56 item_info10 rfl (by decide) [.int .u32 (id : Int), .slice ia iN ic, .slice ta tn tc] rfl rfl R3.out rfl (by simp [Value.oneCell']) hle3 (by omega) (by omega) ?_)
          intro v' w5 hr5 hk5 hg5
          obtain ⟨va', vc', hv', _⟩ := hr5.form
          have hkb := hk5.below (fun x hx => (R3.out.lt x (mem_ownB.1 hx)).1) hle3
          have N1 := Lib.hid hr5
          have N2 := Lib.hid ((E3.out.snoc T4.out).on hkb)
          have N3 := Lib.hid (HB3.out.trans hkb)
          obtain ⟨k', hk'⟩ : ∃ k', (css ++ [[Value.int .u32 (id : Int), .slice ia iN ic, .slice ta tn tc]]).length = k' := ⟨_, rfl⟩
          have hk1 : k' = k + 1 := by rw [← hk', ← hcl]; simp
          have HK := Lib.hid hk'
          rw [hk'] at hv'
          subst hv'
          clear hr5 hk5 hg5 hkb t0 t1 t2 t3 R3 E3 hk'
          go_wp2
          go_roundw
          case rel => exact ⟨i + 1, k', vc', va', _, by omega, by go_num, rfl, by omega, ⟨N1.out, HK.out, by rw [HN2.out]; exact N2.out⟩, N3.out⟩
          case measure => simp [intOf]; omega
      · have ht : xs.take i = xs := List.take_of_length_le (by have := HN.out; omega)
        rw [ht] at HO
        obtain ⟨hro, hcl, heo⟩ := HO.out
        have hel : css.length = (xs.filter (matchI fl.f)).length := heo.1
        have hxl := HN.out
        have hfl := List.length_filter_le (matchI fl.f) xs
        obtain ⟨a4, c4, hv4, hr4⟩ := hro.items heo (by omega)
        simp only [Value.slice.injEq] at hv4
        obtain ⟨rfl, hk4, rfl⟩ := hv4
        rw [← hk4] at hr4
        have HR4 := Lib.hid hr4
        have hkn : k ≤ 300 := by omega
        have hlr : (rankL m q fl.f xs).length ≤ 300 := by
          have h1 := rankL_len m q fl.f xs
          omega
        obtain ⟨f0, f1, f2⟩ := HC.out wr HB.out
        clear hro heo hr4 HO hk4 hel hcl hfl
        go_wp2_with (fail)
        refine (rank_any wr _ m a qa n c qn qc xs q fl HM.out (HH'.out.on HB.out) (by omega) (HQ.out.below (Nat.le_refl _) HB.out) (HF.out.on HB.out).inn).mono ?_
        intro e w5 hp
        obtain ⟨a5, n5, c5, rfl, hr5, hb5⟩ := hp.read (by omega)
        have HR5 := Lib.hid hr5
        have K5 := Lib.hid hb5
        have HB5 := Lib.hid (HB.out.trans (hb5.mono HB.out.size))
        clear f0 f1 f2 hr5 hb5 hp
        go_wp2_with (fail)
        refine (rank_any w5 _ m va qa k vc qn qc _ q flt0 HM.out (HR4.out.on K5.out) (by omega) (HQ.out.below (Nat.le_refl _) HB5.out) (flt0_in _)).mono ?_
        intro e w6 hp
        rw [show rankL m q flt0.f (xs.filter (matchI fl.f)) = rankL m q fl.f xs from congrArg sortL (wantL_tags m q fl.f xs)] at hp
        obtain ⟨a6, n6, c6, rfl, hr6, hb6⟩ := hp.read (by omega)
        have HR6 := Lib.hid hr6
        have K6 := Lib.hid hb6
        have HB6 := Lib.hid (HB5.out.trans (hb6.mono HB5.out.size))
        clear hr6 hb6 hp
        go_wp2_with (fail)
        refine (same_any a5 a6 n5 n6 c5 c6 _ _ w6 (HR5.out.below (Nat.le_refl _) K6.out) HR6.out).mono ?_
        rintro e w8 ⟨rfl, hb8⟩
        rw [decide_eq_true rfl]
        have HB8 := Lib.hid (HB6.out.trans (hb8.mono HB6.out.size))
        clear hb8
        go_wp2
        go_ret
        exact ⟨rfl, below_on HB1.out HB8.out⟩

theorem flatTags_row : Rows.FlatTagsSaid :=
  OpenClaim.holds_of_wide 6 Try.f6 rfl rfl rfl rfl rfl rfl rfl ⟨rfl, rfl, rfl, rfl, rfl⟩ rfl rfl rfl rfl rfl (by kernel_rfl) Try.func6 (by kernel_rfl)
    (of_decide_eq_true (by kernel_rfl)) (by unfold Func.isWrapper; rw [if_neg (of_decide_eq_false (by kernel_rfl))]; exact ⟨rfl, rfl⟩)
    (fun os started H enc _ => lift (C := Try.checked) (s := Rows.flatTagsSpec) (conds := Rows.flatTagsRow.domain) os started H enc prog_own (by kernel_rfl) Try.func6 prog_laid rfl Try.underlying4 rfl
      (fun ds hl => by
        have hl : ds.length = 4 := hl
        match ds, hl with
        | [_, _, _, _], _ => rfl)
      (of_decide_eq_true (by kernel_rfl))
      (ChangeSpec.witness6 (enc := enc) (C := Try.checked) false ⟨#[], #[.int .u8 0, .slice none 0 0, .slice none 0 0, .agg #[.slice none 0 0, .slice none 0 0, .slice none 0 0]], []⟩ 8 (by kernel_rfl) (by kernel_rfl) (by kernel_rfl) (by kernel_rfl))
      (fun W base args ds p g => by
        rw [Try.params6] at g
        obtain ⟨m, e0, hm⟩ := g.u8 0 rfl Try.underlying5
        obtain ⟨a, n, c, xs, e1, h1⟩ := g.items10 1 rfl
        obtain ⟨qa, qn, qc, q, e2, h2⟩ := g.vec10 2 rfl
        obtain ⟨fl, e3, h3⟩ := g.filter10 3 rfl
        rw [args4 g.count e0 e1 e2 e3]
        exact tags_walk W m a qa n c qn qc xs q fl hm h1 h2 h3))
end Go.Proofs.Yteaomjabanhblaa
