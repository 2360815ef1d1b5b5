/-
  The document's table of uploads: Chunk, Abort, by walks over their texts.
-/
import Derived.Test.YtdlpifcfgfhagaaSgq
namespace Go.Proofs.Ytdlpifcfgfhagaa
open Go.RowKit Go.ChangeShapes Go.WideShapes Go.ChangeAt

theorem DPost.drew {lo g last : Nat} {F : List Nat} {R : List UpR} {w w' : World} (h : DPost lo g F R last w w') : DPost lo g F R last w w'.drew := by
  obtain ⟨v, h1, h2, h3⟩ := h
  exact ⟨v, h1.on (Below.refl _ _).drew, h2.drew, h3⟩
theorem rowC_frozen {lo k g n c : Nat} {w : World} {t : TypeId} {css : List (List Value)} (h : RowC lo w t k (.slice (some ⟨g, 0, none⟩) n c) css) (j : Nat) : w.frozen? ⟨g, j, none⟩ = false := by
  rcases h.2.2 with ⟨e, _⟩ | ⟨a, cap, cur, e, _, hh, _⟩
  · cases e
  · simp only [Value.slice.injEq, Option.some.injEq, Addr.mk.injEq, and_true] at e
    obtain ⟨rfl, _⟩ := e
    simp [World.frozen?, hh]
set_option maxRecDepth 100000 in
set_option maxHeartbeats 1600000 in
theorem dchunk_none (w : World) (lo g last : Nat) (v : Value) (R : List UpR) (h : DTab w lo g v R last) (owner n page : Nat) (hno : NoUp R owner n) (ba : Option Addr) (bn bc : Nat) :
    Calls Try.prog 14 #[.pointer (some ⟨g, 0, none⟩), .int .u64 (owner : Int), .int .u32 (n : Int), .int .u32 (page : Int), .slice ba bn bc] w fun e w' => e = .returned (.int .i64 130) ∧ w = w' := by
  have AC := Lib.hid (dat_any w lo g last v R h owner n)
  have HNO := Lib.hid hno
  clear h hno
  go_enter Try.func14, Try.ntmps14
  go_wp2_with (fail)
  refine AC.out.mono ?_
  rintro e w2 ⟨⟨i, t, -, htm, hn, ho, -⟩ | ⟨-, rfl⟩, rfl⟩
  · exact absurd ⟨hn, ho⟩ (HNO.out t htm)
  go_wp2
  go_ret
  exact ⟨rfl, rfl⟩
/-- An upload's place is told: the one that is there of that number. -/
theorem dat_yes (w : World) (lo g last : Nat) (v : Value) (R : List UpR) (h : DTab w lo g v R last) (hu : R.Pairwise fun a b => a.u.n ≠ b.u.n) (i : Nat) (t : UpR) (ht : R[i]? = some t) :
    Calls Try.prog 12 #[.pointer (some ⟨g, 0, none⟩), .int .u64 (t.u.owner : Int), .int .u32 (t.u.n : Int)] w fun e w' => e = .returned (.int .i64 (i : Int)) ∧ w = w' := by
  refine (dat_any w lo g last v R h t.u.owner t.u.n).mono ?_
  rintro e w2 ⟨⟨j, s, hs, hsm, hn, -, rfl⟩ | ⟨hno, rfl⟩, rfl⟩
  · have hi := (List.getElem?_eq_some_iff.1 ht).1
    have hj := (List.getElem?_eq_some_iff.1 hs).1
    have e : i = j := by
      rw [List.pairwise_iff_getElem] at hu
      have ht' := (List.getElem?_eq_some_iff.1 ht).2
      have hs' := (List.getElem?_eq_some_iff.1 hs).2
      rcases Nat.lt_trichotomy i j with h1 | h1 | h1
      · exact absurd (by rw [ht', hs']; exact hn.symm) (hu i j hi hj h1)
      · exact h1
      · exact absurd (by rw [ht', hs']; exact hn) (hu j i hj hi h1)
    subst e
    exact ⟨rfl, rfl⟩
  · exact absurd ⟨rfl, rfl⟩ (hno t (List.mem_of_getElem? ht))
set_option maxRecDepth 100000 in
set_option maxHeartbeats 1600000 in
theorem dchunk_page (w : World) (lo g last : Nat) (v : Value) (R : List UpR) (h : DTab w lo g v R last) (hu : R.Pairwise fun a b => a.u.n ≠ b.u.n) (i : Nat) (t : UpR) (ht : R[i]? = some t) (page : Nat) (hpg : page < 4294967296) (hne : page ≠ t.u.page + 1) (ba : Option Addr) (bn bc : Nat) :
    Calls Try.prog 14 #[.pointer (some ⟨g, 0, none⟩), .int .u64 (t.u.owner : Int), .int .u32 (t.u.n : Int), .int .u32 (page : Int), .slice ba bn bc] w fun e w' => e = .returned (.int .i64 130) ∧ w = w' := by
  have AC := Lib.hid (dat_yes w lo g last v R h hu i t ht)
  have hi := (List.getElem?_eq_some_iff.1 ht).1
  have h4 := h.few
  obtain ⟨t', gr, cx, ht', rfl, _, hlt, hrg, htm⟩ := h.up i hi
  obtain rfl := Option.some.inj (ht.symm.trans ht')
  obtain ⟨m, hm⟩ : ∃ m, R.length = m := ⟨_, rfl⟩
  have c0 : w.cell? ⟨g, 0, none⟩ = some (.slice (some ⟨gr, 0, none⟩) m cx) := by rw [← hm]; exact h.blk.cell 0
  obtain ⟨-, -, -, -, q4⟩ := at_cells hrg
  have hp32 := (h.each t htm).p32
  obtain ⟨p1, hp1⟩ : ∃ p1, t.u.page + 1 = p1 := ⟨_, rfl⟩
  have hpw : IntKind.i64.wrap ((t.u.page : Int) + 1) = (p1 : Int) := by rw [IntKind.wrap_i64]; omega
  have hw64 : IntKind.i64.wrap (page : Int) = (page : Int) := by rw [IntKind.wrap_i64]; omega
  have hne1 : ((page : Int) != (p1 : Int)) = true := by rw [bne_iff_ne]; omega
  rw [hm] at hi h4
  clear h hu ht ht' hrg htm hp1 hne hm hp32
  go_enter Try.func14, Try.ntmps14
  go_wp2_with (fail)
  refine AC.out.mono ?_
  rintro e w2 ⟨rfl, rfl⟩
  go_wp2
  go_ret
  exact ⟨rfl, rfl⟩
set_option maxRecDepth 100000 in
set_option maxHeartbeats 1600000 in
theorem dchunk_full (w : World) (lo g last : Nat) (v : Value) (R : List UpR) (h : DTab w lo g v R last) (hu : R.Pairwise fun a b => a.u.n ≠ b.u.n) (i : Nat) (t : UpR) (ht : R[i]? = some t) (page : Nat) (hpg : page < 4294967296) (he : page = t.u.page + 1) (ba : Option Addr) (bn bc : Nat) (hbn : bn ≤ 140737488355328) (hl : 4096 < t.u.b.length + bn) :
    Calls Try.prog 14 #[.pointer (some ⟨g, 0, none⟩), .int .u64 (t.u.owner : Int), .int .u32 (t.u.n : Int), .int .u32 (page : Int), .slice ba bn bc] w fun e w' => e = .returned (.int .i64 4) ∧ w = w' := by
  have AC := Lib.hid (dat_yes w lo g last v R h hu i t ht)
  have hi := (List.getElem?_eq_some_iff.1 ht).1
  have h4 := h.few
  obtain ⟨t', gr, cx, ht', rfl, _, hlt, hrg, htm⟩ := h.up i hi
  obtain rfl := Option.some.inj (ht.symm.trans ht')
  obtain ⟨m, hm⟩ : ∃ m, R.length = m := ⟨_, rfl⟩
  have c0 : w.cell? ⟨g, 0, none⟩ = some (.slice (some ⟨gr, 0, none⟩) m cx) := by rw [← hm]; exact h.blk.cell 0
  obtain ⟨-, -, -, q3, q4⟩ := at_cells hrg
  have hp32 := (h.each t htm).p32
  obtain ⟨ta, tn, tc, htv, htl⟩ := (h.each t htm).row.parts
  rw [htv] at q3
  have hmost := (h.each t htm).most
  rw [htl.out] at hmost hl
  have hpw : IntKind.i64.wrap ((t.u.page : Int) + 1) = (page : Int) := by rw [IntKind.wrap_i64]; omega
  have hw64 : IntKind.i64.wrap (page : Int) = (page : Int) := by rw [IntKind.wrap_i64]; omega
  rw [hm] at hi h4
  clear h hu ht ht' hrg htm hm hp32 htv htl
  by_cases h5 : bn ≤ 5000
  · have hz : IntKind.i64.wrap (4096 - (bn : Int)) = 4096 - (bn : Int) := by rw [IntKind.wrap_i64]; omega
    have hd : (4096 : Int) - (bn : Int) < (tn : Int) := by omega
    have h5' : (bn : Int) ≤ 5000 := by omega
    go_enter Try.func14, Try.ntmps14
    go_wp2_with (fail)
    refine AC.out.mono ?_
    rintro e w2 ⟨rfl, rfl⟩
    go_wp2
    all_goals
      go_ret
      exact ⟨rfl, rfl⟩
  · have hd : (-904 : Int) < (tn : Int) := by omega
    have h5' : ¬ (bn : Int) ≤ 5000 := by omega
    go_enter Try.func14, Try.ntmps14
    go_wp2_with (fail)
    refine AC.out.mono ?_
    rintro e w2 ⟨rfl, rfl⟩
    go_wp2
    all_goals
      go_ret
      exact ⟨rfl, rfl⟩
set_option maxRecDepth 100000 in
set_option maxHeartbeats 3200000 in
theorem dchunk_ok (w : World) (lo g last : Nat) (v : Value) (R : List UpR) (h : DTab w lo g v R last) (hu : R.Pairwise fun a b => a.u.n ≠ b.u.n) (i : Nat) (t : UpR) (ht : R[i]? = some t) (hpm : t.u.page < 1000000) (page : Nat) (_hpg : page < 4294967296) (he : page = t.u.page + 1) (ba : Option Addr) (bn bc : Nat) (xs : List Nat) (hb : BReads w ba bn bc xs) (hl : t.u.b.length + bn ≤ 4096) :
    Calls Try.prog 14 #[.pointer (some ⟨g, 0, none⟩), .int .u64 (t.u.owner : Int), .int .u32 (t.u.n : Int), .int .u32 (page : Int), .slice ba bn bc] w fun e w' => e = .returned (.int .i64 0) ∧ ∃ v2, DPost lo g (fpR v g R) (R.set i ⟨v2, t.u.put xs⟩) last w w' := by
  have AC := Lib.hid (dat_yes w lo g last v R h hu i t ht)
  have hi := (List.getElem?_eq_some_iff.1 ht).1
  have h4 := h.few
  obtain ⟨t', gr, cx, ht', rfl, _, hlt, hrg, htm⟩ := h.up i hi
  obtain rfl := Option.some.inj (ht.symm.trans ht')
  have HO := h.each t htm
  obtain ⟨ta, tn, tc, htv, htl⟩ := HO.row.parts
  have HB := Lib.hid hb
  have hT : BReads w ta tn tc t.u.b := by
    obtain ⟨a', c', e', hr', -⟩ := HO.row.reads (by have := HO.most; omega)
    rw [htv] at e'
    simp only [Value.slice.injEq] at e'
    obtain ⟨rfl, rfl, rfl⟩ := e'
    exact hr'
  have HT := Lib.hid hT
  have AFT := Lib.hid (fun (w2 : World) (v2 : Value) (hbw : Below w.heap.size w w2) (ho2 : OwnV w2 w.heap.size 5 v2 (t.u.b ++ xs)) =>
    show w2.cell? ⟨g, 0, none⟩ = some (.slice (some ⟨gr, 0, none⟩) R.length cx) ∧ w2.cell? ⟨gr, i * 5 + 3, none⟩ = some (.slice ta tn tc) ∧ w2.frozen? ⟨gr, i * 5 + 3, none⟩ = false ∧ (w2.setCell ⟨gr, i * 5 + 3, none⟩ v2).cell? ⟨g, 0, none⟩ = some (.slice (some ⟨gr, 0, none⟩) R.length cx) ∧ (w2.setCell ⟨gr, i * 5 + 3, none⟩ v2).cell? ⟨gr, i * 5 + 4, none⟩ = some (.int .i64 (t.u.page : Int)) ∧ (w2.setCell ⟨gr, i * 5 + 3, none⟩ v2).frozen? ⟨gr, i * 5 + 4, none⟩ = false ∧
      ∃ w4, (w2.setCell ⟨gr, i * 5 + 3, none⟩ v2).drew.setCell ⟨gr, i * 5 + 4, none⟩ (.int .i64 (page : Int)) = w4 ∧ DPost lo g (fpR (.slice (some ⟨gr, 0, none⟩) R.length cx) g R) (R.set i ⟨v2, t.u.put xs⟩) last w w4 from by
    have h2 := h.on hbw
    have hgg : gr ≠ g := fun e => by
      have := rowC_not_blk13 h.row h.blk (by decide) gr rfl
      simp [e] at this
    have hcs : (R.map UpR.cells)[i]? = some t.cells := by rw [List.getElem?_map, ht]; rfl
    have r3 := h2.row.put i t.cells hcs 3 (by decide) v2
    have hcs3 : ((R.map UpR.cells).set i (t.cells.set 3 v2))[i]? = some (t.cells.set 3 v2) := by rw [List.getElem?_set_self (by rw [List.length_map]; exact hi)]
    have r4 := r3.put i _ hcs3 4 (by decide) (.int .i64 (page : Int))
    have hq := at_cells (show w2.rangeAt gr (i * 5) t.cells from fun j u hj => by
      obtain ⟨t2, gr2, cx2, ht2, e2, _, _, hrg2, _⟩ := h2.up i hi
      obtain rfl := Option.some.inj (ht.symm.trans ht2)
      simp only [Value.slice.injEq, Option.some.injEq, Addr.mk.injEq, and_true] at e2
      obtain ⟨rfl, _⟩ := e2
      exact hrg2 j u hj)
    have k3 : Kept [gr] w2 (w2.setCell ⟨gr, i * 5 + 3, none⟩ v2) := (Kept.refl _ _).setCell _ _ (.inl (by simp))
    have k34 : Kept [gr] w2 ((w2.setCell ⟨gr, i * 5 + 3, none⟩ v2).setCell ⟨gr, i * 5 + 4, none⟩ (.int .i64 (page : Int))) := k3.setCell _ _ (.inl (by simp))
    have hk : Kept [gr] w ((w2.setCell ⟨gr, i * 5 + 3, none⟩ v2).setCell ⟨gr, i * 5 + 4, none⟩ (.int .i64 (page : Int))) := (Kept.of_below (F := [gr]) hbw (Nat.le_refl _)).trans k34 (Grows.refl _ _)
    have hgn : g ∉ [gr] := by simpa using hgg.symm
    have b3 := k3.blk h2.blk hgn
    have e4 : (w2.setCell ⟨gr, i * 5 + 3, none⟩ v2).cell? ⟨gr, i * 5 + 4, none⟩ = some (.int .i64 (t.u.page : Int)) := by
      obtain ⟨gx, cx2, e2, _, _, hr⟩ := r3.at i _ hcs3
      simp only [Value.slice.injEq, Option.some.injEq, Addr.mk.injEq, and_true] at e2
      obtain ⟨rfl, _⟩ := e2
      exact hr 4 _ rfl
    refine ⟨h2.blk.cell 0, by rw [← htv]; exact hq.2.2.2.1, rowC_frozen h2.row _, b3.cell 0, e4, rowC_frozen r3 _, _, rfl, ?_⟩
    have D : DPost lo g (fpR (.slice (some ⟨gr, 0, none⟩) R.length cx) g R) (R.set i ⟨v2, t.u.put xs⟩) last w ((w2.setCell ⟨gr, i * 5 + 3, none⟩ v2).setCell ⟨gr, i * 5 + 4, none⟩ (.int .i64 (page : Int))) := by
      refine ⟨.slice (some ⟨gr, 0, none⟩) R.length cx, ⟨k34.blk h2.blk hgn, h.glo, ?_, fun s hs => ?_, by rw [List.length_set]; exact h.few, h.l32⟩, hk.mono (fun b hb => mem_fpR.2 (.inr (.inl (by rw [List.mem_singleton.1 hb]; rfl)))), fun b hb => ?_⟩
      · have e : (R.set i ⟨v2, t.u.put xs⟩).map UpR.cells = ((R.map UpR.cells).set i (t.cells.set 3 v2)).set i ((t.cells.set 3 v2).set 4 (.int .i64 (page : Int))) := by
          rw [List.set_set, List.map_set]
          congr 1
          rw [he]
          rfl
        rw [e]
        exact r4
      · rcases List.mem_or_eq_of_mem_set hs with hs | hs
        · exact (h2.each s hs).kept k34 (fun b e => by have := (h2.bytes_not (h2.each s hs).row b e).2; simpa using fun hh => this (by rw [hh]; rfl))
        · rw [hs]
          have ho2' : OwnV w2 lo 5 v2 (t.u.b ++ xs) := ho2.mono (Nat.le_of_lt (Nat.lt_of_le_of_lt h.glo h.blk.lt))
          refine ⟨ho2'.kept k34 (fun b e => ?_), HO.n32, HO.o64, (by show t.u.page + 1 ≤ 1000000; omega), (by show (t.u.b ++ xs).length ≤ 4096; rw [List.length_append, hb.len]; exact hl)⟩
          have := (h2.bytes_not ho2' b e).2
          simpa using fun hh => this (by rw [hh]; rfl)
      · rcases mem_fpR.1 hb with e | e | ⟨s, hs, e⟩
        · exact .inl (mem_fpR.2 (.inl e))
        · exact .inl (mem_fpR.2 (.inr (.inl e)))
        · rcases List.mem_or_eq_of_mem_set hs with hs | hs
          · exact .inl (mem_fpR.2 (.inr (.inr ⟨s, hs, e⟩)))
          · rw [hs] at e
            exact .inr (ho2.lt b e).1
    exact (show DPost lo g (fpR (.slice (some ⟨gr, 0, none⟩) R.length cx) g R) (R.set i ⟨v2, t.u.put xs⟩) last w (((w2.setCell ⟨gr, i * 5 + 3, none⟩ v2).setCell ⟨gr, i * 5 + 4, none⟩ (.int .i64 (page : Int))).drew) from D.drew))
  obtain ⟨m, hm⟩ : ∃ m, R.length = m := ⟨_, rfl⟩
  have c0 : w.cell? ⟨g, 0, none⟩ = some (.slice (some ⟨gr, 0, none⟩) m cx) := by rw [← hm]; exact h.blk.cell 0
  obtain ⟨-, -, -, q3, q4⟩ := at_cells hrg
  have hp32 := HO.p32
  rw [htv] at q3
  have hmost := HO.most
  have HL := Lib.hid hl
  have HTL := Lib.hid htl.out
  rw [htl.out] at hmost hl
  have hpw : IntKind.i64.wrap ((t.u.page : Int) + 1) = (page : Int) := by rw [IntKind.wrap_i64]; omega
  have hw64 : IntKind.i64.wrap (page : Int) = (page : Int) := by rw [IntKind.wrap_i64]; omega
  rw [hm] at hi h4 AFT ⊢
  have hz : IntKind.i64.wrap (4096 - (bn : Int)) = 4096 - (bn : Int) := by rw [IntKind.wrap_i64]; omega
  have hd : ¬ (4096 : Int) - (bn : Int) < (tn : Int) := by omega
  have h5' : (bn : Int) ≤ 5000 := by omega
  clear h hu ht ht' hrg htm hm hp32 htv htl HO hT hb hl hpm he hmost
  go_enter Try.func14, Try.ntmps14
  go_wp2_with (fail)
  refine AC.out.mono ?_
  rintro e w2 ⟨rfl, rfl⟩
  go_wp2_with (first | (at_builtin; refine app_bytes w rfl (.tmp 47) (.tmp 55) 31 5 rfl Try.underlying31 byte_info w.heap.size (.slice none 0 0) [] (by rfl) (OwnV.nil _ _ _) ta tn tc t.u.b (by rfl) HT.out (by have := HL.out; have := HTL.out; simp; omega) (Nat.le_refl _) ?_) | fail)
  intro v5 w5 ho5 hg5 _
  have B5 := Lib.hid (show Below w.heap.size w w5 from (Below.refl _ _).grown hg5 (Nat.le_refl _) (fun k hk => by cases hk))
  obtain ⟨a5, n5, c5, rfl, hn5⟩ := ho5.parts
  have O5 := Lib.hid (show OwnV w5 w.heap.size 5 (.slice a5 n5 c5) t.u.b from by simpa using ho5)
  clear ho5 hg5
  go_wp2_with (first | (at_builtin; refine app_bytes w5 rfl (.tmp 57) (.tmp 58) 31 5 rfl Try.underlying31 byte_info w.heap.size _ _ (by rfl) O5.out ba bn bc xs (by rfl) (HB.out.on B5.out) (by have := HL.out; omega) B5.out.size ?_) | fail)
  intro v6 w6 ho6 hg6 _
  have B6 := Lib.hid (show Below w.heap.size w w6 from B5.out.grown hg6 B5.out.size (fun k hk => (O5.out.lt k hk).1))
  obtain ⟨a6, n6, c6, rfl, hn6⟩ := ho6.parts
  obtain ⟨d0, d1, d2, d3, d4, d5, w9, hw9, D9⟩ := AFT.out w6 _ B6.out (by simpa using ho6)
  have D9 := Lib.hid D9
  obtain ⟨w7, hw7⟩ : ∃ w7, w6.setCell ⟨gr, i * 5 + 3, none⟩ (.slice a6 n6 c6) = w7 := ⟨_, rfl⟩
  rw [hw7] at d3 d4 d5 hw9
  have e3 : w7.drew.cell? ⟨g, 0, none⟩ = some (.slice (some ⟨gr, 0, none⟩) m cx) := d3
  have e4 : w7.drew.cell? ⟨gr, i * 5 + 4, none⟩ = some (.int .i64 (t.u.page : Int)) := d4
  have e5 : w7.drew.frozen? ⟨gr, i * 5 + 4, none⟩ = false := d5
  clear ho6 hg6 c0 q3 q4
  go_wp2_with (first | (rw [hw7]) | fail)
  go_region_law (fail)
  all_goals
    go_wp2
    go_ret
    exact ⟨rfl, _, D9.out⟩
end Go.Proofs.Ytdlpifcfgfhagaa
