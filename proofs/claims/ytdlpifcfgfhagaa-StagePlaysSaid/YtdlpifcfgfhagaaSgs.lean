/-
  The document's table of uploads: Abort, Commit, Leave, by walks over their texts.
-/
import Derived.Test.YtdlpifcfgfhagaaSgr
import Derived.Test.YtdlpifcfgfhagaaWc
import Derived.Test.YtdlpifcfgfhagaaNxC
namespace Go.Proofs.Ytdlpifcfgfhagaa
open Go.RowKit Go.ChangeShapes Go.WideShapes Go.ChangeAt

set_option maxRecDepth 100000 in
set_option maxHeartbeats 1600000 in
theorem dabort_none (w : World) (lo g last : Nat) (v : Value) (R : List UpR) (h : DTab w lo g v R last) (owner n : Nat) (hno : NoUp R owner n) :
    Calls Try.prog 19 #[.pointer (some ⟨g, 0, none⟩), .int .u64 (owner : Int), .int .u32 (n : Int)] w fun e w' => e = .returned (.int .i64 130) ∧ w = w' := by
  have AC := Lib.hid (dat_any w lo g last v R h owner n)
  have HNO := Lib.hid hno
  clear h hno
  go_enter Try.func19, Try.ntmps19
  go_wp2_with (fail)
  refine AC.out.mono ?_
  rintro e w2 ⟨⟨i, t, -, htm, hn, ho, -⟩ | ⟨-, rfl⟩, rfl⟩
  · exact absurd ⟨hn, ho⟩ (HNO.out t htm)
  go_wp2
  go_ret
  exact ⟨rfl, rfl⟩
set_option maxRecDepth 100000 in
set_option maxHeartbeats 1600000 in
theorem dabort_yes (w : World) (lo g last : Nat) (v : Value) (R : List UpR) (h : DTab w lo g v R last) (hu : R.Pairwise fun a b => a.u.n ≠ b.u.n) (i : Nat) (t : UpR) (ht : R[i]? = some t) :
    Calls Try.prog 19 #[.pointer (some ⟨g, 0, none⟩), .int .u64 (t.u.owner : Int), .int .u32 (t.u.n : Int)] w fun e w' => e = .returned (.int .i64 0) ∧ DPost lo g (fpR v g R) (R.eraseIdx i) last w w' := by
  have AC := Lib.hid (dat_yes w lo g last v R h hu i t ht)
  have CC := Lib.hid (dcut_any w lo g last v R h i)
  have hneg : decide ((i : Int) < 0) = false := decide_eq_false (by omega)
  clear h hu ht
  go_enter Try.func19, Try.ntmps19
  go_wp2_with (fail)
  refine AC.out.mono ?_
  rintro e w2 ⟨rfl, rfl⟩
  go_wp2_with (fail)
  refine CC.out.mono ?_
  rintro e w3 ⟨rfl, h3, -⟩
  have H3 := Lib.hid h3
  clear h3
  go_wp2
  go_ret
  exact ⟨rfl, H3.out⟩

theorem endP_readC13 {l : List Nat} {x : List ChangeV} {st : List Nat ⊕ Nat} (h : Step (cMany cChange) (.inl l) x st) : readC l = endC x st := by
  unfold readC
  rcases st with r | e
  · have h1 : (cMany cChange).dec l = .inl (x, r) := h
    rw [h1]
    rfl
  · have h1 : (cMany cChange).dec l = .inr e := h
    rw [h1]
    rfl
set_option maxRecDepth 100000 in
set_option maxHeartbeats 1600000 in
theorem dcommit_none (w : World) (lo g last : Nat) (v : Value) (R : List UpR) (h : DTab w lo g v R last) (owner n : Nat) (hno : NoUp R owner n) :
    Calls Try.prog 16 #[.pointer (some ⟨g, 0, none⟩), .int .u64 (owner : Int), .int .u32 (n : Int)] w fun e w' => e = .returned (.tuple #[.string ⟨#[]⟩, .slice none 0 0, .int .i64 130]) ∧ w = w' := by
  have AC := Lib.hid (dat_any w lo g last v R h owner n)
  have HNO := Lib.hid hno
  clear h hno
  go_enter Try.func16, Try.ntmps16
  go_wp2_with (fail)
  refine AC.out.mono ?_
  rintro e w2 ⟨⟨i, t, -, htm, hn, ho, -⟩ | ⟨-, rfl⟩, rfl⟩
  · exact absurd ⟨hn, ho⟩ (HNO.out t htm)
  go_wp2
  go_ret3
  exact ⟨rfl, rfl⟩
/-- What the document tells of the bytes of an upload that is committed. -/
def DTold (u : UpV) (w : World) (e : Ending) (w' : World) : Prop := (∃ (p : SlL) (xs : List shChange.T), readC u.b = .inl (xs.map toChange) ∧ e = .returned (.tuple #[.string u.name, .slice p.a p.n p.c, .int .i64 0]) ∧ Rd (w.heap.size ≤ ·) w' shChanges [.slice p.a p.n p.c] xs) ∨
    (∃ er : Nat, readC u.b = .inr er ∧ er ≠ 0 ∧ e = .returned (.tuple #[.string ⟨#[]⟩, .slice none 0 0, .int .i64 (er : Int)]))
theorem DPost.before {lo g last : Nat} {F : List Nat} {R : List UpR} {w w1 w2 : World} (hb : Below w.heap.size w w1) (h : DPost lo g F R last w1 w2) : DPost lo g F R last w w2 := by
  obtain ⟨v, h1, h2, h3⟩ := h
  exact ⟨v, h1, (Kept.of_below (F := F) hb (Nat.le_refl _)).trans h2 (Grows.refl _ _), fun b hb' => (h3 b hb').imp id fun h => Nat.le_trans hb.size h⟩
theorem DPost.on {lo g last : Nat} {F : List Nat} {R : List UpR} {w w1 w2 : World} (h : DPost lo g F R last w w1) (hb : Below w1.heap.size w1 w2) : DPost lo g F R last w w2 := by
  obtain ⟨v, h1, h2, h3⟩ := h
  exact ⟨v, h1.on hb, h2.trans (Kept.of_below (F := F) hb (Nat.le_refl _)) (Grows.refl _ _), h3⟩
theorem DTab.below {w w' : World} {lo g last : Nat} {v : Value} {R : List UpR} (h : DTab w lo g v R last) (hk : Kept (fpR v g R) w w') : Below lo w w' := hk.below (fun b hb => (h.lt b hb).1) (Nat.le_of_lt (Nat.lt_of_le_of_lt h.glo h.blk.lt))
set_option maxRecDepth 100000 in
set_option maxHeartbeats 3200000 in
theorem dcommit_yes (w : World) (lo g last : Nat) (v : Value) (R : List UpR) (h : DTab w lo g v R last) (hu : R.Pairwise fun a b => a.u.n ≠ b.u.n) (i : Nat) (t : UpR) (ht : R[i]? = some t) :
    Calls Try.prog 16 #[.pointer (some ⟨g, 0, none⟩), .int .u64 (t.u.owner : Int), .int .u32 (t.u.n : Int)] w fun e w' => DTold t.u w e w' ∧ DPost lo g (fpR v g R) (R.eraseIdx i) last w w' := by
  have AC := Lib.hid (dat_yes w lo g last v R h hu i t ht)
  have hi := (List.getElem?_eq_some_iff.1 ht).1
  have h4 := h.few
  obtain ⟨t', gr, cx, ht', rfl, _, hlt, hrg, htm⟩ := h.up i hi
  obtain rfl := Option.some.inj (ht.symm.trans ht')
  have HO := h.each t htm
  obtain ⟨ta, tn, tc, htv, htl⟩ := HO.row.parts
  have hT : BReads w ta tn tc t.u.b := by
    obtain ⟨a', c', e', hr', -⟩ := HO.row.reads (by have := HO.most; omega)
    rw [htv] at e'
    simp only [Value.slice.injEq] at e'
    obtain ⟨rfl, rfl, rfl⟩ := e'
    exact hr'
  have HTB := Lib.hid (show ∀ b, (Value.slice ta tn tc).ownBlock = some b → b < w.heap.size ∧ b ≠ g from fun b e => by
    rw [← htv] at e
    exact ⟨(HO.row.lt b e).2, (h.bytes_not HO.row b e).1⟩)
  obtain ⟨w1, hw1⟩ : ∃ w1, w.alloc (.cells #[.int .u32 (t.u.n : Int), .int .u64 (t.u.owner : Int), .string t.u.name, .slice ta tn tc, .int .i64 (t.u.page : Int)] 42) = w1 := ⟨_, rfl⟩
  obtain ⟨bu, hbu⟩ : ∃ bu, w.heap.size = bu := ⟨_, rfl⟩
  have hb1 : Below w.heap.size w w1 := by rw [← hw1]; exact (Below.refl _ _).alloc (Nat.le_refl _) _
  have U1 : Blk w1 bu 42 [.int .u32 (t.u.n : Int), .int .u64 (t.u.owner : Int), .string t.u.name, .slice ta tn tc, .int .i64 (t.u.page : Int)] := by rw [← hw1, ← hbu]; exact Blk.new _ _ _
  have HU1 := Lib.hid U1
  have HB1 := Lib.hid hb1
  have CC := Lib.hid (dcut_any w1 lo g last _ R (h.on hb1) i)
  obtain ⟨m, hm⟩ : ∃ m, R.length = m := ⟨_, rfl⟩
  have HFP := Lib.hid (show bu ∉ fpR (.slice (some ⟨gr, 0, none⟩) R.length cx) g R from fun hh => by have := (h.lt bu hh).2; omega)
  have S1 := Lib.hid (hT.on hb1)
  have c0 : w.cell? ⟨g, 0, none⟩ = some (.slice (some ⟨gr, 0, none⟩) m cx) := by rw [← hm]; exact h.blk.cell 0
  obtain ⟨q0, q1, q2, q3, q4⟩ := at_cells hrg
  rw [htv] at q3
  have hgl : g < w1.heap.size := Nat.lt_of_lt_of_le h.blk.lt hb1.size
  have hbs : ∀ b, (Value.slice ta tn tc).ownBlock = some b → b < w1.heap.size := fun b e => Nat.lt_of_lt_of_le (HTB.out b e).1 hb1.size
  have hta : ta = none ∨ ∃ b, ta = some ⟨b, 0, none⟩ ∧ b < w1.heap.size ∧ b ≠ g := by
    rcases HO.row.form with ⟨e, _⟩ | ⟨b, cap, _, e, _⟩
    · rw [htv] at e
      cases e
      exact .inl rfl
    · rw [htv] at e
      simp only [Value.slice.injEq] at e
      obtain ⟨rfl, _, _⟩ := e
      exact .inr ⟨b, rfl, hbs b rfl, (HTB.out b rfl).2⟩
  have HTA := Lib.hid hta
  have hneg : decide ((i : Int) < 0) = false := decide_eq_false (by omega)
  rw [hm] at hi h4 CC HFP ⊢
  clear h hu ht ht' hrg htm htv htl HO hT hm U1 hb1 hbs hta
  go_enter Try.func16, Try.ntmps16
  go_wp2_with (fail)
  refine AC.out.mono ?_
  rintro e w2 ⟨rfl, rfl⟩
  go_wp2_with (first | (rw [hw1]) | fail)
  clear hw1
  refine CC.out.mono ?_
  rintro e w2 ⟨rfl, hd, hk⟩
  have hug : bu ∉ [g] := fun hh => HFP.out (mem_fpR.2 (.inl (List.mem_singleton.1 hh)))
  have U2 := Lib.hid (hk.blk HU1.out hug)
  have b3' : w2.cell? ⟨bu, 3, none⟩ = some (.slice ta tn tc) := U2.out.cell 3
  have R2 := Lib.hid (show BReads w2 ta tn tc t.u.b from by
    have h1 := S1.out
    refine ⟨h1.len, h1.small, h1.byte, h1.nilOk, h1.room, ?_⟩
    rcases h1.cells with h0 | ⟨b, off, e, hlt, hc⟩
    · exact .inl h0
    · refine .inr ⟨b, off, e, Nat.lt_of_lt_of_le hlt hk.size, fun j hj => ?_⟩
      rw [hk.cell (p := ⟨b, off + j, none⟩) hlt (fun hh => ?_)]
      · exact hc j hj
      · rcases HTA.out with e2 | ⟨b2, e2, _, hne⟩
        · rw [e2] at e
          cases e
        · rw [e2] at e
          have := (Addr.mk.inj (Option.some.inj e)).1
          exact hne (this.trans (List.mem_singleton.1 hh)))
  have D2 := Lib.hid (DPost.before HB1.out hd)
  have S12 := Lib.hid (show w.heap.size ≤ w2.heap.size from Nat.le_trans HB1.out.size hk.size)
  obtain ⟨w3, hw3⟩ : ∃ w3, w2.alloc (.cells #[.slice ta tn tc, .int .i64 0] 74) = w3 := ⟨_, rfl⟩
  obtain ⟨g3, hg3⟩ : ∃ g3, w2.heap.size = g3 := ⟨_, rfl⟩
  have hb3 : Below w2.heap.size w2 w3 := by rw [← hw3]; exact (Below.refl _ _).alloc (Nat.le_refl _) _
  have S3 := Lib.hid (show RState w3 g3 (.inl t.u.b) from by
    refine ⟨ta, tn, tc, by rw [← hw3, ← hg3]; exact Blk.new w2 _ _, R2.out.on hb3, fun h0 ad had => ?_⟩
    rcases HTA.out with e | ⟨b, e, hlt, _⟩
    · rw [e] at had
      cases had
    · rw [e] at had
      cases had
      rw [← hg3]
      exact Nat.lt_of_lt_of_le hlt hk.size)
  have hl3 : g3 < w3.heap.size := by rw [← hw3, ← hg3]; simp
  have B23 := Lib.hid hb3
  have hg32 : w2.heap.size ≤ g3 := by rw [← hg3]; exact Nat.le_refl _
  have hug3 : bu ≠ g3 := fun e => by
    have := U2.out.lt
    omega
  have HGE := Lib.hid (show w.heap.size ≤ g3 from by rw [← hg3]; exact S12.out)
  clear hd hk hb3 CC AC c0 q0 q1 q2 q3 q4 HB1 S1 R2
  go_wp2_with (first | (rw [hw3]) | fail)
  clear hw3
  refine (rchanges_u g3 (.inl t.u.b) w3 S3.out hl3).mono ?_
  rintro e w4 ⟨hk4, vv, xx, st, rfl, hV, hs4, ht4⟩
  obtain ⟨q, qn, qc, zs, rfl, hzr, rfl⟩ := hV.one
  have E4 := Lib.hid (show readC t.u.b = endC (zs.map toChange) st from endP_readC13 ht4)
  have S4 := Lib.hid hs4
  have Z4 := Lib.hid hzr.lt
  have NZ := Lib.hid (show ∀ k, st = .inr k → k ≠ 0 from fun k e => by
    rw [e] at hs4
    obtain ⟨_, _, hk⟩ := hs4
    exact hk)
  have hs23 := B23.out.size
  have B24 := Lib.hid (show Below w2.heap.size w2 w4 from B23.out.trans (hk4.below (B := w2.heap.size) (by simp; omega) hs23))
  have S3G := Lib.hid (Nat.le_trans HGE.out (Nat.le_of_lt hl3))
  clear hk4 hV hzr hs4 ht4 S3 hg3
  go_wp2_with (fail)
  refine (rend_st g3 st w4 S4.out).mono ?_
  rintro e w5 ⟨hend, hk5⟩
  have B25 := Lib.hid (show Below w2.heap.size w2 w5 from B24.out.trans (hk5.below (B := w2.heap.size) (by simp; omega) B24.out.size))
  have D5 := Lib.hid (D2.out.on B25.out)
  have Z5 := Lib.hid (show Rd (w.heap.size ≤ ·) w5 shChanges [.slice q qn qc] zs from (Z4.out.kept hk5 (fun k hk ho => by
    simp at hk
    omega)).mono (fun k hk _ => by
      have := S3G.out
      omega))
  have U5 := (Kept.of_below (F := []) B25.out (Nat.le_refl _)).blk U2.out (by simp)
  have e1 : w5.cell? ⟨bu, 2, none⟩ = some (.string t.u.name) := U5.cell 2
  clear U5
  obtain ⟨er, her, herr⟩ : ∃ er : Nat, e = .returned (.int .i64 (er : Int)) ∧ ((er = 0 ∧ readC t.u.b = .inl (zs.map toChange)) ∨ (er ≠ 0 ∧ readC t.u.b = .inr er)) := by
    have h1 := E4.out
    have h2 := NZ.out
    rcases st with r | e
    · by_cases hr : r = []
      · subst hr
        exact ⟨0, hend, .inl ⟨rfl, h1⟩⟩
      · have h3 : endC (zs.map toChange) (.inl r) = .inr 60 := if_neg hr
        refine ⟨60, ?_, .inr ⟨by decide, h1.trans h3⟩⟩
        have h4 : e = .returned (.int .i64 ((if r = [] then 0 else 60 : Nat) : Int)) := hend
        rw [if_neg hr] at h4
        exact h4
    · exact ⟨e, hend, .inr ⟨h2 e rfl, h1⟩⟩
  subst her
  clear hend hk5 D2 U2 B23 B24 S4 E4 NZ Z4
  rcases herr with ⟨rfl, hrc⟩ | ⟨hne, hrc⟩
  · have FIN := Lib.hid (show DTold t.u w (.returned (.tuple #[.string t.u.name, .slice q qn qc, .int .i64 0])) w5 from .inl ⟨⟨q, qn, qc⟩, zs, hrc, rfl, Z5.out⟩)
    clear hrc
    go_wp2
    go_ret3
    exact ⟨FIN.out, D5.out⟩
  · have FIN := Lib.hid (show DTold t.u w (.returned (.tuple #[.string ⟨#[]⟩, .slice none 0 0, .int .i64 (er : Int)])) w5 from .inr ⟨er, hrc, hne, rfl⟩)
    have hneb : ((er : Int) != 0) = true := by rw [bne_iff_ne]; omega
    have hne0 : ¬ er = 0 := hne
    clear hrc
    go_wp2
    go_ret3
    exact ⟨FIN.out, D5.out⟩
end Go.Proofs.Ytdlpifcfgfhagaa
