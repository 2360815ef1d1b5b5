/-
  The document's table of uploads in plain words (DIs): each call over it; both tables beside each other (PairT).
-/
import Derived.Test.YtdlpifcfgfhagaaSgt
import Derived.Test.YtdlpifcfgfhagaaSgh
namespace Go.Proofs.Ytdlpifcfgfhagaa
open Go.RowKit Go.ChangeShapes Go.WideShapes Go.ChangeAt

theorem set_is_map : ∀ {l : List UpV} (_ : l.Pairwise fun u v => u.n ≠ v.n) {i : Nat} {u : UpV} (_ : l[i]? = some u) (b : List Nat), l.set i (u.put b) = l.map fun v => if v.n = u.n then v.put b else v
  | [], _, i, u, hi, _ => by simp at hi
  | a :: l, h, 0, u, hi, b => by
    obtain ⟨h1, _⟩ := List.pairwise_cons.1 h
    simp only [List.getElem?_cons_zero, Option.some.injEq] at hi
    subst hi
    simp only [List.set_cons_zero, List.map_cons, if_true, List.cons.injEq, true_and]
    have e : l.map (fun v => if v.n = a.n then v.put b else v) = l.map id := List.map_congr_left fun v hv => by rw [if_neg (fun e => h1 v hv e.symm)]; rfl
    rw [e, List.map_id]
  | a :: l, h, i + 1, u, hi, b => by
    obtain ⟨h1, h2⟩ := List.pairwise_cons.1 h
    have hi' : l[i]? = some u := by simpa using hi
    have hm := List.mem_of_getElem? hi'
    simp only [List.set_cons_succ, List.map_cons]
    rw [set_is_map h2 hi' b, if_neg (h1 u hm)]
theorem erase_is_filter : ∀ {l : List UpV} (_ : l.Pairwise fun u v => u.n ≠ v.n) {i : Nat} {u : UpV} (_ : l[i]? = some u), l.eraseIdx i = l.filter fun v => decide (v.n ≠ u.n)
  | [], _, i, u, hi => by simp at hi
  | a :: l, h, 0, u, hi => by
    obtain ⟨h1, _⟩ := List.pairwise_cons.1 h
    simp only [List.getElem?_cons_zero, Option.some.injEq] at hi
    subst hi
    rw [List.eraseIdx_cons_zero, List.filter_cons_of_neg (by simp)]
    exact (List.filter_eq_self.2 fun v hv => show decide (v.n ≠ a.n) = true from decide_eq_true (Ne.symm (h1 v hv))).symm
  | a :: l, h, i + 1, u, hi => by
    obtain ⟨h1, h2⟩ := List.pairwise_cons.1 h
    have hi' : l[i]? = some u := by simpa using hi
    have hm := List.mem_of_getElem? hi'
    have hq : decide (a.n ≠ u.n) = true := decide_eq_true (h1 u hm)
    rw [List.eraseIdx_cons_succ, List.filter_cons, hq, if_pos rfl, erase_is_filter h2 hi']
theorem map_erase {α β : Type} (f : α → β) : ∀ (l : List α) (i : Nat), (l.eraseIdx i).map f = (l.map f).eraseIdx i
  | [], _ => by simp
  | a :: l, 0 => by simp
  | a :: l, i + 1 => by simp [map_erase f l i]
/-- The document's table in plain words: in block g; F are all its blocks. -/
def DIs (w : World) (lo g : Nat) (F : List Nat) (s : TabV) : Prop := ∃ v R, DTab w lo g v R s.last ∧ s.ups = R.map (·.u) ∧ F = fpR v g R
def DP (lo g : Nat) (F : List Nat) (s : TabV) (w w' : World) : Prop := ∃ F', DIs w' lo g F' s ∧ Kept F w w' ∧ Grows w F F'
section
variable {w w' : World} {lo g k : Nat} {F G : List Nat} {s : TabV}
theorem DIs.kept (h : DIs w lo g F s) (hk : Kept G w w') (hF : Apart G F) : DIs w' lo g F s := by
  obtain ⟨v, R, h1, h2, rfl⟩ := h
  exact ⟨v, R, h1.kept hk fun b hb e => hF b e hb, h2, rfl⟩
theorem DIs.on (h : DIs w lo g F s) (hb : Below w.heap.size w w') : DIs w' lo g F s := h.kept (G := []) (Kept.of_below hb (Nat.le_refl _)) (fun x hx => by simp at hx)
theorem DIs.lt (h : DIs w lo g F s) : ∀ b ∈ F, lo ≤ b ∧ b < w.heap.size := by
  obtain ⟨v, R, h1, h2, rfl⟩ := h
  exact h1.lt
theorem DIs.below (h : DIs w lo g F s) (hk : Kept F w w') : Below lo w w' := by
  obtain ⟨v, R, h1, h2, rfl⟩ := h
  exact h1.below hk
theorem DP.same (h : DIs w lo g F s) : DP lo g F s w w := ⟨F, h, Kept.refl _ _, Grows.refl _ _⟩
theorem DPost.dp {R' : List UpR} {last' : Nat} {s' : TabV} (h : DPost lo g F R' last' w w') (h1 : s'.last = last') (h2 : s'.ups = R'.map (·.u)) : DP lo g F s' w w' := by
  obtain ⟨v, h3, h4, h5⟩ := h
  exact ⟨fpR v g R', ⟨v, R', by rw [h1]; exact h3, h2, rfl⟩, h4, h5⟩
theorem ownD_some {R : List UpR} (h2 : s.ups = R.map (·.u)) {owner n : Nat} {u : UpV} (h : s.own owner n = some u) : ∃ (i : Nat) (t : UpR), R[i]? = some t ∧ t.u = u ∧ t.u.n = n ∧ t.u.owner = owner := by
  obtain ⟨h3, h4, h5⟩ := own_some h
  rw [h2] at h3
  obtain ⟨t, ht, rfl⟩ := List.mem_map.1 h3
  obtain ⟨i, hi⟩ := List.getElem?_of_mem ht
  exact ⟨i, t, hi, rfl, h4, h5⟩
theorem ownD_none {R : List UpR} (h2 : s.ups = R.map (·.u)) {owner n : Nat} (h : s.own owner n = none) : NoUp R owner n := fun t ht => own_none h t.u (by rw [h2]; exact List.mem_map.2 ⟨t, ht, rfl⟩)
theorem pairR {R : List UpR} (h2 : s.ups = R.map (·.u)) (hF : s.Few k) : R.Pairwise fun a b => a.u.n ≠ b.u.n := by
  have := hF.apart
  rw [h2, List.pairwise_map] at this
  exact this
end
theorem d_begin {w : World} {lo g k : Nat} {F : List Nat} {s : TabV} (h : DIs w lo g F s) (hF : s.Few k) (hk : k ≤ 1000000) (owner : Nat) (ho : owner < 18446744073709551616) (name : ByteArray) :
    Calls Try.prog 11 #[.pointer (some ⟨g, 0, none⟩), .int .u64 (owner : Int), .string name] w fun e w' =>
      (4 ≤ s.ups.length ∧ e = .returned (.tuple #[.int .u32 0, .int .i64 4]) ∧ DP lo g F s w w') ∨ (s.ups.length < 4 ∧ e = .returned (.tuple #[.int .u32 ((s.last + 1 : Nat) : Int), .int .i64 0]) ∧ DP lo g F (s.start owner name) w w') := by
  have h0 := h
  obtain ⟨v, R, h1, h2, rfl⟩ := h
  have hl : s.ups.length = R.length := by rw [h2, List.length_map]
  by_cases hf : R.length < 4
  · refine (dbegin_new w lo g s.last v R h1 (Nat.le_trans hF.last hk) hf owner ho name).mono ?_
    rintro e w' ⟨rfl, hp⟩
    exact .inr ⟨by omega, rfl, hp.dp rfl (by show s.ups ++ [_] = _; rw [h2, List.map_append]; rfl)⟩
  · refine (dbegin_full w lo g s.last v R h1 (by omega) owner name).mono ?_
    rintro e w' ⟨rfl, rfl⟩
    exact .inl ⟨by omega, rfl, DP.same h0⟩
theorem d_chunk {w : World} {lo g k : Nat} {F : List Nat} {s : TabV} (h : DIs w lo g F s) (hF : s.Few k) (hk : k < 1000000) (owner n page : Nat) (hpg : page < 4294967296) {ba : Option Addr} {bn bc : Nat} {xs : List Nat} (hb : BReads w ba bn bc xs) :
    Calls Try.prog 14 #[.pointer (some ⟨g, 0, none⟩), .int .u64 (owner : Int), .int .u32 (n : Int), .int .u32 (page : Int), .slice ba bn bc] w fun e w' => e = .returned (.int .i64 (s.chunkE owner n page xs : Int)) ∧ DP lo g F (s.chunk owner n page xs) w w' := by
  have h0 := h
  obtain ⟨v, R, h1, h2, rfl⟩ := h
  have hu := pairR h2 hF
  cases ho : s.own owner n with
  | none =>
    have hE : s.chunkE owner n page xs = 130 := by unfold TabV.chunkE; rw [ho]
    rw [show s.chunk owner n page xs = s from by unfold TabV.chunk; rw [hE]; rfl, hE]
    refine (dchunk_none w lo g s.last v R h1 owner n page (ownD_none h2 ho) ba bn bc).mono ?_
    rintro e w' ⟨rfl, rfl⟩
    exact ⟨rfl, DP.same h0⟩
  | some u =>
    obtain ⟨i, t, ht, rfl, rfl, rfl⟩ := ownD_some h2 ho
    have hp : t.u.page < 1000000 := Nat.lt_of_le_of_lt (hF.page t.u (by rw [h2]; exact List.mem_map.2 ⟨t, List.mem_of_getElem? ht, rfl⟩)) hk
    by_cases h3 : page = t.u.page + 1
    · by_cases h4 : t.u.b.length + bn ≤ 4096
      · have hE : s.chunkE t.u.owner t.u.n page xs = 0 := by
          unfold TabV.chunkE
          rw [ho]
          simp only
          rw [if_neg (fun hh => hh h3), if_neg (by rw [hb.len]; omega)]
        rw [show s.chunk t.u.owner t.u.n page xs = s.grow t.u.n xs from by unfold TabV.chunk; rw [if_pos hE], hE]
        refine (dchunk_ok w lo g s.last v R h1 hu i t ht hp page hpg h3 ba bn bc xs hb h4).mono ?_
        rintro e w' ⟨rfl, v2, hp2⟩
        refine ⟨rfl, hp2.dp rfl ?_⟩
        have hi2 : s.ups[i]? = some t.u := by rw [h2, List.getElem?_map, ht]; rfl
        show s.ups.map _ = _
        rw [List.map_set, ← h2]
        exact (set_is_map hF.apart hi2 xs).symm
      · have hE : s.chunkE t.u.owner t.u.n page xs = 4 := by
          unfold TabV.chunkE
          rw [ho]
          simp only
          rw [if_neg (fun hh => hh h3), if_pos (by rw [hb.len]; omega)]
        rw [show s.chunk t.u.owner t.u.n page xs = s from by unfold TabV.chunk; rw [hE]; rfl, hE]
        refine (dchunk_full w lo g s.last v R h1 hu i t ht page hpg h3 ba bn bc hb.small (by omega)).mono ?_
        rintro e w' ⟨rfl, rfl⟩
        exact ⟨rfl, DP.same h0⟩
    · have hE : s.chunkE t.u.owner t.u.n page xs = 130 := by
        unfold TabV.chunkE
        rw [ho]
        simp only
        rw [if_pos h3]
      rw [show s.chunk t.u.owner t.u.n page xs = s from by unfold TabV.chunk; rw [hE]; rfl, hE]
      refine (dchunk_page w lo g s.last v R h1 hu i t ht page hpg h3 ba bn bc).mono ?_
      rintro e w' ⟨rfl, rfl⟩
      exact ⟨rfl, DP.same h0⟩
theorem cut_erase {s : TabV} {k i : Nat} {R : List UpR} {t : UpR} (h2 : s.ups = R.map (·.u)) (hF : s.Few k) (ht : R[i]? = some t) : (s.cut t.u.n).ups = (R.eraseIdx i).map (·.u) := by
  have hi2 : s.ups[i]? = some t.u := by rw [h2, List.getElem?_map, ht]; rfl
  show s.ups.filter _ = _
  rw [map_erase, ← h2]
  exact (erase_is_filter hF.apart hi2).symm
theorem d_abort {w : World} {lo g k : Nat} {F : List Nat} {s : TabV} (h : DIs w lo g F s) (hF : s.Few k) (owner n : Nat) :
    Calls Try.prog 19 #[.pointer (some ⟨g, 0, none⟩), .int .u64 (owner : Int), .int .u32 (n : Int)] w fun e w' => e = .returned (.int .i64 (s.abortE owner n : Int)) ∧ DP lo g F (s.abort owner n) w w' := by
  have h0 := h
  obtain ⟨v, R, h1, h2, rfl⟩ := h
  unfold TabV.abortE TabV.abort
  cases ho : s.own owner n with
  | none =>
    refine (dabort_none w lo g s.last v R h1 owner n (ownD_none h2 ho)).mono ?_
    rintro e w' ⟨rfl, rfl⟩
    exact ⟨rfl, DP.same h0⟩
  | some u =>
    obtain ⟨i, t, ht, rfl, rfl, rfl⟩ := ownD_some h2 ho
    refine (dabort_yes w lo g s.last v R h1 (pairR h2 hF) i t ht).mono ?_
    rintro e w' ⟨rfl, hp⟩
    exact ⟨rfl, hp.dp rfl (cut_erase h2 hF ht)⟩
theorem d_commit {w : World} {lo g k : Nat} {F : List Nat} {s : TabV} (h : DIs w lo g F s) (hF : s.Few k) (owner n : Nat) :
    Calls Try.prog 16 #[.pointer (some ⟨g, 0, none⟩), .int .u64 (owner : Int), .int .u32 (n : Int)] w fun e w' =>
      (s.own owner n = none ∧ e = .returned (.tuple #[.string ⟨#[]⟩, .slice none 0 0, .int .i64 130]) ∧ DP lo g F s w w') ∨ (∃ u, s.own owner n = some u ∧ DTold u w e w' ∧ DP lo g F (s.cut u.n) w w') := by
  have h0 := h
  obtain ⟨v, R, h1, h2, rfl⟩ := h
  cases ho : s.own owner n with
  | none =>
    refine (dcommit_none w lo g s.last v R h1 owner n (ownD_none h2 ho)).mono ?_
    rintro e w' ⟨rfl, rfl⟩
    exact .inl ⟨rfl, rfl, DP.same h0⟩
  | some u =>
    obtain ⟨i, t, ht, rfl, rfl, rfl⟩ := ownD_some h2 ho
    refine (dcommit_yes w lo g s.last v R h1 (pairR h2 hF) i t ht).mono ?_
    rintro e w' ⟨hc, hp⟩
    exact .inr ⟨t.u, rfl, hc, hp.dp rfl (cut_erase h2 hF ht)⟩
theorem d_leave {w : World} {lo g : Nat} {F : List Nat} {s : TabV} (h : DIs w lo g F s) (owner : Nat) :
    Calls Try.prog 21 #[.pointer (some ⟨g, 0, none⟩), .int .u64 (owner : Int)] w fun e w' => e = .returned (.int .i64 ((s.ups.length - (s.leave owner).ups.length : Nat) : Int)) ∧ DP lo g F (s.leave owner) w w' := by
  obtain ⟨v, R, h1, h2, rfl⟩ := h
  have e1 : (s.leave owner).ups = (R.filter fun t => decide (t.u.owner ≠ owner)).map (·.u) := by
    show s.ups.filter _ = _
    rw [h2, List.filter_map]
    rfl
  rw [e1, List.length_map, h2, List.length_map]
  refine (dleave_any w lo g s.last v R h1 owner).mono ?_
  rintro e w' ⟨rfl, hp⟩
  exact ⟨rfl, hp.dp rfl e1⟩
theorem d_bytes {w : World} {lo g : Nat} {F : List Nat} {s : TabV} (h : DIs w lo g F s) :
    Calls Try.prog 24 #[.pointer (some ⟨g, 0, none⟩)] w fun e w' => e = .returned (.int .i64 (s.bytes : Int)) ∧ w = w' := by
  obtain ⟨v, R, h1, h2, rfl⟩ := h
  have e : s.bytes = bytesR R := by
    unfold TabV.bytes bytesR
    rw [h2, List.map_map]
    rfl
  rw [e]
  exact dbytes_any w lo g s.last v R h1

/-- Both tables beside each other. -/
def PairU (w0 : World) (k x g : Nat) (s s2 : TabV) (w : World) : Prop := ∃ lo1 F1 lo2 F2, TabIs w lo1 x F1 s ∧ DIs w lo2 g F2 s2 ∧ Apart F1 F2 ∧ w0.heap.size ≤ lo1 ∧ w0.heap.size ≤ lo2 ∧ s.Few k ∧ s2.Few k ∧ Below w0.heap.size w0 w
/-- Both tables beside each other, and an op's box that neither of them touches. -/
def PairT (w0 : World) (bo : Nat) (cs : List Value) (k x g : Nat) (s s2 : TabV) (w : World) : Prop := ∃ lo1 F1 lo2 F2, TabIs w lo1 x F1 s ∧ DIs w lo2 g F2 s2 ∧ Apart F1 F2 ∧ w0.heap.size ≤ lo1 ∧ w0.heap.size ≤ lo2 ∧ s.Few k ∧ s2.Few k ∧ Below w0.heap.size w0 w ∧ Blk w bo 33 cs ∧ bo ∉ F1 ∧ bo ∉ F2
section
variable {w0 w w' : World} {k x g bo : Nat} {cs : List Value} {s s2 s' : TabV}
theorem PairT.below (h : PairT w0 bo cs k x g s s2 w) : Below w0.heap.size w0 w := by
  obtain ⟨_, _, _, _, _, _, _, _, _, _, _, h, _⟩ := h
  exact h
theorem PairT.few (h : PairT w0 bo cs k x g s s2 w) : s.Few k ∧ s2.Few k := by
  obtain ⟨_, _, _, _, _, _, _, _, _, h1, h2, _⟩ := h
  exact ⟨h1, h2⟩
theorem PairT.on (h : PairT w0 bo cs k x g s s2 w) (hb : Below w.heap.size w w') : PairT w0 bo cs k x g s s2 w' := by
  obtain ⟨lo1, F1, lo2, F2, h1, h2, h3, h4, h5, h6, h7, h8, hB⟩ := h
  exact ⟨lo1, F1, lo2, F2, h1.on hb, h2.on hb, h3, h4, h5, h6, h7, h8.trans (hb.mono h8.size), (Kept.of_below (F := []) hb (Nat.le_refl _)).blk hB.1 (by simp), hB.2⟩
theorem PairT.more {k' : Nat} (h : PairT w0 bo cs k x g s s2 w) (hk : k ≤ k') : PairT w0 bo cs k' x g s s2 w := by
  obtain ⟨lo1, F1, lo2, F2, h1, h2, h3, h4, h5, h6, h7, h8, hB⟩ := h
  exact ⟨lo1, F1, lo2, F2, h1, h2, h3, h4, h5, h6.mono hk, h7.mono hk, h8, hB⟩
theorem PairT.code {k' lo1 lo2 : Nat} {F1 F2 : List Nat} (h1 : TabIs w lo1 x F1 s) (h2 : DIs w lo2 g F2 s2) (h3 : Apart F1 F2) (h4 : w0.heap.size ≤ lo1) (h5 : w0.heap.size ≤ lo2) (h7 : s2.Few k') (h8 : Below w0.heap.size w0 w) (hB : Blk w bo 33 cs ∧ bo ∉ F1 ∧ bo ∉ F2) (hp : TPost lo1 x F1 s' w w') (hf : s'.Few k') : PairT w0 bo cs k' x g s' s2 w' := by
  obtain ⟨F', p1, p2, p3⟩ := hp
  exact ⟨lo1, F', lo2, F2, p1, h2.kept p2 h3, h3.grows p3 (fun b hb => (h2.lt b hb).2), h4, h5, hf, h7, h8.trans ((h1.below p2).mono h4), p2.blk hB.1 hB.2.1, fun hh => (p3 bo hh).elim hB.2.1 (fun h => by have := hB.1.lt; omega), hB.2.2⟩
theorem PairT.doc {k' lo1 lo2 : Nat} {F1 F2 : List Nat} (h1 : TabIs w lo1 x F1 s) (h2 : DIs w lo2 g F2 s2) (h3 : Apart F1 F2) (h4 : w0.heap.size ≤ lo1) (h5 : w0.heap.size ≤ lo2) (h6 : s.Few k') (h8 : Below w0.heap.size w0 w) (hB : Blk w bo 33 cs ∧ bo ∉ F1 ∧ bo ∉ F2) (hp : DP lo2 g F2 s' w w') (hf : s'.Few k') : PairT w0 bo cs k' x g s s' w' := by
  obtain ⟨F', p1, p2, p3⟩ := hp
  exact ⟨lo1, F1, lo2, F', h1.kept p2 h3.symm, p1, (h3.symm.grows p3 (fun b hb => (h1.lt b hb).2)).symm, h4, h5, h6, hf, h8.trans ((h2.below p2).mono h5), p2.blk hB.1 hB.2.2, hB.2.1, fun hh => (p3 bo hh).elim hB.2.2 (fun h => by have := hB.1.lt; omega)⟩
theorem PairT.forget (h : PairT w0 bo cs k x g s s2 w) : PairU w0 k x g s s2 w := by
  obtain ⟨lo1, F1, lo2, F2, h1, h2, h3, h4, h5, h6, h7, h8, hB⟩ := h
  exact ⟨lo1, F1, lo2, F2, h1, h2, h3, h4, h5, h6, h7, h8⟩
theorem PairU.below (h : PairU w0 k x g s s2 w) : Below w0.heap.size w0 w := by
  obtain ⟨_, _, _, _, _, _, _, _, _, _, _, h⟩ := h
  exact h
theorem PairU.on (h : PairU w0 k x g s s2 w) (hb : Below w.heap.size w w') : PairU w0 k x g s s2 w' := by
  obtain ⟨lo1, F1, lo2, F2, h1, h2, h3, h4, h5, h6, h7, h8⟩ := h
  exact ⟨lo1, F1, lo2, F2, h1.on hb, h2.on hb, h3, h4, h5, h6, h7, h8.trans (hb.mono h8.size)⟩
theorem PairU.boxed (h : PairU w0 k x g s s2 w) (hb : Below w.heap.size w w') (hB : Blk w' w.heap.size 33 cs) : PairT w0 w.heap.size cs k x g s s2 w' := by
  obtain ⟨lo1, F1, lo2, F2, h1, h2, h3, h4, h5, h6, h7, h8⟩ := h
  exact ⟨lo1, F1, lo2, F2, h1.on hb, h2.on hb, h3, h4, h5, h6, h7, h8.trans (hb.mono h8.size), hB, fun hh => Nat.lt_irrefl _ (h1.lt _ hh).2, fun hh => Nat.lt_irrefl _ (h2.lt _ hh).2⟩
theorem PairT.box (h : PairT w0 bo cs k x g s s2 w) : Blk w bo 33 cs := by
  obtain ⟨_, _, _, _, _, _, _, _, _, _, _, _, h, _⟩ := h
  exact h
end
theorem pc_begin {w0 w : World} {k x g bo : Nat} {cs : List Value} {s s2 : TabV} (h : PairT w0 bo cs k x g s s2 w) (hk : k ≤ 1000000) (owner : Nat) (ho : owner < 18446744073709551616) (name : ByteArray) :
    Calls Try.prog 10 #[.pointer (some ⟨x, 0, none⟩), .int .u64 (owner : Int), .string name] w fun e w' =>
      (4 ≤ s.ups.length ∧ e = .returned (.tuple #[.int .u32 0, .int .i64 4]) ∧ PairT w0 bo cs (k + 1) x g s s2 w') ∨ (s.ups.length < 4 ∧ e = .returned (.tuple #[.int .u32 ((s.last + 1 : Nat) : Int), .int .i64 0]) ∧ PairT w0 bo cs (k + 1) x g (s.start owner name) s2 w') := by
  obtain ⟨lo1, F1, lo2, F2, h1, h2, h3, h4, h5, h6, h7, h8, hB⟩ := h
  refine (sbegin_any w lo1 x k F1 s h1 h6 hk owner ho name).mono ?_
  rintro e w' (⟨hl, rfl, hp⟩ | ⟨hl, rfl, hp⟩)
  · exact .inl ⟨hl, rfl, PairT.code h1 h2 h3 h4 h5 (h7.mono (Nat.le_succ k)) h8 hB hp (h6.mono (Nat.le_succ k))⟩
  · exact .inr ⟨hl, rfl, PairT.code h1 h2 h3 h4 h5 (h7.mono (Nat.le_succ k)) h8 hB hp (h6.start hl)⟩
theorem pd_begin {w0 w : World} {k x g bo : Nat} {cs : List Value} {s s2 : TabV} (h : PairT w0 bo cs (k + 1) x g s s2 w) (hs : s2.Few k) (hk : k ≤ 1000000) (owner : Nat) (ho : owner < 18446744073709551616) (name : ByteArray) :
    Calls Try.prog 11 #[.pointer (some ⟨g, 0, none⟩), .int .u64 (owner : Int), .string name] w fun e w' =>
      (4 ≤ s2.ups.length ∧ e = .returned (.tuple #[.int .u32 0, .int .i64 4]) ∧ PairT w0 bo cs (k + 1) x g s s2 w') ∨ (s2.ups.length < 4 ∧ e = .returned (.tuple #[.int .u32 ((s2.last + 1 : Nat) : Int), .int .i64 0]) ∧ PairT w0 bo cs (k + 1) x g s (s2.start owner name) w') := by
  obtain ⟨lo1, F1, lo2, F2, h1, h2, h3, h4, h5, h6, h7, h8, hB⟩ := h
  refine (d_begin h2 hs hk owner ho name).mono ?_
  rintro e w' (⟨hl, rfl, hp⟩ | ⟨hl, rfl, hp⟩)
  · exact .inl ⟨hl, rfl, PairT.doc h1 h2 h3 h4 h5 h6 h8 hB hp h7⟩
  · exact .inr ⟨hl, rfl, PairT.doc h1 h2 h3 h4 h5 h6 h8 hB hp (hs.start hl)⟩
theorem pc_chunk {w0 w : World} {k x g bo : Nat} {cs : List Value} {s s2 : TabV} (h : PairT w0 bo cs k x g s s2 w) (hk : k ≤ 1000000) (owner n page : Nat) (hn : n < 4294967296) {ba : Option Addr} {bn bc : Nat} {xs : List Nat} (hb : BReads w ba bn bc xs) :
    Calls Try.prog 13 #[.pointer (some ⟨x, 0, none⟩), .int .u64 (owner : Int), .int .u32 (n : Int), .int .u32 (page : Int), .slice ba bn bc] w fun e w' => e = .returned (.int .i64 (s.chunkE owner n page xs : Int)) ∧ PairT w0 bo cs (k + 1) x g (s.chunk owner n page xs) s2 w' := by
  obtain ⟨lo1, F1, lo2, F2, h1, h2, h3, h4, h5, h6, h7, h8, hB⟩ := h
  refine (schunk_any w lo1 x k F1 s h1 h6 hk owner n page hn ba bn bc xs hb).mono ?_
  rintro e w' ⟨rfl, hp⟩
  exact ⟨rfl, PairT.code h1 h2 h3 h4 h5 (h7.mono (Nat.le_succ k)) h8 hB hp h6.chunk⟩
theorem pd_chunk {w0 w : World} {k x g bo : Nat} {cs : List Value} {s s2 : TabV} (h : PairT w0 bo cs (k + 1) x g s s2 w) (hs : s2.Few k) (hk : k < 1000000) (owner n page : Nat) (hpg : page < 4294967296) {ba : Option Addr} {bn bc : Nat} {xs : List Nat} (hb : BReads w ba bn bc xs) :
    Calls Try.prog 14 #[.pointer (some ⟨g, 0, none⟩), .int .u64 (owner : Int), .int .u32 (n : Int), .int .u32 (page : Int), .slice ba bn bc] w fun e w' => e = .returned (.int .i64 (s2.chunkE owner n page xs : Int)) ∧ PairT w0 bo cs (k + 1) x g s (s2.chunk owner n page xs) w' := by
  obtain ⟨lo1, F1, lo2, F2, h1, h2, h3, h4, h5, h6, h7, h8, hB⟩ := h
  refine (d_chunk h2 hs hk owner n page hpg hb).mono ?_
  rintro e w' ⟨rfl, hp⟩
  exact ⟨rfl, PairT.doc h1 h2 h3 h4 h5 h6 h8 hB hp hs.chunk⟩
theorem pc_abort {w0 w : World} {k x g bo : Nat} {cs : List Value} {s s2 : TabV} (h : PairT w0 bo cs k x g s s2 w) (owner n : Nat) (hn : n < 4294967296) :
    Calls Try.prog 18 #[.pointer (some ⟨x, 0, none⟩), .int .u64 (owner : Int), .int .u32 (n : Int)] w fun e w' => e = .returned (.int .i64 (s.abortE owner n : Int)) ∧ PairT w0 bo cs k x g (s.abort owner n) s2 w' := by
  obtain ⟨lo1, F1, lo2, F2, h1, h2, h3, h4, h5, h6, h7, h8, hB⟩ := h
  refine (sabort_any w lo1 x F1 s h1 owner n hn).mono ?_
  rintro e w' ⟨rfl, hp⟩
  exact ⟨rfl, PairT.code h1 h2 h3 h4 h5 h7 h8 hB hp h6.abort⟩
theorem pd_abort {w0 w : World} {k x g bo : Nat} {cs : List Value} {s s2 : TabV} (h : PairT w0 bo cs k x g s s2 w) (owner n : Nat) :
    Calls Try.prog 19 #[.pointer (some ⟨g, 0, none⟩), .int .u64 (owner : Int), .int .u32 (n : Int)] w fun e w' => e = .returned (.int .i64 (s2.abortE owner n : Int)) ∧ PairT w0 bo cs k x g s (s2.abort owner n) w' := by
  obtain ⟨lo1, F1, lo2, F2, h1, h2, h3, h4, h5, h6, h7, h8, hB⟩ := h
  refine (d_abort h2 h7 owner n).mono ?_
  rintro e w' ⟨rfl, hp⟩
  exact ⟨rfl, PairT.doc h1 h2 h3 h4 h5 h6 h8 hB hp h7.abort⟩
theorem pc_leave {w0 w : World} {k x g bo : Nat} {cs : List Value} {s s2 : TabV} (h : PairT w0 bo cs k x g s s2 w) (owner : Nat) :
    Calls Try.prog 20 #[.pointer (some ⟨x, 0, none⟩), .int .u64 (owner : Int)] w fun e w' => e = .returned (.int .i64 ((s.ups.length - (s.leave owner).ups.length : Nat) : Int)) ∧ PairT w0 bo cs k x g (s.leave owner) s2 w' := by
  obtain ⟨lo1, F1, lo2, F2, h1, h2, h3, h4, h5, h6, h7, h8, hB⟩ := h
  refine (sleave_any w lo1 x F1 s h1 owner).mono ?_
  rintro e w' ⟨rfl, hp⟩
  exact ⟨rfl, PairT.code h1 h2 h3 h4 h5 h7 h8 hB hp h6.leave⟩
theorem pd_leave {w0 w : World} {k x g bo : Nat} {cs : List Value} {s s2 : TabV} (h : PairT w0 bo cs k x g s s2 w) (owner : Nat) :
    Calls Try.prog 21 #[.pointer (some ⟨g, 0, none⟩), .int .u64 (owner : Int)] w fun e w' => e = .returned (.int .i64 ((s2.ups.length - (s2.leave owner).ups.length : Nat) : Int)) ∧ PairT w0 bo cs k x g s (s2.leave owner) w' := by
  obtain ⟨lo1, F1, lo2, F2, h1, h2, h3, h4, h5, h6, h7, h8, hB⟩ := h
  refine (d_leave h2 owner).mono ?_
  rintro e w' ⟨rfl, hp⟩
  exact ⟨rfl, PairT.doc h1 h2 h3 h4 h5 h6 h8 hB hp h7.leave⟩
/-- .. and all that the document's table may turn lies below N. -/
def PairN (w0 : World) (bo : Nat) (cs : List Value) (k x g : Nat) (s s2 : TabV) (N : Nat) (w : World) : Prop := ∃ lo1 F1 lo2 F2, TabIs w lo1 x F1 s ∧ DIs w lo2 g F2 s2 ∧ Apart F1 F2 ∧ w0.heap.size ≤ lo1 ∧ w0.heap.size ≤ lo2 ∧ s.Few k ∧ s2.Few k ∧ Below w0.heap.size w0 w ∧ (Blk w bo 33 cs ∧ bo ∉ F1 ∧ bo ∉ F2) ∧ ∀ b ∈ F2, b < N
theorem PairN.pair {w0 w : World} {k x g bo N : Nat} {cs : List Value} {s s2 : TabV} (h : PairN w0 bo cs k x g s s2 N w) : PairT w0 bo cs k x g s s2 w := by
  obtain ⟨lo1, F1, lo2, F2, h1, h2, h3, h4, h5, h6, h7, h8, hB, _⟩ := h
  exact ⟨lo1, F1, lo2, F2, h1, h2, h3, h4, h5, h6, h7, h8, hB⟩
theorem PairN.code {w0 w w' : World} {k x g bo lo1 lo2 : Nat} {cs : List Value} {s s2 s' : TabV} {F1 F2 : List Nat} (h1 : TabIs w lo1 x F1 s) (h2 : DIs w lo2 g F2 s2) (h3 : Apart F1 F2) (h4 : w0.heap.size ≤ lo1) (h5 : w0.heap.size ≤ lo2) (h7 : s2.Few k) (h8 : Below w0.heap.size w0 w) (hB : Blk w bo 33 cs ∧ bo ∉ F1 ∧ bo ∉ F2) (hp : TPost lo1 x F1 s' w w') (hf : s'.Few k) : PairN w0 bo cs k x g s' s2 w.heap.size w' := by
  obtain ⟨F', p1, p2, p3⟩ := hp
  exact ⟨lo1, F', lo2, F2, p1, h2.kept p2 h3, h3.grows p3 (fun b hb => (h2.lt b hb).2), h4, h5, hf, h7, h8.trans ((h1.below p2).mono h4), ⟨p2.blk hB.1 hB.2.1, fun hh => (p3 bo hh).elim hB.2.1 (fun h => by have := hB.1.lt; omega), hB.2.2⟩, fun b hb => (h2.lt b hb).2⟩
theorem pc_commit {w0 w : World} {k x g bo : Nat} {cs : List Value} {s s2 : TabV} (h : PairT w0 bo cs k x g s s2 w) (owner n : Nat) (hn : n < 4294967296) :
    Calls Try.prog 15 #[.pointer (some ⟨x, 0, none⟩), .int .u64 (owner : Int), .int .u32 (n : Int)] w fun e w' =>
      (s.own owner n = none ∧ e = .returned (.tuple #[.string ⟨#[]⟩, .slice none 0 0, .int .i64 130]) ∧ PairN w0 bo cs k x g s s2 w.heap.size w') ∨ (∃ u, s.own owner n = some u ∧ CmTold u w e w' ∧ PairN w0 bo cs k x g (s.cut u.n) s2 w.heap.size w') := by
  obtain ⟨lo1, F1, lo2, F2, h1, h2, h3, h4, h5, h6, h7, h8, hB⟩ := h
  refine (scommit_any w lo1 x F1 s h1 owner n hn).mono ?_
  rintro e w' (⟨ho, rfl, hp⟩ | ⟨u, ho, hp, hc⟩)
  · exact .inl ⟨ho, rfl, PairN.code h1 h2 h3 h4 h5 h7 h8 hB hp h6⟩
  · exact .inr ⟨u, ho, hc, PairN.code h1 h2 h3 h4 h5 h7 h8 hB hp h6.cut⟩
theorem pd_commit {w0 w : World} {k x g bo N : Nat} {cs : List Value} {s s2 : TabV} (h : PairN w0 bo cs k x g s s2 N w) (owner n : Nat) :
    Calls Try.prog 16 #[.pointer (some ⟨g, 0, none⟩), .int .u64 (owner : Int), .int .u32 (n : Int)] w fun e w' =>
      ((s2.own owner n = none ∧ e = .returned (.tuple #[.string ⟨#[]⟩, .slice none 0 0, .int .i64 130]) ∧ PairT w0 bo cs k x g s s2 w') ∨ (∃ u, s2.own owner n = some u ∧ DTold u w e w' ∧ PairT w0 bo cs k x g s (s2.cut u.n) w')) ∧ ∃ F2, Kept F2 w w' ∧ ∀ b ∈ F2, b < N := by
  obtain ⟨lo1, F1, lo2, F2, h1, h2, h3, h4, h5, h6, h7, h8, hB, hN⟩ := h
  refine (d_commit h2 h7 owner n).mono ?_
  rintro e w' (⟨ho, rfl, hp⟩ | ⟨u, ho, hc, hp⟩)
  · have hp0 := hp
    obtain ⟨_, _, p2, _⟩ := hp0
    exact ⟨.inl ⟨ho, rfl, PairT.doc h1 h2 h3 h4 h5 h6 h8 hB hp h7⟩, F2, p2, hN⟩
  · have hp0 := hp
    obtain ⟨_, _, p2, _⟩ := hp0
    exact ⟨.inr ⟨u, ho, hc, PairT.doc h1 h2 h3 h4 h5 h6 h8 hB hp h7.cut⟩, F2, p2, hN⟩
theorem pc_len {w0 w : World} {k x g bo : Nat} {cs : List Value} {s s2 : TabV} (h : PairT w0 bo cs k x g s s2 w) :
    Calls Try.prog 22 #[.pointer (some ⟨x, 0, none⟩)] w fun e w' => e = .returned (.int .i64 (s.ups.length : Int)) ∧ w = w' := by
  obtain ⟨lo1, F1, lo2, F2, h1, h2, h3, h4, h5, h6, h7, h8, hB⟩ := h
  exact slen_any w lo1 x F1 s h1
theorem pc_bytes {w0 w : World} {k x g bo : Nat} {cs : List Value} {s s2 : TabV} (h : PairT w0 bo cs k x g s s2 w) :
    Calls Try.prog 23 #[.pointer (some ⟨x, 0, none⟩)] w fun e w' => e = .returned (.int .i64 (s.bytes : Int)) ∧ PairT w0 bo cs k x g s s2 w' ∧ Below w.heap.size w w' := by
  have h0 := h
  obtain ⟨lo1, F1, lo2, F2, h1, h2, h3, h4, h5, h6, h7, h8, hB⟩ := h
  exact (sbytes_any w lo1 x F1 s h1).mono fun e w' hh => ⟨hh.1, h0.on hh.2, hh.2⟩
theorem pd_bytes {w0 w : World} {k x g bo : Nat} {cs : List Value} {s s2 : TabV} (h : PairT w0 bo cs k x g s s2 w) :
    Calls Try.prog 24 #[.pointer (some ⟨g, 0, none⟩)] w fun e w' => e = .returned (.int .i64 (s2.bytes : Int)) ∧ w = w' := by
  obtain ⟨lo1, F1, lo2, F2, h1, h2, h3, h4, h5, h6, h7, h8, hB⟩ := h
  exact d_bytes h2
end Go.Proofs.Ytdlpifcfgfhagaa
