/-
  Layer 14, what its laws share: the program's table as a law meets it (CAt), rows of numbers that read, queries that the text has laid.
-/
import Derived.Test.YtadkfedglkhgjaaQrk
import Derived.Test.YtadkfedglkhgjaaQin
import Derived.Test.YtadkfedglkhgjaaPr
namespace Go.Proofs.Ytadkfedglkhgjaa
open Go.RowKit Go.ChangeShapes Go.WideShapes Go.ChangeAt Go.Maps

/-- A table that a law has made: nothing that lay below w0 has turned. -/
def CAt (w0 : World) (k x : Nat) (s : CTab) (w : World) : Prop := ∃ lo F, CIs w lo x F s ∧ s.Few k ∧ w0.heap.size ≤ lo ∧ Below w0.heap.size w0 w
section
variable {w0 w w' : World} {k x : Nat} {s s' : CTab}
theorem CAt.below (h : CAt w0 k x s w) : Below w0.heap.size w0 w := by
  obtain ⟨lo, F, _, _, _, h⟩ := h
  exact h
theorem CAt.few (h : CAt w0 k x s w) : s.Few k := by
  obtain ⟨lo, F, _, h, _⟩ := h
  exact h
theorem CAt.on (h : CAt w0 k x s w) (hb : Below w.heap.size w w') : CAt w0 k x s w' := by
  obtain ⟨lo, F, h1, h2, h3, h4⟩ := h
  exact ⟨lo, F, h1.on hb, h2, h3, h4.trans (hb.mono h4.size)⟩
theorem CAt.more {k' : Nat} (h : CAt w0 k x s w) (hk : k ≤ k') : CAt w0 k' x s w := by
  obtain ⟨lo, F, h1, h2, h3, h4⟩ := h
  exact ⟨lo, F, h1, h2.mono hk, h3, h4⟩
theorem CAt.post {lo k' : Nat} {F : List Nat} (h : CIs w lo x F s) (hlo : w0.heap.size ≤ lo) (hb : Below w0.heap.size w0 w) (hp : QPost lo x F s' w w') (hf : s'.Few k') : CAt w0 k' x s' w' := by
  obtain ⟨F', h1, h2, h3⟩ := hp
  exact ⟨lo, F', h1, hf, hlo, hb.trans ((h.below h2).mono hlo)⟩
end
theorem QPost.kept {lo x : Nat} {F : List Nat} {s : CTab} {w w' : World} (h : QPost lo x F s w w') : Kept F w w' := by
  obtain ⟨_, _, hk, _⟩ := h
  exact hk
/-- Blocks of types that no table has stay as they are. -/
def Stays (w w' : World) : Prop := ∀ t, t ≠ 76 → t ≠ 85 → t ≠ 21 → t ≠ 9 → ∀ b cs, Blk w b t cs → Blk w' b t cs
theorem Stays.refl (w : World) : Stays w w := fun _ _ _ _ _ _ _ h => h
theorem Stays.below {w w' : World} (h : Below w.heap.size w w') : Stays w w' := fun _ _ _ _ _ _ _ hb => (Kept.of_below (F := []) h (Nat.le_refl _)).blk hb (by simp)
theorem Stays.trans {w w' w'' : World} (h : Stays w w') (h' : Stays w' w'') : Stays w w'' := fun t h1 h2 h3 h4 b cs hb => h' t h1 h2 h3 h4 b cs (h t h1 h2 h3 h4 b cs hb)
theorem Stays.of {w w' : World} {lo x : Nat} {F : List Nat} {s : CTab} (h : CIs w lo x F s) (hk : Kept F w w') : Stays w w' := by
  intro t h1 h2 h3 h4 b cs hb
  refine hk.blk hb fun hF => ?_
  obtain ⟨m, L, hT, -, rfl⟩ := h
  rcases mem_fpQ.1 hF with e | e | ⟨u, hu, e⟩
  · subst e
    exact hb.ne hT.blk h1 rfl
  · subst e
    exact hT.map.ne_blk hb rfl
  · rcases mem_fpC.1 e with e | e
    · subst e
      exact hb.ne (hT.each u hu).blk h2 rfl
    · exact (hT.each u hu).rows.not_blk hb (fun e => h3 e.symm) (fun e => h4 e.symm) e
theorem Stays.row {w w' : World} {lo n k : Nat} {t : TypeId} {v : Value} {xs : List Value} (h : Stays w w') (h1 : t ≠ 76) (h2 : t ≠ 85) (h3 : t ≠ 21) (h4 : t ≠ 9) (hr : w.ownsRow lo t k v n xs) : w'.ownsRow lo t k v n xs := by
  obtain ⟨r1, r2⟩ := hr
  refine ⟨r1, ?_⟩
  rcases r2 with r2 | ⟨g, cap, cur, rfl, hg, hh, r⟩
  · exact .inl r2
  · exact .inr ⟨g, cap, cur, rfl, hg, h t h1 h2 h3 h4 g cur.toList hh, r⟩
theorem c_new (w0 w : World) (hb : Below w0.heap.size w0 w) (idle : Nat) (hi : idle < 4294967296) : Calls Try.prog 6 #[.int .u32 (idle : Int)] w fun e w' => ∃ x, e = .returned (.pointer (some ⟨x, 0, none⟩)) ∧ CAt w0 0 x ⟨[], 0, idle⟩ w' := by
  refine (cnew_any w idle hi).mono ?_
  rintro e w' ⟨x, F, rfl, hb2, h⟩
  exact ⟨x, rfl, w.heap.size, F, h, CTab.few_new 0 idle, hb.size, hb.trans (hb2.mono hb.size)⟩
/-- What Open tells, and leaves. -/
def OpenC (w0 : World) (k x : Nat) (s : CTab) (owner : Nat) (pin : Int) (q : QryV) (now : Nat) (w : World) (e : Ending) (w' : World) : Prop :=
  ∃ (s0 : CTab) (gone : Int), ((s.cs.length < 8 ∧ s0 = s ∧ gone = 0) ∨ (8 ≤ s.cs.length ∧ ∃ c, LeastC s.cs c ∧ s0 = s.cut c.n ∧ gone = c.pin)) ∧ e = .returned (.tuple #[.int .u32 ((s.last + 1 : Nat) : Int), .int .i64 gone]) ∧ CAt w0 (k + 1) x (s0.start owner pin q now) w' ∧ Stays w w'
theorem c_open {w0 wp w : World} {k x : Nat} {s : CTab} (h : CAt w0 k x s wp) (hb : Below wp.heap.size wp w) (hk : k ≤ 1000000) (owner now : Nat) (pin : Int) (ho : owner < 18446744073709551616) (hn : now < 4294967296) (ql : QryL) (hq : ql.In (fun b => b < w0.heap.size ∨ wp.heap.size ≤ b) w) :
    Calls Try.prog 8 #[.pointer (some ⟨x, 0, none⟩), .int .u64 (owner : Int), .int .i64 pin, .slice ql.pv.1 ql.pv.2.1 ql.pv.2.2, .agg #[.slice ql.p0.1 ql.p0.2.1 ql.p0.2.2, .slice ql.p1.1 ql.p1.2.1 ql.p1.2.2, .slice ql.p2.1 ql.p2.2.1 ql.p2.2.2], .int .u32 (now : Int)] w (OpenC w0 k x s owner pin ql.q now w) := by
  obtain ⟨lo, F, h1, h2, h3, h4⟩ := h
  have hF := h1.lt
  refine (copen_any w lo x k F s (h1.on hb) h2 hk owner now pin ho hn ql (hq.mono fun b hb _ hf => ?_)).mono ?_
  · have := hF b hf
    omega
  · rintro e w' ⟨s0, gone, hs, rfl, hp⟩
    refine ⟨s0, gone, hs, rfl, CAt.post (h1.on hb) h3 (h4.trans (hb.mono h4.size)) hp ?_, Stays.of (h1.on hb) hp.kept⟩
    rcases hs with ⟨hl, rfl, _⟩ | ⟨hl, c, hc, rfl, _⟩
    · exact h2.start hl
    · refine (h2.cut (n := c.n)).start ?_
      have h5 : (s.cs.filter fun d => decide (d.n ≠ c.n)).length < s.cs.length := List.length_filter_lt_length_iff_exists.2 ⟨c, hc.1, by simp⟩
      have := h2.eight
      show (s.cs.filter fun d => decide (d.n ≠ c.n)).length < 8
      omega
/-- What Take tells, and leaves. -/
def TakeC (w0 : World) (k x : Nat) (s : CTab) (owner n page now : Nat) (w : World) (e : Ending) (w' : World) : Prop :=
  (s.takeE owner n page ≠ 0 ∧ e = .returned (.tuple #[.agg #[.int .i64 0, .slice none 0 0, .slice none 0 0, .slice none 0 0, .slice none 0 0, .bool false, .int .i64 0, .int .u32 0], .int .i64 (s.takeE owner n page : Int)]) ∧ CAt w0 k x s w' ∧ Stays w w' ∧ Below w.heap.size w w') ∨
  (s.takeE owner n page = 0 ∧ ∃ (c : CurV) (y : QryL), s.own owner n = some c ∧ c.may page = true ∧ y.q = c.q ∧ e = .returned (.tuple #[askA c.pin y (c.behind page), .int .i64 0]) ∧ y.Own w.heap.size w' ∧ CAt w0 k x (s.take owner n page now) w' ∧ Stays w w')
theorem c_take {w0 w : World} {k x : Nat} {s : CTab} (h : CAt w0 k x s w) (owner n page now : Nat) (hn : n < 4294967296) (hp : page < 4294967296) (hnw : now < 4294967296) :
    Calls Try.prog 11 #[.pointer (some ⟨x, 0, none⟩), .int .u64 (owner : Int), .int .u32 (n : Int), .int .u32 (page : Int), .int .u32 (now : Int)] w (TakeC w0 k x s owner n page now w) := by
  obtain ⟨lo, F, h1, h2, h3, h4⟩ := h
  refine (ctake_any w lo x F s h1 owner n page now hn hp hnw).mono ?_
  rintro e w' (⟨he, rfl, hc, hk, hbw⟩ | ⟨he, c, y, ho, hm, hq, rfl, hy, hc, hk⟩)
  · exact .inl ⟨he, rfl, CAt.post h1 h3 h4 ⟨F, hc, hk, Grows.refl _ _⟩ h2, Stays.of h1 hk, hbw⟩
  · exact .inr ⟨he, c, y, ho, hm, hq, rfl, hy, CAt.post h1 h3 h4 ⟨F, hc, hk, Grows.refl _ _⟩ h2.take, Stays.of h1 hk⟩
theorem c_told {w0 wp w : World} {k x : Nat} {s : CTab} (h : CAt w0 k x s wp) (hb : Below wp.heap.size wp w) (n page : Nat) (hn : n < 4294967296) (hp : page < 4294967296) (a : Option Addr) (m c : Nat) (l : List (Int × Int)) (hl : HitsQ w a m l) (hne : m ≠ 0 → ∀ b off, a = some ⟨b, off, none⟩ → b < w0.heap.size ∨ wp.heap.size ≤ b) :
    Calls Try.prog 14 #[.pointer (some ⟨x, 0, none⟩), .int .u32 (n : Int), .int .u32 (page : Int), .slice a m c] w fun e w' => e = .returned (.tuple #[]) ∧ CAt w0 (k + 1) x (s.told n page l) w' ∧ Stays w w' := by
  obtain ⟨lo, F, h1, h2, h3, h4⟩ := h
  have hF := h1.lt
  refine (ctold_any w lo x F s (h1.on hb) n page hn hp a m c l hl (fun h0 b off e hf => ?_)).mono ?_
  · have := hF b hf
    have := hne h0 b off e
    omega
  · rintro e w' ⟨rfl, hc, hk⟩
    exact ⟨rfl, CAt.post (h1.on hb) h3 (h4.trans (hb.mono h4.size)) ⟨F, hc, hk, Grows.refl _ _⟩ h2.tell, Stays.of (h1.on hb) hk⟩
theorem c_close {w0 w : World} {k x : Nat} {s : CTab} (h : CAt w0 k x s w) (owner n : Nat) (hn : n < 4294967296) :
    Calls Try.prog 16 #[.pointer (some ⟨x, 0, none⟩), .int .u64 (owner : Int), .int .u32 (n : Int)] w fun e w' =>
      (s.own owner n = none ∧ e = .returned (.tuple #[.int .i64 0, .int .i64 140]) ∧ CAt w0 k x s w' ∧ Stays w w') ∨ (∃ c, s.own owner n = some c ∧ e = .returned (.tuple #[.int .i64 c.pin, .int .i64 0]) ∧ CAt w0 k x (s.cut n) w' ∧ Stays w w') := by
  obtain ⟨lo, F, h1, h2, h3, h4⟩ := h
  refine (cclose_any w lo x F s h1 owner n hn).mono ?_
  rintro e w' (⟨ho, rfl, hp⟩ | ⟨c, ho, rfl, hp⟩)
  · exact .inl ⟨ho, rfl, CAt.post h1 h3 h4 hp h2, Stays.of h1 hp.kept⟩
  · exact .inr ⟨c, ho, rfl, CAt.post h1 h3 h4 hp h2.cut, Stays.of h1 hp.kept⟩
theorem c_leave {w0 w : World} {k x : Nat} {s : CTab} (h : CAt w0 k x s w) (owner : Nat) :
    Calls Try.prog 19 #[.pointer (some ⟨x, 0, none⟩), .int .u64 (owner : Int)] w fun e w' => ∃ v, e = .returned v ∧ IntsZ w.heap.size w' v (s.pins (isOwner owner)) ∧ CAt w0 k x (s.less (isOwner owner)) w' ∧ Stays w w' := by
  obtain ⟨lo, F, h1, h2, h3, h4⟩ := h
  refine (cleave_any w lo x F s h1 h2.rising owner).mono ?_
  rintro e w' ⟨v, rfl, hv, hp⟩
  exact ⟨v, rfl, hv, CAt.post h1 h3 h4 hp h2.less, Stays.of h1 hp.kept⟩
theorem c_tick {w0 w : World} {k x : Nat} {s : CTab} (h : CAt w0 k x s w) (now : Nat) (hn : now < 4294967296) :
    Calls Try.prog 21 #[.pointer (some ⟨x, 0, none⟩), .int .u32 (now : Int)] w fun e w' => ∃ v, e = .returned v ∧ IntsZ w.heap.size w' v (s.pins (isLate s.idle now)) ∧ CAt w0 k x (s.less (isLate s.idle now)) w' ∧ Stays w w' := by
  obtain ⟨lo, F, h1, h2, h3, h4⟩ := h
  refine (ctick_any w lo x F s h1 h2.rising now hn).mono ?_
  rintro e w' ⟨v, rfl, hv, hp⟩
  exact ⟨v, rfl, hv, CAt.post h1 h3 h4 hp h2.less, Stays.of h1 hp.kept⟩
theorem c_len {w0 w : World} {k x : Nat} {s : CTab} (h : CAt w0 k x s w) :
    Calls Try.prog 23 #[.pointer (some ⟨x, 0, none⟩)] w fun e w' => e = .returned (.int .i64 (s.cs.length : Int)) ∧ w = w' := by
  obtain ⟨lo, F, h1, h2, h3, h4⟩ := h
  exact clen_any w lo x F s h1

theorem flatten_sing14 {α β : Type} (f : α → β) (l : List α) : (l.map fun x => [f x]).flatten = l.map f := by
  induction l with
  | nil => rfl
  | cons x l ih => simp [ih]
theorem IntsZ.reads {lo : Nat} {w : World} {a : Option Addr} {n c : Nat} {l : List Int} (h : IntsZ lo w (.slice a n c) l) (hs : l.length ≤ 1000000) (hw : ∀ z ∈ l, (Lit.int .i64 z).wf = true) : Reads .i64 w a n l := by
  obtain ⟨a', n', c', e, hn⟩ := h.parts
  simp only [Value.slice.injEq] at e
  obtain ⟨rfl, rfl, rfl⟩ := e
  have hn := hn.out
  have h2 := h.2
  rw [flatten_sing14, List.length_map] at h2
  refine ⟨hn, by omega, by simp only [kbytes]; omega, hw, ?_⟩
  rcases own_cells1 (show w.ownsRow lo 3 1 _ (l.map (Value.int .i64)).length (l.map (Value.int .i64)) from by rw [List.length_map]; exact h2) with ⟨h1, h3⟩ | ⟨g, c2, h1, _, _, h4, h5⟩
  · left
    have := congrArg List.length h3
    simp at this
    rw [this] at hn
    exact hn.symm
  · right
    simp only [Value.slice.injEq] at h1
    obtain ⟨rfl, -, -⟩ := h1
    refine ⟨g, 0, rfl, h4, fun i hi => ?_⟩
    rw [Nat.zero_add, h5 i (by rw [List.length_map, hn]; exact hi), List.getElem?_map, List.getElem?_eq_getElem (by omega)]
    simp [List.getD, show i < l.length by omega]
/-- One number that the text has laid. -/
theorem own_one (w : World) (z : Int) : (w.alloc (.cells #[.int .i32 z] 21)).ownsRow w.heap.size 21 1 (.slice (some ⟨w.heap.size, 0, none⟩) 1 1) 1 [.int .i32 z] :=
  ⟨by simp, .inr ⟨w.heap.size, 1, #[.int .i32 z], rfl, Nat.le_refl _, Blk.new w _ #[.int .i32 z], Nat.le_refl _, by decide, by simp, by simp⟩⟩
theorem nil_strs (ok : Nat → Prop) (w : World) : Rd ok w shTags [.slice none 0 0] [] :=
  own_strs (lo := 0) (t := 9) (xs := []) ⟨by simp, .inl ⟨rfl, rfl⟩⟩ (fun g e => by cases e) (by simp) (by decide) (by decide)
/-- What is asked for by one number, and no filter. -/
def oneQ (g : Nat) (z : Int) : QryL := ⟨(some ⟨g, 0, none⟩, 1, 1), (none, 0, 0), (none, 0, 0), (none, 0, 0), ⟨[z], [], [], []⟩⟩
theorem oneQ_in (B : Nat) (w : World) (z : Int) (hz : (Lit.int .i32 z).wf = true) : (oneQ w.heap.size z).In (fun b => b < B ∨ w.heap.size ≤ b) (w.alloc (.cells #[.int .i32 z] 21)) :=
  ⟨own_ints (xs := [z]) (own_one w z) (fun g e => by cases e; exact .inr (Nat.le_refl _)) (by simpa using hz) (by decide) (show 1 * 4 ≤ 140737488351232 by decide), nil_strs _ _, nil_strs _ _, nil_strs _ _⟩
end Go.Proofs.Ytadkfedglkhgjaa
