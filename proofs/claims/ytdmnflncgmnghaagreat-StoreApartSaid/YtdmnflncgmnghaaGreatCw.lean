/-
  The program's past in plain words: a state, and each call's answer, whatever lies where.
-/
import Derived.Test.YtdmnflncgmnghaaGreatCz
import Derived.Test.YtdmnflncgmnghaaGreatCp
import Derived.Test.YtdmnflncgmnghaaGreatCA
namespace Go.Proofs.YtdmnflncgmnghaaGreat
open Go.RowKit

/-- Two pasts that tell the same. -/
def SameP (p q : PastV) : Prop := p.rows = q.rows ∧ p.last = q.last ∧ p.floor = q.floor ∧ ∀ v, p.known v = q.known v
theorem SameP.refl (p : PastV) : SameP p p := ⟨rfl, rfl, rfl, fun _ => rfl⟩
theorem SameP.symm {p q : PastV} (h : SameP p q) : SameP q p := ⟨h.1.symm, h.2.1.symm, h.2.2.1.symm, fun v => (h.2.2.2 v).symm⟩
theorem SameP.trans {p q r : PastV} (h : SameP p q) (k : SameP q r) : SameP p r := ⟨h.1.trans k.1, h.2.1.trans k.2.1, h.2.2.1.trans k.2.2.1, fun v => (h.2.2.2 v).trans (k.2.2.2 v)⟩
theorem SameP.lay {p q : PastV} (h : SameP p q) (r : RowV) : SameP (p.lay r).1 (q.lay r).1 ∧ (p.lay r).2 = (q.lay r).2 := by
  obtain ⟨h1, h2, h3, h4⟩ := h
  unfold PastV.lay
  rw [h1, h2]
  split
  · exact ⟨⟨h1, h2, h3, h4⟩, rfl⟩
  · split
    · exact ⟨⟨h1, h2, h3, h4⟩, rfl⟩
    · split
      · exact ⟨⟨h1, h2, h3, h4⟩, rfl⟩
      · exact ⟨⟨rfl, rfl, h3, h4⟩, rfl⟩
theorem SameP.get {p q : PastV} (h : SameP p q) (id v : Nat) : p.get id v = q.get id v := by
  unfold PastV.get
  rw [h.1, h.2.2.2]
theorem SameP.all {p q : PastV} (h : SameP p q) (v : Nat) : p.all v = q.all v := by
  unfold PastV.all
  rw [h.1, h.2.2.2]
theorem SameP.sweep {p q : PastV} (h : SameP p q) (keep : List Nat) : p.sweep keep = q.sweep keep := by
  unfold PastV.sweep
  rw [show p.known = q.known from funext h.2.2.2, h.1, h.2.1]

/-- A past stands in block g; F: all the blocks that it may turn. -/
def PastIs (w : World) (lo g : Nat) (F : List Nat) (p : PastV) : Prop := ∃ (It : List Nat) (u k : Value) (L : List RowL) (last floor : Nat) (kept : List Nat), PastC w lo g It u k L last floor kept ∧ F = FpC g u k It ∧ SameP p (PastC.st L last floor kept)
section
variable {w w' : World} {lo g : Nat} {F G : List Nat} {p : PastV}
theorem PastIs.kept (h : PastIs w lo g F p) (hk : Kept G w w') (hG : ∀ x ∈ G, x ∉ F) : PastIs w' lo g F p := by
  obtain ⟨It, u, k, L, last, floor, kept, h1, rfl, h3⟩ := h
  refine ⟨It, u, k, L, last, floor, kept, h1.kept hk (fun x hx => ?_), rfl, h3⟩
  have := hG x hx
  rw [mem_fpC] at this
  exact ⟨fun e => this (.inl e), fun e => this (.inr (.inl e)), fun e => this (.inr (.inr (.inl e))), fun e => this (.inr (.inr (.inr e)))⟩
theorem PastIs.on (h : PastIs w lo g F p) (hb : Below w.heap.size w w') : PastIs w' lo g F p := h.kept (G := []) (Kept.of_below hb (Nat.le_refl _)) (by simp)
theorem PastIs.lt (h : PastIs w lo g F p) : ∀ x ∈ F, lo ≤ x ∧ x < w.heap.size := by
  obtain ⟨It, u, k, L, last, floor, kept, h1, rfl, h3⟩ := h
  intro x hx
  rw [mem_fpC] at hx
  rcases hx with rfl | hx | hx | hx
  · exact ⟨h1.glo, h1.blk.lt⟩
  · exact h1.rows.lt x hx
  · exact h1.vers.lt x hx
  · exact ⟨(h1.items x hx).1, (h1.items x hx).2.1⟩
theorem PastIs.same {q : PastV} (h : PastIs w lo g F p) (hs : SameP p q) : PastIs w lo g F q := by
  obtain ⟨It, u, k, L, last, floor, kept, h1, h2, h3⟩ := h
  exact ⟨It, u, k, L, last, floor, kept, h1, h2, hs.symm.trans h3⟩
theorem PastIs.last64 (h : PastIs w lo g F p) : p.last < 18446744073709551616 := by
  obtain ⟨It, u, k, L, last, floor, kept, h1, rfl, h3⟩ := h
  rw [h3.2.1]
  exact h1.hlast
theorem PastIs.size1 (h : PastIs w lo g F p) : lo ≤ w.heap.size := by
  obtain ⟨It, u, k, L, last, floor, kept, h1, rfl, h3⟩ := h
  exact Nat.le_of_lt (Nat.lt_of_le_of_lt h1.glo h1.blk.lt)
theorem PastIs.few (h : PastIs w lo g F p) : p.rows.length ≤ 1024 := by
  obtain ⟨It, u, k, L, last, floor, kept, h1, rfl, h3⟩ := h
  rw [h3.1]
  show (rowsV L).length ≤ 1024
  rw [rowsV_len]
  exact h1.hL
end
/-- What a row that is laid leaves. -/
def LaidIs (lo g : Nat) (F : List Nat) (p : PastV) (r : RowV) (w : World) (e : Ending) (w' : World) : Prop :=
  ∃ F', e = .returned (.int .i64 (((p.lay r).2 : Nat) : Int)) ∧ PastIs w' lo g F' (p.lay r).1 ∧ Kept F w w' ∧ Grows w F F'
theorem laid_is {lo g : Nat} {It : List Nat} {u k : Value} {L : List RowL} {last floor : Nat} {kept : List Nat} {p : PastV} {r : RowV} {w w' : World} {e : Ending} (hs : SameP p (PastC.st L last floor kept)) (h : LayPostC lo g It u k L last floor kept r w e w') : LaidIs lo g (FpC g u k It) p r w e w' := by
  obtain ⟨u', It', L', last', code, rfl, h2, h3, h4, h5⟩ := h
  have h6 := hs.lay r
  rw [h3] at h6
  exact ⟨FpC g u' k It', by rw [h6.2], ⟨It', u', k, L', last', floor, kept, h2, rfl, h6.1⟩, h4, h5⟩
theorem new_is (w : World) : Calls Tryz.prog 45 #[] w fun e w' => ∃ F, e = .returned (.pointer (some ⟨w.heap.size, 0, none⟩)) ∧ Below w.heap.size w w' ∧ PastIs w' w.heap.size w.heap.size F PastV.new := by
  refine (new_any8 w).mono ?_
  rintro e w' ⟨rfl, h1, h2⟩
  exact ⟨_, rfl, h1, [], _, _, [], 0, 0, [], h2, rfl, SameP.refl _⟩
theorem put_is (w : World) (lo g : Nat) (F : List Nat) (p : PastV) (v : Nat) (x : ItL) (h : PastIs w lo g F p) (hv : v < 18446744073709551616) (hx : x.In (fun _ => True) w) :
    Calls Tryz.prog 73 #[.pointer (some ⟨g, 0, none⟩), .int .u64 (v : Int), .agg x.cells.toArray] w fun e w' => LaidIs lo g F p ⟨v, false, x.toI⟩ w e w' := by
  obtain ⟨It, u, k, L, last, floor, kept, h1, rfl, h3⟩ := h
  exact (put_past w lo g It u k L last floor kept v x h1 hv hx).mono fun _ _ h => laid_is h3 h
theorem cut_is (w : World) (lo g : Nat) (F : List Nat) (p : PastV) (v id : Nat) (h : PastIs w lo g F p) (hv : v < 18446744073709551616) (hid : id < 4294967296) :
    Calls Tryz.prog 72 #[.pointer (some ⟨g, 0, none⟩), .int .u64 (v : Int), .int .u32 (id : Int)] w fun e w' => LaidIs lo g F p ⟨v, true, ⟨id, [], []⟩⟩ w e w' := by
  obtain ⟨It, u, k, L, last, floor, kept, h1, rfl, h3⟩ := h
  exact (cut_past w lo g It u k L last floor kept v id h1 hv hid).mono fun _ _ h => laid_is h3 h
/-- What a sweep leaves. -/
def SweptIs (lo g : Nat) (F : List Nat) (p : PastV) (keep : List Nat) (w : World) (e : Ending) (w' : World) : Prop :=
  ∃ F', e = .returned (.int .i64 (((p.sweep keep).2 : Nat) : Int)) ∧ PastIs w' lo g F' (p.sweep keep).1 ∧ Kept F w w' ∧ Grows w F F'
theorem sweep_is (w : World) (lo g : Nat) (F : List Nat) (p : PastV) (ka : Option Addr) (kn kc : Nat) (keep : List Nat) (hsort : SortU keep.length) (h : PastIs w lo g F p) (hk : VersIn w w.heap.size ka kn kc keep) :
    Calls Tryz.prog 81 #[.pointer (some ⟨g, 0, none⟩), .slice ka kn kc] w fun e w' => SweptIs lo g F p keep w e w' := by
  obtain ⟨It, u, k, L, last, floor, kept, h1, rfl, h3⟩ := h
  refine (sweep_past w lo g It u k L last floor kept ka kn kc keep hsort h1 hk).mono ?_
  rintro e w' ⟨u', k', L', ks, rfl, h4, h5, h6, h7, h8, h9⟩
  rw [← h3.sweep keep] at h5 h6 ⊢
  refine ⟨FpC g u' k' It, rfl, ⟨It, u', k', L', last, last, ks, h4, rfl, ⟨h5.symm, h3.2.1, h3.2.1, fun v => (h6 v).symm⟩⟩, h7.mono (fun x hx => by rw [mem_fpC]; exact .inl (by simpa using hx)), fun x hx => ?_⟩
  rw [mem_fpC] at hx
  rcases hx with hx | hx | hx | hx
  · exact .inl (by rw [mem_fpC]; exact .inl hx)
  · exact .inr (h8 x hx)
  · exact .inr (h9 x hx)
  · exact .inl (by rw [mem_fpC]; exact .inr (.inr (.inr hx)))
theorem get_is (w : World) (lo g : Nat) (F : List Nat) (p : PastV) (id v : Nat) (h : PastIs w lo g F p) (hv : v < 18446744073709551616) :
    Calls Tryz.prog 62 #[.pointer (some ⟨g, 0, none⟩), .int .u32 (id : Int), .int .u64 (v : Int)] w fun e w' => ItemPostC (p.get id v) w e w' := by
  obtain ⟨It, u, k, L, last, floor, kept, h1, rfl, h3⟩ := h
  rw [h3.get]
  exact get_past w lo g It u k L last floor kept id v h1 hv
theorem all_is (w : World) (lo g : Nat) (F : List Nat) (p : PastV) (v : Nat) (h : PastIs w lo g F p) (hv : v < 18446744073709551616) :
    Calls Tryz.prog 50 #[.pointer (some ⟨g, 0, none⟩), .int .u64 (v : Int)] w fun e w' => AllPostC (p.all v) w e w' := by
  obtain ⟨It, u, k, L, last, floor, kept, h1, rfl, h3⟩ := h
  rw [h3.all]
  exact all_past w lo g It u k L last floor kept v hv h1
theorem last_is (w : World) (lo g : Nat) (F : List Nat) (p : PastV) (h : PastIs w lo g F p) :
    Calls Tryz.prog 65 #[.pointer (some ⟨g, 0, none⟩)] w fun e w' => e = .returned (.int .u64 (p.last : Int)) ∧ w' = w := by
  obtain ⟨It, u, k, L, last, floor, kept, h1, rfl, h3⟩ := h
  rw [h3.2.1]
  exact last_any w g u k last floor h1.blk
theorem rows_is (w : World) (lo g : Nat) (F : List Nat) (p : PastV) (h : PastIs w lo g F p) :
    Calls Tryz.prog 41 #[.pointer (some ⟨g, 0, none⟩)] w fun e w' => e = .returned (.int .i64 (p.rows.length : Int)) ∧ w' = w := by
  obtain ⟨It, u, k, L, last, floor, kept, h1, rfl, h3⟩ := h
  obtain ⟨a, c, rfl, _⟩ := h1.u_form
  rw [h3.1, show (PastC.st L last floor kept).rows.length = L.length from rowsV_len L]
  exact rows_any w g a L.length c k last floor h1.blk
/-- What a call has made may be read by whoever asks. -/
theorem ItL.OwnI.in {lo : Nat} {w : World} {x : ItL} (h : x.OwnI lo w) : x.In (fun _ => True) w := ⟨h.hid, own_ints h.vec (fun _ _ => trivial) h.wv (by decide) h.lv, own_strs h.tags (fun _ _ => trivial) h.wt (by decide) h.lt⟩
end Go.Proofs.YtdmnflncgmnghaaGreat
