/-
  The document's past in plain words, as the program's is (PastIs): a state, and each call's answer; both beside each other.
-/
import Derived.Test.YtdmnflncgmnghaaDs
import Derived.Test.YtdmnflncgmnghaaCy
import Derived.Test.YtdmnflncgmnghaaJl
import Derived.Test.YtdmnflncgmnghaaJs
import Derived.Test.YtdmnflncgmnghaaJG
import Derived.Test.YtdmnflncgmnghaaJA
namespace Go.Proofs.Ytdmnflncgmnghaa
open Go.RowKit

/-- The document's past stands in block g; F: all the blocks that it may turn. -/
def RefIs (w : World) (B lo g : Nat) (F : List Nat) (p : PastV) : Prop := ∃ (u k : Value) (L : List RowL) (last floor : Nat) (kept : List Nat), PastR w B lo g u k L last floor kept ∧ F = g :: (ownB u ++ ownB k) ∧ SameP p (PastR.st L last floor kept)
section
variable {w w' : World} {B lo g : Nat} {F G : List Nat} {p : PastV}
theorem RefIs.kept (h : RefIs w B lo g F p) (hk : Kept G w w') (hG : ∀ x ∈ G, x ∉ F ∧ B ≤ x) : RefIs w' B lo g F p := by
  obtain ⟨u, k, L, last, floor, kept, h1, rfl, h3⟩ := h
  refine ⟨u, k, L, last, floor, kept, h1.kept hk (fun x hx => ?_), rfl, h3⟩
  have := hG x hx
  simp only [List.mem_cons, List.mem_append, mem_ownB, not_or] at this
  exact ⟨this.1.1, this.1.2.1, this.1.2.2, this.2⟩
theorem RefIs.on (h : RefIs w B lo g F p) (hb : Below w.heap.size w w') : RefIs w' B lo g F p := h.kept (G := []) (Kept.of_below hb (Nat.le_refl _)) (by simp)
theorem RefIs.lt (h : RefIs w B lo g F p) : ∀ x ∈ F, lo ≤ x ∧ x < w.heap.size := by
  obtain ⟨u, k, L, last, floor, kept, h1, rfl, h3⟩ := h
  intro x hx
  simp only [List.mem_cons, List.mem_append, mem_ownB] at hx
  rcases hx with rfl | hx | hx
  · exact ⟨h1.glo, h1.blk.lt⟩
  · exact h1.rows.lt x hx
  · exact h1.vers.lt x hx
theorem RefIs.hB (h : RefIs w B lo g F p) : B ≤ lo := by
  obtain ⟨u, k, L, last, floor, kept, h1, rfl, h3⟩ := h
  exact h1.hB
/-- What can be seen of it at once. -/
theorem RefIs.seen (h : RefIs w B lo g F p) : ∃ (a : Option Addr) (n c floor : Nat) (k : Value), Blk w g 31 [.slice a n c, .int .u64 (p.last : Int), .int .u64 (floor : Int), k] ∧ n = p.rows.length ∧ p.last < 18446744073709551616 ∧ n ≤ 1024 := by
  obtain ⟨u, k, L, last, floor, kept, h1, rfl, h3⟩ := h
  obtain ⟨a, c, rfl, hnc⟩ := h1.u_form
  refine ⟨a, L.length, c, floor, k, ?_, ?_, ?_, h1.hL⟩
  · rw [h3.2.1]
    exact h1.blk
  · rw [h3.1]
    exact (rowsV_len L).symm
  · rw [h3.2.1]
    exact h1.hlast
end
def rowOf (v : Nat) (gone : Bool) (x : ItL) : RowL := ⟨v, gone, x.id, x.pv, x.pt, x.vec, x.tags⟩
theorem rowOf_toR (v : Nat) (gone : Bool) (x : ItL) : (rowOf v gone x).toR = ⟨v, gone, x.toI⟩ := rfl
/-- What a row that is laid leaves. -/
def RLaidIs (B lo g : Nat) (F : List Nat) (p : PastV) (r : RowV) (w : World) (e : Ending) (w' : World) : Prop :=
  ∃ F', e = .returned (.int .i64 (((p.lay r).2 : Nat) : Int)) ∧ RefIs w' B lo g F' (p.lay r).1 ∧ Kept F w w' ∧ Grows w F F'
theorem rlay_is (w : World) (B lo g : Nat) (F : List Nat) (p : PastV) (r : RowL) (h : RefIs w B lo g F p) (hr : r.In (· < B) w) :
    Calls Try.prog 11 #[.pointer (some ⟨g, 0, none⟩), .agg r.cells.toArray] w fun e w' => RLaidIs B lo g F p r.toR w e w' := by
  obtain ⟨u, k, L, last, floor, kept, h1, rfl, h3⟩ := h
  refine (rlay_any w B lo g u k L last floor kept r h1 hr).mono ?_
  rintro e w' ⟨u', L', last', code, rfl, h4, h5, h6, h7⟩
  have h8 := h3.lay r.toR
  rw [h5] at h8
  refine ⟨g :: (ownB u' ++ ownB k), by rw [h8.2], ⟨u', k, L', last', floor, kept, h4, rfl, h8.1⟩, h6.mono (fun x hx => by simp only [List.mem_cons, List.mem_append] at hx ⊢; rcases hx with hx | hx; exact .inl hx; exact .inr (.inl hx)), fun x hx => ?_⟩
  simp only [List.mem_cons, List.mem_append] at hx ⊢
  rcases hx with hx | hx | hx
  · exact .inl (.inl hx)
  · have := h7 x (by simp [hx])
    simp only [List.mem_cons] at this
    rcases this with (h9 | h9) | h9
    · exact .inl (.inl h9)
    · exact .inl (.inr (.inl h9))
    · exact .inr h9
  · exact .inl (.inr (.inr hx))
/-- What a sweep leaves. -/
def RSweptIs (B lo g : Nat) (F : List Nat) (p : PastV) (keep : List Nat) (w : World) (e : Ending) (w' : World) : Prop :=
  ∃ F', e = .returned (.int .i64 (((p.sweep keep).2 : Nat) : Int)) ∧ RefIs w' B lo g F' (p.sweep keep).1 ∧ Kept F w w' ∧ Grows w F F'
theorem rsweep_is (w : World) (B lo g : Nat) (F : List Nat) (p : PastV) (ka : Option Addr) (kn kc : Nat) (keep : List Nat) (h : RefIs w B lo g F p) (hk : VersIn w B ka kn kc keep) :
    Calls Try.prog 14 #[.pointer (some ⟨g, 0, none⟩), .slice ka kn kc] w fun e w' => RSweptIs B lo g F p keep w e w' := by
  obtain ⟨u, k, L, last, floor, kept, h1, rfl, h3⟩ := h
  refine (rsweep_any w B lo g u k L last floor kept ka kn kc keep h1 hk).mono ?_
  rintro e w' ⟨u', k', L', ks, code, rfl, h4, h5, h6, h7, h8⟩
  unfold RSweptIs
  rw [h3.sweep keep, h5]
  refine ⟨g :: (ownB u' ++ ownB k'), rfl, ⟨u', k', L', last, last, ks, h4, rfl, SameP.refl _⟩, h6.mono (fun x hx => by simp only [List.mem_singleton] at hx; simp [hx]), fun x hx => ?_⟩
  simp only [List.mem_cons, List.mem_append, mem_ownB] at hx
  rcases hx with hx | hx | hx
  · exact .inl (by simp [hx])
  · exact .inr (h7 x hx)
  · exact .inr (h8 x hx)
theorem rget_is (w : World) (B lo g : Nat) (F : List Nat) (p : PastV) (id v : Nat) (h : RefIs w B lo g F p) (hv : v < 18446744073709551616) :
    Calls Try.prog 16 #[.pointer (some ⟨g, 0, none⟩), .int .u32 (id : Int), .int .u64 (v : Int)] w fun e w' => ItemPost B (p.get id v) w e w' := by
  obtain ⟨u, k, L, last, floor, kept, h1, rfl, h3⟩ := h
  rw [h3.get]
  exact rget_past w B lo g u k L last floor kept id v hv h1
theorem rall_is (w : World) (B lo g : Nat) (F : List Nat) (p : PastV) (v : Nat) (h : RefIs w B lo g F p) (hv : v < 18446744073709551616) :
    Calls Try.prog 19 #[.pointer (some ⟨g, 0, none⟩), .int .u64 (v : Int)] w fun e w' => AllPost B (p.all v) w e w' := by
  obtain ⟨u, k, L, last, floor, kept, h1, rfl, h3⟩ := h
  rw [h3.all]
  exact rall_past w B lo g u k L last floor kept v hv h1
/-- A new one. -/
theorem RefIs.new {w : World} {B : Nat} (hB : B ≤ w.heap.size) : RefIs (w.alloc (.cells #[.slice none 0 0, .int .u64 0, .int .u64 0, .slice none 0 0] 31)) B w.heap.size w.heap.size [w.heap.size] PastV.new := by
  refine ⟨.slice none 0 0, .slice none 0 0, [], 0, 0, [], ⟨Blk.new w _ _, RowC.nil _ _ _ _, by simp, RowC.nil _ _ _ _, by decide, by decide, by simp, by decide, by decide, Nat.le_refl _, hB⟩, rfl, SameP.refl _⟩
/-- The versions of a list that came in. -/
theorem vers_of {B : Nat} {w : World} {ka : Option Addr} {kn kc : Nat} {zs : List Int} (h : Rd (· < B) w (.slice (.int .u64) 8) [.slice ka kn kc] zs) (hn : kn ≤ 100000) : ∃ keep : List Nat, VersIn w B ka kn kc keep := by
  obtain ⟨a', n', c', h0, h1, h2, h3, h4, h5, h6⟩ := Rd.slice_part (e := .int .u64) (xs := zs) h
  simp only [List.cons.injEq, Value.slice.injEq, and_true] at h0
  obtain ⟨rfl, rfl, rfl⟩ := h0
  have h1' : List.length (α := Int) zs = kn := h1
  refine ⟨List.map Int.toNat zs, by rw [List.length_map]; exact h1', h4, hn, fun i x hx => ?_⟩
  rw [List.getElem?_map] at hx
  cases hz : (getElem? (coll := List Int) zs i) with
  | none => rw [hz] at hx; cases hx
  | some z =>
    rw [hz] at hx
    have hx : z.toNat = x := Option.some.inj hx
    have hi : i < kn := by
      rw [← h1']
      exact (List.getElem?_eq_some_iff.1 hz).1
    obtain ⟨b, off, y, vs, rfl, hb, hbw, hy, hlen, hc, hrd⟩ := Rd.elem (e := .int .u64) (xs := zs) h i hi
    have hyz : (some z : Option Int) = some y := hz.symm.trans hy
    cases hyz
    obtain ⟨rfl, hwf⟩ := Rd.int_part hrd
    simp [Lit.wf, IntKind.min, IntKind.max, IntKind.signed, IntKind.bits] at hwf
    refine ⟨by omega, b, off, rfl, hb, hbw, ?_⟩
    have h9 := hc 0 (by decide)
    rw [show off + i * (Sh.int IntKind.u64).cells + 0 = off + i by simp [Sh.cells]] at h9
    rw [h9, ← hx]
    simp only [List.getElem?_cons_zero, Option.some.injEq, Value.int.injEq, true_and]
    exact (Int.toNat_of_nonneg hwf.1).symm
/-- What is read of an op in a list, in whatever world that keeps what lay below; its versions too. -/
theorem rd_op_in2 {w : World} {a : Option Addr} {n c : Nat} {xs : List shOp.T} (h : Rd (· < w.heap.size) w shOps [.slice a n c] xs) (i : Nat) (hi : i < n) :
    ∃ (b off : Nat) (k : Nat) (ah : Int) (x : ItL) (ka : Option Addr) (kn kc : Nat) (keep : List Nat), a = some ⟨b, off, none⟩ ∧ b < w.heap.size ∧ k ≤ 255 ∧ -128 ≤ ah ∧ ah ≤ 127 ∧ kn ≤ 140737488351232 ∧ Hid (∀ wr, Below w.heap.size w wr → b < wr.heap.size ∧ x.In (· < w.heap.size) wr ∧ (kn ≤ 100000 → VersIn wr w.heap.size ka kn kc keep) ∧
      wr.cell? ⟨b, off + i * 6, none⟩ = some (.int .u8 (k : Int)) ∧ wr.cell? ⟨b, off + i * 6 + 1, none⟩ = some (.int .i8 ah) ∧ wr.cell? ⟨b, off + i * 6 + 2, none⟩ = some (.int .u32 (x.id : Int)) ∧ wr.cell? ⟨b, off + i * 6 + 3, none⟩ = some (.slice x.pv.1 x.pv.2.1 x.pv.2.2) ∧ wr.cell? ⟨b, off + i * 6 + 4, none⟩ = some (.slice x.pt.1 x.pt.2.1 x.pt.2.2) ∧ wr.cell? ⟨b, off + i * 6 + 5, none⟩ = some (.slice ka kn kc)) := by
  obtain ⟨b, off, k, ah, x, ka, kn, kc, zs, ha, hb, _, hk, h1, h2, hx, hz, c0, c1, c2, c3, c4, c5⟩ := rd_op_at h i hi
  have hkn : kn ≤ 140737488351232 := by
    obtain ⟨a', n', c', h0, _, _, h3, _⟩ := Rd.slice_part (e := .int .u64) (xs := zs) hz.out
    simp only [List.cons.injEq, Value.slice.injEq, and_true] at h0
    obtain ⟨rfl, rfl, rfl⟩ := h0
    exact h3
  obtain ⟨keep, hkeep⟩ : ∃ keep, kn ≤ 100000 → VersIn w w.heap.size ka kn kc keep := by
    by_cases hn : kn ≤ 100000
    · obtain ⟨keep, h9⟩ := vers_of hz.out hn
      exact ⟨keep, fun _ => h9⟩
    · exact ⟨[], fun h => absurd h hn⟩
  refine ⟨b, off, k, ah, x, ka, kn, kc, keep, ha, hb, hk, h1, h2, hkn, fun wr hw => ⟨Nat.lt_of_lt_of_le hb hw.size, hx.out.under hw, fun hn => (hkeep hn).under hw, ?_, ?_, ?_, ?_, ?_, ?_⟩⟩
  · exact (hw.cell (p := ⟨b, _, none⟩) hb).trans c0
  · exact (hw.cell (p := ⟨b, _, none⟩) hb).trans c1
  · exact (hw.cell (p := ⟨b, _, none⟩) hb).trans c2
  · exact (hw.cell (p := ⟨b, _, none⟩) hb).trans c3
  · exact (hw.cell (p := ⟨b, _, none⟩) hb).trans c4
  · exact (hw.cell (p := ⟨b, _, none⟩) hb).trans c5
/-- Items in a row of the call's own, their lists wherever they are, as they are read. -/
theorem its_rd_in {lo : Nat} {w : World} {v : Value} {xs : List ItL} {ok : Nat → Prop} (h : ItsAt lo w v xs) (ho : ∀ x ∈ xs, x.In ok w) (hl : xs.length ≤ 1000000) : ∃ (a : Option Addr) (n c : Nat), v = .slice a n c ∧ Rd (fun _ => True) w shItems [.slice a n c] (xs.map ItL.tup) := by
  obtain ⟨a, c, e, hc⟩ := RowC.form h
  rw [List.length_map] at e hc
  refine ⟨a, xs.length, c, e, ?_⟩
  subst e
  refine Rd.slice_mk ⟨a, xs.length, c, rfl, by simp, by omega, by omega, hc, ?_, ?_⟩
  · intro ha
    rcases h.2.2 with ⟨h1, h2⟩ | ⟨g, cap, cur, h1, _⟩
    · simp only [Value.slice.injEq] at h1
      exact ⟨h1.2.1, h1.2.2⟩
    · subst ha
      simp at h1
  · by_cases h0 : xs.length = 0
    · exact .inl h0
    · obtain ⟨x0, hx0⟩ : ∃ x0, xs[0]? = some x0 := ⟨_, List.getElem?_eq_getElem (by omega)⟩
      obtain ⟨g, c', e, hg, hgw, _⟩ := RowC.at h 0 x0.cells (by rw [List.getElem?_map, hx0]; rfl)
      simp only [Value.slice.injEq] at e
      obtain ⟨rfl, -, rfl⟩ := e
      refine .inr ⟨g, 0, rfl, trivial, hgw, fun i y hy => ?_⟩
      have hy' : (xs.map ItL.tup)[i]? = some y := hy
      rw [List.getElem?_map] at hy'
      cases hx : xs[i]? with
      | none =>
        rw [hx] at hy'
        cases hy'
      | some x =>
        rw [hx] at hy'
        cases hy'
        obtain ⟨g2, c2, e2, _, _, hrg⟩ := RowC.at h i x.cells (by rw [List.getElem?_map, hx]; rfl)
        simp only [Value.slice.injEq, Option.some.injEq, Addr.mk.injEq] at e2
        obtain ⟨⟨rfl, -⟩, -, rfl⟩ := e2
        have hox := ho x (List.mem_of_getElem? hx)
        refine ⟨x.cells, rfl, fun j hj => ?_, rd_item_mk hox.hid (hox.hvec.mono fun _ _ _ => trivial) (hox.htags.mono fun _ _ _ => trivial)⟩
        rw [Nat.zero_add]
        have h3 : j < x.cells.length := hj
        rw [List.getElem?_eq_getElem h3]
        exact hrg j _ (List.getElem?_eq_getElem h3)
theorem tups_item (l : List ItL) : (l.map ItL.tup).map toItem = l.map ItL.toI := by
  rw [List.map_map]
  rfl
theorem VersIn.any {w : World} {B n c : Nat} {a : Option Addr} {l : List Nat} (h : VersIn w B a n c l) : VersIn w w.heap.size a n c l := by
  obtain ⟨h1, h2, h3, h4⟩ := h
  refine ⟨h1, h2, h3, fun i x hx => ?_⟩
  obtain ⟨h5, b, off, rfl, _, hw, hc⟩ := h4 i x hx
  exact ⟨h5, b, off, rfl, hw, hw, hc⟩
theorem sortU_le {n : Nat} (h : n ≤ 100000) : SortU n := fun lo w v xs hv hl hx => sort_any64 lo w v xs hv (by omega) hx
theorem nil_in (B : Nat) (w : World) : Rd (· < B) w shVec [.slice none 0 0] [] ∧ Rd (· < B) w shTags [.slice none 0 0] [] :=
  have h := (ItL.zero_own 0 w).inn (ok := (· < B)) (by simp [ItL.bs, ItL.zero, ownB, Value.ownBlock])
  ⟨h.hvec, h.htags⟩
end Go.Proofs.Ytdmnflncgmnghaa
