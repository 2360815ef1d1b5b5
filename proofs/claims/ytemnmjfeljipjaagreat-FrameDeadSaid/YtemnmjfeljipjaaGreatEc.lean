/-
  A row of bytes of the call's own that begins at any place of its block; append to it. No program stands here.
-/
import Derived.Test.YtemnmjfeljipjaaGreatVs
import Derived.Test.YtemnmjfeljipjaaGreatVt
import Derived.ArgAppend
import Derived.WalkKit
import Derived.Maps.AppendAt
import Derived.Laws.OwnMore
namespace Go.Proofs.YtemnmjfeljipjaaGreat
open Go.RowKit Go.WideShapes Go.ChangeShapes Go.ChangeAt

def setL : List Value → Nat → List Value → List Value
  | cs, _, [] => cs
  | cs, o, v :: vs => setL (cs.set o v) (o + 1) vs
theorem setL_mid : ∀ (vs pre mid rest : List Value), vs.length = mid.length → setL (pre ++ mid ++ rest) pre.length vs = pre ++ vs ++ rest
  | [], pre, mid, rest, h => by
    obtain rfl : mid = [] := List.eq_nil_of_length_eq_zero h.symm
    rfl
  | v :: vs, pre, mid, rest, h => by
    cases mid with
    | nil => simp at h
    | cons u mid =>
      have e : (pre ++ u :: mid ++ rest).set pre.length v = (pre ++ [v]) ++ mid ++ rest := by simp
      have k := setL_mid vs (pre ++ [v]) mid rest (by simpa using h)
      rw [setL, e]
      rw [List.length_append, List.length_singleton] at k
      rw [k]
      simp
theorem Blk.sets {g : Nat} {t : TypeId} : ∀ (vs : List Value) (o : Nat) (w : World) (cs : List Value), Blk w g t cs → Blk (w.setCells g o vs) g t (setL cs o vs)
  | [], _, _, _, h => h
  | v :: vs, o, _, _, h => Blk.sets vs (o + 1) _ _ (h.set o v)
theorem grown_sets (g : Nat) : ∀ (vs : List Value) (o : Nat) (w : World), w.grownBy (w.setCells g o vs) (some g)
  | [], _, w => World.grownBy.refl w _
  | v :: vs, o, w => by
    have h := grown_sets g vs (o + 1) (w.setCell ⟨g, o, none⟩ v)
    have hs : (w.setCell ⟨g, o, none⟩ v).heap.size = w.heap.size := by simp [World.setCell]
    refine ⟨h.os, h.tape, h.output, ?_, fun k hk hne => ?_⟩
    · rw [← hs]
      exact h.size
    · exact (h.block k (by rw [hs]; exact hk) hne).trans (Below.heap_setCell w ⟨g, o, none⟩ v k (fun e => hne (congrArg some e)))

/-- A row of bytes of the call's own, at any place of its block. -/
def OwnAt (w : World) (B : Nat) (t : TypeId) (v : Value) (bs : List Nat) : Prop := (∀ b ∈ bs, b < 256) ∧
  ((v = .slice none 0 0 ∧ bs = []) ∨ ∃ g cap pre rest, v = .slice (some ⟨g, pre.length, none⟩) bs.length cap ∧ B ≤ g ∧ Blk w g t (pre ++ bs.map byteV ++ rest) ∧ bs.length ≤ cap ∧ cap ≤ bs.length + rest.length)
section
variable {w w' : World} {B : Nat} {t : TypeId} {v : Value} {bs : List Nat}
theorem OwnAt.nil (w : World) (B : Nat) (t : TypeId) : OwnAt w B t (.slice none 0 0) [] := ⟨by simp, .inl ⟨rfl, rfl⟩⟩
theorem OwnV.atAny (h : OwnV w B t v bs) : OwnAt w B t v bs := by
  refine ⟨h.2, ?_⟩
  rcases h.form with h1 | ⟨g, cap, rest, e, hg, hb, hn, hcap, hl⟩
  · exact .inl h1
  · refine .inr ⟨g, cap, [], rest, e, hg, hb, hn, ?_⟩
    simp at hl
    omega
theorem OwnAt.mono {B' : Nat} (h : OwnAt w B t v bs) (hB : B' ≤ B) : OwnAt w B' t v bs := by
  obtain ⟨h1, h2 | ⟨g, cap, pre, rest, e, hg, r⟩⟩ := h
  · exact ⟨h1, .inl h2⟩
  · exact ⟨h1, .inr ⟨g, cap, pre, rest, e, Nat.le_trans hB hg, r⟩⟩
theorem OwnAt.lt (h : OwnAt w B t v bs) : ∀ k, v.ownBlock = some k → B ≤ k ∧ k < w.heap.size := by
  obtain ⟨_, ⟨rfl, _⟩ | ⟨g, cap, pre, rest, rfl, hg, hb, _⟩⟩ := h
  · intro k hk
    simp [Value.ownBlock] at hk
  · intro k hk
    simp only [Value.ownBlock, Option.some.injEq] at hk
    subst hk
    exact ⟨hg, hb.lt⟩
/-- The row's block is one of bytes. -/
theorem OwnAt.far {g' : Nat} {t' : TypeId} {cs : List Value} (h : OwnAt w B t v bs) (hb : Blk w g' t' cs) (hne : t ≠ t') : ∀ k, v.ownBlock = some k → k ≠ g' := by
  obtain ⟨_, ⟨rfl, _⟩ | ⟨g, cap, pre, rest, rfl, hg, hbb, _⟩⟩ := h
  · intro k hk
    simp [Value.ownBlock] at hk
  · intro k hk
    simp only [Value.ownBlock, Option.some.injEq] at hk
    subst hk
    exact hbb.ne hb hne
theorem OwnAt.kept {F : List Nat} (h : OwnAt w B t v bs) (hk : Kept F w w') (hF : ∀ k, v.ownBlock = some k → k ∉ F) : OwnAt w' B t v bs := by
  obtain ⟨h1, h2 | ⟨g, cap, pre, rest, rfl, hg, hb, r⟩⟩ := h
  · exact ⟨h1, .inl h2⟩
  · exact ⟨h1, .inr ⟨g, cap, pre, rest, rfl, hg, hk.blk hb (hF g rfl), r⟩⟩
theorem OwnAt.on (h : OwnAt w B t v bs) (hb : Below w.heap.size w w') : OwnAt w' B t v bs := h.kept (F := []) (Kept.of_below hb (Nat.le_refl _)) (by simp)
theorem OwnAt.reads (h : OwnAt w B t v bs) (hs : bs.length ≤ 140737488355328) : ∃ a c, v = .slice a bs.length c ∧ BReads w a bs.length c bs := by
  obtain ⟨h1, ⟨rfl, rfl⟩ | ⟨g, cap, pre, rest, rfl, hg, hb, hn, hc⟩⟩ := h
  · exact ⟨none, 0, rfl, BReads.nil w⟩
  · refine ⟨_, cap, rfl, ⟨rfl, hs, h1, (fun h => by cases h), hn, .inr ⟨g, pre.length, rfl, hb.lt, fun i hi => ?_⟩⟩⟩
    rw [hb.cell, List.append_assoc, List.getElem?_append_right (by omega), Nat.add_sub_cancel_left, List.getElem?_append_left (by simpa using hi)]
    simp [byteAt, byteV, List.getD, hi]
theorem OwnAt.parts (h : OwnAt w B t v bs) : ∃ a n c, v = .slice a n c ∧ Hid (bs.length = n) := by
  obtain ⟨_, ⟨rfl, rfl⟩ | ⟨g, cap, pre, rest, rfl, _⟩⟩ := h
  · exact ⟨_, _, _, rfl, rfl⟩
  · exact ⟨_, _, _, rfl, rfl⟩
/-- What is left behind k bytes. -/
theorem OwnAt.cut {P : Program} {e : TypeId} (hu : P.underlying t = some (.slice e)) (he : P.elem t = e) (hi : (P.info? e).map (fun i => (i.zero, i.size, i.bytes)) = some (some (.int .u8 0), 1, 1))
    {a : Option Addr} {n c : Nat} (h : OwnAt w B e (.slice a n c) bs) (k : Nat) (hk : k ≤ n) :
    ∃ a', (∀ w, (Instr.slice t (.slice a n c) (some (.int .i64 (k : Int))) none none).run P w = .ok (.slice a' (n - k) (c - k)) w) ∧ OwnAt w B e (.slice a' (n - k) (c - k)) (bs.drop k) ∧ (∀ q, (Value.slice a' (n - k) (c - k)).ownBlock = some q → (Value.slice a n c).ownBlock = some q) := by
  obtain ⟨i0, hi, hz0, hz1, hz2⟩ := info_parts hi
  refine ⟨if c = k then a else a.map (·.add k), fun w => ?_, ?_, fun q hq => ?_⟩
  · have hs : (sizeOf (P.elem t)).run P w = .ok 1 w := by
      rw [he]
      simp [sizeOf, typeInfo, hi, hz1]
    rw [run_slice_l (P := P) w t a n c (by rw [he]; exact hu) .i64 k (by omega) (by omega), hs]
    simp [Result.andThen, sliced]
  · obtain ⟨h1, ⟨h2, rfl⟩ | ⟨g, cap, pre, rest, h2, hg, hb, hn, hc⟩⟩ := h
    · simp only [Value.slice.injEq] at h2
      obtain ⟨rfl, rfl, rfl⟩ := h2
      exact ⟨by simp, .inl ⟨by split <;> simp, by simp⟩⟩
    · simp only [Value.slice.injEq] at h2
      obtain ⟨rfl, rfl, rfl⟩ := h2
      refine ⟨fun b hb => h1 b (List.mem_of_mem_drop hb), .inr ?_⟩
      by_cases hck : c = k
      · have hbk : bs.length = k := by omega
        refine ⟨g, c - k, pre, bs.map byteV ++ rest, by rw [if_pos hck]; simp, hg, ?_, by simp; omega, by omega⟩
        have : bs.drop k = [] := List.drop_eq_nil_of_le (by omega)
        rw [this]
        simpa using hb
      · refine ⟨g, c - k, pre ++ (bs.take k).map byteV, rest, ?_, hg, ?_, by simp; omega, by simp; omega⟩
        · rw [if_neg hck]
          simp [add_plain, Nat.min_eq_left hk]
        · have e1 : pre ++ (bs.take k).map byteV ++ (bs.drop k).map byteV = pre ++ bs.map byteV := by
            rw [List.append_assoc, ← List.map_append, List.take_append_drop]
          rw [e1]
          exact hb
  · split at hq
    · cases a with
      | none => simp [Value.ownBlock] at hq
      | some ad => simpa [Value.ownBlock] using hq
    · cases a with
      | none => simp [Value.ownBlock] at hq
      | some ad => simpa [Value.ownBlock, block_add] using hq
/-- append(v, x...), v a row of one's own at any place, x bytes that read. -/
theorem run_app_at {P : Program} {e : TypeId} (ty : TypeId) (hu : P.underlying t = some (.slice e)) (hi : (P.info? e).map (fun i => (i.zero, i.size, i.bytes)) = some (some (.int .u8 0), 1, 1))
    (h : OwnAt w B e v bs) {a : Option Addr} {n cap : Nat} {xs : List Nat} (hx : BReads w a n cap xs) (hb : bs.length + n ≤ 140737488355328) (hB : B ≤ w.heap.size) :
    ∃ v' w', (Builtin.append_ #[t, t] ty #[v, .slice a n cap]).run P w = .ok v' w' ∧ OwnAt w' B e v' (bs ++ xs) ∧ w.grownBy w' v.ownBlock ∧ (∀ k, v'.ownBlock = some k → v.ownBlock = some k ∨ w.heap.size ≤ k) := by
  obtain ⟨i0, hi, hz0, hz1, hz2⟩ := info_parts hi
  have hxl := hx.len
  have hbytes : ∀ b ∈ bs ++ xs, b < 256 := fun b hb => by
    rcases List.mem_append.1 hb with hb | hb
    · exact h.1 b hb
    · exact hx.byte b hb
  have hnews : ∀ ad, a = some ad → ∀ j u, (xs.map byteV)[j]? = some u → w.cell? (ad.add j) = some u := fun ad had j u hj => by
    have hjn : j < n := by
      have := (List.getElem?_eq_some_iff.1 hj).1
      simp at this
      omega
    rcases hx.cells with h0 | ⟨b, off, e1, _, hc⟩
    · omega
    · rw [had] at e1
      obtain rfl := Option.some.inj e1
      rw [add_plain, hc j hjn, ← hj]
      simp [byteAt, byteV, List.getD, hxl, hjn]
  obtain ⟨h1, ⟨rfl, rfl⟩ | ⟨g, c, pre, rest, rfl, hg, hbk, hn, hc⟩⟩ := h
  · cases a with
    | none =>
      obtain ⟨rfl, rfl⟩ := hx.nilOk rfl
      have hxs : xs = [] := List.eq_nil_of_length_eq_zero hxl
      subst hxs
      exact ⟨_, _, run_append_owned_none (P := P) (w := w) B t ty e i0 1 hu hi _ 0 _ (OwnV.nil w B e).1, OwnAt.nil _ _ _, World.grownBy.refl _ _, fun k hk => by simp [Value.ownBlock] at hk⟩
    | some ad =>
      obtain ⟨v', w', r1, r2, r3, _, r5⟩ := run_append_own_at (P := P) w B t ty e i0 _ 1 1 hu hi hz0 hz1 hz2 rfl (by decide) _ 0 _ (OwnV.nil w B e).1 ad n cap (xs.map byteV) (by simp [hxl]) (hnews ad rfl) (map_byte_one xs) (by unfold maxLen; simp at hb; omega) (by simp at hb; omega) hB
      have ho : OwnV w' B e v' xs := ⟨by rw [hxl]; simpa using r2, hx.byte⟩
      refine ⟨v', w', r1, ho.atAny, r3, fun k hk => ?_⟩
      rcases r5 with r5 | r5
      · exact .inl (by rw [← r5]; exact hk)
      · rw [r5] at hk
        exact .inr (Nat.le_of_eq (Option.some.inj hk))
  · cases a with
    | none =>
      obtain ⟨rfl, rfl⟩ := hx.nilOk rfl
      have hxs : xs = [] := List.eq_nil_of_length_eq_zero hxl
      subst hxs
      refine ⟨.slice (some ⟨g, pre.length, none⟩) bs.length c, w, ?_, ⟨by simpa using h1, .inr ⟨g, c, pre, rest, by simp, hg, by simpa using hbk, by simpa using hn, by simpa using hc⟩⟩, World.grownBy.refl _ _, fun k hk => .inl hk⟩
      simp [Builtin.append_, run_underlying hu, sizeOf, typeInfo, hi, Builtin.lenOf, hn, Builtin.firstCells, storeCells]
    | some ad =>
      by_cases hr : bs.length + n ≤ c
      · obtain ⟨mid, rest', rfl, hmid⟩ : ∃ mid rest', rest = mid ++ rest' ∧ mid.length = n := ⟨rest.take n, rest.drop n, by simp, by simp; omega⟩
        have hcell : ∀ j, j < (xs.map byteV).length → (w.cell? ⟨g, pre.length + bs.length * i0.size + j, none⟩).isSome = true := fun j hj => by
          rw [hz1, hbk.cell, List.getElem?_eq_getElem (by simp at hj ⊢; omega)]
          rfl
        refine ⟨_, _, run_append_room_cells (P := P) w t ty e i0 hu hi g pre.length bs.length c ad n cap (xs.map byteV) (by simp [hxl, hz1]) (hnews ad rfl) (map_byte_one xs) hr hcell (fun j _ => hbk.frozen _), ⟨hbytes, .inr ⟨g, c, pre, rest', by rw [List.length_append, hxl], hg, ?_, by rw [List.length_append, hxl]; exact hr, ?_⟩⟩, grown_sets g _ _ _, fun k hk => .inl hk⟩
        · have h5 := Blk.sets (xs.map byteV) (pre.length + bs.length * i0.size) w _ hbk
          have h6 := setL_mid (xs.map byteV) (pre ++ bs.map byteV) mid rest' (by simp [hxl, hmid])
          rw [hz1] at h5 ⊢
          have e6 : (pre ++ bs.map byteV).length = pre.length + bs.length * 1 := by simp
          rw [e6] at h6
          have e7 : pre ++ bs.map byteV ++ (mid ++ rest') = pre ++ bs.map byteV ++ mid ++ rest' := by simp
          rw [e7, h6] at h5
          have e8 : pre ++ (bs ++ xs).map byteV ++ rest' = pre ++ bs.map byteV ++ xs.map byteV ++ rest' := by simp
          rw [e8]
          exact h5
        · rw [List.length_append] at hc ⊢
          omega
      · have holds : ∀ j u, (bs.map byteV)[j]? = some u → w.cell? ((⟨g, pre.length, none⟩ : Addr).add j) = some u := fun j u hj => by
          have hjn : j < bs.length := by
            have := (List.getElem?_eq_some_iff.1 hj).1
            simpa using this
          rw [add_plain, hbk.cell, List.append_assoc, List.getElem?_append_right (by omega), Nat.add_sub_cancel_left, List.getElem?_append_left (by simpa using hjn)]
          exact hj
        obtain ⟨v', w', r1, r2, r3⟩ := run_append_arg_grows (P := P) w t ty e i0 _ 1 1 hu hi hz0 hz1 hz2 rfl (by decide) ⟨g, pre.length, none⟩ bs.length c (bs.map byteV) (by simp) holds ad n cap (xs.map byteV) (by simp [hxl]) (hnews ad rfl) (by omega) (by unfold maxLen; omega) (by omega)
        have ho : OwnV w' w.heap.size e v' (bs ++ xs) := ⟨by rw [List.length_append, hxl, List.map_append]; exact r2, hbytes⟩
        refine ⟨v', w', r1, ho.atAny.mono hB, ⟨r3.os, r3.tape, r3.output, r3.size, fun k hk _ => r3.block k hk (by simp)⟩, fun k hk => ?_⟩
        exact .inr (ho.lt k hk).1
end
theorem wp_app_at {P : Program} {ops : Array Oper} {rest : List Oper} {o : Oper} {act : Act} {Q : Exit → Act → World → Prop} (w : World) (hg : o.guard = none) (s x : Operand) (t e : TypeId)
    (hop : o.op = .call { callee := .builtin .append, args := #[s, x], argTypes := #[t, t] }) (hu : P.underlying t = some (.slice e)) (hi : (P.info? e).map (fun i => (i.zero, i.size, i.bytes)) = some (some (.int .u8 0), 1, 1))
    (B : Nat) (v : Value) (zs : List Nat) (hs : act.eval s = v)
    (hown : OwnAt w B e v zs) (a : Option Addr) (n cap : Nat) (xs : List Nat) (hx : act.eval x = .slice a n cap) (h : BReads w a n cap xs)
    (hb : zs.length + n ≤ 140737488355328) (hbase : B ≤ w.heap.size)
    (K : ∀ v' w', OwnAt w' B e v' (zs ++ xs) → w.grownBy w' v.ownBlock → (∀ k, v'.ownBlock = some k → v.ownBlock = some k ∨ w.heap.size ≤ k) → wpList P ops Q rest (act.put o.dst v') w') : wpList P ops Q (o :: rest) act w := by
  obtain ⟨v', w', hrun, h1, h2, h3⟩ := run_app_at (P := P) o.type hu hi hown h hb hbase
  refine wpList_plain hg fun K' hK => ?_
  unfold Oper.wp
  simp [execOp, hop, resolve, invoke, builtin, hs, hx, hrun, Result.andThen]
  exact hK _ _ (K v' w' h1 h2 h3)
end Go.Proofs.YtemnmjfeljipjaaGreat
