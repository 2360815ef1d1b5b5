/-
  Rows of bytes of the call's own that are written on: append of a string, of a number; what a writer leaves. No program stands here.
-/
import Derived.Test.YtdgiellnklcioaaVp
import Derived.Test.YtdgiellnklcioaaMM1
import Derived.Lib.AppendStr
namespace Go.Proofs.Ytdgiellnklcioaa
open Go.RowKit

/-- A string's bytes. -/
def strB (s : ByteArray) : List Nat := s.data.toList.map UInt8.toNat
theorem strB_len (s : ByteArray) : (strB s).length = s.size := by
  rw [strB, List.length_map, Array.length_toList]
  rfl
theorem strB_byte (s : ByteArray) : ∀ b ∈ strB s, b < 256 := by
  intro b hb
  obtain ⟨x, _, rfl⟩ := List.mem_map.1 hb
  exact x.toNat_lt
theorem strB_cells (s : ByteArray) : Lib.strCells s = (strB s).map byteV := by
  simp [Lib.strCells, strB, byteV]

theorem app_string_loc {P : Program} (w : World) (B : Nat) (st u ty e : TypeId) (i : TypeInfo) (ht : P.underlying st = some (.slice e)) (hu : P.underlying u = some .string) (hi : P.info? e = some i) (hz : i.zero = some (.int .u8 0)) (hs1 : i.size = 1) (hb1 : i.bytes = 1)
    (v : Value) (n : Nat) (xs : List Value) (hown : w.ownsRow B e 1 v n xs) (s : ByteArray) (h63 : n + s.size ≤ 140737488355328) (v' : Value) (w' : World) (hr : (Builtin.append_ #[st, u] ty #[v, .string s]).run P w = .ok v' w') : v'.ownBlock = v.ownBlock ∨ v'.ownBlock = some w.heap.size := by
  have hxl : xs.length = n := by simpa using hown.1
  rcases hown.2 with ⟨rfl, rfl⟩ | ⟨g, cap, cur, rfl, hbg, hg, hnc, hcm, hcs, htake⟩
  · by_cases hm : s.size = 0
    · have hf := Lib.run_firstCells_string (P := P) w 1 s
      rw [hm] at hf
      have hr2 : (Builtin.append_ #[st, u] ty #[.slice none 0 0, .string s]).run P w = .ok (.slice none 0 0) w := by
        have hn : Lib.strCells s = [] := List.eq_nil_of_length_eq_zero (by rw [Lib.strCells_length]; exact hm)
        simp [Builtin.append_, run_underlying ht, run_underlying hu, sizeOf, typeInfo, hi, hs1, Builtin.lenOf, hm, hf]
      rw [hr2] at hr
      cases hr
      exact .inl rfl
    · rw [run_append_nil_string (P := P) w st u ty e i (.int .u8 0) ht hu hi hz s (by omega) (by omega) (by rw [hb1]; omega)] at hr
      cases hr
      exact .inr rfl
  · by_cases hroom : n + s.size ≤ cap
    · rw [Lib.run_append_room_string (P := P) w st u ty e i ht hu hi hs1 g n cap cur hg s hroom (by simp at hcs; omega)] at hr
      cases hr
      exact .inl rfl
    · have holds : ∀ j u, xs[j]? = some u → w.cell? ((⟨g, 0, none⟩ : Addr).add j) = some u := hown.cells (g := g) rfl
      rw [Lib.run_append_grow_string (P := P) w st u ty e i (.int .u8 0) ht hu hi hz ⟨g, 0, none⟩ n cap xs (by rw [hs1]; simpa using hxl) holds s (by omega) (by omega) (by rw [hb1]; exact growslice_fits (by omega) (by omega))] at hr
      cases hr
      exact .inr rfl

/-- append(v, s...), v a row of bytes of the call's own, s a string. -/
theorem app_string {P : Program} {ops : Array Oper} {rest : List Oper} {o : Oper} {act : Act} {Q : Exit → Act → World → Prop} (w : World) (hg : o.guard = none) (sl x : Operand) (st u e : TypeId)
    (hop : o.op = .call { callee := .builtin .append, args := #[sl, x], argTypes := #[st, u] }) (ht : P.underlying st = some (.slice e)) (hu : P.underlying u = some .string) (hi : (P.info? e).map (fun i => (i.zero, i.size, i.bytes)) = some (some (.int .u8 0), 1, 1))
    (B : Nat) (v : Value) (zs : List Nat) (hs : act.eval sl = v) (hown : OwnV w B e v zs) (s : ByteArray) (hx : act.eval x = .string s)
    (hb : zs.length + s.size ≤ 140737488355328) (hbase : B ≤ w.heap.size)
    (K : ∀ v' w', OwnV w' B e v' (zs ++ strB s) → w.grownBy w' v.ownBlock → (v'.ownBlock = v.ownBlock ∨ v'.ownBlock = some w.heap.size) → wpList P ops Q rest (act.put o.dst v') w') : wpList P ops Q (o :: rest) act w := by
  obtain ⟨i0, hi, hz0, hz1, hz2⟩ := info_parts hi
  refine wpList_plain hg fun K' hK => ?_
  obtain ⟨v', w', hr, h2, h3, _⟩ := Lib.run_append_own_string (P := P) w B st u o.type e i0 ht hu hi hz0 hz1 hz2 v zs.length _ hown.1 s (by unfold maxLen; omega) hb hbase
  have hloc := app_string_loc w B st u o.type e i0 ht hu hi hz0 hz1 hz2 v zs.length _ hown.1 s hb v' w' hr
  unfold Oper.wp execOp
  simp only [hop, resolve, invoke, builtin, Sem.run_bind, Sem.run_pure, Result.andThen_ok, List.map_toArray, List.map_cons, List.map_nil, hs, hx, hr]
  refine hK _ _ (K v' w' ⟨?_, ?_⟩ h3 hloc)
  · rw [List.length_append, strB_len, List.map_append, ← strB_cells]
    exact h2
  · intro b hb
    rcases List.mem_append.1 hb with hb | hb
    · exact hown.2 b hb
    · exact strB_byte s b hb

/-- The block of a row of the call's own. -/
def ownL (v : Value) : List Nat := match v.ownBlock with | some k => [k] | none => []
theorem mem_ownL {v : Value} {k : Nat} : k ∈ ownL v ↔ v.ownBlock = some k := by
  unfold ownL
  cases v.ownBlock <;> simp [eq_comm]
/-- What a writer leaves: a row of the call's own; but for the old row and new blocks nothing has turned. -/
def Wrote (B : Nat) (v0 v : Value) (bs : List Nat) (w w' : World) : Prop := OwnV w' B 5 v bs ∧ Hid (Kept (ownL v0) w w') ∧ Hid (Grows w (ownL v0) (ownL v))
theorem Wrote.same {B : Nat} {v : Value} {bs : List Nat} {w : World} (h : OwnV w B 5 v bs) : Wrote B v v bs w w := ⟨h, Kept.refl _ _, Grows.refl _ _⟩
theorem Wrote.size {B : Nat} {v0 v : Value} {bs : List Nat} {w w' : World} (h : Wrote B v0 v bs w w') (hB : B ≤ w.heap.size) : B ≤ w'.heap.size := Nat.le_trans hB h.2.1.out.size
theorem Wrote.trans {B : Nat} {v v0 v' : Value} {bs bs' : List Nat} {w w1 w2 : World} (h : Wrote B v0 v bs w w1) (k : Wrote B v v' bs' w1 w2) : Wrote B v0 v' bs' w w2 :=
  ⟨k.1, h.2.1.out.trans k.2.1.out h.2.2.out, h.2.2.out.trans k.2.2.out h.2.1.out.size⟩
theorem Wrote.lost {B : Nat} {v v0 : Value} {bs : List Nat} {w w1 w2 : World} (h : Wrote B v0 v bs w w1) (k : Kept (ownL v) w1 w2) : Kept (ownL v0) w w2 := h.2.1.out.trans k h.2.2.out
theorem Wrote.below {B : Nat} {v0 v : Value} {bs bs0 : List Nat} {w w' : World} (h : Wrote B v0 v bs w w') (h0 : OwnV w B 5 v0 bs0) (hB : B ≤ w.heap.size) : Below B w w' :=
  h.2.1.out.below (fun k hk => (h0.lt k (mem_ownL.1 hk)).1) hB
/-- A thing is written behind what there was, or it can't be. -/
def WPost {α : Type} (C : Cod α) (B : Nat) (v : Value) (bs : List Nat) (a : α) (w : World) (e : Ending) (w' : World) : Prop :=
  (C.fits a ∧ ∃ v', e = .returned (.tuple #[v', .bool true]) ∧ Wrote B v v' (bs ++ C.enc a) w w') ∨ (¬ C.fits a ∧ ∃ v', e = .returned (.tuple #[v', .bool false]) ∧ Hid (Kept (ownL v) w w'))

theorem cStr_fits (s : List Nat) (hb : ∀ b ∈ s, b < 256) : cStr.fits s ↔ s.length ≤ 4096 := by
  show ((s.length ≤ 4096 ∧ s.length = s.length ∧ ∀ b ∈ s, b < 256) ∧ s = s) ↔ _
  constructor
  · exact fun h => h.1.1
  · exact fun h => ⟨⟨h, rfl, hb⟩, rfl⟩
theorem cStr_enc (s : List Nat) : cStr.enc s = vput s.length ++ s := rfl

/-- A number is written behind what there was: its bytes in a row of its own, then appended. -/
theorem app_put {P : Program} {ops : Array Oper} {rest : List Oper} {o : Oper} {act : Act} {Q : Exit → Act → World → Prop} (w w2 : World) (hg : o.guard = none) (s x : Operand) (st : TypeId)
    (hop : o.op = .call { callee := .builtin .append, args := #[s, x], argTypes := #[st, st] }) (hu : P.underlying st = some (.slice 5)) (hi : (P.info? 5).map (fun i => (i.zero, i.size, i.bytes)) = some (some (.int .u8 0), 1, 1))
    (B : Nat) (v v2 : Value) (zs xs : List Nat) (hs : act.eval s = v) (hx : act.eval x = v2)
    (hown : OwnV w B 5 v zs) (hb : B ≤ w.heap.size) (h2 : OwnV w2 w.heap.size 5 v2 xs) (hbel : Below w.heap.size w w2) (hl : zs.length ≤ 1099511627776) (hl2 : xs.length ≤ 1099511627776)
    (K : ∀ v' w', Wrote B v v' (zs ++ xs) w w' → wpList P ops Q rest (act.put o.dst v') w') : wpList P ops Q (o :: rest) act w2 := by
  obtain ⟨a, c, rfl, hr, _⟩ := h2.reads (by omega)
  have hown2 := hown.on hbel
  refine app_bytes w2 hg s x st 5 hop hu hi B v zs hs hown2 a xs.length c xs hx hr (by omega) (Nat.le_trans hb hbel.size) ?_
  intro v' w' h3 h4 h5
  refine K v' w' ⟨h3, ?_, ?_⟩
  · exact (Kept.of_below (F := ownL v) hbel (Nat.le_refl _)).grown h4 (fun k hk => .inl (mem_ownL.2 hk))
  · intro k hk
    rcases h5 with h5 | h5
    · exact .inl (mem_ownL.2 (by rw [← h5]; exact mem_ownL.1 hk))
    · have := mem_ownL.1 hk
      rw [h5] at this
      simp only [Option.some.injEq] at this
      have := hbel.size
      exact .inr (by omega)
end Go.Proofs.Ytdgiellnklcioaa
