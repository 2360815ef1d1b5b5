/-
  Plain words and lemmas on slices of bytes that a call reads or owns, and on the string of such bytes: no program stands here.
-/
import Derived.Test.YtdgiellnklcioaaFr
import Derived.Test.YtdgiellnklcioaaBk
import Derived.Laws.BytesArg
import Derived.Laws.MakeOwn
import Derived.Laws.AppendOwnNone
import Derived.Maps.AppendAt
namespace Go.Proofs.Ytdgiellnklcioaa
open Go.RowKit Go.ChangeShapes Go.WideShapes Go.ChangeAt

/-- A byte as a value; the byte at a place. -/
def byteV (b : Nat) : Value := .int .u8 (b : Int)
def byteAt (bs : List Nat) (i : Nat) : Nat := bs.getD i 0

/-- The string that bytes make. -/
def strOfB (bs : List Nat) : ByteArray := strOfNums (bs.map Int.ofNat)
theorem strOfB_inj {xs ys : List Nat} (hx : ∀ b ∈ xs, b < 256) (hy : ∀ b ∈ ys, b < 256) (h : strOfB xs = strOfB ys) : xs = ys := by
  have h1 := congrArg (fun s : ByteArray => s.data.toList.map UInt8.toNat) h
  simp only [strOfB, strOfNums_data, List.map_map] at h1
  have e : ∀ l : List Nat, (∀ b ∈ l, b < 256) → l.map (UInt8.toNat ∘ ((fun n : Int => UInt8.ofNat n.toNat) ∘ Int.ofNat)) = l := by
    intro l hl
    conv => rhs; rw [← List.map_id l]
    apply List.map_congr_left
    intro b hb
    simp
    exact hl b hb
  rw [e xs hx, e ys hy] at h1
  exact h1
theorem strOfB_eq {xs ys : List Nat} (hx : ∀ b ∈ xs, b < 256) (hy : ∀ b ∈ ys, b < 256) : decide (strOfB xs = strOfB ys) = decide (xs = ys) := by
  by_cases h : xs = ys
  · subst h
    simp
  · have : strOfB xs ≠ strOfB ys := fun e => h (strOfB_inj hx hy e)
    simp [h, this]

/-- Two strings of bytes compared as the walk spells it. -/
theorem strOfB_beq {xs ys : List Nat} (hx : ∀ b ∈ xs, b < 256) (hy : ∀ b ∈ ys, b < 256) : ((strOfB xs).toList == (strOfB ys).toList) = decide (xs = ys) := by
  by_cases h : xs = ys
  · subst h
    simp
  · have : (strOfB xs).toList ≠ (strOfB ys).toList := fun e => by
      rw [ByteArray.toList_eq, ByteArray.toList_eq] at e
      refine h (strOfB_inj hx hy ?_)
      cases hs : strOfB xs
      cases ht : strOfB ys
      rw [hs, ht] at e
      simpa [Array.toList_inj] using e
    simp [h, this]

/-- The slice value (a, n, c) reads in w as the bytes bs. -/
structure BReads (w : World) (a : Option Addr) (n c : Nat) (bs : List Nat) : Prop where
  len : bs.length = n
  small : n ≤ 140737488355328
  byte : ∀ b ∈ bs, b < 256
  nilOk : a = none → n = 0 ∧ c = 0
  room : n ≤ c
  cells : n = 0 ∨ ∃ b off, a = some ⟨b, off, none⟩ ∧ b < w.heap.size ∧ ∀ i, i < n → w.cell? ⟨b, off + i, none⟩ = some (.int .u8 (byteAt bs i : Int))

section
variable {w w' : World} {a : Option Addr} {n c : Nat} {bs : List Nat}
theorem BReads.below (h : BReads w a n c bs) {B : Nat} (hB : w.heap.size ≤ B) (hb : Below B w w') : BReads w' a n c bs := by
  refine ⟨h.len, h.small, h.byte, h.nilOk, h.room, ?_⟩
  rcases h.cells with h4 | ⟨b, off, ha, hlt, hc⟩
  · exact .inl h4
  · refine .inr ⟨b, off, ha, Nat.lt_of_lt_of_le hlt hb.size, fun i hi => ?_⟩
    rw [hb.cell (p := ⟨b, off + i, none⟩) (Nat.lt_of_lt_of_le hlt hB)]
    exact hc i hi
theorem BReads.on (h : BReads w a n c bs) (hb : Below w.heap.size w w') : BReads w' a n c bs := h.below (Nat.le_refl _) hb
theorem BReads.alloc (h : BReads w a n c bs) (o : Obj) : BReads (w.alloc o) a n c bs := h.on ((Below.refl _ _).alloc (Nat.le_refl _) o)
theorem BReads.drew (h : BReads w a n c bs) : BReads w.drew a n c bs := h.on (Below.refl _ _).drew
theorem BReads.nil (w : World) : BReads w none 0 0 [] := ⟨rfl, by decide, by simp, fun _ => ⟨rfl, rfl⟩, Nat.le_refl _, .inl rfl⟩
theorem BReads.at_lt (h : BReads w a n c bs) (i : Nat) : byteAt bs i < 256 := by
  unfold byteAt
  by_cases hi : i < bs.length
  · have e : bs.getD i 0 = bs[i] := by simp [List.getD, hi]
    rw [e]
    exact h.byte _ (List.getElem_mem hi)
  · have e : bs.getD i 0 = 0 := by simp [List.getD, Nat.le_of_not_lt hi]
    omega
/-- The first k of the bytes. -/
theorem BReads.take (h : BReads w a n c bs) {k : Nat} (hk : k ≤ n) : BReads w a k c (bs.take k) := by
  refine ⟨by simp; have := h.len; omega, by have := h.small; omega, fun b hb => h.byte b (List.mem_of_mem_take hb), fun e => ?_, Nat.le_trans hk h.room, ?_⟩
  · have := h.nilOk e
    exact ⟨by omega, this.2⟩
  · rcases h.cells with h4 | ⟨b, off, ha, hlt, hc⟩
    · exact .inl (by omega)
    · refine .inr ⟨b, off, ha, hlt, fun i hi => ?_⟩
      rw [hc i (by omega)]
      simp [byteAt, List.getD, hi]

/-- 'string(b)' of a slice that reads. -/
theorem BReads.str {P : Program} (h : BReads w a n c bs) (src e : TypeId) (hs : P.underlying src = some (.slice e)) (he : P.underlying e = some (.int .u8)) (dst : TypeId) (hd : P.underlying dst = some .string) :
    (convert src dst (.slice a n c)).run P w = .ok (.string (strOfB bs)) w := by
  have nil : bs = [] → strOfB bs = ByteArray.empty := by
    rintro rfl
    rfl
  rcases a with _ | ad
  · have h0 := (h.nilOk rfl).1
    have hl := h.len
    rw [h0] at hl
    rw [run_convert_bytes_nil w src e hs he n c dst hd, nil (List.eq_nil_of_length_eq_zero hl)]
  · rcases h.cells with h0 | ⟨b, off, e0, _, hc⟩
    · have hl := h.len
      rw [h0] at hl
      have hb := List.eq_nil_of_length_eq_zero hl
      subst h0
      rw [run_convert_bytes_string w src dst e _ 0 c hs he hd, run_bytesToString w ad 0 c [] (by simp [loadCells, loadCellsFrom, Sem.run_pure]), nil hb]
      rfl
    · obtain rfl := Option.some.inj e0
      refine run_convert_bytes_arg w src e hs he b off n c (bs.map Int.ofNat) (by simpa using h.len) (fun i hi => ?_) dst hd
      rw [hc i hi]
      have hl := h.len
      simp [byteAt, List.getD, show i < bs.length by omega]
end

/-- A slice that a text has built: one new block. -/
theorem BReads.built (w : World) (bs : List Nat) (e : TypeId) (h1 : bs.length ≤ 1000000) (h2 : ∀ b ∈ bs, b < 256) :
    BReads (w.alloc (.cells (bs.map byteV).toArray e)) (some ⟨w.heap.size, 0, none⟩) bs.length bs.length bs := by
  refine ⟨rfl, by omega, h2, (fun h => by cases h), Nat.le_refl _, .inr ⟨_, _, rfl, by simp, fun i hi => ?_⟩⟩
  rw [World.cell?_alloc_at _ _ _ _ rfl]
  simp [byteAt, byteV, List.getD, hi]

/-- A slice of bytes of the call's own. -/
def OwnV (w : World) (B : Nat) (t : TypeId) (v : Value) (bs : List Nat) : Prop := w.ownsRow B t 1 v bs.length (bs.map byteV) ∧ ∀ b ∈ bs, b < 256

section
variable {w w' : World} {B : Nat} {t : TypeId} {v : Value} {bs : List Nat}
theorem OwnV.form (h : OwnV w B t v bs) : (v = .slice none 0 0 ∧ bs = []) ∨ ∃ g cap rest, v = .slice (some ⟨g, 0, none⟩) bs.length cap ∧ B ≤ g ∧ Blk w g t (bs.map byteV ++ rest) ∧ bs.length ≤ cap ∧ cap ≤ maxLen ∧ (bs.map byteV ++ rest).length = cap := by
  obtain ⟨⟨h1, h2⟩, _⟩ := h
  rcases h2 with ⟨rfl, h2⟩ | ⟨g, cap, cur, rfl, hg, hh, hn, hcap, hsz, htake⟩
  · left
    exact ⟨rfl, List.eq_nil_of_length_eq_zero (by simpa using h2)⟩
  · right
    rw [Nat.mul_one] at htake hsz
    refine ⟨g, cap, cur.toList.drop bs.length, rfl, hg, ?_, hn, hcap, ?_⟩
    · unfold Blk
      rw [hh, ← htake, List.take_append_drop]
    · rw [← htake, List.take_append_drop]; simpa using hsz
theorem OwnV.reads (h : OwnV w B t v bs) (hs : bs.length ≤ 140737488355328) : ∃ a c, v = .slice a bs.length c ∧ BReads w a bs.length c bs ∧ bs.length ≤ c ∧ (∀ b off, a = some ⟨b, off, none⟩ → B ≤ b) := by
  rcases h.form with ⟨rfl, rfl⟩ | ⟨g, cap, rest, rfl, hg, hb, hn, hcap, hl⟩
  · exact ⟨none, 0, rfl, BReads.nil w, Nat.le_refl _, fun _ _ h => by cases h⟩
  · refine ⟨_, cap, rfl, ⟨rfl, hs, h.2, (fun h => by cases h), hn, .inr ⟨g, 0, rfl, hb.lt, fun i hi => ?_⟩⟩, hn, fun _ _ h => by cases h; exact hg⟩
    rw [Nat.zero_add, hb.cell, List.getElem?_append_left (by simpa using hi)]
    simp [byteAt, byteV, List.getD, hi]
theorem OwnV.str {P : Program} (h : OwnV w B t v bs) (hl : bs.length ≤ 140737488355328) (src e : TypeId) (hs : P.underlying src = some (.slice e)) (he : P.underlying e = some (.int .u8)) (dst : TypeId) (hd : P.underlying dst = some .string) :
    (convert src dst v).run P w = .ok (.string (strOfB bs)) w := by
  obtain ⟨a, c, rfl, hr, _⟩ := h.reads hl
  exact hr.str src e hs he dst hd
theorem OwnV.parts (h : OwnV w B t v bs) : ∃ a n c, v = .slice a n c ∧ Hid (bs.length = n) := by
  rcases h.form with ⟨rfl, rfl⟩ | ⟨g, cap, _, rfl, _⟩
  · exact ⟨none, 0, 0, rfl, rfl⟩
  · exact ⟨_, _, cap, rfl, rfl⟩
theorem OwnV.lt (h : OwnV w B t v bs) : ∀ k, v.ownBlock = some k → B ≤ k ∧ k < w.heap.size := fun k hk => World.ownsRow.lt h.1 k hk
theorem OwnV.nil (w : World) (B : Nat) (t : TypeId) : OwnV w B t (.slice none 0 0) [] := ⟨⟨rfl, .inl ⟨rfl, rfl⟩⟩, by simp⟩
theorem OwnV.alloc (h : OwnV w B t v bs) (o : Obj) : OwnV (w.alloc o) B t v bs := ⟨World.ownsRow.alloc h.1 o, h.2⟩
theorem OwnV.mono {B' : Nat} (h : OwnV w B t v bs) (hB : B' ≤ B) : OwnV w B' t v bs := by
  obtain ⟨⟨h1, h2⟩, h3⟩ := h
  refine ⟨⟨h1, ?_⟩, h3⟩
  rcases h2 with h2 | ⟨g, cap, cur, rfl, hg, r⟩
  · exact .inl h2
  · exact .inr ⟨g, cap, cur, rfl, Nat.le_trans hB hg, r⟩
theorem OwnV.kept {F : List Nat} (h : OwnV w B t v bs) (hk : Kept F w w') (hF : ∀ k, v.ownBlock = some k → k ∉ F) : OwnV w' B t v bs := ⟨hk.own h.1 hF, h.2⟩
theorem OwnV.on (h : OwnV w B t v bs) (hb : Below w.heap.size w w') : OwnV w' B t v bs := h.kept (F := []) (Kept.of_below hb (Nat.le_refl _)) (by simp)
theorem OwnV.head (h : OwnV w B t v bs) (h0 : 0 < bs.length) : ∃ g cap, v = .slice (some ⟨g, 0, none⟩) bs.length cap ∧ B ≤ g ∧ g < w.heap.size := by
  rcases h.form with ⟨_, rfl⟩ | ⟨g, cap, _, e, hg, hb, _⟩
  · simp at h0
  · exact ⟨g, cap, e, hg, hb.lt⟩
theorem OwnV.cellAt {g n cap : Nat} (h : OwnV w B t (.slice (some ⟨g, 0, none⟩) n cap) bs) (j : Nat) (hj : j < bs.length) : w.cell? ⟨g, j, none⟩ = some (.int .u8 (byteAt bs j : Int)) ∧ w.frozen? ⟨g, j, none⟩ = false := by
  rcases h.form with ⟨e, _⟩ | ⟨g', cap', rest, e, _, hb, _⟩
  · cases e
  · simp at e
    obtain ⟨rfl, _, _⟩ := e
    refine ⟨?_, hb.frozen j⟩
    rw [hb.cell, List.getElem?_append_left (by simpa using hj)]
    simp [byteAt, byteV, List.getD, hj]
theorem OwnV.set {g n cap : Nat} (h : OwnV w B t (.slice (some ⟨g, 0, none⟩) n cap) bs) (j q : Nat) (hq : q < 256) : OwnV (w.setCell ⟨g, j, none⟩ (.int .u8 (q : Int))) B t (.slice (some ⟨g, 0, none⟩) n cap) (bs.set j q) := by
  have hn : n = bs.length := by
    rcases h.form with ⟨e, _⟩ | ⟨_, _, _, e, _⟩
    · cases e
    · simp at e; exact e.2.1
  refine ⟨?_, fun b hb => ?_⟩
  · have h1 := h.1
    rw [← hn] at h1
    have := (h1.stored j (byteV q)).1
    rw [List.length_set, ← hn, List.map_set]
    exact this
  · rcases List.mem_or_eq_of_mem_set hb with hb | hb
    · exact h.2 b hb
    · omega
/-- One byte in a new block. -/
theorem OwnV.lit (w : World) (t : TypeId) (bs : List Nat) (h : bs.length ≤ 1000000) (hb : ∀ b ∈ bs, b < 256) : OwnV (w.alloc (.cells (bs.map byteV).toArray t)) w.heap.size t (.slice (some ⟨w.heap.size, 0, none⟩) bs.length bs.length) bs := by
  refine ⟨?_, hb⟩
  have := World.ownsRow_lit (e := t) (size := 1) (base := w.heap.size) w (bs.map byteV).toArray bs.length (Nat.le_refl _) (by unfold maxLen; omega) (by simp)
  simpa using this
end

theorem map_byte_one (l : List Nat) : ∀ u ∈ l.map byteV, u.oneCell' = true := by
  intro u hu
  obtain ⟨s, _, rfl⟩ := List.mem_map.1 hu
  rfl

/-- append(v, xs..), v a row of bytes of the call's own, the source any slice of bytes that reads. -/
theorem app_bytes {P : Program} {ops : Array Oper} {rest : List Oper} {o : Oper} {act : Act} {Q : Exit → Act → World → Prop} (w : World) (hg : o.guard = none) (s x : Operand) (st e : TypeId)
    (hop : o.op = .call { callee := .builtin .append, args := #[s, x], argTypes := #[st, st] }) (hu : P.underlying st = some (.slice e)) (hi : (P.info? e).map (fun i => (i.zero, i.size, i.bytes)) = some (some (.int .u8 0), 1, 1))
    (B : Nat) (v : Value) (zs : List Nat) (hs : act.eval s = v)
    (hown : OwnV w B e v zs) (a : Option Addr) (n cap : Nat) (xs : List Nat) (hx : act.eval x = .slice a n cap) (h : BReads w a n cap xs)
    (hb : zs.length + n ≤ 140737488355328) (hbase : B ≤ w.heap.size)
    (K : ∀ v' w', OwnV w' B e v' (zs ++ xs) → w.grownBy w' v.ownBlock → (v'.ownBlock = v.ownBlock ∨ v'.ownBlock = some w.heap.size) → wpList P ops Q rest (act.put o.dst v') w') : wpList P ops Q (o :: rest) act w := by
  obtain ⟨i0, hi, hz0, hz1, hz2⟩ := info_parts hi
  cases a with
  | none =>
    obtain ⟨rfl, rfl⟩ := h.nilOk rfl
    have hxs : xs = [] := List.eq_nil_of_length_eq_zero h.len
    subst hxs
    refine wpList_append_own_none hg s x st hop B e i0 1 hu hi v zs.length _ hs hown.1 hx ?_
    exact K v w (by simpa using hown) (World.grownBy.refl _ _) (.inl rfl)
  | some ad =>
    refine wpList_append_own_at _ hg s x st hop B e i0 _ 1 1 hu hi hz0 hz1 hz2 rfl (by decide) v zs.length _ hs hown.1 ad n cap (xs.map byteV) hx (by simp [h.len]) ?_ (map_byte_one xs) (by unfold maxLen; omega) (by omega) hbase ?_
    · intro j u hj
      rcases h.cells with h0 | ⟨b, off, e, _, hc⟩
      · have hl := h.len
        rw [h0] at hl
        have : xs = [] := List.eq_nil_of_length_eq_zero hl
        subst this
        simp at hj
      · obtain rfl := Option.some.inj e
        have hl := h.len
        have hj' : j < n := by
          have := (List.getElem?_eq_some_iff.1 hj).1
          simp at this
          omega
        rw [add_plain, hc j hj', ← hj]
        simp [byteAt, byteV, List.getD, hl, hj']
    · intro v' w' h1 h2 _ h3
      refine K v' w' ⟨?_, ?_⟩ h2 h3
      · rw [List.length_append, h.len, List.map_append]
        exact h1
      · intro b hb
        rcases List.mem_append.1 hb with hb | hb
        · exact hown.2 b hb
        · exact h.byte b hb

/-- append(v, x), x one byte that the text has laid as a row of one. -/
theorem app_byte {P : Program} {ops : Array Oper} {rest : List Oper} {o : Oper} {act : Act} {Q : Exit → Act → World → Prop} (w : World) (hg : o.guard = none) (s x : Operand) (st e : TypeId)
    (hop : o.op = .call { callee := .builtin .append, args := #[s, x], argTypes := #[st, st] }) (hu : P.underlying st = some (.slice e)) (hi : (P.info? e).map (fun i => (i.zero, i.size, i.bytes)) = some (some (.int .u8 0), 1, 1))
    (B : Nat) (v : Value) (zs : List Nat) (p : Nat) (hp : p < 256) (hs : act.eval s = v)
    (hx : act.eval x = .slice (some ⟨w.heap.size, 0, none⟩) 1 1) (hown : OwnV w B e v zs) (hB : B ≤ w.heap.size) (hl : zs.length ≤ 2000000)
    (K : ∀ v' w', OwnV w' B e v' (zs ++ [p]) → (∀ w1, Below B w1 w → Below B w1 w') → wpList P ops Q rest (act.put o.dst v') w') :
    wpList P ops Q (o :: rest) act (w.alloc (.cells #[.int .u8 (p : Int)] e)) := by
  have hr := BReads.built w [p] e (by simp) (by simpa using hp)
  refine app_bytes _ hg s x st e hop hu hi B v zs hs (hown.alloc _) _ 1 1 [p] hx hr (by omega) (by simp; omega) ?_
  intro v' w' h1 h2 _
  exact K v' w' h1 fun w1 hb => (hb.alloc hB _).grown h2 (by simp; omega) (fun k hk => (hown.lt k hk).1)

section
variable {H : Type} {enc : TypeId × Value → H} {P : Program} {W : World} {base : Nat} {ts : Array TypeId} {args : Array Value} {ds : List (DataW H)} {p : List MemPlace}

theorem Given.room (g : Given enc P W base ts args ds p) (j : Nat) {t e : TypeId} {k : IntKind} (ht : ts[j]? = some t) (hu : P.underlying t = some (.slice e)) (he : P.underlying e = some (.int k))
    (hc : P.cellsOf e = 1) {a : Option Addr} {n cap : Nat} (ha : args[j]? = some (.slice a n cap)) : n ≤ cap := by
  obtain ⟨v, d, q, e1, e2, h0, hq, hok⟩ := g.at j ht
  rw [ha] at e1
  obtain rfl := Option.some.inj e1
  obtain ⟨fuel, hf⟩ := h0
  rcases open_ints hu he hc hf with ⟨hcs, _⟩ | ⟨x, l, c, zs, hcs, _, hl, _⟩
  · simp [Value.cells] at hcs
    omega
  · simp [Value.cells] at hcs
    omega
/-- A parameter that is a slice of bytes. -/
theorem Given.bytes (g : Given enc P W base ts args ds p) (j : Nat) {t e : TypeId} (ht : ts[j]? = some t) (hu : P.underlying t = some (.slice e)) (he : P.underlying e = some (.int .u8)) (hc : P.cellsOf e = 1) (hb : P.bytesOf e = 1) :
    ∃ a n cap bs, args[j]? = some (.slice a n cap) ∧ BReads W a n cap bs ∧ n ≤ 140737488351232 := by
  obtain ⟨a, n, cap, xs, e1, h, h0⟩ := g.slice j ht hu he hc (by simpa [kbytes] using hb)
  have hw : ∀ x ∈ xs, 0 ≤ x ∧ x < 256 := fun x hx => by
    have := h.wf x hx
    simp [Lit.wf, IntKind.min, IntKind.max, IntKind.signed, IntKind.bits] at this
    omega
  refine ⟨a, n, cap, xs.map Int.toNat, e1, ⟨by simpa using h.len, by have := h.small; omega, ?_, h0, g.room j ht hu he hc e1, ?_⟩, h.small⟩
  · intro b hb
    obtain ⟨x, hx, rfl⟩ := List.mem_map.1 hb
    have := hw x hx
    omega
  · rcases h.cells with h4 | ⟨b, off, ha, hlt, hcl⟩
    · exact .inl h4
    · refine .inr ⟨b, off, ha, hlt, fun i hi => ?_⟩
      rw [hcl i hi]
      have hl := h.len
      have hi' : i < xs.length := by omega
      have := hw xs[i] (List.getElem_mem hi')
      simp [byteAt, List.getD, hi']
      omega
end
end Go.Proofs.Ytdgiellnklcioaa
