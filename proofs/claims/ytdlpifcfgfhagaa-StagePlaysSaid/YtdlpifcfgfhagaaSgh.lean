/-
  Layer 13, what its laws share: the program's table as a law meets it (SAt), ops as arguments, the document's example.
-/
import Derived.Test.YtdlpifcfgfhagaaSgg
import Derived.Test.YtdlpifcfgfhagaaPr
namespace Go.Proofs.Ytdlpifcfgfhagaa
open Go.RowKit Go.ChangeShapes Go.WideShapes Go.ChangeAt Go.Maps

/-- A table that a law has made: nothing that lay below w0 has turned. -/
def SAt (w0 : World) (k x : Nat) (s : TabV) (w : World) : Prop := ∃ lo F, TabIs w lo x F s ∧ s.Few k ∧ w0.heap.size ≤ lo ∧ Below w0.heap.size w0 w
section
variable {w0 w w' : World} {k x : Nat} {s s' : TabV}
theorem SAt.below (h : SAt w0 k x s w) : Below w0.heap.size w0 w := by
  obtain ⟨lo, F, _, _, _, h⟩ := h
  exact h
theorem SAt.few (h : SAt w0 k x s w) : s.Few k := by
  obtain ⟨lo, F, _, h, _⟩ := h
  exact h
theorem SAt.on (h : SAt w0 k x s w) (hb : Below w.heap.size w w') : SAt w0 k x s w' := by
  obtain ⟨lo, F, h1, h2, h3, h4⟩ := h
  exact ⟨lo, F, h1.on hb, h2, h3, h4.trans (hb.mono h4.size)⟩
theorem SAt.more {k' : Nat} (h : SAt w0 k x s w) (hk : k ≤ k') : SAt w0 k' x s w := by
  obtain ⟨lo, F, h1, h2, h3, h4⟩ := h
  exact ⟨lo, F, h1, h2.mono hk, h3, h4⟩
theorem SAt.post {lo k' : Nat} {F : List Nat} (h : TabIs w lo x F s) (hlo : w0.heap.size ≤ lo) (hb : Below w0.heap.size w0 w) (hp : TPost lo x F s' w w') (hf : s'.Few k') : SAt w0 k' x s' w' := by
  obtain ⟨F', h1, h2, h3⟩ := hp
  exact ⟨lo, F', h1, hf, hlo, hb.trans ((h.below h2).mono hlo)⟩
end
theorem s_new (w0 w : World) (hb : Below w0.heap.size w0 w) : Calls Try.prog 9 #[] w fun e w' => ∃ x, e = .returned (.pointer (some ⟨x, 0, none⟩)) ∧ SAt w0 0 x ⟨[], 0⟩ w' := by
  refine (snew_any w).mono ?_
  rintro e w' ⟨x, F, rfl, hb2, h⟩
  exact ⟨x, rfl, w.heap.size, F, h, TabV.few_new 0, hb.size, hb.trans (hb2.mono hb.size)⟩
theorem s_begin {w0 w : World} {k x : Nat} {s : TabV} (h : SAt w0 k x s w) (hk : k ≤ 1000000) (owner : Nat) (ho : owner < 18446744073709551616) (name : ByteArray) :
    Calls Try.prog 10 #[.pointer (some ⟨x, 0, none⟩), .int .u64 (owner : Int), .string name] w fun e w' =>
      (4 ≤ s.ups.length ∧ e = .returned (.tuple #[.int .u32 0, .int .i64 4]) ∧ SAt w0 (k + 1) x s w') ∨ (s.ups.length < 4 ∧ e = .returned (.tuple #[.int .u32 ((s.last + 1 : Nat) : Int), .int .i64 0]) ∧ SAt w0 (k + 1) x (s.start owner name) w') := by
  obtain ⟨lo, F, h1, h2, h3, h4⟩ := h
  refine (sbegin_any w lo x k F s h1 h2 hk owner ho name).mono ?_
  rintro e w' (⟨hl, rfl, hp⟩ | ⟨hl, rfl, hp⟩)
  · exact .inl ⟨hl, rfl, SAt.post h1 h3 h4 hp (h2.mono (Nat.le_succ k))⟩
  · exact .inr ⟨hl, rfl, SAt.post h1 h3 h4 hp (h2.start hl)⟩
theorem s_chunk {w0 w : World} {k x : Nat} {s : TabV} (h : SAt w0 k x s w) (hk : k ≤ 1000000) (owner n page : Nat) (hn : n < 4294967296) {ba : Option Addr} {bn bc : Nat} {xs : List Nat} (hb : BReads w ba bn bc xs) :
    Calls Try.prog 13 #[.pointer (some ⟨x, 0, none⟩), .int .u64 (owner : Int), .int .u32 (n : Int), .int .u32 (page : Int), .slice ba bn bc] w fun e w' => e = .returned (.int .i64 (s.chunkE owner n page xs : Int)) ∧ SAt w0 (k + 1) x (s.chunk owner n page xs) w' := by
  obtain ⟨lo, F, h1, h2, h3, h4⟩ := h
  refine (schunk_any w lo x k F s h1 h2 hk owner n page hn ba bn bc xs hb).mono ?_
  rintro e w' ⟨rfl, hp⟩
  exact ⟨rfl, SAt.post h1 h3 h4 hp h2.chunk⟩
theorem TabV.Few.abort {k owner n : Nat} {s : TabV} (h : s.Few k) : (s.abort owner n).Few k := by
  unfold TabV.abort
  split
  · exact h
  · exact h.cut
theorem s_abort {w0 w : World} {k x : Nat} {s : TabV} (h : SAt w0 k x s w) (owner n : Nat) (hn : n < 4294967296) :
    Calls Try.prog 18 #[.pointer (some ⟨x, 0, none⟩), .int .u64 (owner : Int), .int .u32 (n : Int)] w fun e w' => e = .returned (.int .i64 (s.abortE owner n : Int)) ∧ SAt w0 k x (s.abort owner n) w' := by
  obtain ⟨lo, F, h1, h2, h3, h4⟩ := h
  refine (sabort_any w lo x F s h1 owner n hn).mono ?_
  rintro e w' ⟨rfl, hp⟩
  exact ⟨rfl, SAt.post h1 h3 h4 hp h2.abort⟩
theorem s_leave {w0 w : World} {k x : Nat} {s : TabV} (h : SAt w0 k x s w) (owner : Nat) :
    Calls Try.prog 20 #[.pointer (some ⟨x, 0, none⟩), .int .u64 (owner : Int)] w fun e w' => e = .returned (.int .i64 ((s.ups.length - (s.leave owner).ups.length : Nat) : Int)) ∧ SAt w0 k x (s.leave owner) w' := by
  obtain ⟨lo, F, h1, h2, h3, h4⟩ := h
  refine (sleave_any w lo x F s h1 owner).mono ?_
  rintro e w' ⟨rfl, hp⟩
  exact ⟨rfl, SAt.post h1 h3 h4 hp h2.leave⟩
/-- What is told of the bytes of an upload that is committed. -/
def CmTold (u : UpV) (w : World) (e : Ending) (w' : World) : Prop := (∃ (p : SlL) (xs : List shChange.T), readC u.b = .inl (xs.map toChange) ∧ e = .returned (.tuple #[.string u.name, .slice p.a p.n p.c, .int .i64 0]) ∧ Rd (w.heap.size ≤ ·) w' shChanges [.slice p.a p.n p.c] xs) ∨
    (∃ er : Nat, readC u.b = .inr er ∧ er ≠ 0 ∧ e = .returned (.tuple #[.string ⟨#[]⟩, .slice none 0 0, .int .i64 (er : Int)]))
theorem s_commit {w0 w : World} {k x : Nat} {s : TabV} (h : SAt w0 k x s w) (owner n : Nat) (hn : n < 4294967296) :
    Calls Try.prog 15 #[.pointer (some ⟨x, 0, none⟩), .int .u64 (owner : Int), .int .u32 (n : Int)] w fun e w' =>
      (s.own owner n = none ∧ e = .returned (.tuple #[.string ⟨#[]⟩, .slice none 0 0, .int .i64 130]) ∧ SAt w0 k x s w') ∨ (∃ u, s.own owner n = some u ∧ CmTold u w e w' ∧ SAt w0 k x (s.cut u.n) w') := by
  obtain ⟨lo, F, h1, h2, h3, h4⟩ := h
  refine (scommit_any w lo x F s h1 owner n hn).mono ?_
  rintro e w' (⟨ho, rfl, hp⟩ | ⟨u, ho, hp, hc⟩)
  · exact .inl ⟨ho, rfl, SAt.post h1 h3 h4 hp h2⟩
  · exact .inr ⟨u, ho, hc, SAt.post h1 h3 h4 hp h2.cut⟩
theorem s_len {w0 w : World} {k x : Nat} {s : TabV} (h : SAt w0 k x s w) :
    Calls Try.prog 22 #[.pointer (some ⟨x, 0, none⟩)] w fun e w' => e = .returned (.int .i64 (s.ups.length : Int)) ∧ w = w' := by
  obtain ⟨lo, F, h1, h2, h3, h4⟩ := h
  exact slen_any w lo x F s h1
theorem s_bytes {w0 w : World} {k x : Nat} {s : TabV} (h : SAt w0 k x s w) :
    Calls Try.prog 23 #[.pointer (some ⟨x, 0, none⟩)] w fun e w' => e = .returned (.int .i64 (s.bytes : Int)) ∧ SAt w0 k x s w' ∧ Below w.heap.size w w' := by
  have h0 := h
  obtain ⟨lo, F, h1, h2, h3, h4⟩ := h
  exact (sbytes_any w lo x F s h1).mono fun e w' hh => ⟨hh.1, h0.on hh.2, hh.2⟩

/-- An op's letters. -/
structure OpS where
  kind : Nat
  owner : Nat
  name : ByteArray
  n : Nat
  page : Nat
  ba : Option Addr
  bn : Nat
  bc : Nat
def OpS.cells (o : OpS) : List Value := [.int .u8 (o.kind : Int), .int .u8 (o.owner : Int), .string o.name, .int .u32 (o.n : Int), .int .u32 (o.page : Int), .slice o.ba o.bn o.bc]
def shOp13 : Sh := st [.int .u8, .int .u8, .str, .int .u32, .int .u32, .slice (.int .u8) 1]
def shOps13 : Sh := .slice shOp13 56
set_option maxRecDepth 100000 in
theorem fit_ops13 : (shOps13.fit Try.prog).1 22 = true := by kernel_rfl
theorem Given.ops13 {H : Type} {enc : TypeId × Value → H} {W : World} {base : Nat} {ts : Array TypeId} {args : Array Value} {ds : List (DataW H)} {p : List MemPlace} (g : Given enc Try.prog W base ts args ds p) (j : Nat) (ht : ts[j]? = some 22) :
    ∃ (a : Option Addr) (n c : Nat) (xs : List shOp13.T), args[j]? = some (.slice a n c) ∧ n ≤ 140737488351232 ∧ Rd (· < W.heap.size) W shOps13 [.slice a n c] xs := by
  obtain ⟨v, x, e1, hx⟩ := g.sh1 j ht shOps13 fit_ops13 (.inl ⟨_, Try.underlying22⟩)
  obtain ⟨a, n, c, hcs, _, hn, h⟩ := Rd.slice_is (e := shOp13) hx
  simp only [List.cons.injEq, and_true] at hcs
  subst hcs
  exact ⟨a, n, c, x, e1, hn, h.mono fun _ _ hk => hk⟩
theorem u8_of13 {ok : Nat → Prop} {w : World} {cs : List Value} {x : Int} (h : Rd ok w (.int .u8) cs x) : ∃ n : Nat, cs = [.int .u8 (n : Int)] ∧ n ≤ 255 := by
  obtain ⟨h1, hw⟩ := Rd.int_part h
  have := u8_wf hw
  obtain ⟨n, rfl⟩ := Int.eq_ofNat_of_zero_le (a := x) (by omega)
  exact ⟨n, h1, by omega⟩
theorem u32_of13 {ok : Nat → Prop} {w : World} {cs : List Value} {x : Int} (h : Rd ok w (.int .u32) cs x) : ∃ n : Nat, cs = [.int .u32 (n : Int)] ∧ n < 4294967296 := by
  obtain ⟨h1, hw⟩ := Rd.int_part h
  have := u32_wf hw
  obtain ⟨n, rfl⟩ := Int.eq_ofNat_of_zero_le (a := x) (by omega)
  exact ⟨n, h1, by omega⟩
/-- What is read of an op in a list, in whatever world that keeps what lay below. -/
theorem rd_op13 {w : World} {a : Option Addr} {n c : Nat} {xs : List shOp13.T} (h : Rd (· < w.heap.size) w shOps13 [.slice a n c] xs) (i : Nat) (hi : i < n) :
    ∃ (b off : Nat) (o : OpS) (ys : List Nat), a = some ⟨b, off, none⟩ ∧ b < w.heap.size ∧ o.kind ≤ 255 ∧ o.owner ≤ 255 ∧ o.n < 4294967296 ∧ o.page < 4294967296 ∧ o.bn ≤ 140737488351232 ∧ Hid (∀ wr, Below w.heap.size w wr → b < wr.heap.size ∧ BReads wr o.ba o.bn o.bc ys ∧ ∀ j v, o.cells[j]? = some v → wr.cell? ⟨b, off + i * 6 + j, none⟩ = some v) := by
  obtain ⟨b, off, x, vs, ha, hok, hlt, hx, hl, hc, hr⟩ := Rd.elem (e := shOp13) h i hi
  obtain ⟨k, ow, nm, nn, pg, bb, u1⟩ := x
  obtain ⟨c1, c2, rfl, h1, h2⟩ := Rd.pair_is hr
  obtain ⟨c3, c4, rfl, h3, h4⟩ := Rd.pair_is h2
  obtain ⟨c5, c6, rfl, h5, h6⟩ := Rd.pair_is h4
  obtain ⟨c7, c8, rfl, h7, h8⟩ := Rd.pair_is h6
  obtain ⟨c9, c10, rfl, h9, h10⟩ := Rd.pair_is h8
  obtain ⟨c11, c12, rfl, h11, h12⟩ := Rd.pair_is h10
  obtain rfl := Rd.unit_is h12
  obtain ⟨kk, rfl, hk⟩ := u8_of13 (x := k) h1
  obtain ⟨oo, rfl, ho⟩ := u8_of13 (x := ow) h3
  obtain ⟨rfl, hsz⟩ := Rd.str_part (x := nm) h5
  obtain ⟨n2, rfl, hn⟩ := u32_of13 (x := nn) h7
  obtain ⟨p2, rfl, hp⟩ := u32_of13 (x := pg) h9
  obtain ⟨ca, cn, cc, rfl, _, hcn, r5⟩ := Rd.slice_is (e := .int .u8) h11
  refine ⟨b, off, ⟨kk, oo, nm, n2, p2, ca, cn, cc⟩, List.map Int.toNat bb, ha, hlt, hk, ho, hn, hp, hcn, fun wr hw => ⟨Nat.lt_of_lt_of_le hlt hw.size, (Rd.bytes (r5.under hw)).1, fun j v hj => ?_⟩⟩
  have hj6 : j < 6 := (List.getElem?_eq_some_iff.1 hj).1
  exact (hw.cell (p := ⟨b, _, none⟩) hlt).trans ((hc j hj6).trans hj)
theorem op13_cells {b off i : Nat} {o : OpS} {wr : World} (h : ∀ j v, o.cells[j]? = some v → wr.cell? ⟨b, off + i * 6 + j, none⟩ = some v) :
    wr.cell? ⟨b, off + i * 6, none⟩ = some (.int .u8 (o.kind : Int)) ∧ wr.cell? ⟨b, off + i * 6 + 1, none⟩ = some (.int .u8 (o.owner : Int)) ∧ wr.cell? ⟨b, off + i * 6 + 2, none⟩ = some (.string o.name) ∧ wr.cell? ⟨b, off + i * 6 + 3, none⟩ = some (.int .u32 (o.n : Int)) ∧ wr.cell? ⟨b, off + i * 6 + 4, none⟩ = some (.int .u32 (o.page : Int)) ∧ wr.cell? ⟨b, off + i * 6 + 5, none⟩ = some (.slice o.ba o.bn o.bc) :=
  ⟨h 0 _ rfl, h 1 _ rfl, h 2 _ rfl, h 3 _ rfl, h 4 _ rfl, h 5 _ rfl⟩

/-- One byte that the text has laid. -/
theorem zero_byte (w : World) : BReads (w.alloc (.cells #[.int .u8 0] 5)) (some ⟨w.heap.size, 0, none⟩) 1 1 [0] := BReads.built w [0] 5 (by simp) (by simp)
def tabA : TabV := ⟨[⟨1, 7, ⟨#[97]⟩, [], 0⟩], 1⟩
def tabB : TabV := ⟨[⟨1, 7, ⟨#[97]⟩, [0], 1⟩], 1⟩
theorem readC_zero : readC [0] = .inl [] := by rfl
theorem told_zero {w w' : World} {e : Ending} (h : CmTold ⟨1, 7, ⟨#[97]⟩, [0], 1⟩ w e w') : ∃ a c, e = .returned (.tuple #[.string ⟨#[97]⟩, .slice a 0 c, .int .i64 0]) := by
  rcases h with ⟨p, xs, h1, rfl, h3⟩ | ⟨er, h1, _, _⟩
  · have h2 : (Sum.inl [] : List ChangeV ⊕ Nat) = .inl (xs.map toChange) := readC_zero.symm.trans h1
    have h4 : xs.map toChange = [] := (Sum.inl.inj h2).symm
    have h5 : xs.length = 0 := by
      have := congrArg List.length h4
      simpa using this
    obtain ⟨a', n', c', h0, hl, _⟩ := Rd.slice_is (e := shChange) h3
    simp only [List.cons.injEq, Value.slice.injEq, and_true] at h0
    obtain ⟨rfl, rfl, rfl⟩ := h0
    have h6 : p.n = 0 := by
      rw [← hl.out]
      exact h5
    exact ⟨p.a, p.c, by rw [h6]⟩
  · have h2 : (Sum.inl [] : List ChangeV ⊕ Nat) = .inr er := readC_zero.symm.trans h1
    cases h2
set_option maxRecDepth 100000 in
set_option maxHeartbeats 3200000 in
theorem alive13 (w : World) : Calls Try.prog 8 #[] w fun e w' => e = .returned (.bool true) ∧ Below w.heap.size w w' := by
  go_enter Try.func8, Try.ntmps8
  go_wp2_with (fail)
  refine (s_new w w (Below.refl _ _)).mono ?_
  rintro e w1 ⟨x, rfl, h1⟩
  have H1 := Lib.hid h1
  clear h1
  go_wp2_with (fail)
  refine (s_begin H1.out (by decide) 7 (by decide) ⟨#[97]⟩).mono ?_
  rintro e w2 (⟨hl, -, -⟩ | ⟨-, rfl, h2⟩)
  · exact absurd hl (by decide)
  have H2 := Lib.hid (show SAt w 1 x tabA w2 from h2)
  clear h2 H1
  rw [show (({ ups := [], last := 0 } : TabV).last + 1) = 1 from rfl]
  go_wp2_with (fail)
  have Z2 := Lib.hid (zero_byte w2)
  have A2 := Lib.hid (H2.out.on ((Below.refl _ w2).alloc (Nat.le_refl _) (.cells #[.int .u8 0] 5)))
  refine (s_chunk A2.out (by decide) 7 1 1 (by decide) Z2.out).mono ?_
  rintro e w3 ⟨rfl, h3⟩
  have H3 := Lib.hid (show SAt w 2 x tabB w3 from h3)
  rw [show tabA.chunkE 7 1 1 [0] = 0 from rfl]
  clear h3 Z2 A2 H2
  go_wp2_with (fail)
  have Z3 := Lib.hid (zero_byte w3)
  have A3 := Lib.hid (H3.out.on ((Below.refl _ w3).alloc (Nat.le_refl _) (.cells #[.int .u8 0] 5)))
  refine (s_chunk A3.out (by decide) 7 1 1 (by decide) Z3.out).mono ?_
  rintro e w4 ⟨rfl, h4⟩
  have H4 := Lib.hid (show SAt w 3 x tabB w4 from h4)
  rw [show tabB.chunkE 7 1 1 [0] = 130 from rfl]
  clear h4 Z3 A3 H3
  go_wp2_with (fail)
  have Z4 := Lib.hid (zero_byte w4)
  have A4 := Lib.hid (H4.out.on ((Below.refl _ w4).alloc (Nat.le_refl _) (.cells #[.int .u8 0] 5)))
  refine (s_chunk A4.out (by decide) 8 1 2 (by decide) Z4.out).mono ?_
  rintro e w5 ⟨rfl, h5⟩
  have H5 := Lib.hid (show SAt w 4 x tabB w5 from h5)
  rw [show tabB.chunkE 8 1 2 [0] = 130 from rfl]
  clear h5 Z4 A4 H4
  go_wp2_with (fail)
  refine (s_commit H5.out 7 1 (by decide)).mono ?_
  rintro e w6 (⟨ho, -, -⟩ | ⟨u, ho, hc, h6⟩)
  · exact absurd ho (by rw [show tabB.own 7 1 = some ⟨1, 7, ⟨#[97]⟩, [0], 1⟩ from rfl]; simp)
  obtain rfl : ⟨1, 7, ⟨#[97]⟩, [0], 1⟩ = u := Option.some.inj ho
  obtain ⟨a, c, rfl⟩ := told_zero hc
  have H6 := Lib.hid (show SAt w 4 x ⟨[], 1⟩ w6 from h6)
  clear h6 hc ho H5
  go_wp2_with (fail)
  refine (s_abort H6.out 7 1 (by decide)).mono ?_
  rintro e w7 ⟨rfl, h7⟩
  have B7 := Lib.hid h7.below
  rw [show (⟨[], 1⟩ : TabV).abortE 7 1 = 130 from rfl]
  clear h7 H6
  go_wp2
  go_ret
  exact ⟨rfl, B7.out⟩
end Go.Proofs.Ytdlpifcfgfhagaa
