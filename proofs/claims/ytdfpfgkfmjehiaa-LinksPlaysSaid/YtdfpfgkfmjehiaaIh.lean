/-
  Layer 11's statements' own words: what an op is read as; both graphs beside each other; build.
-/
import Derived.Test.YtdfpfgkfmjehiaaIg
import Derived.Test.YtdfpfgkfmjehiaaId
import Derived.Deep.RegionHeld3
namespace Go.Proofs.Ytdfpfgkfmjehiaa
open Go.RowKit Go.ChangeShapes Go.WideShapes Go.ChangeAt

def shOp11 : Sh := st [.int .u8, shItem, .int .i64, .int .i64, .int .i64, .int .i64, .slice (.int .i64) 8]
def shOps11 : Sh := .slice shOp11 120
set_option maxRecDepth 100000 in
theorem fit_ops11 : (shOps11.fit Try.prog).1 22 = true := by kernel_rfl
section
variable {H : Type} {enc : TypeId × Value → H} {W : World} {base : Nat} {ts : Array TypeId} {args : Array Value} {ds : List (DataW H)} {p : List MemPlace}
/-- A list of ops that comes in. -/
theorem Given.ops11 (g : Given enc Try.prog W base ts args ds p) (j : Nat) (ht : ts[j]? = some 22) : ∃ (a : Option Addr) (n c : Nat) (xs : List shOp11.T), args[j]? = some (.slice a n c) ∧ Rd (· < W.heap.size) W shOps11 [.slice a n c] xs := by
  obtain ⟨v, x, e1, hx⟩ := g.sh1 j ht shOps11 fit_ops11 (.inl ⟨_, Try.underlying22⟩)
  obtain ⟨a, n, c, hcs, _, _, h⟩ := Rd.slice_is (e := shOp11) hx
  simp only [List.cons.injEq, and_true] at hcs
  subst hcs
  exact ⟨a, n, c, x, e1, h.mono fun _ _ hk => hk⟩
end
theorem u8_of11 {ok : Nat → Prop} {w : World} {cs : List Value} {x : Int} (h : Rd ok w (.int .u8) cs x) : ∃ n : Nat, cs = [.int .u8 (n : Int)] ∧ n ≤ 255 := by
  obtain ⟨h1, hw⟩ := Rd.int_part h
  simp [Lit.wf, IntKind.min, IntKind.max, IntKind.signed, IntKind.bits] at hw
  obtain ⟨n, rfl⟩ := Int.eq_ofNat_of_zero_le (a := x) (by omega)
  exact ⟨n, h1, by omega⟩
theorem i64_of11 {ok : Nat → Prop} {w : World} {cs : List Value} {x : Int} (h : Rd ok w (.int .i64) cs x) : cs = [.int .i64 x] ∧ -9223372036854775808 ≤ x ∧ x ≤ 9223372036854775807 := by
  obtain ⟨h1, hw⟩ := Rd.int_part h
  simp [Lit.wf, IntKind.min, IntKind.max, IntKind.signed, IntKind.bits] at hw
  exact ⟨h1, by omega, by omega⟩
/-- What is read of an op in a list, in whatever world that keeps what lay below. -/
theorem rd_op11 {B : Nat} {w : World} {a : Option Addr} {n c : Nat} {xs : List shOp11.T} (h : Rd (· < B) w shOps11 [.slice a n c] xs) (i : Nat) (hi : i < n) :
    ∃ (b off : Nat) (k : Nat) (x : ItL) (oa ob lev most : Int) (la : Option Addr) (ln lc : Nat) (l : List Int), a = some ⟨b, off, none⟩ ∧ b < B ∧ k ≤ 255 ∧ Hid (most ≤ 9223372036854775807) ∧ ln ≤ 140737488351232 ∧ Hid (∀ wr, Below B w wr → b < wr.heap.size ∧ x.In (· < B) wr ∧ Reads .i64 wr la ln l ∧
      wr.cell? ⟨b, off + i * 9, none⟩ = some (.int .u8 (k : Int)) ∧ wr.cell? ⟨b, off + i * 9 + 1, none⟩ = some (.int .u32 (x.id : Int)) ∧ wr.cell? ⟨b, off + i * 9 + 2, none⟩ = some (.slice x.pv.1 x.pv.2.1 x.pv.2.2) ∧ wr.cell? ⟨b, off + i * 9 + 3, none⟩ = some (.slice x.pt.1 x.pt.2.1 x.pt.2.2) ∧ wr.cell? ⟨b, off + i * 9 + 4, none⟩ = some (.int .i64 oa) ∧ wr.cell? ⟨b, off + i * 9 + 5, none⟩ = some (.int .i64 ob) ∧ wr.cell? ⟨b, off + i * 9 + 6, none⟩ = some (.int .i64 lev) ∧ wr.cell? ⟨b, off + i * 9 + 7, none⟩ = some (.int .i64 most) ∧ wr.cell? ⟨b, off + i * 9 + 8, none⟩ = some (.slice la ln lc)) := by
  obtain ⟨b, off, x, vs, ha, hok, hlt, hx, hl, hc, hr⟩ := Rd.elem (e := shOp11) h i hi
  obtain ⟨k, it, oa, ob, lev, most, l, u⟩ := x
  obtain ⟨c1, c2, rfl, h1, h2⟩ := Rd.pair_is hr
  obtain ⟨c3, c4, rfl, h3, h4⟩ := Rd.pair_is h2
  obtain ⟨c5, c6, rfl, h5, h6⟩ := Rd.pair_is h4
  obtain ⟨c7, c8, rfl, h7, h8⟩ := Rd.pair_is h6
  obtain ⟨c9, c10, rfl, h9, h10⟩ := Rd.pair_is h8
  obtain ⟨c11, c12, rfl, h11, h12⟩ := Rd.pair_is h10
  obtain ⟨c13, c14, rfl, h13, h14⟩ := Rd.pair_is h12
  obtain ⟨kk, rfl, hk⟩ := u8_of11 (x := k) h1
  obtain ⟨id, vec, tags, a1, n1, k1, a2, n2, k2, rfl, rfl, hid, r1, r2, _, _, _, _⟩ := rd_item h3
  obtain ⟨rfl, _, _⟩ := i64_of11 (x := oa) h5
  obtain ⟨rfl, _, _⟩ := i64_of11 (x := ob) h7
  obtain ⟨rfl, _, _⟩ := i64_of11 (x := lev) h9
  obtain ⟨rfl, _, hm⟩ := i64_of11 (x := most) h11
  obtain ⟨la, ln, lc, rfl, _, hln, r3⟩ := Rd.slice_is (e := .int .i64) (xs := l) h13
  obtain rfl := Rd.unit_is h14
  have hR : Reads .i64 w la ln l := Rd.ints r3 rfl
  refine ⟨b, off, kk, ⟨id, (a1, n1, k1), (a2, n2, k2), vec, tags⟩, oa, ob, lev, most, la, ln, lc, l, ha, hok, hk, hm, hR.small, fun wr hw => ⟨Nat.lt_of_lt_of_le hlt (Nat.le_trans (Nat.le_refl _) hw.size), ItL.In.under ⟨by show id < 4294967296; omega, r1, r2⟩ hw, ?_, ?_⟩⟩
  · exact Rd.ints (Rd.stay hw.size (fun q hq _ => hw.block q hq) (fun _ h _ => h) r3) rfl
  · exact ⟨(hw.cell (p := ⟨b, _, none⟩) hok).trans (hc 0 (by decide)), (hw.cell (p := ⟨b, _, none⟩) hok).trans (hc 1 (by decide)), (hw.cell (p := ⟨b, _, none⟩) hok).trans (hc 2 (by decide)), (hw.cell (p := ⟨b, _, none⟩) hok).trans (hc 3 (by decide)), (hw.cell (p := ⟨b, _, none⟩) hok).trans (hc 4 (by decide)), (hw.cell (p := ⟨b, _, none⟩) hok).trans (hc 5 (by decide)), (hw.cell (p := ⟨b, _, none⟩) hok).trans (hc 6 (by decide)), (hw.cell (p := ⟨b, _, none⟩) hok).trans (hc 7 (by decide)), (hw.cell (p := ⟨b, _, none⟩) hok).trans (hc 8 (by decide))⟩
/-- The program's graph and the document's, beside each other, saying the same. -/
structure BothG (B lo lo2 g h : Nat) (F G : List Nat) (gv : GraphV) (w : World) : Prop where
  code : GraphIs w lo g F gv
  ref : DGraphIs 30 [] w B lo2 h G gv
  apart : Apart F G
  hB : B ≤ lo
section
variable {B lo lo2 g h : Nat} {F G F' G' : List Nat} {gv gv' : GraphV} {w w0 w1 w2 : World}
theorem BothG.on (b : BothG B lo lo2 g h F G gv w) (hb : Below w.heap.size w w1) : BothG B lo lo2 g h F G gv w1 := ⟨b.code.on hb, b.ref.on hb, b.apart, b.hB⟩
/-- One of both turns, then the other. -/
theorem BothG.step (b : BothG B lo lo2 g h F G gv w) (g1 : Grows w F F') (c1 : GraphIs w1 lo g F' gv') (k2 : Kept G w1 w2) (g2 : Grows w1 G G') (r2 : DGraphIs 30 [] w2 B lo2 h G' gv') : BothG B lo lo2 g h F' G' gv' w2 := by
  have a1 : Apart F' G := b.apart.grows g1 (fun x hx => (b.ref.lt x hx).2)
  have a2 : Apart G' F' := a1.symm.grows g2 (fun x hx => (c1.lt x hx).2)
  exact ⟨c1.kept k2 (fun x hx hxF => a1 x hxF hx), r2, a2.symm, b.hB⟩
theorem BothG.ref1 (b : BothG B lo lo2 g h F G gv w) (k1 : Kept F w w1) : DGraphIs 30 [] w1 B lo2 h G gv :=
  b.ref.kept k1 b.apart (fun x hx => Nat.le_trans b.hB (b.code.lt x hx).1)
theorem BothG.size (b : BothG B lo lo2 g h F G gv w) : B ≤ w.heap.size := by
  obtain ⟨a, n, c, _, _, _, h4, h5⟩ := b.ref.seen
  have := (b.ref.lt _ h5).1
  have := b.ref.hB
  omega
theorem BothG.below1 (b : BothG B lo lo2 g h F G gv w) (k1 : Kept F w w1) (h0 : Below B w0 w) : Below B w0 w1 :=
  h0.trans (k1.below (B := B) (fun x hx => Nat.le_trans b.hB (b.code.lt x hx).1) b.size)
theorem BothG.below (b : BothG B lo lo2 g h F G gv w) (k1 : Kept F w w1) (k2 : Kept G w1 w2) (h0 : Below B w0 w) : Below B w0 w2 :=
  (b.below1 k1 h0).trans (k2.below (fun x hx => Nat.le_trans b.ref.hB (b.ref.lt x hx).1) (Nat.le_trans b.size k1.size))
end
theorem GraphIs.mem {w : World} {lo g : Nat} {F : List Nat} {gv : GraphV} (h : GraphIs w lo g F gv) : g ∈ F := by
  obtain ⟨It, u, L, _, _, _, rfl, _⟩ := h
  exact List.mem_append.2 (.inl (mem_fpG.2 (.inl rfl)))
def BuildPost (B lo lo2 g h m : Nat) (w : World) (e : Ending) (w' : World) : Prop :=
  e = .returned (.bool true) ∧ ∃ F G gv, BothG B lo lo2 g h F G gv w' ∧ Below B w w' ∧ gv.L.length ≤ 100 ∧ gv.m = m
theorem link_len (gv : GraphV) (a b l m : Int) : (gv.link a b l m).L.length = gv.L.length := by
  unfold GraphV.link
  split
  · exact setLink_len _ _ _ _
  · rfl
theorem link_m (gv : GraphV) (a b l m : Int) : (gv.link a b l m).m = gv.m := by
  unfold GraphV.link
  split <;> rfl
theorem till_m (gv : GraphV) (i : Int) (v : Nat) : (gv.till i v).m = gv.m := by
  unfold GraphV.till
  split <;> rfl
theorem HitsPost.parts {l : List Hit} {w w' : World} {e : Ending} (h : HitsPost l w e w') (hl : l.length ≤ 1000000) : ∃ a n c, e = .returned (.slice a n c) ∧ HReads w' a n l ∧ Below w.heap.size w w' := by
  obtain ⟨g, n, rfl, h1, h2, _⟩ := h
  exact ⟨_, n, n, rfl, HReads.of_own h1 hl, h2⟩
theorem RHits.parts {l : List Hit} {w w' : World} {e : Ending} (h : RHits l w e w') (hl : l.length ≤ 1000000) : ∃ a n c, e = .returned (.slice a n c) ∧ HReads w' a n l ∧ Below w.heap.size w w' := by
  obtain ⟨v, rfl, h1, h2⟩ := h
  obtain ⟨a, n, c, rfl⟩ := h1.parts11
  exact ⟨a, n, c, rfl, HReads.of_own h1.own hl, h2⟩
theorem PlacesPost.parts {l : List Nat} {w w' : World} {e : Ending} (h : PlacesPost l w e w') (hl : l.length ≤ 1000000) (hj : ∀ j ∈ l, j ≤ 1000000) : ∃ a n c, e = .returned (.slice a n c) ∧ Reads .i64 w' a n (natsI l) ∧ Below w.heap.size w w' := by
  obtain ⟨v, rfl, h1, h2⟩ := h
  obtain ⟨a, n, c, rfl, -⟩ := IntsAt.parts h1
  exact ⟨a, n, c, rfl, h1.reads hl hj, h2⟩
theorem walk_len (gv : GraphV) (q fr : List Int) (width level : Int) : (gv.walk q fr width level).length ≤ 256 := by
  have key : ∀ k (s : WalkV), s.best.length ≤ widthN width → (gv.walkF q (widthN width) level.toNat k s).length ≤ widthN width := by
    intro k
    induction k with
    | zero => exact fun s h => h
    | succ k ih =>
      intro s h
      rw [GraphV.walkF.eq_def]
      split
      · simp_all
      · next k' s' heq =>
        simp at heq
        split
        · exact h
        · split
          · exact h
          · refine heq ▸ ih _ ?_
            unfold GraphV.meets
            have : ∀ (l : List Nat) (s : WalkV), s.best.length ≤ widthN width → (l.foldl (gv.meet q (widthN width)) s).best.length ≤ widthN width := by
              intro l
              induction l with
              | nil => exact fun s h => h
              | cons j l ih2 =>
                intro s h
                refine ih2 _ ?_
                unfold GraphV.meet
                split
                · exact h
                · split
                  · simp; omega
                  · exact h
            exact this _ _ h
  have h1 := key (gv.L.length + 1) (gv.start q (widthN width) (pick (fun i => gv.onB i level) fr)) (keepL_len _ _)
  unfold GraphV.walk
  have : widthN width ≤ 256 := by unfold widthN; omega
  omega
set_option maxRecDepth 100000 in
set_option maxHeartbeats 25600000 in
theorem build_any (w : World) (B lo lo2 g h : Nat) (F0 G0 : List Nat) (gv0 : GraphV) (HB0 : BothG B lo lo2 g h F0 G0 gv0 w) (hgv0 : gv0.L.length = 0) (a : Option Addr) (n c : Nat) (xs : List shOp11.T) (hx : Rd (· < B) w shOps11 [.slice a n c] xs) (most0 : Nat) (hmost0 : most0 ≤ 100) :
    Calls Try.prog 10 #[.pointer (some ⟨g, 0, none⟩), .pointer (some ⟨h, 0, none⟩), .slice a n c, .int .i64 (most0 : Int)] w (BuildPost B lo lo2 g h gv0.m w) := by
  have HX := Lib.hid hx
  have H0 := Lib.hid HB0
  have L0 := Lib.hid hgv0
  clear hx HB0 hgv0
  go_enter Try.func10, Try.ntmps10
  go_wp2_with (fail)
  go_loopw [9] (fun s9 wr => ∃ (i : Nat) (F G : List Nat) (gv : GraphV), s9 = .int .i64 (i : Int) ∧ i ≤ most0 ∧ Hid (BothG B lo lo2 g h F G gv wr) ∧ Hid (Below B w wr) ∧ Hid (gv.L.length ≤ i ∧ gv.m = gv0.m)) (fun s9 _ => most0 - (intOf s9).toNat)
  case atStart => exact ⟨0, F0, G0, gv0, rfl, Nat.zero_le _, H0, Below.refl _ _, by rw [L0.out]; exact ⟨Nat.le_refl _, rfl⟩⟩
  case round =>
    clear H0 L0
    obtain ⟨i, F, G, gv, rfl, hi, HP, HB, HM⟩ := hrel
    have HEND := Lib.hid (show BuildPost B lo lo2 g h gv0.m w (.returned (.bool true)) wr from ⟨rfl, F, G, gv, HP.out, HB.out, by have := HM.out.1; omega, HM.out.2⟩)
    by_cases hin : i < n
    rotate_left
    · go_wp2
      go_ret
      exact HEND.out
    by_cases him : i < most0
    rotate_left
    · have hd1 : decide ((i : Int) < (most0 : Int)) = false := decide_eq_false (by omega)
      go_wp2
      go_ret
      exact HEND.out
    have hd1 : decide ((i : Int) < (most0 : Int)) = true := decide_eq_true (by omega)
    obtain ⟨b, off, k, x, oa, ob, lev, most, la, ln, lc, l, rfl, hbl, hk, hmost, hln, OPF⟩ := rd_op11 HX.out i hin
    obtain ⟨hb0, -, -, m0, m1, m2, m3, m4, m5, m6, m7, m8⟩ := OPF.out _ HB.out
    obtain ⟨W4, hW4⟩ : ∃ W4, wr.alloc (.cells #[.int .u8 (k : Int), .int .u32 (x.id : Int), .slice x.pv.1 x.pv.2.1 x.pv.2.2, .slice x.pt.1 x.pt.2.1 x.pt.2.2, .int .i64 oa, .int .i64 ob, .int .i64 lev, .int .i64 most, .slice la ln lc] 66) = W4 := ⟨_, rfl⟩
    obtain ⟨bo, hob⟩ : ∃ bo, wr.heap.size = bo := ⟨_, rfl⟩
    have hb4 : Below wr.heap.size wr W4 := by rw [← hW4]; exact (Below.refl _ _).alloc (Nat.le_refl _) _
    have O4 := Lib.hid (show Blk W4 bo 66 [.int .u8 (k : Int), .int .u32 (x.id : Int), .slice x.pv.1 x.pv.2.1 x.pv.2.2, .slice x.pt.1 x.pt.2.1 x.pt.2.2, .int .i64 oa, .int .i64 ob, .int .i64 lev, .int .i64 most, .slice la ln lc] from by rw [← hW4, ← hob]; exact Blk.new _ _ _)
    have HPo := Lib.hid (show ∀ x, x ∈ F ∨ x ∈ G → x ≠ bo from fun x hx => by
      rcases hx with hx | hx
      · have := (HP.out.code.lt x hx).2; omega
      · have := (HP.out.ref.lt x hx).2; omega)
    have P4 := Lib.hid (HP.out.on hb4)
    have B4 := Lib.hid (HB.out.trans (hb4.mono HP.out.size))
    have q1 : W4.cell? ⟨bo, 1, none⟩ = some (.int .u32 (x.id : Int)) := O4.out.cell 1
    have q2 : W4.cell? ⟨bo, 2, none⟩ = some (.slice x.pv.1 x.pv.2.1 x.pv.2.2) := O4.out.cell 2
    have q3 : W4.cell? ⟨bo, 3, none⟩ = some (.slice x.pt.1 x.pt.2.1 x.pt.2.2) := O4.out.cell 3
    have hobl := O4.out.lt
    have CS := Lib.hid (small_any B x W4 ((OPF.out _ B4.out).2.1) P4.out.size)
    clear hb4 HP HB HEND
    go_wp2_with (first | (rw [hW4]) | fail)
    clear hW4
    refine CS.out.mono ?_
    rintro e w5 ⟨⟨gs, rfl⟩, hb5⟩
    have P5 := Lib.hid (P4.out.on hb5)
    have B5 := Lib.hid (B4.out.trans (hb5.mono P4.out.size))
    have O5 := Lib.hid ((Kept.of_below (F := []) hb5 (Nat.le_refl _)).blk O4.out (by simp))
    have HEND := Lib.hid (show BuildPost B lo lo2 g h gv0.m w (.returned (.bool true)) w5 from ⟨rfl, F, G, gv, P5.out, B5.out, by have := HM.out.1; omega, HM.out.2⟩)
    clear hb5 P4 B4 O4 q1 q2 q3 m0 m1 m2 m3 m4 m5 m6 m7 m8 hobl hb0 CS
    cases gs
    · go_wp2
      go_ret
      exact HEND.out
    have q8 : w5.cell? ⟨bo, 8, none⟩ = some (.slice la ln lc) := O5.out.cell 8
    have q0 : w5.cell? ⟨bo, 0, none⟩ = some (.int .u8 (k : Int)) := O5.out.cell 0
    by_cases hk100 : ln ≤ 100
    rotate_left
    · have hkd : (100 : Int) < (ln : Int) := by omega
      go_wp2
      go_ret
      exact HEND.out
    have hkd : decide ((100 : Int) < (ln : Int)) = false := decide_eq_false (by omega)
    have hkd2 : decide ((ln : Int) > 100) = false := decide_eq_false (by omega)
    have hk6 : (k : Int) % 6 = 0 ∨ (k : Int) % 6 = 1 ∨ (k : Int) % 6 = 2 ∨ (k : Int) % 6 = 3 ∨ (k : Int) % 6 = 4 ∨ (k : Int) % 6 = 5 := by omega
    clear HEND
    have OBL := O5.out.lt
    have HG100 := Lib.hid (show gv.L.length ≤ 100 from by have := HM.out.1; omega)
    rcases hk6 with hk6 | hk6 | hk6 | hk6 | hk6 | hk6
    · as_aux_lemma =>
        have O5c1 : w5.cell? ⟨bo, 1, none⟩ = some (.int .u32 (x.id : Int)) := O5.out.cell 1
        have O5c2 : w5.cell? ⟨bo, 2, none⟩ = some (.slice x.pv.1 x.pv.2.1 x.pv.2.2) := O5.out.cell 2
        have O5c3 : w5.cell? ⟨bo, 3, none⟩ = some (.slice x.pt.1 x.pt.2.1 x.pt.2.2) := O5.out.cell 3
        have O5c6 : w5.cell? ⟨bo, 6, none⟩ = some (.int .i64 lev) := O5.out.cell 6
        have O5c7 : w5.cell? ⟨bo, 7, none⟩ = some (.int .i64 most) := O5.out.cell 7
        obtain ⟨mu, hmu⟩ : ∃ mu : Nat, IntKind.u64.wrap most = (mu : Int) := ⟨(most % 18446744073709551616).toNat, by rw [IntKind.wrap_u64]; omega⟩
        obtain ⟨vv, hvv2⟩ : ∃ vv : Nat, (mu : Int) % 100 = (vv : Int) := ⟨mu % 100, by omega⟩
        have hvv : (mu : Int).tmod 100 = (vv : Int) := (Int.tmod_eq_emod_of_nonneg (by omega)).trans hvv2
        have HVV := Lib.hid (show vv < 18446744073709551616 from by omega)
        clear hvv2
        obtain ⟨nl, hnl⟩ : ∃ nl, gv.L.length = nl := ⟨_, rfl⟩
        have PD := Lib.hid (P5.out.on ((Below.refl w5.heap.size w5).drew))
        have BD := Lib.hid (show Below B w w5.drew from B5.out.drew)
        have PC := Lib.hid (add_any11 w5.drew lo g F gv PD.out.code (Nat.le_of_lt (Nat.lt_of_le_of_lt (PD.out.code.lt g (GraphIs.mem PD.out.code)).1 (PD.out.code.lt g (GraphIs.mem PD.out.code)).2)) (by have := HG100.out; omega) x (ItL.In.stay ((OPF.out _ BD.out).2.1) (Nat.le_refl _) (fun _ _ _ => rfl) (fun _ _ _ => trivial)) lev vv HVV.out)
        have RCC := Lib.hid (show ∀ w7, Kept F w5.drew w7 → Below B w w7 → Calls Try.prog 24 #[.pointer (some ⟨h, 0, none⟩), .agg #[.int .u32 (x.id : Int), .slice x.pv.1 x.pv.2.1 x.pv.2.2, .slice x.pt.1 x.pt.2.1 x.pt.2.2], .int .i64 lev, .int .u64 (vv : Int)] w7 fun e w' => e = .returned (.int .i64 (nl : Int)) ∧ DPost 30 [] B lo2 h G (gv.add (newN x.id x.vec x.tags (topN lev) vv)) w7 w' from fun w7 k7 b7 => by
          have h9 := dadd_is (PD.out.ref1 k7) (by have := HG100.out; omega) x ((OPF.out _ b7).2.1) lev vv HVV.out
          rw [hnl] at h9
          exact h9)
        unfold AddPost11 at PC
        rw [hnl] at PC
        clear hnl
        have SW5 := Lib.hid (show (fun X : World => X.cell? ⟨bo, 1, none⟩ = some (.int .u32 (x.id : Int)) ∧ X.cell? ⟨bo, 2, none⟩ = some (.slice x.pv.1 x.pv.2.1 x.pv.2.2) ∧ X.cell? ⟨bo, 3, none⟩ = some (.slice x.pt.1 x.pt.2.1 x.pt.2.2) ∧ X.cell? ⟨bo, 6, none⟩ = some (.int .i64 lev) ∧ X.cell? ⟨bo, 7, none⟩ = some (.int .i64 most)) w5.drew from ⟨(show Blk w5.drew bo 66 _ from O5.out).cell 1, (show Blk w5.drew bo 66 _ from O5.out).cell 2, (show Blk w5.drew bo 66 _ from O5.out).cell 3, (show Blk w5.drew bo 66 _ from O5.out).cell 6, (show Blk w5.drew bo 66 _ from O5.out).cell 7⟩)
        go_wp2_with (fail)
        go_region_held3 (fun X => X.cell? ⟨bo, 1, none⟩ = some (.int .u32 (x.id : Int)) ∧ X.cell? ⟨bo, 2, none⟩ = some (.slice x.pv.1 x.pv.2.1 x.pv.2.2) ∧ X.cell? ⟨bo, 3, none⟩ = some (.slice x.pt.1 x.pt.2.1 x.pt.2.2) ∧ X.cell? ⟨bo, 6, none⟩ = some (.int .i64 lev) ∧ X.cell? ⟨bo, 7, none⟩ = some (.int .i64 most))
          (first
            | (go_keep; done)
            | exact SW5.out
            | exact SW7.out
            | exact SW8.out)
          (first
          | (go_at_call 20; go_split_ands; refine PC.out.mono ?_; rintro e w7 ⟨rfl, F7, h7, k7, g7⟩; have B7 := Lib.hid (PD.out.below1 k7 BD.out); have P7 := Lib.hid h7; have K7 := Lib.hid k7; have G7 := Lib.hid g7; have O7 := Lib.hid (k7.blk (show Blk (w5.drew) bo 66 _ from O5.out) (fun hh => HPo.out _ (.inl hh) rfl)); have SW7 := Lib.hid (show (fun X : World => X.cell? ⟨bo, 1, none⟩ = some (.int .u32 (x.id : Int)) ∧ X.cell? ⟨bo, 2, none⟩ = some (.slice x.pv.1 x.pv.2.1 x.pv.2.2) ∧ X.cell? ⟨bo, 3, none⟩ = some (.slice x.pt.1 x.pt.2.1 x.pt.2.2) ∧ X.cell? ⟨bo, 6, none⟩ = some (.int .i64 lev) ∧ X.cell? ⟨bo, 7, none⟩ = some (.int .i64 most)) w7 from ⟨O7.out.cell 1, O7.out.cell 2, O7.out.cell 3, O7.out.cell 6, O7.out.cell 7⟩); clear h7 k7 g7)
          | (go_at_call 24; go_split_ands; refine (RCC.out w7 K7.out B7.out).mono ?_; rintro e w8 ⟨rfl, G8, h8, k8, g8⟩; have P8 := Lib.hid (PD.out.step G7.out P7.out k8 g8 h8); have B8 := Lib.hid (PD.out.below K7.out k8 BD.out); have O8 := k8.blk O7.out (fun hh => HPo.out _ (.inr hh) rfl); have SW8 := Lib.hid (show (fun X : World => X.cell? ⟨bo, 1, none⟩ = some (.int .u32 (x.id : Int)) ∧ X.cell? ⟨bo, 2, none⟩ = some (.slice x.pv.1 x.pv.2.1 x.pv.2.2) ∧ X.cell? ⟨bo, 3, none⟩ = some (.slice x.pt.1 x.pt.2.1 x.pt.2.2) ∧ X.cell? ⟨bo, 6, none⟩ = some (.int .i64 lev) ∧ X.cell? ⟨bo, 7, none⟩ = some (.int .i64 most)) w8 from ⟨O8.cell 1, O8.cell 2, O8.cell 3, O8.cell 6, O8.cell 7⟩); clear h8 k8 g8 O8))
        all_goals
          clear P5 B5 O5 PD BD P7 B7 K7 G7 O7 PC RCC SW5 SW7 SW8
          obtain ⟨za, zn, zc, hz0, hzn, hz1, hz2, -⟩ := P8.out.ref.seen
          have LC := Lib.hid (fun m => (len_is (P8.out.on (below_draws (Below.refl _ _) m)).code).mono (fun e w' hh => show e = Ending.returned (.int .i64 (zn : Int)) ∧ w' = w8.drewN m from ⟨by rw [hzn.out]; exact hh.1, hh.2.symm⟩))
          have M8 := Lib.hid (show (gv.add (newN x.id x.vec x.tags (topN lev) vv)).L.length ≤ i + 1 ∧ (gv.add (newN x.id x.vec x.tags (topN lev) vv)).m = gv0.m from by have := HM.out; simp [GraphV.add]; omega)
          clear hzn
          go_wp2_with (fail)
          go_quiet (first | (go_at_call 13; refine Calls.quiet_of_same (LC.out _)))
          go_wp2
          go_roundw
          case rel => exact ⟨i + 1, _, _, _, by go_num, by omega, P8.out.on (below_draws (Below.refl _ _) _), below_draws B8.out _, M8.out⟩
          case measure => simp [intOf]; omega
    · as_aux_lemma =>
        have O5c4 : w5.cell? ⟨bo, 4, none⟩ = some (.int .i64 oa) := O5.out.cell 4
        have O5c5 : w5.cell? ⟨bo, 5, none⟩ = some (.int .i64 ob) := O5.out.cell 5
        have O5c6 : w5.cell? ⟨bo, 6, none⟩ = some (.int .i64 lev) := O5.out.cell 6
        have O5c7 : w5.cell? ⟨bo, 7, none⟩ = some (.int .i64 most) := O5.out.cell 7
        obtain ⟨z, hz⟩ : ∃ z, gv.linkB oa ob lev = z := ⟨_, rfl⟩
        have PD := Lib.hid (P5.out.on ((Below.refl w5.heap.size w5).drew))
        have BD := Lib.hid (show Below B w w5.drew from B5.out.drew)
        have PC := Lib.hid (link_is PD.out.code oa ob lev most hmost)
        have RCC := Lib.hid (show ∀ w7, Kept F w5.drew w7 → Below B w w7 → Calls Try.prog 25 #[.pointer (some ⟨h, 0, none⟩), .int .i64 oa, .int .i64 ob, .int .i64 lev, .int .i64 most] w7 fun e w' => e = .returned (.bool z) ∧ DPost 30 [] B lo2 h G (gv.link oa ob lev most) w7 w' from fun w7 k7 b7 => by
          have h9 := dlink_is (PD.out.ref1 k7) oa ob lev most
          rw [hz] at h9
          exact h9)
        unfold LinkPost at PC
        rw [hz] at PC
        clear hz
        have SW5 := Lib.hid (show (fun X : World => X.cell? ⟨bo, 4, none⟩ = some (.int .i64 oa) ∧ X.cell? ⟨bo, 5, none⟩ = some (.int .i64 ob) ∧ X.cell? ⟨bo, 6, none⟩ = some (.int .i64 lev) ∧ X.cell? ⟨bo, 7, none⟩ = some (.int .i64 most)) w5.drew from ⟨(show Blk w5.drew bo 66 _ from O5.out).cell 4, (show Blk w5.drew bo 66 _ from O5.out).cell 5, (show Blk w5.drew bo 66 _ from O5.out).cell 6, (show Blk w5.drew bo 66 _ from O5.out).cell 7⟩)
        go_wp2_with (fail)
        go_region_held3 (fun X => X.cell? ⟨bo, 4, none⟩ = some (.int .i64 oa) ∧ X.cell? ⟨bo, 5, none⟩ = some (.int .i64 ob) ∧ X.cell? ⟨bo, 6, none⟩ = some (.int .i64 lev) ∧ X.cell? ⟨bo, 7, none⟩ = some (.int .i64 most))
          (first
            | (go_keep; done)
            | exact SW5.out
            | exact SW7.out
            | exact SW8.out)
          (first
          | (go_at_call 18; go_split_ands; refine PC.out.mono ?_; rintro e w7 ⟨rfl, F7, h7, k7, g7⟩; have B7 := Lib.hid (PD.out.below1 k7 BD.out); have P7 := Lib.hid h7; have K7 := Lib.hid k7; have G7 := Lib.hid g7; have O7 := Lib.hid (k7.blk (show Blk (w5.drew) bo 66 _ from O5.out) (fun hh => HPo.out _ (.inl hh) rfl)); have SW7 := Lib.hid (show (fun X : World => X.cell? ⟨bo, 4, none⟩ = some (.int .i64 oa) ∧ X.cell? ⟨bo, 5, none⟩ = some (.int .i64 ob) ∧ X.cell? ⟨bo, 6, none⟩ = some (.int .i64 lev) ∧ X.cell? ⟨bo, 7, none⟩ = some (.int .i64 most)) w7 from ⟨O7.out.cell 4, O7.out.cell 5, O7.out.cell 6, O7.out.cell 7⟩); clear h7 k7 g7)
          | (go_at_call 25; go_split_ands; refine (RCC.out w7 K7.out B7.out).mono ?_; rintro e w8 ⟨rfl, G8, h8, k8, g8⟩; have P8 := Lib.hid (PD.out.step G7.out P7.out k8 g8 h8); have B8 := Lib.hid (PD.out.below K7.out k8 BD.out); have O8 := k8.blk O7.out (fun hh => HPo.out _ (.inr hh) rfl); have SW8 := Lib.hid (show (fun X : World => X.cell? ⟨bo, 4, none⟩ = some (.int .i64 oa) ∧ X.cell? ⟨bo, 5, none⟩ = some (.int .i64 ob) ∧ X.cell? ⟨bo, 6, none⟩ = some (.int .i64 lev) ∧ X.cell? ⟨bo, 7, none⟩ = some (.int .i64 most)) w8 from ⟨O8.cell 4, O8.cell 5, O8.cell 6, O8.cell 7⟩); clear h8 k8 g8 O8))
        all_goals
          clear P5 B5 O5 PD BD P7 B7 K7 G7 O7 PC RCC SW5 SW7 SW8
          obtain ⟨za, zn, zc, hz0, hzn, hz1, hz2, -⟩ := P8.out.ref.seen
          have LC := Lib.hid (fun m => (len_is (P8.out.on (below_draws (Below.refl _ _) m)).code).mono (fun e w' hh => show e = Ending.returned (.int .i64 (zn : Int)) ∧ w' = w8.drewN m from ⟨by rw [hzn.out]; exact hh.1, hh.2.symm⟩))
          have M8 := Lib.hid (show (gv.link oa ob lev most).L.length ≤ i + 1 ∧ (gv.link oa ob lev most).m = gv0.m from by have := HM.out; rw [link_len, link_m]; omega)
          clear hzn
          go_wp2_with (fail)
          go_quiet (first | (go_at_call 13; refine Calls.quiet_of_same (LC.out _)))
          go_wp2
          go_roundw
          case rel => exact ⟨i + 1, _, _, _, by go_num, by omega, P8.out.on (below_draws (Below.refl _ _) _), below_draws B8.out _, M8.out⟩
          case measure => simp [intOf]; omega
    · as_aux_lemma =>
        have O5c4 : w5.cell? ⟨bo, 4, none⟩ = some (.int .i64 oa) := O5.out.cell 4
        obtain ⟨z, hz⟩ : ∃ z, gv.thereB oa = z := ⟨_, rfl⟩
        have PC := Lib.hid (until_any w5 lo g F gv P5.out.code oa 7 (by decide) z hz)
        have HTH := Lib.hid (show gv.onB oa 0 = z from by rw [← P5.out.code.right.there, hz])
        have HZ := Lib.hid hz
        clear hz
        go_wp2_with (fail)
        refine PC.out.mono ?_
        rintro e w7 ⟨rfl, h7, k7⟩
        have R7 := Lib.hid (P5.out.ref1 k7)
        have C7 := Lib.hid h7
        have B7 := Lib.hid (P5.out.below1 k7 B5.out)
        have O7 := Lib.hid (k7.blk O5.out (fun hh => HPo.out _ (.inl hh) rfl))
        have RCC := Lib.hid (dthere_is R7.out oa 0 z HTH.out)
        have O7c4 : w7.cell? ⟨bo, 4, none⟩ = some (.int .i64 oa) := O7.out.cell 4
        have AP := Lib.hid P5.out.apart
        have HBL := Lib.hid P5.out.hB
        have OBL7 := O7.out.lt
        clear h7 k7 PC P5 B5 O5
        go_wp2_with (fail)
        refine RCC.out.mono ?_
        rintro e w8 ⟨rfl, hw8⟩
        subst hw8
        cases z with
        | false =>
          have e0 : gv.till oa 7 = gv := by
            unfold GraphV.till
            rw [if_neg (by rw [HZ.out]; simp)]
          rw [e0] at C7
          have P8 := Lib.hid (show BothG B lo lo2 g h F G gv w7 from ⟨C7.out, R7.out, AP.out, HBL.out⟩)
          have B8 := B7
          obtain ⟨za, zn, zc, hz0, hzn, hz1, hz2, -⟩ := P8.out.ref.seen
          have LC := Lib.hid (fun m => (len_is (P8.out.on (below_draws (Below.refl _ _) m)).code).mono (fun e w' hh => show e = Ending.returned (.int .i64 (zn : Int)) ∧ w' = w7.drewN m from ⟨by rw [hzn.out]; exact hh.1, hh.2.symm⟩))
          clear hzn e0 C7 R7 AP HBL RCC
          have M8 := Lib.hid (show gv.L.length ≤ i + 1 ∧ gv.m = gv0.m from by have := HM.out; omega)
          go_wp2_with (fail)
          go_quiet (first | (go_at_call 13; refine Calls.quiet_of_same (LC.out _)))
          go_wp2
          go_roundw
          case rel => exact ⟨i + 1, _, _, _, by go_num, by omega, P8.out.on (below_draws (Below.refl _ _) _), below_draws B8.out _, M8.out⟩
          case measure => simp [intOf]; omega
        | true =>
          have hzb := HZ.out
          unfold GraphV.thereB at hzb
          have hzb := of_decide_eq_true hzb
          obtain ⟨j, rfl⟩ : ∃ j : Nat, oa = (j : Int) := ⟨oa.toNat, by omega⟩
          obtain ⟨gu, gn, gc, til, t1, t2, t3, t4, t5, t6, t7, t8, t9⟩ := DGraphIs.tilAt R7.out j (by omega) 7 (by decide)
          have e4 : (w7.drew.setCell ⟨gu, j * 6 + 4, none⟩ (.int .u64 ((7 : Nat) : Int))) = (w7.setCell ⟨gu, j * 6 + 4, none⟩ (.int .u64 ((7 : Nat) : Int))).drew := rfl
          have hbd : Below w7.heap.size w7 w7.drew := (Below.refl _ _).drew
          obtain ⟨gu', gn', gc', til', u1, u2, u3, u4, u5, u6, u7, u8, u9⟩ := DGraphIs.tilAt (R7.out.on hbd) j (by omega) 7 (by decide)
          obtain ⟨rfl, rfl, rfl⟩ : gu' = gu ∧ gn' = gn ∧ gc' = gc := by
            have e : w7.drew.cell? ⟨h, 1, none⟩ = w7.cell? ⟨h, 1, none⟩ := rfl
            rw [e, t1] at u1
            simp only [Option.some.injEq, Value.slice.injEq, Addr.mk.injEq] at u1
            exact ⟨u1.1.1.symm, u1.2.1.symm, u1.2.2.symm⟩
          have P8 := Lib.hid (show BothG B lo lo2 g h F G (gv.till (j : Int) 7) (w7.setCell ⟨gu', j * 6 + 4, none⟩ (.int .u64 7)).drew from ⟨(C7.out.on hbd).kept u9 AP.out.symm, u8, AP.out, HBL.out⟩)
          have B8 := Lib.hid (show Below B w (w7.setCell ⟨gu', j * 6 + 4, none⟩ (.int .u64 7)).drew from (B7.out.drew).trans (u9.below (fun x hx => Nat.le_trans R7.out.hB (R7.out.lt x hx).1) (by have := R7.out.hB; have := (R7.out.lt h (by obtain ⟨_, _, _, _, _, _, _, q⟩ := R7.out.seen; exact q)); show B ≤ w7.heap.size; omega)))
          have hjw : (j : Int) < (gn' : Int) := by omega
          have hlh : h < w7.heap.size := by obtain ⟨_, _, _, _, _, _, q, _⟩ := R7.out.seen; exact q
          have t5' : w7.drew.cell? ⟨gu', j * 6 + 4, none⟩ = some (.int .u64 (til : Int)) := t5
          have t6' : w7.drew.frozen? ⟨gu', j * 6 + 4, none⟩ = false := t6
          have t4' : gu' < w7.drew.heap.size := t4
          clear u1 u2 u3 u4 u5 u6 u7 u8 u9 e4 hbd t2 t7 t8 t9 hzb C7 R7 AP HBL RCC
          go_wp2_with (fail)
          go_region_with (fail)
          all_goals
            obtain ⟨w8, hw8⟩ : ∃ w8, (w7.setCell ⟨gu', j * 6 + 4, none⟩ (.int .u64 7)).drew = w8 := ⟨_, rfl⟩
            rw [hw8] at P8 B8 ⊢
            clear hw8 t1 t4 t5 t6 t5' t6' t4' hlh
            obtain ⟨za, zn, zc, hz0, hzn, hz1, hz2, -⟩ := P8.out.ref.seen
            have LC := Lib.hid (fun m => (len_is (P8.out.on (below_draws (Below.refl _ _) m)).code).mono (fun e w' hh => show e = Ending.returned (.int .i64 (zn : Int)) ∧ w' = w8.drewN m from ⟨by rw [hzn.out]; exact hh.1, hh.2.symm⟩))
            have M8 := Lib.hid (show (gv.till (j : Int) 7).L.length ≤ i + 1 ∧ (gv.till (j : Int) 7).m = gv0.m from by have := HM.out; rw [till_len, till_m]; omega)
            clear hzn
            go_wp2_with (fail)
            go_quiet (first | (go_at_call 13; refine Calls.quiet_of_same (LC.out _)))
            go_wp2
            go_roundw
            case rel => exact ⟨i + 1, _, _, _, by go_num, by omega, P8.out.on (below_draws (Below.refl _ _) _), below_draws B8.out _, M8.out⟩
            case measure => simp [intOf]; omega
    · as_aux_lemma =>
        have O5c2 : w5.cell? ⟨bo, 2, none⟩ = some (.slice x.pv.1 x.pv.2.1 x.pv.2.2) := O5.out.cell 2
        have O5c8 : w5.cell? ⟨bo, 8, none⟩ = some (.slice la ln lc) := O5.out.cell 8
        have HAL := Lib.hid (show (gv.near x.vec l).length ≤ 1000000 from by
          have h1 := gv.near_len x.vec l
          have h2 := ((OPF.out _ B5.out).2.2.1).len
          omega)
        obtain ⟨ANS, hans⟩ : ∃ ANS, gv.near x.vec l = ANS := ⟨_, rfl⟩
        have C1 := Lib.hid (fun (X : World) (hb : Below w5.heap.size w5 X) => show Calls Try.prog 17 _ X (fun e w1 => ∃ a1 n1 c1, e = .returned (.slice a1 n1 c1) ∧ HReads w1 a1 n1 ANS ∧ Below X.heap.size X w1) from by
          have B9 := B5.out.trans (hb.mono P5.out.size)
          have P9 := (P5.out.on hb).code
          have RQ := Rd.ints ((OPF.out _ B9).2.1).hvec rfl
          have RL := (OPF.out _ B9).2.2.1
          refine (near_is P9 x.pv.1 x.pv.2.1 x.pv.2.2 x.vec RQ la ln lc l RL (by omega)).mono fun e w1 hh => ?_
          rw [← hans]
          exact hh.parts HAL.out)
        have C2 := Lib.hid (fun (X : World) (hb : Below w5.heap.size w5 X) => show Calls Try.prog 28 _ X (fun e w1 => ∃ a1 n1 c1, e = .returned (.slice a1 n1 c1) ∧ HReads w1 a1 n1 ANS ∧ Below X.heap.size X w1) from by
          have B9 := B5.out.trans (hb.mono P5.out.size)
          have R9 := (P5.out.on hb).ref
          have RQ := Rd.ints ((OPF.out _ B9).2.1).hvec rfl
          have RL := (OPF.out _ B9).2.2.1
          refine (dnear_is R9 x.pv.1 x.pv.2.1 x.pv.2.2 x.vec RQ la ln lc l RL (by omega)).mono fun e w1 hh => ?_
          rw [← hans]
          exact hh.parts HAL.out)
        have HS := Lib.hid (fun (X : World) (hb : Below w5.heap.size w5 X) => show X.cell? ⟨bo, 2, none⟩ = some (.slice x.pv.1 x.pv.2.1 x.pv.2.2) ∧ X.cell? ⟨bo, 8, none⟩ = some (.slice la ln lc) ∧ Below w5.heap.size w5 X from by
          have O9 := (Kept.of_below (F := []) hb (Nat.le_refl _)).blk O5.out (by simp)
          exact ⟨O9.cell 2, O9.cell 8, hb⟩)
        clear hans HAL
        go_wp2_with (fail)
        go_region_held3 (fun X => X.cell? ⟨bo, 2, none⟩ = some (.slice x.pv.1 x.pv.2.1 x.pv.2.2) ∧ X.cell? ⟨bo, 8, none⟩ = some (.slice la ln lc) ∧ Below w5.heap.size w5 X)
          (first
            | (go_keep; done)
            | exact HS.out _ (Below.refl _ _)
            | exact HS.out _ (Below.refl _ _).drew
            | (go_split_ands; exact HS.out _ (below_on (by assumption) hbel)))
          (first
            | (go_at_call 17; go_split_ands; refine (C1.out _ (by assumption)).mono ?_; rintro e w1 ⟨a1, n1, c1, rfl, hr1, hbel⟩; have HR1 := Lib.hid hr1; clear hr1)
            | (go_at_call 28; go_split_ands; refine (C2.out _ (by assumption)).mono ?_; rintro e w2 ⟨a2, n2, c2, rfl, hr2, hbel⟩; have HR2 := Lib.hid hr2; have HR1b := Lib.hid (HR1.out.below (Nat.le_refl _) hbel); clear hr2)
            | (go_at_call 16; go_split_ands; refine (same_any a1 a2 n1 n2 c1 c2 _ _ _ HR1b.out HR2.out).mono ?_; rintro e w3 ⟨rfl, hbel⟩))
        all_goals
          rename_i hH
          rename World => w8
          have P8 := Lib.hid (P5.out.on (show Below w5.heap.size w5 w8 from hH.2.2))
          have B8 := Lib.hid (B5.out.trans ((show Below w5.heap.size w5 w8 from hH.2.2).mono P5.out.size))
          clear hH hbel P5 B5 O5 C1 C2 HS
          obtain ⟨za, zn, zc, hz0, hzn, hz1, hz2, -⟩ := P8.out.ref.seen
          have LC := Lib.hid (fun m => (len_is (P8.out.on (below_draws (Below.refl _ _) m)).code).mono (fun e w' hh => show e = Ending.returned (.int .i64 (zn : Int)) ∧ w' = w8.drewN m from ⟨by rw [hzn.out]; exact hh.1, hh.2.symm⟩))
          have M8 := Lib.hid (show (gv).L.length ≤ i + 1 ∧ (gv).m = gv0.m from by have := HM.out; omega)
          clear hzn
          go_wp2_with (fail)
          go_quiet (first | (go_at_call 13; refine Calls.quiet_of_same (LC.out _)))
          go_wp2
          go_roundw
          case rel => exact ⟨i + 1, _, _, _, by go_num, by omega, P8.out.on (below_draws (Below.refl _ _) _), below_draws B8.out _, M8.out⟩
          case measure => simp [intOf]; omega
    · as_aux_lemma =>
        have O5c2 : w5.cell? ⟨bo, 2, none⟩ = some (.slice x.pv.1 x.pv.2.1 x.pv.2.2) := O5.out.cell 2
        have O5c8 : w5.cell? ⟨bo, 8, none⟩ = some (.slice la ln lc) := O5.out.cell 8
        have O5c7 : w5.cell? ⟨bo, 7, none⟩ = some (.int .i64 most) := O5.out.cell 7
        have HAL := Lib.hid (show (gv.choose x.vec l most.toNat).length ≤ 1000000 ∧ ∀ j ∈ (gv.choose x.vec l most.toNat), j ≤ 1000000 from by
          have h1 := gv.choose_is x.vec l most.toNat
          have h2 := nodup_le gv.L.length _ h1.1 (fun y hy => lv_len (h1.2.2 y hy).1)
          have := HG100.out
          refine ⟨by omega, fun j hj => ?_⟩
          have := lv_len (h1.2.2 j hj).1
          omega)
        obtain ⟨ANS, hans⟩ : ∃ ANS, gv.choose x.vec l most.toNat = ANS := ⟨_, rfl⟩
        have C1 := Lib.hid (fun (X : World) (hb : Below w5.heap.size w5 X) => show Calls Try.prog 22 _ X (fun e w1 => ∃ a1 n1 c1, e = .returned (.slice a1 n1 c1) ∧ Reads .i64 w1 a1 n1 (natsI ANS) ∧ Below X.heap.size X w1) from by
          have B9 := B5.out.trans (hb.mono P5.out.size)
          have P9 := (P5.out.on hb).code
          have RQ := Rd.ints ((OPF.out _ B9).2.1).hvec rfl
          have RL := (OPF.out _ B9).2.2.1
          refine (choose_is11 P9 x.pv.1 x.pv.2.1 x.pv.2.2 x.vec RQ la ln lc l RL (by omega) most hmost).mono fun e w1 hh => ?_
          rw [← hans]
          exact hh.parts HAL.out.1 HAL.out.2)
        have C2 := Lib.hid (fun (X : World) (hb : Below w5.heap.size w5 X) => show Calls Try.prog 29 _ X (fun e w1 => ∃ a1 n1 c1, e = .returned (.slice a1 n1 c1) ∧ Reads .i64 w1 a1 n1 (natsI ANS) ∧ Below X.heap.size X w1) from by
          have B9 := B5.out.trans (hb.mono P5.out.size)
          have R9 := (P5.out.on hb).ref
          have RQ := Rd.ints ((OPF.out _ B9).2.1).hvec rfl
          have RL := (OPF.out _ B9).2.2.1
          refine (dchoose_is R9 x.pv.1 x.pv.2.1 x.pv.2.2 x.vec RQ la ln lc l RL (by omega) most).mono fun e w1 hh => ?_
          rw [← hans]
          exact hh.parts HAL.out.1 HAL.out.2)
        have HS := Lib.hid (fun (X : World) (hb : Below w5.heap.size w5 X) => show X.cell? ⟨bo, 2, none⟩ = some (.slice x.pv.1 x.pv.2.1 x.pv.2.2) ∧ X.cell? ⟨bo, 8, none⟩ = some (.slice la ln lc) ∧ X.cell? ⟨bo, 7, none⟩ = some (.int .i64 most) ∧ Below w5.heap.size w5 X from by
          have O9 := (Kept.of_below (F := []) hb (Nat.le_refl _)).blk O5.out (by simp)
          exact ⟨O9.cell 2, O9.cell 8, O9.cell 7, hb⟩)
        clear hans HAL
        go_wp2_with (fail)
        go_region_held3 (fun X => X.cell? ⟨bo, 2, none⟩ = some (.slice x.pv.1 x.pv.2.1 x.pv.2.2) ∧ X.cell? ⟨bo, 8, none⟩ = some (.slice la ln lc) ∧ X.cell? ⟨bo, 7, none⟩ = some (.int .i64 most) ∧ Below w5.heap.size w5 X)
          (first
            | (go_keep; done)
            | exact HS.out _ (Below.refl _ _)
            | exact HS.out _ (Below.refl _ _).drew
            | (go_split_ands; exact HS.out _ (below_on (by assumption) hbel)))
          (first
            | (go_at_call 22; go_split_ands; refine (C1.out _ (by assumption)).mono ?_; rintro e w1 ⟨a1, n1, c1, rfl, hr1, hbel⟩; have HR1 := Lib.hid hr1; clear hr1)
            | (go_at_call 29; go_split_ands; refine (C2.out _ (by assumption)).mono ?_; rintro e w2 ⟨a2, n2, c2, rfl, hr2, hbel⟩; have HR2 := Lib.hid hr2; have HR1b := Lib.hid (HR1.out.below (Nat.le_refl _) hbel); clear hr2)
            | (go_at_call 21; go_split_ands; refine (ints_any _ a1 n1 c1 _ HR1b.out a2 n2 c2 _ HR2.out true (by simp)).mono ?_; rintro e w3 ⟨rfl, hbel⟩))
        all_goals
          rename_i hH
          rename World => w8
          have P8 := Lib.hid (P5.out.on (show Below w5.heap.size w5 w8 from hH.2.2.2))
          have B8 := Lib.hid (B5.out.trans ((show Below w5.heap.size w5 w8 from hH.2.2.2).mono P5.out.size))
          clear hH hbel P5 B5 O5 C1 C2 HS
          obtain ⟨za, zn, zc, hz0, hzn, hz1, hz2, -⟩ := P8.out.ref.seen
          have LC := Lib.hid (fun m => (len_is (P8.out.on (below_draws (Below.refl _ _) m)).code).mono (fun e w' hh => show e = Ending.returned (.int .i64 (zn : Int)) ∧ w' = w8.drewN m from ⟨by rw [hzn.out]; exact hh.1, hh.2.symm⟩))
          have M8 := Lib.hid (show (gv).L.length ≤ i + 1 ∧ (gv).m = gv0.m from by have := HM.out; omega)
          clear hzn
          go_wp2_with (fail)
          go_quiet (first | (go_at_call 13; refine Calls.quiet_of_same (LC.out _)))
          go_wp2
          go_roundw
          case rel => exact ⟨i + 1, _, _, _, by go_num, by omega, P8.out.on (below_draws (Below.refl _ _) _), below_draws B8.out _, M8.out⟩
          case measure => simp [intOf]; omega
    · as_aux_lemma =>
        have O5c2 : w5.cell? ⟨bo, 2, none⟩ = some (.slice x.pv.1 x.pv.2.1 x.pv.2.2) := O5.out.cell 2
        have O5c8 : w5.cell? ⟨bo, 8, none⟩ = some (.slice la ln lc) := O5.out.cell 8
        have O5c7 : w5.cell? ⟨bo, 7, none⟩ = some (.int .i64 most) := O5.out.cell 7
        have O5c6 : w5.cell? ⟨bo, 6, none⟩ = some (.int .i64 lev) := O5.out.cell 6
        have HAL := Lib.hid (show (gv.walk x.vec l most lev).length ≤ 1000000 from by
          have h1 := walk_len gv x.vec l most lev
          omega)
        obtain ⟨ANS, hans⟩ : ∃ ANS, gv.walk x.vec l most lev = ANS := ⟨_, rfl⟩
        have C1 := Lib.hid (fun (X : World) (hb : Below w5.heap.size w5 X) => show Calls Try.prog 15 _ X (fun e w1 => ∃ a1 n1 c1, e = .returned (.slice a1 n1 c1) ∧ HReads w1 a1 n1 ANS ∧ Below X.heap.size X w1) from by
          have B9 := B5.out.trans (hb.mono P5.out.size)
          have P9 := (P5.out.on hb).code
          have RQ := Rd.ints ((OPF.out _ B9).2.1).hvec rfl
          have RL := (OPF.out _ B9).2.2.1
          refine (walk_is P9 x.pv.1 x.pv.2.1 x.pv.2.2 x.vec RQ la ln lc l RL (by omega) most lev).mono fun e w1 hh => ?_
          rw [← hans]
          exact hh.parts HAL.out)
        have C2 := Lib.hid (fun (X : World) (hb : Below w5.heap.size w5 X) => show Calls Try.prog 30 _ X (fun e w1 => ∃ a1 n1 c1, e = .returned (.slice a1 n1 c1) ∧ HReads w1 a1 n1 ANS ∧ Below X.heap.size X w1) from by
          have B9 := B5.out.trans (hb.mono P5.out.size)
          have R9 := (P5.out.on hb).ref
          have RQ := Rd.ints ((OPF.out _ B9).2.1).hvec rfl
          have RL := (OPF.out _ B9).2.2.1
          refine (dwalk_is R9 x.pv.1 x.pv.2.1 x.pv.2.2 x.vec RQ la ln lc l RL (by omega) most lev).mono fun e w1 hh => ?_
          rw [← hans]
          exact hh.parts HAL.out)
        have HS := Lib.hid (fun (X : World) (hb : Below w5.heap.size w5 X) => show X.cell? ⟨bo, 2, none⟩ = some (.slice x.pv.1 x.pv.2.1 x.pv.2.2) ∧ X.cell? ⟨bo, 8, none⟩ = some (.slice la ln lc) ∧ X.cell? ⟨bo, 7, none⟩ = some (.int .i64 most) ∧ X.cell? ⟨bo, 6, none⟩ = some (.int .i64 lev) ∧ Below w5.heap.size w5 X from by
          have O9 := (Kept.of_below (F := []) hb (Nat.le_refl _)).blk O5.out (by simp)
          exact ⟨O9.cell 2, O9.cell 8, O9.cell 7, O9.cell 6, hb⟩)
        clear hans HAL
        go_wp2_with (fail)
        go_region_held3 (fun X => X.cell? ⟨bo, 2, none⟩ = some (.slice x.pv.1 x.pv.2.1 x.pv.2.2) ∧ X.cell? ⟨bo, 8, none⟩ = some (.slice la ln lc) ∧ X.cell? ⟨bo, 7, none⟩ = some (.int .i64 most) ∧ X.cell? ⟨bo, 6, none⟩ = some (.int .i64 lev) ∧ Below w5.heap.size w5 X)
          (first
            | (go_keep; done)
            | exact HS.out _ (Below.refl _ _)
            | exact HS.out _ (Below.refl _ _).drew
            | (go_split_ands; exact HS.out _ (below_on (by assumption) hbel)))
          (first
            | (go_at_call 15; go_split_ands; refine (C1.out _ (by assumption)).mono ?_; rintro e w1 ⟨a1, n1, c1, rfl, hr1, hbel⟩; have HR1 := Lib.hid hr1; clear hr1)
            | (go_at_call 30; go_split_ands; refine (C2.out _ (by assumption)).mono ?_; rintro e w2 ⟨a2, n2, c2, rfl, hr2, hbel⟩; have HR2 := Lib.hid hr2; have HR1b := Lib.hid (HR1.out.below (Nat.le_refl _) hbel); clear hr2)
            | (go_at_call 16; go_split_ands; refine (same_any a1 a2 n1 n2 c1 c2 _ _ _ HR1b.out HR2.out).mono ?_; rintro e w3 ⟨rfl, hbel⟩))
        all_goals
          rename_i hH
          rename World => w8
          have P8 := Lib.hid (P5.out.on (show Below w5.heap.size w5 w8 from hH.2.2.2.2))
          have B8 := Lib.hid (B5.out.trans ((show Below w5.heap.size w5 w8 from hH.2.2.2.2).mono P5.out.size))
          clear hH hbel P5 B5 O5 C1 C2 HS
          obtain ⟨za, zn, zc, hz0, hzn, hz1, hz2, -⟩ := P8.out.ref.seen
          have LC := Lib.hid (fun m => (len_is (P8.out.on (below_draws (Below.refl _ _) m)).code).mono (fun e w' hh => show e = Ending.returned (.int .i64 (zn : Int)) ∧ w' = w8.drewN m from ⟨by rw [hzn.out]; exact hh.1, hh.2.symm⟩))
          have M8 := Lib.hid (show (gv).L.length ≤ i + 1 ∧ (gv).m = gv0.m from by have := HM.out; omega)
          clear hzn
          go_wp2_with (fail)
          go_quiet (first | (go_at_call 13; refine Calls.quiet_of_same (LC.out _)))
          go_wp2
          go_roundw
          case rel => exact ⟨i + 1, _, _, _, by go_num, by omega, P8.out.on (below_draws (Below.refl _ _) _), below_draws B8.out _, M8.out⟩
          case measure => simp [intOf]; omega
end Go.Proofs.Ytdfpfgkfmjehiaa
