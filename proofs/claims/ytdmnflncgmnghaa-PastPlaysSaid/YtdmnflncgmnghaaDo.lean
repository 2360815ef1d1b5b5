/-
  PastPlays holds: whatever is put, cut, swept and asked, each answer is the document's.
-/
import Derived.Test.YtdmnflncgmnghaaRows
import Derived.Test.YtdmnflncgmnghaaDn
namespace Go.Proofs.Ytdmnflncgmnghaa
open Go.ChangeShapes Go.WideShapes Go.ChangeAt Go.RowKit

/-- The program's past and the document's, beside each other, saying the same. -/
structure Both (B lo g h : Nat) (F G : List Nat) (p : PastV) (w : World) : Prop where
  code : PastIs w lo g F p
  ref : RefIs w B lo h G p
  apart : Apart F G
theorem Both.on {B lo g h : Nat} {F G : List Nat} {p : PastV} {w w' : World} (b : Both B lo g h F G p w) (hb : Below w.heap.size w w') : Both B lo g h F G p w' := ⟨b.code.on hb, b.ref.on hb, b.apart⟩
/-- One of both turns, then the other. -/
theorem Both.step {B lo g h : Nat} {F G F' G' : List Nat} {p q : PastV} {w w1 w2 : World} (b : Both B lo g h F G p w) (g1 : Grows w F F') (c1 : PastIs w1 lo g F' q) (k2 : Kept G w1 w2) (g2 : Grows w1 G G') (r2 : RefIs w2 B lo h G' q) : Both B lo g h F' G' q w2 := by
  have a1 : Apart F' G := b.apart.grows g1 (fun x hx => (b.ref.lt x hx).2)
  have a2 : Apart G' F' := a1.symm.grows g2 (fun x hx => (c1.lt x hx).2)
  exact ⟨c1.kept k2 (fun x hx hxF => a1 x hxF hx), r2, a2.symm⟩
theorem Both.ref1 {B lo g h : Nat} {F G : List Nat} {p : PastV} {w w1 : World} (b : Both B lo g h F G p w) (k1 : Kept F w w1) : RefIs w1 B lo h G p :=
  b.ref.kept k1 (fun x hx => ⟨b.apart x hx, Nat.le_trans b.ref.hB (b.code.lt x hx).1⟩)
theorem Both.below {B lo g h : Nat} {F G : List Nat} {p : PastV} {w0 w w1 w2 : World} (b : Both B lo g h F G p w) (k1 : Kept F w w1) (k2 : Kept G w1 w2) (h0 : Below B w0 w) : Below B w0 w2 := by
  have hlo := b.ref.hB
  have hs := b.code.size1
  refine (h0.trans (k1.below (B := B) (fun x hx => Nat.le_trans hlo (b.code.lt x hx).1) (by omega))).trans (k2.below (fun x hx => Nat.le_trans hlo (b.ref.lt x hx).1) ?_)
  have := k1.size
  omega
set_option maxRecDepth 100000 in
set_option maxHeartbeats 25600000 in
theorem plays_walk (a : Option Addr) (n c : Nat) (xs : List shOp.T) (w : World) (hx : Rd (· < w.heap.size) w shOps [.slice a n c] xs) :
    Calls Try.prog 3 #[.slice a n c] w fun e w' => e = .returned (.bool true) ∧ Below w.heap.size w w' := by
  have HX := Lib.hid hx
  clear hx
  go_enter Try.func3, Try.ntmps3
  go_wp2_with (fail)
  refine (alive8 w).mono ?_
  rintro e w1 ⟨rfl, hb1⟩
  go_wp2_with (fail)
  refine (new_is w1).mono ?_
  rintro e w2 ⟨F2, rfl, hb2, h2⟩
  have hs1 := hb1.size
  have hs2 := hb2.size
  obtain ⟨W3, hW3⟩ : ∃ W3, w2.alloc (.cells #[.slice none 0 0, .int .u64 0, .int .u64 0, .slice none 0 0] 31) = W3 := ⟨_, rfl⟩
  have hb3 : Below w2.heap.size w2 W3 := by rw [← hW3]; exact (Below.refl _ _).alloc (Nat.le_refl _) _
  have B2 := Lib.hid (below_on (below_on hb1 hb2) hb3)
  have H2 := Lib.hid (show Both w.heap.size w1.heap.size w1.heap.size w2.heap.size F2 [w2.heap.size] PastV.new W3 from by
    have r := RefIs.new (w := w2) (B := w.heap.size) (Nat.le_trans hs1 hs2)
    rw [hW3] at r
    obtain ⟨u, k, L, last, floor, kept, q1, q2, q3⟩ := r
    refine ⟨h2.on hb3, ⟨u, k, L, last, floor, kept, ⟨q1.blk, q1.rows.mono hs2, q1.each, q1.vers.mono hs2, q1.hlast, q1.hfloor, q1.hkept, q1.hL, q1.hK, Nat.le_trans hs2 q1.glo, hs1⟩, q2, q3⟩, fun x hx hx2 => ?_⟩
    have := (h2.lt x hx).2
    have : x = w2.heap.size := by simpa using hx2
    omega)
  clear hb1 hb2 hb3 h2
  go_wp2_with (fail)
  go_loopw [5] (fun s5 wr => ∃ (i : Nat) (p : PastV) (F G : List Nat), s5 = .int .i64 i ∧ i ≤ 120 ∧ Hid (Both w.heap.size w1.heap.size w1.heap.size w2.heap.size F G p wr) ∧ Hid (Below w.heap.size w wr)) (fun s5 _ => 120 - (intOf s5).toNat)
  case atStart => exact ⟨0, PastV.new, F2, _, rfl, by omega, H2.out, B2.out⟩
  case round =>
    clear H2 B2 hW3
    obtain ⟨i, p, F, G, rfl, hi, HP, HB⟩ := hrel
    by_cases hin : i < n
    rotate_left
    · go_wp2
      go_ret
      exact ⟨rfl, HB.out⟩
    by_cases hi40 : i < 120
    rotate_left
    · have hd1 : decide ((i : Int) < 120) = false := decide_eq_false (by omega)
      go_wp2
      go_ret
      exact ⟨rfl, HB.out⟩
    have hd1 : decide ((i : Int) < 120) = true := decide_eq_true (by omega)
    obtain ⟨b, off, k, ah, x, ka, kn, kc, keep, rfl, hbl, hk, ha1, ha2, hkn, OPF⟩ := rd_op_in2 HX.out i hin
    obtain ⟨hb0, -, -, m0, m1, m2, m3, m4, m5⟩ := OPF.out _ HB.out
    obtain ⟨W4, hW4⟩ : ∃ W4, wr.alloc (.cells #[.int .u8 (k : Int), .int .i8 ah, .int .u32 (x.id : Int), .slice x.pv.1 x.pv.2.1 x.pv.2.2, .slice x.pt.1 x.pt.2.1 x.pt.2.2, .slice ka kn kc] 39) = W4 := ⟨_, rfl⟩
    obtain ⟨ob, hob⟩ : ∃ ob, wr.heap.size = ob := ⟨_, rfl⟩
    have hb4 : Below wr.heap.size wr W4 := by rw [← hW4]; exact (Below.refl _ _).alloc (Nat.le_refl _) _
    have O4 := Lib.hid (show Blk W4 ob 39 [.int .u8 (k : Int), .int .i8 ah, .int .u32 (x.id : Int), .slice x.pv.1 x.pv.2.1 x.pv.2.2, .slice x.pt.1 x.pt.2.1 x.pt.2.2, .slice ka kn kc] from by rw [← hW4, ← hob]; exact Blk.new _ _ _)
    have HPo := Lib.hid (show ∀ x, x ∈ F ∨ x ∈ G → x ≠ ob from fun x hx => by
      rcases hx with hx | hx
      · have := (HP.out.code.lt x hx).2; omega
      · have := (HP.out.ref.lt x hx).2; omega)
    have P4 := Lib.hid (HP.out.on hb4)
    have B4 := Lib.hid (below_on HB.out hb4)
    have q2 : W4.cell? ⟨ob, 2, none⟩ = some (.int .u32 (x.id : Int)) := O4.out.cell 2
    have q3 : W4.cell? ⟨ob, 3, none⟩ = some (.slice x.pv.1 x.pv.2.1 x.pv.2.2) := O4.out.cell 3
    have q4 : W4.cell? ⟨ob, 4, none⟩ = some (.slice x.pt.1 x.pt.2.1 x.pt.2.2) := O4.out.cell 4
    have hobl := O4.out.lt
    clear hb4 HP HB
    go_wp2_with (fail)
    refine (small_any w.heap.size x W4 ((OPF.out _ B4.out).2.1) B4.out.size).mono ?_
    rintro e w5 ⟨⟨gs, rfl⟩, hb5⟩
    have P5 := Lib.hid (P4.out.on hb5)
    have B5 := Lib.hid (B4.out.trans (hb5.mono B4.out.size))
    have O5 := Lib.hid ((Kept.of_below (F := []) hb5 (Nat.le_refl _)).blk O4.out (by simp))
    clear hb5 P4 B4 O4 q2 q3 q4 m0 m1 m2 m3 m4 m5 hW4 hobl hb0
    cases gs
    · go_wp2
      go_ret
      exact ⟨rfl, B5.out⟩
    have q5 : w5.cell? ⟨ob, 5, none⟩ = some (.slice ka kn kc) := O5.out.cell 5
    by_cases hk100 : kn ≤ 100
    rotate_left
    · have hkd : (100 : Int) < (kn : Int) := by omega
      go_wp2
      go_ret
      exact ⟨rfl, B5.out⟩
    have hkd : decide ((100 : Int) < (kn : Int)) = false := decide_eq_false (by omega)
    have hkd2 : decide ((kn : Int) > 100) = false := decide_eq_false (by omega)
    obtain ⟨ra, rn, rc, rfl9, rk, hRB, hrn, hl64, hrn2⟩ := P5.out.ref.seen
    obtain ⟨la, hla⟩ : ∃ la, p.last = la := ⟨_, rfl⟩
    rw [hla] at hRB hl64
    obtain ⟨V, hV⟩ : ∃ V, versionN la ah = V := ⟨_, rfl⟩
    have hV64 : V < 18446744073709551616 := by rw [← hV]; exact versionN_lt _ _ hl64
    have VC := Lib.hid (show ∀ W, Calls Try.prog 9 #[.int .u64 (la : Int), .int .i8 ah] W fun e w' => e = .returned (.int .u64 (V : Int)) ∧ w' = W from by
      rw [← hV]
      exact fun W => version_any la ah W hl64 ha1 ha2)
    have r1 : w5.cell? ⟨w2.heap.size, 1, none⟩ = some (.int .u64 (la : Int)) := hRB.cell 1
    have q1 : w5.cell? ⟨ob, 1, none⟩ = some (.int .i8 ah) := O5.out.cell 1
    have q0 : w5.cell? ⟨ob, 0, none⟩ = some (.int .u8 (k : Int)) := O5.out.cell 0
    have hV64 := Lib.hid hV64
    clear hRB hrn hV hla hl64
    go_wp2_with (fail)
    go_quiet (first | (go_at_call 9; refine Calls.quiet_of_same (VC.out _)))
    have P6 := Lib.hid (P5.out.on (below_draws (Below.refl w5.heap.size w5) nq))
    have B6 := Lib.hid (below_draws B5.out nq)
    have O6 := Lib.hid (show Blk (w5.drewN nq) ob 39 [.int .u8 (k : Int), .int .i8 ah, .int .u32 (x.id : Int), .slice x.pv.1 x.pv.2.1 x.pv.2.2, .slice x.pt.1 x.pt.2.1 x.pt.2.2, .slice ka kn kc] from O5.out)
    clear P5 B5 O5 q5 q1 q0 r1 VC
    generalize w5.drewN nq = wc at P6 B6 O6 ⊢
    have q0 : wc.cell? ⟨ob, 0, none⟩ = some (.int .u8 (k : Int)) := O6.out.cell 0
    have hk6 : (k : Int) % 6 = 0 ∨ (k : Int) % 6 = 1 ∨ (k : Int) % 6 = 2 ∨ (k : Int) % 6 = 3 ∨ (k : Int) % 6 = 4 ∨ (k : Int) % 6 = 5 := by omega
    have IN := Lib.hid (show ∀ W, Below w.heap.size w W → x.In (fun _ => True) W from fun W hW => ((OPF.out _ hW).2.1).any)
    have INB := Lib.hid (show ∀ W, Below w.heap.size w W → x.In (· < w.heap.size) W from fun W hW => (OPF.out _ hW).2.1)
    have VIN := Lib.hid (show ∀ W, Below w.heap.size w W → VersIn W w.heap.size ka kn kc keep from fun W hW => (OPF.out _ hW).2.2.1 (by omega))
    clear OPF
    rcases hk6 with hk6 | hk6 | hk6 | hk6 | hk6 | hk6
    · have PD := Lib.hid (P6.out.on (below_draws (Below.refl _ _) 1))
      have BD := Lib.hid (below_draws B6.out 1)
      have OD := Lib.hid (show Blk (wc.drew) ob 39 _ from O6.out)
      have OBL := O6.out.lt
      have O6q2 : wc.cell? ⟨ob, 2, none⟩ = some (.int .u32 (x.id : Int)) := O6.out.cell 2
      have O6q3 : wc.cell? ⟨ob, 3, none⟩ = some (.slice x.pv.1 x.pv.2.1 x.pv.2.2) := O6.out.cell 3
      have O6q4 : wc.cell? ⟨ob, 4, none⟩ = some (.slice x.pt.1 x.pt.2.1 x.pt.2.2) := O6.out.cell 4
      have O6q5 : wc.cell? ⟨ob, 5, none⟩ = some (.slice ka kn kc) := O6.out.cell 5
      obtain ⟨code, hcode⟩ : ∃ code, (p.lay ⟨V, false, x.toI⟩).2 = code := ⟨_, rfl⟩
      have PC := Lib.hid (put_is wc.drew _ _ F p V x PD.out.code hV64.out (IN.out _ BD.out))
      unfold LaidIs at PC
      rw [hcode] at PC
      have RCC := Lib.hid (show ∀ w7, Kept F wc.drew w7 → Below w.heap.size w w7 → Calls Try.prog 11 #[.pointer (some ⟨w2.heap.size, 0, none⟩), .agg #[.int .u64 (V : Int), .bool false, .int .u32 (x.id : Int), .slice x.pv.1 x.pv.2.1 x.pv.2.2, .slice x.pt.1 x.pt.2.1 x.pt.2.2]] w7 fun e w' => ∃ G', e = .returned (.int .i64 (code : Int)) ∧ RefIs w' w.heap.size w1.heap.size w2.heap.size G' (p.lay ⟨V, false, x.toI⟩).1 ∧ Kept G w7 w' ∧ Grows w7 G G' from fun w7 k7 b7 => by
        have h9 := rlay_is w7 w.heap.size w1.heap.size w2.heap.size G p (rowOf V false x) (PD.out.ref1 k7) ⟨hV64.out, (INB.out _ b7).hid, (INB.out _ b7).hvec, (INB.out _ b7).htags⟩
        unfold RLaidIs at h9
        rw [rowOf_toR, show (⟨V, false, (show ItL from x).toI⟩ : RowV) = ⟨V, false, x.toI⟩ from rfl, hcode] at h9
        exact h9)
      clear hcode
      go_wp2_with (fail)
      go_region_law (first
        | (rw [if_pos (by rfl)]; go_simp; go_at_call 10; refine PC.out.mono ?_; rintro e w7 ⟨F7, rfl, h7, k7, g7⟩; have b7 := PD.out.code.below k7 (show Below w1.heap.size wc.drew wc.drew from Below.refl _ _) PD.out.code.size1; have B7 := Lib.hid (BD.out.trans (b7.mono hs1)); have P7 := Lib.hid h7; have K7 := Lib.hid k7; have G7 := Lib.hid g7; have O7 := Lib.hid (k7.blk OD.out (fun hh => HPo.out _ (.inl hh) rfl)); have O7q2 : w7.cell? ⟨ob, 2, none⟩ = some (.int .u32 (x.id : Int)) := O7.out.cell 2; have O7q3 : w7.cell? ⟨ob, 3, none⟩ = some (.slice x.pv.1 x.pv.2.1 x.pv.2.2) := O7.out.cell 3; have O7q4 : w7.cell? ⟨ob, 4, none⟩ = some (.slice x.pt.1 x.pt.2.1 x.pt.2.2) := O7.out.cell 4; have O7q5 : w7.cell? ⟨ob, 5, none⟩ = some (.slice ka kn kc) := O7.out.cell 5; clear h7 k7 g7 b7)
        | (rw [if_pos (by rfl)]; go_simp; go_at_call 11; refine (RCC.out w7 K7.out B7.out).mono ?_; rintro e w8 ⟨G8, rfl, h8, k8, g8⟩; have P8 := Lib.hid (PD.out.step G7.out P7.out k8 g8 h8); have B8 := Lib.hid (PD.out.below K7.out k8 BD.out); clear h8 k8 g8))
      all_goals
        clear P6 B6 O6 PD BD OD P7 B7 K7 G7 O7 PC RCC
        obtain ⟨za, zn, zc, zfl, zk, hZB, hzn, hzl, hzn2⟩ := P8.out.ref.seen
        obtain ⟨zl, hzle⟩ : ∃ zl, ((p.lay ⟨V, false, x.toI⟩).1).last = zl := ⟨_, rfl⟩
        have LC := Lib.hid (fun m => last_is (w8.drewN m) _ _ _ ((p.lay ⟨V, false, x.toI⟩).1) (P8.out.on (below_draws (Below.refl _ _) m)).code)
        have RC := Lib.hid (fun m => rows_is (w8.drewN m) _ _ _ ((p.lay ⟨V, false, x.toI⟩).1) (P8.out.on (below_draws (Below.refl _ _) m)).code)
        rw [hzle] at hZB LC
        rw [← hzn] at RC
        have z0 : w8.cell? ⟨w2.heap.size, 0, none⟩ = some (.slice za zn zc) := hZB.cell 0
        have z1 : w8.cell? ⟨w2.heap.size, 1, none⟩ = some (.int .u64 (zl : Int)) := hZB.cell 1
        clear hZB hzn hzle hzl
        go_wp2_with (fail)
        go_quiet (first | (go_at_call 21; refine Calls.quiet_of_same (LC.out _)) | (go_at_call 22; refine Calls.quiet_of_same (RC.out _)))
        go_wp2
        go_roundw
        case rel => exact ⟨i + 1, _, _, _, by go_num, by omega, P8.out.on (below_draws (Below.refl _ _) _), below_draws B8.out _⟩
        case measure => simp [intOf]; omega
    · have PD := Lib.hid (P6.out.on (below_draws (Below.refl _ _) 1))
      have BD := Lib.hid (below_draws B6.out 1)
      have OD := Lib.hid (show Blk (wc.drew) ob 39 _ from O6.out)
      have OBL := O6.out.lt
      have O6q2 : wc.cell? ⟨ob, 2, none⟩ = some (.int .u32 (x.id : Int)) := O6.out.cell 2
      have O6q3 : wc.cell? ⟨ob, 3, none⟩ = some (.slice x.pv.1 x.pv.2.1 x.pv.2.2) := O6.out.cell 3
      have O6q4 : wc.cell? ⟨ob, 4, none⟩ = some (.slice x.pt.1 x.pt.2.1 x.pt.2.2) := O6.out.cell 4
      have O6q5 : wc.cell? ⟨ob, 5, none⟩ = some (.slice ka kn kc) := O6.out.cell 5
      obtain ⟨code, hcode⟩ : ∃ code, (p.lay ⟨V, false, x.toI⟩).2 = code := ⟨_, rfl⟩
      have PC := Lib.hid (put_is wc.drew _ _ F p V x PD.out.code hV64.out (IN.out _ BD.out))
      unfold LaidIs at PC
      rw [hcode] at PC
      have RCC := Lib.hid (show ∀ w7, Kept F wc.drew w7 → Below w.heap.size w w7 → Calls Try.prog 11 #[.pointer (some ⟨w2.heap.size, 0, none⟩), .agg #[.int .u64 (V : Int), .bool false, .int .u32 (x.id : Int), .slice x.pv.1 x.pv.2.1 x.pv.2.2, .slice x.pt.1 x.pt.2.1 x.pt.2.2]] w7 fun e w' => ∃ G', e = .returned (.int .i64 (code : Int)) ∧ RefIs w' w.heap.size w1.heap.size w2.heap.size G' (p.lay ⟨V, false, x.toI⟩).1 ∧ Kept G w7 w' ∧ Grows w7 G G' from fun w7 k7 b7 => by
        have h9 := rlay_is w7 w.heap.size w1.heap.size w2.heap.size G p (rowOf V false x) (PD.out.ref1 k7) ⟨hV64.out, (INB.out _ b7).hid, (INB.out _ b7).hvec, (INB.out _ b7).htags⟩
        unfold RLaidIs at h9
        rw [rowOf_toR, show (⟨V, false, (show ItL from x).toI⟩ : RowV) = ⟨V, false, x.toI⟩ from rfl, hcode] at h9
        exact h9)
      clear hcode
      go_wp2_with (fail)
      go_region_law (first
        | (rw [if_pos (by rfl)]; go_simp; go_at_call 10; refine PC.out.mono ?_; rintro e w7 ⟨F7, rfl, h7, k7, g7⟩; have b7 := PD.out.code.below k7 (show Below w1.heap.size wc.drew wc.drew from Below.refl _ _) PD.out.code.size1; have B7 := Lib.hid (BD.out.trans (b7.mono hs1)); have P7 := Lib.hid h7; have K7 := Lib.hid k7; have G7 := Lib.hid g7; have O7 := Lib.hid (k7.blk OD.out (fun hh => HPo.out _ (.inl hh) rfl)); have O7q2 : w7.cell? ⟨ob, 2, none⟩ = some (.int .u32 (x.id : Int)) := O7.out.cell 2; have O7q3 : w7.cell? ⟨ob, 3, none⟩ = some (.slice x.pv.1 x.pv.2.1 x.pv.2.2) := O7.out.cell 3; have O7q4 : w7.cell? ⟨ob, 4, none⟩ = some (.slice x.pt.1 x.pt.2.1 x.pt.2.2) := O7.out.cell 4; have O7q5 : w7.cell? ⟨ob, 5, none⟩ = some (.slice ka kn kc) := O7.out.cell 5; clear h7 k7 g7 b7)
        | (rw [if_pos (by rfl)]; go_simp; go_at_call 11; refine (RCC.out w7 K7.out B7.out).mono ?_; rintro e w8 ⟨G8, rfl, h8, k8, g8⟩; have P8 := Lib.hid (PD.out.step G7.out P7.out k8 g8 h8); have B8 := Lib.hid (PD.out.below K7.out k8 BD.out); clear h8 k8 g8))
      all_goals
        clear P6 B6 O6 PD BD OD P7 B7 K7 G7 O7 PC RCC
        obtain ⟨za, zn, zc, zfl, zk, hZB, hzn, hzl, hzn2⟩ := P8.out.ref.seen
        obtain ⟨zl, hzle⟩ : ∃ zl, ((p.lay ⟨V, false, x.toI⟩).1).last = zl := ⟨_, rfl⟩
        have LC := Lib.hid (fun m => last_is (w8.drewN m) _ _ _ ((p.lay ⟨V, false, x.toI⟩).1) (P8.out.on (below_draws (Below.refl _ _) m)).code)
        have RC := Lib.hid (fun m => rows_is (w8.drewN m) _ _ _ ((p.lay ⟨V, false, x.toI⟩).1) (P8.out.on (below_draws (Below.refl _ _) m)).code)
        rw [hzle] at hZB LC
        rw [← hzn] at RC
        have z0 : w8.cell? ⟨w2.heap.size, 0, none⟩ = some (.slice za zn zc) := hZB.cell 0
        have z1 : w8.cell? ⟨w2.heap.size, 1, none⟩ = some (.int .u64 (zl : Int)) := hZB.cell 1
        clear hZB hzn hzle hzl
        go_wp2_with (fail)
        go_quiet (first | (go_at_call 21; refine Calls.quiet_of_same (LC.out _)) | (go_at_call 22; refine Calls.quiet_of_same (RC.out _)))
        go_wp2
        go_roundw
        case rel => exact ⟨i + 1, _, _, _, by go_num, by omega, P8.out.on (below_draws (Below.refl _ _) _), below_draws B8.out _⟩
        case measure => simp [intOf]; omega
    · have PD := Lib.hid (P6.out.on (below_draws (Below.refl _ _) 1))
      have BD := Lib.hid (below_draws B6.out 1)
      have OD := Lib.hid (show Blk (wc.drew) ob 39 _ from O6.out)
      have OBL := O6.out.lt
      have O6q2 : wc.cell? ⟨ob, 2, none⟩ = some (.int .u32 (x.id : Int)) := O6.out.cell 2
      have O6q3 : wc.cell? ⟨ob, 3, none⟩ = some (.slice x.pv.1 x.pv.2.1 x.pv.2.2) := O6.out.cell 3
      have O6q4 : wc.cell? ⟨ob, 4, none⟩ = some (.slice x.pt.1 x.pt.2.1 x.pt.2.2) := O6.out.cell 4
      have O6q5 : wc.cell? ⟨ob, 5, none⟩ = some (.slice ka kn kc) := O6.out.cell 5
      obtain ⟨code, hcode⟩ : ∃ code, (p.lay ⟨V, true, ⟨x.id, [], []⟩⟩).2 = code := ⟨_, rfl⟩
      have PC := Lib.hid (cut_is wc.drew _ _ F p V x.id PD.out.code hV64.out (IN.out _ BD.out).hid)
      unfold LaidIs at PC
      rw [hcode] at PC
      have RCC := Lib.hid (show ∀ w7, Kept F wc.drew w7 → Below w.heap.size w w7 → Calls Try.prog 11 #[.pointer (some ⟨w2.heap.size, 0, none⟩), .agg #[.int .u64 (V : Int), .bool true, .int .u32 (x.id : Int), .slice none 0 0, .slice none 0 0]] w7 fun e w' => ∃ G', e = .returned (.int .i64 (code : Int)) ∧ RefIs w' w.heap.size w1.heap.size w2.heap.size G' (p.lay ⟨V, true, ⟨x.id, [], []⟩⟩).1 ∧ Kept G w7 w' ∧ Grows w7 G G' from fun w7 k7 b7 => by
        have h9 := rlay_is w7 w.heap.size w1.heap.size w2.heap.size G p (rowOf V true ⟨x.id, (none, 0, 0), (none, 0, 0), [], []⟩) (PD.out.ref1 k7) ⟨hV64.out, (INB.out _ b7).hid, (nil_in _ _).1, (nil_in _ _).2⟩
        unfold RLaidIs at h9
        rw [rowOf_toR, show (⟨V, true, (show ItL from ⟨x.id, (none, 0, 0), (none, 0, 0), [], []⟩).toI⟩ : RowV) = ⟨V, true, ⟨x.id, [], []⟩⟩ from rfl, hcode] at h9
        exact h9)
      clear hcode
      go_wp2_with (fail)
      go_region_law (first
        | (rw [if_pos (by rfl)]; go_simp; go_at_call 12; refine PC.out.mono ?_; rintro e w7 ⟨F7, rfl, h7, k7, g7⟩; have b7 := PD.out.code.below k7 (show Below w1.heap.size wc.drew wc.drew from Below.refl _ _) PD.out.code.size1; have B7 := Lib.hid (BD.out.trans (b7.mono hs1)); have P7 := Lib.hid h7; have K7 := Lib.hid k7; have G7 := Lib.hid g7; have O7 := Lib.hid (k7.blk OD.out (fun hh => HPo.out _ (.inl hh) rfl)); have O7q2 : w7.cell? ⟨ob, 2, none⟩ = some (.int .u32 (x.id : Int)) := O7.out.cell 2; have O7q3 : w7.cell? ⟨ob, 3, none⟩ = some (.slice x.pv.1 x.pv.2.1 x.pv.2.2) := O7.out.cell 3; have O7q4 : w7.cell? ⟨ob, 4, none⟩ = some (.slice x.pt.1 x.pt.2.1 x.pt.2.2) := O7.out.cell 4; have O7q5 : w7.cell? ⟨ob, 5, none⟩ = some (.slice ka kn kc) := O7.out.cell 5; clear h7 k7 g7 b7)
        | (rw [if_pos (by rfl)]; go_simp; go_at_call 11; refine (RCC.out w7 K7.out B7.out).mono ?_; rintro e w8 ⟨G8, rfl, h8, k8, g8⟩; have P8 := Lib.hid (PD.out.step G7.out P7.out k8 g8 h8); have B8 := Lib.hid (PD.out.below K7.out k8 BD.out); clear h8 k8 g8))
      all_goals
        clear P6 B6 O6 PD BD OD P7 B7 K7 G7 O7 PC RCC
        obtain ⟨za, zn, zc, zfl, zk, hZB, hzn, hzl, hzn2⟩ := P8.out.ref.seen
        obtain ⟨zl, hzle⟩ : ∃ zl, ((p.lay ⟨V, true, ⟨x.id, [], []⟩⟩).1).last = zl := ⟨_, rfl⟩
        have LC := Lib.hid (fun m => last_is (w8.drewN m) _ _ _ ((p.lay ⟨V, true, ⟨x.id, [], []⟩⟩).1) (P8.out.on (below_draws (Below.refl _ _) m)).code)
        have RC := Lib.hid (fun m => rows_is (w8.drewN m) _ _ _ ((p.lay ⟨V, true, ⟨x.id, [], []⟩⟩).1) (P8.out.on (below_draws (Below.refl _ _) m)).code)
        rw [hzle] at hZB LC
        rw [← hzn] at RC
        have z0 : w8.cell? ⟨w2.heap.size, 0, none⟩ = some (.slice za zn zc) := hZB.cell 0
        have z1 : w8.cell? ⟨w2.heap.size, 1, none⟩ = some (.int .u64 (zl : Int)) := hZB.cell 1
        clear hZB hzn hzle hzl
        go_wp2_with (fail)
        go_quiet (first | (go_at_call 21; refine Calls.quiet_of_same (LC.out _)) | (go_at_call 22; refine Calls.quiet_of_same (RC.out _)))
        go_wp2
        go_roundw
        case rel => exact ⟨i + 1, _, _, _, by go_num, by omega, P8.out.on (below_draws (Below.refl _ _) _), below_draws B8.out _⟩
        case measure => simp [intOf]; omega
    · have PD := Lib.hid (P6.out.on (below_draws (Below.refl _ _) 1))
      have BD := Lib.hid (below_draws B6.out 1)
      have OD := Lib.hid (show Blk (wc.drew) ob 39 _ from O6.out)
      have OBL := O6.out.lt
      have O6q2 : wc.cell? ⟨ob, 2, none⟩ = some (.int .u32 (x.id : Int)) := O6.out.cell 2
      have O6q3 : wc.cell? ⟨ob, 3, none⟩ = some (.slice x.pv.1 x.pv.2.1 x.pv.2.2) := O6.out.cell 3
      have O6q4 : wc.cell? ⟨ob, 4, none⟩ = some (.slice x.pt.1 x.pt.2.1 x.pt.2.2) := O6.out.cell 4
      have O6q5 : wc.cell? ⟨ob, 5, none⟩ = some (.slice ka kn kc) := O6.out.cell 5
      obtain ⟨code, hcode⟩ : ∃ code, (p.sweep keep).2 = code := ⟨_, rfl⟩
      have hkl : keep.length ≤ 100000 := by
        have h1 := VIN.out _ BD.out
        rw [h1.1]
        exact h1.2.2.1
      have PC := Lib.hid (sweep_is wc.drew _ _ F p ka kn kc keep (sortU_le hkl) PD.out.code (VIN.out _ BD.out).any)
      unfold SweptIs at PC
      rw [hcode] at PC
      clear hkl
      have RCC := Lib.hid (show ∀ w7, Kept F wc.drew w7 → Below w.heap.size w w7 → Calls Try.prog 14 #[.pointer (some ⟨w2.heap.size, 0, none⟩), .slice ka kn kc] w7 fun e w' => ∃ G', e = .returned (.int .i64 (code : Int)) ∧ RefIs w' w.heap.size w1.heap.size w2.heap.size G' (p.sweep keep).1 ∧ Kept G w7 w' ∧ Grows w7 G G' from fun w7 k7 b7 => by
        have h9 := rsweep_is w7 w.heap.size w1.heap.size w2.heap.size G p ka kn kc keep (PD.out.ref1 k7) (VIN.out _ b7)
        unfold RSweptIs at h9
        rw [hcode] at h9
        exact h9)
      clear hcode
      go_wp2_with (fail)
      go_region_law (first
        | (rw [if_pos (by rfl)]; go_simp; go_at_call 13; refine PC.out.mono ?_; rintro e w7 ⟨F7, rfl, h7, k7, g7⟩; have b7 := PD.out.code.below k7 (show Below w1.heap.size wc.drew wc.drew from Below.refl _ _) PD.out.code.size1; have B7 := Lib.hid (BD.out.trans (b7.mono hs1)); have P7 := Lib.hid h7; have K7 := Lib.hid k7; have G7 := Lib.hid g7; have O7 := Lib.hid (k7.blk OD.out (fun hh => HPo.out _ (.inl hh) rfl)); have O7q2 : w7.cell? ⟨ob, 2, none⟩ = some (.int .u32 (x.id : Int)) := O7.out.cell 2; have O7q3 : w7.cell? ⟨ob, 3, none⟩ = some (.slice x.pv.1 x.pv.2.1 x.pv.2.2) := O7.out.cell 3; have O7q4 : w7.cell? ⟨ob, 4, none⟩ = some (.slice x.pt.1 x.pt.2.1 x.pt.2.2) := O7.out.cell 4; have O7q5 : w7.cell? ⟨ob, 5, none⟩ = some (.slice ka kn kc) := O7.out.cell 5; clear h7 k7 g7 b7)
        | (rw [if_pos (by rfl)]; go_simp; go_at_call 14; refine (RCC.out w7 K7.out B7.out).mono ?_; rintro e w8 ⟨G8, rfl, h8, k8, g8⟩; have P8 := Lib.hid (PD.out.step G7.out P7.out k8 g8 h8); have B8 := Lib.hid (PD.out.below K7.out k8 BD.out); clear h8 k8 g8))
      all_goals
        clear P6 B6 O6 PD BD OD P7 B7 K7 G7 O7 PC RCC
        obtain ⟨za, zn, zc, zfl, zk, hZB, hzn, hzl, hzn2⟩ := P8.out.ref.seen
        obtain ⟨zl, hzle⟩ : ∃ zl, ((p.sweep keep).1).last = zl := ⟨_, rfl⟩
        have LC := Lib.hid (fun m => last_is (w8.drewN m) _ _ _ ((p.sweep keep).1) (P8.out.on (below_draws (Below.refl _ _) m)).code)
        have RC := Lib.hid (fun m => rows_is (w8.drewN m) _ _ _ ((p.sweep keep).1) (P8.out.on (below_draws (Below.refl _ _) m)).code)
        rw [hzle] at hZB LC
        rw [← hzn] at RC
        have z0 : w8.cell? ⟨w2.heap.size, 0, none⟩ = some (.slice za zn zc) := hZB.cell 0
        have z1 : w8.cell? ⟨w2.heap.size, 1, none⟩ = some (.int .u64 (zl : Int)) := hZB.cell 1
        clear hZB hzn hzle hzl
        go_wp2_with (fail)
        go_quiet (first | (go_at_call 21; refine Calls.quiet_of_same (LC.out _)) | (go_at_call 22; refine Calls.quiet_of_same (RC.out _)))
        go_wp2
        go_roundw
        case rel => exact ⟨i + 1, _, _, _, by go_num, by omega, P8.out.on (below_draws (Below.refl _ _) _), below_draws B8.out _⟩
        case measure => simp [intOf]; omega
    · have O6q2 : wc.cell? ⟨ob, 2, none⟩ = some (.int .u32 (x.id : Int)) := O6.out.cell 2
      have OBL := O6.out.lt
      obtain ⟨rc, hrc⟩ : ∃ rc, (p.get x.id V).2 = rc := ⟨_, rfl⟩
      have RC := Lib.hid hrc
      go_wp2_with (fail)
      refine (get_is wc _ _ F p x.id V P6.out.code hV64.out).mono ?_
      rintro e w7 ⟨hb7, y, rfl, hyo, hyt⟩
      rw [RC.out]
      have P7 := Lib.hid (P6.out.on hb7)
      have B7 := Lib.hid (below_on B6.out hb7)
      have Y7 := Lib.hid hyo
      have YT := Lib.hid hyt
      obtain ⟨W7, hW7⟩ : ∃ W7, w7.alloc (.cells #[.int .u32 (y.id : Int), .slice y.pv.1 y.pv.2.1 y.pv.2.2, .slice y.pt.1 y.pt.2.1 y.pt.2.2] 37) = W7 := ⟨_, rfl⟩
      obtain ⟨yb, hyb⟩ : ∃ yb, w7.heap.size = yb := ⟨_, rfl⟩
      have hb8 : Below w7.heap.size w7 W7 := by rw [← hW7]; exact (Below.refl _ _).alloc (Nat.le_refl _) _
      have X7 := Lib.hid (show Blk W7 yb 37 [.int .u32 (y.id : Int), .slice y.pv.1 y.pv.2.1 y.pv.2.2, .slice y.pt.1 y.pt.2.1 y.pt.2.2] from by rw [← hW7, ← hyb]; exact Blk.new _ _ _)
      have O7 := Lib.hid ((Kept.of_below (F := []) (below_on hb7 hb8) (Nat.le_refl _)).blk O6.out (by simp))
      have P8 := Lib.hid (P7.out.on hb8)
      have B8 := Lib.hid (below_on B7.out hb8)
      have Y8 := Lib.hid (Y7.out.on hb8)
      have q2 : W7.cell? ⟨ob, 2, none⟩ = some (.int .u32 (x.id : Int)) := O7.out.cell 2
      have hyne : ob ≠ yb := by
        have h1 := hb7.size
        omega
      clear hb7 hb8 hyo hyt P6 B6 O6 O6q2 P7 B7 Y7 hrc
      go_wp2_with (fail)
      refine (rget_is W7 w.heap.size w1.heap.size w2.heap.size G p x.id V P8.out.ref hV64.out).mono ?_
      rintro e w9 ⟨hb9, c0, c1, c2, z, rfl, hz, hzt⟩
      rw [RC.out]
      obtain ⟨zi, zvec, ztags, za, zn, zc, za', zn', zc', rfl, hcs, -, -, -, -, -, -, -⟩ := rd_item hz
      simp only [List.cons.injEq, and_true] at hcs
      obtain ⟨rfl, rfl, rfl⟩ := hcs
      have P9 := Lib.hid (P8.out.on hb9)
      have B9 := Lib.hid (below_on B8.out hb9)
      have Y9 := Lib.hid (Y8.out.on hb9)
      have X9 := Lib.hid ((Kept.of_below (F := []) hb9 (Nat.le_refl _)).blk X7.out (by simp))
      have Z9 := Lib.hid hz
      have ZT := Lib.hid hzt
      obtain ⟨W9, hW9⟩ : ∃ W9, w9.alloc (.cells #[.int .u32 (zi : Int), .slice za zn zc, .slice za' zn' zc'] 37) = W9 := ⟨_, rfl⟩
      obtain ⟨zb, hzb⟩ : ∃ zb, w9.heap.size = zb := ⟨_, rfl⟩
      have hb10 : Below w9.heap.size w9 W9 := by rw [← hW9]; exact (Below.refl _ _).alloc (Nat.le_refl _) _
      have U10 := Lib.hid (show Blk W9 zb 37 [.int .u32 (zi : Int), .slice za zn zc, .slice za' zn' zc'] from by rw [← hW9, ← hzb]; exact Blk.new _ _ _)
      have X10 := Lib.hid ((Kept.of_below (F := []) hb10 (Nat.le_refl _)).blk X9.out (by simp))
      have P10 := Lib.hid (P9.out.on hb10)
      have B10 := Lib.hid (below_on B9.out hb10)
      have RY := Lib.hid (show Rd (fun _ => True) W9 shItem [.int .u32 (y.id : Int), .slice y.pv.1 y.pv.2.1 y.pv.2.2, .slice y.pt.1 y.pt.2.1 y.pt.2.2] y.tup from by
        have h1 := (Y9.out.on hb10).in
        exact rd_item_mk h1.hid h1.hvec h1.htags)
      have RZ := Lib.hid (Z9.out.under (hb10.mono B9.out.size))
      have EQ := Lib.hid (((tup_item y).trans YT.out).trans ZT.out.symm)
      have e0 : W9.cell? ⟨yb, 0, none⟩ = some (.int .u32 (y.id : Int)) := X10.out.cell 0
      have e1 : W9.cell? ⟨yb, 1, none⟩ = some (.slice y.pv.1 y.pv.2.1 y.pv.2.2) := X10.out.cell 1
      have e2 : W9.cell? ⟨yb, 2, none⟩ = some (.slice y.pt.1 y.pt.2.1 y.pt.2.2) := X10.out.cell 2
      have u0 : W9.cell? ⟨zb, 0, none⟩ = some (.int .u32 (zi : Int)) := U10.out.cell 0
      have u1 : W9.cell? ⟨zb, 1, none⟩ = some (.slice za zn zc) := U10.out.cell 1
      have u2 : W9.cell? ⟨zb, 2, none⟩ = some (.slice za' zn' zc') := U10.out.cell 2
      clear hb9 hb10 hz hzt P8 B8 Y8 P9 B9 Y9 X9 Z9 X7 O7 q2
      go_wp2_with (fail)
      refine (sameItem _ _ _ _ _ _ _ _ W9 RY.out RZ.out).mono ?_
      rintro e w8 ⟨zz, rfl, hzz, hb11⟩
      obtain rfl : zz = true := hzz.2 EQ.out
      have P8 := Lib.hid (P10.out.on hb11)
      have B8 := Lib.hid (below_on B10.out hb11)
      clear hb11 hzz P10 B10 RY RZ EQ e0 e1 e2 u0 u1 u2 X10 U10 hW7 hW9
      obtain ⟨za, zn, zc, zfl, zk, hZB, hzn, hzl, hzn2⟩ := P8.out.ref.seen
      obtain ⟨zl, hzle⟩ : ∃ zl, (p).last = zl := ⟨_, rfl⟩
      have LC := Lib.hid (fun m => last_is (w8.drewN m) _ _ _ (p) (P8.out.on (below_draws (Below.refl _ _) m)).code)
      have RC := Lib.hid (fun m => rows_is (w8.drewN m) _ _ _ (p) (P8.out.on (below_draws (Below.refl _ _) m)).code)
      rw [hzle] at hZB LC
      rw [← hzn] at RC
      have z0 : w8.cell? ⟨w2.heap.size, 0, none⟩ = some (.slice za zn zc) := hZB.cell 0
      have z1 : w8.cell? ⟨w2.heap.size, 1, none⟩ = some (.int .u64 (zl : Int)) := hZB.cell 1
      clear hZB hzn hzle hzl
      go_wp2_with (fail)
      go_quiet (first | (go_at_call 21; refine Calls.quiet_of_same (LC.out _)) | (go_at_call 22; refine Calls.quiet_of_same (RC.out _)))
      go_wp2
      go_roundw
      case rel => exact ⟨i + 1, _, _, _, by go_num, by omega, P8.out.on (below_draws (Below.refl _ _) _), below_draws B8.out _⟩
      case measure => simp [intOf]; omega
    · obtain ⟨rc, hrc⟩ : ∃ rc, (p.all V).2 = rc := ⟨_, rfl⟩
      have RC := Lib.hid hrc
      go_wp2_with (fail)
      refine (all_is wc _ _ F p V P6.out.code hV64.out).mono ?_
      rintro e w7 ⟨hb7, sv, us, rfl, hus, huo, hut⟩
      rw [RC.out]
      have huz : us.length ≤ 1000000 := by
        have h1 := all_len p V
        rw [← hut, List.length_map] at h1
        have h2 := P6.out.code.few
        omega
      obtain ⟨sa, sn, sc, rfl, -⟩ := its_rd hus huo huz
      have P7 := Lib.hid (P6.out.on hb7)
      have B7 := Lib.hid (below_on B6.out hb7)
      have T7 := Lib.hid (And.intro hus huo)
      have TL := Lib.hid (And.intro hut huz)
      clear hb7 hus huo hut huz P6 B6 O6 hrc
      go_wp2_with (fail)
      refine (rall_is w7 w.heap.size w1.heap.size w2.heap.size G p V P7.out.ref hV64.out).mono ?_
      rintro e w9 ⟨hb9, sv2, vs, rfl, hvs, hvi, hvt⟩
      rw [RC.out]
      have hvz : vs.length ≤ 1000000 := by
        have h1 := all_len p V
        rw [← hvt, List.length_map] at h1
        have h2 := P7.out.code.few
        omega
      obtain ⟨ta, tn, tc, rfl, rd2⟩ := its_rd_in hvs hvi hvz
      obtain ⟨sa', sn', sc', e1, rd1⟩ := its_rd (T7.out.1.on hb9) (fun x hx => (T7.out.2 x hx).on hb9) TL.out.2
      simp only [Value.slice.injEq] at e1
      obtain ⟨rfl, rfl, rfl⟩ := e1
      have P10 := Lib.hid (P7.out.on hb9)
      have B10 := Lib.hid (below_on B7.out hb9)
      have RD1 := Lib.hid rd1
      have RD2 := Lib.hid rd2
      have EQ := Lib.hid (show (us.map ItL.tup).map toItem = (vs.map ItL.tup).map toItem from by rw [tups_item, tups_item, TL.out.1, hvt])
      clear hb9 hvs hvi hvt hvz rd1 rd2 P7 B7 T7
      go_wp2_with (fail)
      refine (sameItems _ _ _ _ _ _ _ _ w9 RD1.out RD2.out).mono ?_
      rintro e w8 ⟨zz, rfl, hzz, hb11⟩
      obtain rfl : zz = true := hzz.2 EQ.out
      have P8 := Lib.hid (P10.out.on hb11)
      have B8 := Lib.hid (below_on B10.out hb11)
      clear hb11 hzz P10 B10 RD1 RD2 EQ
      obtain ⟨za, zn, zc, zfl, zk, hZB, hzn, hzl, hzn2⟩ := P8.out.ref.seen
      obtain ⟨zl, hzle⟩ : ∃ zl, (p).last = zl := ⟨_, rfl⟩
      have LC := Lib.hid (fun m => last_is (w8.drewN m) _ _ _ (p) (P8.out.on (below_draws (Below.refl _ _) m)).code)
      have RC := Lib.hid (fun m => rows_is (w8.drewN m) _ _ _ (p) (P8.out.on (below_draws (Below.refl _ _) m)).code)
      rw [hzle] at hZB LC
      rw [← hzn] at RC
      have z0 : w8.cell? ⟨w2.heap.size, 0, none⟩ = some (.slice za zn zc) := hZB.cell 0
      have z1 : w8.cell? ⟨w2.heap.size, 1, none⟩ = some (.int .u64 (zl : Int)) := hZB.cell 1
      clear hZB hzn hzle hzl
      go_wp2_with (fail)
      go_quiet (first | (go_at_call 21; refine Calls.quiet_of_same (LC.out _)) | (go_at_call 22; refine Calls.quiet_of_same (RC.out _)))
      go_wp2
      go_roundw
      case rel => exact ⟨i + 1, _, _, _, by go_num, by omega, P8.out.on (below_draws (Below.refl _ _) _), below_draws B8.out _⟩
      case measure => simp [intOf]; omega

theorem plays_row : Rows.PastPlaysSaid :=
  OpenClaim.holds_of_wide 3 Try.f3 rfl rfl rfl rfl rfl rfl rfl ⟨rfl, rfl, rfl, rfl, rfl⟩ rfl rfl rfl rfl rfl (by kernel_rfl) Try.func3 (by kernel_rfl)
    (of_decide_eq_true (by kernel_rfl)) (by unfold Func.isWrapper; rw [if_neg (of_decide_eq_false (by kernel_rfl))]; exact ⟨rfl, rfl⟩)
    (fun os started H enc _ => lift (C := Try.checked) (s := Rows.pastPlaysSpec) (conds := Rows.pastPlaysRow.domain) os started H enc prog_own (by kernel_rfl) Try.func3 prog_laid rfl Try.underlying4 rfl
      (fun ds hl => by
        have hl : ds.length = 1 := hl
        match ds, hl with
        | [_], _ => rfl)
      (of_decide_eq_true (by kernel_rfl))
      (ChangeSpec.witness6 (enc := enc) (C := Try.checked) false ⟨#[], #[.slice none 0 0], []⟩ 8 (by kernel_rfl) (by kernel_rfl) (by kernel_rfl) (by kernel_rfl))
      (fun W base args ds p g => by
        rw [Try.params3] at g
        obtain ⟨a, n, c, xs, e0, hx⟩ := g.ops 0 rfl
        rw [args1 g.count e0]
        exact plays_walk a n c xs W hx))
end Go.Proofs.Ytdmnflncgmnghaa
