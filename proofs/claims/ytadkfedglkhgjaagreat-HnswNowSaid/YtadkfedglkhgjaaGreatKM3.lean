/-
  Layer 12: choose, add, Put, Nodes. (Merged out of Ks Kh Kt Ku Kv.)
-/
import Derived.Test.YtadkfedglkhgjaaGreatKM2
import Derived.Test.YtadkfedglkhgjaaGreatKM1
import Derived.StillTailTactics
import Derived.Deep.RegionHeld3
namespace Go.Proofs.YtadkfedglkhgjaaGreat

section
open Go.RowKit Go.ChangeShapes Go.WideShapes Go.ChangeAt Go.Maps Go.Shelf

attribute [local go_sem] Oper.semAt_some

theorem ints_info12 : (Tryz.prog.info? 62).map (fun i => (i.zero, i.size, i.bytes)) = some (some (.slice none 0 0), 1, 24) := by kernel_rfl
theorem Blk.at_new {w : World} {t : TypeId} {cs : Array Value} {g : Nat} (h : w.heap.size = g) : Blk (w.alloc (.cells cs t)) g t cs.toList := h ▸ Blk.new w t cs
/-- A list of lists that was just made is a block of its own. -/
theorem nils_blk {w0 w : World} {n g : Nat} (h : NilsAt w0 n g w) : Blk w g 62 (List.replicate n (.slice none 0 0)) := by
  obtain ⟨h1, h2⟩ := h
  rcases h2 with ⟨h2, -⟩ | ⟨g', cap, cur, e, hg, hh, hn, hcap, hsz, ht⟩
  · cases h2
  · simp only [Value.slice.injEq, Option.some.injEq, Addr.mk.injEq, and_true] at e
    obtain ⟨rfl, -, rfl⟩ := e
    unfold Blk
    rw [hh]
    have h3 : cur.toList = List.replicate n (.slice none 0 0) := by
      rw [← ht, List.take_of_length_le (by simp [hsz])]
    rw [← h3]
/-- What the body of choose's loop reads. -/
def ChS (B x gg : Nat) (qa : Option Addr) (qn qc width most : Nat) (X : World) : Prop :=
  X.cell? ⟨B, 0, none⟩ = some (.pointer (some ⟨x, 0, none⟩)) ∧ X.cell? ⟨B + 1, 0, none⟩ = some (.slice qa qn qc) ∧ X.cell? ⟨x, 3, none⟩ = some (.pointer (some ⟨gg, 0, none⟩)) ∧ X.cell? ⟨x, 2, none⟩ = some (.int .i64 (width : Int)) ∧ X.cell? ⟨x, 1, none⟩ = some (.int .i64 (most : Int))
/-- The same, for its second half. -/
def ChS6 (B x gg : Nat) (qa : Option Addr) (qn qc width most b7 gl K bf : Nat) (fa : Option Addr) (fn fc : Nat) (X : World) : Prop :=
  ChS B x gg qa qn qc width most X ∧ X.cell? ⟨b7, 0, none⟩ = some (.slice (some ⟨gl, 0, none⟩) K K) ∧ X.cell? ⟨bf, 0, none⟩ = some (.slice fa fn fc)
/-- What choose's loop keeps. -/
def ChJ (w : World) (x : Nat) (qa : Option Addr) (qn qc : Nat) (s : IdxV) (q : List Int) (D : Int) (K gl bf b7 bk : Nat) (F : List Nat) (pre : List (Nat × Value)) (W : World) : Prop :=
  ∃ R, F = gl :: bf :: R ∧ ChI s q D K w.heap.size gl bf pre.length pre.length R W ∧ Below w.heap.size w W ∧ Blk W w.heap.size 42 [.pointer (some ⟨x, 0, none⟩)] ∧ Blk W (w.heap.size + 1) 28 [.slice qa qn qc] ∧
    Blk W b7 57 [.slice (some ⟨gl, 0, none⟩) K K] ∧ Blk W bk 57 [.slice (some ⟨gl, 0, none⟩) K K]
section
variable {w : World} {x : Nat} {qa : Option Addr} {qn qc : Nat} {s : IdxV} {q : List Int} {D : Int} {K gl bf b7 bk : Nat}
theorem chJ_abide {B : Nat} (h1 : w.heap.size + 1 < B) (h2 : b7 < B) (h3 : bk < B) : Abide B (ChJ w x qa qn qc s q D K gl bf b7 bk) := by
  rintro F pre W1 W2 G ⟨R, rfl, e1, e2, e3, e4, e5, e6⟩ hk hG
  refine ⟨R, rfl, e1.keep hk (fun hh => (hG _ hh).1 (by simp)) (fun hh => (hG _ hh).1 (by simp)) (fun b hb hh => (hG _ hh).1 (by simp [hb])), e2.trans (hk.below (fun y hy => by have := (hG y hy).2; omega) e2.size), hk.blk e3 ?_, hk.blk e4 ?_, hk.blk e5 ?_, hk.blk e6 ?_⟩ <;>
    (intro hh; have := (hG _ hh).2; omega)
theorem chJ_reads {F : List Nat} {pre : List (Nat × Value)} {W : World} (h : ChJ w x qa qn qc s q D K gl bf b7 bk F pre W) : BackP bk gl K K (List.replicate K (.slice none 0 0)) pre.length W := by
  obtain ⟨R, -, e1, -, -, -, -, e6⟩ := h
  obtain ⟨-, ⟨cs, r1, r2, r3, -⟩, -⟩ := e1
  refine ⟨e6.cell 0, fun i hi => ?_⟩
  rw [r1.cell, r3 i hi, List.getD_eq_getElem?_getD, List.getElem?_replicate_of_lt (by omega)]
  rfl
end
theorem backZ_get (vs : List Value) : ∀ (m i : Nat), i < m → ∃ v, (backZ vs m)[i]? = some (m - 1 - i, v)
  | m + 1, 0, _ => ⟨_, rfl⟩
  | m + 1, i + 1, h => by
    obtain ⟨v, hv⟩ := backZ_get vs m i (by omega)
    refine ⟨v, ?_⟩
    rw [backZ, List.getElem?_cons_succ, hv]
    congr 2
    omega
theorem back_next {vs : List Value} {K : Nat} {pre : List (Nat × Value)} {y : Nat × Value} (h : pre ++ [y] <+: backZ vs K) : pre.length < K ∧ y.1 = K - 1 - pre.length := by
  obtain ⟨t, ht⟩ := h
  have h1 := congrArg List.length ht
  rw [backZ_len] at h1
  simp at h1
  obtain ⟨v, hv⟩ := backZ_get vs K pre.length (by omega)
  rw [← ht] at hv
  simp at hv
  exact ⟨by omega, by rw [hv]⟩
theorem enters_back12 (args : Array Value) (w : World) : (callFunc 103 args).run Tryz.prog w = .ok (.enter 103 args) w := enters_of Tryz.func103 (by kernel_rfl) rfl args w
set_option maxRecDepth 100000 in
set_option maxHeartbeats 3200000 in
theorem hchoose_any (w : World) (lo x : Nat) (F : List Nat) (s : IdxV) (h : IdxIs w lo x F s) (he : s.EntryOk) (hf : s.g.L.length ≤ 100000) (qa : Option Addr) (qn qc : Nat) (q : List Int) (hq : Reads .i32 w qa qn q) (level : Nat) (hlev : level ≤ 4) :
    CallsIn Fence.wide 10 Tryz.prog 56 #[.pointer (some ⟨x, 0, none⟩), .slice qa qn qc, .int .i64 (level : Int)] w fun e w' => ∃ gl K, e = .returned (.slice (some ⟨gl, 0, none⟩) K K) ∧ K = (min (level : Int) s.topI + 1).toNat ∧ ChosenIs w.heap.size s q (s.down q level) K w' gl ∧ Below w.heap.size w w' := by
  obtain ⟨W0, hW0⟩ : ∃ W0, (w.alloc (.cells #[.pointer (some ⟨x, 0, none⟩)] 42)).alloc (.cells #[.slice qa qn qc] 28) = W0 := ⟨_, rfl⟩
  have b0 : Below w.heap.size w W0 := by rw [← hW0]; exact ((Below.refl _ w).alloc (Nat.le_refl _) _).alloc (by simp) _
  have s0 : W0.heap.size = w.heap.size + 2 := by rw [← hW0]; simp
  have DX : Blk W0 w.heap.size 42 [.pointer (some ⟨x, 0, none⟩)] := by rw [← hW0]; exact (Blk.new _ _ _).alloc _
  have DQ : Blk W0 (w.heap.size + 1) 28 [.slice qa qn qc] := by rw [← hW0]; exact Blk.at_new (World.size_alloc _ _)
  have H0 := h.on b0
  have HH := Lib.hid h
  have CT := Lib.hid (htop_any W0 lo x F s H0)
  obtain ⟨T, hT⟩ : ∃ T, s.topI = T := ⟨_, rfl⟩
  have hT4 : T ≤ 4 ∧ -1 ≤ T := by
    rw [← hT]
    rcases he with h0 | ⟨h0, h1⟩
    · rw [topI_none h0]
      omega
    · obtain ⟨i, hi⟩ := Int.eq_ofNat_of_zero_le h0
      have hil : i < s.g.L.length := by omega
      rw [topI_some hi hil, GraphV.lv_some (List.getElem?_eq_getElem hil)]
      have := h.right.most _ (List.getElem_mem hil)
      omega
  have HB0 := Lib.hid b0
  have HX := Lib.hid DX
  have HQ := Lib.hid DQ
  have HI := Lib.hid H0
  have c0 : W0.cell? ⟨w.heap.size, 0, none⟩ = some (.pointer (some ⟨x, 0, none⟩)) := DX.cell 0
  have c1 : W0.cell? ⟨w.heap.size + 1, 0, none⟩ = some (.slice qa qn qc) := DQ.cell 0
  have HT := Lib.hid hT
  have HE := Lib.hid he
  have HF := Lib.hid hf
  have HQQ := Lib.hid hq
  clear h hT b0 DX DQ H0 he hf hq
  refine callsIn_of_wp_marks Tryz.func56 rfl trivial ?_ rfl
  simp only [Tryz.ntmps56, List.size_toArray, List.length_cons, List.length_nil, Nat.reduceAdd, Nat.reduceSub, Array.replicate_succ, Array.replicate_zero, List.push_toArray, List.append_toArray, List.nil_append, List.cons_append]
  gi_wp2_with (first | (rw [hW0]) | fail)
  refine ⟨by simp [Fence.wide], (callsIn_wide.2 CT.out).mono ?_⟩
  rw [HT.out]
  rintro e w1 ⟨rfl, hb1⟩
  have B1 := Lib.hid (HB0.out.trans (hb1.mono HB0.out.size))
  have hs1 := hb1.size
  have hb1' := Lib.hid hb1
  have X1 := HX.out.of_eq (hb1.block _ HX.out.lt)
  have Q1 := HQ.out.of_eq (hb1.block _ HQ.out.lt)
  clear hb1 CT c0 c1
  gi_wp2_with (fail)
  all_goals
    obtain ⟨K, hK⟩ : ∃ K : Nat, min (level : Int) T + 1 = (K : Int) := ⟨(min (level : Int) T + 1).toNat, by omega⟩
    first
      | rw [show (level : Int) + 1 = (K : Int) from by omega]
      | rw [show T + 1 = (K : Int) from by omega]
    have hK5 : K ≤ 5 := by omega
    have HK := Lib.hid (show K = (min (level : Int) s.topI + 1).toNat from by rw [HT.out]; omega)
    clear hK
    obtain ⟨gl, hgl⟩ : ∃ gl, w1.heap.size = gl := ⟨_, rfl⟩
    obtain ⟨w2, hmk, ho2, hb2⟩ := run_nils w1 w1 K (by omega) (Nat.le_refl _)
    rw [hmk]
    rw [hgl] at ho2 ⊢
    have N2 := nils_blk ho2
    have N2s := hb2.size
    have B2 := Lib.hid (B1.out.trans (hb2.mono B1.out.size))
    have X2 := X1.of_eq (hb2.block _ X1.lt)
    have Q2 := Q1.of_eq (hb2.block _ Q1.lt)
    clear hmk ho2
    have hgs : gl < w2.heap.size := N2.lt
    obtain ⟨b7, hb7⟩ : ∃ b7, w2.heap.size = b7 := ⟨_, rfl⟩
    obtain ⟨w3, hw3⟩ : ∃ w3, w2.alloc (.cells #[.slice (some ⟨gl, 0, none⟩) K K] 57) = w3 := ⟨_, rfl⟩
    have b3 : Below w2.heap.size w2 w3 := by rw [← hw3]; exact (Below.refl _ _).alloc (Nat.le_refl _) _
    have B3 := Lib.hid (B2.out.trans (b3.mono B2.out.size))
    have hs3 : w3.heap.size = b7 + 1 := by rw [← hw3]; simp [hb7]
    have D7 : Blk w3 b7 57 [.slice (some ⟨gl, 0, none⟩) K K] := by rw [← hw3]; exact Blk.at_new hb7
    have X3 := X2.of_eq (b3.block _ X2.lt)
    have Q3 := Q2.of_eq (b3.block _ Q2.lt)
    have N3 := N2.of_eq (b3.block _ N2.lt)
    have c0 : w3.cell? ⟨w.heap.size, 0, none⟩ = some (.pointer (some ⟨x, 0, none⟩)) := X3.cell 0
    have c1 : w3.cell? ⟨w.heap.size + 1, 0, none⟩ = some (.slice qa qn qc) := Q3.cell 0
    have B30 := Lib.hid (show Below W0.heap.size W0 w3 from (hb1'.out.trans (hb2.mono hb1'.out.size)).trans (b3.mono (Nat.le_trans hb1'.out.size hb2.size)))
    have CD := Lib.hid (hdown_any w3 lo x F s (HI.out.on B30.out) HE.out HF.out qa qn qc q (reads_on12 HQQ.out B3.out) level hlev)
    obtain ⟨D, hD⟩ : ∃ D, s.down q level = D := ⟨_, rfl⟩
    rw [hD] at CD
    have HD := Lib.hid hD
    clear hD hb2 b3 X2 Q2 N2
    gi_wp2_with (first | (rw [hw3]) | fail)
    refine ⟨by simp [Fence.wide], (callsIn_wide.2 CD.out).mono ?_⟩
    rintro e w4 ⟨rfl, hb4⟩
    have X4 := X3.of_eq (hb4.block _ X3.lt)
    have Q4 := Q3.of_eq (hb4.block _ Q3.lt)
    have N4 := N3.of_eq (hb4.block _ N3.lt)
    have D4 := D7.of_eq (hb4.block _ D7.lt)
    have B4 := Lib.hid (B3.out.trans (hb4.mono B3.out.size))
    have hs4 := hb4.size
    clear CD c0 c1 X3 Q3 N3 D7
    obtain ⟨gf, hgf⟩ : ∃ gf, w4.heap.size = gf := ⟨_, rfl⟩
    obtain ⟨w5, hw5⟩ : ∃ w5, w4.alloc (.cells #[.int .i64 D] 3) = w5 := ⟨_, rfl⟩
    obtain ⟨w6, hw6⟩ : ∃ w6, w5.alloc (.cells #[.slice (some ⟨gf, 0, none⟩) 1 1] 62) = w6 := ⟨_, rfl⟩
    obtain ⟨bf, hbf⟩ : ∃ bf, w5.heap.size = bf := ⟨_, rfl⟩
    have k46 : Kept [] w4 w6 := by rw [← hw6, ← hw5]; exact ((Kept.refl _ _).alloc _).alloc _
    have k45 : Kept [] w4 w5 := by rw [← hw5]; exact (Kept.refl _ _).alloc _
    have k56 : Kept [] w5 w6 := by rw [← hw6]; exact (Kept.refl _ _).alloc _
    have hs5 : w5.heap.size = gf + 1 := by rw [← hw5]; simp [hgf]
    have hs6 : w6.heap.size = bf + 1 := by rw [← hw6]; simp [hbf]
    have B6 := Lib.hid (B4.out.trans (k46.below (B := w.heap.size) (by simp) B4.out.size))
    have X6 := k46.blk X4 (by simp)
    have Q6 := k46.blk Q4 (by simp)
    have N6 := k46.blk N4 (by simp)
    have D6 := k46.blk D4 (by simp)
    have F6 : Blk w6 bf 62 [.slice (some ⟨gf, 0, none⟩) 1 1] := by rw [← hw6]; exact Blk.at_new hbf
    have c7 : w6.cell? ⟨b7, 0, none⟩ = some (.slice (some ⟨gl, 0, none⟩) K K) := D6.cell 0
    have CB := Lib.hid (back12_any w6 (some ⟨gl, 0, none⟩) K K)
    gi_wp2_with (first | (rw [hw5]) | (rw [hw6]) | fail)
    refine ⟨by simp [Fence.wide], (callsIn_wide.2 CB.out).mono ?_⟩
    rintro e w7 ⟨rfl, hw7⟩
    obtain ⟨bk, hbk⟩ : ∃ bk, w6.heap.size = bk := ⟨_, rfl⟩
    rw [hbk] at CB ⊢
    have k67 : Kept [] w6 w7 := by rw [hw7]; exact (Kept.refl _ _).alloc _
    have hs7 : w7.heap.size = bk + 1 := by rw [hw7]; simp [hbk]
    have B7 := Lib.hid (B6.out.trans (k67.below (B := w.heap.size) (by simp) B6.out.size))
    have K7 : Blk w7 bk 57 [.slice (some ⟨gl, 0, none⟩) K K] := by rw [hw7]; exact Blk.at_new hbk
    have X7 := k67.blk X6 (by simp)
    have Q7 := k67.blk Q6 (by simp)
    have N7 := k67.blk N6 (by simp)
    have D7 := k67.blk D6 (by simp)
    have F7 := k67.blk F6 (by simp)
    have hD5 := HD.out
    have hDB : -1 ≤ D ∧ D < 100000 := by
      rcases down_is HI.out.right HE.out q level with ⟨-, h9⟩ | ⟨_, j, -, -, h9, -, h10⟩
      · rw [hD5] at h9
        omega
      · rw [hD5] at h9
        have := HF.out
        omega
    have R5 : Reads .i64 w5 (some ⟨gf, 0, none⟩) 1 [D] := by
      rw [← hw5, ← hgf]
      exact reads_lit (t := 3) w4 [D] 1 rfl (by decide) (by decide) (fun y hy => by
        rw [List.mem_singleton.1 hy]
        simp [Lit.wf, IntKind.min, IntKind.max, IntKind.signed, IntKind.bits]
        omega)
    have R7 := reads_kept12 (reads_kept12 R5 k56 (by simp)) k67 (by simp)
    have hws := B1.out.size
    have hb27 : w1.heap.size ≤ w2.heap.size := by have := N2s; omega
    have I0 : ChJ w x qa qn qc s q D K gl bf b7 bk [gl, bf, gf] [] w7 := ⟨[gf], rfl, ⟨⟨some ⟨gf, 0, none⟩, 1, 1, F7, R7, by decide, fun p e => by rw [← Option.some.inj e]; simp⟩, ⟨_, N7, by simp, fun j hj => by rw [List.getElem?_replicate_of_lt (by simpa using hj)], fun j h1 h2 => absurd h2 (by simpa using h1)⟩, by simp; omega, by simp; omega, by omega⟩, B7.out, X7, Q7, D7, K7⟩
    have I0' := Lib.hid I0
    clear k46 k45 k56 k67 X4 Q4 N4 D4 X6 Q6 N6 D6 F6 R5 R7 X7 Q7 N7 D7 F7 K7 c7 hw5 hw6 hw7 CB hw3
    gi_wp2_with (fail)
    refine wpIn_givesP (by omega) (gf := 103) (lb := #[.pointer (some ⟨bk, 0, none⟩)]) rfl enters_back12 (back12_gives bk gl K K (List.replicate K (.slice none 0 0)) (by omega)) (fun _ => rfl) (ChJ w x qa qn qc s q D K gl bf b7 bk) (chJ_abide (by omega) (by omega) (by omega)) (fun _ _ _ h => chJ_reads h) [gl, bf, gf] (by simp; omega) I0'.out
      (fun y a' W => ∃ MN : Int, a' = { tmps := #[.pointer (some ⟨x, 0, none⟩), .slice qa qn qc, .int .i64 (level : Int), .pointer (some ⟨w.heap.size, 0, none⟩), .pointer (some ⟨w.heap.size + 1, 0, none⟩), undef, .slice none 0 0, .pointer (some ⟨b7, 0, none⟩), .pointer (some ⟨bf, 0, none⟩), .int .i64 (y.1 : Int), .int .i64 (level : Int), .pointer (some ⟨x, 0, none⟩), .int .i64 T, .int .i64 MN, .int .i64 (K : Int), .slice (some ⟨gl, 0, none⟩) K K, .pointer (some ⟨x, 0, none⟩), .slice qa qn qc, .int .i64 (level : Int), .int .i64 D, .slice (some ⟨gf, 0, none⟩) 1 1, .slice (some ⟨gl, 0, none⟩) K K, .func (.func 103) #[] #[.pointer (some ⟨bk, 0, none⟩)], .int .i64 (y.1 : Int), y.2, undef, undef, undef, undef, undef, undef, undef, undef, undef, undef, undef, undef, undef, undef, undef, undef, undef, undef, undef, undef, undef, undef, undef, undef, undef, undef, undef, undef], defers := [] }) (fun _ _ _ _ h _ => h) ?assign ?body ?done
    case assign =>
      intro l2 y W2 K2 hsz2 hK2
      dsimp only [bkE]
      gi_wp2
      exact hK2 _ _ (Kept.refl [] W2) ⟨_, rfl⟩
    case body =>
      rintro l2 F2 pre y a' W2 h2 ⟨MN, rfl⟩ hsz2 hp
      obtain ⟨R, rfl, j1, j2, j3, j4, j5, j6⟩ := h2
      obtain ⟨hpk, hy1⟩ := back_next hp
      obtain ⟨on, v0⟩ := y
      simp only at hy1
      have hmo : Tryz.prog.follows .mixedOrders = true := by kernel_rfl
      obtain ⟨gg, gm, Fg, Sg, g1, g2, -, -, -, -, -, -, -, gmo, gwi⟩ := HH.out
      have jd := j1.keep ((Kept.refl [] W2).drew) (by simp) (by simp) (by simp)
      obtain ⟨⟨fa, fn, fc, f1, f2, f3, -⟩, -, -⟩ := id jd
      have hbd : Below w.heap.size w W2.drew := j2.drew
      have GX := (Kept.of_below (F := []) hbd (Nat.le_refl _)).blk g1 (by simp)
      have GW := g2.on hbd
      have J1 := Lib.hid jd
      have JD := Lib.hid hbd
      have hlts := jd.lts
      have HGX := Lib.hid GX
      have HXW := Lib.hid g1.lt
      have HG2 := Lib.hid g2
      have HPK := Lib.hid hpk
      have HJ3 := Lib.hid (j3.drew)
      have HJ4 := Lib.hid (j4.drew)
      have HJ5 := Lib.hid (j5.drew)
      have HJ6 := Lib.hid (j6.drew)
      have HGW := Lib.hid GW
      have HMW := Lib.hid (And.intro gmo gwi)
      obtain ⟨HL, hHL⟩ : ∃ HL, s.g.walk q (s.fromI q D K pre.length) (s.width : Int) (on : Int) = HL := ⟨_, rfl⟩
      have WK := Lib.hid (walk_is GW qa qn qc q (reads_on12 HQQ.out hbd) fa fn fc (s.fromI q D K pre.length) f2 f3 (s.width : Int) (on : Int))
      rw [hHL] at WK
      have PL := Lib.hid (walk_places HH.out.right HF.out q (s.fromI q D K pre.length) (s.width : Int) (lev := (on : Int)) (by omega) hHL)
      have HFR := Lib.hid (show natsI (placesV HL) = s.fromI q D K (pre.length + 1) from by rw [← hHL, hy1]; rfl)
      have cf : W2.drew.cell? ⟨bf, 0, none⟩ = some (.slice fa fn fc) := f1.cell 0
      have e0 : ChS w.heap.size x gg qa qn qc s.width s.most W2.drew := ⟨j3.drew.cell 0, j4.drew.cell 0, GX.cell 3, GX.cell 2, GX.cell 1⟩
      have HSK := Lib.hid (fun (X : World) (G : List Nat) (hk : Kept G W2.drew X) (h1 : w.heap.size ∉ G) (h2 : w.heap.size + 1 ∉ G) (h3 : x ∉ G) => show ChS w.heap.size x gg qa qn qc s.width s.most X from
        ⟨(hk.blk HJ3.out h1).cell 0, (hk.blk HJ4.out h2).cell 0, (hk.blk HGX.out h3).cell 3, (hk.blk HGX.out h3).cell 2, (hk.blk HGX.out h3).cell 1⟩)
      clear j1 j2 j3 j4 j5 j6 g1 g2 gmo gwi GX GW f1 f2 f3 jd hbd hp I0 hHL
      have HY1 := Lib.hid (show on = K - 1 - pre.length from hy1)
      clear hy1
      gi_wp2_with (fail)
      refine region_round (S := ChS w.heap.size x gg qa qn qc s.width s.most) hmo (by decide) (fun ⟨_, _, hh⟩ => hh) e0 (fun hHeld => ?_)
      refine takeH (i := 0) (v := ?_) rfl (by kernel_rfl) (by kernel_rfl) (by kernel_rfl) (fun _ _ _ h => h) (Or.inl ⟨by rfl, ?yld0⟩) hHeld ?_
      case yld0 =>
        intro X hSX
        obtain ⟨z0, z1, z2, z3, z4⟩ := hSX
        first | (go_simp; done) | (go_simp; with_reducible rfl)
      try simp only [Act.put, List.setIfInBounds_toArray, List.set_cons_zero, List.set_cons_succ]
      refine takeH (i := 1) (v := ?_) rfl (by kernel_rfl) (by kernel_rfl) (by kernel_rfl) (fun _ _ _ h => h) (Or.inl ⟨by rfl, ?yld1⟩) hHeld ?_
      case yld1 =>
        intro X hSX
        obtain ⟨z0, z1, z2, z3, z4⟩ := hSX
        first | (go_simp; done) | (go_simp; with_reducible rfl)
      try simp only [Act.put, List.setIfInBounds_toArray, List.set_cons_zero, List.set_cons_succ]
      refine takeH (i := 2) (v := ?_) rfl (by kernel_rfl) (by kernel_rfl) (by kernel_rfl) (fun _ _ _ h => h) (Or.inl ⟨by rfl, ?yld2⟩) hHeld ?_
      case yld2 =>
        intro X hSX
        obtain ⟨z0, z1, z2, z3, z4⟩ := hSX
        first | (go_simp; done) | (go_simp; with_reducible rfl)
      try simp only [Act.put, List.setIfInBounds_toArray, List.set_cons_zero, List.set_cons_succ]
      refine takeH (i := 3) (v := ?_) rfl (by kernel_rfl) (by kernel_rfl) (by kernel_rfl) (fun _ _ _ h => h) (Or.inl ⟨by rfl, ?yld3⟩) hHeld ?_
      case yld3 =>
        intro X hSX
        obtain ⟨z0, z1, z2, z3, z4⟩ := hSX
        first | (go_simp; done) | (go_simp; with_reducible rfl)
      try simp only [Act.put, List.setIfInBounds_toArray, List.set_cons_zero, List.set_cons_succ]
      refine takeH (i := 4) (v := ?_) rfl (by kernel_rfl) (by kernel_rfl) (by kernel_rfl) (fun _ _ _ h => h) (Or.inl ⟨by rfl, ?yld4⟩) hHeld ?_
      case yld4 =>
        intro X hSX
        obtain ⟨z0, z1, z2, z3, z4⟩ := hSX
        first | (go_simp; done) | (go_simp; with_reducible rfl)
      try simp only [Act.put, List.setIfInBounds_toArray, List.set_cons_zero, List.set_cons_succ]
      refine takeH (i := 6) (v := ?_) rfl (by kernel_rfl) (by kernel_rfl) (by kernel_rfl) (fun _ _ _ h => h) (Or.inl ⟨by rfl, ?yld5⟩) hHeld ?_
      case yld5 =>
        intro X hSX
        obtain ⟨z0, z1, z2, z3, z4⟩ := hSX
        first | (go_simp; done) | (go_simp; with_reducible rfl)
      try simp only [Act.put, List.setIfInBounds_toArray, List.set_cons_zero, List.set_cons_succ]
      refine takeH (i := 7) (v := ?_) rfl (by kernel_rfl) (by kernel_rfl) (by kernel_rfl) (fun _ _ _ h => h) (Or.inl ⟨by rfl, ?yld6⟩) hHeld ?_
      case yld6 =>
        intro X hSX
        obtain ⟨z0, z1, z2, z3, z4⟩ := hSX
        first | (go_simp; done) | (go_simp; with_reducible rfl)
      try simp only [Act.put, List.setIfInBounds_toArray, List.set_cons_zero, List.set_cons_succ]
      refine takeH (i := 8) (v := ?_) rfl (by kernel_rfl) (by kernel_rfl) (by kernel_rfl) (fun _ _ _ h => h) (Or.inl ⟨by rfl, ?yld7⟩) hHeld ?_
      case yld7 =>
        intro X hSX
        obtain ⟨z0, z1, z2, z3, z4⟩ := hSX
        first | (go_simp; done) | (go_simp; with_reducible rfl)
      try simp only [Act.put, List.setIfInBounds_toArray, List.set_cons_zero, List.set_cons_succ]
      refine takeH (i := 9) (v := ?_) rfl (by kernel_rfl) (by kernel_rfl) (by kernel_rfl) (fun _ _ _ h => h) (Or.inl ⟨by rfl, ?yld8⟩) hHeld ?_
      case yld8 =>
        intro X hSX
        obtain ⟨z0, z1, z2, z3, z4⟩ := hSX
        first | (go_simp; done) | (go_simp; with_reducible rfl)
      try simp only [Act.put, List.setIfInBounds_toArray, List.set_cons_zero, List.set_cons_succ]
      refine takeH (i := 10) (v := ?_) rfl (by kernel_rfl) (by kernel_rfl) (by kernel_rfl) (fun _ _ _ h => h) (Or.inl ⟨by rfl, ?yld9⟩) hHeld ?_
      case yld9 =>
        intro X hSX
        obtain ⟨z0, z1, z2, z3, z4⟩ := hSX
        first | (go_simp; done) | (go_simp; with_reducible rfl)
      try simp only [Act.put, List.setIfInBounds_toArray, List.set_cons_zero, List.set_cons_succ]
      refine oneH (i := 5) rfl (by kernel_rfl) (fun Kq hKq => ?_)
      go_simp
      refine hKq.out _ _ hHeld (fun _ => ?_)
      clear hKq Kq
      try simp only [Act.put, List.setIfInBounds_toArray, List.set_cons_zero, List.set_cons_succ]
      refine oneH (i := 11) rfl (by kernel_rfl) (fun Kq hKq => ?_)
      go_simp
      refine WK.out.mono ?_
      rintro e w8 ⟨gh, nh, rfl, ho8, hb8, -⟩
      have hb8' := Lib.hid hb8
      have S8 := HSK.out w8 [] (Kept.of_below hb8 (Nat.le_refl _)) (by simp) (by simp) (by simp)
      obtain ⟨_, hnl, -⟩ := ho8.blk
      have hnl' := hnl.symm
      have CP := Lib.hid (places_any w8 gh nh HL hnl' (by have := PL.out.2.1; omega) PL.out.1 ho8)
      clear ho8 hb8 hnl hnl' WK
      dsimp only
      refine hKq.out _ _ S8 (fun _ => ?_)
      clear hKq Kq S8
      try simp only [Act.put, List.setIfInBounds_toArray, List.set_cons_zero, List.set_cons_succ]
      refine oneH (i := 12) rfl (by kernel_rfl) (fun Kq hKq => ?_)
      go_simp
      refine CP.out.mono ?_
      rintro e w9 ⟨gp, rfl, ho9, hb9⟩
      have hb29 : Below W2.drew.heap.size W2.drew w9 := hb8'.out.trans (hb9.mono hb8'.out.size)
      have HB9 := Lib.hid hb29
      have S9 := HSK.out w9 [] (Kept.of_below hb29 (Nat.le_refl _)) (by simp) (by simp) (by simp)
      have J9 := Lib.hid (J1.out.setFrom hb29 (IntsAt.mk (own_on ho9.own hb8'.out.size (Below.refl _ _))) HFR.out (by have := PL.out.2.1; simpa [placesV] using (by omega : HL.length ≤ 100000)) (fun j hj => by have := (PL.out.2.2 j hj).2; have := HF.out; omega))
      have cf9 : w9.cell? ⟨bf, 0, none⟩ = some (.slice fa fn fc) := (hb29.cell (p := ⟨bf, 0, none⟩) hlts.2).trans cf
      have ff9 : w9.frozen? ⟨bf, 0, none⟩ = false := by
        obtain ⟨⟨_, _, _, f1, -⟩, -, -⟩ := J1.out.on hb29
        exact f1.frozen 0
      have HGP := Lib.hid (show W2.heap.size ≤ gp from Nat.le_trans hb8'.out.size (World.ownsRow.lt ho9.own gp rfl).1)
      clear ho9 hb9 hb29 CP cf
      dsimp only
      refine hKq.out _ _ S9 (fun _ => ?_)
      clear hKq Kq S9
      try simp only [Act.put, List.setIfInBounds_toArray, List.set_cons_zero, List.set_cons_succ]
      refine oneH (i := 13) rfl (by kernel_rfl) (fun Kq hKq => ?_)
      go_simp
      obtain ⟨w10, hw10⟩ : ∃ w10, w9.setCell ⟨bf, 0, none⟩ (.slice (some ⟨gp, 0, none⟩) nh nh) = w10 := ⟨_, rfl⟩
      rw [hw10]
      have K10 : Kept [bf] W2.drew w10 := by rw [← hw10]; exact (Kept.of_below HB9.out (Nat.le_refl _)).setCell _ _ (.inl (by simp))
      have hxw := HXW.out
      have J10 := Lib.hid (show ChI s q D K w.heap.size gl bf (pre.length + 1) pre.length (gp :: R) w10.drew from by
        rw [← hw10]
        exact J9.out.keep ((Kept.refl [] _).drew) (by simp) (by simp) (by simp))
      have n1 : w.heap.size ∉ [bf] := by simp; omega
      have n2 : w.heap.size + 1 ∉ [bf] := by simp; omega
      have n3 : x ∉ [bf] := by simp; omega
      have n4 : b7 ∉ [bf] := by simp; omega
      have S10 := HSK.out w10 [bf] K10 n1 n2 n3
      refine hKq.out _ _ S10 (fun _ => ?_)
      clear hKq Kq cf9 ff9 hw10 S10 hHeld e0
      refine wpAnyH_done (by kernel_rfl) ?_ _
      have K10d : Kept [bf] W2.drew w10.drew := K10.drew
      have BD := JD.out.trans (K10d.below (B := w.heap.size) (by simp; omega) JD.out.size)
      obtain ⟨⟨fa2, fn2, fc2, f1, f2, f3, -⟩, -, -⟩ := J10.out
      have S6 : ChS6 w.heap.size x gg qa qn qc s.width s.most b7 gl K bf fa2 fn2 fc2 w10.drew := ⟨HSK.out w10.drew [bf] K10d n1 n2 n3, (K10d.blk HJ5.out n4).cell 0, f1.cell 0⟩
      have HS6 := Lib.hid (fun (X : World) (G : List Nat) (hk : Kept G w10.drew X) (h1 : w.heap.size ∉ G) (h2 : w.heap.size + 1 ∉ G) (h3 : x ∉ G) (h4 : b7 ∉ G) (h5 : bf ∉ G) => show ChS6 w.heap.size x gg qa qn qc s.width s.most b7 gl K bf fa2 fn2 fc2 X from by
        obtain ⟨⟨fa3, fn3, fc3, f4, -⟩, -, -⟩ := J10.out
        have e9 : Value.slice fa3 fn3 fc3 = .slice fa2 fn2 fc2 := Option.some.inj ((f4.cell 0).symm.trans (f1.cell 0))
        have HF4 := f4
        rw [e9] at HF4
        exact ⟨⟨(hk.blk (K10d.blk HJ3.out n1) h1).cell 0, (hk.blk (K10d.blk HJ4.out n2) h2).cell 0, (hk.blk (K10d.blk HGX.out n3) h3).cell 3, (hk.blk (K10d.blk HGX.out n3) h3).cell 2, (hk.blk (K10d.blk HGX.out n3) h3).cell 1⟩, (hk.blk (K10d.blk HJ5.out n4) h4).cell 0, (hk.blk HF4 h5).cell 0⟩)
      have CC := Lib.hid (choose_is11 (HG2.out.on BD) qa qn qc q (reads_on12 HQQ.out BD) fa2 fn2 fc2 (s.fromI q D K (pre.length + 1)) f2 f3 (s.most : Int) (by have := HMW.out.1; show (s.most : Int) ≤ _; omega))
      rw [Int.toNat_natCast] at CC
      have hon0 : (0 : Int) ≤ (on : Int) := by omega
      have hon1 : (on : Int) < (K : Int) := by have := HY1.out; omega
      have HK10 := Lib.hid K10
      have HBD := Lib.hid BD
      clear f1 f2 f3 K10 K10d BD n1 n2 n3 n4
      gi_wp2_with (fail)
      refine region_round (S := ChS6 w.heap.size x gg qa qn qc s.width s.most b7 gl K bf fa2 fn2 fc2) hmo (by decide) (fun ⟨_, _, hh⟩ => hh) S6 (fun hHeld => ?_)
      refine takeH (i := 0) (v := ?_) rfl (by kernel_rfl) (by kernel_rfl) (by kernel_rfl) (fun _ _ _ h => h) (Or.inl ⟨by rfl, ?yel0⟩) hHeld ?_
      case yel0 =>
        intro X hSX
        obtain ⟨⟨z0, z1, z2, z3, z4⟩, z5, z6⟩ := hSX
        first | (go_simp; done) | (go_simp; with_reducible rfl)
      try simp only [Act.put, List.setIfInBounds_toArray, List.set_cons_zero, List.set_cons_succ]
      refine takeH (i := 1) (v := ?_) rfl (by kernel_rfl) (by kernel_rfl) (by kernel_rfl) (fun _ _ _ h => h) (Or.inl ⟨by rfl, ?yel1⟩) hHeld ?_
      case yel1 =>
        intro X hSX
        obtain ⟨⟨z0, z1, z2, z3, z4⟩, z5, z6⟩ := hSX
        first | (go_simp; done) | (go_simp; with_reducible rfl)
      try simp only [Act.put, List.setIfInBounds_toArray, List.set_cons_zero, List.set_cons_succ]
      refine takeH (i := 2) (v := ?_) rfl (by kernel_rfl) (by kernel_rfl) (by kernel_rfl) (fun _ _ _ h => h) (Or.inl ⟨by rfl, ?yel2⟩) hHeld ?_
      case yel2 =>
        intro X hSX
        obtain ⟨⟨z0, z1, z2, z3, z4⟩, z5, z6⟩ := hSX
        first | (go_simp; done) | (go_simp; with_reducible rfl)
      try simp only [Act.put, List.setIfInBounds_toArray, List.set_cons_zero, List.set_cons_succ]
      refine takeH (i := 3) (v := ?_) rfl (by kernel_rfl) (by kernel_rfl) (by kernel_rfl) (fun _ _ _ h => h) (Or.inl ⟨by rfl, ?yel3⟩) hHeld ?_
      case yel3 =>
        intro X hSX
        obtain ⟨⟨z0, z1, z2, z3, z4⟩, z5, z6⟩ := hSX
        first | (go_simp; done) | (go_simp; with_reducible rfl)
      try simp only [Act.put, List.setIfInBounds_toArray, List.set_cons_zero, List.set_cons_succ]
      refine takeH (i := 4) (v := ?_) rfl (by kernel_rfl) (by kernel_rfl) (by kernel_rfl) (fun _ _ _ h => h) (Or.inl ⟨by rfl, ?yel4⟩) hHeld ?_
      case yel4 =>
        intro X hSX
        obtain ⟨⟨z0, z1, z2, z3, z4⟩, z5, z6⟩ := hSX
        first | (go_simp; done) | (go_simp; with_reducible rfl)
      try simp only [Act.put, List.setIfInBounds_toArray, List.set_cons_zero, List.set_cons_succ]
      refine takeH (i := 5) (v := ?_) rfl (by kernel_rfl) (by kernel_rfl) (by kernel_rfl) (fun _ _ _ h => h) (Or.inl ⟨by rfl, ?yel5⟩) hHeld ?_
      case yel5 =>
        intro X hSX
        obtain ⟨⟨z0, z1, z2, z3, z4⟩, z5, z6⟩ := hSX
        first | (go_simp; done) | (go_simp; with_reducible rfl)
      try simp only [Act.put, List.setIfInBounds_toArray, List.set_cons_zero, List.set_cons_succ]
      refine takeH (i := 6) (v := ?_) rfl (by kernel_rfl) (by kernel_rfl) (by kernel_rfl) (fun _ _ _ h => h) (Or.inl ⟨by rfl, ?yel6⟩) hHeld ?_
      case yel6 =>
        intro X hSX
        obtain ⟨⟨z0, z1, z2, z3, z4⟩, z5, z6⟩ := hSX
        first | (go_simp; done) | (go_simp; with_reducible rfl)
      try simp only [Act.put, List.setIfInBounds_toArray, List.set_cons_zero, List.set_cons_succ]
      refine takeH (i := 7) (v := ?_) rfl (by kernel_rfl) (by kernel_rfl) (by kernel_rfl) (fun _ _ _ h => h) (Or.inl ⟨by rfl, ?yel7⟩) hHeld ?_
      case yel7 =>
        intro X hSX
        obtain ⟨⟨z0, z1, z2, z3, z4⟩, z5, z6⟩ := hSX
        first | (go_simp; done) | (go_simp; with_reducible rfl)
      try simp only [Act.put, List.setIfInBounds_toArray, List.set_cons_zero, List.set_cons_succ]
      refine takeH (i := 8) (v := ?_) rfl (by kernel_rfl) (by kernel_rfl) (by kernel_rfl) (fun _ _ _ h => h) (Or.inl ⟨by rfl, ?yel8⟩) hHeld ?_
      case yel8 =>
        intro X hSX
        obtain ⟨⟨z0, z1, z2, z3, z4⟩, z5, z6⟩ := hSX
        first | (go_simp; done) | (go_simp; with_reducible rfl)
      try simp only [Act.put, List.setIfInBounds_toArray, List.set_cons_zero, List.set_cons_succ]
      refine takeH (i := 9) (v := ?_) rfl (by kernel_rfl) (by kernel_rfl) (by kernel_rfl) (fun _ _ _ h => h) (Or.inl ⟨by rfl, ?yel9⟩) hHeld ?_
      case yel9 =>
        intro X hSX
        obtain ⟨⟨z0, z1, z2, z3, z4⟩, z5, z6⟩ := hSX
        first | (go_simp; done) | (go_simp; with_reducible rfl)
      try simp only [Act.put, List.setIfInBounds_toArray, List.set_cons_zero, List.set_cons_succ]
      refine takeH (i := 10) (v := ?_) rfl (by kernel_rfl) (by kernel_rfl) (by kernel_rfl) (fun _ _ _ h => h) (Or.inl ⟨by rfl, ?yel10⟩) hHeld ?_
      case yel10 =>
        intro X hSX
        obtain ⟨⟨z0, z1, z2, z3, z4⟩, z5, z6⟩ := hSX
        first | (go_simp; done) | (go_simp; with_reducible rfl)
      try simp only [Act.put, List.setIfInBounds_toArray, List.set_cons_zero, List.set_cons_succ]
      refine takeH (i := 11) (v := ?_) rfl (by kernel_rfl) (by kernel_rfl) (by kernel_rfl) (fun _ _ _ h => h) (Or.inl ⟨by rfl, ?yel11⟩) hHeld ?_
      case yel11 =>
        intro X hSX
        obtain ⟨⟨z0, z1, z2, z3, z4⟩, z5, z6⟩ := hSX
        first | (go_simp; done) | (go_simp; with_reducible rfl)
      try simp only [Act.put, List.setIfInBounds_toArray, List.set_cons_zero, List.set_cons_succ]
      refine oneH (i := 12) rfl (by kernel_rfl) (fun Kq hKq => ?_)
      go_simp
      refine CC.out.mono ?_
      rintro e w11 ⟨cv, rfl, ho11, hb11⟩
      have HB11 := Lib.hid hb11
      have S11 := HS6.out w11 [] (Kept.of_below hb11 (Nat.le_refl _)) (by simp) (by simp) (by simp) (by simp) (by simp)
      have J11 := Lib.hid (J10.out.setRow hb11 (v := cv) ho11 HBD.out.size HPK.out)
      have HCV := Lib.hid (fun k hk => (World.ownsRow.lt ho11.own k hk).1)
      obtain ⟨ca, cn, cc, ecv, -⟩ := ho11.parts
      obtain ⟨u11, cu11, fu11⟩ : ∃ u, w11.cell? ⟨gl, on, none⟩ = some u ∧ w11.frozen? ⟨gl, on, none⟩ = false := by
        obtain ⟨-, ⟨cs, r1, r2, -⟩, -⟩ := J10.out.on hb11
        have hlo : on < cs.length := by omega
        exact ⟨cs[on], by rw [r1.cell, List.getElem?_eq_getElem], r1.frozen _⟩
      rw [← HY1.out] at J11
      subst ecv
      clear ho11 hb11 CC S6
      dsimp only
      refine hKq.out _ _ S11 (fun hH11 => ?_)
      clear hKq Kq S11
      try simp only [Act.put, List.setIfInBounds_toArray, List.set_cons_zero, List.set_cons_succ]
      refine takeH (i := 13) (v := ?_) rfl (by kernel_rfl) (by kernel_rfl) (by kernel_rfl) (fun _ _ _ h => h) (Or.inl ⟨by rfl, ?yel13⟩) hH11 ?_
      case yel13 =>
        intro X hSX
        obtain ⟨⟨z0, z1, z2, z3, z4⟩, z5, z6⟩ := hSX
        first | (go_simp; done) | (go_simp; with_reducible rfl)
      try simp only [Act.put, List.setIfInBounds_toArray, List.set_cons_zero, List.set_cons_succ]
      refine oneH (i := 14) rfl (by kernel_rfl) (fun Kq hKq => ?_)
      go_simp
      obtain ⟨w12, hw12⟩ : ∃ w12, w11.setCell ⟨gl, on, none⟩ (.slice ca cn cc) = w12 := ⟨_, rfl⟩
      rw [hw12]
      have K12 : Kept [gl] w10.drew w12 := by rw [← hw12]; exact (Kept.of_below HB11.out (Nat.le_refl _)).setCell _ _ (.inl (by simp))
      have hxw := HXW.out
      have m1 : w.heap.size ∉ [gl] := by simp; omega
      have m2 : w.heap.size + 1 ∉ [gl] := by simp; omega
      have m3 : x ∉ [gl] := by simp; omega
      have m4 : b7 ∉ [gl] := by simp; omega
      have m5 : bf ∉ [gl] := by simp; omega
      refine hKq.out _ _ (HS6.out w12 [gl] K12 m1 m2 m3 m4 m5) (fun _ => ?_)
      clear hKq Kq
      refine wpAnyH_done (by kernel_rfl) ?_ _
      have KA : Kept (gl :: bf :: R) W2 w12 := (((Kept.refl [] W2).drew.mono (G := gl :: bf :: R) (by simp)).trans ((HK10.out.drew).mono (G := gl :: bf :: R) (by simp)) (Grows.refl _ _)).trans (K12.mono (G := gl :: bf :: R) (by simp)) (Grows.refl _ _)
      have KB : Kept [gl, bf] W2.drew w12 := ((HK10.out.drew).mono (G := [gl, bf]) (by simp)).trans (K12.mono (G := [gl, bf]) (by simp)) (Grows.refl _ _)
      have p1 : w.heap.size ∉ [gl, bf] := by simp; omega
      have p2 : w.heap.size + 1 ∉ [gl, bf] := by simp; omega
      have p4 : b7 ∉ [gl, bf] := by simp; omega
      have p5 : bk ∉ [gl, bf] := by simp; omega
      have hlen : (pre ++ [(on, v0)]).length = pre.length + 1 := by simp
      have hsz : W2.heap.size ≤ w10.drew.heap.size := HK10.out.size
      refine ⟨gl :: bf :: (ownB (.slice ca cn cc) ++ gp :: R), ⟨_, rfl, ?_, JD.out.trans (KB.below (B := w.heap.size) (by simp; omega) JD.out.size), KB.blk HJ3.out p1, KB.blk HJ4.out p2, KB.blk HJ5.out p4, KB.blk HJ6.out p5⟩, KA, ?_⟩
      · rw [hlen, ← hw12]
        exact J11.out
      · intro k hk
        simp only [List.mem_cons, List.mem_append] at hk
        rcases hk with rfl | rfl | hk | rfl | hk
        · exact .inl (by simp)
        · exact .inl (by simp)
        · exact .inr (Nat.le_trans hsz (HCV.out k (mem_ownB.1 hk)))
        · exact .inr HGP.out
        · exact .inl (by simp [hk])
    case done =>
      intro Dd F2 W2 hDd hF2 h2 hh
      obtain ⟨R, rfl, j1, j2, j3, j4, j5, j6⟩ := h2
      rw [backZ_len] at j1
      have c7 : W2.cell? ⟨b7, 0, none⟩ = some (.slice (some ⟨gl, 0, none⟩) K K) := j5.cell 0
      have CI := Lib.hid (fun (o : Obj) => (j1.keep (put_kept W2 Dd o) (fun e => hF2 gl (by simp) (List.mem_singleton.1 e)) (fun e => hF2 bf (by simp) (List.mem_singleton.1 e)) (fun b hb e => hF2 b (by simp [hb]) (List.mem_singleton.1 e))).done (by omega))
      have JB := Lib.hid j2
      have KD := Lib.hid hh
      clear j1 j2 j3 j4 j5 j6 I0 hh
      gi_wp2
      refine ⟨by simp, .inl ⟨_, _, rfl, run_takeDeferred KD.out, ?_⟩⟩
      refine ⟨_, results_tmp rfl _ _ _, gl, K, rfl, HK.out, ?_, ?_⟩
      · rw [HD.out]
        exact CI.out _
      · exact JB.out.trans ((put_kept W2 Dd _).below (fun y hy => by have := List.mem_singleton.1 hy; omega) JB.out.size)
end

section
open Go.RowKit Go.ChangeShapes Go.WideShapes Go.ChangeAt Go.Maps

theorem topN_nat {level : Nat} (h : level ≤ 4) : topN (level : Int) = level := by unfold topN; omega
set_option maxRecDepth 100000 in
set_option maxHeartbeats 3200000 in
theorem hadd_any (w : World) (lo x : Nat) (F : List Nat) (s : IdxV) (h : IdxIs w lo x F s) (hlo : lo ≤ w.heap.size) (hfew : s.g.L.length < 100000) (y : ItL) (hy : y.In (fun _ => True) w) (level : Nat) (hlev : level ≤ 4) (v u : Nat) (hv : v < 18446744073709551616) (hu : u < 18446744073709551616) (hN : u = 0 → s.g.cutB y.id = false) :
    Calls Tryz.prog 57 #[.pointer (some ⟨x, 0, none⟩), .agg y.cells.toArray, .int .i64 (level : Int), .int .u64 (v : Int), .int .u64 (u : Int)] w fun e w' => e = .returned (.int .i64 (s.g.L.length : Int)) ∧ HPost lo x F (s.add (nodeN y level v u)) w w' := by
  obtain ⟨wb, hwb⟩ : ∃ wb, w.alloc (.cells #[.int .u32 (y.id : Int), .slice y.pv.1 y.pv.2.1 y.pv.2.2, .slice y.pt.1 y.pt.2.1 y.pt.2.2] 31) = wb := ⟨_, rfl⟩
  have bb : Below w.heap.size w wb := by rw [← hwb]; exact (Below.refl _ w).alloc (Nat.le_refl _) _
  have Db : Blk wb w.heap.size 31 [.int .u32 (y.id : Int), .slice y.pv.1 y.pv.2.1 y.pv.2.2, .slice y.pt.1 y.pt.2.1 y.pt.2.2] := by rw [← hwb]; exact Blk.new _ _ _
  have CT := Lib.hid (htop_any wb lo x F s (h.on bb))
  have HLT := Lib.hid h.lt
  obtain ⟨gg, gm, Fg, S, h1, h2, h3, rfl, h4, h5, h6, h7, h8, h9, h10⟩ := h
  have c3 : w.cell? ⟨x, 3, none⟩ = some (.pointer (some ⟨gg, 0, none⟩)) := h1.cell 3
  obtain ⟨N, hNN⟩ : ∃ N, s.g.L.length = N := ⟨_, rfl⟩
  obtain ⟨T, hT⟩ : ∃ T, s.topI = T := ⟨_, rfl⟩
  have HBB := Lib.hid bb
  have HDB := Lib.hid Db
  have HTT := Lib.hid hT
  have HNL := Lib.hid hNN
  have HX1 := Lib.hid h1
  have HX3 := Lib.hid (fun (wt : World) (hb : Below w.heap.size w wt) => show wt.cell? ⟨x, 3, none⟩ = some (.pointer (some ⟨gg, 0, none⟩)) from ((Kept.of_below (F := []) hb (Nat.le_refl _)).blk h1 (by simp)).cell 3)
  have CA := Lib.hid (fun (wt : World) (hb : Below w.heap.size w wt) => show Calls Tryz.prog 102 #[.pointer (some ⟨gg, 0, none⟩), .agg #[.int .u32 (y.id : Int), .slice y.pv.1 y.pv.2.1 y.pv.2.2, .slice y.pt.1 y.pt.2.1 y.pt.2.2], .int .i64 (level : Int), .int .u64 (v : Int)] wt fun e w3 => e = .returned (.int .i64 (N : Int)) ∧ ∃ F3, GraphIs w3 lo gg F3 (s.g.add (newN y.id y.vec y.tags level v)) ∧ Kept Fg wt w3 ∧ Grows wt Fg F3 from by
    have h9 := add_any11 wt lo gg Fg s.g (h2.on hb) (Nat.le_trans hlo hb.size) hfew y (ItL.In.stay hy hb.size (fun k _ hk => hb.block k hk) (fun _ _ _ => trivial)) (level : Int) v hv
    unfold AddPost11 at h9
    rw [topN_nat hlev, hNN] at h9
    exact h9)
  have HM := Lib.hid (fun (wt w4 : World) (F3 : List Nat) (hb : Below w.heap.size w wt) (k4 : Kept Fg wt w4) (g3 : Grows wt Fg F3) => IdxIs.mid h1 h3 h6 h7 h8 hb k4 g3)
  have HU := Lib.hid hu
  have HLV := Lib.hid hlev
  have hlv4 : level ≤ 4 := hlev
  rw [hNN]
  show Calls _ _ #[_, .agg #[.int .u32 (y.id : Int), .slice y.pv.1 y.pv.2.1 y.pv.2.2, .slice y.pt.1 y.pt.2.1 y.pt.2.2], _, _, _] _ _
  by_cases hu0 : u = 0
  · subst hu0
    rw [show ((0 : Nat) : Int) = 0 from rfl]
    have hcb := hN rfl
    have HNO := Lib.hid (stE_not (h3.none hcb))
    have HSL := Lib.hid (show (stE S).length ≤ 1000000 from by have := h3.len; omega)
    have HID := Lib.hid hy.hid
    have HFGM := Lib.hid (show w.heap.size ≠ gm from fun e => by have := h3.map.lt; omega)
    have HFG := Lib.hid (show w.heap.size ∉ Fg from fun hh => by have := (h2.lt _ hh).2; omega)
    have FIN := Lib.hid (fun (wt w4 w5 : World) (F3 : List Nat) (vv : Value) (hb : Below w.heap.size w wt) (k4 : Kept Fg wt w4) (g3 : Grows wt Fg F3) (hg4 : GraphIs w4 lo gg F3 (s.g.add (nodeN y level v 0))) (k5 : Kept [gm] w4 w5) (hM : MapE w5 Tryz.prog 27 gm (putE (stE S) (key32 y.id) vv)) (hr : IntsAt w4.heap.size w5 vv [N]) => show HPost lo x (x :: gm :: (Fg ++ fpS S)) { s with g := s.g.add (nodeN y level v 0) } w w5 ∧ ∀ i : Int, HPost lo x (x :: gm :: (Fg ++ fpS S)) { s with g := s.g.add (nodeN y level v 0), entry := i } w (w5.setCell ⟨x, 4, none⟩ (.int .i64 i)) from by
      obtain ⟨e1, e2, e3, e4, e5, e6, e7, e8, e9, e10, e11⟩ := IdxIs.mid h1 h3 h6 h7 h8 hb k4 g3
      have hxg : x ≠ gm := fun e => MapE.ne_blk h3.map h1 e.symm
      rw [put_absent (stE_not (h3.none hcb))] at hM
      have e2' : StIs w5 lo gm (s.g.add (nodeN y level v 0)) (S ++ [⟨y.id, s.g.L.length, vv⟩]) := by
        refine StIs.one_more (w := w5) (gm := gm) (g := s.g) e2 (fun t ht => ?_) (by rw [add_keys]; simp [nodeN]) hM (by rw [hNN]; exact RowC.mono hr (Nat.le_trans hlo e8))
        exact IntsAt.mk (k5.own (e2.row t ht).own fun k e => by
          rw [List.mem_singleton]
          rintro rfl
          exact ints_not_map (e2.row t ht) e2.map (mem_ownB.2 e))
      exact IdxIs.addFin e1 hg4 rfl hxg e3 e4 e5 e6 e7 e8 h4 h5 h9 h10 e9 k5 e2' (fun b hb => by
        unfold fpS at hb
        rw [List.flatMap_append, List.mem_append] at hb
        rcases hb with hb | hb
        · exact .inl hb
        · simp only [List.flatMap_cons, List.flatMap_nil, List.append_nil] at hb
          exact .inr (World.ownsRow.lt hr.own b (mem_ownB.1 hb)).1) (fun hx => by
        unfold fpS at hx
        rw [List.flatMap_append, List.mem_append] at hx
        rcases hx with hx | hx
        · obtain ⟨t, ht, hb⟩ := List.mem_flatMap.1 hx
          exact row_not_blk (h3.row t ht).own h1 (by decide) (mem_ownB.1 hb)
        · simp only [List.flatMap_cons, List.flatMap_nil, List.append_nil] at hx
          have := (World.ownsRow.lt hr.own x (mem_ownB.1 hx)).1
          omega))
    clear h1 h2 h3 h4 h5 h6 h7 h8 h9 h10 bb Db hy hT hNN hfew hN hlev hcb
    go_enter Tryz.func57, Tryz.ntmps57
    go_wp2_with (first | (rw [hwb]) | fail)
    refine CT.out.mono ?_
    rintro e wt ⟨rfl, hbt⟩
    rw [HTT.out]
    have HBT := Lib.hid (HBB.out.trans (hbt.mono HBB.out.size))
    have X3 := HX3.out wt HBT.out
    have DT := Lib.hid ((Kept.of_below (F := []) hbt (Nat.le_refl _)).blk HDB.out (by simp))
    have k0 : wt.cell? ⟨w.heap.size, 0, none⟩ = some (.int .u32 (y.id : Int)) := DT.out.cell 0
    have k1 : wt.cell? ⟨w.heap.size, 1, none⟩ = some (.slice y.pv.1 y.pv.2.1 y.pv.2.2) := DT.out.cell 1
    have k2 : wt.cell? ⟨w.heap.size, 2, none⟩ = some (.slice y.pt.1 y.pt.2.1 y.pt.2.2) := DT.out.cell 2
    have HBD := Lib.hid (HBT.out.trans ((Below.refl wt.heap.size wt).drew.mono HBT.out.size))
    have CA1 := Lib.hid (CA.out wt.drew HBD.out)
    clear hbt CT c3 CA
    go_wp2_with (fail)
    go_still_tail 7, (by kernel_rfl)
    change wpList _ _ _ _ _ wt.drew
    go_wp2_with (fail)
    refine CA1.out.mono ?_
    rintro e w3 ⟨rfl, F3, e1, e2, e3⟩
    have X3' := (HM.out wt.drew w3 F3 HBD.out e2 e3).1.cell 3
    have X3 : w3.cell? ⟨x, 3, none⟩ = some (.pointer (some ⟨gg, 0, none⟩)) := X3'
    have CU := Lib.hid (until_any w3 lo gg F3 _ e1 (N : Int) 0 HU.out _ rfl)
    rw [← HNL.out, add_till, HNL.out, show ((0 : Nat) : Int) = 0 from rfl] at CU
    have K3 := Lib.hid e2
    have G3 := Lib.hid e3
    clear e1 e2 e3 X3' CA1 k0 k1 k2
    go_wp2_with (fail)
    refine CU.out.mono ?_
    rintro e w4 ⟨rfl, e4, e5⟩
    have K4 := Lib.hid (K3.out.trans e5 G3.out)
    have G4 := Lib.hid e4
    have MID := (HM.out wt.drew w4 F3 HBD.out K4.out G3.out)
    have D4 := Lib.hid MID.1
    have M4 := Lib.hid MID.2.1.map
    have c45 : w4.cell? ⟨x, 5, none⟩ = some (.map (some gm)) := MID.1.cell 5
    have Y4 : w4.cell? ⟨w.heap.size, 0, none⟩ = some (.int .u32 (y.id : Int)) := by
      have h9 := (K4.out.blk (show Blk wt.drew w.heap.size 31 _ from DT.out) HFG.out).cell 0
      exact h9
    have HS := Lib.hid (fun (X : World) (hb : Kept [] w4 X) => show X.cell? ⟨x, 5, none⟩ = some (.map (some gm)) ∧ X.cell? ⟨w.heap.size, 0, none⟩ = some (.int .u32 (y.id : Int)) ∧ MapE X Tryz.prog 27 gm (stE S) ∧ Kept [] w4 X from
      ⟨(hb.blk D4.out (by simp)).cell 5, (hb.cell (World.block_lt_of_cell? w4 _ Y4) (by simp)).trans Y4, M4.out.kept hb (by simp), hb⟩)
    have hl4 := run_none12 M4.out.drew HID.out HNO.out
    obtain ⟨b4, hb4⟩ : ∃ b4, w4.heap.size = b4 := ⟨_, rfl⟩
    obtain ⟨CAP, hCAP⟩ : ∃ CAP, grownCap w4.drew 1 0 3 = CAP := ⟨_, rfl⟩
    have hc1 : 1 ≤ CAP := by rw [← hCAP]; exact grownCap_ge _ _ _ _
    have hc2 : CAP ≤ maxLen := by rw [← hCAP]; exact grownCap_le_maxLen _ _ _ _ (by decide)
    have hcc : (Question.appendCap 1 0 3).cut (w4.tape (w4.drawn + 1) (Question.appendCap 1 0 3)) = CAP := hCAP
    obtain ⟨W7, hW7⟩ : ∃ W7, w4.alloc (.cells #[.int .i64 (N : Int)] 3) = W7 := ⟨_, rfl⟩
    obtain ⟨W8, hW8⟩ : ∃ W8, W7.alloc (.cells (#[.int .i64 (N : Int)] ++ Builtin.zeroCells #[.int .i64 0] (CAP - 1)) 3) = W8 := ⟨_, rfl⟩
    have k47 : Kept [] w4 W7 := by rw [← hW7]; exact (Kept.refl _ _).alloc _
    have k48 : Kept [] w4 W8.drew.drew := by rw [← hW8]; exact ((k47.alloc _).drew).drew
    have hs7 : W7.heap.size = b4 + 1 := by rw [← hW7]; simp [hb4]
    have R8 : W8.drew.drew.ownsRow w4.heap.size 3 1 (.slice (some ⟨b4 + 1, 0, none⟩) 1 CAP) 1 [.int .i64 (N : Int)] := by
      refine ⟨rfl, .inr ⟨b4 + 1, CAP, #[.int .i64 (N : Int)] ++ Builtin.zeroCells #[.int .i64 0] (CAP - 1), rfl, by omega, ?_, hc1, hc2, ?_, ?_⟩⟩
      · show W8.heap[b4 + 1]? = _
        rw [← hW8, ← hs7]
        exact heap_alloc_new W7 _
      · simp [Builtin.zeroCells]
        omega
      · simp
    have M8 := M4.out.kept k48 (by simp)
    obtain ⟨w10, hr10, hM10, hk10⟩ := put_run12 M8 HID.out HSL.out (.slice (some ⟨b4 + 1, 0, none⟩) 1 CAP)
    have hgm4 := M4.out.lt
    have K5 : Kept [gm] w4 w10 := (k48.mono (by simp)).trans hk10 (Grows.refl _ _)
    have R10 : IntsAt w4.heap.size w10 (.slice (some ⟨b4 + 1, 0, none⟩) 1 CAP) [N] := IntsAt.mk (hk10.own R8 (fun k e => by
      have e2 := Option.some.inj (show some (b4 + 1) = some k from e)
      simp only [List.mem_singleton]
      omega))
    have R := FIN.out wt.drew w4 w10 F3 _ HBD.out K4.out G3.out G4.out K5 hM10 R10
    have R0 := Lib.hid R.1
    have R1 := Lib.hid (R.2 (N : Int))
    have D10 := K5.blk D4.out (by simpa using fun e : x = gm => (MapE.ne_blk M4.out D4.out) e.symm)
    have c44 : w10.cell? ⟨x, 4, none⟩ = some (.int .i64 s.entry) := D10.cell 4
    have f44 : w10.frozen? ⟨x, 4, none⟩ = false := D10.frozen 4
    rw [← hW8, ← hW7] at hr10
    have hl5 := run_none12 (M4.out.kept (k47.drew) (by simp)) HID.out HNO.out
    rw [← hW7] at hl5
    have HS10 := Lib.hid (show w10.cell? ⟨x, 5, none⟩ = some (.map (some gm)) ∧ w10.cell? ⟨w.heap.size, 0, none⟩ = some (.int .u32 (y.id : Int)) from
      ⟨D10.cell 5, (K5.cell (World.block_lt_of_cell? w4 _ Y4) (by
        have h9 := HFGM.out
        simpa using h9)).trans Y4⟩)
    clear K5 R10 R D10 hM10 hk10 M8 R8 k47 k48 hs7 hc1 hc2 hCAP hW7 hW8 hgm4 FIN HM K4 G4 G3
    go_wp2_with (fail)
    go_region_held3 (fun X => X.cell? ⟨x, 5, none⟩ = some (.map (some gm)) ∧ X.cell? ⟨w.heap.size, 0, none⟩ = some (.int .u32 (y.id : Int)))
      (first
        | (go_keep; done)
        | exact ⟨(HS.out _ (Kept.refl _ _).drew).1, (HS.out _ (Kept.refl _ _).drew).2.1⟩
        | exact ⟨(HS.out _ ((Kept.refl [] w4).drew.alloc _)).1, (HS.out _ ((Kept.refl [] w4).drew.alloc _)).2.1⟩
        | exact ⟨(HS.out _ (((Kept.refl [] w4).alloc _).drew)).1, (HS.out _ (((Kept.refl [] w4).alloc _).drew)).2.1⟩
        | exact HS10.out
        | exact ⟨(HS.out _ ((((Kept.refl [] w4).alloc _).alloc _).drew.drew)).1, (HS.out _ ((((Kept.refl [] w4).alloc _).alloc _).drew.drew)).2.1⟩)
      (fail)
    all_goals
      clear HS hl4 hl5 hr10 hcc HS10
      by_cases hlt : T < (level : Int)
      · have HE := Lib.hid (show s.add (nodeN y level v 0) = { s with g := s.g.add (nodeN y level v 0), entry := (N : Int) } from by
          unfold IdxV.add nodeN
          simp only [List.length_replicate, HTT.out, HNL.out]
          rw [if_pos (by omega)])
        go_wp2
        go_ret
        rw [HE.out]
        exact ⟨rfl, R1.out⟩
      · have HE := Lib.hid (show s.add (nodeN y level v 0) = { s with g := s.g.add (nodeN y level v 0) } from by
          unfold IdxV.add nodeN
          simp only [List.length_replicate, HTT.out, HNL.out]
          rw [if_neg (by omega)])
        go_wp2
        go_ret
        rw [HE.out]
        exact ⟨rfl, R0.out⟩
  · have FIN := Lib.hid (fun (wt w4 : World) (F3 : List Nat) (hb : Below w.heap.size w wt) (k4 : Kept Fg wt w4) (g3 : Grows wt Fg F3) (hg4 : GraphIs w4 lo gg F3 (s.g.add (nodeN y level v u))) => show HPost lo x (x :: gm :: (Fg ++ fpS S)) { s with g := s.g.add (nodeN y level v u) } w w4 ∧ ∀ i : Int, HPost lo x (x :: gm :: (Fg ++ fpS S)) { s with g := s.g.add (nodeN y level v u), entry := i } w (w4.setCell ⟨x, 4, none⟩ (.int .i64 i)) from by
      obtain ⟨e1, e2, e3, e4, e5, e6, e7, e8, e9, e10, e11⟩ := IdxIs.mid h1 h3 h6 h7 h8 hb k4 g3
      exact IdxIs.addFin e1 hg4 rfl (fun e => MapE.ne_blk h3.map h1 e.symm) e3 e4 e5 e6 e7 e8 h4 h5 h9 h10 e9 (Kept.refl _ _) (e2.more hu0 (add_keys _ _)) (fun b hb => .inl hb) (fun hx => by
        obtain ⟨t, ht, hb⟩ := List.mem_flatMap.1 hx
        exact row_not_blk (h3.row t ht).own h1 (by decide) (mem_ownB.1 hb)))
    clear h1 h2 h3 h4 h5 h6 h7 h8 h9 h10 bb Db hy hT hNN hfew hN hlev hu
    go_enter Tryz.func57, Tryz.ntmps57
    go_wp2_with (first | (rw [hwb]) | fail)
    refine CT.out.mono ?_
    rintro e wt ⟨rfl, hbt⟩
    rw [HTT.out]
    have HBT := Lib.hid (HBB.out.trans (hbt.mono HBB.out.size))
    have X3 := HX3.out wt HBT.out
    have DT := Lib.hid ((Kept.of_below (F := []) hbt (Nat.le_refl _)).blk HDB.out (by simp))
    have k0 : wt.cell? ⟨w.heap.size, 0, none⟩ = some (.int .u32 (y.id : Int)) := DT.out.cell 0
    have k1 : wt.cell? ⟨w.heap.size, 1, none⟩ = some (.slice y.pv.1 y.pv.2.1 y.pv.2.2) := DT.out.cell 1
    have k2 : wt.cell? ⟨w.heap.size, 2, none⟩ = some (.slice y.pt.1 y.pt.2.1 y.pt.2.2) := DT.out.cell 2
    have HBD := Lib.hid (HBT.out.trans ((Below.refl wt.heap.size wt).drew.mono HBT.out.size))
    have CA1 := Lib.hid (CA.out wt.drew HBD.out)
    clear hbt CT c3 CA
    go_wp2_with (fail)
    go_still_tail 7, (by kernel_rfl)
    change wpList _ _ _ _ _ wt.drew
    go_wp2_with (fail)
    refine CA1.out.mono ?_
    rintro e w3 ⟨rfl, F3, e1, e2, e3⟩
    have X3' := (HM.out wt.drew w3 F3 HBD.out e2 e3).1.cell 3
    have X3 : w3.cell? ⟨x, 3, none⟩ = some (.pointer (some ⟨gg, 0, none⟩)) := X3'
    have CU := Lib.hid (until_any w3 lo gg F3 _ e1 (N : Int) u HU.out _ rfl)
    rw [← HNL.out, add_till, HNL.out] at CU
    have K3 := Lib.hid e2
    have G3 := Lib.hid e3
    clear e1 e2 e3 X3' CA1 k0 k1 k2
    go_wp2_with (fail)
    refine CU.out.mono ?_
    rintro e w4 ⟨rfl, e4, e5⟩
    have K4 := K3.out.trans e5 G3.out
    have R := FIN.out wt.drew w4 F3 HBD.out K4 G3.out e4
    have R0 := Lib.hid R.1
    have R1 := Lib.hid (R.2 (N : Int))
    have D4 := (HM.out wt.drew w4 F3 HBD.out K4 G3.out).1
    have c44 : w4.cell? ⟨x, 4, none⟩ = some (.int .i64 s.entry) := D4.cell 4
    have f44 : w4.frozen? ⟨x, 4, none⟩ = false := D4.frozen 4
    clear K4 R D4 e4 e5 CU X3 FIN HM
    by_cases hlt : T < (level : Int)
    · have HE := Lib.hid (show s.add (nodeN y level v u) = { s with g := s.g.add (nodeN y level v u), entry := (N : Int) } from by
        unfold IdxV.add nodeN
        simp only [List.length_replicate, HTT.out, HNL.out]
        rw [if_pos (by omega)])
      go_wp2
      go_ret
      rw [HE.out]
      exact ⟨rfl, R1.out⟩
    · have HE := Lib.hid (show s.add (nodeN y level v u) = { s with g := s.g.add (nodeN y level v u) } from by
        unfold IdxV.add nodeN
        simp only [List.length_replicate, HTT.out, HNL.out]
        rw [if_neg (by omega)])
      go_wp2
      go_ret
      rw [HE.out]
      exact ⟨rfl, R0.out⟩
end

section
open Go.RowKit Go.ChangeShapes Go.WideShapes Go.ChangeAt Go.Maps Go.Shelf

attribute [local go_sem] Oper.semAt_some

/-- Links both ways between n and each of l, on a level. -/
def IdxV.linkRow (s : IdxV) (n on : Nat) (l : List Nat) : IdxV := l.foldl (fun s (j : Nat) => (s.link (n : Int) (j : Int) (on : Int)).link (j : Int) (n : Int) (on : Int)) s
theorem IdxV.linkRow_snoc (s : IdxV) (n on : Nat) (l : List Nat) (j : Nat) : s.linkRow n on (l ++ [j]) = ((s.linkRow n on l).link (n : Int) (j : Int) (on : Int)).link (j : Int) (n : Int) (on : Int) := by
  simp [IdxV.linkRow]
/-- The same, level by level from above. -/
def IdxV.linkD (s : IdxV) (n K : Nat) (ch : Nat → List Nat) : Nat → IdxV
  | 0 => s
  | d + 1 => (s.linkD n K ch d).linkRow n (K - 1 - d) (ch d)
def IdxV.cutV (s : IdxV) (id v : Nat) : IdxV := { s with g := s.g.cutG id v }
def levN (level : Int) : Nat := (min (max level 0) 4).toNat
/-- Put. -/
def IdxV.putV (s : IdxV) (y : ItL) (level v : Nat) : IdxV :=
  let t := s.cutV y.id v
  let K := (min (level : Int) t.topI + 1).toNat
  (t.add (nodeN y level v 0)).linkD t.g.L.length K (t.chosenI y.vec (t.down y.vec level) K) K
theorem cutV_len (s : IdxV) (id v : Nat) : (s.cutV id v).g.L.length = s.g.L.length := by
  unfold IdxV.cutV GraphV.cutG
  simp
theorem cutV_ok {s : IdxV} (h : s.EntryOk) (id v : Nat) : (s.cutV id v).EntryOk := by
  rcases h with h | h
  · exact .inl h
  · right
    rw [cutV_len]
    exact h
theorem cutV_not {s : IdxV} {id v : Nat} (hv : v ≠ 0) : (s.cutV id v).g.cutB id = false := by
  unfold IdxV.cutV GraphV.cutG GraphV.cutB
  rw [List.any_eq_false]
  intro x hx
  obtain ⟨y, -, rfl⟩ := List.mem_map.1 hx
  unfold cutK
  split
  · simp [hv]
  · rename_i h
    simpa using h
/-- Where Put's loops are: t is what the index says; the boxes of the index, of the new place, of the list of those chosen; their lists. -/
structure PutC (w : World) (lo x : Nat) (F0 : List Nat) (n K B : Nat) (ch : Nat → List Nat) (cs : List Value) (gl b9 bk : Nat) (t : IdxV) (F : List Nat) (W : World) : Prop where
  idx : IdxIs W lo x F t
  kept : Kept F0 w W
  grows : Grows w F0 F
  hx : Blk W w.heap.size 42 [.pointer (some ⟨x, 0, none⟩)]
  h9 : Blk W b9 3 [.int .i64 (n : Int)]
  hk : Blk W bk 57 [.slice (some ⟨gl, 0, none⟩) K K]
  hl : Blk W gl 62 cs
  rows : ∀ j, j < K → ∃ v, cs[j]? = some v ∧ IntsAt w.heap.size W v (ch (K - 1 - j)) ∧ ∀ b ∈ ownB v, b ∉ F ∧ b < B
  out : w.heap.size ∉ F ∧ b9 ∉ F ∧ bk ∉ F ∧ gl ∉ F
section
variable {w : World} {lo x : Nat} {F0 : List Nat} {n K B : Nat} {ch : Nat → List Nat} {cs : List Value} {gl b9 bk : Nat} {t t' : IdxV} {F : List Nat} {W W' : World}
theorem grows_not {F F' : List Nat} {b : Nat} (hg : Grows W F F') (h : b ∉ F) (hb : b < W.heap.size) : b ∉ F' := fun hh => by
  rcases hg b hh with h1 | h1
  · exact h h1
  · omega
theorem PutC.step (h : PutC w lo x F0 n K B ch cs gl b9 bk t F W) (hp : HPost lo x F t' W W') : ∃ F', PutC w lo x F0 n K B ch cs gl b9 bk t' F' W' ∧ Kept F W W' ∧ Grows W F F' := by
  obtain ⟨F', h1, hk, hg⟩ := hp
  obtain ⟨o1, o2, o3, o4⟩ := h.out
  refine ⟨F', ⟨h1, h.kept.trans hk h.grows, h.grows.trans hg h.kept.size, hk.blk h.hx o1, hk.blk h.h9 o2, hk.blk h.hk o3, hk.blk h.hl o4, fun j hj => ?_, grows_not hg o1 h.hx.lt, grows_not hg o2 h.h9.lt, grows_not hg o3 h.hk.lt, grows_not hg o4 h.hl.lt⟩, hk, hg⟩
  obtain ⟨v, e1, e2, e3⟩ := h.rows j hj
  exact ⟨v, e1, IntsAt.mk (hk.own e2.own fun k e => (e3 k (mem_ownB.2 e)).1), fun b hb => ⟨grows_not hg (e3 b hb).1 (World.ownsRow.lt e2.own b (mem_ownB.1 hb)).2, (e3 b hb).2⟩⟩
theorem putC_abide (h1 : w.heap.size < B) (h2 : b9 < B) (h3 : bk < B) (h4 : gl < B) (t : Nat → IdxV) : Abide B (fun F (pre : List (Nat × Value)) W => PutC w lo x F0 n K B ch cs gl b9 bk (t pre.length) F W) := by
  intro F pre W1 W2 G h hk hG
  have no : ∀ b, b < B → b ∉ G := fun b hb hh => by have := (hG b hh).2; omega
  refine ⟨h.idx.kept hk (fun b hb => (hG b hb).1), h.kept.trans hk (fun b hb => .inr (by have := (hG b hb).2; omega)), h.grows, hk.blk h.hx (no _ h1), hk.blk h.h9 (no _ h2), hk.blk h.hk (no _ h3), hk.blk h.hl (no _ h4), fun j hj => ?_, h.out⟩
  obtain ⟨v, e1, e2, e3⟩ := h.rows j hj
  exact ⟨v, e1, IntsAt.mk (hk.own e2.own fun k e => no k (e3 k (mem_ownB.2 e)).2), e3⟩
theorem PutC.reads (hK : cs.length = K) {k : Nat} (h : PutC w lo x F0 n K B ch cs gl b9 bk t F W) : BackP bk gl K K cs k W := by
  refine ⟨h.hk.cell 0, fun i hi => ?_⟩
  rw [h.hl.cell, List.getD_eq_getElem?_getD]
  have : i < cs.length := by omega
  rw [List.getElem?_eq_getElem this]
  rfl
end
theorem backZ_get2 (vs : List Value) : ∀ (m i : Nat), i < m → (backZ vs m)[i]? = some (m - 1 - i, vs.getD (m - 1 - i) (.int .i64 0))
  | m + 1, 0, _ => rfl
  | m + 1, i + 1, h => by
    rw [backZ, List.getElem?_cons_succ, backZ_get2 vs m i (by omega), show m + 1 - 1 - (i + 1) = m - 1 - i from by omega]
theorem back_next2 {vs : List Value} {K : Nat} {pre : List (Nat × Value)} {y : Nat × Value} (h : pre ++ [y] <+: backZ vs K) : pre.length < K ∧ y.1 = K - 1 - pre.length ∧ y.2 = vs.getD (K - 1 - pre.length) (.int .i64 0) := by
  obtain ⟨t, ht⟩ := h
  have h1 := congrArg List.length ht
  rw [backZ_len] at h1
  simp at h1
  have hv := backZ_get2 vs K pre.length (by omega)
  rw [← ht] at hv
  simp at hv
  exact ⟨by omega, by rw [hv], by rw [hv, List.getD_eq_getElem?_getD]⟩
end

section
open Go.RowKit Go.ChangeShapes Go.WideShapes Go.ChangeAt Go.Maps Go.Shelf

attribute [local go_sem] Oper.semAt_some

theorem chosenI_len (s : IdxV) (q : List Int) (i : Int) (K d : Nat) : (s.chosenI q i K d).length ≤ s.most := (GraphV.choose_is s.g q _ s.most).2.1
theorem IdxIs.most {w : World} {lo x : Nat} {F : List Nat} {s : IdxV} (h : IdxIs w lo x F s) : s.most ≤ 8 := by
  obtain ⟨gg, gm, Fg, S, -, -, -, -, -, -, -, -, -, gmo, -⟩ := h
  exact gmo.2
set_option maxRecDepth 100000 in
set_option maxHeartbeats 3200000 in
theorem hput_in (w : World) (lo x : Nat) (F : List Nat) (s : IdxV) (h : IdxIs w lo x F s) (hlo : lo ≤ w.heap.size) (he : s.EntryOk) (hf : s.g.L.length < 100000) (y : ItL) (hy : y.In (· ∉ F) w) (level : Int) (v : Nat) (hv : v ≠ 0) (hv64 : v < 18446744073709551616) :
    CallsIn Fence.wide 10 Tryz.prog 28 #[.pointer (some ⟨x, 0, none⟩), .agg y.cells.toArray, .int .i64 level, .int .u64 (v : Int)] w fun e w' => e = .returned (.tuple #[]) ∧ HPost lo x F (s.putV y (levN level) v) w w' := by
  obtain ⟨W0, hW0⟩ : ∃ W0, (w.alloc (.cells #[.pointer (some ⟨x, 0, none⟩)] 42)).alloc (.cells y.cells.toArray 31) = W0 := ⟨_, rfl⟩
  have k0 : Kept [] w W0 := by rw [← hW0]; exact ((Kept.refl [] w).alloc _).alloc _
  have s0 : W0.heap.size = w.heap.size + 2 := by rw [← hW0]; simp
  have DX : Blk W0 w.heap.size 42 [.pointer (some ⟨x, 0, none⟩)] := by rw [← hW0]; exact (Blk.new _ _ _).alloc _
  have DI : Blk W0 (w.heap.size + 1) 31 [.int .u32 (y.id : Int), .slice y.pv.1 y.pv.2.1 y.pv.2.2, .slice y.pt.1 y.pt.2.1 y.pt.2.2] := by rw [← hW0]; exact Blk.at_new (cs := y.cells.toArray) (World.size_alloc _ _)
  have H0 := h.kept k0 (fun b hb => by simp at hb)
  have CT := Lib.hid (hcut_any W0 lo x F s H0 y.id v hy.hid hv hv64)
  obtain ⟨cz, hcz⟩ : ∃ cz, s.g.cutB y.id = cz := ⟨_, rfl⟩
  rw [hcz] at CT
  have HLT := Lib.hid h.lt
  have HX := Lib.hid DX
  have HI := Lib.hid DI
  have K0 := Lib.hid k0
  have HY := Lib.hid hy
  have HE := Lib.hid he
  have HV := Lib.hid hv
  have HLO := Lib.hid hlo
  have c0 : W0.cell? ⟨w.heap.size, 0, none⟩ = some (.pointer (some ⟨x, 0, none⟩)) := DX.cell 0
  have i0 : W0.cell? ⟨w.heap.size + 1, 0, none⟩ = some (.int .u32 (y.id : Int)) := DI.cell 0
  clear h k0 DX DI H0 he hy hcz hlo
  refine callsIn_of_wp_marks Tryz.func28 rfl trivial ?_ rfl
  simp only [Tryz.ntmps28, List.size_toArray, List.length_cons, List.length_nil, Nat.reduceAdd, Nat.reduceSub, Array.replicate_succ, Array.replicate_zero, List.push_toArray, List.append_toArray, List.nil_append, List.cons_append]
  gi_wp2_with (first | (rw [hW0]) | fail)
  refine ⟨by simp [Fence.wide], (callsIn_wide.2 CT.out).mono ?_⟩
  rintro e w2 ⟨rfl, F1, i1, k1, gr1⟩
  have n1 : w.heap.size ∉ F := fun hh => by have := (HLT.out _ hh).2; omega
  have n2 : w.heap.size + 1 ∉ F := fun hh => by have := (HLT.out _ hh).2; omega
  have X2 := k1.blk HX.out n1
  have I2 := k1.blk HI.out n2
  have KW := (K0.out.mono (G := F) (by simp)).trans k1 (Grows.refl _ _)
  have GW : Grows w F F1 := fun b hb => by rcases gr1 b hb with h1 | h1; exact .inl h1; exact .inr (by omega)
  have Y2 : y.In (fun _ => True) w2 := ItL.In.stay HY.out KW.size (fun k hk hk2 => KW.block k hk2 hk) (fun _ _ _ => trivial)
  have HI1 := Lib.hid (show IdxIs w2 lo x F1 (s.cutV y.id v) from i1)
  have HKW := Lib.hid KW
  have HGW := Lib.hid GW
  have HY2 := Lib.hid Y2
  have HGR := Lib.hid gr1
  have HKS := Lib.hid k1.size
  have c0 : w2.cell? ⟨w.heap.size, 0, none⟩ = some (.pointer (some ⟨x, 0, none⟩)) := X2.cell 0
  have i1c : w2.cell? ⟨w.heap.size + 1, 1, none⟩ = some (.slice y.pv.1 y.pv.2.1 y.pv.2.2) := I2.cell 1
  clear CT i1 k1 gr1 KW GW Y2 i0
  gi_wp2_with (fail)
  all_goals
    obtain ⟨lev, hlv⟩ : ∃ lev : Nat, min (max level 0) 4 = (lev : Int) := ⟨(min (max level 0) 4).toNat, by omega⟩
    first
      | (exfalso; omega)
      | rw [show (4 : Int) = (lev : Int) from by omega]
      | rw [show (0 : Int) = (lev : Int) from by omega]
      | rw [show level = (lev : Int) from by omega]
    have hl4 : lev ≤ 4 := by omega
    have HL := Lib.hid (show levN level = lev from by unfold levN; omega)
    clear hlv
    have CC := Lib.hid (callsIn_wide.1 (hchoose_any w2 lo x F1 (s.cutV y.id v) HI1.out (cutV_ok HE.out _ _) (by rw [cutV_len]; omega) y.pv.1 y.pv.2.1 y.pv.2.2 y.vec (Rd.ints HY2.out.hvec rfl) lev hl4))
    refine ⟨trivial, (callsIn_wide.2 CC.out).mono ?_⟩
    rintro e w3 ⟨gl, K, rfl, hK, ⟨hgl, cs, r1, r2, r3⟩, hb3⟩
    have HK := Lib.hid hK
    have hK5 : K ≤ 5 := by omega
    have I3 := I2.of_eq (hb3.block _ I2.lt)
    have X3 := X2.of_eq (hb3.block _ X2.lt)
    have c0 : w3.cell? ⟨w.heap.size, 0, none⟩ = some (.pointer (some ⟨x, 0, none⟩)) := X3.cell 0
    have d0 : w3.cell? ⟨w.heap.size + 1, 0, none⟩ = some (.int .u32 (y.id : Int)) := I3.cell 0
    have d1 : w3.cell? ⟨w.heap.size + 1, 1, none⟩ = some (.slice y.pv.1 y.pv.2.1 y.pv.2.2) := I3.cell 1
    have d2 : w3.cell? ⟨w.heap.size + 1, 2, none⟩ = some (.slice y.pt.1 y.pt.2.1 y.pt.2.2) := I3.cell 2
    have CA := Lib.hid (hadd_any w3 lo x F1 (s.cutV y.id v) (HI1.out.on hb3) (Nat.le_trans HLO.out (Nat.le_trans HKW.out.size hb3.size)) (by rw [cutV_len]; omega) y (ItL.In.stay HY2.out hb3.size (fun k _ hk => hb3.block k hk) (fun _ h _ => h)) lev hl4 v 0 hv64 (by omega) (fun _ => cutV_not HV.out))
    obtain ⟨n, hn⟩ : ∃ n, (s.cutV y.id v).g.L.length = n := ⟨_, rfl⟩
    rw [hn] at CA
    have CA' := Lib.hid (show Calls Tryz.prog 57 #[.pointer (some ⟨x, 0, none⟩), .agg #[.int .u32 (y.id : Int), .slice y.pv.1 y.pv.2.1 y.pv.2.2, .slice y.pt.1 y.pt.2.1 y.pt.2.2], .int .i64 (lev : Int), .int .u64 (v : Int), .int .u64 0] w3 _ from CA.out)
    have HN := Lib.hid hn
    have R1 := Lib.hid r1
    have R2 := Lib.hid r2
    have R3 := Lib.hid r3
    have HG := Lib.hid hgl
    have HB3 := Lib.hid hb3
    have hX3 := Lib.hid X3
    clear hK r1 r2 r3 hgl hb3 I2 X2 I3 X3 CC CA hn i1c
    gi_wp2_with (fail)
    refine ⟨by simp [Fence.wide], (callsIn_wide.2 CA'.out).mono ?_⟩
    rintro e w4 ⟨rfl, F2, i4, k4, g4⟩
    obtain ⟨b9, hb9⟩ : ∃ b9, w4.heap.size = b9 := ⟨_, rfl⟩
    obtain ⟨w5, hw5⟩ : ∃ w5, w4.alloc (.cells #[.int .i64 (n : Int)] 3) = w5 := ⟨_, rfl⟩
    have k45 : Kept [] w4 w5 := by rw [← hw5]; exact (Kept.refl _ _).alloc _
    have hs5 : w5.heap.size = b9 + 1 := by rw [← hw5]; simp [hb9]
    have D5 : Blk w5 b9 3 [.int .i64 (n : Int)] := by rw [← hw5]; exact Blk.at_new hb9
    have HK4 := Lib.hid k4
    have HG4 := Lib.hid g4
    have HI4 := Lib.hid i4
    obtain ⟨S2, hS2⟩ : ∃ S2, (s.cutV y.id v).add (nodeN y lev v 0) = S2 := ⟨_, rfl⟩
    obtain ⟨CH, hCH⟩ : ∃ CH, (s.cutV y.id v).chosenI y.vec ((s.cutV y.id v).down y.vec lev) K = CH := ⟨_, rfl⟩
    rw [hS2] at HI4
    rw [hCH] at R3
    have HS2 := Lib.hid hS2
    have HCH := Lib.hid hCH
    clear hS2 hCH
    have CB := Lib.hid (back12_any w5 (some ⟨gl, 0, none⟩) K K)
    clear k4 g4 i4 CA' c0 d0 d1 d2
    gi_wp2_with (first | (rw [hw5]) | fail)
    refine ⟨by simp [Fence.wide], (callsIn_wide.2 CB.out).mono ?_⟩
    rintro e w6 ⟨rfl, hw6⟩
    obtain ⟨bk, hbk⟩ : ∃ bk, w5.heap.size = bk := ⟨_, rfl⟩
    rw [hbk] at CB ⊢
    have k56 : Kept [] w5 w6 := by rw [hw6]; exact (Kept.refl _ _).alloc _
    have hs6 : w6.heap.size = bk + 1 := by rw [hw6]; simp [hbk]
    have E6 : Blk w6 bk 57 [.slice (some ⟨gl, 0, none⟩) K K] := by rw [hw6]; exact Blk.at_new hbk
    have K46 : Kept [] w4 w6 := k45.trans k56 (Grows.refl _ _)
    have K24 : Kept F1 w2 w4 := (Kept.of_below (F := F1) HB3.out (Nat.le_refl _)).trans HK4.out (Grows.refl _ _)
    have GRW : Grows w F F2 := HGW.out.trans HG4.out (Nat.le_trans HKW.out.size HB3.out.size)
    have KALL : Kept F w w6 := (HKW.out.trans K24 HGW.out).trans (K46.mono (G := []) (by simp)) (by intro b hb; simp at hb)
    have hw2 : w.heap.size + 2 ≤ w2.heap.size := by have := HKS.out; omega
    have hw3 := HB3.out.size
    have hw34 := HK4.out.size
    have far : ∀ b, b ∈ F2 → b < w.heap.size ∨ (w.heap.size + 2 ≤ b ∧ b < w2.heap.size) ∨ (w3.heap.size ≤ b ∧ b < w4.heap.size) := fun b hb => by
      rcases HG4.out b hb with h1 | h1
      · rcases HGR.out b h1 with h2 | h2
        · exact .inl (HLT.out b h2).2
        · exact .inr (.inl ⟨by omega, (HI1.out.lt b h1).2⟩)
      · exact .inr (.inr ⟨h1, (HI4.out.lt b hb).2⟩)
    have hgl3 := R1.out.lt
    have hglo := HG.out
    have nf : ∀ b, w2.heap.size ≤ b → b < w3.heap.size → b ∉ F2 := fun b h1 h2 hh => by rcases far b hh with h3 | h3 | h3 <;> omega
    have gl1 : gl ∉ F1 := fun hh => by have := (HI1.out.lt gl hh).2; omega
    have nx1 : w.heap.size ∉ F1 := fun hh => by rcases HGR.out _ hh with h2 | h2; exact n1 h2; omega
    have I0 : PutC w lo x F n K w6.heap.size CH cs gl b9 bk S2 F2 w6 := by
      refine ⟨HI4.out.kept K46 (fun b hb => by simp at hb), KALL, GRW, K46.blk (HK4.out.blk hX3.out nx1) (by simp), k56.blk D5 (by simp), E6, K46.blk (HK4.out.blk R1.out gl1) (by simp), fun j hj => ?_, ?_, ?_, ?_, ?_⟩
      · obtain ⟨u, e1, e2⟩ := R3.out j hj
        have hlt := World.ownsRow.lt e2.own
        refine ⟨u, e1, IntsAt.mk (K46.own (HK4.out.own (own_on e2.own (Nat.le_trans (by omega : w.heap.size ≤ w2.heap.size) (Nat.le_refl _)) (Below.refl _ _)) fun k e => ?_) (by simp)), fun b hb => ?_⟩
        · intro hh
          have := hlt k e
          have := (HI1.out.lt k hh).2
          omega
        · have := hlt b (mem_ownB.1 hb)
          exact ⟨nf b this.1 this.2, by omega⟩
      · intro hh
        rcases far _ hh with h3 | h3 | h3 <;> omega
      · intro hh
        rcases far _ hh with h3 | h3 | h3 <;> omega
      · intro hh
        rcases far _ hh with h3 | h3 | h3 <;> omega
      · exact nf gl hglo hgl3
    have HI0 := Lib.hid I0
    have hF2 : ∀ b ∈ F2, b < w6.heap.size := fun b hb => by have := (I0.idx.lt b hb).2; exact this
    clear I0 k45 k56 D5 E6 K46 K24 GRW KALL far nf gl1 nx1 hw5 hw6 CB hX3
    gi_wp2_with (fail)
    refine wpIn_givesP (by omega) (gf := 103) (lb := #[.pointer (some ⟨bk, 0, none⟩)]) rfl enters_back12 (back12_gives bk gl K K cs (by omega)) (fun _ => rfl) (fun F' pre W => PutC w lo x F n K w6.heap.size CH cs gl b9 bk (S2.linkD n K CH pre.length) F' W) (putC_abide (by omega) (by omega) (by omega) (by omega) _) (fun _ _ _ h => h.reads R2.out) F2 hF2 HI0.out
      (fun z a' W => ∃ M1 M2 M3 : Value, a' = { tmps := #[.pointer (some ⟨x, 0, none⟩), .agg y.cells.toArray, .int .i64 (lev : Int), .int .u64 (v : Int), .pointer (some ⟨w.heap.size, 0, none⟩), .pointer (some ⟨w.heap.size + 1, 0, none⟩), undef, undef, .slice (some ⟨gl, 0, none⟩) K K, .pointer (some ⟨b9, 0, none⟩), .int .i64 (z.1 : Int), z.2, undef, undef, .pointer (some ⟨x, 0, none⟩), .pointer (some ⟨w.heap.size + 1, 0, none⟩), .int .u32 (y.id : Int), .int .u64 (v : Int), .bool cz, M1, M2, M3, .pointer (some ⟨x, 0, none⟩), .pointer (some ⟨w.heap.size + 1, 1, none⟩), .slice y.pv.1 y.pv.2.1 y.pv.2.2, .int .i64 (lev : Int), .slice (some ⟨gl, 0, none⟩) K K, .pointer (some ⟨x, 0, none⟩), .agg #[.int .u32 (y.id : Int), .slice y.pv.1 y.pv.2.1 y.pv.2.2, .slice y.pt.1 y.pt.2.1 y.pt.2.2], .int .i64 (lev : Int), .int .u64 (v : Int), .int .i64 (n : Int), .slice (some ⟨gl, 0, none⟩) K K, .func (.func 103) #[] #[.pointer (some ⟨bk, 0, none⟩)], .int .i64 (z.1 : Int), z.2, undef, undef, undef, undef, undef, undef, undef, undef, undef, undef, undef, undef, undef, undef, undef, undef, undef], defers := [] }) (fun _ _ _ _ h _ => h) ?assign ?body ?done
    case assign =>
      intro l2 y2 W2 K2 hsz2 hK2
      dsimp only [bkE]
      gi_wp2
      exact hK2 _ _ (Kept.refl [] W2) ⟨_, _, _, rfl⟩
    case body =>
      rintro l2 F3 pre z a' W2 h2 ⟨M1, M2, M3, rfl⟩ hsz2 hp
      obtain ⟨hpk, hz1, hz2⟩ := back_next2 hp
      obtain ⟨u, e1, e2, e3⟩ := h2.rows (K - 1 - pre.length) (by omega)
      rw [show K - 1 - (K - 1 - pre.length) = pre.length from by omega] at e2
      obtain ⟨on, zu⟩ := z
      simp only at hz1 hz2
      have hzu : zu = u := by rw [hz2, List.getD_eq_getElem?_getD, e1]; rfl
      subst hzu
      obtain ⟨ra, rn, rc, hrf, hrl⟩ := e2.parts
      subst hrf
      obtain ⟨l, hl⟩ : ∃ l, CH pre.length = l := ⟨_, rfl⟩
      rw [hl] at hrl
      have E1 := Lib.hid e1
      have HL2 := Lib.hid hl
      have HON := Lib.hid (show on = K - 1 - pre.length from hz1)
      have H2 := Lib.hid h2
      have HPK := Lib.hid hpk
      have rn5 : rn ≤ 1000000 := by
        have h9 := chosenI_len (s.cutV y.id v) y.vec ((s.cutV y.id v).down y.vec lev) K pre.length
        rw [HCH.out, hl, hrl.out] at h9
        have := HI1.out.most
        omega
      clear hz1 hz2 hl h2 hp e1 e2 e3 hpk
      gi_wp2_with (fail)
      gi_loopw [38] (fun s38 wr => ∃ (m : Nat) (F' : List Nat), s38 = .int .i64 (m : Int) ∧ m ≤ rn ∧ Hid (PutC w lo x F n K w6.heap.size CH cs gl b9 bk ((S2.linkD n K CH pre.length).linkRow n on (l.take m)) F' wr) ∧ Hid (Kept F3 W2 wr) ∧ Hid (Grows W2 F3 F')) (fun s38 _ => rn - (intOf s38).toNat)
      case atStart => exact ⟨0, F3, rfl, Nat.zero_le _, H2.out, Kept.refl _ _, Grows.refl _ _⟩
      case round =>
        obtain ⟨m, F', rfl, hm, HC, HKP, HGP⟩ := hrel
        by_cases hc : m < rn
        · obtain ⟨j, hj⟩ : ∃ j, l[m]? = some j := ⟨l[m]'(by rw [hrl.out]; exact hc), by rw [List.getElem?_eq_getElem]⟩
          obtain ⟨u2, e1, e2, -⟩ := HC.out.rows (K - 1 - pre.length) (by have := HPK.out; omega)
          rw [show K - 1 - (K - 1 - pre.length) = pre.length from by have := HPK.out; omega, HL2.out] at e2
          have hu2 := Option.some.inj (e1.symm.trans E1.out)
          subst hu2
          obtain ⟨-, hrow⟩ := IntsAt.row e2
          obtain ⟨rz, hrz, hcell⟩ : ∃ rz, ra = some ⟨rz, 0, none⟩ ∧ wr.cell? ⟨rz, m, none⟩ = some (.int .i64 (j : Int)) := by
            rcases hrow with h9 | ⟨z, h9, -, -, h8⟩
            · rw [h9] at hj
              simp at hj
            · exact ⟨z, h9, h8 m j hj⟩
          subst hrz
          have hc0 : (0 : Int) ≤ (m : Int) := by omega
          have hc1 : (m : Int) < (rn : Int) := by omega
          have c0 : wr.cell? ⟨w.heap.size, 0, none⟩ = some (.pointer (some ⟨x, 0, none⟩)) := HC.out.hx.cell 0
          have c9 : wr.cell? ⟨b9, 0, none⟩ = some (.int .i64 (n : Int)) := HC.out.h9.cell 0
          have L1 := Lib.hid (hlink_any wr lo x F' _ HC.out.idx (n : Int) (j : Int) (on : Int))
          have HJ := Lib.hid hj
          clear e1 e2 hrow hj
          gi_wp2_with (fail)
          refine ⟨trivial, (CallsIn.inRound l2 (callsIn_wide.2 L1.out)).mono ?_⟩
          rintro e w7 ⟨rfl, hp7⟩
          obtain ⟨F7, q7, kk7, gg7⟩ := HC.out.step hp7
          have Q7 := Lib.hid q7
          have KK7 := Lib.hid (HKP.out.trans kk7 HGP.out)
          have GG7 := Lib.hid (HGP.out.trans gg7 HKP.out.size)
          have c0 : w7.cell? ⟨w.heap.size, 0, none⟩ = some (.pointer (some ⟨x, 0, none⟩)) := q7.hx.cell 0
          have c9 : w7.cell? ⟨b9, 0, none⟩ = some (.int .i64 (n : Int)) := q7.h9.cell 0
          have L2 := Lib.hid (hlink_any w7 lo x F7 _ q7.idx (j : Int) (n : Int) (on : Int))
          clear hp7 q7 kk7 gg7 L1 HC HKP HGP hcell
          gi_wp2_with (fail)
          refine ⟨trivial, (CallsIn.inRound l2 (callsIn_wide.2 L2.out)).mono ?_⟩
          rintro e w8 ⟨rfl, hp8⟩
          obtain ⟨F8, q8, kk8, gg8⟩ := Q7.out.step hp8
          rw [← IdxV.linkRow_snoc, show l.take m ++ [j] = l.take (m + 1) from by rw [List.take_add_one, HJ.out]; rfl] at q8
          have Q8 := Lib.hid q8
          have KK8 := Lib.hid (KK7.out.trans kk8 GG7.out)
          have GG8 := Lib.hid (GG7.out.trans gg8 KK7.out.size)
          clear hp8 q8 kk8 gg8 L2 KK7 GG7 Q7
          gi_wp2_with (fail)
          go_roundw
          case rel => exact ⟨m + 1, F8, by go_num, by omega, Q8, KK8, GG8⟩
          case measure => first | (simp [intOf]; done) | (simp [intOf]; omega)
        · have hmr : m = rn := by omega
          subst hmr
          gi_wp2_with (fail)
          have hlen : (pre ++ [(on, (Value.slice ra m rc))]).length = pre.length + 1 := by simp
          refine ⟨F', ?_, HKP.out, HGP.out⟩
          have h9 := HC.out
          rw [List.take_of_length_le (by rw [hrl.out]; exact Nat.le_refl _), HON.out, ← HL2.out] at h9
          show PutC w lo x F n K w6.heap.size CH cs gl b9 bk (S2.linkD n K CH (pre ++ [(on, Value.slice ra m rc)]).length) F' wr
          rw [hlen]
          exact h9
    case done =>
      intro Dd F3 W2 hDd hF3 h2 hh
      rw [backZ_len] at h2
      have FIN := Lib.hid (fun (o : Obj) => show HPost lo x F (s.putV y (levN level) v) w (W2.putObj Dd o) from by
        have kd := put_kept W2 Dd o
        have e : s.putV y (levN level) v = S2.linkD n K CH K := by
          unfold IdxV.putV
          rw [HL.out]
          simp only []
          rw [← HK.out, HN.out, HS2.out, HCH.out]
        rw [e]
        exact ⟨F3, h2.idx.kept kd (fun b hb hh => hF3 b hh (List.mem_singleton.1 hb)), h2.kept.trans kd (fun b hb => .inr (by have := List.mem_singleton.1 hb; have := HKW.out.size; omega)), h2.grows⟩)
      have KD := Lib.hid hh
      clear h2 hh
      gi_wp2
      refine ⟨by simp, .inl ⟨_, _, rfl, run_takeDeferred KD.out, ?_⟩⟩
      exact ⟨_, results_none rfl _ _ _, rfl, FIN.out _⟩
end

section
open Go.RowKit Go.ChangeShapes Go.WideShapes Go.ChangeAt Go.Maps

def zeroNC : List Value := [.int .u32 0, .slice none 0 0, .slice none 0 0, .int .u64 0, .int .u64 0, .slice none 0 0]
theorem made_nodes (N : Nat) : (madeCells (Value.agg #[.int .u32 0, .slice none 0 0, .slice none 0 0, .int .u64 0, .int .u64 0, .slice none 0 0]).cells (N * 6)).toList = (List.replicate N zeroNC).flatten := by
  refine List.ext_getElem? fun i => ?_
  by_cases hi : i < N * 6
  · have h1 := flatten_at (List.replicate N zeroNC) 6 (fun cs h => by rw [List.eq_of_mem_replicate h]; rfl) (i / 6) zeroNC (List.getElem?_replicate_of_lt (by omega)) (i % 6) (Nat.mod_lt _ (by decide))
    rw [Nat.div_add_mod'] at h1
    rw [h1]
    obtain ⟨r, hr⟩ : ∃ r, i % 6 = r := ⟨_, rfl⟩
    have hr6 : r < 6 := by omega
    rw [hr]
    simp only [madeCells, Value.cells, Array.toList_map, List.getElem?_map, Array.toList_range]
    rw [List.getElem?_range hi]
    simp only [Option.map_some, List.size_toArray, List.length_cons, List.length_nil, Nat.reduceAdd, hr]
    match r, hr6 with
    | 0, _ => rfl
    | 1, _ => rfl
    | 2, _ => rfl
    | 3, _ => rfl
    | 4, _ => rfl
    | 5, _ => rfl
  · rw [List.getElem?_eq_none (by simp [madeCells]; omega), List.getElem?_eq_none]
    simp [zeroNC]
    omega
theorem NodeL.Own.keep {lo : Nat} {G : List Nat} {w w' : World} {x : NodeL} (h : x.Own lo w) (hk : Kept G w w') (hG : ∀ b ∈ G, b < lo) : x.Own lo w' := by
  have no : ∀ {t : TypeId} {k n : Nat} {v : Value} {xs : List Value}, w.ownsRow lo t k v n xs → w'.ownsRow lo t k v n xs := fun ho => hk.own ho fun k e hh => by
    have := (World.ownsRow.lt ho k e).1
    have := hG k hh
    omega
  exact ⟨⟨h.it.hid, no h.it.vec, no h.it.tags, h.it.wv, h.it.wt, h.it.lv, h.it.lt⟩, no h.lrow, h.lens, fun k v l h1 h2 => IntsAt.mk (no (h.list k v l h1 h2).own)⟩
theorem NodeL.Own.low {lo lo' : Nat} {w : World} {x : NodeL} (h : x.Own lo w) (hl : lo' ≤ lo) : x.Own lo' w := by
  have no : ∀ {t : TypeId} {k n : Nat} {v : Value} {xs : List Value}, w.ownsRow lo t k v n xs → w.ownsRow lo' t k v n xs := fun ho => own_on ho hl (Below.refl _ _)
  exact ⟨⟨h.it.hid, no h.it.vec, no h.it.tags, h.it.wv, h.it.wt, h.it.lv, h.it.lt⟩, no h.lrow, h.lens, fun k v l h1 h2 => IntsAt.mk (no (h.list k v l h1 h2).own)⟩
/-- Nodes that lie in a list. -/
def NodesAt (lo : Nat) (w : World) (v : Value) (ys : List NodeL) : Prop := RowC lo w 59 6 v (ys.map NodeL.cells) ∧ ∀ y ∈ ys, y.Own lo w
/-- Six stores fill an element. -/
theorem RowC.six {lo g n c i : Nat} {w : World} {t : TypeId} {css : List (List Value)} (h : RowC lo w t 6 (.slice (some ⟨g, 0, none⟩) n c) css) (hi : css[i]? = some zeroNC) (c0 c1 c2 c3 c4 c5 : Value) :
    RowC lo ((((((w.setCell ⟨g, i * 6, none⟩ c0).setCell ⟨g, i * 6 + 1, none⟩ c1).setCell ⟨g, i * 6 + 2, none⟩ c2).setCell ⟨g, i * 6 + 3, none⟩ c3).setCell ⟨g, i * 6 + 4, none⟩ c4).setCell ⟨g, i * 6 + 5, none⟩ c5) t 6 (.slice (some ⟨g, 0, none⟩) n c) (css.set i [c0, c1, c2, c3, c4, c5]) := by
  have hil := (List.getElem?_eq_some_iff.1 hi).1
  have g0 : ∀ (d : List (List Value)) (u : List Value), d.length = css.length → (d.set i u)[i]? = some u := fun d u hd => List.getElem?_set_self (by omega)
  have h0 := h.set hi (show 0 < 6 by decide) c0
  have h1 := h0.set (g0 _ _ rfl) (show 1 < 6 by decide) c1
  have h2 := h1.set (g0 _ _ (by simp)) (show 2 < 6 by decide) c2
  have h3 := h2.set (g0 _ _ (by simp)) (show 3 < 6 by decide) c3
  have h4 := h3.set (g0 _ _ (by simp)) (show 4 < 6 by decide) c4
  have h5 := h4.set (g0 _ _ (by simp)) (show 5 < 6 by decide) c5
  simp only [List.set_set, Nat.add_zero] at h5
  exact h5
set_option maxRecDepth 100000 in
set_option maxHeartbeats 3200000 in
theorem hnodes_any (w : World) (lo x : Nat) (F : List Nat) (s : IdxV) (h : IdxIs w lo x F s) (hf : s.g.L.length ≤ 100000) :
    Calls Tryz.prog 16 #[.pointer (some ⟨x, 0, none⟩)] w fun e w' => ∃ gn ys, e = .returned (.slice (some ⟨gn, 0, none⟩) s.g.L.length s.g.L.length) ∧ NodesAt w.heap.size w' (.slice (some ⟨gn, 0, none⟩) s.g.L.length s.g.L.length) ys ∧ ys.map NodeL.toV = s.g.L ∧ Below w.heap.size w w' := by
  obtain ⟨N, hN⟩ : ∃ N, s.g.L.length = N := ⟨_, rfl⟩
  have CL := Lib.hid (hlen_any w lo x F s h)
  rw [hN] at hf CL ⊢
  obtain ⟨i0, hi0, hz0, hz1, hz2⟩ := info_parts node_info11
  obtain ⟨w1, hmk, ho1, hg1⟩ := run_makeSlice_full (P := Tryz.prog) (w := w) w.heap.size 41 59 i0 _ 6 Tryz.underlying41 hi0 hz0 hz1 .i64 .i64 N (by omega) (by rw [hz2]; omega) (by unfold maxLen; omega) (Nat.le_refl _)
  rw [made_nodes] at ho1
  obtain ⟨gn, hgn⟩ : ∃ gn, w.heap.size = gn := ⟨_, rfl⟩
  have O1 := Lib.hid (show RowC w.heap.size w1 59 6 (.slice (some ⟨gn, 0, none⟩) N N) (([] : List NodeL).map NodeL.cells ++ List.replicate (N - 0) zeroNC) from by
    refine ⟨fun cs hcs => ?_, ?_⟩
    · simp only [List.map_nil, List.nil_append, Nat.sub_zero] at hcs
      rw [List.eq_of_mem_replicate hcs]
      rfl
    · rw [hgn] at ho1
      simpa [hgn] using ho1)
  have B1 := Lib.hid (show Below w.heap.size w w1 from (Below.refl _ _).grown hg1 (Nat.le_refl _) (fun k hk => by cases hk))
  have HH := Lib.hid h
  have HN := Lib.hid hN
  have hs1 : gn + 1 ≤ w1.heap.size := by
    have := (World.ownsRow.lt ho1 w.heap.size rfl).2
    omega
  rw [hgn] at hmk
  clear h ho1 hg1 hN hi0 hz0 hz1 hz2 i0
  go_enter Tryz.func16, Tryz.ntmps16
  go_wp2_with (fail)
  refine CL.out.mono ?_
  rintro e w' ⟨rfl, hw⟩
  subst hw
  go_wp2_with (fail)
  go_loopw [10] (fun s10 wr => ∃ (i : Nat) (ys : List NodeL), s10 = .int .i64 (i : Int) ∧ i ≤ N ∧ Hid (ys.length = i) ∧ Hid (RowC w.heap.size wr 59 6 (.slice (some ⟨gn, 0, none⟩) N N) (ys.map NodeL.cells ++ List.replicate (N - i) zeroNC)) ∧ Hid (∀ y ∈ ys, y.Own (gn + 1) wr) ∧ Hid (ys.map NodeL.toV = s.g.L.take i) ∧ Hid (Below w.heap.size w wr) ∧ gn + 1 ≤ wr.heap.size) (fun s10 _ => N - (intOf s10).toNat)
  case atStart => exact ⟨0, [], rfl, Nat.zero_le _, rfl, O1, Lib.hid (fun y hy => by simp at hy), Lib.hid (by simp), B1, hs1⟩
  case round =>
    obtain ⟨i, ys, rfl, hi, HYL, HR, HO, HV, HB, hws⟩ := hrel
    by_cases hc : i < N
    · have CN := Lib.hid (hnode_any wr lo x F s (HH.out.on HB.out) (i : Int))
      go_wp2_with (fail)
      refine CN.out.mono ?_
      rintro e w2 ⟨y, rfl, hy, hyv, hb2⟩
      obtain ⟨la, ln, lc, hpl, -⟩ := ownsRow_slice hy.lrow
      have he : Value.agg y.cells.toArray = .agg #[.int .u32 (y.it.id : Int), .slice y.it.pv.1 y.it.pv.2.1 y.it.pv.2.2, .slice y.it.pt.1 y.it.pt.2.1 y.it.pt.2.2, .int .u64 (y.frm : Int), .int .u64 (y.til : Int), .slice la ln lc] := by
        show Value.agg #[_, _, _, _, _, y.pl] = _
        rw [hpl]
      have hcells : y.cells = [.int .u32 (y.it.id : Int), .slice y.it.pv.1 y.it.pv.2.1 y.it.pv.2.2, .slice y.it.pt.1 y.it.pt.2.1 y.it.pt.2.2, .int .u64 (y.frm : Int), .int .u64 (y.til : Int), .slice la ln lc] := by
        unfold NodeL.cells
        rw [hpl]
      rw [he]
      have R2 := RowC.on HR.out hb2
      have hlen : (ys.map NodeL.cells).length = i := by rw [List.length_map, HYL.out]
      have hcss : (ys.map NodeL.cells ++ List.replicate (N - i) zeroNC)[i]? = some zeroNC := by
        rw [List.getElem?_append_right (by omega), hlen, Nat.sub_self]
        exact List.getElem?_replicate_of_lt (by omega)
      obtain ⟨g', c', e', -, -, hrng⟩ := RowC.at R2 i zeroNC hcss
      have hgg : gn = g' := by
        simp only [Value.slice.injEq, Option.some.injEq, Addr.mk.injEq, and_true] at e'
        exact e'.1
      subst hgg
      have k0 : w2.cell? ⟨gn, i * 6, none⟩ = some _ := hrng 0 _ rfl
      have k1 : w2.cell? ⟨gn, i * 6 + 1, none⟩ = some _ := hrng 1 _ rfl
      have k2 : w2.cell? ⟨gn, i * 6 + 2, none⟩ = some _ := hrng 2 _ rfl
      have k3 : w2.cell? ⟨gn, i * 6 + 3, none⟩ = some _ := hrng 3 _ rfl
      have k4 : w2.cell? ⟨gn, i * 6 + 4, none⟩ = some _ := hrng 4 _ rfl
      have k5 : w2.cell? ⟨gn, i * 6 + 5, none⟩ = some _ := hrng 5 _ rfl
      have z0 := RowC.frozen R2 (i * 6)
      have z1 := RowC.frozen R2 (i * 6 + 1)
      have z2 := RowC.frozen R2 (i * 6 + 2)
      have z3 := RowC.frozen R2 (i * 6 + 3)
      have z4 := RowC.frozen R2 (i * 6 + 4)
      have z5 := RowC.frozen R2 (i * 6 + 5)
      have hi0 : (0 : Int) ≤ (i : Int) := by omega
      have hi1 : (i : Int) < (N : Int) := by omega
      have HR2 := Lib.hid R2
      have HY := Lib.hid hy
      have HYV := Lib.hid hyv
      have HB2 := Lib.hid hb2
      have HC := Lib.hid hcells
      have HCS := Lib.hid hcss
      have HLN := Lib.hid hlen
      clear R2 hy hyv hb2 hcells hcss hlen hrng e' he hpl CN
      obtain ⟨W9, hW9⟩ : ∃ W9, ((((((w2.setCell ⟨gn, i * 6, none⟩ (.int .u32 (y.it.id : Int))).setCell ⟨gn, i * 6 + 1, none⟩ (.slice y.it.pv.1 y.it.pv.2.1 y.it.pv.2.2)).setCell ⟨gn, i * 6 + 2, none⟩ (.slice y.it.pt.1 y.it.pt.2.1 y.it.pt.2.2)).setCell ⟨gn, i * 6 + 3, none⟩ (.int .u64 (y.frm : Int))).setCell ⟨gn, i * 6 + 4, none⟩ (.int .u64 (y.til : Int))).setCell ⟨gn, i * 6 + 5, none⟩ (.slice la ln lc)) = W9 := ⟨_, rfl⟩
      have K9 : Kept [gn] w2 W9 := by
        rw [← hW9]
        exact ((((((Kept.refl [gn] w2).setCell _ _ (.inl (by simp))).setCell _ _ (.inl (by simp))).setCell _ _ (.inl (by simp))).setCell _ _ (.inl (by simp))).setCell _ _ (.inl (by simp))).setCell _ _ (.inl (by simp))
      have R9 := Lib.hid (show RowC w.heap.size W9 59 6 (.slice (some ⟨gn, 0, none⟩) N N) ((ys ++ [y]).map NodeL.cells ++ List.replicate (N - (i + 1)) zeroNC) from by
        have h9 := RowC.six HR2.out HCS.out (.int .u32 (y.it.id : Int)) (.slice y.it.pv.1 y.it.pv.2.1 y.it.pv.2.2) (.slice y.it.pt.1 y.it.pt.2.1 y.it.pt.2.2) (.int .u64 (y.frm : Int)) (.int .u64 (y.til : Int)) (.slice la ln lc)
        rw [hW9] at h9
        rw [← HC.out, List.set_append_right _ _ (by rw [HLN.out]; exact Nat.le_refl _), HLN.out, Nat.sub_self, show N - i = (N - (i + 1)) + 1 from by omega, List.replicate_succ, List.set_cons_zero] at h9
        simpa using h9)
      have hgw : gn < w2.heap.size := by have := HB2.out.size; omega
      have O9 := Lib.hid (show ∀ z ∈ ys ++ [y], z.Own (gn + 1) W9 from by
        intro z hz
        rcases List.mem_append.1 hz with hz | hz
        · exact ((HO.out z hz).on HB2.out).keep K9 (by simp)
        · rw [List.mem_singleton.1 hz]
          exact (HY.out.low hws).keep K9 (by simp))
      have V9 := Lib.hid (show (ys ++ [y]).map NodeL.toV = s.g.L.take (i + 1) from by
        have hil : i < s.g.L.length := by rw [HN.out]; exact hc
        rw [List.map_append, HV.out, List.take_add_one, List.getElem?_eq_getElem hil]
        congr 1
        simp only [List.map_cons, List.map_nil, HYV.out, Option.toList_some, List.cons.injEq, and_true]
        unfold GraphV.nodeOr GraphV.thereB
        rw [if_pos (decide_eq_true ⟨by omega, by omega⟩), Int.toNat_natCast, List.getElem?_eq_getElem hil]
        rfl)
      have B9 := Lib.hid ((HB.out.trans (HB2.out.mono HB.out.size)).trans (K9.below (B := w.heap.size) (by simp [hgn]) (Nat.le_trans HB.out.size HB2.out.size)))
      have S9 : gn + 1 ≤ W9.heap.size := by have := K9.size; omega
      have L9 := Lib.hid (show (ys ++ [y]).length = i + 1 from by simp [HYL.out])
      clear HR2 HR HO HV HY HB2 HYV HC HCS HLN CL O1 K9
      go_wp2_with (first | (rw [hW9]) | fail)
      try rw [hW9]
      go_roundw
      case rel => exact ⟨i + 1, _, by go_num, by omega, L9, R9, O9, V9, B9, S9⟩
      case measure => first | (simp [intOf]; done) | (simp [intOf]; omega)
    · have hin : i = N := by omega
      subst hin
      have FIN := Lib.hid (show NodesAt w.heap.size wr (.slice (some ⟨gn, 0, none⟩) i i) ys ∧ ys.map NodeL.toV = s.g.L from by
        refine ⟨⟨?_, fun y hy => (HO.out y hy).low (by omega)⟩, ?_⟩
        · have h9 := HR.out
          rw [Nat.sub_self, List.replicate_zero, List.append_nil] at h9
          exact h9
        · rw [HV.out, List.take_of_length_le (by rw [HN.out]; exact Nat.le_refl _)])
      clear HR HO HV O1 CL
      go_wp2_with (fail)
      go_ret
      exact ⟨gn, ys, rfl, FIN.out.1, FIN.out.2, HB.out⟩
end
end Go.Proofs.YtadkfedglkhgjaaGreat
