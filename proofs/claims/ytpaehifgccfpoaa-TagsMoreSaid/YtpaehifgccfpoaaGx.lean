/-
  TagsMore: the empty filter matches everything; more tags are matched by no fewer filters without None; a tag in All and None matches nothing; what came in reads as before.
-/
import Derived.Test.YtpaehifgccfpoaaRq
namespace Go.Proofs.Ytpaehifgccfpoaa
open Go.ChangeShapes Go.WideShapes Go.ChangeAt Go.RowKit

theorem own_reads {w : World} {B n c : Nat} {a : Option Addr} {t : TypeId} {ss : List ByteArray} (h : OwnS w B t (.slice a n c) ss) (hl : Hid (ss.length = n)) (hn : n ≤ 1000000) : SReads w a n c ss := by
  have hl' := hl.out
  obtain ⟨a', c', e, r, _⟩ := h.reads (by omega)
  injection e with e1 e2 e3
  subst e1; subst e3
  rw [hl'] at r
  exact r

/-- Both filters that the law makes, and all that it reads. -/
structure MoreAt (gb bb : Nat) (a0 : Option Addr) (n0 c0 : Nat) (a1 : Option Addr) (n1 c1 : Nat) (x0 : Option Addr) (m0 d0 : Nat) (x2 : Option Addr) (m2 d2 : Nat) (ax : Option Addr) (nx cx : Nat) (a : Option Addr) (n c : Nat) (s0 s1 s2 ss : List ByteArray) (t : ByteArray) (w : World) : Prop where
  g0 : w.cell? ⟨gb, 0, none⟩ = some (.slice a0 n0 c0)
  g1 : w.cell? ⟨gb, 1, none⟩ = some (.slice a1 n1 c1)
  g2 : w.cell? ⟨gb, 2, none⟩ = some (.slice none 0 0)
  gl : gb < w.heap.size
  b0 : w.cell? ⟨bb, 0, none⟩ = some (.slice x0 m0 d0)
  b1 : w.cell? ⟨bb, 1, none⟩ = some (.slice a1 n1 c1)
  b2 : w.cell? ⟨bb, 2, none⟩ = some (.slice x2 m2 d2)
  bl : bb < w.heap.size
  rl : SReads w a n c ss
  rx : SReads w ax nx cx (ss ++ [t])
  r0 : SReads w a0 n0 c0 s0
  r1 : SReads w a1 n1 c1 s1
  q0 : SReads w x0 m0 d0 (s0 ++ [t])
  q2 : SReads w x2 m2 d2 (s2 ++ [t])

section
variable {gb bb : Nat} {a0 : Option Addr} {n0 c0 : Nat} {a1 : Option Addr} {n1 c1 : Nat} {x0 : Option Addr} {m0 d0 : Nat} {x2 : Option Addr} {m2 d2 : Nat} {ax : Option Addr} {nx cx : Nat} {a : Option Addr} {n c : Nat} {s0 s1 s2 ss : List ByteArray} {t : ByteArray} {w w' : World}
theorem MoreAt.new (hg : Blk w gb 24 [.slice a0 n0 c0, .slice a1 n1 c1, .slice none 0 0]) (hb : Blk w bb 24 [.slice x0 m0 d0, .slice a1 n1 c1, .slice x2 m2 d2]) (rl : SReads w a n c ss) (rx : SReads w ax nx cx (ss ++ [t]))
    (r0 : SReads w a0 n0 c0 s0) (r1 : SReads w a1 n1 c1 s1) (q0 : SReads w x0 m0 d0 (s0 ++ [t])) (q2 : SReads w x2 m2 d2 (s2 ++ [t])) : MoreAt gb bb a0 n0 c0 a1 n1 c1 x0 m0 d0 x2 m2 d2 ax nx cx a n c s0 s1 s2 ss t w :=
  ⟨hg.cell 0, hg.cell 1, hg.cell 2, hg.lt, hb.cell 0, hb.cell 1, hb.cell 2, hb.lt, rl, rx, r0, r1, q0, q2⟩
theorem MoreAt.on (h : MoreAt gb bb a0 n0 c0 a1 n1 c1 x0 m0 d0 x2 m2 d2 ax nx cx a n c s0 s1 s2 ss t w) (hb : Below w.heap.size w w') : MoreAt gb bb a0 n0 c0 a1 n1 c1 x0 m0 d0 x2 m2 d2 ax nx cx a n c s0 s1 s2 ss t w' :=
  ⟨(hb.cell (p := ⟨gb, 0, none⟩) h.gl).trans h.g0, (hb.cell (p := ⟨gb, 1, none⟩) h.gl).trans h.g1, (hb.cell (p := ⟨gb, 2, none⟩) h.gl).trans h.g2, Nat.lt_of_lt_of_le h.gl hb.size,
    (hb.cell (p := ⟨bb, 0, none⟩) h.bl).trans h.b0, (hb.cell (p := ⟨bb, 1, none⟩) h.bl).trans h.b1, (hb.cell (p := ⟨bb, 2, none⟩) h.bl).trans h.b2, Nat.lt_of_lt_of_le h.bl hb.size,
    h.rl.on hb, h.rx.on hb, h.r0.on hb, h.r1.on hb, h.q0.on hb, h.q2.on hb⟩
end

theorem match_empty (ss : List ByteArray) : matchB ⟨[], [], []⟩ ss = true := rfl
theorem match_both (s0 s1 s2 ss : List ByteArray) (t : ByteArray) : matchB ⟨s0 ++ [t], s1, s2 ++ [t]⟩ ss = false := by
  unfold matchB
  simp only [List.all_append, List.any_append, List.all_cons, List.all_nil, List.any_cons, List.any_nil, Bool.and_true, Bool.or_false]
  cases Lib.containsS ss t <;> simp
theorem has_more {ss : List ByteArray} {t x : ByteArray} (h : Lib.containsS ss x = true) : Lib.containsS (ss ++ [t]) x = true := by
  rw [Lib.containsS_iff] at *
  simp [h]
theorem match_more {s0 s1 ss : List ByteArray} {t : ByteArray} (h : matchB ⟨s0, s1, []⟩ ss = true) : matchB ⟨s0, s1, []⟩ (ss ++ [t]) = true := by
  unfold matchB at *
  simp only [List.any_nil, Bool.not_false, Bool.and_true, Bool.and_eq_true, Bool.or_eq_true, List.all_eq_true, List.any_eq_true] at *
  refine ⟨fun x hx => has_more (h.1 x hx), ?_⟩
  rcases h.2 with h2 | ⟨x, hx, h2⟩
  · exact .inl h2
  · exact .inr ⟨x, hx, has_more h2⟩

set_option maxHeartbeats 3200000 in
theorem more_law (a0 a1 a2 a : Option Addr) (n0 c0 n1 c1 n2 c2 n c : Nat) (s0 s1 s2 ss : List ByteArray) (w : World) (h0 : SReads w a0 n0 c0 s0) (h1 : SReads w a1 n1 c1 s1) (h2 : SReads w a2 n2 c2 s2) (h : SReads w a n c ss)
    (z0 : ∀ s ∈ s0, s.size ≤ maxLen) (z1 : ∀ s ∈ s1, s.size ≤ maxLen) (z2 : ∀ s ∈ s2, s.size ≤ maxLen) (z : ∀ s ∈ ss, s.size ≤ maxLen) (t : ByteArray) :
    Calls Try.prog 6 #[.agg #[.slice a0 n0 c0, .slice a1 n1 c1, .slice a2 n2 c2], .slice a n c, .string t] w fun e w' => e = .returned (.bool true) ∧ Below w.heap.size w w' := by
  have FN := Lib.hid (FilterAt.new w a0 n0 c0 a1 n1 c1 a2 n2 c2 s0 s1 s2 h0 h1 h2)
  have RN := Lib.hid h
  have Z0 := Lib.hid z0
  have Z1 := Lib.hid z1
  have Z2 := Lib.hid z2
  have ZZ := Lib.hid z
  clear h0 h1 h2 h z0 z1 z2 z
  go_enter Try.func6, Try.ntmps6
  go_wp2_with (fail)
  refine (alive3 _).mono ?_
  rintro e w1 ⟨rfl, hb1⟩
  have FF := Lib.hid (FN.out.on hb1)
  have RR := Lib.hid (RN.out.on FF.out.below)
  have k0 := FF.out.k0
  have k1 := FF.out.k1
  have k2 := FF.out.k2
  have lt := FF.out.lt
  clear hb1 FN RN
  go_wp2_with (fail)
  refine (great_reads a n c ss _ RR.out ZZ.out).mono ?_
  rintro e w2 ⟨⟨g, rfl, hg⟩, rfl⟩
  have q := Lib.hid hg
  clear hg
  by_cases hg : g = true
  · subst hg
    go_wp2
    go_ret
    exact ⟨rfl, FF.out.below⟩
  rw [Bool.not_eq_true] at hg
  subst hg
  have Hq := Lib.hid (q.out rfl)
  clear q
  go_wp2_with (fail)
  refine (great_reads a0 n0 c0 s0 _ FF.out.r0 Z0.out).mono ?_
  rintro e w2 ⟨⟨g, rfl, hg⟩, rfl⟩
  have q0 := Lib.hid hg
  clear hg
  by_cases hg : g = true
  · subst hg
    go_wp2
    go_ret
    exact ⟨rfl, FF.out.below⟩
  rw [Bool.not_eq_true] at hg
  subst hg
  have Hq0 := Lib.hid (q0.out rfl)
  clear q0
  go_wp2_with (fail)
  refine (great_reads a1 n1 c1 s1 _ FF.out.r1 Z1.out).mono ?_
  rintro e w2 ⟨⟨g, rfl, hg⟩, rfl⟩
  have q1 := Lib.hid hg
  clear hg
  by_cases hg : g = true
  · subst hg
    go_wp2
    go_ret
    exact ⟨rfl, FF.out.below⟩
  rw [Bool.not_eq_true] at hg
  subst hg
  have Hq1 := Lib.hid (q1.out rfl)
  clear q1
  go_wp2_with (fail)
  refine (great_reads a2 n2 c2 s2 _ FF.out.r2 Z2.out).mono ?_
  rintro e w2 ⟨⟨g, rfl, hg⟩, rfl⟩
  have q2 := Lib.hid hg
  clear hg
  by_cases hg : g = true
  · subst hg
    go_wp2
    go_ret
    exact ⟨rfl, FF.out.below⟩
  rw [Bool.not_eq_true] at hg
  subst hg
  have Hq2 := Lib.hid (q2.out rfl)
  clear q2
  go_wp2_with (at_builtin; refine app_strs _ rfl (.tmp 29) (.tmp 30) 22 9 rfl Try.underlying22 string_info w2.heap.size _ [] (by rfl) (own_new w2 _ (Nat.le_refl _)) a n c ss (by rfl) (RR.out.alloc _) (by have := Hq.out; simp; omega) (by simp) ?_)
  intro v1 w3 o1 g1
  have hb : Below w2.heap.size w2 w3 := ((Below.refl _ w2).alloc (Nat.le_refl _) _).grown g1 (by simp) (fun k hk => by simp [Value.ownBlock] at hk; omega)
  have hsz3 := hb.size
  have O1 := Lib.hid o1
  have HB3 := Lib.hid hb
  clear o1 g1 hb
  go_wp2_with (at_builtin; refine app_str _ rfl (.tmp 31) (.tmp 33) rfl w2.heap.size _ ss t (by rfl) (by rfl) O1.out hsz3 (by have := Hq.out; have := RR.out.len; omega) ?_)
  intro v2 w4 o2 g2
  have hb := g2 _ HB3.out
  obtain ⟨ax, nx, cx, rfl, hnx⟩ := o2.parts
  have HX := Lib.hid (show SReads w4 ax nx cx (ss ++ [t]) from own_reads o2 hnx (by have e : (ss ++ [t]).length = nx := hnx.out; rw [List.length_append, List.length_singleton] at e; have := Hq.out; have := RR.out.len; omega))
  have FF4 := Lib.hid (FF.out.on hb)
  have RR4 := Lib.hid (RR.out.on hb)
  clear hb k0 k1 k2 lt FF RR
  have k0 := FF4.out.k0
  have k1 := FF4.out.k1
  have k2 := FF4.out.k2
  have lt := FF4.out.lt
  clear o2 g2 hsz3 O1 HB3 hnx
  go_wp2
  have hb := alloc_below w4 (.cells #[.slice a0 n0 c0, .slice a1 n1 c1, .slice none 0 0] 24)
  have GB := Lib.hid (Blk.new w4 24 #[.slice a0 n0 c0, .slice a1 n1 c1, .slice none 0 0])
  have FF5 := Lib.hid (FF4.out.on hb)
  have RR5 := Lib.hid (RR4.out.on hb)
  have HX5 := Lib.hid (HX.out.on hb)
  clear hb k0 k1 k2 lt FF4 RR4 HX
  generalize w4.alloc (.cells #[.slice a0 n0 c0, .slice a1 n1 c1, .slice none 0 0] 24) = w5 at *
  generalize w4.heap.size = gb at *
  refine more_region w5 w.heap.size a0 a1 a2 n0 c0 n1 c1 n2 c2 s0 s2 t rfl (by kernel_rfl) ⟨_, rfl, rfl, rfl, rfl, by kernel_rfl⟩ ⟨_, rfl, rfl, rfl, rfl, by kernel_rfl⟩ ⟨_, rfl, rfl, rfl, rfl, by kernel_rfl⟩ ⟨_, rfl, rfl, rfl, rfl, by kernel_rfl⟩ ⟨_, rfl, rfl, rfl, rfl, by kernel_rfl⟩ ⟨_, rfl, rfl, rfl, rfl, by kernel_rfl⟩ ⟨_, rfl, rfl, rfl, rfl, by kernel_rfl⟩ ⟨_, rfl, rfl, rfl, rfl, by kernel_rfl⟩ ⟨_, rfl, rfl, rfl, rfl, by kernel_rfl⟩ ⟨_, rfl, rfl, rfl, rfl, by kernel_rfl⟩ ⟨_, rfl, rfl, rfl, rfl, by kernel_rfl⟩ ⟨_, rfl, rfl, rfl, rfl, by kernel_rfl⟩ ⟨_, rfl, rfl, rfl, rfl, by kernel_rfl⟩ ⟨_, rfl, rfl, rfl, rfl, by kernel_rfl⟩ ⟨_, rfl, rfl, rfl, rfl, by kernel_rfl⟩ ⟨_, rfl, rfl, rfl, rfl, by kernel_rfl⟩ ⟨_, rfl, rfl, rfl, rfl, by kernel_rfl⟩ ⟨_, rfl, rfl, rfl, rfl, by kernel_rfl⟩ ⟨_, rfl, rfl, rfl, rfl, by kernel_rfl⟩ rfl rfl rfl FF5.out.k0 FF5.out.k1 FF5.out.k2 FF5.out.lt FF5.out.r0 FF5.out.r2 Hq0.out Hq2.out ?_
  intro E w6 hfin
  obtain ⟨bb, h9, hblk, o46, o55, hb⟩ := hfin
  obtain ⟨x0, m0, d0, f0, hm0⟩ := o46.parts
  obtain ⟨x2, m2, d2, f2, hm2⟩ := o55.parts
  rw [f0] at o46 hblk
  rw [f2] at o55 hblk
  have MM := Lib.hid (show MoreAt gb bb a0 n0 c0 a1 n1 c1 x0 m0 d0 x2 m2 d2 ax nx cx a n c s0 s1 s2 ss t w6 from
    MoreAt.new (GB.out.of_eq (hb.block gb GB.out.lt)) hblk (RR5.out.on hb) (HX5.out.on hb) (FF5.out.r0.on hb) (FF5.out.r1.on hb)
      (own_reads o46 hm0 (by have e : (s0 ++ [t]).length = m0 := hm0.out; rw [List.length_append, List.length_singleton] at e; have := Hq0.out; have := FF5.out.r0.len; omega))
      (own_reads o55 hm2 (by have e : (s2 ++ [t]).length = m2 := hm2.out; rw [List.length_append, List.length_singleton] at e; have := Hq2.out; have := FF5.out.r2.len; omega)))
  have HB := Lib.hid (FF5.out.below.trans (hb.mono FF5.out.below.size))
  clear hblk o46 o55 hb hm0 hm2 FF5 RR5 HX5 GB f0 f2
  unfold filled
  rw [h9]
  clear h9
  have g0 := MM.out.g0
  have g1 := MM.out.g1
  have g2 := MM.out.g2
  have gl := MM.out.gl
  have b0 := MM.out.b0
  have b1 := MM.out.b1
  have b2 := MM.out.b2
  have bl := MM.out.bl
  go_wp2_with (fail)
  refine (match_at true none none none a 0 0 0 0 0 0 n c [] [] [] ss _ (SReads.nil _) (SReads.nil _) (SReads.nil _) MM.out.rl (match_empty ss)).mono ?_
  rintro e w7 ⟨rfl, hb⟩
  have HB7 := Lib.hid (HB.out.trans (hb.mono HB.out.size))
  have MM7 := Lib.hid (MM.out.on hb)
  clear hb g0 g1 g2 gl b0 b1 b2 bl HB MM
  have g0 := MM7.out.g0
  have g1 := MM7.out.g1
  have g2 := MM7.out.g2
  have gl := MM7.out.gl
  have b0 := MM7.out.b0
  have b1 := MM7.out.b1
  have b2 := MM7.out.b2
  have bl := MM7.out.bl
  obtain ⟨b, hm⟩ : ∃ b, matchB ⟨s0, s1, []⟩ ss = b := ⟨_, rfl⟩
  have HM := Lib.hid hm
  clear hm
  go_wp2_with (fail)
  refine (match_at b a0 a1 none a n0 c0 n1 c1 0 0 n c s0 s1 [] ss _ MM7.out.r0 MM7.out.r1 (SReads.nil _) MM7.out.rl HM.out).mono ?_
  rintro e w8 ⟨rfl, hb⟩
  have HB8 := Lib.hid (HB7.out.trans (hb.mono HB7.out.size))
  have MM8 := Lib.hid (MM7.out.on hb)
  clear hb g0 g1 g2 gl b0 b1 b2 bl HB7 MM7
  have g0 := MM8.out.g0
  have g1 := MM8.out.g1
  have g2 := MM8.out.g2
  have gl := MM8.out.gl
  have b0 := MM8.out.b0
  have b1 := MM8.out.b1
  have b2 := MM8.out.b2
  have bl := MM8.out.bl
  cases b
  · go_wp2_with (fail)
    refine (match_at false x0 a1 x2 a m0 d0 n1 c1 m2 d2 n c (s0 ++ [t]) s1 (s2 ++ [t]) ss _ MM8.out.q0 MM8.out.r1 MM8.out.q2 MM8.out.rl (match_both s0 s1 s2 ss t)).mono ?_
    rintro e w9 ⟨rfl, hb⟩
    have HB9 := HB8.out.trans (hb.mono HB8.out.size)
    clear hb g0 g1 g2 gl b0 b1 b2 bl
    go_wp2
    go_ret
    exact ⟨rfl, HB9⟩
  · go_wp2_with (fail)
    refine (match_at true a0 a1 none ax n0 c0 n1 c1 0 0 nx cx s0 s1 [] (ss ++ [t]) _ MM8.out.r0 MM8.out.r1 (SReads.nil _) MM8.out.rx (match_more HM.out)).mono ?_
    rintro e w9 ⟨rfl, hb⟩
    have HB9 := Lib.hid (HB8.out.trans (hb.mono HB8.out.size))
    have MM9 := Lib.hid (MM8.out.on hb)
    clear hb g0 g1 g2 gl b0 b1 b2 bl HB8 MM8
    have g0 := MM9.out.g0
    have g1 := MM9.out.g1
    have g2 := MM9.out.g2
    have gl := MM9.out.gl
    have b0 := MM9.out.b0
    have b1 := MM9.out.b1
    have b2 := MM9.out.b2
    have bl := MM9.out.bl
    go_wp2_with (fail)
    refine (match_at false x0 a1 x2 a m0 d0 n1 c1 m2 d2 n c (s0 ++ [t]) s1 (s2 ++ [t]) ss _ MM9.out.q0 MM9.out.r1 MM9.out.q2 MM9.out.rl (match_both s0 s1 s2 ss t)).mono ?_
    rintro e w10 ⟨rfl, hb⟩
    have HB10 := HB9.out.trans (hb.mono HB9.out.size)
    clear hb g0 g1 g2 gl b0 b1 b2 bl
    go_wp2
    go_ret
    exact ⟨rfl, HB10⟩

theorem more_row : Rows.TagsMoreSaid :=
  OpenClaim.holds_of_wide 6 Try.f6 rfl rfl rfl rfl rfl rfl rfl ⟨rfl, rfl, rfl, rfl, rfl⟩ rfl rfl rfl rfl rfl (by kernel_rfl) Try.func6 (by kernel_rfl)
    (of_decide_eq_true (by kernel_rfl)) (by unfold Func.isWrapper; rw [if_neg (of_decide_eq_false (by kernel_rfl))]; exact ⟨rfl, rfl⟩)
    (fun os started H enc _ => lift (C := Try.checked) (s := Rows.tagsMoreSpec) (conds := Rows.tagsMoreRow.domain) os started H enc prog_own (by kernel_rfl) Try.func6 prog_laid rfl Try.underlying4 rfl
      (fun ds hl => by
        have hl : ds.length = 3 := hl
        match ds, hl with
        | [_, _, _], _ => rfl)
      (of_decide_eq_true (by kernel_rfl))
      (ChangeSpec.witness6 (enc := enc) (C := Try.checked) false ⟨#[], #[.agg #[.slice none 0 0, .slice none 0 0, .slice none 0 0], .slice none 0 0, .string ⟨#[]⟩], []⟩ 8 (by kernel_rfl) (by kernel_rfl) (by kernel_rfl) (by kernel_rfl))
      (fun W base args ds p g => by
        rw [Try.params6] at g
        obtain ⟨a0, n0, c0, s0, a1, n1, c1, s1, a2, n2, c2, s2, e0, h0, h1, h2, z0, z1, z2⟩ := g.filter 0 rfl
        obtain ⟨a, n, c, ss, e1, h, z⟩ := g.tags 1 rfl
        obtain ⟨t, e2, _⟩ := g.string 2 rfl Try.underlying9
        rw [args3 g.count e0 e1 e2]
        exact more_law a0 a1 a2 a n0 c0 n1 c1 n2 c2 n c s0 s1 s2 ss W h0 h1 h2 h z0 z1 z2 z t))
end Go.Proofs.Ytpaehifgccfpoaa
