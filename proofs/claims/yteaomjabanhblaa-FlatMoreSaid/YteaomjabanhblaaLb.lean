/-
  The program's behind (an iterator that goes through another one), Rank, Search and After, each by walks over their texts.
-/
import Derived.Test.YteaomjabanhblaaLc
namespace Go.Proofs.Yteaomjabanhblaa
open Go.RowKit Go.Shelf

attribute [local go_sem] Oper.semAt_some

/-- Those of the hits that one is less than. -/
def behindL (last : Hit) (xs : List Hit) : List Hit := xs.filter (ltH last)
theorem behindL_snoc (last : Hit) (xs : List Hit) (x : Hit) : behindL last (xs ++ [x]) = behindL last xs ++ (if ltH last x = true then [x] else []) := by
  rw [behindL, behindL, List.filter_append]
  simp [List.filter_cons]
theorem behindL_pre {last : Hit} {pre xs : List Hit} (h : pre <+: xs) : behindL last pre <+: behindL last xs := by
  obtain ⟨t, rfl⟩ := h
  exact ⟨behindL last t, by simp [behindL]⟩

/-- What behind's loop keeps: its caller's own invariant, and the box of yield. -/
def BehI (last : Hit) (l : Nat) (w : World) (By : Nat) (J : List Nat → List Hit → World → Prop) (F : List Nat) (pre : List Hit) (W : World) : Prop :=
  J F (behindL last pre) W ∧ Blk W By 67 [.func (.yield l) #[] #[]] ∧ By ∉ F ∧ Below w.heap.size w W

set_option maxRecDepth 100000 in
set_option maxHeartbeats 3200000 in
theorem behind1_in (d : Nat) (hd : 3 ≤ d) (w w0 : World) (Bh Bl : Nat) (gf : Nat) (lb : Array Value) (xs : List Hit) (last : Hit) (hen : Enters gf) (hseq : GivesL Try.prog gf lb hitE xs w0) (hb0 : Below w0.heap.size w0 w)
    (hbh : Blk w Bh 57 [.func (.func gf) #[] lb]) (hbl : Blk w Bl 29 [.int .i64 last.1, .int .u32 last.2])
    (l : Nat) (J : List Nat → List Hit → World → Prop) (W : World) (F : List Nat) (hW : Below w.heap.size w W) (hA : Abide W.heap.size J)
    (hF : ∀ F pre W, J F pre W → ∀ x ∈ F, w.heap.size ≤ x ∧ x < W.heap.size)
    (hY : ∀ F pre x W1, J F pre W1 → pre ++ [x] <+: behindL last xs → YieldAt Fence.wide 9 Try.prog l (hitE x) W1 fun e W' => e = .returned (.bool true) ∧ ∃ F', J F' (pre ++ [x]) W' ∧ Kept F W1 W' ∧ Grows W1 F F')
    (h0 : J F [] W) :
    CallsIn Fence.wide d Try.prog 41 #[.func (.yield l) #[] #[], .pointer (some ⟨Bh, 0, none⟩), .pointer (some ⟨Bl, 0, none⟩)] W fun e W' => (∃ v, e = .returned v) ∧ ∃ F', J F' (behindL last xs) W' := by
  have HEN := Lib.hid hen
  have HSQ := Lib.hid hseq
  have HB0 := Lib.hid (hb0.trans (hW.mono hb0.size))
  have HA := Lib.hid hA
  have HY := Lib.hid hY
  have HF := Lib.hid hF
  have HWB := Lib.hid hW
  have hsz := hW.size
  have hsz0 := hb0.size
  have bh := hbh.of_eq (hW.block _ hbh.lt)
  have cH : W.cell? ⟨Bh, 0, none⟩ = some (.func (.func gf) #[] lb) := bh.cell 0
  have HBL := Lib.hid hbl
  have HBH := Lib.hid hbh
  have hd1 : 1 ≤ d := by omega
  clear hen hseq hb0 hA hY hF hW bh
  obtain ⟨By, hBy⟩ : ∃ By, W.heap.size = By := ⟨_, rfl⟩
  obtain ⟨W0, hW0⟩ : ∃ W0, W.alloc (.cells #[.func (.yield l) #[] #[]] 67) = W0 := ⟨_, rfl⟩
  have k0 : Kept [] W W0 := by rw [← hW0]; exact (Kept.refl [] W).alloc _
  have hs0 : W0.heap.size = By + 1 := by rw [← hW0, ← hBy]; simp
  have bY : Blk W0 By 67 [.func (.yield l) #[] #[]] := by rw [← hW0, ← hBy]; exact Blk.new _ _ _
  have cH0 : W0.cell? ⟨Bh, 0, none⟩ = some (.func (.func gf) #[] lb) := (k0.blk (hbh.of_eq (HWB.out.block _ hbh.lt)) (by simp)).cell 0
  refine callsIn_of_wp_marks Try.func41 rfl trivial ?_ rfl
  simp only [Try.ntmps41, List.size_toArray, List.length_cons, List.length_nil, Nat.reduceAdd, Nat.reduceSub, Array.replicate_succ, Array.replicate_zero, List.push_toArray, List.append_toArray, List.nil_append, List.cons_append]
  clear hbh hbl
  gi_wp2_with (first | (rw [hW0]) | fail)
  have hBl := HBL.out.lt
  have I0 : BehI last l w By J F [] W0 := ⟨HA.out _ _ _ _ [] h0 k0 (by simp), bY, fun hh => by have := (HF.out _ _ _ h0 _ hh).2; omega, HWB.out.trans (k0.below (by simp) hsz)⟩
  refine wpIn_gives (by omega) (gf := gf) (lb := lb) rfl HEN.out HSQ.out (HB0.out.trans (k0.below (by simp) (by omega))) (fun _ => rfl) (BehI last l w By J)
    (fun F pre W1 W2 G h hk hG => ⟨HA.out _ _ _ _ _ h.1 hk (fun x hx => ⟨(hG x hx).1, by have := (hG x hx).2; omega⟩), hk.blk h.2.1 (fun hh => by have := (hG _ hh).2; omega), h.2.2.1, h.2.2.2.trans (hk.below (fun x hx => by have := (hG x hx).2; omega) h.2.2.2.size)⟩)
    (fun F pre W h x hx => by have := HF.out _ _ _ h.1 x hx; exact ⟨by omega, this.2⟩) F (fun x hx => by have := (HF.out _ _ _ h0 x hx).2; omega) I0
    (fun x a' W => ∃ Bx, W0.heap.size + 2 ≤ Bx ∧ Blk W Bx 29 [.int .i64 x.1, .int .u32 x.2] ∧ a' = { tmps := #[.func (.yield l) #[] #[], .pointer (some ⟨Bh, 0, none⟩), .pointer (some ⟨Bl, 0, none⟩), .pointer (some ⟨By, 0, none⟩), .pointer (some ⟨Bx, 0, none⟩), .func (.func gf) #[] lb, .agg #[.int .i64 x.1, .int .u32 x.2], undef, undef, undef, undef, undef, undef, undef, undef, undef], defers := [] })
    (fun x a' W1 W2 h hk => by
      obtain ⟨Bx, h1, h2, h3⟩ := h
      exact ⟨Bx, h1, hk.blk h2 (by simp; omega), h3⟩) ?assign ?body ?done
  case assign =>
    intro l2 x W2 K hsz2 hK
    dsimp only [hitE]
    gi_wp2
    refine hK _ _ ((Kept.refl [] W2).alloc _) ⟨W2.heap.size, hsz2, Blk.new W2 _ _, rfl⟩
  case body =>
    rintro l2 F pre x a' W2 ⟨h1, h2, h3, h4⟩ ⟨Bx, hBx, dx, rfl⟩ hsz2 hp
    have bl2 := HBL.out.of_eq (h4.block _ hBl)
    have c0 : W2.cell? ⟨Bl, 0, none⟩ = some (.int .i64 last.1) := bl2.cell 0
    have c1 : W2.cell? ⟨Bl, 1, none⟩ = some (.int .u32 last.2) := bl2.cell 1
    have x0 : W2.cell? ⟨Bx, 0, none⟩ = some (.int .i64 x.1) := dx.cell 0
    have x1 : W2.cell? ⟨Bx, 1, none⟩ = some (.int .u32 x.2) := dx.cell 1
    have cY : W2.cell? ⟨By, 0, none⟩ = some (.func (.yield l) #[] #[]) := h2.cell 0
    have H1 := Lib.hid h1
    have H2 := Lib.hid h2
    have H3 := Lib.hid h3
    have H4 := Lib.hid h4
    have DX := Lib.hid dx
    have HP := Lib.hid hp
    clear h1 h2 h3 h4 dx bl2 hp
    have hd2 : 1 ≤ d - 1 - 1 := by omega
    obtain ⟨z, hz⟩ : ∃ z, ltH last x = z := ⟨_, rfl⟩
    have CL := Lib.hid (less_eq last x z hz W2)
    cases z with
    | false =>
      gi_wp2
      refine ⟨trivial, (CallsIn.inRound l2 (callsIn_wide.2 CL.out)).mono ?_⟩
      rintro e w3 ⟨rfl, hb3⟩
      have K3 := Lib.hid (Kept.of_below (F := F) hb3 (Nat.le_refl _))
      have K3' := Lib.hid (Kept.of_below (F := []) hb3 (Nat.le_refl _))
      clear hb3
      gi_wp2
      refine ⟨fun _ h => (by cases h), ?_⟩
      gi_wp2
      refine ⟨F, ⟨?_, K3.out.blk H2.out H3.out, H3.out, H4.out.trans (K3'.out.below (by simp) H4.out.size)⟩, K3.out, Grows.refl _ _⟩
      rw [behindL_snoc, hz]
      simp only [Bool.false_eq_true, if_false, List.append_nil]
      exact HA.out _ _ _ _ [] H1.out K3'.out (by simp)
    | true =>
      gi_wp2
      refine ⟨trivial, (CallsIn.inRound l2 (callsIn_wide.2 CL.out)).mono ?_⟩
      rintro e w3 ⟨rfl, hb3⟩
      have K3 := Lib.hid (Kept.of_below (F := F) hb3 (Nat.le_refl _))
      have K3' := Lib.hid (Kept.of_below (F := []) hb3 (Nat.le_refl _))
      clear hb3
      have y0 : w3.cell? ⟨Bx, 0, none⟩ = some (.int .i64 x.1) := (K3'.out.blk DX.out (by simp)).cell 0
      have y1 : w3.cell? ⟨Bx, 1, none⟩ = some (.int .u32 x.2) := (K3'.out.blk DX.out (by simp)).cell 1
      have yY : w3.cell? ⟨By, 0, none⟩ = some (.func (.yield l) #[] #[]) := (K3'.out.blk H2.out (by simp)).cell 0
      have HN := Lib.hid (show behindL last (pre ++ [x]) = behindL last pre ++ [x] from by rw [behindL_snoc, hz]; rfl)
      have J3 := Lib.hid (HA.out _ _ _ _ [] H1.out K3'.out (by simp))
      obtain ⟨fn, tmps, assign, body, hy, hR⟩ := yield_any (d - 1 - 1 - 1) (HY.out F _ x w3 J3.out (by rw [← HN.out]; exact behindL_pre HP.out))
      dsimp only [hitE] at hy
      gi_wp2
      refine RoundIn.mono (show RoundIn (Fence.wide.inRound l2) _ _ _ _ _ _ _ _ _ from hR) ?_
      rintro e w5 ⟨rfl, F', hJ5, hk5, hg5⟩
      have J5 := Lib.hid hJ5
      have K5 := Lib.hid hk5
      have G5 := Lib.hid hg5
      have hs3 := K3.out.size
      have hby2 := H2.out.lt
      clear hJ5 hk5 hg5 hR hy y0 y1 yY
      gi_wp2
      refine ⟨F', ⟨by rw [HN.out]; exact J5.out, K5.out.blk (K3.out.blk H2.out H3.out) H3.out, fun hh => ?_, (H4.out.trans (K3'.out.below (by simp) H4.out.size)).trans (K5.out.below (fun x hx => (HF.out _ _ _ H1.out x hx).1) (Nat.le_trans H4.out.size hs3))⟩, K3.out.trans K5.out (Grows.refl _ _), fun y hy => ?_⟩
      · rcases G5.out _ hh with h | h
        · exact H3.out h
        · omega
      · rcases G5.out y hy with h | h
        · exact .inl h
        · exact .inr (by omega)
  case done =>
    rintro D F W2 hD hFD ⟨h1, h2, h3, h4⟩ hK
    have H1 := Lib.hid h1
    have KD := Lib.hid hK
    clear h1 h2 h3 h4 hK
    gi_wp2
    refine ⟨by simp, .inl ⟨_, _, rfl, run_takeDeferred KD.out, ?_⟩⟩
    refine ⟨_, results_none rfl _ _ _, ⟨_, rfl⟩, F, HA.out _ _ _ _ _ H1.out (putO_kept W2 D _) fun x hx => ?_⟩
    rw [List.mem_singleton.1 hx]
    exact ⟨fun hh => hFD _ hh rfl, by omega⟩
theorem behind_gives (w w0 : World) (Bh Bl : Nat) (gf : Nat) (lb : Array Value) (xs : List Hit) (last : Hit) (hen : Enters gf) (hseq : GivesL Try.prog gf lb hitE xs w0) (hb0 : Below w0.heap.size w0 w)
    (hbh : Blk w Bh 57 [.func (.func gf) #[] lb]) (hbl : Blk w Bl 29 [.int .i64 last.1, .int .u32 last.2]) :
    GivesL Try.prog 41 #[.pointer (some ⟨Bh, 0, none⟩), .pointer (some ⟨Bl, 0, none⟩)] hitE (behindL last xs) w :=
  fun l J W F hW hA hF hY h0 => callsIn_wide.1 (behind1_in 9 (by omega) w w0 Bh Bl gf lb xs last hen hseq hb0 hbh hbl l J W F hW hA hF hY h0)
theorem enters_behind : Enters 41 := enters_of Try.func41 (by kernel_rfl) rfl

set_option maxHeartbeats 1600000 in
/-- behind(last, hits): an iterator over those that last is less than. -/
theorem behind_any (w w0 : World) (gf : Nat) (lb : Array Value) (xs : List Hit) (last : Hit) (hen : Enters gf) (hseq : GivesL Try.prog gf lb hitE xs w0) (hb0 : Below w0.heap.size w0 w) :
    Calls Try.prog 27 #[.agg #[.int .i64 last.1, .int .u32 last.2], .func (.func gf) #[] lb] w fun e w' => ∃ lb', e = .returned (.func (.func 41) #[] lb') ∧ GivesL Try.prog 41 lb' hitE (behindL last xs) w' ∧ Below w.heap.size w w' := by
  obtain ⟨w2, hw2⟩ : ∃ w2, (w.alloc (.cells #[.int .i64 last.1, .int .u32 last.2] 29)).alloc (.cells #[.func (.func gf) #[] lb] 57) = w2 := ⟨_, rfl⟩
  have hb : Below w.heap.size w w2 := by
    rw [← hw2]
    exact ((Below.refl _ w).alloc (Nat.le_refl _) _).alloc (by simp) _
  have b0 : Blk w2 w.heap.size 29 [.int .i64 last.1, .int .u32 last.2] := by
    rw [← hw2]
    exact (Blk.new w 29 #[.int .i64 last.1, .int .u32 last.2]).alloc _
  have b1 : Blk w2 (w.heap.size + 1) 57 [.func (.func gf) #[] lb] := by
    rw [← hw2]
    have := Blk.new (w.alloc (.cells #[.int .i64 last.1, .int .u32 last.2] 29)) 57 #[.func (.func gf) #[] lb]
    simpa using this
  have HG := Lib.hid (behind_gives w2 w0 _ _ gf lb xs last hen hseq (hb0.trans (hb.mono hb0.size)) b1 b0)
  have HB := Lib.hid hb
  clear hen hseq hb0 hb b0 b1
  go_enter Try.func27, Try.ntmps27
  go_wp2
  try rw [hw2]
  go_ret
  exact ⟨_, rfl, HG.out, HB.out⟩

/-- The hits of Rank. -/
def rankL (m : Nat) (q : List Int) (f : Filt) (xs : List shItem.T) : List Hit := sortL (wantL m q f xs)
theorem wantL_len (m : Nat) (q : List Int) (f : Filt) (xs : List shItem.T) : (wantL m q f xs).length ≤ xs.length := by
  rw [wantL]
  exact List.length_filterMap_le _ _
/-- What a call that tells hits leaves. -/
def HitsPost (l : List Hit) (w : World) (e : Ending) (w' : World) : Prop :=
  ∃ g n, e = .returned (.slice (some ⟨g, 0, none⟩) n n) ∧ Own w' 29 (.slice (some ⟨g, 0, none⟩) n n) l ∧ Below w.heap.size w w' ∧ w.heap.size ≤ g

section
variable (w : World) (ok : Nat → Prop) (m : Nat) (a qa : Option Addr) (n c qn qc : Nat) (xs : List shItem.T) (q : List Int) (fl : FltL)
set_option maxRecDepth 100000 in
set_option maxHeartbeats 3200000 in
theorem rank_any (hm : m < 256) (h : Rd ok w shItems [.slice a n c] xs) (hn : n ≤ 10000) (hq : Reads .i32 w qa qn q) (hf : fl.In w) :
    Calls Try.prog 12 #[.int .u8 (m : Int), .slice a n c, .slice qa qn qc, .agg fl.cells] w (HitsPost (rankL m q fl.f xs) w) := by
  obtain ⟨_, _, _, hcs, HN, _, _⟩ := Rd.slice_is (e := shItem) h
  simp only [List.cons.injEq, Value.slice.injEq, and_true] at hcs
  obtain ⟨rfl, rfl, rfl⟩ := hcs
  obtain ⟨w1, hw1⟩ : ∃ w1, w.alloc (.cells #[.slice fl.p0.1 fl.p0.2.1 fl.p0.2.2, .slice fl.p1.1 fl.p1.2.1 fl.p1.2.2, .slice fl.p2.1 fl.p2.2.1 fl.p2.2.2] 26) = w1 := ⟨_, rfl⟩
  have hb1 : Below w.heap.size w w1 := by rw [← hw1]; exact (Below.refl _ w).alloc (Nat.le_refl _) _
  have bf : Blk w1 w.heap.size 26 [.slice fl.p0.1 fl.p0.2.1 fl.p0.2.2, .slice fl.p1.1 fl.p1.2.1 fl.p1.2.2, .slice fl.p2.1 fl.p2.2.1 fl.p2.2.2] := by rw [← hw1]; exact Blk.new _ _ _
  have CW := Lib.hid (wanted_any w1 ok m a qa n c qn qc xs q fl hm (h.on hb1) (hq.below (Nat.le_refl _) hb1) (hf.on hb1))
  have HB1 := Lib.hid hb1
  have f0 : w1.cell? ⟨w.heap.size, 0, none⟩ = some (.slice fl.p0.1 fl.p0.2.1 fl.p0.2.2) := bf.cell 0
  have f1 : w1.cell? ⟨w.heap.size, 1, none⟩ = some (.slice fl.p1.1 fl.p1.2.1 fl.p1.2.2) := bf.cell 1
  have f2 : w1.cell? ⟨w.heap.size, 2, none⟩ = some (.slice fl.p2.1 fl.p2.2.1 fl.p2.2.2) := bf.cell 2
  clear h hq hf hb1 bf hm
  show Calls _ _ #[_, _, _, .agg #[.slice fl.p0.1 fl.p0.2.1 fl.p0.2.2, .slice fl.p1.1 fl.p1.2.1 fl.p1.2.2, .slice fl.p2.1 fl.p2.2.1 fl.p2.2.2]] _ _
  go_enter Try.func12, Try.ntmps12
  go_wp2_with (first | (rw [hw1]) | fail)
  refine CW.out.mono ?_
  rintro e w2 ⟨lb, rfl, hg, hb2⟩
  have hlen : (wantL m q fl.f xs).length ≤ 10000 := by
    have := wantL_len m q fl.f xs
    have := HN.out
    omega
  have HL := Lib.hid hlen
  have CC := Lib.hid (collect_any w2 w2 _ lb _ enters_wanted hg (Below.refl _ _) (by omega))
  have HB2 := Lib.hid (HB1.out.trans (hb2.mono HB1.out.size))
  clear hg hb2 f0 f1 f2 hlen
  go_wp2_with (fail)
  refine CC.out.mono ?_
  rintro e w3 ⟨v, rfl, ho, hb3⟩
  obtain ⟨va, vc, rfl⟩ := ho.own.size
  obtain ⟨vn, hvn⟩ : ∃ vn, (wantL m q fl.f xs).length = vn := ⟨_, rfl⟩
  have hr := HReads.of_own ho.own (by have := HL.out; omega)
  rw [hvn] at hr
  have hl := HL.out
  rw [hvn] at hl
  have CM := Lib.hid (merge_some va none vn 0 vc 0 vn (wantL m q fl.f xs) [] (vn : Int) rfl w3 hr ⟨rfl, by decide, .inl rfl⟩ (by omega) (by omega))
  have HVN := Lib.hid hvn
  have HB3 := Lib.hid (HB2.out.trans (hb3.mono HB2.out.size))
  clear ho hb3 hr CW CC HL
  simp only [hvn]
  clear hvn
  go_wp2_with (fail)
  refine CM.out.mono ?_
  rintro e w4 ⟨g, k, rfl, ho4, hb4, hg4⟩
  have H4 := Lib.hid ho4
  have HB4 := Lib.hid (HB3.out.trans (hb4.mono HB3.out.size))
  have H5 := Lib.hid (Nat.le_trans HB3.out.size hg4)
  clear ho4 hb4 hg4
  go_wp2
  go_ret
  refine ⟨g, k, rfl, ?_, HB4.out, H5.out⟩
  have e : rankL m q fl.f xs = keepL vn (wantL m q fl.f xs ++ []) := by
    rw [List.append_nil, keepL, rankL, List.take_of_length_le]
    rw [sortL_len, HVN.out]
    exact Nat.le_refl _
  rw [e]
  exact H4.out

set_option maxRecDepth 100000 in
set_option maxHeartbeats 3200000 in
theorem search_any (k : Int) (r : Nat) (hr : Hid ((r : Int) = min (max k 0) 256)) (hm : m < 256) (h : Rd ok w shItems [.slice a n c] xs) (hq : Reads .i32 w qa qn q) (hf : fl.In w) :
    Calls Try.prog 13 #[.int .u8 (m : Int), .slice a n c, .slice qa qn qc, .agg fl.cells, .int .i64 k] w (HitsPost (keepL r (wantL m q fl.f xs)) w) := by
  obtain ⟨w1, hw1⟩ : ∃ w1, w.alloc (.cells #[.slice fl.p0.1 fl.p0.2.1 fl.p0.2.2, .slice fl.p1.1 fl.p1.2.1 fl.p1.2.2, .slice fl.p2.1 fl.p2.2.1 fl.p2.2.2] 26) = w1 := ⟨_, rfl⟩
  have hb1 : Below w.heap.size w w1 := by rw [← hw1]; exact (Below.refl _ w).alloc (Nat.le_refl _) _
  have bf : Blk w1 w.heap.size 26 [.slice fl.p0.1 fl.p0.2.1 fl.p0.2.2, .slice fl.p1.1 fl.p1.2.1 fl.p1.2.2, .slice fl.p2.1 fl.p2.2.1 fl.p2.2.2] := by rw [← hw1]; exact Blk.new _ _ _
  have CW := Lib.hid (wanted_any w1 ok m a qa n c qn qc xs q fl hm (h.on hb1) (hq.below (Nat.le_refl _) hb1) (hf.on hb1))
  have HB1 := Lib.hid hb1
  have f0 : w1.cell? ⟨w.heap.size, 0, none⟩ = some (.slice fl.p0.1 fl.p0.2.1 fl.p0.2.2) := bf.cell 0
  have f1 : w1.cell? ⟨w.heap.size, 1, none⟩ = some (.slice fl.p1.1 fl.p1.2.1 fl.p1.2.2) := bf.cell 1
  have f2 : w1.cell? ⟨w.heap.size, 2, none⟩ = some (.slice fl.p2.1 fl.p2.2.1 fl.p2.2.2) := bf.cell 2
  clear h hq hf hb1 bf hm
  show Calls _ _ #[_, _, _, .agg #[.slice fl.p0.1 fl.p0.2.1 fl.p0.2.2, .slice fl.p1.1 fl.p1.2.1 fl.p1.2.2, .slice fl.p2.1 fl.p2.2.1 fl.p2.2.2], _] _ _
  go_enter Try.func13, Try.ntmps13
  go_wp2_with (first | (rw [hw1]) | fail)
  refine CW.out.mono ?_
  rintro e w2 ⟨lb, rfl, hg, hb2⟩
  have CC := Lib.hid (least_any w2 w2 _ lb _ k r hr enters_wanted hg (Below.refl _ _))
  have HB2 := Lib.hid (HB1.out.trans (hb2.mono HB1.out.size))
  clear hg hb2 f0 f1 f2 hr
  go_wp2_with (fail)
  refine CC.out.mono ?_
  rintro e w3 ⟨g, j, rfl, ho, hb3, hg3⟩
  have HB3 := Lib.hid (HB2.out.trans (hb3.mono HB2.out.size))
  have H3 := Lib.hid ho
  have H4 := Lib.hid (Nat.le_trans HB2.out.size hg3)
  clear ho hb3 hg3
  go_wp2
  go_ret
  exact ⟨g, j, rfl, H3.out, HB3.out, H4.out⟩

set_option maxRecDepth 100000 in
set_option maxHeartbeats 6400000 in
theorem after_any (last : Hit) (k : Int) (r : Nat) (hr : Hid ((r : Int) = min (max k 0) 256)) (hm : m < 256) (h : Rd ok w shItems [.slice a n c] xs) (hq : Reads .i32 w qa qn q) (hf : fl.In w) :
    Calls Try.prog 14 #[.int .u8 (m : Int), .slice a n c, .slice qa qn qc, .agg fl.cells, .agg #[.int .i64 last.1, .int .u32 last.2], .int .i64 k] w (HitsPost (keepL r (behindL last (wantL m q fl.f xs))) w) := by
  obtain ⟨w1, hw1⟩ : ∃ w1, (w.alloc (.cells #[.slice fl.p0.1 fl.p0.2.1 fl.p0.2.2, .slice fl.p1.1 fl.p1.2.1 fl.p1.2.2, .slice fl.p2.1 fl.p2.2.1 fl.p2.2.2] 26)).alloc (.cells #[.int .i64 last.1, .int .u32 last.2] 29) = w1 := ⟨_, rfl⟩
  have hb1 : Below w.heap.size w w1 := by rw [← hw1]; exact ((Below.refl _ w).alloc (Nat.le_refl _) _).alloc (by simp) _
  have bf : Blk w1 w.heap.size 26 [.slice fl.p0.1 fl.p0.2.1 fl.p0.2.2, .slice fl.p1.1 fl.p1.2.1 fl.p1.2.2, .slice fl.p2.1 fl.p2.2.1 fl.p2.2.2] := by rw [← hw1]; exact (Blk.new w _ #[.slice fl.p0.1 fl.p0.2.1 fl.p0.2.2, .slice fl.p1.1 fl.p1.2.1 fl.p1.2.2, .slice fl.p2.1 fl.p2.2.1 fl.p2.2.2]).alloc _
  have bl : Blk w1 (w.heap.size + 1) 29 [.int .i64 last.1, .int .u32 last.2] := by
    rw [← hw1]
    have := Blk.new (w.alloc (.cells #[.slice fl.p0.1 fl.p0.2.1 fl.p0.2.2, .slice fl.p1.1 fl.p1.2.1 fl.p1.2.2, .slice fl.p2.1 fl.p2.2.1 fl.p2.2.2] 26)) 29 #[.int .i64 last.1, .int .u32 last.2]
    simpa using this
  have CW := Lib.hid (fun w2 (hb2 : Below w1.heap.size w1 w2) => wanted_any w2 ok m a qa n c qn qc xs q fl hm (h.on (hb1.trans (hb2.mono hb1.size))) (hq.below (Nat.le_refl _) (hb1.trans (hb2.mono hb1.size))) (hf.on (hb1.trans (hb2.mono hb1.size))))
  have HB1 := Lib.hid hb1
  have HC := Lib.hid (show ∀ w2, Below w1.heap.size w1 w2 → w2.cell? ⟨w.heap.size, 0, none⟩ = some (.slice fl.p0.1 fl.p0.2.1 fl.p0.2.2) ∧ w2.cell? ⟨w.heap.size, 1, none⟩ = some (.slice fl.p1.1 fl.p1.2.1 fl.p1.2.2) ∧ w2.cell? ⟨w.heap.size, 2, none⟩ = some (.slice fl.p2.1 fl.p2.2.1 fl.p2.2.2) ∧
      w2.cell? ⟨w.heap.size + 1, 0, none⟩ = some (.int .i64 last.1) ∧ w2.cell? ⟨w.heap.size + 1, 1, none⟩ = some (.int .u32 last.2) from fun w2 hb2 => by
    have b1 := bf.of_eq (hb2.block _ bf.lt)
    have b2 := bl.of_eq (hb2.block _ bl.lt)
    exact ⟨b1.cell 0, b1.cell 1, b1.cell 2, b2.cell 0, b2.cell 1⟩)
  obtain ⟨f0, f1, f2, l0, l1⟩ := HC.out w1 (Below.refl _ _)
  clear h hq hf hb1 bf bl hm
  show Calls _ _ #[_, _, _, .agg #[.slice fl.p0.1 fl.p0.2.1 fl.p0.2.2, .slice fl.p1.1 fl.p1.2.1 fl.p1.2.2, .slice fl.p2.1 fl.p2.2.1 fl.p2.2.2], _, _] _ _
  go_enter Try.func14, Try.ntmps14
  go_upto_region 1 with (first | (rw [hw1]) | fail)
  try rw [hw1]
  clear hw1
  go_region_with (first
    | (go_at_call 24; refine (CW.out w1.drew ((Below.refl _ _).drew)).mono ?_; rintro e w2 ⟨lb, rfl, hg2, hb2⟩; have HB2 := Lib.hid (show Below w1.heap.size w1 w2 from ((Below.refl _ w1).drew).trans hb2); have HG2 := Lib.hid hg2; clear hg2 hb2; obtain ⟨l02, l12⟩ := (HC.out w2 HB2.out).2.2.2)
    | (go_at_call 27; refine (behind_any w2 w2 _ lb _ last enters_wanted HG2.out (Below.refl _ _)).mono ?_; rintro e w3 ⟨lb3, rfl, hg3, hb3⟩; have HB3 := Lib.hid (HB2.out.trans (hb3.mono HB2.out.size)); have HG3 := Lib.hid hg3; clear hg3 hb3)
    | (go_at_call 26; refine (least_any w3 w3 _ lb3 _ k r hr enters_behind HG3.out (Below.refl _ _)).mono ?_; rintro e w4 ⟨g, j, rfl, ho, hb4, hg4⟩; have HB4 := Lib.hid (HB3.out.trans (hb4.mono HB3.out.size)); have H4 := Lib.hid ho; have HG4 := Lib.hid (Nat.le_trans HB3.out.size hg4); clear ho hb4 hg4))
  all_goals go_simp
  all_goals go_wp2
  all_goals go_ret
  all_goals exact ⟨g, j, rfl, H4.out, HB1.out.trans (HB4.out.mono HB1.out.size), Nat.le_trans HB1.out.size HG4.out⟩
end
end Go.Proofs.Yteaomjabanhblaa
