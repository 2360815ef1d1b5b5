/-
  The document's graph: Has, There, Far, Near, Add; a node's row of lists anew; what is chosen second. (IR, IT, IU, IX merged.)
-/
import Derived.Test.YtdfpfgkfmjehiaaIM8
import Derived.StillTailTactics
import Derived.Deep.RegionHeld3
import Derived.Test.YtdfpfgkfmjehiaaRf
namespace Go.Proofs.Ytdfpfgkfmjehiaa
open Go.RowKit

/-- The document's graph in memory: the metric a whole number, its items whoever's. -/
abbrev GrD (T : TypeId) (rs : List Value) (okI : Nat → Prop) (w : World) (lo g m : Nat) (u : Value) (L : List NodeL) : Prop := GrS T (.int .i64 (m : Int), rs) okI w lo g u L
set_option maxRecDepth 100000 in
/-- The document's Has. -/
theorem rhas_any (w : World) (a : Option Addr) (n c : Nat) (xs : List Int) (hx : Reads .i64 w a n xs) (x : Int) (z : Bool) (hz : decide (x ∈ xs) = z) :
    Calls Try.prog 14 #[.slice a n c, .int .i64 x] w fun e w' => e = .returned (.bool z) ∧ Below w.heap.size w w' := by
  obtain ⟨hl, hn, _, _, hc⟩ := hx
  have HC := Lib.hid hc
  have HX := Lib.hid hl
  have HZ := Lib.hid hz
  clear hc hl hz
  go_enter Try.func14, Try.ntmps14
  go_wp2
  go_loopw [5] (fun s5 wr => ∃ i : Nat, s5 = .int .i64 i ∧ i ≤ n ∧ Hid (∀ k, k < i → xs.getD k 0 ≠ x) ∧ Hid (Below w.heap.size w wr)) (fun s5 _ => n - (intOf s5).toNat)
  case atStart => exact ⟨0, rfl, Nat.zero_le _, fun k hk => by omega, Below.refl _ _⟩
  case round =>
    obtain ⟨i, rfl, hi, HN, HB⟩ := hrel
    by_cases h1 : i < n
    · rcases HC.out with h0 | ⟨b, off, rfl, hlt, hcl⟩
      · omega
      have r0 := (HB.out.cell (p := ⟨b, off + i, none⟩) hlt).trans (hcl i h1)
      obtain ⟨y, hy⟩ : ∃ y, xs.getD i 0 = y := ⟨_, rfl⟩
      rw [hy] at r0
      have HY := Lib.hid hy
      by_cases hxy : y = x
      · have dx : (y == x) = true := by simpa using hxy
        have HF := Lib.hid (show z = true from by
          rw [← HZ.out, decide_eq_true_iff, ← hxy, ← hy]
          have hlt : i < xs.length := by rw [HX.out]; exact h1
          rw [List.getD_eq_getElem?_getD, List.getElem?_eq_getElem hlt]
          exact List.getElem_mem hlt)
        clear hy hcl hxy
        go_wp2
        go_ret
        exact ⟨by rw [HF.out]; rfl, HB.out⟩
      · have dx : (y == x) = false := by simpa using hxy
        have HE := Lib.hid hxy
        clear hy hcl hxy
        go_wp2
        go_roundw
        case rel => exact ⟨i + 1, by go_num, by omega, fun k hk => by
          rcases Nat.lt_succ_iff_lt_or_eq.1 hk with h3 | h3
          · exact HN.out k h3
          · rw [h3, HY.out]
            exact HE.out, HB⟩
        case measure => simp [intOf]; omega
    · obtain rfl : i = n := by omega
      have HT := Lib.hid (show z = false from by
        rw [← HZ.out, decide_eq_false_iff_not]
        intro hm
        obtain ⟨k, hk, e⟩ := List.mem_iff_getElem.1 hm
        have h3 := HN.out k (by rw [← HX.out]; exact hk)
        rw [List.getD_eq_getElem?_getD, List.getElem?_eq_getElem hk] at h3
        exact h3 e)
      go_wp2
      go_ret
      exact ⟨by rw [HT.out]; rfl, HB.out⟩
section
variable {T : TypeId} {rs : List Value} {okI : Nat → Prop} {w : World} {lo g m : Nat} {u : Value} {L : List NodeL}
set_option maxRecDepth 100000 in
/-- The document's There. -/
theorem rthere_any (h : GrD T rs okI w lo g m u L) (i level : Int) (z : Bool) (hz : Hid ((graphV m L).onB i level = z)) :
    Calls Try.prog 27 #[.pointer (some ⟨g, 0, none⟩), .int .i64 i, .int .i64 level] w fun e w' => e = .returned (.bool z) ∧ w = w' := by
  by_cases ht : (graphV m L).thereB i = true
  · have hb := ht
    unfold GraphV.thereB at hb
    rw [graphV_len] at hb
    have hb := of_decide_eq_true hb
    obtain ⟨j, rfl⟩ : ∃ j : Nat, i = (j : Int) := ⟨i.toNat, by omega⟩
    have hj : j < L.length := by omega
    obtain ⟨x, gu, c, hx, hm, rfl, hgu, hrg⟩ := h.toGrN.nodeAt j hj
    have cU : w.cell? ⟨g, 1, none⟩ = some (.slice (some ⟨gu, 0, none⟩) L.length c) := h.blk.cell 1
    have c5 : w.cell? ⟨gu, j * 6 + 5, none⟩ = some x.pl := hrg 5 _ rfl
    obtain ⟨pa, pm, pc, e, hp⟩ := ownsRow_slice (h.lrow x hm)
    have hz2 := hz.out
    unfold GraphV.onB at hz2
    rw [graphV_len, Int.toNat_natCast, graphV_lv hx, ← h.lens x hm, ← hp.out] at hz2
    obtain ⟨N, hN⟩ : ∃ N, L.length = N := ⟨_, rfl⟩
    rw [hN] at hj cU hb hz2
    rw [e] at c5
    have dA : decide (((j : Nat) : Int) ≥ 0) = true := decide_eq_true (by omega)
    have dB : decide (((j : Nat) : Int) < (N : Int)) = true := decide_eq_true (by omega)
    clear hz hp ht h hx hm hrg hN e hgu
    by_cases h0 : 0 ≤ level
    · have d0 : decide (level ≥ 0) = true := decide_eq_true h0
      by_cases h1 : level < (pm : Int)
      · obtain rfl : true = z := by rw [← hz2]; exact (decide_eq_true (by omega)).symm
        have d1 : decide (level < (pm : Int)) = true := decide_eq_true h1
        clear hz2 hb
        go_enter Try.func27, Try.ntmps27
        go_wp2
        go_ret
        exact ⟨rfl, rfl⟩
      · obtain rfl : false = z := by rw [← hz2]; exact (decide_eq_false (by omega)).symm
        have d1 : decide (level < (pm : Int)) = false := decide_eq_false h1
        clear hz2 hb
        go_enter Try.func27, Try.ntmps27
        go_wp2
        go_ret
        exact ⟨rfl, rfl⟩
    · obtain rfl : false = z := by rw [← hz2]; exact (decide_eq_false (by omega)).symm
      have d0 : decide (level ≥ 0) = false := decide_eq_false h0
      clear hz2 hb
      go_enter Try.func27, Try.ntmps27
      go_wp2
      go_ret
      exact ⟨rfl, rfl⟩
  · have ht2 : (graphV m L).thereB i = false := by simpa using ht
    obtain rfl : false = z := by
      rw [← hz.out]
      unfold GraphV.thereB at ht2
      have := of_decide_eq_false ht2
      unfold GraphV.onB
      exact (decide_eq_false (by omega)).symm
    unfold GraphV.thereB at ht2
    rw [graphV_len] at ht2
    have hb := of_decide_eq_false ht2
    obtain ⟨a, c, rfl, _⟩ := h.toGrN.u_form
    have cU : w.cell? ⟨g, 1, none⟩ = some (.slice a L.length c) := h.blk.cell 1
    obtain ⟨N, hN⟩ : ∃ N, L.length = N := ⟨_, rfl⟩
    rw [hN] at cU hb
    clear hz ht ht2 h hN
    by_cases h0 : 0 ≤ i
    · have d0 : decide (i ≥ 0) = true := decide_eq_true h0
      have d1 : decide (i < (N : Int)) = false := decide_eq_false (by omega)
      clear hb
      go_enter Try.func27, Try.ntmps27
      go_wp2
      go_ret
      exact ⟨rfl, rfl⟩
    · have d0 : decide (i ≥ 0) = false := decide_eq_false h0
      clear hb
      go_enter Try.func27, Try.ntmps27
      go_wp2
      go_ret
      exact ⟨rfl, rfl⟩
theorem rfar_dist (m : Nat) (a c : Option Addr) (n n' cap1 cap2 : Nat) (xs ys : List Int) (w : World) (hm1 : m < 256) (h : Reads .i32 w a n xs) (h' : Reads .i32 w c n' ys) :
    Calls Try.prog 73 #[.int .i64 (m : Int), .slice a n cap1, .slice c n' cap2] w fun e w' => ∃ z : Bool, e = .returned (.tuple #[.int .i64 (farV m xs ys), .bool z]) ∧ Below w.heap.size w w' := by
  have e1 := h.len
  have e2 := h'.len
  rcases hd : distV m n n' xs ys with _ | r
  · refine (rdist_none m a c n n' cap1 cap2 xs ys w (by omega) (by omega) h h' hd).mono ?_
    rintro e w' ⟨rfl, rfl⟩
    exact ⟨false, by rw [farV, e1, e2, hd]; rfl, Below.refl _ _⟩
  · refine (rdist_some m a c n n' cap1 cap2 xs ys r w (by omega) (by omega) h h' hd).mono ?_
    rintro e w' ⟨rfl, hb⟩
    exact ⟨true, by rw [farV, e1, e2, hd]; rfl, hb⟩
set_option maxRecDepth 100000 in
/-- The document's Far. -/
theorem rfar_any (h : GrD T rs okI w lo g m u L) (hm : m < 256) (qa : Option Addr) (qn qc : Nat) (q : List Int) (hq : Reads .i32 w qa qn q) (i : Nat) (hi : i < L.length) (d : Int) (hd : Hid (((graphV m L).hit q i).1 = d)) :
    Calls Try.prog 50 #[.pointer (some ⟨g, 0, none⟩), .slice qa qn qc, .int .i64 (i : Int)] w fun e w' => e = .returned (.int .i64 d) ∧ Below w.heap.size w w' := by
  obtain ⟨x, gu, c, hx, hmem, rfl, hgu, hrg⟩ := h.toGrN.nodeAt i hi
  have g0 : w.cell? ⟨g, 0, none⟩ = some (.int .i64 (m : Int)) := h.blk.cell 0
  have g1 : w.cell? ⟨g, 1, none⟩ = some (.slice (some ⟨gu, 0, none⟩) L.length c) := h.blk.cell 1
  have x1 : w.cell? ⟨gu, i * 6 + 1, none⟩ = some (.slice x.it.pv.1 x.it.pv.2.1 x.it.pv.2.2) := hrg 1 _ rfl
  have CD := Lib.hid (fun (W : World) (hb : Below w.heap.size w W) => rfar_dist m qa x.it.pv.1 qn x.it.pv.2.1 qc x.it.pv.2.2 q x.it.vec W hm (hq.below (Nat.le_refl _) hb) (Rd.ints ((h.item x hmem).hvec.on hb) rfl))
  have HS := Lib.hid (fun (W : World) (hb : Below w.heap.size w W) => show W.cell? ⟨g, 0, none⟩ = some (.int .i64 (m : Int)) ∧ W.cell? ⟨g, 1, none⟩ = some (.slice (some ⟨gu, 0, none⟩) L.length c) ∧ W.cell? ⟨gu, i * 6 + 1, none⟩ = some (.slice x.it.pv.1 x.it.pv.2.1 x.it.pv.2.2) ∧ Below w.heap.size w W from
    ⟨(h.on hb).blk.cell 0, (h.on hb).blk.cell 1, (hb.cell (p := ⟨gu, i * 6 + 1, none⟩) hgu).trans x1, hb⟩)
  have hfar : farV m q x.it.vec = d := by
    rw [← hd.out]
    show _ = farV _ q ((graphV m L).vec i)
    rw [graphV_vec hx]
    rfl
  rw [hfar] at CD
  have hir := h.few
  obtain ⟨N, hN⟩ : ∃ N, L.length = N := ⟨_, rfl⟩
  rw [hN] at hi hir g1 HS
  obtain ⟨v1, hv1⟩ : ∃ v1, x.it.pv.1 = v1 := ⟨_, rfl⟩
  obtain ⟨v2, hv2⟩ : ∃ v2, x.it.pv.2.1 = v2 := ⟨_, rfl⟩
  obtain ⟨v3, hv3⟩ : ∃ v3, x.it.pv.2.2 = v3 := ⟨_, rfl⟩
  rw [hv1, hv2, hv3] at x1 CD HS
  clear h hq hx hmem hrg hd hfar hN hv1 hv2 hv3
  go_enter Try.func50, Try.ntmps50
  go_wp2
  go_region_held3 (fun W => W.cell? ⟨g, 0, none⟩ = some (.int .i64 (m : Int)) ∧ W.cell? ⟨g, 1, none⟩ = some (.slice (some ⟨gu, 0, none⟩) N c) ∧ W.cell? ⟨gu, i * 6 + 1, none⟩ = some (.slice v1 v2 v3) ∧ Below w.heap.size w W)
    (first
      | (go_keep; done)
      | exact HS.out _ (Below.refl _ _)
      | exact HS.out _ (Below.refl _ _).drew
      | (go_split_ands; exact HS.out _ (below_on (by assumption) hbel)))
    (first
      | (go_at_call 73; go_split_ands; refine (CD.out _ (by assumption)).mono ?_; rintro e w' ⟨z, rfl, hbel⟩))
  all_goals
    rename_i hH
    have B2 := Lib.hid hH.2.2.2
    clear hH hbel
    go_wp2
    go_ret
    exact ⟨rfl, B2.out⟩
end

/-- What the document's Near and Walk tell: a row of the call's own. -/
def RHits (l : List Hit) (w : World) (e : Ending) (w' : World) : Prop := ∃ v, e = .returned v ∧ OwnB w' w.heap.size v l ∧ Below w.heap.size w w'
theorem mem_natsI {l : List Nat} {j : Nat} : (j : Int) ∈ natsI l ↔ j ∈ l := by
  unfold natsI
  rw [List.mem_map]
  exact ⟨fun ⟨a, h, e⟩ => by rw [← Int.ofNat_inj.1 e]; exact h, fun h => ⟨j, h, rfl⟩⟩
section
variable {T : TypeId} {rs : List Value} {okI : Nat → Prop} {w : World} {lo g m : Nat} {u : Value} {L : List NodeL}
set_option maxRecDepth 100000 in
set_option maxHeartbeats 3200000 in
theorem rnear_any (h : GrD T rs okI w lo g m u L) (hm : m < 256) (qa : Option Addr) (qn qc : Nat) (q : List Int) (hq : Reads .i32 w qa qn q) (la : Option Addr) (ln lc : Nat) (l : List Int) (hl : Reads .i64 w la ln l) (hln : ln ≤ 100000) :
    Calls Try.prog 28 #[.pointer (some ⟨g, 0, none⟩), .slice qa qn qc, .slice la ln lc] w (RHits ((graphV m L).near q l) w) := by
  obtain ⟨N, hN⟩ : ∃ N, L.length = N := ⟨_, rfl⟩
  have hfew := h.few
  rw [hN] at hfew
  obtain ⟨G, hG⟩ : ∃ G, graphV m L = G := ⟨_, rfl⟩
  have CT := Lib.hid (fun (W : World) (hb : Below w.heap.size w W) (i : Int) (z : Bool) (hz : Hid ((graphV m L).onB i 0 = z)) => rthere_any (h.on hb) i 0 z hz)
  have CF := Lib.hid (fun (W : World) (hb : Below w.heap.size w W) (i : Nat) (hi : i < L.length) (d : Int) (hd : Hid (((graphV m L).hit q i).1 = d)) => rfar_any (h.on hb) hm qa qn qc q (hq.below (Nat.le_refl _) hb) i hi d hd)
  have HJ := Lib.hid (fun (j : Nat) (hj : (graphV m L).onB (j : Int) 0 = true) => show j < L.length from by
    unfold GraphV.onB at hj
    rw [graphV_len] at hj
    have := of_decide_eq_true hj
    omega)
  have HPK := Lib.hid (fun (l : List Int) (j : Nat) (hj : j ∈ pick (fun i => (graphV m L).onB i 0) l) => show j ≤ 1000000 from by
    have h1 := (pick_ok _ l (fun i => onB_nonneg)).2 j hj
    unfold GraphV.onB at h1
    rw [graphV_len] at h1
    have := of_decide_eq_true h1
    have := h.few
    omega)
  rw [hN] at CF HJ
  rw [hG] at CT CF HJ HPK ⊢
  obtain ⟨hll, _, _, _, hlc⟩ := hl
  have HL := Lib.hid hll
  have HC := Lib.hid hlc
  clear hm hq hll hlc h hN hG
  go_enter Try.func28, Try.ntmps28
  go_wp2_with (fail)
  go_loopw [7, 8, 9] (fun s7 s8 s9 wr => ∃ (k vn vc pn pc : Nat) (va pa : Option Addr), k ≤ ln ∧ s9 = .int .i64 (k : Int) ∧ s7 = .slice va vn vc ∧ s8 = .slice pa pn pc ∧ Hid (OwnB wr w.heap.size (.slice va vn vc) (sortL ((pick (fun i => G.onB i 0) (l.take k)).map (G.hit q)))) ∧
    Hid (IntsAt w.heap.size wr (.slice pa pn pc) (pick (fun i => G.onB i 0) (l.take k))) ∧ Hid (Below w.heap.size w wr)) (fun _ _ s9 _ => ln - (intOf s9).toNat)
  case atStart => exact ⟨0, 0, 0, 0, 0, none, none, Nat.zero_le _, rfl, rfl, rfl, OwnB.nil _ _, RowC.nil _ _ _ _, Below.refl _ _⟩
  case round =>
    obtain ⟨k, vn, vc, pn, pc, va, pa, hk, rfl, rfl, rfl, HO, HP, HB⟩ := hrel
    by_cases h1 : k < ln
    · rcases HC.out with h0 | ⟨b, off, rfl, hlt, hc⟩
      · omega
      obtain ⟨x, hx⟩ : ∃ x, l.getD k 0 = x := ⟨_, rfl⟩
      have hcc := hc k h1
      rw [hx] at hcc
      have HX := Lib.hid (show l.take (k + 1) = l.take k ++ [x] from getD_take (by rw [HL.out]; exact h1) hx)
      have HR := Lib.hid (fun (W : World) (hb : Below w.heap.size w W) => show W.cell? ⟨b, off + k, none⟩ = some (.int .i64 x) ∧ Below w.heap.size w W from ⟨(hb.cell (p := ⟨b, off + k, none⟩) hlt).trans hcc, hb⟩)
      have r0 := (HR.out wr HB.out).1
      clear hx hcc hc
      cases hz : G.onB x 0 with
      | false =>
        have C1 := Lib.hid (CT.out wr HB.out x false hz)
        have HZ := Lib.hid (show pick (fun i => G.onB i 0) (l.take (k + 1)) = pick (fun i => G.onB i 0) (l.take k) from by
          rw [HX.out, pick_snoc, pickS, if_neg]
          rw [hz]
          simp)
        clear hz
        go_wp2_with (go_at_call 27; refine C1.out.mono ?_; rintro e w' ⟨rfl, h3⟩; subst h3)
        go_roundw
        case rel => exact ⟨k + 1, vn, vc, pn, pc, va, pa, by omega, by go_num, rfl, rfl, by rw [HZ.out]; exact HO, by rw [HZ.out]; exact HP, HB⟩
        case measure => simp [intOf]; omega
      | true =>
        have hnn := onB_nonneg hz
        obtain ⟨j, rfl⟩ : ∃ j : Nat, x = (j : Int) := ⟨x.toNat, by omega⟩
        have hjN := HJ.out j hz
        have C1 := Lib.hid (CT.out wr HB.out (j : Int) true hz)
        have hpl : (pick (fun i => G.onB i 0) (l.take k)).length ≤ 100000 := by
          have := pick_len (fun i => G.onB i 0) (l.take k)
          simp at this
          omega
        have hrd := HP.out.reads (by omega) (fun j hj => HPK.out _ j hj)
        obtain ⟨has, hhas⟩ : ∃ has, decide (j ∈ pick (fun i => G.onB i 0) (l.take k)) = has := ⟨_, rfl⟩
        have C2 := Lib.hid (rhas_any wr pa pn pc _ hrd (j : Int) has (by rw [← hhas]; simp only [mem_natsI]))
        have HZT := Lib.hid hz
        have HPL := Lib.hid hpl
        have HHAS := Lib.hid hhas
        clear hz hrd hpl hhas
        cases has with
        | true =>
          have HZ := Lib.hid (show pick (fun i => G.onB i 0) (l.take (k + 1)) = pick (fun i => G.onB i 0) (l.take k) from by
            have hm := of_decide_eq_true HHAS.out
            rw [HX.out, pick_snoc, pickS, if_neg]
            simp [hm])
          go_wp2_with (first
            | (go_at_call 27; refine C1.out.mono ?_; rintro e w' ⟨rfl, h3⟩; subst h3)
            | (go_at_call 14; refine C2.out.mono ?_; rintro e w2 ⟨rfl, h5⟩; have B2 := Lib.hid h5; clear h5))
          go_roundw
          case rel => exact ⟨k + 1, vn, vc, pn, pc, va, pa, by omega, by go_num, rfl, rfl, by rw [HZ.out]; exact HO.out.kept (F := []) (Kept.of_below B2.out (Nat.le_refl _)) (by simp), by rw [HZ.out]; exact RowC.on HP.out B2.out, HB.out.trans (B2.out.mono HB.out.size)⟩
          case measure => simp [intOf]; omega
        | false =>
          have hnot : j ∉ pick (fun i => G.onB i 0) (l.take k) := of_decide_eq_false HHAS.out
          have HZ := Lib.hid (show pick (fun i => G.onB i 0) (l.take (k + 1)) = pick (fun i => G.onB i 0) (l.take k) ++ [j] from by
            rw [HX.out, pick_snoc, pickS, if_pos ⟨HZT.out, by simpa using hnot⟩]
            rfl)
          obtain ⟨d, hd⟩ : ∃ d, (G.hit q j).1 = d := ⟨_, rfl⟩
          have HD := Lib.hid hd
          have hjw : IntKind.u32.wrap (j : Int) = (j : Int) := by rw [IntKind.wrap_u32]; omega
          clear hnot hd
          go_wp2_with (first
            | (go_at_call 27; refine C1.out.mono ?_; rintro e w' ⟨rfl, h3⟩; subst h3)
            | (go_at_call 14; refine C2.out.mono ?_; rintro e w2 ⟨rfl, h5⟩; have B2 := Lib.hid (HB.out.trans (h5.mono HB.out.size)); have HO2 := Lib.hid (HO.out.kept (F := []) (Kept.of_below h5 (Nat.le_refl _)) (by simp)); have HP2 := Lib.hid (RowC.on HP.out h5); have r2 := (HR.out w2 B2.out).1; clear h5)
            | (at_builtin; refine app_int w2 rfl _ _ rfl w.heap.size (.slice pa pn pc) _ j rfl rfl HP2.out B2.out.size (by have := HPL.out; omega) ?_; intro v3 w3 h3 k3 g3; obtain ⟨pa3, pn3, pc3, rfl, -⟩ := h3.parts; have H3 := Lib.hid h3; have B3 := Lib.hid (B2.out.trans (k3.below (fun b hb => (RowC.lt HP2.out b (mem_ownB.1 hb)).1) B2.out.size)); have HO3 := Lib.hid (HO2.out.kept k3 (fun y hy hh => rows_apart HO2.out HP2.out.2 (by decide) y hy (mem_ownB.1 hh))); have r3 := (HR.out w3 B3.out).1; clear h3 k3 g3 r2)
            | fail)
          have HLT := Lib.hid hlt
          have hlo3 := B3.out.size
          have HS := Lib.hid (fun (W : World) (hb : Below w3.heap.size w3 W) => show W.cell? ⟨b, off + k, none⟩ = some (.int .i64 (j : Int)) ∧ Below w3.heap.size w3 W from ⟨(HR.out W (B3.out.trans (hb.mono hlo3))).1, hb⟩)
          have hlen3 : (sortL ((pick (fun i => G.onB i 0) (l.take k)).map (G.hit q))).length ≤ 1000000 := by
            rw [sortL_len, List.length_map]
            have := HPL.out
            omega
          have C3 := Lib.hid (fun (W : World) (hb : Below w3.heap.size w3 W) => CF.out W (B3.out.trans (hb.mono hlo3)) j hjN d HD)
          have C4 := Lib.hid (fun (W : World) (hb : Below w3.heap.size w3 W) => (into_any va vn vc _ (d, (j : Int)) W ((HReads.of_own HO3.out.own hlen3).below (Nat.le_refl _) hb) (by
            obtain ⟨a', c', e⟩ := HO3.out.own.size
            simp only [Value.slice.injEq] at e
            omega)).mono (fun e w' ⟨v, h1, h2, h3⟩ => show ∃ v, e = Ending.returned v ∧ OwnB w' w.heap.size v (ins (d, (j : Int)) (sortL ((pick (fun i => G.onB i 0) (l.take k)).map (G.hit q)))) ∧ Below W.heap.size W w' from ⟨v, h1, h2.mono (Nat.le_trans hlo3 hb.size), h3⟩))
          clear hlen3 HR CT CF C1 C2
          go_region_held3 (fun W => W.cell? ⟨b, off + k, none⟩ = some (.int .i64 (j : Int)) ∧ Below w3.heap.size w3 W)
            (first
              | (go_keep; done)
              | exact HS.out _ (Below.refl _ _)
              | exact HS.out _ (Below.refl _ _).drew
              | (go_split_ands; exact HS.out _ (below_on (by assumption) hbel)))
            (first
              | (go_at_call 50; go_split_ands; refine (C3.out _ (by assumption)).mono ?_; rintro e w' ⟨rfl, hbel⟩)
              | (go_at_call 49; go_split_ands; refine (C4.out _ (by assumption)).mono ?_; rintro e w' ⟨v9, rfl, ho9, hbel⟩; obtain ⟨va9, vn9, vc9, rfl⟩ := ho9.parts11; have HO9 := Lib.hid ho9; clear ho9))
          all_goals
            rename_i hH
            have B9 := Lib.hid (B3.out.trans (hH.2.mono hlo3))
            have H9 := Lib.hid (RowC.on H3.out hH.2)
            clear hH
            go_wp2
            go_roundw
            case rel => exact ⟨k + 1, vn9, vc9, pn3, pc3, va9, pa3, by omega, by go_num, rfl, rfl, by
              have e : G.hit q j = (d, (j : Int)) := Prod.ext HD.out rfl
              rw [HZ.out, List.map_append, List.map_cons, List.map_nil, sortL_snoc, e]
              exact HO9, by rw [HZ.out]; exact H9, B9⟩
            case measure => simp [intOf]; omega
    · obtain rfl : k = ln := by omega
      have e0 : l.take k = l := List.take_of_length_le (by rw [HL.out]; exact Nat.le_refl _)
      have HO2 := HO.out
      rw [e0] at HO2
      have HF := Lib.hid HO2
      clear HO2 e0 HO HP
      go_wp2
      go_ret
      exact ⟨_, rfl, HF.out, HB.out⟩
end

theorem lists_info11 : (Try.prog.info? 46).map (fun i => (i.zero, i.size, i.bytes)) = some (some (.slice none 0 0), 1, 24) := by kernel_rfl
theorem topN_is (level : Int) : ((topN level : Nat) : Int) = max 0 (min level 4) ∧ topN level ≤ 4 := by unfold topN; omega
theorem flat_rep (n : Nat) (v : Value) : (List.replicate n [v]).flatten = List.replicate n v := by
  induction n with
  | zero => rfl
  | succ n ih => rw [List.replicate_succ, List.flatten_cons, ih]; rfl
/-- Types that a graph's block may have. -/
structure TOk (T : TypeId) : Prop where
  i : T ≠ 3
  l : T ≠ 46
  n : T ≠ 40
section
variable {T : TypeId} {rs : List Value} {okI : Nat → Prop} {w : World} {lo g m : Nat} {u : Value} {L : List NodeL}
/-- What Add leaves. -/
def RAddPost (T : TypeId) (rs : List Value) (okI : Nat → Prop) (lo g m : Nat) (u : Value) (L : List NodeL) (x : ItL) (level : Int) (v : Nat) (w w' : World) : Prop :=
  ∃ u' y, GrD T rs okI w' lo g m u' (L ++ [y]) ∧ y.toV = newN x.id x.vec x.tags (topN level) v ∧ Kept (fpG g u L) w w' ∧ Grows w (fpG g u L) (fpG g u' (L ++ [y])) ∧ y.it = x
theorem radd_fin (h : GrD T rs okI w lo g m u L) (hT : TOk T) {wr w8 : World} (hB : Below w.heap.size w wr) (hfew : L.length < 100000) (x : ItL) (hx : x.In okI w) (level : Int) (v : Nat) (hv : v < 18446744073709551616) {pa : Option Addr} {n pc : Nat} (hn : n = topN level + 1)
    (hR : RowC (w.heap.size + 2) wr 46 1 (.slice pa n pc) (List.replicate n [.slice none 0 0])) {u' : Value} (h8 : RowC lo w8 40 6 u' (L.map NodeL.cells ++ [[.int .u32 (x.id : Int), .slice x.pv.1 x.pv.2.1 x.pv.2.2, .slice x.pt.1 x.pt.2.1 x.pt.2.2, .int .u64 (v : Int), .int .u64 0, .slice pa n pc]]))
    (hk8 : Kept (ownB u) wr.drew w8) (hg8 : Grows wr.drew (ownB u) (ownB u')) : RAddPost T rs okI lo g m u L x level v w (w8.setCell ⟨g, 1, none⟩ u') := by
  have hlo : lo ≤ w.heap.size := Nat.le_of_lt (Nat.lt_of_le_of_lt h.glo h.blk.lt)
  have hd : Below w.heap.size w wr.drew := hB.drew
  have k8 : Kept (ownB u) w w8 := (Kept.of_below (F := ownB u) hd (Nat.le_refl _)).trans hk8 (Grows.refl _ _)
  have ks : Kept [g] w8 (w8.setCell ⟨g, 1, none⟩ u') := (Kept.refl [g] w8).setCell _ _ (.inl (by simp))
  have kk : Kept (g :: ownB u) w (w8.setCell ⟨g, 1, none⟩ u') := (k8.mono (G := g :: ownB u) fun b hb => List.mem_cons_of_mem _ hb).trans (ks.mono (G := g :: ownB u) fun b hb => by simp at hb; simp [hb]) (Grows.refl _ _)
  have hgu : ∀ b, u.ownBlock = some b → b ≠ g := fun b hb => (h.u_far hT.n b hb).1
  have hb8 : Blk w8 g T (.int .i64 (m : Int) :: u :: rs) := k8.blk h.blk fun hh => hgu g (mem_ownB.1 hh) rfl
  have hu' : u'.ownBlock ≠ some g := fun e => row_not_blk h8.2 hb8 (fun e => hT.n e.symm) e
  have hrow : w8.ownsRow (w.heap.size + 2) 46 1 (.slice pa n pc) n (List.replicate n (.slice none 0 0)) := by
    have h1 := (RowC.kept (RowC.on hR (show Below wr.heap.size wr wr.drew from (Below.refl _ _).drew)) hk8 fun b hb hh => by
      have h2 := (RowC.lt hR b hb).1
      have h3 := (h.rows.lt b (mem_ownB.1 hh)).2
      omega).2
    have e : (List.replicate n [Value.slice none 0 0]).flatten = List.replicate n (.slice none 0 0) := by
      exact flat_rep n _
    rw [e, List.length_replicate] at h1
    exact h1
  have hplb : ∀ b, (Value.slice pa n pc).ownBlock = some b → w.heap.size + 2 ≤ b := fun b hb => (World.ownsRow.lt hrow b hb).1
  have A := GrS.addNode (okI' := okI) h hT.i hT.l (x := ⟨x, v, 0, .slice pa n pc, List.replicate n (.slice none 0 0), List.replicate n []⟩) (n := n) ⟨rfl, rfl⟩ kk (fun b hb => (hg8 b hb).elim .inl fun h1 => .inr (Nat.le_trans hd.size h1)) hT.n (hb8.set 1 u')
    (by
      rw [List.map_append]
      exact RowC.kept h8 ks fun b hb hh => by simp at hh; subst hh; exact hu' hb) (fun b h => h) (fun b h => .inl h)
    (hx.stay kk.size (fun b hb hlt => kk.block b hlt fun hh => by
      have h1 := (h.okne b hb).2
      rcases List.mem_cons.1 hh with rfl | hh
      · exact h1 (mem_fpG.2 (.inl rfl))
      · exact h1 (mem_fpG.2 (.inr (.inl (mem_ownB.1 hh))))) (fun _ h _ => h))
    (by
      show World.ownsRow _ lo 46 1 (.slice pa n pc) (List.replicate n _).length _
      rw [List.length_replicate]
      exact own_on (ks.own hrow fun b hb hh => by simp at hh; subst hh; have := hplb b hb; have := h.blk.lt; omega) (by omega) (Below.refl _ _))
    (fun b hb => by have := hplb b hb; omega) ⟨hv, by show (0 : Nat) < _; decide⟩ hfew
  exact ⟨u', _, A.1, by rw [hn]; rfl, A.2.1, A.2.2, rfl⟩
set_option maxRecDepth 100000 in
set_option maxHeartbeats 3200000 in
theorem radd_any (h : GrD T rs okI w lo g m u L) (hT : TOk T) (hfew : L.length < 100000) (x : ItL) (hx : x.In okI w) (level : Int) (v : Nat) (hv : v < 18446744073709551616) :
    Calls Try.prog 24 #[.pointer (some ⟨g, 0, none⟩), .agg x.cells.toArray, .int .i64 level, .int .u64 (v : Int)] w fun e w' => e = .returned (.int .i64 (L.length : Int)) ∧ RAddPost T rs okI lo g m u L x level v w w' := by
  show Calls _ _ #[.pointer (some ⟨g, 0, none⟩), .agg #[.int .u32 (x.id : Int), .slice x.pv.1 x.pv.2.1 x.pv.2.2, .slice x.pt.1 x.pt.2.1 x.pt.2.2], .int .i64 level, .int .u64 (v : Int)] _ _
  obtain ⟨w1, hw1⟩ : ∃ w1, w.alloc (.cells #[.int .u32 (x.id : Int), .slice x.pv.1 x.pv.2.1 x.pv.2.2, .slice x.pt.1 x.pt.2.1 x.pt.2.2] 36) = w1 := ⟨_, rfl⟩
  have B1 : Below w.heap.size w w1 := by rw [← hw1]; exact (Below.refl _ _).alloc (Nat.le_refl _) _
  have X1 : Blk w1 w.heap.size 36 [.int .u32 (x.id : Int), .slice x.pv.1 x.pv.2.1 x.pv.2.2, .slice x.pt.1 x.pt.2.1 x.pt.2.2] := by rw [← hw1]; exact Blk.new _ _ _
  have k0 : w1.cell? ⟨w.heap.size, 0, none⟩ = some (.int .u32 (x.id : Int)) := X1.cell 0
  have k1 : w1.cell? ⟨w.heap.size, 1, none⟩ = some (.slice x.pv.1 x.pv.2.1 x.pv.2.2) := X1.cell 1
  have k2 : w1.cell? ⟨w.heap.size, 2, none⟩ = some (.slice x.pt.1 x.pt.2.1 x.pt.2.2) := X1.cell 2
  have l1 := X1.lt
  have hs1 : w1.heap.size = w.heap.size + 1 := by rw [← hw1]; simp
  have HB1 := Lib.hid B1
  have HH := Lib.hid h
  have HX := Lib.hid hx
  obtain ⟨top, htop⟩ : ∃ top, topN level = top := ⟨_, rfl⟩
  have hmx := (topN_is level).1
  have hm4 := (topN_is level).2
  rw [htop] at hmx hm4
  clear h hx B1 X1
  go_enter Try.func24, Try.ntmps24
  go_wp2_with (first | (rw [hw1]) | fail)
  obtain ⟨w2, hw2⟩ : ∃ w2, w1.alloc (.cells #[.int .u32 (x.id : Int), .slice x.pv.1 x.pv.2.1 x.pv.2.2, .slice x.pt.1 x.pt.2.1 x.pt.2.2, .int .u64 (v : Int), .int .u64 0, .slice none 0 0] 40) = w2 := ⟨_, rfl⟩
  have B2 : Below w.heap.size w w2 := by rw [← hw2]; exact HB1.out.alloc (by omega) _
  have X2 : Blk w2 (w.heap.size + 1) 40 [.int .u32 (x.id : Int), .slice x.pv.1 x.pv.2.1 x.pv.2.2, .slice x.pt.1 x.pt.2.1 x.pt.2.2, .int .u64 (v : Int), .int .u64 0, .slice none 0 0] := by rw [← hw2, ← hs1]; exact Blk.new _ _ _
  rw [hw2]
  have HB2 := Lib.hid B2
  have HX2 := Lib.hid X2
  clear hw1 hw2 k0 k1 k2 B2 X2
  go_loopw [10] (fun s10 wr => ∃ (i : Nat) (pa : Option Addr) (pc : Nat), i ≤ top + 1 ∧ s10 = .int .i64 (i : Int) ∧ Hid (Below w.heap.size w wr) ∧ Hid (Blk wr (w.heap.size + 1) 40 [.int .u32 (x.id : Int), .slice x.pv.1 x.pv.2.1 x.pv.2.2, .slice x.pt.1 x.pt.2.1 x.pt.2.2, .int .u64 (v : Int), .int .u64 0, .slice pa i pc]) ∧ Hid (RowC (w.heap.size + 2) wr 46 1 (.slice pa i pc) (List.replicate i [.slice none 0 0]))) (fun s10 _ => top + 1 - (intOf s10).toNat)
  case atStart => exact ⟨0, none, 0, by omega, rfl, HB2, HX2, RowC.nil _ _ _ _⟩
  case round =>
    clear HB2 HX2
    obtain ⟨i, pa, pc, hi, rfl, HB, HN, HR⟩ := hrel
    have n5 : wr.cell? ⟨w.heap.size + 1, 5, none⟩ = some (.slice pa i pc) := HN.out.cell 5
    have z5 := HN.out.frozen 5
    have ln := HN.out.lt
    have hlo2 := HB.out.size
    have hti : ¬ i ≤ top → i = top + 1 := fun h => by omega
    rcases (show level ≤ 0 ∨ (0 < level ∧ level ≤ 4) ∨ 4 < level by omega) with hl | ⟨hl, hl'⟩ | hl
    · by_cases hit : i ≤ top
      · obtain rfl : i = 0 := by omega
        go_wp2_with (first
          | (at_builtin; refine app_c (cs := [.slice none 0 0]) wr rfl _ _ 38 rfl Try.underlying38 (.slice none 0 0) 24 lists_info11 rfl (by omega) rfl rfl HR.out rfl (by simp [Value.oneCell']) (by omega) (by rw [List.length_replicate]; omega) (by rw [List.length_replicate]; omega) ?_; intro v3 w3 h3 k3 g3; obtain ⟨pa3, pc3, e3, -⟩ := RowC.form h3; rw [List.length_append, List.length_replicate, List.length_singleton] at e3; subst e3; have hnn : w.heap.size + 1 ∉ ownB (Value.slice pa 0 pc) := (fun hh => by have := (RowC.lt HR.out _ (mem_ownB.1 hh)).1; omega); have N3 := Lib.hid (k3.blk HN.out hnn); have R3 := Lib.hid h3; have B3 := Lib.hid (HB.out.trans (k3.below (fun b hb => Nat.le_trans (by omega) (RowC.lt HR.out b (mem_ownB.1 hb)).1) hlo2)); have n6 : w3.cell? ⟨w.heap.size + 1, 5, none⟩ = some (.slice pa 0 pc) := N3.out.cell 5; have z6 := N3.out.frozen 5; have l6 := N3.out.lt; clear h3 k3 g3 n5 z5 hnn)
          | fail)
        go_roundw
        case rel => exact ⟨0 + 1, pa3, pc3, by omega, by go_num, B3.out.setCell (p := ⟨w.heap.size + 1, 5, none⟩) (by simp) _, N3.out.set 5 _, by
          rw [List.replicate_succ']
          exact RowC.kept R3.out ((Kept.refl [w.heap.size + 1] w3).setCell _ _ (.inl (by simp))) fun y hy hh => by
            simp at hh
            have := (RowC.lt R3.out y hy).1
            omega⟩
        case measure => simp [intOf]
      · have dd : decide (i = 0) = false := decide_eq_false (by omega)
        have HI := Lib.hid (show i = top + 1 from by omega)
        have m0 : wr.cell? ⟨w.heap.size + 1, 0, none⟩ = some (.int .u32 (x.id : Int)) := HN.out.cell 0
        have m1 : wr.cell? ⟨w.heap.size + 1, 1, none⟩ = some (.slice x.pv.1 x.pv.2.1 x.pv.2.2) := HN.out.cell 1
        have m2 : wr.cell? ⟨w.heap.size + 1, 2, none⟩ = some (.slice x.pt.1 x.pt.2.1 x.pt.2.2) := HN.out.cell 2
        have m3 : wr.cell? ⟨w.heap.size + 1, 3, none⟩ = some (.int .u64 (v : Int)) := HN.out.cell 3
        have m4 : wr.cell? ⟨w.heap.size + 1, 4, none⟩ = some (.int .u64 0) := HN.out.cell 4
        have hr := HH.out.on HB.out
        obtain ⟨ua, uc, rfl, -⟩ := hr.toGrN.u_form
        have g1 : wr.cell? ⟨g, 1, none⟩ = some (.slice ua L.length uc) := hr.blk.cell 1
        have gl : g < wr.heap.size := hr.blk.lt
        have ROW := Lib.hid ((hr.on (show Below wr.heap.size wr wr.drew from (Below.refl _ _).drew)).rows)
        have BK := Lib.hid (show Blk wr.drew g T (.int .i64 (m : Int) :: .slice ua L.length uc :: rs) from hr.blk.drew)
        have UG := Lib.hid (fun b (hb : (Value.slice ua L.length uc).ownBlock = some b) => (hr.u_far hT.n b hb).1)
        have hlo : lo ≤ wr.drew.heap.size := Nat.le_of_lt (Nat.lt_of_le_of_lt hr.glo hr.blk.lt)
        obtain ⟨N, hN⟩ : ∃ N, L.length = N := ⟨_, rfl⟩
        have HNN := Lib.hid hN
        have hfew2 : (L.map NodeL.cells).length < 100000 := by rw [List.length_map]; exact hfew
        have HF2 := Lib.hid hfew2
        have HFIN := Lib.hid (fun (u' : Value) (w8 : World) (h1 : RowC lo w8 40 6 u' (L.map NodeL.cells ++ [[.int .u32 (x.id : Int), .slice x.pv.1 x.pv.2.1 x.pv.2.2, .slice x.pt.1 x.pt.2.1 x.pt.2.2, .int .u64 (v : Int), .int .u64 0, .slice pa i pc]])) (h2 : Kept (ownB (.slice ua L.length uc)) wr.drew w8) (h3 : Grows wr.drew (ownB (.slice ua L.length uc)) (ownB u')) => radd_fin HH.out hT HB.out hfew x HX.out level v hv (by rw [htop]; exact HI.out) HR.out h1 h2 h3)
        rw [hN] at g1 ROW BK UG HFIN
        rw [hN] at HH
        clear hr hfew2 hN hfew z5 hmx hm4 hti hi hit
        go_wp2
        try clear hl
        try clear hl'
        try clear dd
        go_region_law (refine step_c wr.drew (by rfl) (.tmp 30) (.tmp 32) 28 (by rfl) Try.underlying28 (.agg #[.int .u32 0, .slice none 0 0, .slice none 0 0, .int .u64 0, .int .u64 0, .slice none 0 0]) 96 node_info11 rfl (by decide) [.int .u32 (x.id : Int), .slice x.pv.1 x.pv.2.1 x.pv.2.2, .slice x.pt.1 x.pt.2.1 x.pt.2.2, .int .u64 (v : Int), .int .u64 0, .slice pa i pc] (by rfl) (by rfl) ROW.out rfl (by simp [Value.oneCell']) hlo (by have := HF2.out; omega) (by have := HF2.out; omega) ?_; intro v8 w8 hr8 hk8 hg8; obtain ⟨a8, c8, e8, -⟩ := hr8.form; obtain ⟨n8, hn8⟩ : ∃ n8, (L.map NodeL.cells ++ ([[.int .u32 (x.id : Int), .slice x.pv.1 x.pv.2.1 x.pv.2.2, .slice x.pt.1 x.pt.2.1 x.pt.2.2, .int .u64 (v : Int), .int .u64 0, .slice pa i pc]] : List (List Value))).length = n8 := ⟨_, rfl⟩; obtain rfl : v8 = .slice a8 n8 c8 := e8.trans (by rw [← hn8]); have N8 := Lib.hid (show n8 = L.length + 1 from by rw [← hn8, List.length_append, List.length_map]; rfl); have POST := Lib.hid (HFIN.out _ w8 hr8 hk8 hg8); have hb8 := hk8.blk BK.out (fun hh => UG.out g (mem_ownB.1 hh) rfl); have x0 : w8.cell? ⟨g, 1, none⟩ = some (.slice ua N uc) := hb8.cell 1; have x1 := hb8.frozen 1; have x2 := hb8.lt; clear hr8 hk8 hg8 e8 hn8 hb8)
        all_goals
          have hsub : IntKind.i64.wrap ((n8 : Int) - 1) = (L.length : Int) := (by
            have := N8.out
            have := HNN.out
            have := HF2.out
            rw [List.length_map] at this
            rw [IntKind.wrap_i64]
            omega)
          go_wp2
          go_ret
          exact ⟨rfl, by rw [HNN.out]; exact POST.out⟩
    · by_cases hit : i ≤ top
      · have dd : decide ((i : Int) ≤ level) = true := decide_eq_true (by omega)
        go_wp2_with (first
          | (at_builtin; refine app_c (cs := [.slice none 0 0]) wr rfl _ _ 38 rfl Try.underlying38 (.slice none 0 0) 24 lists_info11 rfl (by omega) rfl rfl HR.out rfl (by simp [Value.oneCell']) (by omega) (by rw [List.length_replicate]; omega) (by rw [List.length_replicate]; omega) ?_; intro v3 w3 h3 k3 g3; obtain ⟨pa3, pc3, e3, -⟩ := RowC.form h3; rw [List.length_append, List.length_replicate, List.length_singleton] at e3; subst e3; have hnn : w.heap.size + 1 ∉ ownB (Value.slice pa i pc) := (fun hh => by have := (RowC.lt HR.out _ (mem_ownB.1 hh)).1; omega); have N3 := Lib.hid (k3.blk HN.out hnn); have R3 := Lib.hid h3; have B3 := Lib.hid (HB.out.trans (k3.below (fun b hb => Nat.le_trans (by omega) (RowC.lt HR.out b (mem_ownB.1 hb)).1) hlo2)); have n6 : w3.cell? ⟨w.heap.size + 1, 5, none⟩ = some (.slice pa i pc) := N3.out.cell 5; have z6 := N3.out.frozen 5; have l6 := N3.out.lt; clear h3 k3 g3 n5 z5 hnn)
          | fail)
        go_roundw
        case rel => exact ⟨i + 1, pa3, pc3, by omega, by go_num, B3.out.setCell (p := ⟨w.heap.size + 1, 5, none⟩) (by simp) _, N3.out.set 5 _, by
          rw [List.replicate_succ']
          exact RowC.kept R3.out ((Kept.refl [w.heap.size + 1] w3).setCell _ _ (.inl (by simp))) fun y hy hh => by
            simp at hh
            have := (RowC.lt R3.out y hy).1
            omega⟩
        case measure => simp [intOf]; omega
      · have dd : ¬ ((i : Int) ≤ level) := (by omega)
        have HI := Lib.hid (show i = top + 1 from by omega)
        have m0 : wr.cell? ⟨w.heap.size + 1, 0, none⟩ = some (.int .u32 (x.id : Int)) := HN.out.cell 0
        have m1 : wr.cell? ⟨w.heap.size + 1, 1, none⟩ = some (.slice x.pv.1 x.pv.2.1 x.pv.2.2) := HN.out.cell 1
        have m2 : wr.cell? ⟨w.heap.size + 1, 2, none⟩ = some (.slice x.pt.1 x.pt.2.1 x.pt.2.2) := HN.out.cell 2
        have m3 : wr.cell? ⟨w.heap.size + 1, 3, none⟩ = some (.int .u64 (v : Int)) := HN.out.cell 3
        have m4 : wr.cell? ⟨w.heap.size + 1, 4, none⟩ = some (.int .u64 0) := HN.out.cell 4
        have hr := HH.out.on HB.out
        obtain ⟨ua, uc, rfl, -⟩ := hr.toGrN.u_form
        have g1 : wr.cell? ⟨g, 1, none⟩ = some (.slice ua L.length uc) := hr.blk.cell 1
        have gl : g < wr.heap.size := hr.blk.lt
        have ROW := Lib.hid ((hr.on (show Below wr.heap.size wr wr.drew from (Below.refl _ _).drew)).rows)
        have BK := Lib.hid (show Blk wr.drew g T (.int .i64 (m : Int) :: .slice ua L.length uc :: rs) from hr.blk.drew)
        have UG := Lib.hid (fun b (hb : (Value.slice ua L.length uc).ownBlock = some b) => (hr.u_far hT.n b hb).1)
        have hlo : lo ≤ wr.drew.heap.size := Nat.le_of_lt (Nat.lt_of_le_of_lt hr.glo hr.blk.lt)
        obtain ⟨N, hN⟩ : ∃ N, L.length = N := ⟨_, rfl⟩
        have HNN := Lib.hid hN
        have hfew2 : (L.map NodeL.cells).length < 100000 := by rw [List.length_map]; exact hfew
        have HF2 := Lib.hid hfew2
        have HFIN := Lib.hid (fun (u' : Value) (w8 : World) (h1 : RowC lo w8 40 6 u' (L.map NodeL.cells ++ [[.int .u32 (x.id : Int), .slice x.pv.1 x.pv.2.1 x.pv.2.2, .slice x.pt.1 x.pt.2.1 x.pt.2.2, .int .u64 (v : Int), .int .u64 0, .slice pa i pc]])) (h2 : Kept (ownB (.slice ua L.length uc)) wr.drew w8) (h3 : Grows wr.drew (ownB (.slice ua L.length uc)) (ownB u')) => radd_fin HH.out hT HB.out hfew x HX.out level v hv (by rw [htop]; exact HI.out) HR.out h1 h2 h3)
        rw [hN] at g1 ROW BK UG HFIN
        rw [hN] at HH
        clear hr hfew2 hN hfew z5 hmx hm4 hti hi hit
        go_wp2
        try clear hl
        try clear hl'
        try clear dd
        go_region_law (refine step_c wr.drew (by rfl) (.tmp 30) (.tmp 32) 28 (by rfl) Try.underlying28 (.agg #[.int .u32 0, .slice none 0 0, .slice none 0 0, .int .u64 0, .int .u64 0, .slice none 0 0]) 96 node_info11 rfl (by decide) [.int .u32 (x.id : Int), .slice x.pv.1 x.pv.2.1 x.pv.2.2, .slice x.pt.1 x.pt.2.1 x.pt.2.2, .int .u64 (v : Int), .int .u64 0, .slice pa i pc] (by rfl) (by rfl) ROW.out rfl (by simp [Value.oneCell']) hlo (by have := HF2.out; omega) (by have := HF2.out; omega) ?_; intro v8 w8 hr8 hk8 hg8; obtain ⟨a8, c8, e8, -⟩ := hr8.form; obtain ⟨n8, hn8⟩ : ∃ n8, (L.map NodeL.cells ++ ([[.int .u32 (x.id : Int), .slice x.pv.1 x.pv.2.1 x.pv.2.2, .slice x.pt.1 x.pt.2.1 x.pt.2.2, .int .u64 (v : Int), .int .u64 0, .slice pa i pc]] : List (List Value))).length = n8 := ⟨_, rfl⟩; obtain rfl : v8 = .slice a8 n8 c8 := e8.trans (by rw [← hn8]); have N8 := Lib.hid (show n8 = L.length + 1 from by rw [← hn8, List.length_append, List.length_map]; rfl); have POST := Lib.hid (HFIN.out _ w8 hr8 hk8 hg8); have hb8 := hk8.blk BK.out (fun hh => UG.out g (mem_ownB.1 hh) rfl); have x0 : w8.cell? ⟨g, 1, none⟩ = some (.slice ua N uc) := hb8.cell 1; have x1 := hb8.frozen 1; have x2 := hb8.lt; clear hr8 hk8 hg8 e8 hn8 hb8)
        all_goals
          have hsub : IntKind.i64.wrap ((n8 : Int) - 1) = (L.length : Int) := (by
            have := N8.out
            have := HNN.out
            have := HF2.out
            rw [List.length_map] at this
            rw [IntKind.wrap_i64]
            omega)
          go_wp2
          go_ret
          exact ⟨rfl, by rw [HNN.out]; exact POST.out⟩
    · by_cases hit : i ≤ top
      · have dd : decide ((i : Int) ≤ 4) = true := decide_eq_true (by omega)
        go_wp2_with (first
          | (at_builtin; refine app_c (cs := [.slice none 0 0]) wr rfl _ _ 38 rfl Try.underlying38 (.slice none 0 0) 24 lists_info11 rfl (by omega) rfl rfl HR.out rfl (by simp [Value.oneCell']) (by omega) (by rw [List.length_replicate]; omega) (by rw [List.length_replicate]; omega) ?_; intro v3 w3 h3 k3 g3; obtain ⟨pa3, pc3, e3, -⟩ := RowC.form h3; rw [List.length_append, List.length_replicate, List.length_singleton] at e3; subst e3; have hnn : w.heap.size + 1 ∉ ownB (Value.slice pa i pc) := (fun hh => by have := (RowC.lt HR.out _ (mem_ownB.1 hh)).1; omega); have N3 := Lib.hid (k3.blk HN.out hnn); have R3 := Lib.hid h3; have B3 := Lib.hid (HB.out.trans (k3.below (fun b hb => Nat.le_trans (by omega) (RowC.lt HR.out b (mem_ownB.1 hb)).1) hlo2)); have n6 : w3.cell? ⟨w.heap.size + 1, 5, none⟩ = some (.slice pa i pc) := N3.out.cell 5; have z6 := N3.out.frozen 5; have l6 := N3.out.lt; clear h3 k3 g3 n5 z5 hnn)
          | fail)
        go_roundw
        case rel => exact ⟨i + 1, pa3, pc3, by omega, by go_num, B3.out.setCell (p := ⟨w.heap.size + 1, 5, none⟩) (by simp) _, N3.out.set 5 _, by
          rw [List.replicate_succ']
          exact RowC.kept R3.out ((Kept.refl [w.heap.size + 1] w3).setCell _ _ (.inl (by simp))) fun y hy hh => by
            simp at hh
            have := (RowC.lt R3.out y hy).1
            omega⟩
        case measure => simp [intOf]; omega
      · have dd : decide ((i : Int) ≤ 4) = false := decide_eq_false (by omega)
        have HI := Lib.hid (show i = top + 1 from by omega)
        have m0 : wr.cell? ⟨w.heap.size + 1, 0, none⟩ = some (.int .u32 (x.id : Int)) := HN.out.cell 0
        have m1 : wr.cell? ⟨w.heap.size + 1, 1, none⟩ = some (.slice x.pv.1 x.pv.2.1 x.pv.2.2) := HN.out.cell 1
        have m2 : wr.cell? ⟨w.heap.size + 1, 2, none⟩ = some (.slice x.pt.1 x.pt.2.1 x.pt.2.2) := HN.out.cell 2
        have m3 : wr.cell? ⟨w.heap.size + 1, 3, none⟩ = some (.int .u64 (v : Int)) := HN.out.cell 3
        have m4 : wr.cell? ⟨w.heap.size + 1, 4, none⟩ = some (.int .u64 0) := HN.out.cell 4
        have hr := HH.out.on HB.out
        obtain ⟨ua, uc, rfl, -⟩ := hr.toGrN.u_form
        have g1 : wr.cell? ⟨g, 1, none⟩ = some (.slice ua L.length uc) := hr.blk.cell 1
        have gl : g < wr.heap.size := hr.blk.lt
        have ROW := Lib.hid ((hr.on (show Below wr.heap.size wr wr.drew from (Below.refl _ _).drew)).rows)
        have BK := Lib.hid (show Blk wr.drew g T (.int .i64 (m : Int) :: .slice ua L.length uc :: rs) from hr.blk.drew)
        have UG := Lib.hid (fun b (hb : (Value.slice ua L.length uc).ownBlock = some b) => (hr.u_far hT.n b hb).1)
        have hlo : lo ≤ wr.drew.heap.size := Nat.le_of_lt (Nat.lt_of_le_of_lt hr.glo hr.blk.lt)
        obtain ⟨N, hN⟩ : ∃ N, L.length = N := ⟨_, rfl⟩
        have HNN := Lib.hid hN
        have hfew2 : (L.map NodeL.cells).length < 100000 := by rw [List.length_map]; exact hfew
        have HF2 := Lib.hid hfew2
        have HFIN := Lib.hid (fun (u' : Value) (w8 : World) (h1 : RowC lo w8 40 6 u' (L.map NodeL.cells ++ [[.int .u32 (x.id : Int), .slice x.pv.1 x.pv.2.1 x.pv.2.2, .slice x.pt.1 x.pt.2.1 x.pt.2.2, .int .u64 (v : Int), .int .u64 0, .slice pa i pc]])) (h2 : Kept (ownB (.slice ua L.length uc)) wr.drew w8) (h3 : Grows wr.drew (ownB (.slice ua L.length uc)) (ownB u')) => radd_fin HH.out hT HB.out hfew x HX.out level v hv (by rw [htop]; exact HI.out) HR.out h1 h2 h3)
        rw [hN] at g1 ROW BK UG HFIN
        rw [hN] at HH
        clear hr hfew2 hN hfew z5 hmx hm4 hti hi hit
        go_wp2
        try clear hl
        try clear hl'
        try clear dd
        go_region_law (refine step_c wr.drew (by rfl) (.tmp 30) (.tmp 32) 28 (by rfl) Try.underlying28 (.agg #[.int .u32 0, .slice none 0 0, .slice none 0 0, .int .u64 0, .int .u64 0, .slice none 0 0]) 96 node_info11 rfl (by decide) [.int .u32 (x.id : Int), .slice x.pv.1 x.pv.2.1 x.pv.2.2, .slice x.pt.1 x.pt.2.1 x.pt.2.2, .int .u64 (v : Int), .int .u64 0, .slice pa i pc] (by rfl) (by rfl) ROW.out rfl (by simp [Value.oneCell']) hlo (by have := HF2.out; omega) (by have := HF2.out; omega) ?_; intro v8 w8 hr8 hk8 hg8; obtain ⟨a8, c8, e8, -⟩ := hr8.form; obtain ⟨n8, hn8⟩ : ∃ n8, (L.map NodeL.cells ++ ([[.int .u32 (x.id : Int), .slice x.pv.1 x.pv.2.1 x.pv.2.2, .slice x.pt.1 x.pt.2.1 x.pt.2.2, .int .u64 (v : Int), .int .u64 0, .slice pa i pc]] : List (List Value))).length = n8 := ⟨_, rfl⟩; obtain rfl : v8 = .slice a8 n8 c8 := e8.trans (by rw [← hn8]); have N8 := Lib.hid (show n8 = L.length + 1 from by rw [← hn8, List.length_append, List.length_map]; rfl); have POST := Lib.hid (HFIN.out _ w8 hr8 hk8 hg8); have hb8 := hk8.blk BK.out (fun hh => UG.out g (mem_ownB.1 hh) rfl); have x0 : w8.cell? ⟨g, 1, none⟩ = some (.slice ua N uc) := hb8.cell 1; have x1 := hb8.frozen 1; have x2 := hb8.lt; clear hr8 hk8 hg8 e8 hn8 hb8)
        all_goals
          have hsub : IntKind.i64.wrap ((n8 : Int) - 1) = (L.length : Int) := (by
            have := N8.out
            have := HNN.out
            have := HF2.out
            rw [List.length_map] at this
            rw [IntKind.wrap_i64]
            omega)
          go_wp2
          go_ret
          exact ⟨rfl, by rw [HNN.out]; exact POST.out⟩
end

section
variable {T : TypeId} {m0 : Value × List Value} {okI : Nat → Prop} {w wz : World} {lo g : Nat} {u : Value} {L : List NodeL}
def NodeL.setR (x : NodeL) (pl : Value) (k : Nat) (v : Value) (l : List Nat) : NodeL := { x with pl := pl, ls := x.ls.set k v, links := x.links.set k l }
theorem graphV_setR {m : Nat} {i k : Nat} {x : NodeL} (hx : L[i]? = some x) (pl v : Value) (l : List Nat) : graphV m (L.set i (x.setR pl k v l)) = (graphV m L).setLink i k l := by
  rw [← graphV_setL hx v l]
  unfold graphV
  congr 1
  rw [List.map_set, List.map_set]
  rfl
/-- A node's row of lists is another one now, that was made anew, with one list that was made anew. -/
theorem GrS.setRow (h : GrS T m0 okI w lo g u L) (hTN : T ≠ 40) {i k : Nat} {x : NodeL} (hx : L[i]? = some x) {gu n c : Nat} (hu : u = .slice (some ⟨gu, 0, none⟩) n c)
    (hb : Below w.heap.size w wz) {pl v : Value} {nl : List Nat} (hrow : wz.ownsRow w.heap.size 46 1 pl x.ls.length (x.ls.set k v)) (ho : wz.ownsRow w.heap.size 3 1 v nl.length (intsC nl)) :
    GrS T m0 okI (wz.setCell ⟨gu, i * 6 + 5, none⟩ pl) lo g u (L.set i (x.setR pl k v nl)) ∧ Kept (fpG g u L) w (wz.setCell ⟨gu, i * 6 + 5, none⟩ pl) ∧ Grows w (fpG g u L) (fpG g u (L.set i (x.setR pl k v nl))) := by
  have hm := List.mem_of_getElem? hx
  have hlo : lo ≤ w.heap.size := Nat.le_of_lt (Nat.lt_of_le_of_lt h.glo h.blk.lt)
  have hub : u.ownBlock = some gu := by rw [hu]; rfl
  have hglt : gu < w.heap.size := (h.rows.lt gu hub).2
  have hf := h.u_far hTN gu hub
  have hz := h.on hb
  have k2 : Kept [gu] wz (wz.setCell ⟨gu, i * 6 + 5, none⟩ pl) := (Kept.refl [gu] wz).setCell _ _ (.inl (by simp))
  have kk : Kept [gu] w (wz.setCell ⟨gu, i * 6 + 5, none⟩ pl) := (Kept.of_below hb (Nat.le_refl _)).trans k2 (Grows.refl _ _)
  have hpl : ∀ b, pl.ownBlock = some b → w.heap.size ≤ b := fun b hb => (World.ownsRow.lt hrow b hb).1
  have hvl : ∀ b, v.ownBlock = some b → w.heap.size ≤ b := fun b hb => (World.ownsRow.lt ho b hb).1
  have hgr : Grows w (fpG g u L) (fpG g u (L.set i (x.setR pl k v nl))) := fun b hb => by
    rcases mem_fpG.1 hb with rfl | hb1 | ⟨y, hy, hq⟩
    · exact .inl (mem_fpG.2 (.inl rfl))
    · exact .inl (mem_fpG.2 (.inr (.inl hb1)))
    · rcases set_mem hx hy with rfl | ⟨j, _, hj⟩
      · rcases hq with hq | ⟨v2, hv2, hq⟩
        · exact .inr (hpl b hq)
        · rcases List.mem_or_eq_of_mem_set hv2 with hv2 | rfl
          · obtain ⟨k2, hk2⟩ := List.getElem?_of_mem hv2
            exact .inl (h.fp_ls hm hk2 hq)
          · exact .inr (hvl b hq)
      · have hyL := List.mem_of_getElem? hj
        exact .inl (mem_fpG.2 (.inr (.inr ⟨y, hyL, hq⟩)))
  refine ⟨?_, kk.mono fun b hb => by simp at hb; subst hb; exact mem_fpG.2 (.inr (.inl hub)), hgr⟩
  have old : ∀ (j : Nat) (y : NodeL) (ky : Nat) (vy : Value), (L.set i (x.setR pl k v nl))[j]? = some y → y.ls[ky]? = some vy → (j = i ∧ ky = k ∧ vy = v) ∨ ((j ≠ i ∨ ky ≠ k) ∧ ∃ y', L[j]? = some y' ∧ y'.ls[ky]? = some vy) := fun j y ky vy hj hvy => by
    rcases set_get hx hj with ⟨rfl, rfl⟩ | ⟨hne, h2⟩
    · rw [show (x.setR pl k v nl).ls = x.ls.set k v from rfl, List.getElem?_set] at hvy
      by_cases hkk : k = ky
      · subst hkk
        rw [if_pos rfl] at hvy
        split at hvy
        · exact .inl ⟨rfl, rfl, (Option.some.inj hvy).symm⟩
        · cases hvy
      · rw [if_neg hkk] at hvy
        exact .inr ⟨.inr fun e => hkk e.symm, x, hx, hvy⟩
    · exact .inr ⟨.inl hne, y, h2, hvy⟩
  refine { blk := kk.blk h.blk (by simp; exact fun e => hf.1 e.symm), rows := ?_, item := fun y hy => ?_, glo := h.glo, few := by rw [List.length_set]; exact h.few, lrow := fun y hy => ?_, lens := fun y hy => ?_, list := fun y hy k' v2 l2 hv2 hl2 => ?_, plne := fun a b y z q hy hz hyb hzb => ?_, lsne := fun a b y z ka kb va vb q hy hz hva hvb hqa hqb => ?_, okne := fun b hb => ?_, nums := fun y hy => ?_ }
  · have h1 := hz.rows
    rw [hu] at h1 ⊢
    have h2 := RowC.set h1 (i := i) (j := 5) (cs := x.cells) (by rw [List.getElem?_map, hx]; rfl) (by omega) pl
    rw [List.map_set]
    exact h2
  · have hi : ∀ y' ∈ L, y'.it.In okI (wz.setCell ⟨gu, i * 6 + 5, none⟩ pl) := fun y' h1 => (h.item y' h1).stay kk.size (fun b hb hlt => kk.block b hlt (by simp; rintro rfl; exact hf.2.2.2 hb)) (fun _ h _ => h)
    rcases set_mem hx hy with rfl | ⟨j, _, hj⟩
    · exact hi x hm
    · exact hi y (List.mem_of_getElem? hj)
  · rcases set_mem hx hy with rfl | ⟨j, _, hj⟩
    · show World.ownsRow _ lo 46 1 pl (x.ls.set k v).length (x.ls.set k v)
      rw [List.length_set]
      exact own_on (k2.own hrow fun b hb hh => by simp at hh; subst hh; have := hpl b hb; omega) hlo (Below.refl _ _)
    · exact kk.own (h.lrow y (List.mem_of_getElem? hj)) fun b hb hh => by simp at hh; subst hh; exact hf.2.1 y (List.mem_of_getElem? hj) hb
  · rcases set_mem hx hy with rfl | ⟨j, _, hj⟩
    · show (x.ls.set k v).length = (x.links.set k nl).length
      rw [List.length_set, List.length_set]
      exact h.lens x hm
    · exact h.lens y (List.mem_of_getElem? hj)
  · obtain ⟨j, hj⟩ := List.getElem?_of_mem hy
    rcases old j y k' v2 hj hv2 with ⟨rfl, rfl, rfl⟩ | ⟨hne, y', h1, h2⟩
    · have e : l2 = nl := by
        rcases set_get hx hj with ⟨_, rfl⟩ | ⟨hne, _⟩
        · rw [show (x.setR pl k' v2 nl).links = x.links.set k' nl from rfl, List.getElem?_set, if_pos rfl] at hl2
          split at hl2
          · exact (Option.some.inj hl2).symm
          · cases hl2
        · exact absurd rfl hne
      rw [e]
      exact own_on (k2.own ho fun b hb hh => by simp at hh; subst hh; have := hvl b hb; omega) hlo (Below.refl _ _)
    · have e : y'.links[k']? = some l2 := by
        rcases set_get hx hj with ⟨rfl, rfl⟩ | ⟨_, h3⟩
        · rw [hx] at h1
          obtain rfl := Option.some.inj h1
          rw [show (x.setR pl k v nl).links = x.links.set k nl from rfl, List.getElem?_set, if_neg (by rcases hne with hne | hne; exact absurd rfl hne; exact fun e => hne e.symm)] at hl2
          exact hl2
        · rw [h1] at h3
          obtain rfl := Option.some.inj h3
          exact hl2
      exact kk.own (h.list y' (List.mem_of_getElem? h1) k' v2 l2 h2 e) fun b hb hh => by simp at hh; subst hh; exact hf.2.2.1 y' (List.mem_of_getElem? h1) k' v2 h2 hb
  · rcases set_get hx hy with ⟨rfl, rfl⟩ | ⟨hne, h2⟩
    · rcases set_get hx hz with ⟨rfl, rfl⟩ | ⟨hne2, h3⟩
      · rfl
      · have := hpl q hyb
        have := (World.ownsRow.lt (h.lrow z (List.mem_of_getElem? h3)) q hzb).2
        omega
    · rcases set_get hx hz with ⟨rfl, rfl⟩ | ⟨hne2, h3⟩
      · have := hpl q hzb
        have := (World.ownsRow.lt (h.lrow y (List.mem_of_getElem? h2)) q hyb).2
        omega
      · exact h.plne a b y z q h2 h3 hyb hzb
  · rcases old a y ka va hy hva with ⟨rfl, rfl, rfl⟩ | ⟨hne, y', h1, h2⟩
    · rcases old b z kb vb hz hvb with ⟨rfl, rfl, rfl⟩ | ⟨hne2, z', h3, h4⟩
      · exact ⟨rfl, rfl⟩
      · have := hvl q hqa
        have := (World.ownsRow.lt (h.listOwn (List.mem_of_getElem? h3) h4) q hqb).2
        omega
    · rcases old b z kb vb hz hvb with ⟨rfl, rfl, rfl⟩ | ⟨hne2, z', h3, h4⟩
      · have := hvl q hqb
        have := (World.ownsRow.lt (h.listOwn (List.mem_of_getElem? h1) h2) q hqa).2
        omega
      · exact h.lsne a b y' z' ka kb va vb q h1 h3 h2 h4 hqa hqb
  · have h1 := h.okne b hb
    refine ⟨Nat.lt_of_lt_of_le h1.1 kk.size, fun hh => ?_⟩
    rcases hgr b hh with h2 | h2
    · exact h1.2 h2
    · omega
  · rcases set_mem hx hy with rfl | ⟨j, _, hj⟩
    · exact h.nums x hm
    · exact h.nums y (List.mem_of_getElem? hj)
end

/-! ### What is chosen behind those that were taken -/
theorem snoc_ind {α : Type} {P : List α → Prop} (h0 : P []) (h1 : ∀ l x, P l → P (l ++ [x])) : ∀ l, P l := fun l => by
  have : ∀ l : List α, P l.reverse := fun l => by
    induction l with
    | nil => exact h0
    | cons x l ih =>
      rw [List.reverse_cons]
      exact h1 _ _ ih
  have := this l.reverse
  rwa [List.reverse_reverse] at this
def idsH (l : List Hit) : List Nat := l.map fun h => h.2.toNat
theorem idsH_snoc (l : List Hit) (h : Hit) : idsH (l ++ [h]) = idsH l ++ [h.2.toNat] := by simp [idsH]
theorem choose_passed (g : GraphV) (most : Nat) : ∀ (l : List Hit), (idsH l).Nodup → (g.chooseF most l).1.length < most → (g.chooseF most l).2 = (idsH l).filter (fun j => !decide (j ∈ (g.chooseF most l).1)) := by
  refine snoc_ind (fun _ _ => rfl) fun l h ih => ?_
  · intro hnd hlt
    rw [idsH_snoc] at hnd
    have hnd1 : (idsH l).Nodup := (List.nodup_append.1 hnd).1
    have hnew : h.2.toNat ∉ idsH l := fun hh => (List.nodup_append.1 hnd).2.2 _ hh _ (by simp) rfl
    have hnT : h.2.toNat ∉ (g.chooseF most l).1 := fun hh => hnew (g.choose_sub most l _ (.inl hh))
    rw [GraphV.chooseF_snoc] at hlt ⊢
    rw [idsH_snoc]
    by_cases hfull : (g.chooseF most l).1.length = most
    · unfold GraphV.takeS at hlt
      rw [if_pos hfull] at hlt
      omega
    · have hl0 : (g.chooseF most l).1.length < most := by
        have := g.choose_most most l
        omega
      have ih := ih hnd1 hl0
      unfold GraphV.takeS
      rw [if_neg hfull]
      by_cases hn : g.nearer (g.chooseF most l).1 h.2.toNat h.1 = true
      · rw [if_pos hn]
        show (g.chooseF most l).2 ++ [h.2.toNat] = _
        rw [List.filter_append, ← ih]
        simp [hnT]
      · rw [if_neg hn]
        show (g.chooseF most l).2 = _
        rw [List.filter_append, ih]
        have e : (idsH l).filter (fun j => !decide (j ∈ (g.chooseF most l).1 ++ [h.2.toNat])) = (idsH l).filter (fun j => !decide (j ∈ (g.chooseF most l).1)) := by
          refine List.filter_congr fun j hj => ?_
          have : j ≠ h.2.toNat := fun e => hnew (e ▸ hj)
          simp [this]
        rw [e]
        simp
/-- What is taken behind those that were taken, of so many hits. -/
def secondL (M : Nat) (T : List Nat) (l : List Nat) : List Nat := T ++ (l.filter (fun j => !decide (j ∈ T))).take (M - T.length)
theorem choose_second (g : GraphV) (q l : List Int) (M : Nat) : secondL M (g.chooseF M (g.near q l)).1 (idsH (g.near q l)) = g.choose q l M := by
  unfold secondL GraphV.choose
  by_cases h : (g.chooseF M (g.near q l)).1.length < M
  · rw [choose_passed g M _ (g.near_ids q l) h]
  · rw [show M - (g.chooseF M (g.near q l)).1.length = 0 by omega, List.take_zero, List.take_zero]
theorem secondL_len {M : Nat} {T l : List Nat} (h : T.length ≤ M) : (secondL M T l).length ≤ M := by
  unfold secondL
  rw [List.length_append, List.length_take]
  omega
theorem secondL_full {M : Nat} {T l m : List Nat} (h : M ≤ (secondL M T l).length) : secondL M T (l ++ m) = secondL M T l := by
  unfold secondL at h ⊢
  rw [List.length_append, List.length_take] at h
  rw [List.filter_append, List.take_append_of_le_length (by omega)]
theorem secondL_old {M : Nat} {T l : List Nat} {j : Nat} (h : j ∈ T) : secondL M T (l ++ [j]) = secondL M T l := by
  unfold secondL
  rw [List.filter_append]
  simp [h]
theorem secondL_new {M : Nat} {T l : List Nat} {j : Nat} (h : j ∉ T) (hlt : (secondL M T l).length < M) : secondL M T (l ++ [j]) = secondL M T l ++ [j] := by
  unfold secondL at hlt ⊢
  rw [List.length_append, List.length_take] at hlt
  have e : [j].filter (fun j => !decide (j ∈ T)) = [j] := by simp [h]
  rw [List.filter_append, e, List.append_assoc]
  congr 1
  rw [List.take_of_length_le (by rw [List.length_append, List.length_singleton]; omega), List.take_of_length_le (by omega)]
theorem mem_secondL {M : Nat} {T l : List Nat} {j : Nat} (hj : j ∉ l) : j ∈ secondL M T l ↔ j ∈ T := by
  unfold secondL
  rw [List.mem_append]
  exact ⟨fun h => h.elim id fun h => absurd ((List.mem_filter.1 (List.mem_of_mem_take h)).1) hj, .inl⟩
theorem secondL_nil (M : Nat) (T : List Nat) : secondL M T [] = T := by simp [secondL]
end Go.Proofs.Ytdfpfgkfmjehiaa
