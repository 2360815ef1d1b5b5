/-
  Link; Add; Node; the graph in plain words; Ints; the laws' example. (Iq, Ig, Ix, Iy, I6, I7 merged.)
-/
import Derived.Test.YtadkfedglkhgjaaGreatIM6
import Derived.Test.YtadkfedglkhgjaaGreatRg
import Derived.Test.YtadkfedglkhgjaaGreatEm
import Derived.Shelf.Abstract
import Derived.Test.YtadkfedglkhgjaaGreatIM7
import Derived.BigQuiet
namespace Go.Proofs.YtadkfedglkhgjaaGreat
open Go.RowKit Go.ChangeShapes Go.WideShapes Go.ChangeAt

set_option maxRecDepth 100000 in
set_option maxHeartbeats 6400000 in
theorem link_yes (w : World) (lo g : Nat) (F : List Nat) (gv : GraphV) (h : GraphIs w lo g F gv) (a b level most : Int) (hmost : Hid (most ≤ 9223372036854775807)) (hz : gv.linkB a b level = true) :
    Calls Tryz.prog 104 #[.pointer (some ⟨g, 0, none⟩), .int .i64 a, .int .i64 b, .int .i64 level, .int .i64 most] w (LinkPost lo g F gv a b level most w) := by
  obtain ⟨It, u, L, h1, h2, hr, rfl, h4, h5⟩ := h
  have HZ := Lib.hid hz
  have HE := Lib.hid (show gv.link a b level most = gv.setLink a.toNat level.toNat (gv.linkL a.toNat b.toNat level.toNat most) from by unfold GraphV.link; rw [if_pos hz])
  unfold GraphV.linkB at hz
  simp only [Bool.and_eq_true, Bool.not_eq_true', decide_eq_false_iff_not] at hz
  obtain ⟨⟨ha, hb⟩, hab⟩ := hz
  have hlv : 0 ≤ level := by
    unfold GraphV.onB at ha
    exact (of_decide_eq_true ha).2.2.1
  obtain ⟨k, rfl⟩ : ∃ k : Nat, level = (k : Int) := ⟨level.toNat, by omega⟩
  have C1 := Lib.hid (on_any h1 a (k : Int) true (by rw [h2] at ha; exact ha))
  have C2 := Lib.hid (on_any h1 b (k : Int) true (by rw [h2] at hb; exact hb))
  obtain ⟨i, rfl, hi, hki⟩ := GraphV.on_nat ha
  obtain ⟨j, rfl, hj, hkj⟩ := GraphV.on_nat hb
  simp only [Int.toNat_natCast] at HE
  have hiL : i < L.length := by rw [h2, graphV_len] at hi; exact hi
  have hjL : j < L.length := by rw [h2, graphV_len] at hj; exact hj
  have hfew := h1.few
  obtain ⟨x, gu, cu, hx, hmem, hu, hgu, hrg⟩ := h1.nodeAt i hiL
  have hkx : k < x.links.length := by rw [h2, graphV_lv hx] at hki; exact hki
  obtain ⟨v, gl, cl, hv, hpl, hgl, hcell, hfro, hown⟩ := h1.listAt hx hkx
  obtain ⟨l, hl⟩ : ∃ l, x.links.getD k [] = l := ⟨_, rfl⟩
  rw [hl] at hown
  have hlg : gv.links i k = l := by rw [h2, graphV_links hx, hl]
  have hIA : IntsAt lo w v l := IntsAt.mk hown
  obtain ⟨va, vn, vc, rfl, hvn⟩ := hIA.parts
  have hln : ∀ y ∈ l, y < L.length := fun y hy => by
    have := links_lt hr (i := i) (k := k) (by rw [hlg]; exact hy)
    rw [h2, graphV_len] at this
    exact this
  have hll : l.length ≤ L.length := nodup_le _ _ (by rw [← hlg]; exact hr.each i k) hln
  obtain ⟨NL, hNL⟩ : ∃ NL, gv.linkL i j k most = NL := ⟨_, rfl⟩
  have hvec : gv.vec i = x.it.vec := by rw [h2, graphV_vec hx]
  have FIN := Lib.hid (fun (wz : World) (v' : Value) (hK : Kept (ownB (.slice va vn vc)) w wz) (ho : wz.ownsRow lo 3 1 v' NL.length (intsC NL)) (hG : Grows w (ownB (.slice va vn vc)) (ownB v')) => show LinkPost lo g (fpG g u L ++ It) gv (i : Int) (j : Int) (k : Int) most w (.returned (.bool true)) (wz.setCell ⟨gl, k, none⟩ v') from by
    have e := h1.setList (by decide) (by decide) hx hkx hv hpl rfl hK ho hG
    have e2 : gv.setLink i k NL = graphV gv.m (L.set i (x.setL k v' NL)) := by rw [graphV_setL hx, ← h2]
    refine ⟨by rw [HZ.out], fpG g u (L.set i (x.setL k v' NL)) ++ It, ⟨It, u, L.set i (x.setL k v' NL), ?_, ?_, hr.link _ _ _ _, rfl, h4, ?_⟩, e.2.1.mono fun b hb => List.mem_append.2 (.inl hb), fun b hb => ?_⟩
    · rw [HE.out, hNL, e2]
      exact e.1
    · rw [HE.out, hNL, e2]
      rfl
    · rw [HE.out, hNL, e2]
      exact h5
    · rcases List.mem_append.1 hb with hb | hb
      · rcases e.2.2 b hb with h6 | h6
        · exact .inl (List.mem_append.2 (.inl h6))
        · exact .inr h6
      · exact .inl (List.mem_append.2 (.inr hb)))
  have hfl := h1.list_far (by decide) hmem hv
  have HS := Lib.hid (fun (wz : World) (hK : Kept (ownB (.slice va vn vc)) w wz) => show wz.cell? ⟨gl, k, none⟩ = some (.slice va vn vc) ∧ wz.frozen? ⟨gl, k, none⟩ = false ∧ wz.cell? ⟨g, 1, none⟩ = some (.slice (some ⟨gu, 0, none⟩) L.length cu) ∧ wz.cell? ⟨gu, i * 6 + 1, none⟩ = some (.slice x.it.pv.1 x.it.pv.2.1 x.it.pv.2.2) from by
    have hgv : gl ∉ ownB (.slice va vn vc) := fun hh => (hfl gl (mem_ownB.1 hh)).2.2.1 x hmem (by rw [hpl]; rfl)
    have hgub : gu ∉ ownB (.slice va vn vc) := fun hh => (hfl gu (mem_ownB.1 hh)).2.1 (by rw [hu]; rfl)
    have e1 := hK.block gl hgl hgv
    have hN := h1.amid (by decide) hmem hv hK
    refine ⟨(World.cell?_of_block (w := w) (a := ⟨gl, k, none⟩) e1).trans hcell, ?_, by rw [← hu]; exact hN.blk.cell 1, (World.cell?_of_block (w := w) (a := ⟨gu, i * 6 + 1, none⟩) (hK.block gu hgu hgub)).trans (hrg 1 _ rfl)⟩
    have : wz.frozen? ⟨gl, k, none⟩ = w.frozen? ⟨gl, k, none⟩ := by simp [World.frozen?, e1]
    rw [this]
    exact hfro)
  have CH := Lib.hid (fun (wz : World) (hK : Kept (ownB (.slice va vn vc)) w wz) (a1 : Option Addr) (n1 c1 : Nat) (l1 : List Nat) (hR : Reads .i64 wz a1 n1 (natsI l1)) (hn1 : n1 ≤ 100000) =>
    choose_any (h1.amid (by decide) hmem hv hK) (by rw [← h2]; exact hr) h5 x.it.pv.1 x.it.pv.2.1 x.it.pv.2.2 x.it.vec (Rd.ints ((h1.amid (by decide) hmem hv hK).item x hmem).hvec rfl) a1 n1 c1 (natsI l1) hR hn1 most hmost)
  rw [← h2] at CH
  have CC := Lib.hid (fun (z : Bool) (hz : decide (j ∈ l) = z) => contains_any w va vn vc l (hIA.reads (by omega) (fun y hy => by have := hln y hy; omega)) j z hz)
  have g1 : w.cell? ⟨g, 1, none⟩ = some (.slice (some ⟨gu, 0, none⟩) L.length cu) := by rw [← hu]; exact h1.blk.cell 1
  have x5 : w.cell? ⟨gu, i * 6 + 5, none⟩ = some (.slice (some ⟨gl, 0, none⟩) x.links.length cl) := by rw [← hpl]; exact hrg 5 _ rfl
  have HIA := Lib.hid hIA
  have HVN := Lib.hid hvn.out
  have hvnL : vn ≤ L.length := by rw [← hvn.out]; exact hll
  have hlo : lo ≤ w.heap.size := Nat.le_of_lt (Nat.lt_of_le_of_lt h1.glo h1.blk.lt)
  have HLK := Lib.hid (show NL = if most < ((putIn l j).length : Int) then gv.choose x.it.vec (natsI (putIn l j)) most.toNat else putIn l j from by
    rw [← hNL, GraphV.linkL, hlg, hvec]
    rfl)
  have HLN := Lib.hid hln
  have HND := Lib.hid (show l.Nodup from by rw [← hlg]; exact hr.each i k)
  have d0 : ((i : Int) == (j : Int)) = false := by simpa using hab
  obtain ⟨N, hN⟩ : ∃ N, L.length = N := ⟨_, rfl⟩
  obtain ⟨P, hP⟩ : ∃ P, x.links.length = P := ⟨_, rfl⟩
  rw [hP] at x5 hkx
  rw [hN] at g1 HS hiL hjL hvnL hfew HLN
  have hj6 : j ≤ 1000000 := by omega
  clear h1 h2 hr h4 h5 HZ HE ha hb hab hlv hi hki hj hkj hx hmem hu hgu hrg hv hpl hgl hown hl hlg hIA hvn hln hll hNL hvec hfl hP hN
  by_cases hjl : j ∈ l
  · have C3 := Lib.hid (CC.out true (decide_eq_true hjl))
    have HPI := Lib.hid (show putIn l j = l from by unfold putIn; rw [if_pos hjl])
    clear hjl CC
    obtain ⟨s1, s2, s3, s4⟩ := HS.out w (Kept.refl _ _)
    by_cases hm : most < (vn : Int)
    · have dm : decide (most < (vn : Int)) = true := decide_eq_true hm
      have HNL := Lib.hid (show NL = gv.choose x.it.vec (natsI l) most.toNat from by
        rw [HLK.out, HPI.out, if_pos (by rw [HVN.out]; exact hm)])
      have C4 := Lib.hid (CH.out w (Kept.refl _ _) va vn vc l (HIA.out.reads (by have := HVN.out; omega) (fun y hy => by have := HLN.out y hy; omega)) (by omega))
      rw [← HNL.out] at C4
      clear hm CH hcell hfro
      go_enter Tryz.func104, Tryz.ntmps104
      go_wp2_with (fail)
      refine C1.out.mono ?_
      rintro e w' ⟨rfl, hw⟩
      have hw' := hw.symm
      subst hw'
      clear hw
      go_wp2_with (fail)
      refine C2.out.mono ?_
      rintro e w' ⟨rfl, hw⟩
      have hw' := hw.symm
      subst hw'
      clear hw
      go_wp2_with (fail)
      refine C3.out.mono ?_
      rintro e w' ⟨rfl, hw⟩
      have hw' := hw.symm
      subst hw'
      clear hw
      go_wp2_with (fail)
      refine C4.out.mono ?_
      rintro e w2 ⟨v2, rfl, hi2, hb2⟩
      obtain ⟨a2, n2, c2, rfl, -⟩ := IntsAt.parts hi2
      have K2 := Lib.hid (Kept.of_below (F := ownB (.slice va vn vc)) hb2 (Nat.le_refl _))
      have FF := Lib.hid (FIN.out w2 _ K2.out (own_on hi2.own hlo (Below.refl _ _)) (fun b hb => .inr (RowC.lt hi2 b (mem_ownB.1 hb)).1))
      obtain ⟨t1, t2, -, -⟩ := HS.out w2 K2.out
      clear hi2 hb2 s1 s2 s3 s4 g1 x5 C1 C2 C3 C4
      go_wp2
      go_ret
      exact FF.out
    · have dm : decide (most < (vn : Int)) = false := decide_eq_false hm
      have HNL := Lib.hid (show NL = l from by
        rw [HLK.out, HPI.out, if_neg (by rw [HVN.out]; exact hm)])
      have FF := Lib.hid (FIN.out w (.slice va vn vc) (Kept.refl _ _) (by rw [HNL.out]; exact HIA.out.own) (Grows.refl _ _))
      clear hm CH
      go_enter Tryz.func104, Tryz.ntmps104
      go_wp2_with (fail)
      refine C1.out.mono ?_
      rintro e w' ⟨rfl, hw⟩
      have hw' := hw.symm
      subst hw'
      clear hw
      go_wp2_with (fail)
      refine C2.out.mono ?_
      rintro e w' ⟨rfl, hw⟩
      have hw' := hw.symm
      subst hw'
      clear hw
      go_wp2_with (fail)
      refine C3.out.mono ?_
      rintro e w' ⟨rfl, hw⟩
      have hw' := hw.symm
      subst hw'
      clear hw
      go_wp2
      go_ret
      exact FF.out
  · have C3 := Lib.hid (CC.out false (decide_eq_false hjl))
    have HPI := Lib.hid (show putIn l j = l ++ [j] from by unfold putIn; rw [if_neg hjl])
    have HL2 := Lib.hid (show ∀ y ∈ l ++ [j], y < N from fun y hy => by
      rcases List.mem_append.1 hy with hy | hy
      · exact HLN.out y hy
      · simp at hy
        omega)
    have HL3 := Lib.hid (show (l ++ [j]).length ≤ N from nodup_le _ _ (nodup_snoc HND.out hjl) HL2.out)
    clear hjl CC
    obtain ⟨s1, s2, s3, s4⟩ := HS.out w (Kept.refl _ _)
    by_cases hm : most < ((vn + 1 : Nat) : Int)
    · have HNL := Lib.hid (show NL = gv.choose x.it.vec (natsI (l ++ [j])) most.toNat from by
        rw [HLK.out, HPI.out, if_pos (by rw [List.length_append, HVN.out]; exact hm)])
      have HM := Lib.hid hm
      clear hm
      go_enter Tryz.func104, Tryz.ntmps104
      go_wp2_with (fail)
      refine C1.out.mono ?_
      rintro e w' ⟨rfl, hw⟩
      have hw' := hw.symm
      subst hw'
      clear hw
      go_wp2_with (fail)
      refine C2.out.mono ?_
      rintro e w' ⟨rfl, hw⟩
      have hw' := hw.symm
      subst hw'
      clear hw
      go_wp2_with (fail)
      refine C3.out.mono ?_
      rintro e w' ⟨rfl, hw⟩
      have hw' := hw.symm
      subst hw'
      clear hw
      go_wp2_with (first
        | (at_builtin; go_loud (refine app_int w rfl _ _ rfl lo (.slice va vn vc) _ j rfl rfl HIA.out hlo (by rw [HVN.out]; omega) ?_); intro v4 w4 h4 h5 h6; obtain ⟨a4, n4, c4, rfl, hn4⟩ := IntsAt.parts h4; have H4 := Lib.hid h4; have K4 := Lib.hid h5; have G4 := Lib.hid h6;
            have e4 : n4 = vn + 1 := (by rw [← hn4.out, List.length_append, HVN.out]; rfl); have d4 : decide (most < (n4 : Int)) = true := decide_eq_true (by have := HM.out; omega); have n4L : n4 ≤ 100000 := (by rw [← hn4.out]; have := HL3.out; omega); obtain ⟨t1, t2, t3, t4⟩ := HS.out w4 K4.out; have C5 := Lib.hid (CH.out w4 K4.out a4 n4 c4 (l ++ [j]) (IntsAt.reads H4.out (by rw [hn4.out]; omega) (fun y hy => by have := HL2.out y hy; omega)) n4L); rw [← HNL.out] at C5; clear h4 h5 h6 e4 hn4)
        | (go_at_call 101; refine C5.out.mono ?_; rintro e w5 ⟨v5, rfl, hi5, hb5⟩; obtain ⟨a5, n5, c5, rfl, -⟩ := IntsAt.parts hi5; have K5 := Lib.hid (K4.out.trans (Kept.of_below (F := ownB (.slice va vn vc)) hb5 (Nat.le_refl _)) (Grows.refl _ _));
            have FF := Lib.hid (FIN.out w5 _ K5.out (own_on (IntsAt.own hi5) (Nat.le_trans hlo K4.out.size) (Below.refl _ _)) (fun b hb => .inr (Nat.le_trans K4.out.size (RowC.lt hi5 b (mem_ownB.1 hb)).1))); obtain ⟨q1, q2, -, -⟩ := HS.out w5 K5.out; clear hi5 hb5 t1 t2 t3 t4 s1 s2 s3 s4)
        | fail)
      go_ret
      exact FF.out
    · have HNL := Lib.hid (show NL = l ++ [j] from by
        rw [HLK.out, HPI.out, if_neg (by rw [List.length_append, HVN.out]; exact hm)])
      have HM := Lib.hid hm
      clear hm CH
      go_enter Tryz.func104, Tryz.ntmps104
      go_wp2_with (fail)
      refine C1.out.mono ?_
      rintro e w' ⟨rfl, hw⟩
      have hw' := hw.symm
      subst hw'
      clear hw
      go_wp2_with (fail)
      refine C2.out.mono ?_
      rintro e w' ⟨rfl, hw⟩
      have hw' := hw.symm
      subst hw'
      clear hw
      go_wp2_with (fail)
      refine C3.out.mono ?_
      rintro e w' ⟨rfl, hw⟩
      have hw' := hw.symm
      subst hw'
      clear hw
      go_wp2_with (first
        | (at_builtin; go_loud (refine app_int w rfl _ _ rfl lo (.slice va vn vc) _ j rfl rfl HIA.out hlo (by rw [HVN.out]; omega) ?_; intro v4 w4 h4 h5 h6; obtain ⟨a4, n4, c4, rfl, hn4⟩ := IntsAt.parts h4; have H4 := Lib.hid h4; have K4 := Lib.hid h5; have G4 := Lib.hid h6; have e4 : n4 = vn + 1 := (by rw [← hn4.out, List.length_append, HVN.out]; rfl); have d4 : decide (most < (n4 : Int)) = false := decide_eq_false (by have := HM.out; omega); obtain ⟨t1, t2, -, -⟩ := HS.out w4 K4.out; have FF := Lib.hid (FIN.out w4 (.slice a4 n4 c4) K4.out (by rw [HNL.out]; exact IntsAt.own H4.out) G4.out); clear h4 h5 h6 e4 hn4 s1 s2 s3 s4))
        | fail)
      go_ret
      exact FF.out

/-- Whatever has not come up yet ahead of A is waited for by A, or by what A waits for. -/
def leadsA (ops : Array Oper) (l0 : Array Bool) (A : Nat) : Bool := (List.range A).all fun i => l0.getD i false || (List.range (A + 1)).any fun j => Nat.blt i j && match ops[j]? with
  | some o => waits o i
  | none => false
theorem leadsA_of {ops : Array Oper} {l0 : Array Bool} {A : Nat} (h : leadsA ops l0 A = true) (i : Nat) (hi : i < A) (h0 : l0.getD i false = false) : ∃ j o, i < j ∧ j ≤ A ∧ ops[j]? = some o ∧ waits o i = true := by
  have h1 := List.all_eq_true.1 h i (by simpa using hi)
  rw [h0] at h1
  simp only [Bool.false_or] at h1
  obtain ⟨j, hj, h2⟩ := List.any_eq_true.1 h1
  rw [Bool.and_eq_true] at h2
  cases ho : ops[j]? with
  | none => rw [ho] at h2; exact absurd h2.2 (by simp)
  | some o =>
    rw [ho] at h2
    have : j < A + 1 := by simpa using hj
    exact ⟨j, o, by simpa [Nat.blt_eq] using h2.1, by omega, ho, h2.2⟩
/-- What stands behind A waits for what stands ahead of it. -/
def tailB (ops : Array Oper) (A : Nat) : Bool := (List.range ops.size).all fun i => Nat.ble i A || match ops[i]? with
  | some o => waits o (i - 1)
  | none => true
theorem tail_of {ops : Array Oper} {A : Nat} (h : tailB ops A = true) (i : Nat) (o : Oper) (ho : ops[i]? = some o) (hi : A < i) : waits o (i - 1) = true := by
  have h1 := List.all_eq_true.1 h i (by simpa using (Array.getElem?_eq_some_iff.1 ho).1)
  rw [ho] at h1
  have e : Nat.ble i A = false := by rw [Bool.eq_false_iff]; intro hh; have := Nat.le_of_ble_eq_true hh; omega
  rw [e] at h1
  simpa using h1
/-- What came up first was waited for by nothing that had not. -/
def closedB (ops : Array Oper) (l0 : Array Bool) : Bool := (List.range ops.size).all fun i => !l0.getD i false || match ops[i]? with
  | some o => o.after.all fun e => !Region.binds .any e || l0.getD e.on false
  | none => true
theorem closed_of {ops : Array Oper} {l0 : Array Bool} (h : closedB ops l0 = true) (i : Nat) (o : Oper) (ho : ops[i]? = some o) (hl : l0.getD i false = true) (d : Nat) (hd : waits o d = true) : l0.getD d false = true := by
  have hi := (Array.getElem?_eq_some_iff.1 ho).1
  have h1 := List.all_eq_true.1 h i (by simpa using hi)
  rw [hl, ho] at h1
  simp only [Bool.not_true, Bool.false_or] at h1
  obtain ⟨e, he, hb⟩ := Array.any_eq_true'.1 hd
  rw [Bool.and_eq_true] at hb
  rw [Array.all_eq_true'] at h1
  have h2 := h1 e he
  rw [hb.1] at h2
  simp only [Bool.not_true, Bool.false_or] at h2
  rw [← Nat.eq_of_beq_eq_true hb.2]
  exact h2

structure GA (ops : Array Oper) (l0 : Array Bool) (a0 : Act) (ds : Nat → Nat) (w0 : World) (facts : Nat → Value → World → Prop) (l : Array Bool) (a : Act) (w : World) : Prop where
  lsz : l.size = ops.size
  tsz : a.tmps.size = a0.tmps.size
  dfs : a.defers = a0.defers
  sub : ∀ i, l0.getD i false = true → l.getD i false = true
  far : ∀ k, (∀ i, i < ops.size → l.getD i false = true → l0.getD i false = false → ds i ≠ k) → a.tmps[k]? = a0.tmps[k]?
  below : Below w0.heap.size w0 w
  fact : ∀ i, l.getD i false = true → l0.getD i false = false → facts i (a.tmps.getD (ds i) undef) w
  closed : ∀ i o, ops[i]? = some o → l.getD i false = true → ∀ d, waits o d = true → l.getD d false = true
section
variable {ops : Array Oper} {l0 : Array Bool} {a0 : Act} {ds : Nat → Nat} {w0 : World} {facts : Nat → Value → World → Prop} {l : Array Bool} {a : Act} {w : World}
theorem GA.ev (h : GA ops l0 a0 ds w0 facts l a w) (k : Nat) (v : Value) (hT : a0.tmps[k]? = some v) (hk : ∀ i, i < ops.size → l.getD i false = true → l0.getD i false = false → ds i ≠ k) : a.eval (.tmp k) = v := by
  show a.tmps.getD k undef = v
  rw [Array.getD_eq_getD_getElem?, h.far k hk, hT]
  rfl
theorem GA.slot (h : GA ops l0 a0 ds w0 facts l a w) (i : Nat) (hl : l.getD i false = true) (h0 : l0.getD i false = false) : facts i (a.eval (.tmp (ds i))) w := h.fact i hl h0
theorem GA.all (h : GA ops l0 a0 ds w0 facts l a w) {A : Nat} (hl : leadsA ops l0 A = true) {o : Oper} (ho : ops[A]? = some o) (hd : ∀ d, waits o d = true → l.getD d false = true) : ∀ i, i < A → l.getD i false = true := by
  have key : ∀ k i, A - i = k → i < A → l.getD i false = true := by
    intro k
    induction k using Nat.strongRecOn with
    | ind k ih =>
      intro i hk hi
      cases h0 : l0.getD i false with
      | true => exact h.sub i h0
      | false =>
        obtain ⟨j, oj, hij, hjA, hoj, hw⟩ := leadsA_of hl i hi h0
        rcases Nat.lt_or_eq_of_le hjA with hlt | rfl
        · exact h.closed j oj hoj (ih (A - j) (by omega) j rfl hlt) i hw
        · rw [ho] at hoj
          obtain rfl := Option.some.inj hoj
          exact hd i hw
  exact fun i hi => key _ i rfl hi
theorem GA.next (h : GA ops l0 a0 ds w0 facts l a w) (hinj : ∀ i j, i < ops.size → j < ops.size → l0.getD i false = false → l0.getD j false = false → ds i = ds j → i = j) (hds : ∀ i, i < ops.size → l0.getD i false = false → ds i < a0.tmps.size)
    {i : Nat} {o : Oper} (ho : ops[i]? = some o) (hd : ∀ e ∈ o.after, Region.binds .any e = true → l.getD e.on false = true) (h0 : l0.getD i false = false) {v : Value} {w' : World} (hf : facts i v w') (hb : Below w.heap.size w w')
    (hst : ∀ j v, facts j v w → facts j v w') : GA ops l0 a0 ds w0 facts (l.setIfInBounds i true) (a.put (some (ds i)) v) w' := by
  have hi : i < ops.size := (Array.getElem?_eq_some_iff.1 ho).1
  have hil : i < l.size := by rw [h.lsz]; exact hi
  have hlt : ∀ j, l.getD j false = true → j < ops.size := fun j hj => by
    rcases Nat.lt_or_ge j l.size with h1 | h1
    · rw [← h.lsz]; exact h1
    · rw [Array.getD_eq_getD_getElem?, Array.getElem?_eq_none h1] at hj
      cases hj
  refine ⟨by simp [h.lsz], by simp [Act.put, h.tsz], h.dfs, fun j hj => ?_, fun k hk => ?_, h.below.trans (hb.mono h.below.size), fun j hlj hj0 => ?_, fun j oj hoj hlj d hw => ?_⟩
  · rw [getD_set hil]
    split
    · rfl
    · exact h.sub j hj
  · have h1 : ds i ≠ k := hk i hi (by rw [getD_set hil, if_pos rfl]) h0
    rw [← h.far k fun j hj hlj hj0 => hk j hj (by rw [getD_set hil]; split <;> simp_all) hj0]
    simp [Act.put, h1]
  · rw [getD_set hil] at hlj
    by_cases hij : i = j
    · subst hij
      have hdi := hds i hi h0
      have e : (a.put (some (ds i)) v).tmps.getD (ds i) undef = v := by
        show (a.tmps.setIfInBounds (ds i) v).getD (ds i) undef = v
        rw [Array.getD_eq_getD_getElem?, Array.getElem?_setIfInBounds]
        simp [h.tsz, hdi]
      rw [e]
      exact hf
    · rw [if_neg hij] at hlj
      have hne : ds i ≠ ds j := fun e => hij (hinj i j hi (hlt j hlj) h0 hj0 e)
      have e : (a.put (some (ds i)) v).tmps.getD (ds j) undef = a.tmps.getD (ds j) undef := by
        show (a.tmps.setIfInBounds (ds i) v).getD (ds j) undef = _
        rw [Array.getD_eq_getD_getElem?, Array.getD_eq_getD_getElem?, Array.getElem?_setIfInBounds]
        simp [hne]
      rw [e]
      exact hst j _ (h.fact j hlj hj0)
  · rw [getD_set hil] at hlj ⊢
    by_cases hid : i = d
    · rw [if_pos hid]
    · rw [if_neg hid]
      by_cases hij : i = j
      · subst hij
        rw [ho] at hoj
        obtain rfl := Option.some.inj hoj
        exact waits_listed hd d hw
      · rw [if_neg hij] at hlj
        exact h.closed j oj hoj hlj d hw
end

theorem wpAny_growA {P : Program} {ops : Array Oper} {Q : Exit → Act → World → Prop} {fuel : Nat} {l0 : Array Bool} {a0 : Act} {w0 : World} (ds : Nat → Nat) (facts : Nat → Value → World → Prop) (R : Nat → Act → World → Prop) (A : Nat) (hb : edgesB ops = true)
    (hsz : l0.size = ops.size) (hAn : A < ops.size) (hA0 : ∀ i, A ≤ i → l0.getD i false = false) (hlead : leadsA ops l0 A = true) (hcl : closedB ops l0 = true) (htail : tailB ops A = true) (hfuel : l0.toList.count false ≤ fuel)
    (hst : ∀ j v w w', facts j v w → Below w.heap.size w w' → facts j v w') (hinj : ∀ i j, i < ops.size → j < ops.size → l0.getD i false = false → l0.getD j false = false → ds i = ds j → i = j) (hds : ∀ i, i < ops.size → l0.getD i false = false → ds i < a0.tmps.size)
    (hstep : ∀ (l : Array Bool) (a : Act) (w : World) (i : Nat) (o : Oper), GA ops l0 a0 ds w0 facts l a w → (∀ i, A ≤ i → l.getD i false = false) → ops[i]? = some o → i < A → l0.getD i false = false → l.getD i false = false → (∀ d, waits o d = true → l.getD d false = true) →
      ∀ K : Act → World → Prop, (∀ v w', facts i v w' → Below w.heap.size w w' → K (a.put (some (ds i)) v) w') → if Region.wanted o (yielded ops a.tmps) = true then o.wp P a w K Q else K (a.put o.dst undef) w)
    (hA : ∀ (l : Array Bool) (a : Act) (w : World) (o : Oper), GA ops l0 a0 ds w0 facts l a w → (∀ i, A ≤ i → l.getD i false = false) → (∀ i, i < A → l.getD i false = true) → ops[A]? = some o →
      ∀ K : Act → World → Prop, (∀ a' w', R (A + 1) a' w' → K a' w') → if Region.wanted o (yielded ops a.tmps) = true then o.wp P a w K Q else K (a.put o.dst undef) w)
    (hT : ∀ (i : Nat) (a : Act) (w : World) (o : Oper), A < i → ops[i]? = some o → R i a w → ∀ K : Act → World → Prop, (∀ a' w', R (i + 1) a' w' → K a' w') → if Region.wanted o (yielded ops a.tmps) = true then o.wp P a w K Q else K (a.put o.dst undef) w)
    (hQ : ∀ a w, R ops.size a w → Q .normal a w) :
    wpAny P .any ops Q fuel l0 a0 w0 := by
  refine wpAny_inv (fun l a w => l.size = ops.size ∧ (((∀ i, A ≤ i → l.getD i false = false) ∧ GA ops l0 a0 ds w0 facts l a w) ∨ (∃ k, A < k ∧ k ≤ ops.size ∧ (∀ i, i < k → l.getD i false = true) ∧ (∀ i, k ≤ i → l.getD i false = false) ∧ R k a w))) (fun l a w h => h.1) (edges_of hb) ?_ ?_ fuel l0 a0 w0 ?_ hfuel
  · rintro l a w i o ⟨hs, hI⟩ ho hl hd K hK
    have hi : i < ops.size := (Array.getElem?_eq_some_iff.1 ho).1
    have hl' : l.getD i false = false := by
      rw [Array.getD_eq_getD_getElem?, Array.getElem?_eq_getElem (by omega)] at hl ⊢
      exact hl
    have hil : i < l.size := by omega
    have hset : ∀ k, (l.setIfInBounds i true).getD k false = (if i = k then true else l.getD k false) := fun k => getD_set hil
    rcases hI with ⟨h1, hG⟩ | ⟨k, hk1, hk2, hk3, hk4, hR⟩
    · rcases Nat.lt_trichotomy i A with hlt | rfl | hgt
      · have h0 : l0.getD i false = false := by
          cases e : l0.getD i false with
          | false => rfl
          | true => rw [hG.sub i e] at hl'; cases hl'
        refine hstep l a w i o hG h1 ho hlt h0 hl' (waits_listed hd) K fun v w' hf hbw => hK _ _ ⟨by simp [hs], .inl ⟨fun j hj => ?_, hG.next hinj hds ho hd h0 hf hbw fun j v hj => hst j v w w' hj hbw⟩⟩
        rw [hset, if_neg (by omega)]
        exact h1 j hj
      · have hall := hG.all hlead ho (waits_listed hd)
        refine hA l a w o hG h1 hall ho K fun a' w' hr => hK _ _ ⟨by simp [hs], .inr ⟨i + 1, by omega, by omega, fun j hj => ?_, fun j hj => ?_, hr⟩⟩
        · rw [hset]
          split
          · rfl
          · exact hall j (by omega)
        · rw [hset, if_neg (by omega)]
          exact h1 j (by omega)
      · have h2 := waits_listed hd _ (tail_of htail i o ho hgt)
        rw [h1 (i - 1) (by omega)] at h2
        cases h2
    · have hik : i = k := by
        rcases Nat.lt_trichotomy i k with h | h | h
        · rw [hk3 i h] at hl'
          cases hl'
        · exact h
        · have h2 := waits_listed hd _ (tail_of htail i o ho (by omega))
          rw [hk4 (i - 1) (by omega)] at h2
          cases h2
      subst hik
      refine hT i a w o hk1 ho hR K fun a' w' hr => hK _ _ ⟨by simp [hs], .inr ⟨i + 1, by omega, by omega, fun j hj => ?_, fun j hj => ?_, hr⟩⟩
      · rw [hset]
        split
        · rfl
        · exact hk3 j (by omega)
      · rw [hset, if_neg (by omega)]
        exact hk4 j (by omega)
  · rintro l a w ⟨hs, hI⟩ hall
    rcases hI with ⟨h1, _⟩ | ⟨k, hk1, hk2, hk3, hk4, hR⟩
    · have := hall A hAn
      rw [h1 A (Nat.le_refl _)] at this
      cases this
    · have : k = ops.size := by
        rcases Nat.lt_or_ge k ops.size with h | h
        · have := hall k h
          rw [hk4 k (Nat.le_refl _)] at this
          cases this
        · omega
      subst this
      exact hQ a w hR
  · exact ⟨hsz, .inl ⟨hA0, hsz, rfl, rfl, fun _ h => h, fun _ _ => rfl, Below.refl _ _, fun i h h0 => (by rw [h0] at h; cases h), fun i o ho hl d hw => closed_of hcl i o ho hl d hw⟩⟩
theorem OpIs.useA {ops : Array Oper} {i : Nat} {op : Op} {dst : Option Tmp} {deps : List Nat} (h : OpIs ops i op dst deps) {o : Oper} (ho : ops[i]? = some o) :
    o.op = op ∧ o.dst = dst ∧ o.guard = none ∧ ∀ d ∈ deps, waits o d = true := by
  obtain ⟨o', ho', h1, h2, h3, h4⟩ := h
  rw [ho] at ho'
  obtain rfl := Option.some.inj ho'
  exact ⟨h1, h2, h3, fun d hd => List.all_eq_true.1 h4 d hd⟩
section
variable {P : Program} {o : Oper} {a : Act} {K : Act → World → Prop} {Q : Exit → Act → World → Prop} {w w' : World}
theorem ga_call {f : Nat} {args : Array Operand} {us : Array Value} {tys : Array TypeId} {R : Ending → World → Prop} (hen : ∀ args w, (callFunc f args).run P w = .ok (.enter f args) w) (ho : o.op = .call { callee := .value (.func f), args := args, argTypes := tys }) (hargs : args.map a.eval = us) (hc : Calls P f us w R) (hR : ∀ e w', R e w' → ∃ v, e = .returned v ∧ K (a.put o.dst v) w') : o.wp P a w K Q := by
  have hx : (execOp a.eval o).run P w = .ok (.enter f us) w := by
    unfold execOp
    rw [ho]
    subst hargs
    have h0 := hen (args.map a.eval)
    simp only [resolve, invoke, Sem.run_bind]
    simp [Deferred.ofValue, Act.eval, h0]
  unfold Oper.wp
  rw [hx, Oper.upon_enter]
  refine hc.mono ?_
  intro e w' h
  obtain ⟨v, rfl, hk⟩ := hR e w' h
  exact hk
theorem ga_make {t : TypeId} {x y : Operand} {u u2 v : Value} (ho : o.op = .makeSlice t x y) (hx : a.eval x = u) (hy : a.eval y = u2) (hr : (Instr.makeSlice t u u2).run P w = .ok v w') (h : K (a.put o.dst v) w') : o.wp P a w K Q := by
  unfold Oper.wp execOp
  simp only [ho, hx, hy, Sem.run_bind, Sem.run_pure, hr, Result.andThen_ok]
  exact h
theorem ga_build {t : TypeId} {parts : Array (Nat × Operand)} {us : Array (Nat × Value)} {v : Value} (ho : o.op = .build t parts) (hp : parts.map (fun p => (p.1, a.eval p.2)) = us) (hr : (Instr.build t us).run P w = .ok v w') (h : K (a.put o.dst v) w') : o.wp P a w K Q := by
  unfold Oper.wp execOp
  simp only [ho, Sem.run_bind, Sem.run_pure]
  have e : (parts.map fun x => match x with | (i, x) => (i, a.eval x)) = us := hp
  simp only [e, hr, Result.andThen_ok]
  exact h
theorem ga_store {t : TypeId} {x y : Operand} {u u2 : Value} (ho : o.op = .store t x y) (hx : a.eval x = u) (hy : a.eval y = u2) (hr : (Instr.storeAt t u u2).run P w = .ok () w') (h : K (a.put o.dst undef) w') : o.wp P a w K Q := by
  unfold Oper.wp execOp
  simp only [ho, hx, hy, Sem.run_bind, Sem.run_pure, hr, Result.andThen_ok]
  rw [Oper.upon_skip]
  exact h
theorem ga_app {s y : Operand} {st : TypeId} {v u v' : Value} (ho : o.op = .call { callee := .builtin .append, args := #[s, y], argTypes := #[st, st] }) (hs : a.eval s = v) (hy : a.eval y = u) (hr : (Builtin.append_ #[st, st] o.type #[v, u]).run P w = .ok v' w') (h : K (a.put o.dst v') w') : o.wp P a w K Q := by
  unfold Oper.wp execOp
  simp only [ho, resolve, invoke, builtin, Sem.run_bind, Sem.run_pure, Result.andThen_ok, List.map_toArray, List.map_cons, List.map_nil, hs, hy, hr]
  exact h
end
/-- append(v, x), x one struct that lies as a row of one in block b. -/
theorem RowC.appAt {P : Program} {lo k b : Nat} {w : World} {t : TypeId} {v : Value} {css : List (List Value)} (h : RowC lo w t k v css) (st ty : TypeId) (hu : P.underlying st = some (.slice t)) (z : Value) (sz : Nat) (hi : (P.info? t).map (fun i => (i.zero, i.size, i.bytes)) = some (some z, k, sz)) (hzc : z.cells.size = k) (hc0 : 0 < k)
    (cs : List Value) (hb : Blk w b t cs) (hcs : cs.length = k) (h1 : ∀ u ∈ cs, u.oneCell' = true) (hlo : lo ≤ w.heap.size) (hbig : (css.length + 1) * sz ≤ 140737488355328) (hl : css.length ≤ 2000000) :
    ∃ v' w', (Builtin.append_ #[st, st] ty #[v, .slice (some ⟨b, 0, none⟩) 1 1]).run P w = .ok v' w' ∧ RowC lo w' t k v' (css ++ [cs]) ∧ Kept (ownB v) w w' ∧ Grows w (ownB v) (ownB v') := by
  obtain ⟨i0, hi, hz0, hz1, hz2⟩ := info_parts hi
  have hcl : cs.length = 1 * k := by rw [hcs, Nat.one_mul]
  have hnews : ∀ j u, cs[j]? = some u → w.cell? ((⟨b, 0, none⟩ : Addr).add j) = some u := by
    intro j u hj
    rw [add_plain, Nat.zero_add, hb.cell, ← hj]
  obtain ⟨v', w', hr, ho, hgr, _, hloc⟩ := run_append_own_at (P := P) w lo st ty t i0 z k sz hu hi hz0 hz1 hz2 hzc hc0 v css.length css.flatten h.2 ⟨b, 0, none⟩ 1 1 cs hcl hnews h1 (by unfold maxLen; omega) hbig hlo
  refine ⟨v', w', hr, ⟨fun c hc => ?_, ?_⟩, (Kept.refl _ _).grown hgr (fun g hg => .inl (mem_ownB.2 hg)), fun g hg => ?_⟩
  · rcases List.mem_append.1 hc with hc | hc
    · exact h.1 c hc
    · rw [List.mem_singleton.1 hc]
      exact hcs
  · rw [List.flatten_append, List.length_append]
    simpa using ho
  · rcases hloc with e | e
    · exact .inl (mem_ownB.2 (by rw [← e]; exact mem_ownB.1 hg))
    · have := mem_ownB.1 hg
      rw [e] at this
      simp at this
      exact .inr (by omega)

theorem node_info11 : (Tryz.prog.info? 59).map (fun i => (i.zero, i.size, i.bytes)) = some (some (.agg #[.int .u32 0, .slice none 0 0, .slice none 0 0, .int .u64 0, .int .u64 0, .slice none 0 0]), 6, 96) := by kernel_rfl
theorem item_sz11 : (Tryz.prog.info? 31).map (·.size) = some 3 := by kernel_rfl
def newL (y : ItL) (v n gl : Nat) : NodeL := ⟨y, v, 0, .slice (some ⟨gl, 0, none⟩) n n, List.replicate n (.slice none 0 0), List.replicate n []⟩
def AddPost11 (lo g : Nat) (F : List Nat) (gv : GraphV) (x : NodeV) (w : World) (e : Ending) (w' : World) : Prop :=
  e = .returned (.int .i64 (gv.L.length : Int)) ∧ ∃ F', GraphIs w' lo g F' (gv.add x) ∧ Kept F w w' ∧ Grows w F F'

/-- A copy of an item, in memory of its own. -/
def CopyI (w0 : World) (x : ItL) (w : World) (y : ItL) : Prop := y.OwnI w0.heap.size w ∧ y.id = x.id ∧ y.vec = x.vec ∧ y.tags = x.tags
def NilsAt (w0 : World) (n gl : Nat) (w : World) : Prop := w.ownsRow w0.heap.size 62 1 (.slice (some ⟨gl, 0, none⟩) n n) n (List.replicate n (.slice none 0 0))
theorem CopyI.on {w0 w w' : World} {x y : ItL} (h : CopyI w0 x w y) (hb : Below w.heap.size w w') : CopyI w0 x w' y := ⟨h.1.on hb, h.2⟩
theorem NilsAt.on {w0 w w' : World} {n gl : Nat} (h : NilsAt w0 n gl w) (hb : Below w.heap.size w w') : NilsAt w0 n gl w' := row_on h hb
def nodeC (y : ItL) (v n gl : Nat) : List Value := (newL y v n gl).cells
def factsA (w0 : World) (x : ItL) (a : Option Addr) (N c v n : Nat) (j : Nat) (u : Value) (w : World) : Prop :=
  match j with
  | 4 => u = .slice a N c
  | 5 => u = .agg x.cells.toArray
  | 6 => ∃ y : ItL, u = .agg y.cells.toArray ∧ CopyI w0 x w y
  | 10 => ∃ gl, u = .slice (some ⟨gl, 0, none⟩) n n ∧ NilsAt w0 n gl w
  | 11 => ∃ (y : ItL) (gl : Nat), u = .agg (nodeC y v n gl).toArray ∧ CopyI w0 x w y ∧ NilsAt w0 n gl w
  | 12 => ∃ (y : ItL) (gl gb : Nat), u = .slice (some ⟨gb, 0, none⟩) 1 1 ∧ w0.heap.size ≤ gb ∧ Blk w gb 59 (nodeC y v n gl) ∧ CopyI w0 x w y ∧ NilsAt w0 n gl w
  | _ => True
theorem factsA_on (w0 : World) (x : ItL) (a : Option Addr) (N c v n : Nat) (j : Nat) (u : Value) (w w' : World) (h : factsA w0 x a N c v n j u w) (hb : Below w.heap.size w w') : factsA w0 x a N c v n j u w' := by
  unfold factsA at h ⊢
  split at h
  · exact h
  · exact h
  · obtain ⟨y, h1, h2⟩ := h
    exact ⟨y, h1, h2.on hb⟩
  · obtain ⟨gl, h1, h2⟩ := h
    exact ⟨gl, h1, h2.on hb⟩
  · obtain ⟨y, gl, h1, h2, h3⟩ := h
    exact ⟨y, gl, h1, h2.on hb, h3.on hb⟩
  · obtain ⟨y, gl, gb, h1, h2, h3, h4, h5⟩ := h
    exact ⟨y, gl, gb, h1, h2, h3.of_eq (hb.block gb h3.lt), h4.on hb, h5.on hb⟩
  · exact h
theorem run_nodeB (y : ItL) (v n gl : Nat) (w : World) : (Instr.build 59 #[(0, .agg #[.int .u32 (y.id : Int), .slice y.pv.1 y.pv.2.1 y.pv.2.2, .slice y.pt.1 y.pt.2.1 y.pt.2.2]), (1, .int .u64 (v : Int)), (3, .slice (some ⟨gl, 0, none⟩) n n)]).run Tryz.prog w = .ok (.agg #[.int .u32 (y.id : Int), .slice y.pv.1 y.pv.2.1 y.pv.2.2, .slice y.pt.1 y.pt.2.1 y.pt.2.2, .int .u64 (v : Int), .int .u64 0, .slice (some ⟨gl, 0, none⟩) n n]) w := by go_simp
theorem run_nodeS (c0 c1 c2 c3 c4 c5 : Value) (w : World) : (Instr.buildSlice 41 1 #[(0, .agg #[c0, c1, c2, c3, c4, c5])]).run Tryz.prog w = .ok (.slice (some ⟨w.heap.size, 0, none⟩) 1 1) (w.alloc (.cells #[c0, c1, c2, c3, c4, c5] 59)) := by go_simp
theorem nils_info : (Tryz.prog.info? 62).map (fun i => (i.zero, i.size, i.bytes)) = some (some (.slice none 0 0), 1, 24) := by kernel_rfl
theorem run_nils (w0 w : World) (n : Nat) (hn : n ≤ 10) (hw : w0.heap.size ≤ w.heap.size) : ∃ w', (Instr.makeSlice 57 (.int .i64 (n : Int)) (.int .i64 (n : Int))).run Tryz.prog w = .ok (.slice (some ⟨w.heap.size, 0, none⟩) n n) w' ∧ NilsAt w0 n w.heap.size w' ∧ Below w.heap.size w w' := by
  obtain ⟨i0, hi, hz0, hz1, hz2⟩ := info_parts nils_info
  obtain ⟨w', h1, h2, h3⟩ := run_makeSlice_full (P := Tryz.prog) (w := w) w0.heap.size 57 62 i0 (.slice none 0 0) 1 Tryz.underlying57 hi hz0 hz1 .i64 .i64 n (by omega) (by rw [hz2]; omega) (by unfold maxLen; omega) hw
  refine ⟨w', h1, ?_, (Below.refl _ w).grown h3 (Nat.le_refl _) fun k e => by cases e⟩
  unfold NilsAt
  have e : (madeCells (Value.slice none 0 0).cells (n * 1)).toList = List.replicate n (.slice none 0 0) := by
    rw [Nat.mul_one]
    apply List.eq_replicate_iff.2
    refine ⟨by simp [madeCells], fun b hb => ?_⟩
    simp [madeCells, Value.cells] at hb
    obtain ⟨_, _, rfl⟩ := hb
    rw [Nat.mod_one]
    rfl
  rw [← e]
  exact h2
def dsA (i : Nat) : Nat := 13 + i
def dsA7 (i : Nat) : Nat := #[17, 18, 19, 23, 24, 25, 26, 27, 28].getD i 0
/-- What the region leaves. -/
def AddLeft (w0 : World) (lo : Nat) (x : ItL) (V : Value) (css : List (List Value)) (v n : Nat) (v' : Value) (w : World) : Prop :=
  ∃ (y : ItL) (gl : Nat), RowC lo w 59 6 v' (css ++ [nodeC y v n gl]) ∧ CopyI w0 x w y ∧ NilsAt w0 n gl w ∧ Kept (ownB V) w0 w ∧ Grows w0 (ownB V) (ownB v')
theorem run_storeN (w : World) (g : Nat) (m0 u0 : Value) (t : TypeId) (hb : Blk w g t [m0, u0]) (a : Option Addr) (n c : Nat) : (Instr.storeAt 41 (.pointer (some ⟨g, 1, none⟩)) (.slice a n c)).run Tryz.prog w = .ok () (w.setCell ⟨g, 1, none⟩ (.slice a n c)) := by
  have h1 : w.cell? ⟨g, 1, none⟩ = some u0 := hb.cell 1
  have h2 := hb.frozen 1
  go_simp
theorem load_sl (w : World) (g : Nat) (a : Option Addr) (n c : Nat) (h : w.cell? ⟨g, 1, none⟩ = some (.slice a n c)) : (Instr.loadAt 41 (.pointer (some ⟨g, 1, none⟩))).run Tryz.prog w = .ok (.slice a n c) w := by go_simp
theorem load_it (w : World) (B : Nat) (x : ItL) (h : Blk w B 31 x.cells) : (Instr.loadAt 31 (.pointer (some ⟨B, 0, none⟩))).run Tryz.prog w = .ok (.agg x.cells.toArray) w := by
  have hl := run_loadVar_mid (P := Tryz.prog) w B 0 31 x.cells _ (fun j u hj => by rw [Nat.zero_add, h.cell, ← hj]) Tryz.underlying31 rfl item_info8
  simp only [Instr.loadAt, Instr.sureAddr, Sem.run_bind, Sem.run_pure, Result.andThen_ok, hl]

theorem fieldG (g : Nat) (w : World) : (Instr.fieldAt 155 (.pointer (some ⟨g, 0, none⟩)) 1).run Tryz.prog w = .ok (.pointer (some ⟨g, 1, none⟩)) w := by go_simp
theorem ga_nil {P : Program} {o : Oper} {a : Act} {K : Act → World → Prop} {Q : Exit → Act → World → Prop} {w : World} {x : Operand} {ad : Addr} (ho : o.op = .nilCheck x) (hx : a.eval x = .pointer (some ad)) (h : K (a.put o.dst (.pointer (some ad))) w) : o.wp P a w K Q := by
  unfold Oper.wp execOp
  simp only [ho, hx, Sem.run_pure]
  exact h
set_option maxRecDepth 100000 in
set_option maxHeartbeats 3200000 in
theorem add_region {ops : Array Oper} {Q : Exit → Act → World → Prop} {fuel : Nat} {a0 : Act} {w0 : World} {l0 : Array Bool} (lo g B N c v n : Nat) (a : Option Addr) (x : ItL) (m0 : Value) (T : TypeId) (css : List (List Value))
    (op4 : OpIs ops 4 (.load 41 (.tmp 16)) (some 17) [])
    (op5 : OpIs ops 5 (.load 31 (.tmp 5)) (some 18) [])
    (op6 : OpIs ops 6 (.call { callee := .value (.func 127), args := #[.tmp 18], argTypes := #[31] }) (some 19) [5])
    (op10 : OpIs ops 10 (.makeSlice 57 (.tmp 22) (.tmp 22)) (some 23) [])
    (op11 : OpIs ops 11 (.build 59 #[(0, .tmp 19), (1, .tmp 20), (3, .tmp 23)]) (some 24) [6, 10])
    (op12 : OpIs ops 12 (.buildSlice 41 1 #[(0, .tmp 24)]) (some 25) [11])
    (op13 : OpIs ops 13 (.call { callee := .builtin .append, args := #[.tmp 17, .tmp 25], argTypes := #[41, 41] }) (some 26) [4, 12])
    (op14 : OpIs ops 14 (.nilCheck (.tmp 13)) (some 27) [])
    (op15 : OpIs ops 15 (.fieldAddr 155 (.tmp 27) 1) (some 28) [])
    (op16 : OpIs ops 16 (.store 41 (.tmp 28) (.tmp 26)) none [13])
    (hsize : ops.size = 17) (hb : edgesB ops = true) (hl0 : l0 = #[true, true, true, true, false, false, false, true, true, true, false, false, false, false, false, false, false]) (hlead : leadsA ops l0 13 = true) (hcl : closedB ops l0 = true) (htail : tailB ops 13 = true) (hfuel : 10 ≤ fuel)
    (hT : a0.tmps.size = 35) (hD : a0.defers = []) (t5 : a0.tmps[5]? = some (.pointer (some ⟨B, 0, none⟩))) (t16 : a0.tmps[16]? = some (.pointer (some ⟨g, 1, none⟩))) (t20 : a0.tmps[20]? = some (.int .u64 (v : Int))) (t22 : a0.tmps[22]? = some (.int .i64 (n : Int))) (t13 : a0.tmps[13]? = some (.pointer (some ⟨g, 0, none⟩)))
    (hB : Blk w0 B 31 x.cells) (hg : Blk w0 g T [m0, .slice a N c]) (hTN : T ≠ 59) (hx : x.In (fun _ => True) w0) (hrow : RowC lo w0 59 6 (.slice a N c) css) (hN : css.length ≤ 100000) (hn : n ≤ 10) (hlo : lo ≤ w0.heap.size)
    (hQ : ∀ E w' a' n' c', E 6 = .slice a' n' c' → AddLeft w0 lo x (.slice a N c) css v n (.slice a' n' c') w' → Blk w' g T [m0, .slice a N c] → Q .normal ⟨filledR a0.tmps dsA7 E 9, []⟩ (w'.setCell ⟨g, 1, none⟩ (.slice a' n' c'))) :
    wpAny Tryz.prog .any ops Q fuel l0 a0 w0 := by
  have hz : ∀ i, l0.getD i false = false → i < 17 → i = 4 ∨ i = 5 ∨ i = 6 ∨ i = 10 ∨ i = 11 ∨ i = 12 ∨ i = 13 ∨ i = 14 ∨ i = 15 ∨ i = 16 := by
    subst hl0
    intro i h hi
    exact (by decide : ∀ i : Fin 17, (#[true, true, true, true, false, false, false, true, true, true, false, false, false, false, false, false, false] : Array Bool).getD i.1 false = false → i.1 = 4 ∨ i.1 = 5 ∨ i.1 = 6 ∨ i.1 = 10 ∨ i.1 = 11 ∨ i.1 = 12 ∨ i.1 = 13 ∨ i.1 = 14 ∨ i.1 = 15 ∨ i.1 = 16) ⟨i, hi⟩ h
  have hinj : ∀ p q, p < ops.size → q < ops.size → l0.getD p false = false → l0.getD q false = false → dsA p = dsA q → p = q := fun p q _ _ _ _ h => by
    unfold dsA at h
    omega
  have hds : ∀ p, p < ops.size → l0.getD p false = false → dsA p < a0.tmps.size := fun p hp _ => by
    unfold dsA
    omega
  have h4 : l0.getD 4 false = false := by subst hl0; rfl
  have h5 : l0.getD 5 false = false := by subst hl0; rfl
  have h6 : l0.getD 6 false = false := by subst hl0; rfl
  have h10 : l0.getD 10 false = false := by subst hl0; rfl
  have h11 : l0.getD 11 false = false := by subst hl0; rfl
  have h12 : l0.getD 12 false = false := by subst hl0; rfl
  refine wpAny_growA dsA (factsA w0 x a N c v n) (fun q a1 w => a1.tmps.size = 35 ∧ a1.defers = [] ∧ (∀ k, (∀ j, j < 9 → dsA7 j ≠ k) → a1.tmps[k]? = a0.tmps[k]?) ∧ (∃ a' n' c' wf, a1.tmps.getD 26 undef = .slice a' n' c' ∧ AddLeft w0 lo x (.slice a N c) css v n (.slice a' n' c') wf ∧ Blk wf g T [m0, .slice a N c] ∧ (15 ≤ q → a1.tmps.getD 27 undef = .pointer (some ⟨g, 0, none⟩)) ∧ (16 ≤ q → a1.tmps.getD 28 undef = .pointer (some ⟨g, 1, none⟩)) ∧ w = if q = 17 then wf.setCell ⟨g, 1, none⟩ (.slice a' n' c') else wf)) 13 hb (by subst hl0; rw [hsize]; rfl) (by omega) (fun i hi => by
    subst hl0
    rcases Nat.lt_or_ge i 17 with h | h
    · exact (by decide : ∀ i : Fin 17, 13 ≤ i.1 → (#[true, true, true, true, false, false, false, true, true, true, false, false, false, false, false, false, false] : Array Bool).getD i.1 false = false) ⟨i, h⟩ hi
    · rw [Array.getD_eq_getD_getElem?, Array.getElem?_eq_none (by simpa using h)]
      rfl) hlead hcl htail (by subst hl0; exact hfuel) (factsA_on w0 x a N c v n) hinj hds ?_ ?_ ?_ ?_
  · intro l a1 w j o hI hlA ho hjA hj0 hlj hd K hK
    have hj : j < 17 := by rw [← hsize]; exact (Array.getElem?_eq_some_iff.1 ho).1
    have far : ∀ k, k = 5 ∨ k = 16 ∨ k = 20 ∨ k = 22 → ∀ p, p < ops.size → l.getD p false = true → l0.getD p false = false → dsA p ≠ k := fun k hk p hp _ hp0 => by
      have := hz p hp0 (by omega)
      unfold dsA
      omega
    have e5 : a1.eval (.tmp 5) = .pointer (some ⟨B, 0, none⟩) := hI.ev 5 _ t5 (far 5 (by simp))
    have e16 : a1.eval (.tmp 16) = .pointer (some ⟨g, 1, none⟩) := hI.ev 16 _ t16 (far 16 (by simp))
    have e20 : a1.eval (.tmp 20) = .int .u64 (v : Int) := hI.ev 20 _ t20 (far 20 (by simp))
    have e22 : a1.eval (.tmp 22) = .int .i64 (n : Int) := hI.ev 22 _ t22 (far 22 (by simp))
    have hw0 := hI.below.size
    have hk0 := Kept.of_below (F := []) hI.below (Nat.le_refl _)
    rcases hz j hj0 hj with rfl | rfl | rfl | rfl | rfl | rfl | rfl | rfl | rfl | rfl
    · obtain ⟨hop, hdst, hgd, hL⟩ := op4.useA ho
      refine g_if hgd (g_load hop e16 (load_sl w g a N c ((hk0.blk hg (by simp)).cell 1)) ?_)
      rw [hdst]
      exact hK _ _ rfl (Below.refl _ _)
    · obtain ⟨hop, hdst, hgd, hL⟩ := op5.useA ho
      refine g_if hgd (g_load hop e5 (load_it w B x (hk0.blk hB (by simp))) ?_)
      rw [hdst]
      exact hK _ _ rfl (Below.refl _ _)
    · obtain ⟨hop, hdst, hgd, hL⟩ := op6.useA ho
      have e18 : a1.eval (.tmp 18) = .agg x.cells.toArray := hI.slot 5 (hd 5 (hL 5 (by simp))) h5
      refine g_if hgd (ga_call (enters_of Tryz.func127 (by kernel_rfl) rfl) hop (us := #[.agg x.cells.toArray]) (by simp [e18]) (cloneI_any w x (ItL.In.stay hx hw0 (fun k _ hk => hI.below.block k hk) (fun _ h _ => h))) ?_)
      rintro e w' ⟨y, rfl, hb', hy, hyi, hyv, hyt⟩
      refine ⟨_, rfl, ?_⟩
      rw [hdst]
      refine hK _ _ (show ∃ y : ItL, _ = _ ∧ CopyI w0 x w' y from ⟨y, rfl, ⟨hy.hid, own_on hy.vec hw0 (Below.refl _ _), own_on hy.tags hw0 (Below.refl _ _), hy.wv, hy.wt, hy.lv, hy.lt⟩, ?_, hyv, hyt⟩) hb'
      have := congrArg ItemV.id hyi
      exact this
    · obtain ⟨hop, hdst, hgd, hL⟩ := op10.useA ho
      obtain ⟨w', hr, hn', hb'⟩ := run_nils w0 w n hn hw0
      refine g_if hgd (ga_make hop e22 e22 hr ?_)
      rw [hdst]
      exact hK _ _ (show ∃ gl, _ = _ ∧ NilsAt w0 n gl w' from ⟨_, rfl, hn'⟩) hb'
    · obtain ⟨hop, hdst, hgd, hL⟩ := op11.useA ho
      obtain ⟨y, f6, hy⟩ := hI.slot 6 (hd 6 (hL 6 (by simp))) h6
      obtain ⟨gl, f10, hgl⟩ := hI.slot 10 (hd 10 (hL 10 (by simp))) h10
      refine g_if hgd (ga_build hop (us := #[(0, .agg y.cells.toArray), (1, .int .u64 (v : Int)), (3, .slice (some ⟨gl, 0, none⟩) n n)]) ?_ (run_nodeB y v n gl w) ?_)
      · have f6' : a1.eval (.tmp 19) = _ := f6
        have f10' : a1.eval (.tmp 23) = _ := f10
        simp [f6', f10', e20]
      · rw [hdst]
        exact hK _ _ (show ∃ (y : ItL) (gl : Nat), _ = _ ∧ _ from ⟨y, gl, rfl, hy, hgl⟩) (Below.refl _ _)
    · obtain ⟨hop, hdst, hgd, hL⟩ := op12.useA ho
      obtain ⟨y, gl, f11, hy, hgl⟩ := hI.slot 11 (hd 11 (hL 11 (by simp))) h11
      have hbb := (Below.refl _ w).alloc (Nat.le_refl _) (.cells (nodeC y v n gl).toArray 59)
      refine g_if hgd (g_bs1 hop f11 (run_nodeS _ _ _ _ _ _ w) ?_)
      rw [hdst]
      exact hK _ _ (show ∃ (y : ItL) (gl gb : Nat), _ = _ ∧ _ from ⟨y, gl, w.heap.size, rfl, hw0, Blk.new w _ _, hy.on hbb, hgl.on hbb⟩) hbb
    · omega
    · omega
    · omega
    · omega
  · intro l a1 w o hI hlA hall ho K hK
    obtain ⟨hop, hdst, hgd, hL⟩ := op13.useA ho
    have e17 : a1.eval (.tmp 17) = .slice a N c := hI.slot 4 (hall 4 (by omega)) h4
    obtain ⟨y, gl, gb, e25, hgb, hblk, hy, hgl⟩ := hI.slot 12 (hall 12 (by omega)) h12
    have hw0 := hI.below.size
    have hrw := hrow.kept (Kept.of_below (F := []) hI.below (Nat.le_refl _)) (by simp)
    obtain ⟨v', w', hr, h1, h2, h3⟩ := hrw.appAt (P := Tryz.prog) 41 o.type Tryz.underlying41 (.agg #[.int .u32 0, .slice none 0 0, .slice none 0 0, .int .u64 0, .int .u64 0, .slice none 0 0]) 96 node_info11 rfl (by decide) (nodeC y v n gl) hblk rfl (by simp [nodeC, newL, NodeL.cells, Value.oneCell']) (Nat.le_trans hlo hw0) (by omega) (by omega)
    refine g_if hgd (ga_app hop e17 e25 hr ?_)
    rw [hdst]
    obtain ⟨a', c', rfl, -⟩ := h1.form
    have hown : ∀ b, (Value.slice a N c).ownBlock = some b → b < w0.heap.size := fun b hb => (RowC.lt hrow b hb).2
    have hkk : Kept (ownB (.slice a N c)) w0 w' := (Kept.of_below (F := ownB (.slice a N c)) hI.below (Nat.le_refl _)).trans h2 (Grows.refl _ _)
    refine hK _ _ ⟨by simp [Act.put, hI.tsz, hT], by simp [Act.put, hI.dfs, hD], fun k hk => ?_, _, _, _, w', ?_, ⟨y, gl, h1, ⟨⟨hy.1.hid, h2.own hy.1.vec ?_, h2.own hy.1.tags ?_, hy.1.wv, hy.1.wt, hy.1.lv, hy.1.lt⟩, hy.2⟩, h2.own hgl ?_, hkk, fun b hb => ?_⟩, hkk.blk hg fun hh => ?_, fun h => by omega, fun h => by omega, rfl⟩
    · have h26 : 26 ≠ k := hk 6 (by decide)
      have e : ((a1.put (some 26) (.slice a' (css ++ [nodeC y v n gl]).length c')).tmps)[k]? = a1.tmps[k]? := by simp [Act.put, h26]
      rw [e]
      refine hI.far k fun p hp hlp hp0 => ?_
      rcases hz p hp0 (by omega) with rfl | rfl | rfl | rfl | rfl | rfl | rfl | rfl | rfl | rfl
      · exact hk 0 (by decide)
      · exact hk 1 (by decide)
      · exact hk 2 (by decide)
      · exact hk 3 (by decide)
      · exact hk 4 (by decide)
      · exact hk 5 (by decide)
      · exact h26
      · exact hk 7 (by decide)
      · exact hk 8 (by decide)
      · rw [hlA 16 (by decide)] at hlp
        cases hlp
    · show (a1.tmps.setIfInBounds 26 _).getD 26 undef = _
      rw [Array.getD_eq_getD_getElem?, Array.getElem?_setIfInBounds]
      simp [hI.tsz, hT]
    · intro b hb hh
      have := (World.ownsRow.lt hy.1.vec b hb).1
      have := hown b (mem_ownB.1 hh)
      omega
    · intro b hb hh
      have := (World.ownsRow.lt hy.1.tags b hb).1
      have := hown b (mem_ownB.1 hh)
      omega
    · intro b hb hh
      have := (World.ownsRow.lt hgl b hb).1
      have := hown b (mem_ownB.1 hh)
      omega
    · rcases h3 b hb with h4 | h4
      · exact .inl h4
      · exact .inr (Nat.le_trans hw0 h4)
    · have := row_not_blk hrow.2 hg (fun e => hTN e.symm)
      exact this (mem_ownB.1 hh)
  · rintro i a1 w o hiA ho ⟨hsz, hdf, hfar, a', n', c', wf, e26, hleft, hblk, e27, e28, hw⟩ K hK
    have hi : i < 17 := by rw [← hsize]; exact (Array.getElem?_eq_some_iff.1 ho).1
    obtain rfl | rfl | rfl : i = 14 ∨ i = 15 ∨ i = 16 := by omega
    · rw [if_neg (by decide)] at hw
      subst hw
      obtain ⟨hop, hdst, hgd, hL⟩ := op14.useA ho
      have e13 : a1.eval (.tmp 13) = .pointer (some ⟨g, 0, none⟩) := by
        show a1.tmps.getD 13 undef = _
        rw [Array.getD_eq_getD_getElem?, hfar 13 (by decide), t13]
        rfl
      refine g_if hgd (ga_nil hop e13 ?_)
      rw [hdst]
      refine hK _ _ ⟨by simp [Act.put, hsz], by simp [Act.put, hdf], fun k hk => ?_, a', n', c', w, ?_, hleft, hblk, fun _ => ?_, fun h => by omega, rfl⟩
      · have h27 : 27 ≠ k := hk 7 (by decide)
        rw [← hfar k hk]
        simp [Act.put, h27]
      · rw [← e26]
        show (a1.tmps.setIfInBounds 27 _).getD 26 undef = _
        rw [Array.getD_eq_getD_getElem?, Array.getD_eq_getD_getElem?, Array.getElem?_setIfInBounds]
        simp
      · show (a1.tmps.setIfInBounds 27 _).getD 27 undef = _
        rw [Array.getD_eq_getD_getElem?, Array.getElem?_setIfInBounds]
        simp [hsz]
    · rw [if_neg (by decide)] at hw
      subst hw
      obtain ⟨hop, hdst, hgd, hL⟩ := op15.useA ho
      refine g_if hgd (g_field hop (e27 (by decide)) (fieldG g w) ?_)
      rw [hdst]
      refine hK _ _ ⟨by simp [Act.put, hsz], by simp [Act.put, hdf], fun k hk => ?_, a', n', c', w, ?_, hleft, hblk, fun _ => ?_, fun _ => ?_, rfl⟩
      · have h28 : 28 ≠ k := hk 8 (by decide)
        rw [← hfar k hk]
        simp [Act.put, h28]
      · rw [← e26]
        show (a1.tmps.setIfInBounds 28 _).getD 26 undef = _
        rw [Array.getD_eq_getD_getElem?, Array.getD_eq_getD_getElem?, Array.getElem?_setIfInBounds]
        simp
      · rw [← e27 (by decide)]
        show (a1.tmps.setIfInBounds 28 _).getD 27 undef = _
        rw [Array.getD_eq_getD_getElem?, Array.getD_eq_getD_getElem?, Array.getElem?_setIfInBounds]
        simp
      · show (a1.tmps.setIfInBounds 28 _).getD 28 undef = _
        rw [Array.getD_eq_getD_getElem?, Array.getElem?_setIfInBounds]
        simp [hsz]
    · rw [if_neg (by decide)] at hw
      subst hw
      obtain ⟨hop, hdst, hgd, hL⟩ := op16.useA ho
      refine g_if hgd (ga_store hop (e28 (by decide)) e26 (run_storeN w g m0 _ T hblk a' n' c') ?_)
      rw [hdst]
      exact hK _ _ ⟨hsz, hdf, hfar, a', n', c', w, e26, hleft, hblk, fun _ => e27 (by decide), fun _ => e28 (by decide), rfl⟩
  · rintro a1 w ⟨hsz, hdf, hfar, a', n', c', wf, e26, hleft, hblk, e27, e28, hw⟩
    rw [hsize, if_pos rfl] at hw
    subst hw
    have e := filledR_eq (ds := dsA7) 9 (hsz.trans hT.symm) hfar
    have e2 : a1 = ⟨filledR a0.tmps dsA7 (fun i => a1.tmps.getD (dsA7 i) undef) 9, []⟩ := by
      cases a1
      simp only at e hdf
      rw [← e, hdf]
    rw [e2]
    exact hQ _ wf a' n' c' e26 hleft hblk
theorem filled_nodes {w w0 wf : World} {lo g m N c v n : Nat} {a : Option Addr} {It : List Nat} {L : List NodeL} {x : ItL} {gv : GraphV} (h : GrC (· ∈ It) w lo g m (.slice a N c) L) (hIt : ∀ b ∈ It, lo ≤ b) (hb0 : Below w.heap.size w w0) (hlo : lo ≤ w.heap.size) (hgv : gv = graphV m L) (hr : gv.Right) (hm : m < 256) (hfew : L.length < 100000) (hn1 : 1 ≤ n) (hn5 : n ≤ 5) (hv : v < 18446744073709551616)
    {a' : Option Addr} {n' c' : Nat} (hl : AddLeft w0 lo x (.slice a N c) (L.map NodeL.cells) v n (.slice a' n' c') wf) (hbk : Blk wf g 155 [.int .u8 (m : Int), .slice a N c]) :
    ∃ F', GraphIs (wf.setCell ⟨g, 1, none⟩ (.slice a' n' c')) lo g F' (gv.add ⟨x.id, x.vec, x.tags, v, 0, List.replicate n []⟩) ∧ Kept (fpG g (.slice a N c) L ++ It) w (wf.setCell ⟨g, 1, none⟩ (.slice a' n' c')) ∧ Grows w (fpG g (.slice a N c) L ++ It) F' ∧ n' = L.length + 1 := by
  obtain ⟨y, gl, hrows, hy, hgl, hK, hG⟩ := hl
  have hgu : (Value.slice a N c).ownBlock ≠ some g := row_not_blk h.rows.2 h.blk (by decide)
  have hg' : (Value.slice a' n' c').ownBlock ≠ some g := row_not_blk hrows.2 hbk (by decide)
  have k2 : Kept [g] wf (wf.setCell ⟨g, 1, none⟩ (.slice a' n' c')) := (Kept.refl [g] wf).setCell _ _ (.inl (by simp))
  have kw : Kept (g :: ownB (.slice a N c)) w (wf.setCell ⟨g, 1, none⟩ (.slice a' n' c')) :=
    ((Kept.of_below (F := g :: ownB (.slice a N c)) hb0 (Nat.le_refl _)).trans (hK.mono fun b hb => List.mem_cons_of_mem _ hb) (Grows.refl _ _)).trans (k2.mono fun b hb => by simp at hb; simp [hb]) (Grows.refl _ _)
  have hgw : g < w.heap.size := h.blk.lt
  have hs0 := hb0.size
  have hsK := hK.size
  have hgN : ∀ b, y.bs.contains b = true → lo ≤ b ∧ w.heap.size ≤ b ∧ b < wf.heap.size := fun b hb => by
    have := hy.1.lo b (by simpa using hb)
    omega
  have e := h.addNode (by decide) (by decide) (x := newL y v n gl) (n := n) ⟨rfl, rfl⟩ (u' := .slice a' n' c') (okI' := (· ∈ It ++ y.bs)) kw (fun b hb => by
      rcases hG b hb with h1 | h1
      · exact .inl h1
      · exact .inr (by omega)) (by decide) (by
      have := hbk.set 1 (.slice a' n' c')
      exact this) (by
      rw [List.map_append]
      exact hrows.kept k2 fun b hb hh => by simp at hh; subst hh; exact hg' hb) (fun b hb => List.mem_append.2 (.inl hb)) (fun b hb => by
      rcases List.mem_append.1 hb with hb | hb
      · exact .inl hb
      · have h3 := hy.1.lo b hb
        refine .inr ⟨by omega, Nat.lt_of_lt_of_le h3.2 k2.size, fun hh => ?_, fun hh => ?_⟩
        · rcases List.mem_append.1 hb with hb | hb
          · exact rows_apart hy.1.vec hgl (by decide) b (mem_ownB.1 hb) hh
          · exact rows_apart hy.1.tags hgl (by decide) b (mem_ownB.1 hb) hh
        · rcases List.mem_append.1 hb with hb | hb
          · exact rows_apart hy.1.vec hrows.2 (by decide) b (mem_ownB.1 hb) hh
          · exact rows_apart hy.1.tags hrows.2 (by decide) b (mem_ownB.1 hb) hh) (by
      have h3 : y.In (· ∈ It ++ y.bs) wf := hy.1.inn fun b hb => List.mem_append.2 (.inr hb)
      have h4 : y.In (fun b => b ∈ y.bs) wf := hy.1.inn fun b hb => hb
      refine h4.stay k2.size (fun b hb hlt => k2.block b hlt fun hh => ?_) (fun b hb _ => List.mem_append.2 (.inr hb))
      simp at hh
      subst hh
      have := (hy.1.lo b hb).1
      omega) (by
      have h3 := k2.own hgl (fun b hb hh => by
        simp at hh
        subst hh
        have := (World.ownsRow.lt hgl b hb).1
        omega)
      show World.ownsRow _ lo 62 1 (.slice (some ⟨gl, 0, none⟩) n n) (List.replicate n (Value.slice none 0 0)).length (List.replicate n (.slice none 0 0))
      rw [List.length_replicate]
      exact own_on h3 (by omega) (Below.refl _ _)) (fun b hb => by
      have := (World.ownsRow.lt hgl b hb).1
      omega) ⟨hv, (by show (0 : Nat) < 18446744073709551616; decide)⟩ hfew
  refine ⟨fpG g (.slice a' n' c') (L ++ [newL y v n gl]) ++ (It ++ y.bs), ⟨It ++ y.bs, .slice a' n' c', L ++ [newL y v n gl], ?_, ?_, hr.add rfl hn1 hn5, rfl, fun b hb => ?_, ?_⟩, e.2.1.mono fun b hb => List.mem_append.2 (.inl hb), fun b hb => ?_, ?_⟩
  · have e2 : (gv.add ⟨x.id, x.vec, x.tags, v, 0, List.replicate n []⟩).m = m := by rw [hgv]; rfl
    rw [e2]
    exact e.1
  · rw [hgv]
    show (graphV m L).add _ = graphV m _
    rw [graphV_add]
    congr 1
    show NodeV.mk x.id x.vec x.tags v 0 _ = NodeV.mk y.id y.vec y.tags v 0 _
    rw [hy.2.1, hy.2.2.1, hy.2.2.2]
    rfl
  · rcases List.mem_append.1 hb with hb | hb
    · exact hIt b hb
    · have := (hy.1.lo b hb).1
      omega
  · rw [hgv]
    exact hm
  · rcases List.mem_append.1 hb with hb | hb
    · rcases e.2.2 b hb with h1 | h1
      · exact .inl (List.mem_append.2 (.inl h1))
      · exact .inr h1
    · rcases List.mem_append.1 hb with hb | hb
      · exact .inl (List.mem_append.2 (.inr hb))
      · have := (hy.1.lo b hb).1
        exact .inr (by omega)
  · obtain ⟨a2, c2, e3, _⟩ := hrows.form
    simp only [Value.slice.injEq] at e3
    rw [e3.2.1]
    simp

set_option maxRecDepth 100000 in
set_option maxHeartbeats 6400000 in
theorem add_any11 (w : World) (lo g : Nat) (F : List Nat) (gv : GraphV) (h : GraphIs w lo g F gv) (hlo : lo ≤ w.heap.size) (hfew : gv.L.length < 100000) (x : ItL) (hx : x.In (fun _ => True) w) (level : Int) (v : Nat) (hv : v < 18446744073709551616) :
    Calls Tryz.prog 102 #[.pointer (some ⟨g, 0, none⟩), .agg x.cells.toArray, .int .i64 level, .int .u64 (v : Int)] w (AddPost11 lo g F gv (newN x.id x.vec x.tags (topN level) v) w) := by
  obtain ⟨It, u, L, h1, h2, hr, rfl, h4, h5⟩ := h
  obtain ⟨a, c, rfl, -⟩ := h1.u_form
  have hLf : L.length < 100000 := by rw [h2, graphV_len] at hfew; exact hfew
  obtain ⟨w1, hw1⟩ : ∃ w1, w.alloc (.cells #[.int .u32 (x.id : Int), .slice x.pv.1 x.pv.2.1 x.pv.2.2, .slice x.pt.1 x.pt.2.1 x.pt.2.2] 31) = w1 := ⟨_, rfl⟩
  have b1 : Below w.heap.size w w1 := by rw [← hw1]; exact (Below.refl _ _).alloc (Nat.le_refl _) _
  have D1 := Lib.hid (show Blk w1 w.heap.size 31 x.cells from by rw [← hw1]; exact Blk.new _ _ _)
  have b1d : Below w.heap.size w w1.drew := b1.trans ((Below.refl w1.heap.size w1).drew.mono b1.size)
  have G1 := Lib.hid (h1.on b1d).toGrN
  have X1 := Lib.hid (show x.In (fun _ => True) w1.drew from ItL.In.stay hx b1d.size (fun k _ hk => b1d.block k hk) (fun _ h _ => h))
  obtain ⟨n, hn⟩ : ∃ n, topN level + 1 = n := ⟨_, rfl⟩
  have hn5 : n ≤ 5 := by unfold topN at hn; omega
  have FIN := Lib.hid (fun (wf : World) (a' : Option Addr) (n' c' : Nat) (hl : AddLeft w1.drew lo x (.slice a L.length c) (L.map NodeL.cells) v n (.slice a' n' c') wf) (hbk : Blk wf g 155 [.int .u8 (gv.m : Int), .slice a L.length c]) => filled_nodes h1 h4 b1d hlo h2 hr h5 hLf (by omega) hn5 hv hl hbk)
  have HL1 := Lib.hid (show lo ≤ w1.drew.heap.size from Nat.le_trans hlo b1d.size)
  have HNL := Lib.hid (show gv.L.length = L.length from by rw [h2, graphV_len])
  have HN := Lib.hid hn
  have e22 : ∃ tp : Nat, n = tp + 1 ∧ (tp : Int) = min (max level 0) 4 := ⟨topN level, hn.symm, by unfold topN; omega⟩
  obtain ⟨tp, hntp, htp⟩ := e22
  clear hx b1 b1d h1 h2 hr h4 h5 hfew hLf hlo hn hv
  show Calls _ _ #[_, .agg #[.int .u32 (x.id : Int), .slice x.pv.1 x.pv.2.1 x.pv.2.2, .slice x.pt.1 x.pt.2.1 x.pt.2.2], _, _] _ _
  by_cases hl0 : level < 0
  · obtain rfl : n = 1 := by omega
    clear htp hntp
    go_enter Tryz.func102, Tryz.ntmps102
    go_upto_region 2 with fail
    try rw [hw1]
    refine wp_region_any (by kernel_rfl) ?_
    refine wpAny_take (i := 0) (v := ?va0) rfl (by kernel_rfl) (by kernel_rfl) (by kernel_rfl) (fun _ _ _ h => h) (Or.inl ⟨by rfl, ?ya0⟩) ?_
    case ya0 => (intro w; go_simp) <;> with_reducible rfl
    go_simp
    refine wpAny_take (i := 1) (v := ?va1) rfl (by kernel_rfl) (by kernel_rfl) (by kernel_rfl) (fun _ _ _ h => h) (Or.inl ⟨by rfl, ?ya1⟩) ?_
    case ya1 => (intro w; go_simp) <;> with_reducible rfl
    go_simp
    refine wpAny_take (i := 2) (v := ?va2) rfl (by kernel_rfl) (by kernel_rfl) (by kernel_rfl) (fun _ _ _ h => h) (Or.inl ⟨by rfl, ?ya2⟩) ?_
    case ya2 => (intro w; go_simp) <;> with_reducible rfl
    go_simp
    refine wpAny_take (i := 3) (v := ?va3) rfl (by kernel_rfl) (by kernel_rfl) (by kernel_rfl) (fun _ _ _ h => h) (Or.inl ⟨by rfl, ?ya3⟩) ?_
    case ya3 => (intro w; go_simp) <;> with_reducible rfl
    go_simp
    refine wpAny_take (i := 7) (v := ?va7) rfl (by kernel_rfl) (by kernel_rfl) (by kernel_rfl) (fun _ _ _ h => h) (Or.inl ⟨by rfl, ?ya7⟩) ?_
    case ya7 => (intro w; go_simp) <;> with_reducible rfl
    go_simp
    refine wpAny_take (i := 8) (v := ?va8) rfl (by kernel_rfl) (by kernel_rfl) (by kernel_rfl) (fun _ _ _ h => h) (Or.inl ⟨by rfl, ?ya8⟩) ?_
    case ya8 => (intro w; go_simp) <;> with_reducible rfl
    go_simp
    refine wpAny_take (i := 9) (v := ?va9) rfl (by kernel_rfl) (by kernel_rfl) (by kernel_rfl) (fun _ _ _ h => h) (Or.inl ⟨by rfl, ?ya9⟩) ?_
    case ya9 => (intro w; go_simp) <;> with_reducible rfl
    go_simp
    refine add_region lo g w.heap.size L.length c v 1 a x (.int .u8 (gv.m : Int)) 155 (L.map NodeL.cells) ⟨_, rfl, rfl, rfl, rfl, by kernel_rfl⟩ ⟨_, rfl, rfl, rfl, rfl, by kernel_rfl⟩ ⟨_, rfl, rfl, rfl, rfl, by kernel_rfl⟩ ⟨_, rfl, rfl, rfl, rfl, by kernel_rfl⟩ ⟨_, rfl, rfl, rfl, rfl, by kernel_rfl⟩ ⟨_, rfl, rfl, rfl, rfl, by kernel_rfl⟩ ⟨_, rfl, rfl, rfl, rfl, by kernel_rfl⟩ ⟨_, rfl, rfl, rfl, rfl, by kernel_rfl⟩ ⟨_, rfl, rfl, rfl, rfl, by kernel_rfl⟩ ⟨_, rfl, rfl, rfl, rfl, by kernel_rfl⟩ rfl (by kernel_rfl) (by kernel_rfl) (by kernel_rfl) (by kernel_rfl) (by kernel_rfl) (by decide) rfl rfl rfl rfl rfl rfl rfl D1.out (G1.out.blk) (by decide) X1.out G1.out.rows (by rw [List.length_map]; exact G1.out.few) (by omega) HL1.out ?_
    intro E wf a' n' c' hE hleft hbk
    obtain ⟨F', hgi, hkk, hgg, hn'⟩ := FIN.out wf a' n' c' hleft hbk
    have HGI := Lib.hid hgi
    have HKK := Lib.hid hkk
    have HGG := Lib.hid hgg
    have HN' := Lib.hid hn'
    have c1 : (wf.setCell ⟨g, 1, none⟩ (.slice a' n' c')).cell? ⟨g, 1, none⟩ = some (.slice a' n' c') := (hbk.set 1 (.slice a' n' c')).cell 1
    obtain ⟨wz, hwz⟩ : ∃ wz, wf.setCell ⟨g, 1, none⟩ (.slice a' n' c') = wz := ⟨_, rfl⟩
    rw [hwz] at HGI HKK c1 ⊢
    simp only [filledR, dsA7, hE]
    have hsub : IntKind.i64.wrap ((n' : Int) - 1) = (gv.L.length : Int) := by
      have h6 := G1.out.few
      rw [IntKind.wrap_i64, hn', HNL.out]
      omega
    clear hgi hkk hgg hleft hbk hwz hE FIN D1 G1 X1 hn'
    go_simp
    go_step
    go_wp2
    go_ret
    refine ⟨rfl, F', ?_, HKK.out, HGG.out⟩
    have e := HGI.out
    rw [← HN.out] at e
    exact e
  by_cases hl4 : 4 < level
  · obtain rfl : n = 5 := by omega
    clear htp hntp
    go_enter Tryz.func102, Tryz.ntmps102
    go_upto_region 2 with fail
    try rw [hw1]
    refine wp_region_any (by kernel_rfl) ?_
    refine wpAny_take (i := 0) (v := ?vb0) rfl (by kernel_rfl) (by kernel_rfl) (by kernel_rfl) (fun _ _ _ h => h) (Or.inl ⟨by rfl, ?yb0⟩) ?_
    case yb0 => (intro w; go_simp) <;> with_reducible rfl
    go_simp
    refine wpAny_take (i := 1) (v := ?vb1) rfl (by kernel_rfl) (by kernel_rfl) (by kernel_rfl) (fun _ _ _ h => h) (Or.inl ⟨by rfl, ?yb1⟩) ?_
    case yb1 => (intro w; go_simp) <;> with_reducible rfl
    go_simp
    refine wpAny_take (i := 2) (v := ?vb2) rfl (by kernel_rfl) (by kernel_rfl) (by kernel_rfl) (fun _ _ _ h => h) (Or.inl ⟨by rfl, ?yb2⟩) ?_
    case yb2 => (intro w; go_simp) <;> with_reducible rfl
    go_simp
    refine wpAny_take (i := 3) (v := ?vb3) rfl (by kernel_rfl) (by kernel_rfl) (by kernel_rfl) (fun _ _ _ h => h) (Or.inl ⟨by rfl, ?yb3⟩) ?_
    case yb3 => (intro w; go_simp) <;> with_reducible rfl
    go_simp
    refine wpAny_take (i := 7) (v := ?vb7) rfl (by kernel_rfl) (by kernel_rfl) (by kernel_rfl) (fun _ _ _ h => h) (Or.inl ⟨by rfl, ?yb7⟩) ?_
    case yb7 => (intro w; go_simp) <;> with_reducible rfl
    go_simp
    refine wpAny_take (i := 8) (v := ?vb8) rfl (by kernel_rfl) (by kernel_rfl) (by kernel_rfl) (fun _ _ _ h => h) (Or.inl ⟨by rfl, ?yb8⟩) ?_
    case yb8 => (intro w; go_simp) <;> with_reducible rfl
    go_simp
    refine wpAny_take (i := 9) (v := ?vb9) rfl (by kernel_rfl) (by kernel_rfl) (by kernel_rfl) (fun _ _ _ h => h) (Or.inl ⟨by rfl, ?yb9⟩) ?_
    case yb9 => (intro w; go_simp) <;> with_reducible rfl
    go_simp
    refine add_region lo g w.heap.size L.length c v 5 a x (.int .u8 (gv.m : Int)) 155 (L.map NodeL.cells) ⟨_, rfl, rfl, rfl, rfl, by kernel_rfl⟩ ⟨_, rfl, rfl, rfl, rfl, by kernel_rfl⟩ ⟨_, rfl, rfl, rfl, rfl, by kernel_rfl⟩ ⟨_, rfl, rfl, rfl, rfl, by kernel_rfl⟩ ⟨_, rfl, rfl, rfl, rfl, by kernel_rfl⟩ ⟨_, rfl, rfl, rfl, rfl, by kernel_rfl⟩ ⟨_, rfl, rfl, rfl, rfl, by kernel_rfl⟩ ⟨_, rfl, rfl, rfl, rfl, by kernel_rfl⟩ ⟨_, rfl, rfl, rfl, rfl, by kernel_rfl⟩ ⟨_, rfl, rfl, rfl, rfl, by kernel_rfl⟩ rfl (by kernel_rfl) (by kernel_rfl) (by kernel_rfl) (by kernel_rfl) (by kernel_rfl) (by decide) rfl rfl rfl rfl rfl rfl rfl D1.out (G1.out.blk) (by decide) X1.out G1.out.rows (by rw [List.length_map]; exact G1.out.few) (by omega) HL1.out ?_
    intro E wf a' n' c' hE hleft hbk
    obtain ⟨F', hgi, hkk, hgg, hn'⟩ := FIN.out wf a' n' c' hleft hbk
    have HGI := Lib.hid hgi
    have HKK := Lib.hid hkk
    have HGG := Lib.hid hgg
    have HN' := Lib.hid hn'
    have c1 : (wf.setCell ⟨g, 1, none⟩ (.slice a' n' c')).cell? ⟨g, 1, none⟩ = some (.slice a' n' c') := (hbk.set 1 (.slice a' n' c')).cell 1
    obtain ⟨wz, hwz⟩ : ∃ wz, wf.setCell ⟨g, 1, none⟩ (.slice a' n' c') = wz := ⟨_, rfl⟩
    rw [hwz] at HGI HKK c1 ⊢
    simp only [filledR, dsA7, hE]
    have hsub : IntKind.i64.wrap ((n' : Int) - 1) = (gv.L.length : Int) := by
      have h6 := G1.out.few
      rw [IntKind.wrap_i64, hn', HNL.out]
      omega
    clear hgi hkk hgg hleft hbk hwz hE FIN D1 G1 X1 hn'
    go_simp
    go_step
    go_wp2
    go_ret
    refine ⟨rfl, F', ?_, HKK.out, HGG.out⟩
    have e := HGI.out
    rw [← HN.out] at e
    exact e
  · obtain rfl : level = (tp : Int) := by omega
    have htp4 : (tp : Int) ≤ 4 := by omega
    have hsum : IntKind.i64.wrap ((tp : Int) + 1) = (n : Int) := by rw [IntKind.wrap_i64, hntp]; omega
    have HTP := Lib.hid hntp
    clear htp hl0 hl4 hntp
    go_enter Tryz.func102, Tryz.ntmps102
    go_upto_region 2 with fail
    try rw [hw1]
    refine wp_region_any (by kernel_rfl) ?_
    refine wpAny_take (i := 0) (v := ?vc0) rfl (by kernel_rfl) (by kernel_rfl) (by kernel_rfl) (fun _ _ _ h => h) (Or.inl ⟨by rfl, ?yc0⟩) ?_
    case yc0 => (intro w; go_simp) <;> with_reducible rfl
    go_simp
    refine wpAny_take (i := 1) (v := ?vc1) rfl (by kernel_rfl) (by kernel_rfl) (by kernel_rfl) (fun _ _ _ h => h) (Or.inl ⟨by rfl, ?yc1⟩) ?_
    case yc1 => (intro w; go_simp) <;> with_reducible rfl
    go_simp
    refine wpAny_take (i := 2) (v := ?vc2) rfl (by kernel_rfl) (by kernel_rfl) (by kernel_rfl) (fun _ _ _ h => h) (Or.inl ⟨by rfl, ?yc2⟩) ?_
    case yc2 => (intro w; go_simp) <;> with_reducible rfl
    go_simp
    refine wpAny_take (i := 3) (v := ?vc3) rfl (by kernel_rfl) (by kernel_rfl) (by kernel_rfl) (fun _ _ _ h => h) (Or.inl ⟨by rfl, ?yc3⟩) ?_
    case yc3 => (intro w; go_simp) <;> with_reducible rfl
    go_simp
    refine wpAny_take (i := 7) (v := ?vc7) rfl (by kernel_rfl) (by kernel_rfl) (by kernel_rfl) (fun _ _ _ h => h) (Or.inl ⟨by rfl, ?yc7⟩) ?_
    case yc7 => (intro w; go_simp) <;> with_reducible rfl
    go_simp
    refine wpAny_take (i := 8) (v := ?vc8) rfl (by kernel_rfl) (by kernel_rfl) (by kernel_rfl) (fun _ _ _ h => h) (Or.inl ⟨by rfl, ?yc8⟩) ?_
    case yc8 => (intro w; go_simp) <;> with_reducible rfl
    go_simp
    refine wpAny_take (i := 9) (v := ?vc9) rfl (by kernel_rfl) (by kernel_rfl) (by kernel_rfl) (fun _ _ _ h => h) (Or.inl ⟨by rfl, ?yc9⟩) ?_
    case yc9 => (intro w; go_simp) <;> with_reducible rfl
    go_simp
    refine add_region lo g w.heap.size L.length c v n a x (.int .u8 (gv.m : Int)) 155 (L.map NodeL.cells) ⟨_, rfl, rfl, rfl, rfl, by kernel_rfl⟩ ⟨_, rfl, rfl, rfl, rfl, by kernel_rfl⟩ ⟨_, rfl, rfl, rfl, rfl, by kernel_rfl⟩ ⟨_, rfl, rfl, rfl, rfl, by kernel_rfl⟩ ⟨_, rfl, rfl, rfl, rfl, by kernel_rfl⟩ ⟨_, rfl, rfl, rfl, rfl, by kernel_rfl⟩ ⟨_, rfl, rfl, rfl, rfl, by kernel_rfl⟩ ⟨_, rfl, rfl, rfl, rfl, by kernel_rfl⟩ ⟨_, rfl, rfl, rfl, rfl, by kernel_rfl⟩ ⟨_, rfl, rfl, rfl, rfl, by kernel_rfl⟩ rfl (by kernel_rfl) (by kernel_rfl) (by kernel_rfl) (by kernel_rfl) (by kernel_rfl) (by decide) rfl rfl rfl rfl rfl rfl rfl D1.out (G1.out.blk) (by decide) X1.out G1.out.rows (by rw [List.length_map]; exact G1.out.few) (by omega) HL1.out ?_
    intro E wf a' n' c' hE hleft hbk
    obtain ⟨F', hgi, hkk, hgg, hn'⟩ := FIN.out wf a' n' c' hleft hbk
    have HGI := Lib.hid hgi
    have HKK := Lib.hid hkk
    have HGG := Lib.hid hgg
    have HN' := Lib.hid hn'
    have c1 : (wf.setCell ⟨g, 1, none⟩ (.slice a' n' c')).cell? ⟨g, 1, none⟩ = some (.slice a' n' c') := (hbk.set 1 (.slice a' n' c')).cell 1
    obtain ⟨wz, hwz⟩ : ∃ wz, wf.setCell ⟨g, 1, none⟩ (.slice a' n' c') = wz := ⟨_, rfl⟩
    rw [hwz] at HGI HKK c1 ⊢
    simp only [filledR, dsA7, hE]
    have hsub : IntKind.i64.wrap ((n' : Int) - 1) = (gv.L.length : Int) := by
      have h6 := G1.out.few
      rw [IntKind.wrap_i64, hn', HNL.out]
      omega
    clear hgi hkk hgg hleft hbk hwz hE FIN D1 G1 X1 hn'
    go_simp
    go_step
    go_wp2
    go_ret
    refine ⟨rfl, F', ?_, HKK.out, HGG.out⟩
    have e := HGI.out
    rw [← HN.out] at e
    exact e

theorem results_row_tmp11 {P : Program} {fn : Func} {p q : Tmp} {ty : TypeId} (h : fn.results = #[.cell p ty, .tmp q]) (tmps : Array Value) (w : World) (g : Nat) (t : TypeId) (cs : Array Value) (fr : Nat × Nat) (d : TypeDesc)
    (hp : tmps.getD p undef = .pointer (some ⟨g, 0, none⟩)) (hg : w.heap[g]? = some (.cells cs t fr))
    (hu : P.underlying ty = some d) (hd : (match d with | .struct _ | .array _ _ => true | _ => false) = true) (hi : (P.info? ty).map (·.size) = some cs.size) (v : Value) (hv : tmps.getD q undef = v) :
    (results fn tmps).run P w = .ok (.tuple #[.agg cs, v]) w := by
  have hp' : tmps[p]?.getD undef = .pointer (some ⟨g, 0, none⟩) := by simpa using hp
  have hv' : tmps[q]?.getD undef = v := by simpa using hv
  simp [results, h, hp', hv', asAddr, run_loadVar_row w g t ty cs fr d hg hu hd hi]
def zeroNV : NodeV := ⟨0, [], [], 0, 0, []⟩
def GraphV.nodeOr (g : GraphV) (i : Int) : NodeV := if g.thereB i = true then (g.L[i.toNat]?).getD zeroNV else zeroNV
def zeroNL : NodeL := ⟨⟨0, (none, 0, 0), (none, 0, 0), [], []⟩, 0, 0, .slice none 0 0, [], []⟩
theorem zero_own (lo : Nat) (w : World) : zeroNL.Own lo w :=
  ⟨⟨(by decide), ⟨rfl, .inl ⟨rfl, rfl⟩⟩, ⟨rfl, .inl ⟨rfl, rfl⟩⟩, by simp [zeroNL], by simp [zeroNL], by decide, by decide⟩, ⟨rfl, .inl ⟨rfl, rfl⟩⟩, rfl, fun k v l h => by simp [zeroNL] at h⟩
/-- What Node tells. -/
def NodesPost (gv : GraphV) (i : Int) (w : World) (e : Ending) (w' : World) : Prop := ∃ y : NodeL, e = .returned (.tuple #[.agg y.cells.toArray, .bool (gv.thereB i)]) ∧ y.Own w.heap.size w' ∧ y.toV = gv.nodeOr i ∧ Below w.heap.size w w'

/-- A node of the call's own behind a write elsewhere. -/
theorem own_node {lo lo' : Nat} {w w' : World} {F : List Nat} {y : NodeL} (h : y.Own lo w) (hk : Kept F w w') (hF : ∀ b ∈ F, b < lo) (hl : lo' ≤ lo) : y.Own lo' w' := by
  have h0 := h.it.kept hk fun b hb hh => by
    have := (h.it.lo b hb).1
    have := hF b hh
    omega
  refine ⟨⟨h0.hid, own_on h0.vec hl (Below.refl _ _), own_on h0.tags hl (Below.refl _ _), h0.wv, h0.wt, h0.lv, h0.lt⟩, own_on (hk.own h.lrow fun b hb hh => ?_) hl (Below.refl _ _), h.lens, fun k v l h1 h2 => RowC.mono (RowC.kept (h.list k v l h1 h2) hk fun b hb hh => ?_) hl⟩
  · have := (World.ownsRow.lt h.lrow b hb).1
    have := hF b hh
    omega
  · have := (RowC.lt (h.list k v l h1 h2) b hb).1
    have := hF b hh
    omega

set_option maxRecDepth 100000 in
set_option maxHeartbeats 3200000 in
theorem node_any (w : World) (lo g : Nat) (F : List Nat) (gv : GraphV) (h : GraphIs w lo g F gv) (i : Int) :
    Calls Tryz.prog 72 #[.pointer (some ⟨g, 0, none⟩), .int .i64 i] w (NodesPost gv i w) := by
  obtain ⟨It, u, L, h1, h2, hr, rfl, h4, h5⟩ := h
  obtain ⟨w1, hw1⟩ : ∃ w1, w.alloc (.cells #[.int .u32 0, .slice none 0 0, .slice none 0 0, .int .u64 0, .int .u64 0, .slice none 0 0] 59) = w1 := ⟨_, rfl⟩
  have b1 : Below w.heap.size w w1 := by rw [← hw1]; exact (Below.refl _ w).alloc (Nat.le_refl _) _
  have D1 : Blk w1 w.heap.size 59 [.int .u32 0, .slice none 0 0, .slice none 0 0, .int .u64 0, .int .u64 0, .slice none 0 0] := by rw [← hw1]; exact Blk.new _ _ _
  have g1 := h1.on b1
  have HD := Lib.hid D1
  have B1 := Lib.hid b1
  cases hz : gv.thereB i with
  | false =>
    have CT := Lib.hid (there_any g1.toGrN i false (by rw [← h2]; exact hz))
    have HZ := Lib.hid (show gv.nodeOr i = zeroNV from by unfold GraphV.nodeOr; rw [hz]; rfl)
    have HT := Lib.hid hz
    obtain ⟨q0, q1, q2, q3, q4, q5, f0, f1, f2, f3, f4, f5⟩ := six_load w1 _ _ _ _ _ _ _ _ D1
    have FF := Lib.hid (six_set (.int .u32 0) (.slice none 0 0) (.slice none 0 0) (.int .u64 0) (.int .u64 0) (.slice none 0 0) D1)
    clear h1 h2 hr h4 h5 g1 D1 b1 hz
    go_enter Tryz.func72, Tryz.ntmps72
    go_wp2_with (first | (rw [hw1]) | (go_at_call 100; refine CT.out.mono ?_; rintro e w' ⟨rfl, hw⟩; have hw' := hw.symm; subst hw'; clear hw) | fail)
    refine bodyPost_ret (results_row_tmp11 (p := 4) (q := 5) (ty := 59) rfl _ _ w.heap.size 59 #[.int .u32 0, .slice none 0 0, .slice none 0 0, .int .u64 0, .int .u64 0, .slice none 0 0] (0, 0) _ rfl FF.out.1 Tryz.underlying59 rfl node_sz11 (.bool false) rfl) rfl ?_
    exact ⟨zeroNL, by rw [HT.out]; rfl, zero_own _ _, by rw [HZ.out]; rfl, B1.out.trans (FF.out.2.below (by simp) B1.out.size)⟩
  | true =>
    have hzb := hz
    unfold GraphV.thereB at hzb
    have hzb := of_decide_eq_true hzb
    obtain ⟨j, rfl⟩ : ∃ j : Nat, i = (j : Int) := ⟨i.toNat, by omega⟩
    have hj : j < L.length := by
      rw [h2, graphV_len] at hzb
      omega
    have CT := Lib.hid (there_any g1.toGrN (j : Int) true (by rw [← h2]; exact hz))
    obtain ⟨x, gu, c, hx, hmem, hu, hgu, hrg⟩ := g1.nodeAt j hj
    have cU : w1.cell? ⟨g, 1, none⟩ = some (.slice (some ⟨gu, 0, none⟩) L.length c) := by rw [← hu]; exact g1.blk.cell 1
    have HX := Lib.hid (show x.toV = gv.nodeOr (j : Int) from by
      unfold GraphV.nodeOr
      rw [hz, if_pos rfl, Int.toNat_natCast, h2, graphV_at hx]
      rfl)
    have HT := Lib.hid hz
    have hxv : x.toV ∈ gv.L := by rw [h2]; exact List.mem_map_of_mem hmem
    have CC := Lib.hid (cloneNode_any w1 lo x ((g1.item x hmem).stay (Nat.le_refl _) (fun _ _ _ => rfl) (fun _ _ _ => trivial)) (g1.lrow x hmem) (g1.lens x hmem) (fun k v l e1 e2 => IntsAt.mk (g1.list x hmem k v l e1 e2)) (fun l hl => by
      obtain ⟨k, hk⟩ := List.getElem?_of_mem hl
      have e : gv.links j k = l := by
        rw [h2, graphV_links hx, List.getD_eq_getElem?_getD, hk]
        rfl
      have h6 := nodup_le gv.L.length l (by rw [← e]; exact hr.each j k) fun y hy => links_lt hr (i := j) (k := k) (by rw [e]; exact hy)
      rw [h2, graphV_len] at h6
      have := g1.few
      omega) (hr.most _ hxv) (hr.one _ hxv))
    obtain ⟨pa, pm, pc, hpl, -⟩ := ownsRow_slice (g1.lrow x hmem)
    have k0 : w1.cell? ⟨gu, j * 6, none⟩ = some (.int .u32 (x.it.id : Int)) := hrg 0 _ rfl
    have k1 : w1.cell? ⟨gu, j * 6 + 1, none⟩ = some (.slice x.it.pv.1 x.it.pv.2.1 x.it.pv.2.2) := hrg 1 _ rfl
    have k2 : w1.cell? ⟨gu, j * 6 + 2, none⟩ = some (.slice x.it.pt.1 x.it.pt.2.1 x.it.pt.2.2) := hrg 2 _ rfl
    have k3 : w1.cell? ⟨gu, j * 6 + 3, none⟩ = some (.int .u64 (x.frm : Int)) := hrg 3 _ rfl
    have k4 : w1.cell? ⟨gu, j * 6 + 4, none⟩ = some (.int .u64 (x.til : Int)) := hrg 4 _ rfl
    have k5 : w1.cell? ⟨gu, j * 6 + 5, none⟩ = some (.slice pa pm pc) := by rw [← hpl]; exact hrg 5 _ rfl
    rw [show x.cells.toArray = #[.int .u32 (x.it.id : Int), .slice x.it.pv.1 x.it.pv.2.1 x.it.pv.2.2, .slice x.it.pt.1 x.it.pt.2.1 x.it.pt.2.2, .int .u64 (x.frm : Int), .int .u64 (x.til : Int), .slice pa pm pc] from by rw [← hpl]; rfl] at CC
    obtain ⟨N, hN⟩ : ∃ N, L.length = N := ⟨_, rfl⟩
    rw [hN] at cU hj
    clear h1 h2 hr h4 h5 g1 D1 b1 hz hzb hx hmem hu hgu hrg hN hpl hxv
    go_enter Tryz.func72, Tryz.ntmps72
    go_wp2_with (first | (rw [hw1]) | (go_at_call 100; refine CT.out.mono ?_; rintro e w' ⟨rfl, hw⟩; have hw' := hw.symm; subst hw'; clear hw) | fail)
    refine CC.out.mono ?_
    rintro e w3 ⟨y, he, hy, hyv, hb3⟩
    obtain ⟨qa, qm, qc, hql, -⟩ := ownsRow_slice hy.lrow
    rw [show y.cells.toArray = #[.int .u32 (y.it.id : Int), .slice y.it.pv.1 y.it.pv.2.1 y.it.pv.2.2, .slice y.it.pt.1 y.it.pt.2.1 y.it.pt.2.2, .int .u64 (y.frm : Int), .int .u64 (y.til : Int), .slice qa qm qc] from by rw [← hql]; rfl] at he
    subst he
    have D3 := (Kept.of_below (F := []) hb3 (Nat.le_refl _)).blk HD.out (by simp)
    obtain ⟨q0, q1, q2, q3, q4, q5, f0, f1, f2, f3, f4, f5⟩ := six_load w3 _ _ _ _ _ _ _ _ D3
    have FF := Lib.hid (six_set (.int .u32 (y.it.id : Int)) (.slice y.it.pv.1 y.it.pv.2.1 y.it.pv.2.2) (.slice y.it.pt.1 y.it.pt.2.1 y.it.pt.2.2) (.int .u64 (y.frm : Int)) (.int .u64 (y.til : Int)) (.slice qa qm qc) D3)
    have B3 := Lib.hid (B1.out.trans (hb3.mono B1.out.size))
    have Y3 := Lib.hid hy
    have YV := Lib.hid hyv
    have YC := Lib.hid (show y.cells.toArray = #[.int .u32 (y.it.id : Int), .slice y.it.pv.1 y.it.pv.2.1 y.it.pv.2.2, .slice y.it.pt.1 y.it.pt.2.1 y.it.pt.2.2, .int .u64 (y.frm : Int), .int .u64 (y.til : Int), .slice qa qm qc] from by rw [← hql]; rfl)
    have hs1 : w.heap.size < w1.heap.size := HD.out.lt
    clear hy hyv hb3 D3 k0 k1 k2 k3 k4 k5 cU hql CC CT
    go_wp2
    refine bodyPost_ret (results_row_tmp11 (p := 4) (q := 5) (ty := 59) rfl _ _ w.heap.size 59 #[.int .u32 (y.it.id : Int), .slice y.it.pv.1 y.it.pv.2.1 y.it.pv.2.2, .slice y.it.pt.1 y.it.pt.2.1 y.it.pt.2.2, .int .u64 (y.frm : Int), .int .u64 (y.til : Int), .slice qa qm qc] (0, 0) _ rfl FF.out.1 Tryz.underlying59 rfl node_sz11 (.bool true) rfl) rfl ?_
    refine ⟨y, by rw [HT.out, YC.out], own_node Y3.out FF.out.2 (fun b hb => ?_) (by omega), by rw [YV.out]; exact HX.out, B3.out.trans (FF.out.2.below (by simp) B3.out.size)⟩
    simp at hb
    omega

section
variable {w : World} {lo g : Nat} {F : List Nat} {gv : GraphV}
theorem walk_is (h : GraphIs w lo g F gv) (qa : Option Addr) (qn qc : Nat) (q : List Int) (hq : Reads .i32 w qa qn q) (fa : Option Addr) (fn fc : Nat) (fr : List Int) (hf : Reads .i64 w fa fn fr) (hfn : fn ≤ 100000) (width level : Int) :
    Calls Tryz.prog 41 #[.pointer (some ⟨g, 0, none⟩), .slice qa qn qc, .slice fa fn fc, .int .i64 width, .int .i64 level] w (HitsPost (gv.walk q fr width level) w) := by
  obtain ⟨It, u, L, h1, h2, h3, rfl, h4, h5⟩ := h
  rw [h2] at h3 ⊢
  exact walk_any h1 h3 h5 qa qn qc q hq fa fn fc fr hf hfn width level
theorem near_is (h : GraphIs w lo g F gv) (qa : Option Addr) (qn qc : Nat) (q : List Int) (hq : Reads .i32 w qa qn q) (fa : Option Addr) (fn fc : Nat) (fr : List Int) (hf : Reads .i64 w fa fn fr) (hfn : fn ≤ 100000) :
    Calls Tryz.prog 113 #[.pointer (some ⟨g, 0, none⟩), .slice qa qn qc, .slice fa fn fc] w (HitsPost (gv.near q fr) w) := by
  obtain ⟨It, u, L, h1, h2, h3, rfl, h4, h5⟩ := h
  rw [h2] at h3 ⊢
  exact near_any h1.toGrN h3 h5 qa qn qc q hq fa fn fc fr hf hfn
theorem choose_is11 (h : GraphIs w lo g F gv) (qa : Option Addr) (qn qc : Nat) (q : List Int) (hq : Reads .i32 w qa qn q) (fa : Option Addr) (fn fc : Nat) (fr : List Int) (hf : Reads .i64 w fa fn fr) (hfn : fn ≤ 100000) (most : Int) (hmost : Hid (most ≤ 9223372036854775807)) :
    Calls Tryz.prog 101 #[.pointer (some ⟨g, 0, none⟩), .slice qa qn qc, .slice fa fn fc, .int .i64 most] w (PlacesPost (gv.choose q fr most.toNat) w) := by
  obtain ⟨It, u, L, h1, h2, h3, rfl, h4, h5⟩ := h
  rw [h2] at h3 ⊢
  exact choose_any h1.toGrN h3 h5 qa qn qc q hq fa fn fc fr hf hfn most hmost
theorem len_is (h : GraphIs w lo g F gv) :
    Calls Tryz.prog 60 #[.pointer (some ⟨g, 0, none⟩)] w fun e w' => e = .returned (.int .i64 (gv.L.length : Int)) ∧ w = w' := by
  obtain ⟨It, u, L, h1, h2, h3, rfl, h4, h5⟩ := h
  have e : gv.L.length = L.length := by rw [h2]; exact graphV_len _ _
  rw [e]
  refine (glen_any h1.toGrN).mono ?_
  rintro e w' ⟨rfl, h⟩
  exact ⟨rfl, h.symm⟩
theorem link_is (h : GraphIs w lo g F gv) (a b level most : Int) (hmost : Hid (most ≤ 9223372036854775807)) :
    Calls Tryz.prog 104 #[.pointer (some ⟨g, 0, none⟩), .int .i64 a, .int .i64 b, .int .i64 level, .int .i64 most] w (LinkPost lo g F gv a b level most w) := by
  cases hz : gv.linkB a b level with
  | true => exact link_yes w lo g F gv h a b level most hmost hz
  | false => exact link_not w lo g F gv h a b level most hz
end
set_option maxRecDepth 100000 in
/-- The document's Ints. -/
theorem ints_any (w : World) (a : Option Addr) (n c : Nat) (xs : List Int) (hx : Reads .i64 w a n xs) (a' : Option Addr) (n' c' : Nat) (ys : List Int) (hy : Reads .i64 w a' n' ys) (z : Bool) (hz : decide (xs = ys) = z) :
    Calls Tryz.prog 71 #[.slice a n c, .slice a' n' c'] w fun e w' => e = .returned (.bool z) ∧ Below w.heap.size w w' := by
  obtain ⟨hl, hn, _, _, hc⟩ := hx
  obtain ⟨hl', hn', _, _, hc'⟩ := hy
  by_cases hnn : n = n'
  · subst hnn
    have dn : (((n : Nat) : Int) != (n : Int)) = false := by simp
    have HC := Lib.hid hc
    have HC' := Lib.hid hc'
    have HX := Lib.hid hl
    have HY := Lib.hid hl'
    have HZ := Lib.hid hz
    clear hc hc' hl hl' hz
    go_enter Tryz.func71, Tryz.ntmps71
    go_wp2
    go_loopw [5] (fun s5 wr => ∃ i : Nat, s5 = .int .i64 i ∧ i ≤ n ∧ Hid (∀ k, k < i → xs.getD k 0 = ys.getD k 0) ∧ Hid (Below w.heap.size w wr)) (fun s5 _ => n - (intOf s5).toNat)
    case atStart => exact ⟨0, rfl, Nat.zero_le _, fun k hk => by omega, Below.refl _ _⟩
    case round =>
      obtain ⟨i, rfl, hi, HN, HB⟩ := hrel
      by_cases h1 : i < n
      · rcases HC.out with h0 | ⟨b, off, rfl, hlt, hcl⟩
        · omega
        rcases HC'.out with h0 | ⟨b', off', rfl, hlt', hcl'⟩
        · omega
        have r0 := (HB.out.cell (p := ⟨b, off + i, none⟩) hlt).trans (hcl i h1)
        have r1 := (HB.out.cell (p := ⟨b', off' + i, none⟩) hlt').trans (hcl' i h1)
        obtain ⟨x, hx⟩ : ∃ x, xs.getD i 0 = x := ⟨_, rfl⟩
        obtain ⟨y, hy⟩ : ∃ y, ys.getD i 0 = y := ⟨_, rfl⟩
        rw [hx] at r0
        rw [hy] at r1
        by_cases hxy : x = y
        · subst hxy
          have dx : (x != x) = false := by simp
          have HE := Lib.hid (hx.trans hy.symm)
          clear hx hy hcl hcl'
          go_wp2
          go_quiet (fail)
          have HB2 := Lib.hid (below_draws HB.out nq)
          clear r0 r1 HB
          go_wp2
          go_roundw
          case rel => exact ⟨i + 1, by go_num, by omega, fun k hk => by
            rcases Nat.lt_succ_iff_lt_or_eq.1 hk with h3 | h3
            · exact HN.out k h3
            · rw [h3]
              exact HE.out, HB2⟩
          case measure => simp [intOf]; omega
        · have dx : (x != y) = true := by rw [bne_iff_ne]; exact hxy
          have HF := Lib.hid (show z = false from by
            rw [← HZ.out, decide_eq_false_iff_not]
            rintro rfl
            exact hxy (hx.symm.trans hy))
          clear hx hy hcl hcl' hxy
          go_wp2
          go_quiet (fail)
          have HB2 := Lib.hid (below_draws HB.out nq)
          clear r0 r1 HB
          go_wp2
          go_ret
          exact ⟨by rw [HF.out]; rfl, HB2.out⟩
      · obtain rfl : i = n := by omega
        have HT := Lib.hid (show z = true from by
          rw [← HZ.out, decide_eq_true_iff]
          apply List.ext_getElem (by rw [HX.out, HY.out])
          intro k h1 h2
          have h3 := HN.out k (by rw [← HX.out]; exact h1)
          rw [List.getD_eq_getElem?_getD, List.getD_eq_getElem?_getD, List.getElem?_eq_getElem h1, List.getElem?_eq_getElem h2] at h3
          exact h3)
        go_wp2
        go_ret
        exact ⟨by rw [HT.out]; rfl, HB.out⟩
  · have dn : (((n : Nat) : Int) != (n' : Int)) = true := by rw [bne_iff_ne]; omega
    have hne : z = false := by
      rw [← hz, decide_eq_false_iff_not]
      rintro rfl
      omega
    subst hne
    clear hz hc hc'
    go_enter Tryz.func71, Tryz.ntmps71
    go_wp2
    go_ret
    exact ⟨rfl, Below.refl _ _⟩

/-- A list of numbers that was just made. -/
theorem reads_lit {k : IntKind} {t : TypeId} (w : World) (xs : List Int) (n : Nat) (hn : xs.length = n) (h1 : n ≤ 1000) (hk : kbytes k ≤ 8) (hx : ∀ x ∈ xs, (Lit.int k x).wf = true) :
    Reads k (w.alloc (.cells (xs.map (Value.int k)).toArray t)) (some ⟨w.heap.size, 0, none⟩) n xs := by
  have hb := Blk.new w t (xs.map (Value.int k)).toArray
  refine ⟨hn, by omega, ?_, hx, .inr ⟨w.heap.size, 0, rfl, hb.lt, fun i hi => ?_⟩⟩
  · exact Nat.le_trans (Nat.mul_le_mul h1 hk) (by decide)
  · rw [Nat.zero_add, hb.cell]
    simp [hn ▸ hi]
end Go.Proofs.YtadkfedglkhgjaaGreat
