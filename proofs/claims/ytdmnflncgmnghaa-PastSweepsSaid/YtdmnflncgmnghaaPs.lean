/-
  PastSweeps holds: a sweep changes nothing of what is told of versions that are known behind it.
-/
import Derived.Test.YtdmnflncgmnghaaRows
import Derived.Test.YtdmnflncgmnghaaDn
namespace Go.Proofs.Ytdmnflncgmnghaa
open Go.ChangeShapes Go.WideShapes Go.ChangeAt Go.RowKit

/-- A past of few rows of small versions, that knows each version. -/
structure FewP (i : Nat) (p : PastV) : Prop where
  known : ∀ v, p.known v = true
  rows : ∀ r ∈ p.rows, r.v ≤ p.last
  last : p.last ≤ 127 * i
  few : p.rows.length ≤ i
theorem FewP.new : FewP 0 PastV.new := ⟨fun v => by simp [PastV.known, PastV.new], fun r hr => (by cases hr), Nat.le_refl _, Nat.le_refl _⟩
theorem FewP.lay {i : Nat} {p : PastV} {r : RowV} (h : FewP i p) (hr : r.v ≤ p.last + 127) : FewP (i + 1) (p.lay r).1 := by
  refine ⟨fun v => (lay_known p r v).trans (h.known v), ?_, ?_, Nat.le_trans (lay_few p r) (Nat.succ_le_succ h.few)⟩
  · rcases lay_cases p r with e | ⟨e, hle⟩
    · rw [e]
      exact h.rows
    · rw [e]
      intro s hs
      rcases List.mem_append.1 hs with hs | hs
      · exact Nat.le_trans (h.rows s hs) hle
      · rw [List.mem_singleton.1 hs]
        exact Nat.le_refl _
  · have := h.last
    rcases lay_cases p r with e | ⟨e, _⟩
    · rw [e]
      omega
    · rw [e]
      show r.v ≤ _
      omega
theorem version_le (last : Nat) (ah : Int) (h1 : ah ≤ 127) : versionN last ah ≤ last + 127 := by
  unfold versionN
  split
  · exact Nat.le_trans (Nat.mod_le _ _) (by omega)
  · split
    · omega
    · omega
theorem sweepI_subs (L : List RowV) (last : Nat) (ks : List Nat) : ∀ i, ∀ r ∈ sweepI L last ks i, r ∈ L := by
  intro i
  induction i with
  | zero =>
    intro r h
    cases h
  | succ i ih =>
    intro r h
    cases hi : L[i]? with
    | none =>
      rw [sweepI, hi] at h
      exact ih r h
    | some s =>
      rw [sweepI_succ L last ks hi] at h
      split at h
      · rcases List.mem_append.1 h with h | h
        · exact ih r h
        · rw [List.mem_singleton.1 h]
          exact List.mem_of_getElem? hi
      · exact ih r h
theorem sweepI_few (L : List RowV) (last : Nat) (ks : List Nat) : ∀ i, (sweepI L last ks i).length ≤ i := by
  intro i
  induction i with
  | zero => exact Nat.le_refl _
  | succ i ih =>
    cases hi : L[i]? with
    | none =>
      rw [sweepI, hi]
      exact Nat.le_succ_of_le ih
    | some s =>
      rw [sweepI_succ L last ks hi]
      split
      · simpa using ih
      · exact Nat.le_succ_of_le ih
/-- One that was swept beside one that was not. -/
structure Twin (i last0 : Nat) (keep : List Nat) (p q : PastV) : Prop where
  known : ∀ v, q.known v = true
  told : ∀ v, v ∈ keep ∨ last0 ≤ v → p.known v = true ∧ ∀ id, thereP p.rows id v = thereP q.rows id v
  last : p.last = q.last
  from' : last0 ≤ p.last
  far : p.last ≤ 127 * i
  few : p.rows.length ≤ i ∧ q.rows.length ≤ i
theorem Twin.swept {i : Nat} {p : PastV} (h : FewP i p) (keep : List Nat) : Twin i p.last keep (p.sweep keep).1 p := by
  have hk : keep.filter p.known = keep := List.filter_eq_self.2 fun v _ => h.known v
  have hsub : ∀ r ∈ sweepI p.rows p.last keep p.rows.length, r.v ≤ p.last := fun r hr => h.rows r (sweepI_subs _ _ _ _ r hr)
  refine ⟨h.known, fun v hv => ⟨?_, fun id => ?_⟩, rfl, Nat.le_refl _, h.last, ?_, h.few⟩
  · show ((keep.filter p.known).contains v || decide (p.last ≤ v)) = true
    rw [hk, Bool.or_eq_true]
    rcases hv with hv | hv
    · exact .inl (by simpa using hv)
    · exact .inr (decide_eq_true hv)
  · show thereP (sweepI p.rows p.last (keep.filter p.known) p.rows.length) id v = _
    rw [hk]
    rcases hv with hv | hv
    · exact sweep_tells _ _ _ _ _ (.inr hv)
    · have e1 : ∀ L : List RowV, (∀ r ∈ L, r.v ≤ p.last) → thereP L id v = thereP L id p.last := fun L hL => by
        unfold thereP
        rw [atP_behind hL hv]
      rw [e1 _ hsub, e1 _ h.rows]
      exact sweep_tells _ _ _ _ _ (.inl rfl)
  · show (sweepI p.rows p.last (keep.filter p.known) p.rows.length).length ≤ i
    exact Nat.le_trans (sweepI_few _ _ _ _) h.few
theorem Twin.put {i last0 : Nat} {keep : List Nat} {p q : PastV} (h : Twin i last0 keep p q) {r : RowV} (hg : r.gone = false) (hr : r.v ≤ p.last + 127) (hi : i < 1024) : Twin (i + 1) last0 keep (p.lay r).1 (q.lay r).1 ∧ (p.lay r).2 = (q.lay r).2 := by
  have h1 := h.few.1
  have h2 := h.few.2
  have hl := h.last
  have hf := h.from'
  have hfar := h.far
  by_cases hv : r.v = 0 ∨ r.v < p.last
  · have e1 : p.lay r = (p, 1) := by
      unfold PastV.lay
      rw [if_pos hv]
    have e2 : q.lay r = (q, 1) := by
      unfold PastV.lay
      rw [if_pos (by omega)]
    rw [e1, e2]
    exact ⟨⟨h.known, h.told, h.last, h.from', show p.last ≤ _ by omega, show p.rows.length ≤ _ by omega, show q.rows.length ≤ _ by omega⟩, rfl⟩
  · have e1 : p.lay r = ({ p with rows := p.rows ++ [r], last := r.v }, 0) := by
      unfold PastV.lay
      rw [if_neg hv, if_neg (by rw [hg]; simp), if_neg (by omega)]
    have e2 : q.lay r = ({ q with rows := q.rows ++ [r], last := r.v }, 0) := by
      unfold PastV.lay
      rw [if_neg (by omega), if_neg (by rw [hg]; simp), if_neg (by omega)]
    rw [e1, e2]
    refine ⟨⟨h.known, fun v hv => ⟨(h.told v hv).1, fun id => there_both id v [r] _ _ ((h.told v hv).2 id)⟩, rfl, ?_, ?_, ?_, ?_⟩, rfl⟩
    · show last0 ≤ r.v
      omega
    · show r.v ≤ _
      omega
    · show (p.rows ++ [r]).length ≤ _
      simp
      omega
    · show (q.rows ++ [r]).length ≤ _
      simp
      omega
theorem Twin.all {i last0 : Nat} {keep : List Nat} {p q : PastV} (h : Twin i last0 keep p q) {v : Nat} (hv : v ∈ keep ∨ last0 ≤ v) : p.all v = q.all v ∧ (q.all v).2 = 0 := by
  have h1 := h.told v hv
  unfold PastV.all
  rw [h1.1, h.known, if_pos rfl, if_pos rfl]
  exact ⟨by rw [all_same h1.2], rfl⟩
theorem Twin.mono {i j last0 : Nat} {keep : List Nat} {p q : PastV} (h : Twin i last0 keep p q) (hij : i ≤ j) : Twin j last0 keep p q := by
  have h1 := h.far
  have h2 := h.few
  exact ⟨h.known, h.told, h.last, h.from', by omega, by omega, by omega⟩
/-- Two pasts beside each other. -/
structure TwoP (lo1 g1 lo2 g2 : Nat) (F G : List Nat) (p q : PastV) (w : World) : Prop where
  one : PastIs w lo1 g1 F p
  two : PastIs w lo2 g2 G q
  apart : Apart F G
section
variable {lo1 g1 lo2 g2 : Nat} {F G : List Nat} {p q : PastV} {w w' : World}
theorem TwoP.on (b : TwoP lo1 g1 lo2 g2 F G p q w) (hb : Below w.heap.size w w') : TwoP lo1 g1 lo2 g2 F G p q w' := ⟨b.one.on hb, b.two.on hb, b.apart⟩
theorem TwoP.step1 {F' : List Nat} {p' : PastV} (b : TwoP lo1 g1 lo2 g2 F G p q w) (c : PastIs w' lo1 g1 F' p') (k : Kept F w w') (gr : Grows w F F') : TwoP lo1 g1 lo2 g2 F' G p' q w' :=
  ⟨c, b.two.kept k (fun x hx hxG => b.apart x hx hxG), b.apart.grows gr (fun x hx => (b.two.lt x hx).2)⟩
theorem TwoP.step2 {G' : List Nat} {q' : PastV} (b : TwoP lo1 g1 lo2 g2 F G p q w) (c : PastIs w' lo2 g2 G' q') (k : Kept G w w') (gr : Grows w G G') : TwoP lo1 g1 lo2 g2 F G' p q' w' :=
  ⟨b.one.kept k (fun x hx hxF => b.apart x hxF hx), c, (b.apart.symm.grows gr (fun x hx => (b.one.lt x hx).2)).symm⟩
theorem TwoP.below1 {w0 : World} {B : Nat} (b : TwoP lo1 g1 lo2 g2 F G p q w) (k : Kept F w w') (h0 : Below B w0 w) (hB : B ≤ lo1) : Below B w0 w' :=
  h0.trans (k.below (fun x hx => Nat.le_trans hB (b.one.lt x hx).1) (Nat.le_trans hB b.one.size1))
theorem TwoP.below2 {w0 : World} {B : Nat} (b : TwoP lo1 g1 lo2 g2 F G p q w) (k : Kept G w w') (h0 : Below B w0 w) (hB : B ≤ lo2) : Below B w0 w' :=
  h0.trans (k.below (fun x hx => Nat.le_trans hB (b.two.lt x hx).1) (Nat.le_trans hB b.two.size1))
end
def shVers : Sh := .slice (.int .u64) 8
set_option maxRecDepth 100000 in
theorem fit_vers : (shVers.fit Try.prog).1 29 = true := by kernel_rfl
theorem u64_infoS : (Try.prog.info? 28).map (fun i => (i.zero, i.size, i.bytes)) = some (some (.int .u64 0), 1, 8) := by kernel_rfl
section
variable {H : Type} {enc : TypeId × Value → H} {W : World} {base : Nat} {ts : Array TypeId} {args : Array Value} {ds : List (DataW H)} {p : List MemPlace}
theorem Given.vers (g : Given enc Try.prog W base ts args ds p) (j : Nat) (ht : ts[j]? = some 29) : ∃ (a : Option Addr) (n c : Nat) (zs : List Int), args[j]? = some (.slice a n c) ∧ Rd (· < W.heap.size) W (.slice (.int .u64) 8) [.slice a n c] zs := by
  obtain ⟨v, x, e1, hx⟩ := g.sh1 j ht shVers fit_vers (.inl ⟨_, Try.underlying29⟩)
  obtain ⟨a, n, c, hcs, _, _, h⟩ := Rd.slice_is (e := .int .u64) hx
  simp only [List.cons.injEq, and_true] at hcs
  subst hcs
  exact ⟨a, n, c, x, e1, h.mono fun _ _ hk => hk⟩
end
/-- A row of versions, the call's own. -/
def U64s (lo : Nat) (w : World) (v : Value) (l : List Nat) : Prop := w.ownsRow lo 28 1 v l.length (l.map fun x : Nat => Value.int .u64 (x : Int))
theorem U64s.form {lo : Nat} {w : World} {v : Value} {l : List Nat} (h : U64s lo w v l) (h0 : 0 < l.length) : ∃ g c, v = .slice (some ⟨g, 0, none⟩) l.length c ∧ g < w.heap.size ∧ l.length ≤ c ∧ ∀ (i x : Nat), l[i]? = some x → w.cell? ⟨g, i, none⟩ = some (.int .u64 (x : Int)) := by
  have h2 : w.ownsRow lo 28 1 v (l.map fun x : Nat => Value.int .u64 (x : Int)).length (l.map fun x : Nat => Value.int .u64 (x : Int)) := by
    rw [List.length_map]
    exact h
  rcases own_cells1 h2 with ⟨_, h3⟩ | ⟨g, c, h3, h4, h5, h6, h7⟩
  · have : l = [] := by simpa using h3
    rw [this] at h0
    cases h0
  · rw [List.length_map] at h3 h4 h7
    refine ⟨g, c, h3, h6, h4, fun i x hx => ?_⟩
    rw [h7 i (List.getElem?_eq_some_iff.1 hx).1, List.getElem?_map, hx]
    rfl
set_option maxRecDepth 100000 in
set_option maxHeartbeats 25600000 in
theorem sweeps_walk (a : Option Addr) (n c : Nat) (xs : List shOp.T) (ka : Option Addr) (kn kc : Nat) (zs : List Int) (a2 : Option Addr) (n2 c2 : Nat) (ys : List shOp.T) (w : World) (hx : Rd (· < w.heap.size) w shOps [.slice a n c] xs) (hz : Rd (· < w.heap.size) w (.slice (.int .u64) 8) [.slice ka kn kc] zs) (hy : Rd (· < w.heap.size) w shOps [.slice a2 n2 c2] ys) :
    Calls Try.prog 4 #[.slice a n c, .slice ka kn kc, .slice a2 n2 c2] w fun e w' => e = .returned (.bool true) ∧ Below w.heap.size w w' := by
  have HX := Lib.hid hx
  have HY := Lib.hid hy
  have HZ := Lib.hid hz
  clear hx hy hz
  go_enter Try.func4, Try.ntmps4
  go_wp2_with (fail)
  refine (alive8 w).mono ?_
  rintro e w0 ⟨rfl, hb0⟩
  by_cases hk50 : kn ≤ 50
  rotate_left
  · have hkd : decide ((kn : Int) > 50) = true := decide_eq_true (by omega)
    have hkd2 : decide ((50 : Int) < (kn : Int)) = true := decide_eq_true (by omega)
    go_wp2
    go_ret
    exact ⟨rfl, hb0⟩
  obtain ⟨keep, hkeep⟩ := vers_of HZ.out (show kn ≤ 100000 by omega)
  have VI := Lib.hid hkeep
  have KL := Lib.hid (show keep.length ≤ 100000 from by rw [hkeep.1]; omega)
  have hkd : decide ((kn : Int) > 50) = false := decide_eq_false (by omega)
  have hkd2 : decide ((50 : Int) < (kn : Int)) = false := decide_eq_false (by omega)
  have B0 := Lib.hid hb0
  have NIL := Lib.hid (show ka = none → kn = 0 ∧ kc = 0 from by
    obtain ⟨a', n', c', h0, _, _, _, _, h5, _⟩ := Rd.slice_part (e := .int .u64) (xs := zs) HZ.out
    simp only [List.cons.injEq, Value.slice.injEq, and_true] at h0
    obtain ⟨rfl, rfl, rfl⟩ := h0
    exact h5)
  clear hkeep hb0 HZ
  go_wp2_with (fail)
  refine (new_is w0).mono ?_
  rintro e w1 ⟨F1, rfl, hb1, h1⟩
  go_wp2_with (fail)
  refine (new_is w1).mono ?_
  rintro e w2 ⟨G2, rfl, hb2, h2⟩
  obtain ⟨g1, hg1⟩ : ∃ g1, w0.heap.size = g1 := ⟨_, rfl⟩
  obtain ⟨g2, hg2⟩ : ∃ g2, w1.heap.size = g2 := ⟨_, rfl⟩
  have hlo1 : w.heap.size ≤ g1 := by rw [← hg1]; exact B0.out.size
  have hlo2 : w.heap.size ≤ g2 := by rw [← hg2]; exact Nat.le_trans B0.out.size hb1.size
  have B2 := Lib.hid (below_on (below_on B0.out hb1) hb2)
  have P2 := Lib.hid (show TwoP g1 g1 g2 g2 F1 G2 PastV.new PastV.new w2 from by
    rw [← hg1, ← hg2]
    refine ⟨h1.on hb2, h2, fun x hx hx2 => ?_⟩
    have h3 := (h1.lt x hx).2
    have h4 := (h2.lt x hx2).1
    omega)
  rw [hg1, hg2]
  clear h1 h2 hb1 hb2 hg1 hg2 B0
  go_wp2_with (fail)
  go_loopw [9] (fun s9 wr => ∃ (i : Nat) (p : PastV) (F G : List Nat), s9 = .int .i64 i ∧ i ≤ 60 ∧ Hid (TwoP g1 g1 g2 g2 F G p p wr) ∧ Hid (FewP i p) ∧ Hid (Below w.heap.size w wr)) (fun s9 _ => 60 - (intOf s9).toNat)
  case atStart => exact ⟨0, PastV.new, F1, G2, rfl, by omega, P2.out, FewP.new, B2.out⟩
  case round =>
    clear P2 B2
    obtain ⟨i, p, F, G, rfl, hi, HP, FW, HB⟩ := hrel
    go_upto_region 7 with fail
    go_cut [35] (fun s35 wx => ∃ z : Bool, s35 = .bool z ∧ Hid (z = true ↔ (i < n ∧ i < 60)) ∧ wx = wr)
    case first =>
      by_cases hin : i < n
      · by_cases hi10 : i < 60
        · have hd1 : decide ((i : Int) < 60) = true := decide_eq_true (by omega)
          go_wp2
          go_meet
          exact ⟨true, rfl, by simp [Hid]; omega, rfl⟩
        · have hd1 : decide ((i : Int) < 60) = false := decide_eq_false (by omega)
          go_wp2
          go_meet
          exact ⟨false, rfl, by simp [Hid]; omega, rfl⟩
      · go_wp2
        go_meet
        exact ⟨false, rfl, by simp [Hid]; omega, rfl⟩
    case rest =>
      obtain ⟨z, rfl, HZI, rfl⟩ := hcut
      cases z
      rotate_left
      · as_aux_lemma =>
        obtain ⟨hin, hi60⟩ := HZI.out.1 rfl
        clear HZI
        obtain ⟨b, off, k, ah, x, ka2, kn2, kc2, keep2, rfl, hbl, hk, ha1, ha2, hkn, OPF⟩ := rd_op_in2 HX.out i hin
        obtain ⟨hb0, -, -, m0, m1, m2, m3, m4, m5⟩ := OPF.out _ HB.out
        obtain ⟨W4, hW4⟩ : ∃ W4, wc.alloc (.cells #[.int .u8 (k : Int), .int .i8 ah, .int .u32 (x.id : Int), .slice x.pv.1 x.pv.2.1 x.pv.2.2, .slice x.pt.1 x.pt.2.1 x.pt.2.2, .slice ka2 kn2 kc2] 39) = W4 := ⟨_, rfl⟩
        obtain ⟨ob, hob⟩ : ∃ ob, wc.heap.size = ob := ⟨_, rfl⟩
        have hb4 : Below wc.heap.size wc W4 := by rw [← hW4]; exact (Below.refl _ _).alloc (Nat.le_refl _) _
        have O4 := Lib.hid (show Blk W4 ob 39 [.int .u8 (k : Int), .int .i8 ah, .int .u32 (x.id : Int), .slice x.pv.1 x.pv.2.1 x.pv.2.2, .slice x.pt.1 x.pt.2.1 x.pt.2.2, .slice ka2 kn2 kc2] from by rw [← hW4, ← hob]; exact Blk.new _ _ _)
        have HPo := Lib.hid (show ∀ x, x ∈ F ∨ x ∈ G → x ≠ ob from fun x hx => by
          rcases hx with hx | hx
          · have := (HP.out.one.lt x hx).2; omega
          · have := (HP.out.two.lt x hx).2; omega)
        have P4 := Lib.hid (HP.out.on hb4)
        have B4 := Lib.hid (below_on HB.out hb4)
        have q2 : W4.cell? ⟨ob, 2, none⟩ = some (.int .u32 (x.id : Int)) := O4.out.cell 2
        have q3 : W4.cell? ⟨ob, 3, none⟩ = some (.slice x.pv.1 x.pv.2.1 x.pv.2.2) := O4.out.cell 3
        have q4 : W4.cell? ⟨ob, 4, none⟩ = some (.slice x.pt.1 x.pt.2.1 x.pt.2.2) := O4.out.cell 4
        have hobl := O4.out.lt
        clear hb4 HP HB
        go_wp2_with (fail)
        refine (small_any w.heap.size x W4 ((OPF.out _ B4.out).2.1) B4.out.size).mono ?_
        rintro e w5 ⟨⟨gs, rfl⟩, hb5⟩
        have P5 := Lib.hid (P4.out.on hb5)
        have B5 := Lib.hid (B4.out.trans (hb5.mono B4.out.size))
        have O5 := Lib.hid ((Kept.of_below (F := []) hb5 (Nat.le_refl _)).blk O4.out (by simp))
        clear hb5 P4 B4 O4 q2 q3 q4 m0 m1 m2 m3 m4 m5 hW4 hobl hb0 hob
        cases gs
        · go_wp2
          go_ret
          exact ⟨rfl, B5.out⟩
        obtain ⟨la, hla2⟩ : ∃ la, p.last = la := ⟨_, rfl⟩
        have hla : la < 18446744073709551616 := by rw [← hla2]; exact P5.out.one.last64
        have LC := Lib.hid (fun W (hW : Below w5.heap.size w5 W) => last_is W _ _ F p (P5.out.one.on hW))
        rw [hla2] at LC
        obtain ⟨V, hV⟩ : ∃ V, versionN la ah = V := ⟨_, rfl⟩
        have HV64 := Lib.hid (show V < 18446744073709551616 from by rw [← hV]; exact versionN_lt _ _ hla)
        have VL := Lib.hid (show V ≤ p.last + 127 from by rw [hla2, ← hV]; exact version_le _ _ ha2)
        have VC := Lib.hid (show ∀ W, Calls Try.prog 9 #[.int .u64 (la : Int), .int .i8 ah] W fun e w' => e = .returned (.int .u64 (V : Int)) ∧ w' = W from by
          rw [← hV]
          exact fun W => version_any la ah W hla ha1 ha2)
        have q1 : w5.cell? ⟨ob, 1, none⟩ = some (.int .i8 ah) := O5.out.cell 1
        clear hla hla2 hV
        go_wp2_with (fail)
        go_quiet (first | (go_at_call 21; refine Calls.quiet_of_same (LC.out _ (below_draws (Below.refl _ _) _))) | (go_at_call 9; refine Calls.quiet_of_same (VC.out _)))
        have P7 := Lib.hid (P5.out.on (below_draws (Below.refl w5.heap.size w5) nq))
        have B7 := Lib.hid (below_draws B5.out nq)
        have O7 := Lib.hid (show Blk (w5.drewN nq) ob 39 [.int .u8 (k : Int), .int .i8 ah, .int .u32 (x.id : Int), .slice x.pv.1 x.pv.2.1 x.pv.2.2, .slice x.pt.1 x.pt.2.1 x.pt.2.2, .slice ka2 kn2 kc2] from O5.out)
        clear P5 B5 O5 q1 LC VC
        generalize w5.drewN nq = wc2 at P7 B7 O7 ⊢
        have r0 : wc2.cell? ⟨ob, 0, none⟩ = some (.int .u8 (k : Int)) := O7.out.cell 0
        have r2 : wc2.cell? ⟨ob, 2, none⟩ = some (.int .u32 (x.id : Int)) := O7.out.cell 2
        have r3 : wc2.cell? ⟨ob, 3, none⟩ = some (.slice x.pv.1 x.pv.2.1 x.pv.2.2) := O7.out.cell 3
        have r4 : wc2.cell? ⟨ob, 4, none⟩ = some (.slice x.pt.1 x.pt.2.1 x.pt.2.2) := O7.out.cell 4
        have IN7 := Lib.hid (show x.In (fun _ => True) wc2 from ((OPF.out _ B7.out).2.1).any)
        have hobl := O7.out.lt
        by_cases hk2 : k % 3 = 2
        · have hkb : decide ((k : Int) % 3 = 2) = true := decide_eq_true (by omega)
          have hkb2 : ((k : Int) % 3 == 2) = true := by rw [beq_iff_eq]; omega
          go_wp2_with (fail)
          refine (cut_is wc2 _ _ F p V x.id P7.out.one HV64.out IN7.out.hid).mono ?_
          rintro e w8 ⟨F8, rfl, h8, k8, gr8⟩
          have P8 := Lib.hid (P7.out.step1 h8 k8 gr8)
          have B8 := Lib.hid (P7.out.below1 k8 B7.out hlo1)
          have O8 := Lib.hid (k8.blk O7.out (fun hh => HPo.out _ (.inl hh) rfl))
          have IN8 := Lib.hid (show x.In (fun _ => True) w8 from ((OPF.out _ B8.out).2.1).any)
          have t2 : w8.cell? ⟨ob, 2, none⟩ = some (.int .u32 (x.id : Int)) := O8.out.cell 2
          have t3 : w8.cell? ⟨ob, 3, none⟩ = some (.slice x.pv.1 x.pv.2.1 x.pv.2.2) := O8.out.cell 3
          have t4 : w8.cell? ⟨ob, 4, none⟩ = some (.slice x.pt.1 x.pt.2.1 x.pt.2.2) := O8.out.cell 4
          clear h8 k8 gr8
          go_wp2_with (fail)
          refine (cut_is w8 _ _ G p V x.id P8.out.two HV64.out IN8.out.hid).mono ?_
          rintro e w9 ⟨G9, rfl, h9, k9, gr9⟩
          have P9 := Lib.hid (P8.out.step2 h9 k9 gr9)
          have B9 := Lib.hid (P8.out.below2 k9 B8.out hlo2)
          clear h9 k9 gr9
          go_wp2
          go_roundw
          case rel => exact ⟨i + 1, _, F8, G9, by go_num, by omega, P9.out, FW.out.lay VL.out, B9.out⟩
          case measure => simp [intOf]; omega
        · have hkb : decide ((k : Int) % 3 = 2) = false := decide_eq_false (by omega)
          have hkb2 : ((k : Int) % 3 == 2) = false := by rw [Bool.eq_false_iff]; intro h; rw [beq_iff_eq] at h; omega
          go_wp2_with (fail)
          refine (put_is wc2 _ _ F p V x P7.out.one HV64.out IN7.out).mono ?_
          rintro e w8 ⟨F8, rfl, h8, k8, gr8⟩
          have P8 := Lib.hid (P7.out.step1 h8 k8 gr8)
          have B8 := Lib.hid (P7.out.below1 k8 B7.out hlo1)
          have O8 := Lib.hid (k8.blk O7.out (fun hh => HPo.out _ (.inl hh) rfl))
          have IN8 := Lib.hid (show x.In (fun _ => True) w8 from ((OPF.out _ B8.out).2.1).any)
          have t2 : w8.cell? ⟨ob, 2, none⟩ = some (.int .u32 (x.id : Int)) := O8.out.cell 2
          have t3 : w8.cell? ⟨ob, 3, none⟩ = some (.slice x.pv.1 x.pv.2.1 x.pv.2.2) := O8.out.cell 3
          have t4 : w8.cell? ⟨ob, 4, none⟩ = some (.slice x.pt.1 x.pt.2.1 x.pt.2.2) := O8.out.cell 4
          clear h8 k8 gr8
          go_wp2_with (fail)
          refine (put_is w8 _ _ G p V x P8.out.two HV64.out IN8.out).mono ?_
          rintro e w9 ⟨G9, rfl, h9, k9, gr9⟩
          have P9 := Lib.hid (P8.out.step2 h9 k9 gr9)
          have B9 := Lib.hid (P8.out.below2 k9 B8.out hlo2)
          clear h9 k9 gr9
          go_wp2
          go_roundw
          case rel => exact ⟨i + 1, _, F8, G9, by go_num, by omega, P9.out, FW.out.lay VL.out, B9.out⟩
          case measure => simp [intOf]; omega
      · clear HZI
        obtain ⟨la, hla⟩ : ∃ la, p.last = la := ⟨_, rfl⟩
        have LC := Lib.hid (last_is wc _ _ F p HP.out.one)
        have T3 := Lib.hid (show Twin 60 la keep (p.sweep keep).1 p from by rw [← hla]; exact (Twin.swept FW.out keep).mono hi)
        have LA := Lib.hid (show la ≤ 7620 from by have := FW.out.last; omega)
        rw [hla] at LC
        clear hla hi
        go_wp2_with (fail)
        refine LC.out.mono ?_
        rintro e w3 ⟨rfl, hw3⟩
        subst hw3
        clear LC
        go_wp2_with (fail)
        refine (sweep_is w3 _ _ F p ka kn kc keep (sortU_le KL.out) HP.out.one ((VI.out.under HB.out).any)).mono ?_
        rintro e w4 ⟨F4, rfl, h4, k4, gr4⟩
        have P4 := Lib.hid (HP.out.step1 h4 k4 gr4)
        have B4 := Lib.hid (HP.out.below1 k4 HB.out hlo1)
        obtain ⟨ps, hps⟩ : ∃ ps, (p.sweep keep).1 = ps := ⟨_, rfl⟩
        rw [hps] at P4 T3
        clear h4 k4 gr4 HP HB FW hps
        go_wp2_with (fail)
        go_loopw [13] (fun s13 wr => ∃ (i : Nat) (p q : PastV) (F G : List Nat), s13 = .int .i64 i ∧ i ≤ 20 ∧ Hid (TwoP g1 g1 g2 g2 F G p q wr) ∧ Hid (Twin (60 + i) la keep p q) ∧ Hid (Below w.heap.size w wr)) (fun s13 _ => 20 - (intOf s13).toNat)
        case atStart => exact ⟨0, ps, p, F4, G, rfl, by omega, P4.out, T3.out, B4.out⟩
        case round =>
          clear P4 B4 T3
          obtain ⟨i, p, q, F, G, rfl, hi, HP, TW, HB⟩ := hrel
          go_upto_region 21 with fail
          go_cut [89] (fun s89 wx => ∃ z : Bool, s89 = .bool z ∧ Hid (z = true ↔ (i < n2 ∧ i < 20)) ∧ wx = wr)
          case first =>
            by_cases hin : i < n2
            · by_cases hi10 : i < 20
              · have hd1 : decide ((i : Int) < 20) = true := decide_eq_true (by omega)
                go_wp2
                go_meet
                exact ⟨true, rfl, by simp [Hid]; omega, rfl⟩
              · have hd1 : decide ((i : Int) < 20) = false := decide_eq_false (by omega)
                go_wp2
                go_meet
                exact ⟨false, rfl, by simp [Hid]; omega, rfl⟩
            · go_wp2
              go_meet
              exact ⟨false, rfl, by simp [Hid]; omega, rfl⟩
          case rest =>
            obtain ⟨z, rfl, HZI, rfl⟩ := hcut
            cases z
            rotate_left
            · obtain ⟨hin, hi20⟩ := HZI.out.1 rfl
              clear HZI
              obtain ⟨b, off, k, ah, x, rfl, hbl, hk, ha1, ha2, OPF⟩ := rd_op_in HY.out i hin
              obtain ⟨hb0, -, -, -, m2, m3, m4⟩ := OPF.out _ HB.out
              go_wp2_with (fail)
              refine (small_any w.heap.size x wc ((OPF.out _ HB.out).2.1) HB.out.size).mono ?_
              rintro e w5 ⟨⟨gs, rfl⟩, hb5⟩
              have P5 := Lib.hid (HP.out.on hb5)
              have B5 := Lib.hid (HB.out.trans (hb5.mono HB.out.size))
              clear hb5 HP HB m2 m3 m4 hb0
              cases gs
              · go_wp2
                go_ret
                exact ⟨rfl, B5.out⟩
              obtain ⟨hb0, -, -, m1, -, -, -⟩ := OPF.out _ B5.out
              obtain ⟨la2, hla2⟩ : ∃ la2, p.last = la2 := ⟨_, rfl⟩
              have hla : la2 < 18446744073709551616 := by rw [← hla2]; exact P5.out.one.last64
              have LC := Lib.hid (fun W (hW : Below w5.heap.size w5 W) => last_is W _ _ F p (P5.out.one.on hW))
              rw [hla2] at LC
              obtain ⟨V, hV⟩ : ∃ V, versionN la2 ah = V := ⟨_, rfl⟩
              have HV64 := Lib.hid (show V < 18446744073709551616 from by rw [← hV]; exact versionN_lt _ _ hla)
              have VL := Lib.hid (show V ≤ p.last + 127 from by rw [hla2, ← hV]; exact version_le _ _ ha2)
              have VC := Lib.hid (show ∀ W, Calls Try.prog 9 #[.int .u64 (la2 : Int), .int .i8 ah] W fun e w' => e = .returned (.int .u64 (V : Int)) ∧ w' = W from by
                rw [← hV]
                exact fun W => version_any la2 ah W hla ha1 ha2)
              clear hla hla2 hV
              go_wp2_with (fail)
              go_quiet (first | (go_at_call 21; refine Calls.quiet_of_same (LC.out _ (below_draws (Below.refl _ _) _))) | (go_at_call 9; refine Calls.quiet_of_same (VC.out _)))
              have P6 := Lib.hid (P5.out.on (below_draws (Below.refl w5.heap.size w5) nq))
              have B6 := Lib.hid (below_draws B5.out nq)
              clear P5 B5 m1 LC VC hb0
              generalize w5.drewN nq = wd at P6 B6 ⊢
              have PD := Lib.hid (P6.out.on (below_draws (Below.refl _ _) 1))
              have BD := Lib.hid (below_draws B6.out 1)
              obtain ⟨hb0, -, -, -, m2, m3, m4⟩ := OPF.out _ B6.out
              obtain ⟨TW2, hcd⟩ := TW.out.put (r := ⟨V, false, x.toI⟩) rfl VL.out (show 60 + i < 1024 by omega)
              obtain ⟨code, hcode⟩ : ∃ code, (p.lay ⟨V, false, x.toI⟩).2 = code := ⟨_, rfl⟩
              obtain ⟨p', hp'⟩ : ∃ p', (p.lay ⟨V, false, x.toI⟩).1 = p' := ⟨_, rfl⟩
              obtain ⟨q', hq'⟩ : ∃ q', (q.lay ⟨V, false, x.toI⟩).1 = q' := ⟨_, rfl⟩
              have PC := Lib.hid (put_is wd.drew _ _ F p V x PD.out.one HV64.out (((OPF.out _ BD.out).2.1).any))
              unfold LaidIs at PC
              rw [hcode, hp'] at PC
              have QC := Lib.hid (fun w7 (F7 : List Nat) (h : TwoP g1 g1 g2 g2 F7 G p' q w7) (hb : Below w.heap.size w w7) => put_is w7 _ _ G q V x h.two HV64.out (((OPF.out _ hb).2.1).any))
              unfold LaidIs at QC
              rw [← hcd, hcode, hq'] at QC
              have TX := Lib.hid (show Twin (60 + (i + 1)) la keep p' q' from by rw [← hp', ← hq']; exact TW2)
              clear TW TW2 hcd hcode hp' hq'
              go_wp2_with (fail)
              go_region_law (first
                | (rw [if_pos (by rfl)]; go_simp; go_at_call 10; refine (QC.out w7 F7 P7.out B7.out).mono ?_; rintro e w8 ⟨G8, rfl, h8, k8, gr8⟩; have P8 := Lib.hid (P7.out.step2 h8 k8 gr8); have B8 := Lib.hid (P7.out.below2 k8 B7.out hlo2); clear h8 k8 gr8)
                | (rw [if_pos (by rfl)]; go_simp; go_at_call 10; refine PC.out.mono ?_; rintro e w7 ⟨F7, rfl, h7, k7, gr7⟩; have P7 := Lib.hid (PD.out.step1 h7 k7 gr7); have B7 := Lib.hid (PD.out.below1 k7 BD.out hlo1); obtain ⟨nb0, -, -, -, n2', n3', n4'⟩ := OPF.out _ B7.out; clear h7 k7 gr7))
              all_goals
                clear P6 B6 PD BD P7 B7 PC QC
                go_wp2
                go_roundw
                case rel => exact ⟨i + 1, p', q', F7, G8, by go_num, by omega, P8.out, TX.out, B8.out⟩
                case measure => simp [intOf]; omega
            · clear HZI
              obtain ⟨l2, hl2⟩ : ∃ l2, p.last = l2 := ⟨_, rfl⟩
              have L2B := Lib.hid (show l2 ≤ 10160 ∧ la ≤ l2 from by
                have h1 := TW.out.far
                have h2 := TW.out.from'
                omega)
              have LC := Lib.hid (fun W (hW : Below wc.heap.size wc W) => last_is W _ _ F p (HP.out.one.on hW))
              rw [hl2] at LC
              obtain ⟨la1, hla1⟩ : ∃ la1, la + 1 = la1 := ⟨_, rfl⟩
              obtain ⟨l29, hl29⟩ : ∃ l29, l2 + 9 = l29 := ⟨_, rfl⟩
              have hw1 : IntKind.u64.wrap ((la : Int) + 1) = (la1 : Int) := by rw [IntKind.wrap_u64]; have := LA.out; omega
              have hw9 : IntKind.u64.wrap ((l2 : Int) + 9) = (l29 : Int) := by rw [IntKind.wrap_u64]; have := L2B.out; omega
              have VM := Lib.hid (show ∀ v ∈ keep ++ [la, la1, l2, l29], (v ∈ keep ∨ la ≤ v) ∧ v < 18446744073709551616 from fun v hv => by
                have h1 := LA.out
                have h2 := L2B.out
                rcases List.mem_append.1 hv with hv | hv
                · obtain ⟨j, hj⟩ := List.getElem?_of_mem hv
                  exact ⟨.inl hv, (VI.out.2.2.2 j v hj).1⟩
                · simp only [List.mem_cons, List.not_mem_nil, or_false] at hv
                  omega)
              obtain ⟨W1, hW1⟩ : ∃ W1, wc.alloc (.cells #[] 28) = W1 := ⟨_, rfl⟩
              have hb1 : Below wc.heap.size wc W1 := by rw [← hW1]; exact (Below.refl _ _).alloc (Nat.le_refl _) _
              have O1 := Lib.hid (show W1.ownsRow wc.heap.size 28 1 (.slice (some ⟨wc.heap.size, 0, none⟩) 0 0) 0 [] from by
                rw [← hW1]
                exact World.ownsRow_lit wc #[] 0 (Nat.le_refl _) (by decide) rfl)
              have BK := Lib.hid hb1
              have KC := Lib.hid (show kn = 0 ∨ ∃ b off, ka = some ⟨b, off, none⟩ ∧ ∀ i, i < kn → W1.cell? ⟨b, off + i, none⟩ = (keep.map fun x : Nat => Value.int .u64 (x : Int))[i]? from by
                have h1 := VI.out.under (below_on HB.out hb1)
                by_cases h0 : kn = 0
                · exact .inl h0
                · obtain ⟨x0, hx0⟩ : ∃ x0, keep[0]? = some x0 := ⟨_, List.getElem?_eq_getElem (by rw [h1.1]; omega)⟩
                  obtain ⟨_, b, off, e0, _⟩ := h1.2.2.2 0 x0 hx0
                  refine .inr ⟨b, off, e0, fun j hj => ?_⟩
                  obtain ⟨x, hx⟩ : ∃ x, keep[j]? = some x := ⟨_, List.getElem?_eq_getElem (by rw [h1.1]; exact hj)⟩
                  obtain ⟨_, b2, off2, e2, _, _, hc⟩ := h1.2.2.2 j x hx
                  rw [e0] at e2
                  simp only [Option.some.injEq, Addr.mk.injEq, and_true] at e2
                  obtain ⟨rfl, rfl⟩ := e2
                  rw [hc, List.getElem?_map, hx]
                  rfl)
              have KN := Lib.hid VI.out.1
              clear hb1 hl2 hla1 hl29
              go_wp2_with (first | (at_builtin; go_must (refine app_one W1 rfl (.tmp 124) (.tmp 125) 29 28 rfl Try.underlying29 (.int .u64 0) 8 u64_infoS rfl wc.heap.size (.slice (some ⟨wc.heap.size, 0, none⟩) 0 0) [] rfl O1.out ka kn kc (keep.map fun x : Nat => Value.int .u64 (x : Int)) rfl (by rw [List.length_map]; exact KN.out) NIL.out KC.out (by simp [Value.oneCell']) (by simp; omega) (by simp; omega) BK.out.size ?_)) | fail)
              intro v6 w6 h6 gr6
              have B6 := Lib.hid (BK.out.grown gr6 BK.out.size (fun k e => by have h9 : wc.heap.size = k := Option.some.inj e; omega))
              obtain ⟨sa, sc, rfl⟩ : ∃ sa sc, v6 = .slice sa kn sc := by
                have hl : (keep.map fun x : Nat => Value.int .u64 (x : Int)).length = kn := by simp [KN.out]
                rw [← List.length_map (f := fun x : Nat => Value.int .u64 (x : Int))] at h6
                rcases own_cells1 h6 with ⟨h1, h2⟩ | ⟨g, c, h1, _⟩
                · rw [h2] at hl
                  have hl : 0 = kn := hl
                  subst hl
                  exact ⟨none, 0, h1⟩
                · rw [hl] at h1
                  exact ⟨_, c, h1⟩
              have O6 := Lib.hid (show w6.ownsRow wc.heap.size 28 1 (.slice sa kn sc) (keep.map fun x : Nat => Value.int .u64 (x : Int)).length (keep.map fun x : Nat => Value.int .u64 (x : Int)) from by rw [List.length_map]; exact h6)
              clear h6 gr6 O1 KC BK hW1
              go_wp2_with (fail)
              refine (LC.out _ B6.out).mono ?_
              rintro e w7 ⟨rfl, hw7⟩
              subst hw7
              go_wp2_with (fail)
              refine (LC.out _ B6.out).mono ?_
              rintro e w8 ⟨rfl, hw8⟩
              subst hw8
              obtain ⟨W9, hW9⟩ : ∃ W9, w8.alloc (.cells #[.int .u64 (la : Int), .int .u64 (la1 : Int), .int .u64 (l2 : Int), .int .u64 (l29 : Int)] 28) = W9 := ⟨_, rfl⟩
              obtain ⟨gb, hgb⟩ : ∃ gb, w8.heap.size = gb := ⟨_, rfl⟩
              have X9 := Lib.hid (show Blk W9 gb 28 [.int .u64 (la : Int), .int .u64 (la1 : Int), .int .u64 (l2 : Int), .int .u64 (l29 : Int)] from by rw [← hW9, ← hgb]; exact Blk.new _ _ _)
              have B9 := Lib.hid (show Below wc.heap.size wc W9 from by rw [← hW9]; exact B6.out.alloc B6.out.size _)
              have O9 := Lib.hid (show W9.ownsRow wc.heap.size 28 1 (.slice sa kn sc) (keep.map fun x : Nat => Value.int .u64 (x : Int)).length (keep.map fun x : Nat => Value.int .u64 (x : Int)) from by rw [← hW9]; exact O6.out.alloc _)
              clear LC O6 B6
              go_wp2_with (first | (at_builtin; go_must (refine app_one W9 rfl (.tmp 126) (.tmp 135) 29 28 rfl Try.underlying29 (.int .u64 0) 8 u64_infoS rfl wc.heap.size (.slice sa kn sc) (keep.map fun x : Nat => Value.int .u64 (x : Int)) rfl O9.out (some ⟨gb, 0, none⟩) 4 4 [.int .u64 (la : Int), .int .u64 (la1 : Int), .int .u64 (l2 : Int), .int .u64 (l29 : Int)] rfl rfl (by simp) (.inr ⟨gb, 0, rfl, fun j hj => by rw [Nat.zero_add]; exact X9.out.cell j⟩) (by simp [Value.oneCell']) (by rw [List.length_map, KN.out]; omega) (by rw [List.length_map, KN.out]; omega) B9.out.size ?_)) | fail)
              intro v9 w9 h9 gr9
              have BA := Lib.hid (B9.out.grown gr9 B9.out.size (fun k e => (O9.out.lt k e).1))
              obtain ⟨ga, ca, rfl, hgl, hca, hcell⟩ := U64s.form (l := keep ++ [la, la1, l2, l29]) (show U64s wc.heap.size w9 v9 (keep ++ [la, la1, l2, l29]) from by
                unfold U64s
                rw [List.length_append, List.map_append]
                exact h9) (by simp)
              have han : (keep ++ [la, la1, l2, l29]).length ≤ 60 := by
                rw [List.length_append, KN.out]
                simp
                omega
              obtain ⟨vals, hvals⟩ : ∃ vals, keep ++ [la, la1, l2, l29] = vals := ⟨_, rfl⟩
              rw [hvals] at VM hcell hca han ⊢
              obtain ⟨an, hal⟩ : ∃ an, vals.length = an := ⟨_, rfl⟩
              have AL := Lib.hid hal
              rw [hal] at hca han ⊢
              have AC := Lib.hid hcell
              have P9 := Lib.hid (HP.out.on BA.out)
              have BW := Lib.hid (HB.out.trans (BA.out.mono HB.out.size))
              clear h9 gr9 O9 X9 B9 hcell hvals hal hW9 BA HP HB hgb
              go_wp2_with (fail)
              go_loopw [16] (fun s16 wr => ∃ i : Nat, s16 = .int .i64 i ∧ i ≤ an ∧ Hid (Below w9.heap.size w9 wr)) (fun s16 _ => an - (intOf s16).toNat)
              case atStart => exact ⟨0, rfl, Nat.zero_le _, Below.refl _ _⟩
              case round =>
                obtain ⟨i, rfl, hi, HW⟩ := hrel
                by_cases hin : i < an
                · obtain ⟨v, hv⟩ : ∃ v, vals[i]? = some v := ⟨_, List.getElem?_eq_getElem (by rw [AL.out]; exact hin)⟩
                  obtain ⟨hvk, hv64⟩ := VM.out v (List.mem_of_getElem? hv)
                  have V64 := Lib.hid hv64
                  have s1 : wr.cell? ⟨ga, i, none⟩ = some (.int .u64 (v : Int)) := (HW.out.cell (p := ⟨ga, i, none⟩) hgl).trans (AC.out i v hv)
                  obtain ⟨hall, hz0⟩ := TW.out.all hvk
                  have HA := Lib.hid hall
                  have HZ0 := Lib.hid hz0
                  have CV := Lib.hid (AC.out i v hv)
                  have PR := Lib.hid (P9.out.on HW.out)
                  clear hv hvk hall hz0 hv64
                  go_wp2_with (fail)
                  refine (all_is wr _ _ F p v PR.out.one V64.out).mono ?_
                  rintro e wA ⟨hbA, sv, us, rfl, hus, huo, hut⟩
                  rw [HA.out] at hut ⊢
                  rw [HZ0.out]
                  have huz : us.length ≤ 1000000 := by
                    have h1 := all_len q v
                    rw [← hut, List.length_map] at h1
                    have h2 := PR.out.two.few
                    omega
                  obtain ⟨ta, tn, tc, rfl, -⟩ := its_rd hus huo huz
                  have WA := Lib.hid (below_on HW.out hbA)
                  have T7 := Lib.hid (And.intro hus huo)
                  have TL := Lib.hid (And.intro hut huz)
                  have PA := Lib.hid (P9.out.on WA.out)
                  have s2 : wA.cell? ⟨ga, i, none⟩ = some (.int .u64 (v : Int)) := (WA.out.cell (p := ⟨ga, i, none⟩) hgl).trans CV.out
                  clear hbA hus huo hut huz PR s1 HW
                  go_wp2_with (fail)
                  refine (all_is wA _ _ G q v PA.out.two V64.out).mono ?_
                  rintro e wB ⟨hbB, sv2, vs, rfl, hvs, hvo, hvt⟩
                  rw [HZ0.out]
                  have hvz : vs.length ≤ 1000000 := by
                    have h1 := all_len q v
                    rw [← hvt, List.length_map] at h1
                    have h2 := PA.out.two.few
                    omega
                  obtain ⟨ua, un, uc, rfl, rd2⟩ := its_rd hvs hvo hvz
                  obtain ⟨ta', tn', tc', e1, rd1⟩ := its_rd (T7.out.1.on hbB) (fun x hx => (T7.out.2 x hx).on hbB) TL.out.2
                  simp only [Value.slice.injEq] at e1
                  obtain ⟨rfl, rfl, rfl⟩ := e1
                  have RD1 := Lib.hid rd1
                  have RD2 := Lib.hid rd2
                  have EQ := Lib.hid (show (us.map ItL.tup).map toItem = (vs.map ItL.tup).map toItem from by rw [tups_item, tups_item, TL.out.1, hvt])
                  have WB := Lib.hid (below_on WA.out hbB)
                  clear hbB hvs hvo hvt hvz rd1 rd2 s2 PA T7 TL WA
                  go_wp2_with (fail)
                  refine (sameItems _ _ _ _ _ _ _ _ wB RD1.out RD2.out).mono ?_
                  rintro e wC ⟨zz, rfl, hzz, hbC⟩
                  obtain rfl : zz = true := hzz.2 EQ.out
                  have WC := Lib.hid (WB.out.trans (hbC.mono WB.out.size))
                  clear hzz hbC RD1 RD2 EQ
                  go_wp2
                  go_roundw
                  case rel => exact ⟨i + 1, by go_num, by omega, WC.out⟩
                  case measure => simp [intOf]; omega
                · obtain rfl : i = an := by omega
                  go_wp2
                  go_ret
                  exact ⟨rfl, BW.out.trans (HW.out.mono BW.out.size)⟩
theorem sweeps_row : Rows.PastSweepsSaid :=
  OpenClaim.holds_of_wide 4 Try.f4 rfl rfl rfl rfl rfl rfl rfl ⟨rfl, rfl, rfl, rfl, rfl⟩ rfl rfl rfl rfl rfl (by kernel_rfl) Try.func4 (by kernel_rfl)
    (of_decide_eq_true (by kernel_rfl)) (by unfold Func.isWrapper; rw [if_neg (of_decide_eq_false (by kernel_rfl))]; exact ⟨rfl, rfl⟩)
    (fun os started H enc _ => lift (C := Try.checked) (s := Rows.pastSweepsSpec) (conds := Rows.pastSweepsRow.domain) os started H enc prog_own (by kernel_rfl) Try.func4 prog_laid rfl Try.underlying4 rfl
      (fun ds hl => by
        have hl : ds.length = 3 := hl
        match ds, hl with
        | [_, _, _], _ => rfl)
      (of_decide_eq_true (by kernel_rfl))
      (ChangeSpec.witness6 (enc := enc) (C := Try.checked) false ⟨#[], #[.slice none 0 0, .slice none 0 0, .slice none 0 0], []⟩ 8 (by kernel_rfl) (by kernel_rfl) (by kernel_rfl) (by kernel_rfl))
      (fun W base args ds p g => by
        rw [Try.params4] at g
        obtain ⟨a, n, c, xs, e0, hx⟩ := g.ops 0 rfl
        obtain ⟨ka, kn, kc, zs, e1, hz⟩ := g.vers 1 rfl
        obtain ⟨a2, n2, c2, ys, e2, hy⟩ := g.ops 2 rfl
        rw [args3 g.count e0 e1 e2]
        exact sweeps_walk a n c xs ka kn kc zs a2 n2 c2 ys W hx hz hy))
end Go.Proofs.Ytdmnflncgmnghaa
