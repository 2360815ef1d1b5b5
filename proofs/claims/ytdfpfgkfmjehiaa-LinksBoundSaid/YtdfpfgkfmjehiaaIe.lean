/-
  The document's graph: Walk. By a walk over its text.
-/
import Derived.Test.YtdfpfgkfmjehiaaIP2
import Derived.Deep.RegionHeld3
namespace Go.Proofs.Ytdfpfgkfmjehiaa
open Go.RowKit

/-- The document's walk under way: what is met, what waits, what is best. -/
structure RWs (lo : Nat) (w : World) (v : Value) (a : Option Addr) (n c : Nat) (b : Value) (s : WalkV) : Prop where
  met : IntsAt lo w v s.met
  waits : WR lo w a n c s.waits
  best : OwnB w lo b s.best
theorem RWs.on {lo : Nat} {w w' : World} {v : Value} {a : Option Addr} {n c : Nat} {b : Value} {s : WalkV} (h : RWs lo w v a n c b s) (hb : Below w.heap.size w w') : RWs lo w' v a n c b s :=
  ⟨RowC.on h.met hb, h.waits.on hb, h.best.kept (F := []) (Kept.of_below hb (Nat.le_refl _)) (by simp)⟩
/-- What is met grows. -/
theorem RWs.grown {lo : Nat} {w w' : World} {v v' : Value} {a : Option Addr} {n c : Nat} {b : Value} {s : WalkV} {j : Nat} (h : RWs lo w v a n c b s) (hk : Kept (ownB v) w w') (hm : IntsAt lo w' v' (s.met ++ [j])) : RWs lo w' v' a n c b ⟨s.met ++ [j], s.waits, s.best⟩ :=
  ⟨hm, h.waits.kept hk (h.waits.apart h.met), h.best.kept hk fun y hy hh => rows_apart h.best h.met.2 (by decide) y hy (mem_ownB.1 hh)⟩
def InvR (G : GraphV) (q : List Int) (W : Nat) (level : Int) (R : List Hit) (w : World) (s11 s12 s13 : Value) (wr : World) (k : Nat) : Prop :=
  ∃ (s : WalkV) (n11 c11 n12 c12 n13 c13 : Nat) (a11 a12 a13 : Option Addr), s11 = .slice a11 n11 c11 ∧ s12 = .slice a12 n12 c12 ∧ s13 = .slice a13 n13 c13 ∧ G.walkF q W level.toNat k s = R ∧ WalkOk G q W level.toNat s ∧ measW G s < k ∧ (0 ≤ level ∨ s.waits = []) ∧ RWs w.heap.size wr (.slice a11 n11 c11) a12 n12 c12 (.slice a13 n13 c13) s ∧ Below w.heap.size w wr
theorem ownB_n {w : World} {lo n c : Nat} {a : Option Addr} {l : List Hit} (h : OwnB w lo (.slice a n c) l) : l.length = n := by
  obtain ⟨a', c', e⟩ := h.own.size
  simp only [Value.slice.injEq] at e
  exact e.2.1.symm
theorem intsAt_n {w : World} {lo n c : Nat} {a : Option Addr} {l : List Nat} (h : IntsAt lo w (.slice a n c) l) : l.length = n := by
  obtain ⟨a', c', e, _⟩ := h.form
  simp only [Value.slice.injEq] at e
  exact e.2.1.symm
section
variable {g : GraphV} {q : List Int} {W : Nat} {level : Int} {s : WalkV}
theorem meetI_old {x : Int} (h : x ∈ natsI s.met) : g.meetI q W level s x = s := by
  unfold GraphV.meetI
  split
  · unfold GraphV.meet
    rw [if_pos]
    unfold natsI at h
    obtain ⟨j, hj, rfl⟩ := List.mem_map.1 h
    simpa using hj
  · rfl
theorem meetI_off {x : Int} (h : g.onB x level = false) : g.meetI q W level s x = s := by
  unfold GraphV.meetI
  rw [if_neg (by simp [h])]
theorem meetI_new {j : Nat} (h : g.onB (j : Int) level = true) (hj : j ∉ s.met) : g.meetI q W level s (j : Int) = if s.best.length < W ∨ ltH (g.hit q j) (lastL s.best) = true then ⟨s.met ++ [j], ins (g.hit q j) s.waits, (ins (g.hit q j) s.best).take W⟩ else ⟨s.met ++ [j], s.waits, s.best⟩ := by
  unfold GraphV.meetI
  rw [if_pos h, Int.toNat_natCast]
  unfold GraphV.meet
  rw [if_neg hj]
theorem WalkOk.foldI {lev : Nat} {l : List Int} : ∀ {s : WalkV}, WalkOk g q W lev s → WalkOk g q W lev (l.foldl (g.meetI q W (lev : Int)) s) := by
  induction l with
  | nil => exact fun h => h
  | cons x l ih =>
    intro s h
    refine ih ?_
    unfold GraphV.meetI
    split
    · next hx =>
      obtain ⟨j, rfl, h1, h2⟩ := GraphV.on_nat hx
      rw [Int.toNat_natCast]
      exact (h.meet h2).1
    · exact h
theorem start_snoc (ps : List Nat) (j : Nat) : g.start q W (ps ++ [j]) = ⟨(g.start q W ps).met ++ [j], ins (g.hit q j) (g.start q W ps).waits, (ins (g.hit q j) (g.start q W ps).best).take W⟩ := by
  unfold GraphV.start
  rw [List.map_append, List.map_cons, List.map_nil, sortL_snoc, keepL_snoc]
end
section
variable {T : TypeId} {rs : List Value} {okI : Nat → Prop} {w : World} {lo g m : Nat} {u : Value} {L : List NodeL}
set_option maxRecDepth 100000 in
set_option maxHeartbeats 12800000 in
theorem rwalk_any (h : GrD T rs okI w lo g m u L) (hr : (graphV m L).Right) (hm : m < 256) (qa : Option Addr) (qn qc : Nat) (q : List Int) (hq : Reads .i32 w qa qn q) (fa : Option Addr) (fn fc : Nat) (fr : List Int) (hf : Reads .i64 w fa fn fr) (hfn : fn ≤ 100000) (width level : Int) :
    Calls Try.prog 30 #[.pointer (some ⟨g, 0, none⟩), .slice qa qn qc, .slice fa fn fc, .int .i64 width, .int .i64 level] w (RHits ((graphV m L).walk q fr width level) w) := by
  obtain ⟨N, hN⟩ : ∃ N, L.length = N := ⟨_, rfl⟩
  have hfew := h.few
  have CT := Lib.hid (fun (X : World) (hb : Below w.heap.size w X) (i : Int) (z : Bool) (hz : Hid ((graphV m L).onB i level = z)) => rthere_any (h.on hb) i level z hz)
  have CF := Lib.hid (fun (X : World) (hb : Below w.heap.size w X) (i : Nat) (hi : i < L.length) (d : Int) (hd : Hid (((graphV m L).hit q i).1 = d)) => rfar_any (h.on hb) hm qa qn qc q (hq.below (Nat.le_refl _) hb) i hi d hd)
  have HLK := Lib.hid (fun (i k : Nat) (hi : i < L.length) (hk : k < (graphV m L).lv i) => show ∃ (gu cu gl cl P vn vc : Nat) (va : Option Addr), k < P ∧ ∀ X, Below w.heap.size w X → X.cell? ⟨g, 1, none⟩ = some (.slice (some ⟨gu, 0, none⟩) L.length cu) ∧ X.cell? ⟨gu, i * 6 + 5, none⟩ = some (.slice (some ⟨gl, 0, none⟩) P cl) ∧ X.cell? ⟨gl, k, none⟩ = some (.slice va vn vc) ∧ IntsAt lo X (.slice va vn vc) ((graphV m L).links i k) from by
    obtain ⟨x, gu, cu, hx, hmem, hu, hgu, hrg⟩ := h.toGrN.nodeAt i hi
    have hkx : k < x.links.length := by rw [graphV_lv hx] at hk; exact hk
    obtain ⟨v, gl, cl, hv, hpl, hgl, hcell, -, hown⟩ := h.listAt hx hkx
    obtain ⟨va, vn, vc, rfl, -⟩ := (IntsAt.mk hown).parts
    refine ⟨gu, cu, gl, cl, x.links.length, vn, vc, va, hkx, fun X hb => ⟨by rw [← hu]; exact (h.on hb).blk.cell 1, by rw [← hpl]; exact (hb.cell (p := ⟨gu, i * 6 + 5, none⟩) hgu).trans (hrg 5 _ rfl), (hb.cell (p := ⟨gl, k, none⟩) hgl).trans hcell, ?_⟩⟩
    rw [graphV_links hx]
    exact RowC.on (IntsAt.mk hown) hb)
  have hGL := graphV_len (m := m) (L := L)
  rw [hN] at CF HLK hfew hGL
  obtain ⟨G, hG⟩ : ∃ G, graphV m L = G := ⟨_, rfl⟩
  rw [hG] at CT CF HLK hGL hr ⊢
  have HG := Lib.hid hGL
  have HR := Lib.hid hr
  obtain ⟨W, hW⟩ : ∃ W, widthN width = W := ⟨_, rfl⟩
  have HWB := Lib.hid (show 1 ≤ W ∧ W ≤ 256 from by unfold widthN at hW; omega)
  obtain ⟨ww, hww⟩ : ∃ ww : Int, (W : Int) = ww := ⟨_, rfl⟩
  obtain ⟨ps, hps⟩ : ∃ ps, pick (fun i => G.onB i level) fr = ps := ⟨_, rfl⟩
  obtain ⟨R, hRe⟩ : ∃ R, G.walk q fr width level = R := ⟨_, rfl⟩
  have HST := Lib.hid (show G.walkF q W level.toNat (N + 1) (G.start q W ps) = R ∧ WalkOk G q W level.toNat (G.start q W ps) ∧ measW G (G.start q W ps) < N + 1 ∧ (0 ≤ level ∨ (G.start q W ps).waits = []) from by
    have h1 : ps.Nodup := by rw [← hps]; exact (pick_ok _ fr (fun i => onB_nonneg)).1
    have h2 : ∀ j ∈ ps, level.toNat < G.lv j := by
      by_cases h0 : 0 ≤ level
      · rw [← hps]
        exact pick_on fr h0
      · rw [← hps, pick_none fr (by omega)]
        simp
    have h3 := G.start_ok q W level.toNat ps h1 h2
    rw [hGL] at h3
    refine ⟨?_, h3.1, h3.2, ?_⟩
    · rw [← hRe]
      unfold GraphV.walk
      rw [hW, hps, hGL]
    · by_cases h0 : 0 ≤ level
      · exact .inl h0
      · right
        rw [← hps, pick_none fr (by omega)]
        rfl)
  rw [hRe]
  have HPS := Lib.hid hps
  have HWID := Lib.hid (show ww = max 1 (min width 256) from by unfold widthN at hW; omega)
  have HJ := Lib.hid (fun (j : Nat) (hj : G.onB (j : Int) level = true) => show j < N from by
    unfold GraphV.onB at hj
    rw [hGL] at hj
    have := of_decide_eq_true hj
    omega)
  have HWW := Lib.hid hww
  have hfs := hf.small
  obtain ⟨hfl, _, _, _, hfc⟩ := hf
  have HFL := Lib.hid hfl
  have HFC := Lib.hid hfc
  clear h hq hfl hfc hm hG hN hGL hr hW hps hRe hww hfs
  go_enter Try.func30, Try.ntmps30
  go_upto_region 1 with fail
  go_cut [3] (fun s3 wx => s3 = .int .i64 ww ∧ w = wx)
  case first =>
    clear CT CF HLK HST HJ HPS HR HG HFC HFL
    rcases (show (width ≤ 256 ∧ 1 ≤ width) ∨ (width ≤ 256 ∧ width ≤ 0) ∨ 256 < width by omega) with ⟨h1, h2⟩ | ⟨h1, h2⟩ | h1
    all_goals
      go_wp2
      all_goals (go_meet; refine ⟨?_, rfl⟩; congr 1; have := HWID.out; omega)
  case rest =>
    obtain ⟨rfl, hw0⟩ := hcut
    subst hw0
    clear HWID
    go_wp2_with (fail)
    go_loopw [11, 12, 13, 14] (fun s11 s12 s13 s14 wr => ∃ (k n11 c11 n12 c12 n13 c13 : Nat) (a11 a12 a13 : Option Addr), k ≤ fn ∧ s14 = .int .i64 (k : Int) ∧ s11 = .slice a11 n11 c11 ∧ s12 = .slice a12 n12 c12 ∧ s13 = .slice a13 n13 c13 ∧ Hid (RWs w.heap.size wr (.slice a11 n11 c11) a12 n12 c12 (.slice a13 n13 c13) (G.start q W (pick (fun i => G.onB i level) (fr.take k)))) ∧ Hid (Below w.heap.size w wr)) (fun _ _ _ s14 _ => fn - (intOf s14).toNat)
    case atStart => exact ⟨0, 0, 0, 0, 0, 0, 0, none, none, none, Nat.zero_le _, rfl, rfl, rfl, rfl, ⟨RowC.nil _ _ _ _, WR.own (OwnB.nil _ _) (by show (0 : Nat) ≤ 1000000; decide), by rw [show (G.start q W (pick (fun i => G.onB i level) (fr.take 0))).best = [] from by simp [GraphV.start, pick, keepL, sortL]]; exact OwnB.nil _ _⟩, Below.refl _ _⟩
    case round =>
      obtain ⟨k, n11, c11, n12, c12, n13, c13, a11, a12, a13, hk, rfl, rfl, rfl, rfl, HS, HB⟩ := hrel
      by_cases h1 : k < fn
      · rcases HFC.out with h0 | ⟨b, off, rfl, hlt, hc⟩
        · omega
        obtain ⟨x, hx⟩ : ∃ x, fr.getD k 0 = x := ⟨_, rfl⟩
        have hcc := hc k h1
        rw [hx] at hcc
        have HX := Lib.hid (show fr.take (k + 1) = fr.take k ++ [x] from getD_take (by rw [HFL.out]; exact h1) hx)
        have r0 : wr.cell? ⟨b, off + k, none⟩ = some (.int .i64 x) := (HB.out.cell (p := ⟨b, off + k, none⟩) hlt).trans hcc
        have HCC := Lib.hid hcc
        clear hx hcc hc
        cases hz : G.onB x level with
        | false =>
          have C1 := Lib.hid (CT.out wr HB.out x false hz)
          have HZ := Lib.hid (show pick (fun i => G.onB i level) (fr.take (k + 1)) = pick (fun i => G.onB i level) (fr.take k) from by
            rw [HX.out, pick_snoc, pickS, if_neg]
            rw [hz]
            simp)
          clear hz
          go_wp2_with (go_at_call 27; refine C1.out.mono ?_; rintro e w' ⟨rfl, h3⟩; subst h3)
          go_roundw
          case rel => exact ⟨k + 1, n11, c11, n12, c12, n13, c13, a11, a12, a13, by omega, by go_num, rfl, rfl, rfl, by rw [HZ.out]; exact HS, HB⟩
          case measure => simp [intOf]; omega
        | true =>
          obtain ⟨j, rfl⟩ : ∃ j : Nat, x = (j : Int) := ⟨x.toNat, by have := onB_nonneg hz; omega⟩
          have hjN := HJ.out j hz
          have C1 := Lib.hid (CT.out wr HB.out (j : Int) true hz)
          obtain ⟨pk, hpk⟩ : ∃ pk, pick (fun i => G.onB i level) (fr.take k) = pk := ⟨_, rfl⟩
          have HPK := Lib.hid hpk
          have HPKL := Lib.hid (show pk.length ≤ 100000 from by
            rw [← hpk]
            have := pick_len (fun i => G.onB i level) (fr.take k)
            rw [List.length_take] at this
            omega)
          have HPKN := Lib.hid (show ∀ y ∈ pk, y < N from fun y hy => HJ.out y ((pick_ok _ (fr.take k) (fun i => onB_nonneg)).2 y (by rw [hpk]; exact hy)))
          rw [hpk] at HS
          have hrd := HS.out.met.reads (by show pk.length ≤ 1000000; have := HPKL.out; omega) (fun y hy => by have := HPKN.out y hy; omega)
          obtain ⟨has, hhas⟩ : ∃ has, decide (j ∈ pk) = has := ⟨_, rfl⟩
          have C2 := Lib.hid (rhas_any wr a11 n11 c11 _ hrd (j : Int) has ((decide_eq_decide.2 mem_natsI).trans hhas))
          have HHAS := Lib.hid hhas
          have HZT := Lib.hid hz
          have KM := Lib.hid (show k + 1 ≤ fn from h1)
          clear hz hrd hpk hhas
          cases has with
          | true =>
            have HZ := Lib.hid (show pick (fun i => G.onB i level) (fr.take (k + 1)) = pk from by
              have hm := of_decide_eq_true HHAS.out
              rw [HX.out, pick_snoc, HPK.out, pickS, if_neg]
              simp [hm])
            go_wp2_with (first
              | (go_at_call 27; refine C1.out.mono ?_; rintro e w' ⟨rfl, h3⟩; subst h3)
              | (go_at_call 14; refine C2.out.mono ?_; rintro e w2 ⟨rfl, h5⟩; have B2 := Lib.hid h5; clear h5))
            go_roundw
            case rel => exact ⟨k + 1, n11, c11, n12, c12, n13, c13, a11, a12, a13, KM.out, by go_num, rfl, rfl, rfl, by rw [HZ.out]; exact HS.out.on B2.out, HB.out.trans (B2.out.mono HB.out.size)⟩
            case measure => simp [intOf]; omega
          | false =>
            have HNM := Lib.hid (show j ∉ pk from of_decide_eq_false HHAS.out)
            have HZ := Lib.hid (show pick (fun i => G.onB i level) (fr.take (k + 1)) = pk ++ [j] from by
              rw [HX.out, pick_snoc, HPK.out, pickS, if_pos ⟨HZT.out, by simpa using HNM.out⟩]
              rfl)
            obtain ⟨d, hd⟩ : ∃ d, (G.hit q j).1 = d := ⟨_, rfl⟩
            have HD := Lib.hid hd
            have HHIT := Lib.hid (show G.hit q j = (d, (j : Int)) from Prod.ext hd rfl)
            have hjw : IntKind.u32.wrap (j : Int) = (j : Int) := by rw [IntKind.wrap_u32]; omega
            have HJW := Lib.hid hjw
            clear hd hjw HX HHAS
            go_upto_region 9 with (first
              | (go_at_call 27; refine C1.out.mono ?_; rintro e w' ⟨rfl, h3⟩; subst h3)
              | (go_at_call 14; refine C2.out.mono ?_; rintro e w2 ⟨rfl, h5⟩; have B2 := Lib.hid (HB.out.trans (h5.mono HB.out.size)); have S2 := Lib.hid (HS.out.on h5); have r2 : w2.cell? ⟨b, off + k, none⟩ = some (.int .i64 (j : Int)) := (B2.out.cell (p := ⟨b, off + k, none⟩) hlt).trans HCC.out; have hl2 : w.heap.size ≤ w2.heap.size := B2.out.size; clear h5)
              | (at_builtin; go_must (refine app_int w2 rfl _ _ rfl w.heap.size (.slice a11 n11 c11) _ j rfl rfl S2.out.met hl2 (by show pk.length ≤ 1000000; have := HPKL.out; omega) ?_); intro v3 w3 h3 k3 g3; obtain ⟨a3, n3, c3, rfl, -⟩ := h3.parts; have S3 := Lib.hid (S2.out.grown k3 h3); have B3 := Lib.hid (B2.out.trans (k3.below (fun b hb => (RowC.lt S2.out.met b (mem_ownB.1 hb)).1) hl2)); clear h3 k3 g3)
              | fail)
            have r3 : w3.cell? ⟨b, off + k, none⟩ = some (.int .i64 (j : Int)) := (B3.out.cell (p := ⟨b, off + k, none⟩) hlt).trans HCC.out
            refine hit_region 53 15 2 14 w3 g b off fn fc k qa qn qc (j : Int) d ⟨_, rfl, rfl, rfl, rfl, by kernel_rfl⟩ ⟨_, rfl, rfl, rfl, rfl, by kernel_rfl⟩ ⟨_, rfl, rfl, rfl, rfl, by kernel_rfl⟩ ⟨_, rfl, rfl, rfl, rfl, by kernel_rfl⟩ ⟨_, rfl, rfl, rfl, rfl, by kernel_rfl⟩ ⟨_, rfl, rfl, rfl, rfl, by kernel_rfl⟩ ⟨_, rfl, rfl, rfl, rfl, by kernel_rfl⟩ ⟨_, rfl, rfl, rfl, rfl, by kernel_rfl⟩ ⟨_, rfl, rfl, rfl, rfl, by kernel_rfl⟩ ⟨_, rfl, rfl, rfl, rfl, by kernel_rfl⟩ ⟨_, rfl, rfl, rfl, rfl, by kernel_rfl⟩ ⟨_, rfl, rfl, rfl, rfl, by kernel_rfl⟩ ⟨_, rfl, rfl, rfl, rfl, by kernel_rfl⟩ ⟨_, rfl, rfl, rfl, rfl, by kernel_rfl⟩ ⟨_, rfl, rfl, rfl, rfl, by kernel_rfl⟩ rfl (by kernel_rfl) (by kernel_rfl) (by show 53 + 13 ≤ 186; decide) (by decide) (by decide) (by decide) (by decide) (by decide) (by decide) rfl rfl rfl rfl h1 r3 (Nat.lt_of_lt_of_le hlt B3.out.size) HJW.out (fun X hb => CF.out X (B3.out.trans (hb.mono B3.out.size)) j hjN d HD.out) ?_
            intro E w4 bb hE hbb hblk hb4
            have B4 := Lib.hid (B3.out.trans (hb4.mono B3.out.size))
            have S4 := Lib.hid (S3.out.on hb4)
            have x0 : w4.cell? ⟨bb, 0, none⟩ = some (.int .i64 d) := hblk.cell 0
            have x1 : w4.cell? ⟨bb, 1, none⟩ = some (.int .u32 (j : Int)) := hblk.cell 1
            have HBK := Lib.hid hblk
            have CI1 := Lib.hid (into_any a12 n12 c12 _ (d, (j : Int)) w4 S4.out.waits.rd (by have h7 := S4.out.waits.rd.len; have h8 := HPKL.out; simp only [GraphV.start, sortL_len, List.length_map] at h7; omega))
            have CI2 := Lib.hid (fun (X : World) (hb : Below w4.heap.size w4 X) => into_any a13 n13 c13 _ (d, (j : Int)) X (HReads.of_own (S4.out.on hb).best.own (by have h8 := HPKL.out; simp only [GraphV.start, keepL, List.length_take, sortL_len, List.length_map]; omega)) (by have h7 := ownB_n S4.out.best; have h8 := HPKL.out; simp only [GraphV.start, keepL, List.length_take, sortL_len, List.length_map] at h7; omega))
            simp only [filledR, dsH, hE, Nat.reduceLT, Nat.reduceAdd, Nat.reduceEqDiff, if_true, if_false]
            clear hE hbb hblk hb4 r2 r3 r0
            go_simp
            go_step
            go_wp2_with (fail)
            refine CI1.out.mono ?_
            rintro e w5 ⟨v5, rfl, ho5, hb5⟩
            obtain ⟨a5, n5, c5, rfl⟩ := ho5.parts11
            have O5 := Lib.hid ho5
            have B5 := Lib.hid hb5
            have HBK5 := (Kept.of_below (F := []) hb5 (Nat.le_refl _)).blk HBK.out (by simp)
            have y0 : w5.cell? ⟨bb, 0, none⟩ = some (.int .i64 d) := HBK5.cell 0
            have y1 : w5.cell? ⟨bb, 1, none⟩ = some (.int .u32 (j : Int)) := HBK5.cell 1
            have C6 := Lib.hid (CI2.out w5 hb5)
            clear ho5 hb5 HBK5 x0 x1 CI1 CI2
            go_wp2_with (fail)
            refine C6.out.mono ?_
            rintro e w6 ⟨v6, rfl, ho6, hb6⟩
            obtain ⟨a6, n6, c6, rfl⟩ := ho6.parts11
            have B6 := Lib.hid hb6
            have C7 := Lib.hid (first_any a6 n6 c6 ww _ w6 (HReads.of_own ho6.own (by have h8 := HPKL.out; simp only [ins_len, GraphV.start, keepL, List.length_take, sortL_len, List.length_map]; omega)))
            clear ho6 hb6 C6 y0 y1
            go_wp2_with (fail)
            refine C7.out.mono ?_
            rintro e w7 ⟨v7, rfl, ho7, hb7⟩
            obtain ⟨a7, n7, c7, rfl⟩ := ho7.parts11
            have B57 := B6.out.trans (hb7.mono B6.out.size)
            have S7 := Lib.hid (show RWs w.heap.size w7 (.slice a3 n3 c3) a5 n5 c5 (.slice a7 n7 c7) (G.start q W (pk ++ [j])) from by
              have e1 := start_snoc (g := G) (q := q) (W := W) pk j
              rw [e1, HHIT.out]
              refine ⟨RowC.on (RowC.on S4.out.met B5.out) B57, WR.own (((O5.out.mono B4.out.size).kept (F := []) (Kept.of_below B57 (Nat.le_refl _)) (by simp))) (by have h8 := HPKL.out; simp only [ins_len, GraphV.start, sortL_len, List.length_map]; omega), ?_⟩
              rw [show W = ww.toNat from by have := HWW.out; omega]
              have h9 := ho7.mono (Nat.le_trans B4.out.size (Nat.le_trans B5.out.size B6.out.size))
              rw [show W = ww.toNat from by have := HWW.out; omega] at h9
              exact h9)
            have B7 := Lib.hid (B4.out.trans ((B5.out.trans (B57.mono B5.out.size)).mono B4.out.size))
            clear ho7 hb7 B57 C7
            go_wp2
            go_roundw
            case rel => exact ⟨k + 1, n3, c3, n5, c5, n7, c7, a3, a5, a7, KM.out, by go_num, rfl, rfl, rfl, by rw [HZ.out]; exact S7, B7⟩
            case measure => simp [intOf]; omega
      · obtain rfl : k = fn := by omega
        have HE0 := Lib.hid (show G.start q W (pick (fun i => G.onB i level) (fr.take k)) = G.start q W ps from by
          rw [List.take_of_length_le (by rw [HFL.out]; exact Nat.le_refl _), HPS.out])
        have HI := Lib.hid (show InvR G q W level R w (.slice a11 n11 c11) (.slice a12 n12 c12) (.slice a13 n13 c13) wr (N + 1) from
          ⟨_, n11, c11, n12, c12, n13, c13, a11, a12, a13, rfl, rfl, rfl, HST.out.1, HST.out.2.1, HST.out.2.2.1, HST.out.2.2.2, by rw [← HE0.out]; exact HS.out, HB.out⟩)
        clear HS HB HST HPS HFC HFL HE0
        go_wp2_with (fail)
        go_loopw [11, 12, 13] (fun s11 s12 s13 wr => ∃ (k n11 c11 n12 c12 n13 c13 : Nat) (a11 a12 a13 : Option Addr), s11 = .slice a11 n11 c11 ∧ s12 = .slice a12 n12 c12 ∧ s13 = .slice a13 n13 c13 ∧ Hid (InvR G q W level R w (.slice a11 n11 c11) (.slice a12 n12 c12) (.slice a13 n13 c13) wr k)) (fun s11 s12 s13 wr => leastK (InvR G q W level R w s11 s12 s13 wr))
        case atStart => exact ⟨_, _, _, _, _, _, _, _, _, _, rfl, rfl, rfl, HI⟩
        case round =>
          clear HI
          obtain ⟨k0, n11, c11, n12, c12, n13, c13, a11, a12, a13, rfl, rfl, rfl, hk0⟩ := hrel
          obtain ⟨k, hk⟩ : ∃ k, leastK (InvR G q W level R w (.slice a11 n11 c11) (.slice a12 n12 c12) (.slice a13 n13 c13) wr) = k := ⟨_, rfl⟩
          have hinv := (leastK_spec hk0.out).1
          rw [hk] at hinv
          have HK := Lib.hid hk
          obtain ⟨s, m11, d11, m12, d12, m13, d13, b11, b12, b13, e11, e12, e13, hR, hok, hms, hlev, hs, hb⟩ := hinv
          simp only [Value.slice.injEq] at e11 e12 e13
          obtain ⟨rfl, rfl, rfl⟩ := e11
          obtain ⟨rfl, rfl, rfl⟩ := e12
          obtain ⟨rfl, rfl, rfl⟩ := e13
          obtain ⟨met, waits, best⟩ := s
          have HS := Lib.hid hs
          have HB := Lib.hid hb
          have HBL := Lib.hid (show best.length ≤ W from hok.blen)
          have HBN := Lib.hid (show best.length = n13 from ownB_n hs.best)
          clear hk0
          cases waits with
          | nil =>
            have HRB := Lib.hid (show best = R from (walkF_nil rfl).symm.trans hR)
            have h0 : n12 = 0 := hs.waits.rd.len.symm
            subst h0
            clear hR hok hms hlev hs hb hk
            go_wp2
            go_ret
            exact ⟨_, rfl, by rw [← HRB.out]; exact HS.out.best, HB.out⟩
          | cons c ws =>
            have h0 : 0 ≤ level := hlev.resolve_right (by simp)
            obtain ⟨lev, rfl⟩ : ∃ lev : Nat, level = (lev : Int) := ⟨level.toNat, by omega⟩
            rw [Int.toNat_natCast] at hok hR
            obtain ⟨⟨j, hc, hon⟩, h1ok, h2ok, hmlt⟩ := hok.next HR.out rfl
            obtain ⟨d, cj⟩ := c
            have hcj : (j : Int) = cj := (congrArg Prod.snd hc).symm
            have hjN : j < N := by rw [← HG.out]; exact lv_len hon
            have hcjn : cj.toNat = j := by omega
            rw [hcjn] at h2ok hmlt
            have H1OK := Lib.hid h1ok
            have H2OK := Lib.hid h2ok
            have HMLT := Lib.hid hmlt
            have HMS := Lib.hid hms
            have HRK := Lib.hid hR
            have HON := Lib.hid hon
            have HCJ := Lib.hid hcj
            have HCJN := Lib.hid hcjn
            obtain ⟨mw, hmw⟩ : ∃ mw, ws.length = mw := ⟨_, rfl⟩
            have hrl := hs.waits.rd.len
            rw [List.length_cons, hmw] at hrl
            subst hrl
            obtain ⟨a2, c2, hsl, hwt⟩ := hs.waits.tail
            rcases hs.waits.rd.cells with hcc | ⟨wb, wo, rfl, hwlt, hcc⟩
            · omega
            have hc0 := hcc 0 (by omega)
            rw [Nat.zero_mul, Nat.add_zero] at hc0
            obtain ⟨k1, k2⟩ := hc0
            rw [show ((d, cj) :: ws : List Hit).getD 0 (0, 0) = (d, cj) from rfl] at k1 k2
            have dgt : decide (((mw + 1 : Nat) : Int) > 0) = true := decide_eq_true (by omega)
            have HWT := Lib.hid hwt
            have hmwN := Lib.hid (show mw ≤ 100000 from by
              have h3 := h1ok.wlen
              have h4 := h1ok.met_le
              have h5 := HG.out
              simp only at h3 h4
              omega)
            obtain ⟨full, hfull⟩ : ∃ full, decide ((n13 : Int) = ww) = full := ⟨_, rfl⟩
            have f1 : ((n13 : Int) == ww) = full := by rw [← hfull]; rfl
            have HFU := Lib.hid (show best.length = W ↔ full = true from by
              rw [← hfull, decide_eq_true_iff, HBN.out]
              have := HWW.out
              omega)
            obtain ⟨w3, hw3⟩ : ∃ w3, wr.alloc (.cells #[.int .i64 d, .int .u32 cj] 58) = w3 := ⟨_, rfl⟩
            have b3 : Below wr.heap.size wr w3 := by rw [← hw3]; exact (Below.refl _ wr).alloc (Nat.le_refl _) _
            have X3 : Blk w3 wr.heap.size 58 [.int .i64 d, .int .u32 cj] := by rw [← hw3]; exact Blk.new _ _ _
            obtain ⟨bh, hbh⟩ : ∃ bh, wr.heap.size = bh := ⟨_, rfl⟩
            rw [hbh] at X3
            have HB3 := Lib.hid (hb.trans (b3.mono hb.size))
            have HX3 := Lib.hid X3
            have HS3 := Lib.hid (show RWs w.heap.size w3 (.slice a11 n11 c11) a2 mw c2 (.slice a13 n13 c13) ⟨met, ws, best⟩ from (RWs.mk hs.met hwt hs.best : RWs w.heap.size wr (.slice a11 n11 c11) a2 mw c2 (.slice a13 n13 c13) ⟨met, ws, best⟩).on b3)
            have hl3 : wr.heap.size ≤ w3.heap.size := b3.size
            clear hR hok hms hlev hs hb h1ok h2ok hmlt hc hon hcj hcjn hmw hwt hcc b3 X3 HS HB HWT hk
            go_upto_region 15 with (first | (rw [hw3]) | fail)
            try rw [hw3]
            clear hw3 k1 k2 hsl
            cases full with
            | false =>
              have HNO := Lib.hid (show ¬ (best.length = W ∧ ltH (lastL best) (d, cj) = true) from fun hh => by
                have := HFU.out.1 hh.1
                cases this)
              go_quiet (fail)
              obtain ⟨wq, hwq⟩ : ∃ wq, w3.drewN nq = wq := ⟨_, rfl⟩
              have HBQ := Lib.hid (show Below w3.heap.size w3 wq from by rw [← hwq]; exact below_draws (Below.refl _ _) _)
              rw [hwq]
              clear hwq f1 hfull HFU
              have HSQ := Lib.hid (HS3.out.on HBQ.out)
              have HB4 := Lib.hid (HB3.out.trans (HBQ.out.mono HB3.out.size))
              have q1 : wq.cell? ⟨bh, 1, none⟩ = some (.int .u32 cj) := ((Kept.of_below (F := []) HBQ.out (Nat.le_refl _)).blk HX3.out (by simp)).cell 1
              obtain ⟨jj, hjj⟩ : ∃ jj : Nat, cj = (jj : Int) := ⟨j, HCJ.out.symm⟩
              subst hjj
              obtain rfl : j = jj := by have := HCJ.out; omega
              have hjw : IntKind.i64.wrap (j : Int) = (j : Int) := by
                rw [IntKind.wrap_i64]
                omega
              obtain ⟨gu, cu, gl, cl, P, vn, vc, va, hkP, hlk⟩ := HLK.out j lev hjN HON.out
              obtain ⟨s1, s2, s3, s4⟩ := hlk wq HB4.out
              obtain ⟨lks, hlks⟩ : ∃ lks, G.links j lev = lks := ⟨_, rfl⟩
              rw [hlks] at s4
              have HSRC := Lib.hid s4.src
              have HVN := Lib.hid (show lks.length = vn from intsAt_n s4)
              have HLKS := Lib.hid hlks
              have HLN := Lib.hid (show ∀ y ∈ lks, y < N from fun y hy => by
                have := links_lt HR.out (i := j) (k := lev) (by rw [hlks]; exact hy)
                have := HG.out
                omega)
              have HLL := Lib.hid (show lks.length ≤ N from nodup_le _ _ (by rw [← hlks]; exact HR.out.each j lev) HLN.out)
              have hvnN : vn ≤ N := by rw [← HVN.out]; exact HLL.out
              have HMT := Lib.hid (show met.length ≤ N from by
                have h4 := H1OK.out.met_le
                have h5 := HG.out
                simp only at h4
                omega)
              clear s4 hlks hlk
              have HSI := Lib.hid (fun (s : WalkV) (hs : WalkOk G q W lev s) => show s.met.length ≤ N ∧ s.waits.length ≤ N ∧ s.best.length ≤ 256 ∧ ∀ y ∈ s.met, y < N from by
                have h4 := hs.met_le
                have h5 := HG.out
                have h6 := hs.wlen
                have h7 := hs.blen
                have h8 := HWB.out
                refine ⟨by omega, by omega, by omega, fun y hy => ?_⟩
                have := lv_len (hs.on y hy)
                omega)
              by_cases hl0 : lev = 0
              · as_aux_lemma =>
                  have e0 : ((lev : Int) == 0) = true := by simpa using hl0
                  have e1 : decide ((lev : Int) = 0) = true := decide_eq_true (by omega)
                  have e2 : decide (lev = 0) = true := decide_eq_true hl0
                  obtain ⟨NX, hNX⟩ : ∃ NX, natsI lks ++ [(j : Int) - 1, (j : Int) + 1] = NX := ⟨_, rfl⟩
                  have HNXE := Lib.hid (show G.nextI j lev = NX from by
                    unfold GraphV.nextI
                    rw [if_pos hl0, HLKS.out]
                    exact hNX)
                  have HNXC := Lib.hid (show intsC lks ++ [.int .i64 ((j : Int) - 1), .int .i64 ((j : Int) + 1)] = NX.map (Value.int .i64) from by rw [← hNX]; simp [natsI])
                  have HNXN := Lib.hid (show NX.length = lks.length + 2 from by rw [← hNX, List.length_append, natsI_len]; rfl)
                  clear hl0 hNX
                  go_wp2_with (first
                    | (at_builtin; (refine app_one (w7.alloc (.cells #[.int .i64 ((j : Int) - 1), .int .i64 ((j : Int) + 1)] 3)) rfl _ _ 46 3 rfl Try.underlying46 (.int .i64 0) 8 int_info11 rfl wq.heap.size (.slice a17 T7 c17) (intsC lks) rfl (by rw [HL7.out]; exact row_on RR7.out ((Below.refl _ w7).alloc (Nat.le_refl _) _)) (some ⟨w7.heap.size, 0, none⟩) 2 2 [.int .i64 ((j : Int) - 1), .int .i64 ((j : Int) + 1)] rfl rfl (fun ha => (by cases ha)) (.inr ⟨w7.heap.size, 0, rfl, fun i hi => by rw [Nat.zero_add, (Blk.new w7 3 #[.int .i64 ((j : Int) - 1), .int .i64 ((j : Int) + 1)]).cell]⟩) (by simp [Value.oneCell']) (by rw [HL7.out]; have := HT7.out; omega) (by rw [HL7.out]; have := HT7.out; omega) (by have := BBQ7.out.size; simp; omega) ?_); intro v1 w8 h3 h4; obtain ⟨a18, T, c18, rfl, hm1⟩ := ownsRow_slice h3; have BBQ8 := Lib.hid (show Below wq.heap.size wq w8 from BBQ7.out.trans ((((Kept.refl (ownB (.slice a17 T7 c17)) w7).alloc _).grown h4 (fun b hb => .inl (mem_ownB.2 hb))).below (fun b hb => (World.ownsRow.lt RR7.out b (mem_ownB.1 hb)).1) BBQ7.out.size)); have NN := Lib.hid (show T = lks.length + 2 from by rw [hm1.out, List.length_append, List.length_map]; rfl); have RR := Lib.hid (show w8.ownsRow wq.heap.size 3 1 (.slice a18 T c18) T (NX.map (Value.int .i64)) from by rw [HNXC.out] at h3; rw [List.length_map, HNXN.out, ← NN.out] at h3; exact h3); clear h3 h4 hm1)
                    | (at_builtin; go_must (refine app_one wq rfl _ _ 46 3 rfl Try.underlying46 (.int .i64 0) 8 int_info11 rfl wq.heap.size (.slice none 0 0) [] rfl (World.ownsRow_nil wq wq.heap.size _ 1) va vn vc (intsC lks) rfl (by rw [List.length_map]; exact HVN.out) (fun ha => HSRC.out.1 ha) (by have h8 := HSRC.out.2 lks.length (Nat.le_refl _); rw [List.take_length, HVN.out] at h8; exact h8) (ints_one _) (by simp; omega) (by simp; omega) (Nat.le_refl _) ?_); intro v1 w7 h3 h4; obtain ⟨a17, T7, c17, rfl, hm1⟩ := ownsRow_slice h3; have BBQ7 := Lib.hid (((Kept.refl [] wq).grown h4 fun q hq => (by cases hq)).below (B := wq.heap.size) (by simp) (Nat.le_refl _)); have NN7 := Lib.hid (show lks.length = T7 from by rw [hm1.out]; simp); have RR7 := Lib.hid (show w7.ownsRow wq.heap.size 3 1 (.slice a17 T7 c17) T7 (intsC lks) from by have h5 := h3; simp only [List.nil_append] at h5; rw [List.length_map, NN7.out] at h5; exact h5); have hll7 : (intsC lks).length = T7 := (by rw [List.length_map]; exact NN7.out); have HL7 := Lib.hid hll7; have HT7 := Lib.hid (show T7 ≤ 100000 from by have := HLL.out; have := NN7.out; omega); clear h3 h4 hm1 hll7)
                    | fail)
                  have HNXL := Lib.hid (show NX.length = T from by rw [HNXN.out, NN.out])
                  have H18 := RR
                  have HTB : T ≤ 100002 := by have := HLL.out; have := NN.out; omega
                  clear e0 e1 e2
                  have S8 := Lib.hid (HSQ.out.on BBQ8.out)
                  have B8 := Lib.hid (HB4.out.trans (BBQ8.out.mono HB4.out.size))
  
                  have HROW := Lib.hid (show ∀ (i : Nat), i < T → ∃ (tb : Nat), a18 = some ⟨tb, 0, none⟩ ∧ tb < w8.heap.size ∧ wq.heap.size ≤ tb ∧ w8.cell? ⟨tb, i, none⟩ = some (.int .i64 (NX.getD i 0)) ∧ ∀ X, Below w8.heap.size w8 X → X.heap[tb]? = w8.heap[tb]? from fun i hi => by
                    rcases own_cells1 (show w8.ownsRow wq.heap.size 3 1 _ (NX.map (Value.int .i64)).length (NX.map (Value.int .i64)) from by rw [List.length_map, HNXL.out]; exact H18.out) with ⟨_, h4⟩ | ⟨tb, c2, e1, _, h3, h4, h5⟩
                    · have := congrArg List.length h4
                      rw [List.length_map, HNXL.out] at this
                      simp at this
                      omega
                    · simp only [Value.slice.injEq] at e1
                      refine ⟨tb, e1.1, h4, h3, ?_, fun X hb => hb.block tb h4⟩
                      rw [h5 i (by rw [List.length_map, HNXL.out]; exact hi), List.getElem?_map, List.getElem?_eq_getElem (by rw [HNXL.out]; exact hi), List.getD_eq_getElem?_getD, List.getElem?_eq_getElem (by rw [HNXL.out]; exact hi)]
                      rfl)
                  have HST8 := Lib.hid (show ∀ tb, a18 = some ⟨tb, 0, none⟩ → tb < w8.heap.size ∧ (Value.slice a11 n11 c11).ownBlock ≠ some tb from fun tb e => by
                    have h8 := World.ownsRow.lt H18.out tb (by rw [e]; rfl)
                    refine ⟨h8.2, fun hh => ?_⟩
                    have h9 := (RowC.lt HSQ.out.met tb hh).2
                    omega)
                  clear BBQ8 HSRC s1 s2 s3 q1
                  go_wp2_with (fail)
                  go_loopw [11, 12, 13, 19] (fun s11 s12 s13 s19 wx => ∃ (i m11 d11 m12 d12 m13 d13 : Nat) (b11 b12 b13 : Option Addr), i ≤ T ∧ s19 = .int .i64 (i : Int) ∧ s11 = .slice b11 m11 d11 ∧ s12 = .slice b12 m12 d12 ∧ s13 = .slice b13 m13 d13 ∧ Hid (RWs w.heap.size wx (.slice b11 m11 d11) b12 m12 d12 (.slice b13 m13 d13) ((NX.take i).foldl (G.meetI q W (lev : Int)) ⟨met, ws, best⟩)) ∧ Hid (Below w.heap.size w wx) ∧ Hid (∀ tb, a18 = some ⟨tb, 0, none⟩ → wx.heap[tb]? = w8.heap[tb]? ∧ tb < wx.heap.size ∧ (Value.slice b11 m11 d11).ownBlock ≠ some tb)) (fun _ _ _ s19 _ => T - (intOf s19).toNat)
                  case atStart => exact ⟨0, n11, c11, mw, c2, n13, c13, a11, a2, _, Nat.zero_le _, rfl, rfl, rfl, rfl, S8, B8.out, fun tb e => ⟨rfl, HST8.out tb e⟩⟩
                  case round =>
                    clear S8 B8
                    obtain ⟨i, m11, d11, m12, d12, m13, d13, b11, b12, b13, hi, rfl, rfl, rfl, rfl, HSX, HBX, HTX⟩ := hrel
                    obtain ⟨st, hst⟩ : ∃ st, (NX.take i).foldl (G.meetI q W (lev : Int)) ⟨met, ws, best⟩ = st := ⟨_, rfl⟩
                    have HSTE := Lib.hid hst
                    rw [hst] at HSX
                    have HOKI := Lib.hid (show WalkOk G q W lev st from by
                      rw [← hst]
                      exact H1OK.out.foldI)
                    clear hst
                    by_cases hiT : i < T
                    · obtain ⟨tb, rfl, htl, htlo, htc, htb⟩ := HROW.out i hiT
                      obtain ⟨x, hx⟩ : ∃ x, NX.getD i 0 = x := ⟨_, rfl⟩
                      rw [hx] at htc
                      have HTK := Lib.hid (show (NX.take (i + 1)).foldl (G.meetI q W (lev : Int)) ⟨met, ws, best⟩ = G.meetI q W (lev : Int) st x from by
                        rw [getD_take (by rw [HNXL.out]; exact hiT) hx, List.foldl_append, HSTE.out]
                        rfl)
                      obtain ⟨hth, htx, htn⟩ := HTX.out tb rfl
                      have r0 : wr.cell? ⟨tb, i, none⟩ = some (.int .i64 x) := (World.cell?_of_block (a := ⟨tb, i, none⟩) hth).trans htc
                      have HR0 := Lib.hid (fun (X : World) (hb : X.heap[tb]? = w8.heap[tb]?) => show X.cell? ⟨tb, i, none⟩ = some (.int .i64 x) from (World.cell?_of_block (a := ⟨tb, i, none⟩) hb).trans htc)
                      have HTH := Lib.hid (And.intro hth (And.intro htx htn))
                      have HSB := Lib.hid (HSI.out st HOKI.out)
                      have hrd := HSX.out.met.reads (by have := HSB.out.1; omega) (fun y hy => by have := HSB.out.2.2.2 y hy; omega)
                      obtain ⟨has, hhas⟩ : ∃ has, decide (x ∈ natsI st.met) = has := ⟨_, rfl⟩
                      have C2 := Lib.hid (rhas_any wr b11 m11 d11 _ hrd x has hhas)
                      have HHAS := Lib.hid hhas
                      have KM := Lib.hid (show i + 1 ≤ T from hiT)
                      have hwl : w.heap.size ≤ wr.heap.size := HBX.out.size
                      clear hrd hhas hx htc htb hth htn
                      cases has with
                      | true =>
                        have HE := Lib.hid (meetI_old (g := G) (q := q) (W := W) (level := (lev : Int)) (of_decide_eq_true HHAS.out))
                        go_wp2_with (first
                          | (go_at_call 14; refine C2.out.mono ?_; rintro e w9 ⟨rfl, h5⟩; have BB := Lib.hid h5; clear h5)
                          | fail)
                        go_roundw
                        case rel => exact ⟨i + 1, m11, d11, m12, d12, m13, d13, b11, b12, b13, KM.out, by go_num, rfl, rfl, rfl, by rw [HTK.out, HE.out]; exact HSX.out.on BB.out, HBX.out.trans (BB.out.mono HBX.out.size), fun tb' e' => by
                          simp at e'
                          subst e'
                          exact ⟨(BB.out.block _ HTH.out.2.1).trans HTH.out.1, Nat.lt_of_lt_of_le HTH.out.2.1 BB.out.size, HTH.out.2.2⟩⟩
                        case measure => simp [intOf]; omega
                      | false =>
                        cases hz : G.onB x (lev : Int) with
                        | false =>
                          have HE := Lib.hid (meetI_off (g := G) (q := q) (W := W) (level := (lev : Int)) (s := st) hz)
                          have C3 := Lib.hid (fun (X : World) (hb : Below w.heap.size w X) => CT.out X hb x false hz)
                          clear hz
                          go_wp2_with (first
                            | (go_at_call 14; refine C2.out.mono ?_; rintro e w9 ⟨rfl, h5⟩; have BB := Lib.hid h5; have B9 := Lib.hid (HBX.out.trans (h5.mono HBX.out.size)); have r9 := HR0.out w9 ((h5.block _ htx).trans HTH.out.1); clear h5)
                            | (go_at_call 27; refine (C3.out _ B9.out).mono ?_; rintro e w' ⟨rfl, h3⟩; subst h3)
                            | fail)
                          go_roundw
                          case rel => exact ⟨i + 1, m11, d11, m12, d12, m13, d13, b11, b12, b13, KM.out, by go_num, rfl, rfl, rfl, by rw [HTK.out, HE.out]; exact HSX.out.on BB.out, B9.out, fun tb' e' => by
                            simp at e'
                            subst e'
                            exact ⟨(BB.out.block _ HTH.out.2.1).trans HTH.out.1, Nat.lt_of_lt_of_le HTH.out.2.1 BB.out.size, HTH.out.2.2⟩⟩
                          case measure => simp [intOf]; omega
                        | true =>
                          obtain ⟨jx, rfl⟩ : ∃ jx : Nat, x = (jx : Int) := ⟨x.toNat, by have := onB_nonneg hz; omega⟩
                          have hjxN := HJ.out jx hz
                          have HNM := Lib.hid (show jx ∉ st.met from fun hm => (of_decide_eq_false HHAS.out) (mem_natsI.2 hm))
                          have C3 := Lib.hid (fun (X : World) (hb : Below w.heap.size w X) => CT.out X hb (jx : Int) true hz)
                          have HE := Lib.hid (meetI_new (g := G) (q := q) (W := W) (level := (lev : Int)) (s := st) hz HNM.out)
                          obtain ⟨dx, hdx⟩ : ∃ dx, (G.hit q jx).1 = dx := ⟨_, rfl⟩
                          have HD := Lib.hid hdx
                          have HHIT := Lib.hid (show G.hit q jx = (dx, (jx : Int)) from Prod.ext hdx rfl)
                          have hjw2 : IntKind.u32.wrap (jx : Int) = (jx : Int) := by rw [IntKind.wrap_u32]; omega
                          have HJW := Lib.hid hjw2
                          have hsl1 := Lib.hid (show st.met.length ≤ 1000000 from by have := HSB.out.1; omega)
                          clear hz hdx hjw2 HHAS
                          go_upto_region 27 with (first
                            | (go_at_call 14; refine C2.out.mono ?_; rintro e w9 ⟨rfl, h5⟩; have S9 := Lib.hid (HSX.out.on h5); have B9 := Lib.hid (HBX.out.trans (h5.mono HBX.out.size)); have H9 := Lib.hid ((h5.block _ htx).trans HTH.out.1); have r9 := HR0.out w9 H9.out; have hl9 : w.heap.size ≤ w9.heap.size := B9.out.size; have ht9 : tb < w9.heap.size := Nat.lt_of_lt_of_le htx h5.size; clear h5)
                            | (go_at_call 27; refine (C3.out _ B9.out).mono ?_; rintro e w' ⟨rfl, h3⟩; subst h3)
                            | (at_builtin; go_must (refine app_int w9 rfl _ _ rfl w.heap.size (.slice b11 m11 d11) _ jx rfl rfl S9.out.met hl9 hsl1.out ?_); intro v3 w10 h3 k3 g3; obtain ⟨e11, q11, f11, rfl, -⟩ := h3.parts; have S10 := Lib.hid (S9.out.grown k3 h3); have B10 := Lib.hid (B9.out.trans (k3.below (fun b hb => (RowC.lt S9.out.met b (mem_ownB.1 hb)).1) hl9)); have H10 := Lib.hid ((k3.block tb ht9 (fun hh => HTH.out.2.2 (mem_ownB.1 hh))).trans H9.out); have T10 := Lib.hid (show (Value.slice e11 q11 f11).ownBlock ≠ some tb from fun e => by rcases g3 tb (mem_ownB.2 e) with h | h; (exact HTH.out.2.2 (mem_ownB.1 h)); omega); have ht10 : tb < w10.heap.size := Nat.lt_of_lt_of_le ht9 k3.size; clear h3 k3 g3)
                            | fail)
                          have r10 := HR0.out w10 H10.out
                          refine hit_region 150 20 18 19 w10 g tb 0 T c18 i qa qn qc (jx : Int) dx ⟨_, rfl, rfl, rfl, rfl, by kernel_rfl⟩ ⟨_, rfl, rfl, rfl, rfl, by kernel_rfl⟩ ⟨_, rfl, rfl, rfl, rfl, by kernel_rfl⟩ ⟨_, rfl, rfl, rfl, rfl, by kernel_rfl⟩ ⟨_, rfl, rfl, rfl, rfl, by kernel_rfl⟩ ⟨_, rfl, rfl, rfl, rfl, by kernel_rfl⟩ ⟨_, rfl, rfl, rfl, rfl, by kernel_rfl⟩ ⟨_, rfl, rfl, rfl, rfl, by kernel_rfl⟩ ⟨_, rfl, rfl, rfl, rfl, by kernel_rfl⟩ ⟨_, rfl, rfl, rfl, rfl, by kernel_rfl⟩ ⟨_, rfl, rfl, rfl, rfl, by kernel_rfl⟩ ⟨_, rfl, rfl, rfl, rfl, by kernel_rfl⟩ ⟨_, rfl, rfl, rfl, rfl, by kernel_rfl⟩ ⟨_, rfl, rfl, rfl, rfl, by kernel_rfl⟩ ⟨_, rfl, rfl, rfl, rfl, by kernel_rfl⟩ rfl (by kernel_rfl) (by kernel_rfl) (by show 150 + 13 ≤ 186; decide) (by decide) (by decide) (by decide) (by decide) (by decide) (by decide) rfl rfl rfl rfl hiT (by rw [Nat.zero_add]; exact r10) ht10 HJW.out (fun X hb => CF.out X (B10.out.trans (hb.mono B10.out.size)) jx hjxN dx HD.out) ?_
                          intro E w11 bb hE hbb hblk hb11
                          have B11 := Lib.hid (B10.out.trans (hb11.mono B10.out.size))
                          have S11 := Lib.hid (S10.out.on hb11)
                          have H11 := Lib.hid ((hb11.block _ ht10).trans H10.out)
                          have ht11 : tb < w11.heap.size := Nat.lt_of_lt_of_le ht10 hb11.size
                          have x0 : w11.cell? ⟨bb, 0, none⟩ = some (.int .i64 dx) := hblk.cell 0
                          have x1 : w11.cell? ⟨bb, 1, none⟩ = some (.int .u32 (jx : Int)) := hblk.cell 1
                          have HBK := Lib.hid hblk
                          obtain ⟨room, hroom⟩ : ∃ room, decide ((m13 : Int) < ww) = room := ⟨_, rfl⟩
                          have HBN2 := Lib.hid (show st.best.length = m13 from ownB_n S11.out.best)
                          have HROOM := Lib.hid (show st.best.length < W ↔ room = true from by
                            rw [← hroom, decide_eq_true_iff, HBN2.out]
                            have := HWW.out
                            omega)
                          simp only [filledR, dsH, hE, Nat.reduceLT, Nat.reduceAdd, Nat.reduceEqDiff, if_true, if_false]
                          clear hE hbb hblk hb11 r10 r0
                          go_simp
                          go_step
                          cases room with
                          | true =>
                            have HE2 := Lib.hid (show G.meetI q W (lev : Int) st (jx : Int) = ⟨st.met ++ [jx], ins (dx, (jx : Int)) st.waits, (ins (dx, (jx : Int)) st.best).take W⟩ from by
                              rw [HE.out, HHIT.out, if_pos (.inl (HROOM.out.2 rfl))])
                            clear HROOM
                            go_wp2_with (fail)
                            go_quiet (fail)
                            obtain ⟨wz, hwz⟩ : ∃ wz, w11.drewN nq = wz := ⟨_, rfl⟩
                            have HBZ := Lib.hid (show Below w11.heap.size w11 wz from by rw [← hwz]; exact below_draws (Below.refl _ _) _)
                            rw [hwz]
                            clear hwz hroom
                            as_aux_lemma =>
                              have SZ := Lib.hid (S11.out.on HBZ.out)
                              have BZ := Lib.hid (B11.out.trans (HBZ.out.mono B11.out.size))
                              have HZZ := Lib.hid ((HBZ.out.block _ ht11).trans H11.out)
                              have htz : tb < wz.heap.size := Nat.lt_of_lt_of_le ht11 HBZ.out.size
                              have HBKZ := Lib.hid ((Kept.of_below (F := []) HBZ.out (Nat.le_refl _)).blk HBK.out (by simp))
                              have x0 : wz.cell? ⟨bb, 0, none⟩ = some (.int .i64 dx) := HBKZ.out.cell 0
                              have x1 : wz.cell? ⟨bb, 1, none⟩ = some (.int .u32 (jx : Int)) := HBKZ.out.cell 1
                              have HWL := Lib.hid (show st.waits.length ≤ 100000 ∧ st.best.length ≤ 256 from ⟨by have := HSB.out.2.1; omega, HSB.out.2.2.1⟩)
                              have CI1 := Lib.hid (into_any b12 m12 d12 _ (dx, (jx : Int)) wz SZ.out.waits.rd (by have h7 := SZ.out.waits.rd.len; have h8 := HWL.out; simp only at h7; omega))
                              have CI2 := Lib.hid (fun (X : World) (hb : Below wz.heap.size wz X) => into_any _ m13 d13 _ (dx, (jx : Int)) X (HReads.of_own (SZ.out.on hb).best.own (by have h8 := HWL.out; show st.best.length ≤ 1000000; omega)) (by have h7 := ownB_n SZ.out.best; have h8 := HWL.out; simp only at h7; omega))
                              go_wp2_with (fail)
                              refine CI1.out.mono ?_
                              rintro e w12 ⟨v5, rfl, ho5, hb5⟩
                              obtain ⟨a5, n5, c5, rfl⟩ := ho5.parts11
                              have O5 := Lib.hid ho5
                              have BB5 := Lib.hid hb5
                              have HBK5 := (Kept.of_below (F := []) hb5 (Nat.le_refl _)).blk HBKZ.out (by simp)
                              have y0 : w12.cell? ⟨bb, 0, none⟩ = some (.int .i64 dx) := HBK5.cell 0
                              have y1 : w12.cell? ⟨bb, 1, none⟩ = some (.int .u32 (jx : Int)) := HBK5.cell 1
                              have C6 := Lib.hid (CI2.out w12 hb5)
                              clear ho5 hb5 HBK5 x0 x1 CI1 CI2
                              go_wp2_with (fail)
                              refine C6.out.mono ?_
                              rintro e w13 ⟨v6, rfl, ho6, hb6⟩
                              obtain ⟨a6, n6, c6, rfl⟩ := ho6.parts11
                              have BB6 := Lib.hid hb6
                              have C7 := Lib.hid (first_any a6 n6 c6 ww _ w13 (HReads.of_own ho6.own (by have h8 := HWL.out; rw [ins_len]; show st.best.length + 1 ≤ 1000000; omega)))
                              clear ho6 hb6 C6 y0 y1
                              go_wp2_with (fail)
                              refine C7.out.mono ?_
                              rintro e w14 ⟨v7, rfl, ho7, hb7⟩
                              obtain ⟨a7, n7, c7, rfl⟩ := ho7.parts11
                              have B57 := BB6.out.trans (hb7.mono BB6.out.size)
                              have S14 := Lib.hid (show RWs w.heap.size w14 (.slice e11 q11 f11) a5 n5 c5 (.slice a7 n7 c7) ⟨st.met ++ [jx], ins (dx, (jx : Int)) st.waits, (ins (dx, (jx : Int)) st.best).take W⟩ from by
                                refine ⟨RowC.on (RowC.on SZ.out.met BB5.out) B57, WR.own (((O5.out.mono BZ.out.size).kept (F := []) (Kept.of_below B57 (Nat.le_refl _)) (by simp))) (by have h8 := HWL.out; rw [ins_len]; show st.waits.length + 1 ≤ 1000000; omega), ?_⟩
                                have h9 := ho7.mono (Nat.le_trans BZ.out.size (Nat.le_trans BB5.out.size BB6.out.size))
                                rw [show ww.toNat = W from by have := HWW.out; omega] at h9
                                exact h9)
                              have BALL := BB5.out.trans (B57.mono BB5.out.size)
                              have B14 := Lib.hid (BZ.out.trans (BALL.mono BZ.out.size))
                              have HZE := Lib.hid ((BALL.block _ htz).trans HZZ.out)
                              have hte : tb < w14.heap.size := Nat.lt_of_lt_of_le htz BALL.size
                              clear ho7 hb7 B57 C7 BALL
                              go_wp2
                              go_roundw
                              case rel => exact ⟨i + 1, q11, f11, n5, c5, n7, c7, e11, a5, a7, KM.out, by go_num, rfl, rfl, rfl, by rw [HTK.out, HE2.out]; exact S14, B14, fun tb' e' => by
                                simp at e'
                                subst e'
                                exact ⟨HZE.out, hte, T10.out⟩⟩
                              case measure => simp [intOf]; omega
                          | false =>
                            obtain ⟨y2, hy2⟩ : ∃ y2 : Nat, m13 = y2 + 1 := ⟨m13 - 1, by
                              have h1 : ¬ st.best.length < W := fun hh => by
                                have := HROOM.out.1 hh
                                cases this
                              have := HWB.out
                              have := HBN2.out
                              omega⟩
                            obtain ⟨less, hless⟩ : ∃ less, ltH (dx, (jx : Int)) (lastL st.best) = less := ⟨_, rfl⟩
                            have HYY := Lib.hid (show lastL st.best = st.best.getD y2 (0, 0) from by
                              unfold lastL
                              rw [List.getLast?_eq_getElem?, List.getD_eq_getElem?_getD, HBN2.out, hy2]
                              rfl)
                            obtain ⟨y, hy⟩ : ∃ y, lastL st.best = y := ⟨_, rfl⟩
                            have hyw2 : IntKind.i64.wrap ((m13 : Int) - 1) = (y2 : Int) := by
                              have := HBN2.out
                              have := HSB.out.2.2.1
                              rw [IntKind.wrap_i64]
                              omega
                            obtain ⟨gb, hgb, -, hgbl, hg0, hg1⟩ := hit_cells S11.out.best.own (show y2 < st.best.length from by rw [HBN2.out, hy2]; omega)
                            subst hgb
                            rw [← HYY.out, hy] at hg0 hg1
                            rw [hy] at hless
                            have HLY := Lib.hid hless
                            have HLST := Lib.hid hy
                            have hyn2 : y2 < m13 := by omega
                            have HSC := Lib.hid (fun (X : World) (hb : Below w11.heap.size w11 X) => show X.cell? ⟨gb, y2 * 2, none⟩ = some (.int .i64 y.1) ∧ X.cell? ⟨gb, y2 * 2 + 1, none⟩ = some (.int .u32 y.2) ∧ X.cell? ⟨bb, 0, none⟩ = some (.int .i64 dx) ∧ X.cell? ⟨bb, 1, none⟩ = some (.int .u32 (jx : Int)) ∧ Below w11.heap.size w11 X from by
                              have h8 := (Kept.of_below (F := []) hb (Nat.le_refl _)).blk HBK.out (by simp)
                              exact ⟨(hb.cell (p := ⟨gb, y2 * 2, none⟩) hgbl).trans hg0, (hb.cell (p := ⟨gb, y2 * 2 + 1, none⟩) hgbl).trans hg1, h8.cell 0, h8.cell 1, hb⟩)
                            have HNR := Lib.hid (show ¬ st.best.length < W from fun hh => by
                              have := HROOM.out.1 hh
                              cases this)
                            clear hy hg0 hg1 hy2 HROOM hless
                            go_wp2_with (fail)
                            go_region_held3 (fun X => X.cell? ⟨gb, y2 * 2, none⟩ = some (.int .i64 y.1) ∧ X.cell? ⟨gb, y2 * 2 + 1, none⟩ = some (.int .u32 y.2) ∧ X.cell? ⟨bb, 0, none⟩ = some (.int .i64 dx) ∧ X.cell? ⟨bb, 1, none⟩ = some (.int .u32 (jx : Int)) ∧ Below w11.heap.size w11 X)
                              (first
                                | (go_keep; done)
                                | exact HSC.out _ (Below.refl _ _)
                                | exact HSC.out _ (Below.refl _ _).drew
                                | (go_split_ands; exact HSC.out _ (below_on (by assumption) hbel)))
                              (first
                                | (go_at_call 19; refine (rless_eq (dx, (jx : Int)) y less HLY _).mono ?_; rintro e w' ⟨rfl, hbel⟩))
                            all_goals
                              rename_i hH
                              rename World => wz
                              have HBZ := Lib.hid (show Below w11.heap.size w11 wz from hH.2.2.2.2)
                              clear hH hbel hyw2 hyn2 hroom HSC
                              cases less with
                              | true =>
                                have HE2 := Lib.hid (show G.meetI q W (lev : Int) st (jx : Int) = ⟨st.met ++ [jx], ins (dx, (jx : Int)) st.waits, (ins (dx, (jx : Int)) st.best).take W⟩ from by
                                  rw [HE.out, HHIT.out, if_pos (.inr (by rw [HLST.out]; exact HLY.out))])
                                as_aux_lemma =>
                                  have SZ := Lib.hid (S11.out.on HBZ.out)
                                  have BZ := Lib.hid (B11.out.trans (HBZ.out.mono B11.out.size))
                                  have HZZ := Lib.hid ((HBZ.out.block _ ht11).trans H11.out)
                                  have htz : tb < wz.heap.size := Nat.lt_of_lt_of_le ht11 HBZ.out.size
                                  have HBKZ := Lib.hid ((Kept.of_below (F := []) HBZ.out (Nat.le_refl _)).blk HBK.out (by simp))
                                  have x0 : wz.cell? ⟨bb, 0, none⟩ = some (.int .i64 dx) := HBKZ.out.cell 0
                                  have x1 : wz.cell? ⟨bb, 1, none⟩ = some (.int .u32 (jx : Int)) := HBKZ.out.cell 1
                                  have HWL := Lib.hid (show st.waits.length ≤ 100000 ∧ st.best.length ≤ 256 from ⟨by have := HSB.out.2.1; omega, HSB.out.2.2.1⟩)
                                  have CI1 := Lib.hid (into_any b12 m12 d12 _ (dx, (jx : Int)) wz SZ.out.waits.rd (by have h7 := SZ.out.waits.rd.len; have h8 := HWL.out; simp only at h7; omega))
                                  have CI2 := Lib.hid (fun (X : World) (hb : Below wz.heap.size wz X) => into_any _ m13 d13 _ (dx, (jx : Int)) X (HReads.of_own (SZ.out.on hb).best.own (by have h8 := HWL.out; show st.best.length ≤ 1000000; omega)) (by have h7 := ownB_n SZ.out.best; have h8 := HWL.out; simp only at h7; omega))
                                  go_wp2_with (fail)
                                  refine CI1.out.mono ?_
                                  rintro e w12 ⟨v5, rfl, ho5, hb5⟩
                                  obtain ⟨a5, n5, c5, rfl⟩ := ho5.parts11
                                  have O5 := Lib.hid ho5
                                  have BB5 := Lib.hid hb5
                                  have HBK5 := (Kept.of_below (F := []) hb5 (Nat.le_refl _)).blk HBKZ.out (by simp)
                                  have y0 : w12.cell? ⟨bb, 0, none⟩ = some (.int .i64 dx) := HBK5.cell 0
                                  have y1 : w12.cell? ⟨bb, 1, none⟩ = some (.int .u32 (jx : Int)) := HBK5.cell 1
                                  have C6 := Lib.hid (CI2.out w12 hb5)
                                  clear ho5 hb5 HBK5 x0 x1 CI1 CI2
                                  go_wp2_with (fail)
                                  refine C6.out.mono ?_
                                  rintro e w13 ⟨v6, rfl, ho6, hb6⟩
                                  obtain ⟨a6, n6, c6, rfl⟩ := ho6.parts11
                                  have BB6 := Lib.hid hb6
                                  have C7 := Lib.hid (first_any a6 n6 c6 ww _ w13 (HReads.of_own ho6.own (by have h8 := HWL.out; rw [ins_len]; show st.best.length + 1 ≤ 1000000; omega)))
                                  clear ho6 hb6 C6 y0 y1
                                  go_wp2_with (fail)
                                  refine C7.out.mono ?_
                                  rintro e w14 ⟨v7, rfl, ho7, hb7⟩
                                  obtain ⟨a7, n7, c7, rfl⟩ := ho7.parts11
                                  have B57 := BB6.out.trans (hb7.mono BB6.out.size)
                                  have S14 := Lib.hid (show RWs w.heap.size w14 (.slice e11 q11 f11) a5 n5 c5 (.slice a7 n7 c7) ⟨st.met ++ [jx], ins (dx, (jx : Int)) st.waits, (ins (dx, (jx : Int)) st.best).take W⟩ from by
                                    refine ⟨RowC.on (RowC.on SZ.out.met BB5.out) B57, WR.own (((O5.out.mono BZ.out.size).kept (F := []) (Kept.of_below B57 (Nat.le_refl _)) (by simp))) (by have h8 := HWL.out; rw [ins_len]; show st.waits.length + 1 ≤ 1000000; omega), ?_⟩
                                    have h9 := ho7.mono (Nat.le_trans BZ.out.size (Nat.le_trans BB5.out.size BB6.out.size))
                                    rw [show ww.toNat = W from by have := HWW.out; omega] at h9
                                    exact h9)
                                  have BALL := BB5.out.trans (B57.mono BB5.out.size)
                                  have B14 := Lib.hid (BZ.out.trans (BALL.mono BZ.out.size))
                                  have HZE := Lib.hid ((BALL.block _ htz).trans HZZ.out)
                                  have hte : tb < w14.heap.size := Nat.lt_of_lt_of_le htz BALL.size
                                  clear ho7 hb7 B57 C7 BALL
                                  go_wp2
                                  go_roundw
                                  case rel => exact ⟨i + 1, q11, f11, n5, c5, n7, c7, e11, a5, a7, KM.out, by go_num, rfl, rfl, rfl, by rw [HTK.out, HE2.out]; exact S14, B14, fun tb' e' => by
                                    simp at e'
                                    subst e'
                                    exact ⟨HZE.out, hte, T10.out⟩⟩
                                  case measure => simp [intOf]; omega
                              | false =>
                                have HE2 := Lib.hid (show G.meetI q W (lev : Int) st (jx : Int) = ⟨st.met ++ [jx], st.waits, st.best⟩ from by
                                  rw [HE.out, HHIT.out, if_neg (fun hh => hh.elim HNR.out fun hh => by rw [HLST.out, HLY.out] at hh; cases hh)])
                                have SZ := Lib.hid (S11.out.on HBZ.out)
                                have BZ := Lib.hid (B11.out.trans (HBZ.out.mono B11.out.size))
                                have HZZ := Lib.hid ((HBZ.out.block _ ht11).trans H11.out)
                                have htz : tb < wz.heap.size := Nat.lt_of_lt_of_le ht11 HBZ.out.size
                                go_wp2
                                go_roundw
                                case rel => exact ⟨i + 1, q11, f11, m12, d12, m13, d13, e11, b12, _, KM.out, by go_num, rfl, rfl, rfl, by rw [HTK.out, HE2.out]; exact SZ, BZ, fun tb' e' => by
                                  simp at e'
                                  subst e'
                                  exact ⟨HZZ.out, htz, T10.out⟩⟩
                                case measure => simp [intOf]; omega
                    · obtain rfl : i = T := by omega
                      have e0 : NX.take i = NX := List.take_of_length_le (by rw [HNXL.out]; exact Nat.le_refl _)
                      have hm1 := HMLT.out
                      have hm2 := HMS.out
                      obtain ⟨k', rfl⟩ : ∃ k', k = k' + 1 := ⟨k - 1, by omega⟩
                      have HSEND := Lib.hid (show st = G.meets q W ⟨met, ws, best⟩ (G.nbrs j lev) from by
                        rw [← HSTE.out, e0, ← HNXE.out]
                        exact GraphV.meets_next HR.out q W HON.out _)
                      have HINV := Lib.hid (show InvR G q W (lev : Int) R w (.slice b11 m11 d11) (.slice b12 m12 d12) (.slice b13 m13 d13) wr k' from by
                        refine ⟨st, m11, d11, m12, d12, m13, d13, b11, b12, b13, rfl, rfl, rfl, ?_, ?_, ?_, .inl h0, HSX.out, HBX.out⟩
                        · have h1 := walkF_go (k := k') (g := G) (q := q) (W := W) (level := lev) (s := ⟨met, (d, (j : Int)) :: ws, best⟩) (c := (d, (j : Int))) (ws := ws) rfl HNO.out
                          rw [HRK.out] at h1
                          rw [Int.toNat_natCast, h1, HSEND.out]
                          rw [show ((d, (j : Int)) : Hit).2.toNat = j from Int.toNat_natCast j]
                        · rw [Int.toNat_natCast, HSEND.out]
                          exact H2OK.out
                        · rw [HSEND.out]
                          omega)
                      clear e0 hm1 hm2 HSX HBX HTX
                      go_wp2
                      go_roundw
                      case rel => exact ⟨k', m11, d11, m12, d12, m13, d13, b11, b12, b13, rfl, rfl, rfl, HINV⟩
                      case measure =>
                        have h1 := (leastK_spec HINV.out).2
                        have h2 := HK.out
                        show leastK _ < leastK _
                        rw [h2]
                        omega
              · as_aux_lemma =>
                  have e0 : ((lev : Int) == 0) = false := by simpa using hl0
                  have e1 : decide ((lev : Int) = 0) = false := decide_eq_false (by omega)
                  have e2 : decide (lev = 0) = false := decide_eq_false hl0
                  obtain ⟨NX, hNX⟩ : ∃ NX, natsI lks = NX := ⟨_, rfl⟩
                  have HNXE := Lib.hid (show G.nextI j lev = NX from by
                    unfold GraphV.nextI
                    rw [if_neg hl0, HLKS.out, List.append_nil]
                    exact hNX)
                  have HNXC := Lib.hid (show intsC lks = NX.map (Value.int .i64) from by rw [← hNX]; simp [natsI])
                  have HNXN := Lib.hid (show NX.length = lks.length from by rw [← hNX, natsI_len])
                  clear hl0 hNX
                  go_wp2_with (first
                    | (at_builtin; go_must (refine app_one wq rfl _ _ 46 3 rfl Try.underlying46 (.int .i64 0) 8 int_info11 rfl wq.heap.size (.slice none 0 0) [] rfl (World.ownsRow_nil wq wq.heap.size _ 1) va vn vc (intsC lks) rfl (by rw [List.length_map]; exact HVN.out) (fun ha => HSRC.out.1 ha) (by have h8 := HSRC.out.2 lks.length (Nat.le_refl _); rw [List.take_length, HVN.out] at h8; exact h8) (ints_one _) (by simp; omega) (by simp; omega) (Nat.le_refl _) ?_); intro v1 w8 h3 h4; obtain ⟨a18, T, c18, rfl, hm1⟩ := ownsRow_slice h3; have BBQ8 := Lib.hid (((Kept.refl [] wq).grown h4 fun q hq => (by cases hq)).below (B := wq.heap.size) (by simp) (Nat.le_refl _)); have NN := Lib.hid (show lks.length = T from by rw [hm1.out]; simp); have RR := Lib.hid (show w8.ownsRow wq.heap.size 3 1 (.slice a18 T c18) T (intsC lks) from by have h5 := h3; simp only [List.nil_append] at h5; rw [List.length_map, NN.out] at h5; exact h5); clear h3 h4 hm1)
                    | fail)
                  have HNXL := Lib.hid (show NX.length = T from by rw [HNXN.out, NN.out])
                  have H18 := Lib.hid (show w8.ownsRow wq.heap.size 3 1 (.slice a18 T c18) T (NX.map (Value.int .i64)) from by rw [← HNXC.out]; exact RR.out)
                  have HTB : T ≤ 100002 := by have := HLL.out; have := NN.out; omega
                  clear e0 e1 e2
                  have S8 := Lib.hid (HSQ.out.on BBQ8.out)
                  have B8 := Lib.hid (HB4.out.trans (BBQ8.out.mono HB4.out.size))
  
                  have HROW := Lib.hid (show ∀ (i : Nat), i < T → ∃ (tb : Nat), a18 = some ⟨tb, 0, none⟩ ∧ tb < w8.heap.size ∧ wq.heap.size ≤ tb ∧ w8.cell? ⟨tb, i, none⟩ = some (.int .i64 (NX.getD i 0)) ∧ ∀ X, Below w8.heap.size w8 X → X.heap[tb]? = w8.heap[tb]? from fun i hi => by
                    rcases own_cells1 (show w8.ownsRow wq.heap.size 3 1 _ (NX.map (Value.int .i64)).length (NX.map (Value.int .i64)) from by rw [List.length_map, HNXL.out]; exact H18.out) with ⟨_, h4⟩ | ⟨tb, c2, e1, _, h3, h4, h5⟩
                    · have := congrArg List.length h4
                      rw [List.length_map, HNXL.out] at this
                      simp at this
                      omega
                    · simp only [Value.slice.injEq] at e1
                      refine ⟨tb, e1.1, h4, h3, ?_, fun X hb => hb.block tb h4⟩
                      rw [h5 i (by rw [List.length_map, HNXL.out]; exact hi), List.getElem?_map, List.getElem?_eq_getElem (by rw [HNXL.out]; exact hi), List.getD_eq_getElem?_getD, List.getElem?_eq_getElem (by rw [HNXL.out]; exact hi)]
                      rfl)
                  have HST8 := Lib.hid (show ∀ tb, a18 = some ⟨tb, 0, none⟩ → tb < w8.heap.size ∧ (Value.slice a11 n11 c11).ownBlock ≠ some tb from fun tb e => by
                    have h8 := World.ownsRow.lt H18.out tb (by rw [e]; rfl)
                    refine ⟨h8.2, fun hh => ?_⟩
                    have h9 := (RowC.lt HSQ.out.met tb hh).2
                    omega)
                  clear BBQ8 HSRC s1 s2 s3 q1
                  go_wp2_with (fail)
                  go_loopw [11, 12, 13, 19] (fun s11 s12 s13 s19 wx => ∃ (i m11 d11 m12 d12 m13 d13 : Nat) (b11 b12 b13 : Option Addr), i ≤ T ∧ s19 = .int .i64 (i : Int) ∧ s11 = .slice b11 m11 d11 ∧ s12 = .slice b12 m12 d12 ∧ s13 = .slice b13 m13 d13 ∧ Hid (RWs w.heap.size wx (.slice b11 m11 d11) b12 m12 d12 (.slice b13 m13 d13) ((NX.take i).foldl (G.meetI q W (lev : Int)) ⟨met, ws, best⟩)) ∧ Hid (Below w.heap.size w wx) ∧ Hid (∀ tb, a18 = some ⟨tb, 0, none⟩ → wx.heap[tb]? = w8.heap[tb]? ∧ tb < wx.heap.size ∧ (Value.slice b11 m11 d11).ownBlock ≠ some tb)) (fun _ _ _ s19 _ => T - (intOf s19).toNat)
                  case atStart => exact ⟨0, n11, c11, mw, c2, n13, c13, a11, a2, _, Nat.zero_le _, rfl, rfl, rfl, rfl, S8, B8.out, fun tb e => ⟨rfl, HST8.out tb e⟩⟩
                  case round =>
                    clear S8 B8
                    obtain ⟨i, m11, d11, m12, d12, m13, d13, b11, b12, b13, hi, rfl, rfl, rfl, rfl, HSX, HBX, HTX⟩ := hrel
                    obtain ⟨st, hst⟩ : ∃ st, (NX.take i).foldl (G.meetI q W (lev : Int)) ⟨met, ws, best⟩ = st := ⟨_, rfl⟩
                    have HSTE := Lib.hid hst
                    rw [hst] at HSX
                    have HOKI := Lib.hid (show WalkOk G q W lev st from by
                      rw [← hst]
                      exact H1OK.out.foldI)
                    clear hst
                    by_cases hiT : i < T
                    · obtain ⟨tb, rfl, htl, htlo, htc, htb⟩ := HROW.out i hiT
                      obtain ⟨x, hx⟩ : ∃ x, NX.getD i 0 = x := ⟨_, rfl⟩
                      rw [hx] at htc
                      have HTK := Lib.hid (show (NX.take (i + 1)).foldl (G.meetI q W (lev : Int)) ⟨met, ws, best⟩ = G.meetI q W (lev : Int) st x from by
                        rw [getD_take (by rw [HNXL.out]; exact hiT) hx, List.foldl_append, HSTE.out]
                        rfl)
                      obtain ⟨hth, htx, htn⟩ := HTX.out tb rfl
                      have r0 : wr.cell? ⟨tb, i, none⟩ = some (.int .i64 x) := (World.cell?_of_block (a := ⟨tb, i, none⟩) hth).trans htc
                      have HR0 := Lib.hid (fun (X : World) (hb : X.heap[tb]? = w8.heap[tb]?) => show X.cell? ⟨tb, i, none⟩ = some (.int .i64 x) from (World.cell?_of_block (a := ⟨tb, i, none⟩) hb).trans htc)
                      have HTH := Lib.hid (And.intro hth (And.intro htx htn))
                      have HSB := Lib.hid (HSI.out st HOKI.out)
                      have hrd := HSX.out.met.reads (by have := HSB.out.1; omega) (fun y hy => by have := HSB.out.2.2.2 y hy; omega)
                      obtain ⟨has, hhas⟩ : ∃ has, decide (x ∈ natsI st.met) = has := ⟨_, rfl⟩
                      have C2 := Lib.hid (rhas_any wr b11 m11 d11 _ hrd x has hhas)
                      have HHAS := Lib.hid hhas
                      have KM := Lib.hid (show i + 1 ≤ T from hiT)
                      have hwl : w.heap.size ≤ wr.heap.size := HBX.out.size
                      clear hrd hhas hx htc htb hth htn
                      cases has with
                      | true =>
                        have HE := Lib.hid (meetI_old (g := G) (q := q) (W := W) (level := (lev : Int)) (of_decide_eq_true HHAS.out))
                        go_wp2_with (first
                          | (go_at_call 14; refine C2.out.mono ?_; rintro e w9 ⟨rfl, h5⟩; have BB := Lib.hid h5; clear h5)
                          | fail)
                        go_roundw
                        case rel => exact ⟨i + 1, m11, d11, m12, d12, m13, d13, b11, b12, b13, KM.out, by go_num, rfl, rfl, rfl, by rw [HTK.out, HE.out]; exact HSX.out.on BB.out, HBX.out.trans (BB.out.mono HBX.out.size), fun tb' e' => by
                          simp at e'
                          subst e'
                          exact ⟨(BB.out.block _ HTH.out.2.1).trans HTH.out.1, Nat.lt_of_lt_of_le HTH.out.2.1 BB.out.size, HTH.out.2.2⟩⟩
                        case measure => simp [intOf]; omega
                      | false =>
                        cases hz : G.onB x (lev : Int) with
                        | false =>
                          have HE := Lib.hid (meetI_off (g := G) (q := q) (W := W) (level := (lev : Int)) (s := st) hz)
                          have C3 := Lib.hid (fun (X : World) (hb : Below w.heap.size w X) => CT.out X hb x false hz)
                          clear hz
                          go_wp2_with (first
                            | (go_at_call 14; refine C2.out.mono ?_; rintro e w9 ⟨rfl, h5⟩; have BB := Lib.hid h5; have B9 := Lib.hid (HBX.out.trans (h5.mono HBX.out.size)); have r9 := HR0.out w9 ((h5.block _ htx).trans HTH.out.1); clear h5)
                            | (go_at_call 27; refine (C3.out _ B9.out).mono ?_; rintro e w' ⟨rfl, h3⟩; subst h3)
                            | fail)
                          go_roundw
                          case rel => exact ⟨i + 1, m11, d11, m12, d12, m13, d13, b11, b12, b13, KM.out, by go_num, rfl, rfl, rfl, by rw [HTK.out, HE.out]; exact HSX.out.on BB.out, B9.out, fun tb' e' => by
                            simp at e'
                            subst e'
                            exact ⟨(BB.out.block _ HTH.out.2.1).trans HTH.out.1, Nat.lt_of_lt_of_le HTH.out.2.1 BB.out.size, HTH.out.2.2⟩⟩
                          case measure => simp [intOf]; omega
                        | true =>
                          obtain ⟨jx, rfl⟩ : ∃ jx : Nat, x = (jx : Int) := ⟨x.toNat, by have := onB_nonneg hz; omega⟩
                          have hjxN := HJ.out jx hz
                          have HNM := Lib.hid (show jx ∉ st.met from fun hm => (of_decide_eq_false HHAS.out) (mem_natsI.2 hm))
                          have C3 := Lib.hid (fun (X : World) (hb : Below w.heap.size w X) => CT.out X hb (jx : Int) true hz)
                          have HE := Lib.hid (meetI_new (g := G) (q := q) (W := W) (level := (lev : Int)) (s := st) hz HNM.out)
                          obtain ⟨dx, hdx⟩ : ∃ dx, (G.hit q jx).1 = dx := ⟨_, rfl⟩
                          have HD := Lib.hid hdx
                          have HHIT := Lib.hid (show G.hit q jx = (dx, (jx : Int)) from Prod.ext hdx rfl)
                          have hjw2 : IntKind.u32.wrap (jx : Int) = (jx : Int) := by rw [IntKind.wrap_u32]; omega
                          have HJW := Lib.hid hjw2
                          have hsl1 := Lib.hid (show st.met.length ≤ 1000000 from by have := HSB.out.1; omega)
                          clear hz hdx hjw2 HHAS
                          go_upto_region 27 with (first
                            | (go_at_call 14; refine C2.out.mono ?_; rintro e w9 ⟨rfl, h5⟩; have S9 := Lib.hid (HSX.out.on h5); have B9 := Lib.hid (HBX.out.trans (h5.mono HBX.out.size)); have H9 := Lib.hid ((h5.block _ htx).trans HTH.out.1); have r9 := HR0.out w9 H9.out; have hl9 : w.heap.size ≤ w9.heap.size := B9.out.size; have ht9 : tb < w9.heap.size := Nat.lt_of_lt_of_le htx h5.size; clear h5)
                            | (go_at_call 27; refine (C3.out _ B9.out).mono ?_; rintro e w' ⟨rfl, h3⟩; subst h3)
                            | (at_builtin; go_must (refine app_int w9 rfl _ _ rfl w.heap.size (.slice b11 m11 d11) _ jx rfl rfl S9.out.met hl9 hsl1.out ?_); intro v3 w10 h3 k3 g3; obtain ⟨e11, q11, f11, rfl, -⟩ := h3.parts; have S10 := Lib.hid (S9.out.grown k3 h3); have B10 := Lib.hid (B9.out.trans (k3.below (fun b hb => (RowC.lt S9.out.met b (mem_ownB.1 hb)).1) hl9)); have H10 := Lib.hid ((k3.block tb ht9 (fun hh => HTH.out.2.2 (mem_ownB.1 hh))).trans H9.out); have T10 := Lib.hid (show (Value.slice e11 q11 f11).ownBlock ≠ some tb from fun e => by rcases g3 tb (mem_ownB.2 e) with h | h; (exact HTH.out.2.2 (mem_ownB.1 h)); omega); have ht10 : tb < w10.heap.size := Nat.lt_of_lt_of_le ht9 k3.size; clear h3 k3 g3)
                            | fail)
                          have r10 := HR0.out w10 H10.out
                          refine hit_region 150 20 18 19 w10 g tb 0 T c18 i qa qn qc (jx : Int) dx ⟨_, rfl, rfl, rfl, rfl, by kernel_rfl⟩ ⟨_, rfl, rfl, rfl, rfl, by kernel_rfl⟩ ⟨_, rfl, rfl, rfl, rfl, by kernel_rfl⟩ ⟨_, rfl, rfl, rfl, rfl, by kernel_rfl⟩ ⟨_, rfl, rfl, rfl, rfl, by kernel_rfl⟩ ⟨_, rfl, rfl, rfl, rfl, by kernel_rfl⟩ ⟨_, rfl, rfl, rfl, rfl, by kernel_rfl⟩ ⟨_, rfl, rfl, rfl, rfl, by kernel_rfl⟩ ⟨_, rfl, rfl, rfl, rfl, by kernel_rfl⟩ ⟨_, rfl, rfl, rfl, rfl, by kernel_rfl⟩ ⟨_, rfl, rfl, rfl, rfl, by kernel_rfl⟩ ⟨_, rfl, rfl, rfl, rfl, by kernel_rfl⟩ ⟨_, rfl, rfl, rfl, rfl, by kernel_rfl⟩ ⟨_, rfl, rfl, rfl, rfl, by kernel_rfl⟩ ⟨_, rfl, rfl, rfl, rfl, by kernel_rfl⟩ rfl (by kernel_rfl) (by kernel_rfl) (by show 150 + 13 ≤ 186; decide) (by decide) (by decide) (by decide) (by decide) (by decide) (by decide) rfl rfl rfl rfl hiT (by rw [Nat.zero_add]; exact r10) ht10 HJW.out (fun X hb => CF.out X (B10.out.trans (hb.mono B10.out.size)) jx hjxN dx HD.out) ?_
                          intro E w11 bb hE hbb hblk hb11
                          have B11 := Lib.hid (B10.out.trans (hb11.mono B10.out.size))
                          have S11 := Lib.hid (S10.out.on hb11)
                          have H11 := Lib.hid ((hb11.block _ ht10).trans H10.out)
                          have ht11 : tb < w11.heap.size := Nat.lt_of_lt_of_le ht10 hb11.size
                          have x0 : w11.cell? ⟨bb, 0, none⟩ = some (.int .i64 dx) := hblk.cell 0
                          have x1 : w11.cell? ⟨bb, 1, none⟩ = some (.int .u32 (jx : Int)) := hblk.cell 1
                          have HBK := Lib.hid hblk
                          obtain ⟨room, hroom⟩ : ∃ room, decide ((m13 : Int) < ww) = room := ⟨_, rfl⟩
                          have HBN2 := Lib.hid (show st.best.length = m13 from ownB_n S11.out.best)
                          have HROOM := Lib.hid (show st.best.length < W ↔ room = true from by
                            rw [← hroom, decide_eq_true_iff, HBN2.out]
                            have := HWW.out
                            omega)
                          simp only [filledR, dsH, hE, Nat.reduceLT, Nat.reduceAdd, Nat.reduceEqDiff, if_true, if_false]
                          clear hE hbb hblk hb11 r10 r0
                          go_simp
                          go_step
                          cases room with
                          | true =>
                            have HE2 := Lib.hid (show G.meetI q W (lev : Int) st (jx : Int) = ⟨st.met ++ [jx], ins (dx, (jx : Int)) st.waits, (ins (dx, (jx : Int)) st.best).take W⟩ from by
                              rw [HE.out, HHIT.out, if_pos (.inl (HROOM.out.2 rfl))])
                            clear HROOM
                            go_wp2_with (fail)
                            go_quiet (fail)
                            obtain ⟨wz, hwz⟩ : ∃ wz, w11.drewN nq = wz := ⟨_, rfl⟩
                            have HBZ := Lib.hid (show Below w11.heap.size w11 wz from by rw [← hwz]; exact below_draws (Below.refl _ _) _)
                            rw [hwz]
                            clear hwz hroom
                            as_aux_lemma =>
                              have SZ := Lib.hid (S11.out.on HBZ.out)
                              have BZ := Lib.hid (B11.out.trans (HBZ.out.mono B11.out.size))
                              have HZZ := Lib.hid ((HBZ.out.block _ ht11).trans H11.out)
                              have htz : tb < wz.heap.size := Nat.lt_of_lt_of_le ht11 HBZ.out.size
                              have HBKZ := Lib.hid ((Kept.of_below (F := []) HBZ.out (Nat.le_refl _)).blk HBK.out (by simp))
                              have x0 : wz.cell? ⟨bb, 0, none⟩ = some (.int .i64 dx) := HBKZ.out.cell 0
                              have x1 : wz.cell? ⟨bb, 1, none⟩ = some (.int .u32 (jx : Int)) := HBKZ.out.cell 1
                              have HWL := Lib.hid (show st.waits.length ≤ 100000 ∧ st.best.length ≤ 256 from ⟨by have := HSB.out.2.1; omega, HSB.out.2.2.1⟩)
                              have CI1 := Lib.hid (into_any b12 m12 d12 _ (dx, (jx : Int)) wz SZ.out.waits.rd (by have h7 := SZ.out.waits.rd.len; have h8 := HWL.out; simp only at h7; omega))
                              have CI2 := Lib.hid (fun (X : World) (hb : Below wz.heap.size wz X) => into_any _ m13 d13 _ (dx, (jx : Int)) X (HReads.of_own (SZ.out.on hb).best.own (by have h8 := HWL.out; show st.best.length ≤ 1000000; omega)) (by have h7 := ownB_n SZ.out.best; have h8 := HWL.out; simp only at h7; omega))
                              go_wp2_with (fail)
                              refine CI1.out.mono ?_
                              rintro e w12 ⟨v5, rfl, ho5, hb5⟩
                              obtain ⟨a5, n5, c5, rfl⟩ := ho5.parts11
                              have O5 := Lib.hid ho5
                              have BB5 := Lib.hid hb5
                              have HBK5 := (Kept.of_below (F := []) hb5 (Nat.le_refl _)).blk HBKZ.out (by simp)
                              have y0 : w12.cell? ⟨bb, 0, none⟩ = some (.int .i64 dx) := HBK5.cell 0
                              have y1 : w12.cell? ⟨bb, 1, none⟩ = some (.int .u32 (jx : Int)) := HBK5.cell 1
                              have C6 := Lib.hid (CI2.out w12 hb5)
                              clear ho5 hb5 HBK5 x0 x1 CI1 CI2
                              go_wp2_with (fail)
                              refine C6.out.mono ?_
                              rintro e w13 ⟨v6, rfl, ho6, hb6⟩
                              obtain ⟨a6, n6, c6, rfl⟩ := ho6.parts11
                              have BB6 := Lib.hid hb6
                              have C7 := Lib.hid (first_any a6 n6 c6 ww _ w13 (HReads.of_own ho6.own (by have h8 := HWL.out; rw [ins_len]; show st.best.length + 1 ≤ 1000000; omega)))
                              clear ho6 hb6 C6 y0 y1
                              go_wp2_with (fail)
                              refine C7.out.mono ?_
                              rintro e w14 ⟨v7, rfl, ho7, hb7⟩
                              obtain ⟨a7, n7, c7, rfl⟩ := ho7.parts11
                              have B57 := BB6.out.trans (hb7.mono BB6.out.size)
                              have S14 := Lib.hid (show RWs w.heap.size w14 (.slice e11 q11 f11) a5 n5 c5 (.slice a7 n7 c7) ⟨st.met ++ [jx], ins (dx, (jx : Int)) st.waits, (ins (dx, (jx : Int)) st.best).take W⟩ from by
                                refine ⟨RowC.on (RowC.on SZ.out.met BB5.out) B57, WR.own (((O5.out.mono BZ.out.size).kept (F := []) (Kept.of_below B57 (Nat.le_refl _)) (by simp))) (by have h8 := HWL.out; rw [ins_len]; show st.waits.length + 1 ≤ 1000000; omega), ?_⟩
                                have h9 := ho7.mono (Nat.le_trans BZ.out.size (Nat.le_trans BB5.out.size BB6.out.size))
                                rw [show ww.toNat = W from by have := HWW.out; omega] at h9
                                exact h9)
                              have BALL := BB5.out.trans (B57.mono BB5.out.size)
                              have B14 := Lib.hid (BZ.out.trans (BALL.mono BZ.out.size))
                              have HZE := Lib.hid ((BALL.block _ htz).trans HZZ.out)
                              have hte : tb < w14.heap.size := Nat.lt_of_lt_of_le htz BALL.size
                              clear ho7 hb7 B57 C7 BALL
                              go_wp2
                              go_roundw
                              case rel => exact ⟨i + 1, q11, f11, n5, c5, n7, c7, e11, a5, a7, KM.out, by go_num, rfl, rfl, rfl, by rw [HTK.out, HE2.out]; exact S14, B14, fun tb' e' => by
                                simp at e'
                                subst e'
                                exact ⟨HZE.out, hte, T10.out⟩⟩
                              case measure => simp [intOf]; omega
                          | false =>
                            obtain ⟨y2, hy2⟩ : ∃ y2 : Nat, m13 = y2 + 1 := ⟨m13 - 1, by
                              have h1 : ¬ st.best.length < W := fun hh => by
                                have := HROOM.out.1 hh
                                cases this
                              have := HWB.out
                              have := HBN2.out
                              omega⟩
                            obtain ⟨less, hless⟩ : ∃ less, ltH (dx, (jx : Int)) (lastL st.best) = less := ⟨_, rfl⟩
                            have HYY := Lib.hid (show lastL st.best = st.best.getD y2 (0, 0) from by
                              unfold lastL
                              rw [List.getLast?_eq_getElem?, List.getD_eq_getElem?_getD, HBN2.out, hy2]
                              rfl)
                            obtain ⟨y, hy⟩ : ∃ y, lastL st.best = y := ⟨_, rfl⟩
                            have hyw2 : IntKind.i64.wrap ((m13 : Int) - 1) = (y2 : Int) := by
                              have := HBN2.out
                              have := HSB.out.2.2.1
                              rw [IntKind.wrap_i64]
                              omega
                            obtain ⟨gb, hgb, -, hgbl, hg0, hg1⟩ := hit_cells S11.out.best.own (show y2 < st.best.length from by rw [HBN2.out, hy2]; omega)
                            subst hgb
                            rw [← HYY.out, hy] at hg0 hg1
                            rw [hy] at hless
                            have HLY := Lib.hid hless
                            have HLST := Lib.hid hy
                            have hyn2 : y2 < m13 := by omega
                            have HSC := Lib.hid (fun (X : World) (hb : Below w11.heap.size w11 X) => show X.cell? ⟨gb, y2 * 2, none⟩ = some (.int .i64 y.1) ∧ X.cell? ⟨gb, y2 * 2 + 1, none⟩ = some (.int .u32 y.2) ∧ X.cell? ⟨bb, 0, none⟩ = some (.int .i64 dx) ∧ X.cell? ⟨bb, 1, none⟩ = some (.int .u32 (jx : Int)) ∧ Below w11.heap.size w11 X from by
                              have h8 := (Kept.of_below (F := []) hb (Nat.le_refl _)).blk HBK.out (by simp)
                              exact ⟨(hb.cell (p := ⟨gb, y2 * 2, none⟩) hgbl).trans hg0, (hb.cell (p := ⟨gb, y2 * 2 + 1, none⟩) hgbl).trans hg1, h8.cell 0, h8.cell 1, hb⟩)
                            have HNR := Lib.hid (show ¬ st.best.length < W from fun hh => by
                              have := HROOM.out.1 hh
                              cases this)
                            clear hy hg0 hg1 hy2 HROOM hless
                            go_wp2_with (fail)
                            go_region_held3 (fun X => X.cell? ⟨gb, y2 * 2, none⟩ = some (.int .i64 y.1) ∧ X.cell? ⟨gb, y2 * 2 + 1, none⟩ = some (.int .u32 y.2) ∧ X.cell? ⟨bb, 0, none⟩ = some (.int .i64 dx) ∧ X.cell? ⟨bb, 1, none⟩ = some (.int .u32 (jx : Int)) ∧ Below w11.heap.size w11 X)
                              (first
                                | (go_keep; done)
                                | exact HSC.out _ (Below.refl _ _)
                                | exact HSC.out _ (Below.refl _ _).drew
                                | (go_split_ands; exact HSC.out _ (below_on (by assumption) hbel)))
                              (first
                                | (go_at_call 19; refine (rless_eq (dx, (jx : Int)) y less HLY _).mono ?_; rintro e w' ⟨rfl, hbel⟩))
                            all_goals
                              rename_i hH
                              rename World => wz
                              have HBZ := Lib.hid (show Below w11.heap.size w11 wz from hH.2.2.2.2)
                              clear hH hbel hyw2 hyn2 hroom HSC
                              cases less with
                              | true =>
                                have HE2 := Lib.hid (show G.meetI q W (lev : Int) st (jx : Int) = ⟨st.met ++ [jx], ins (dx, (jx : Int)) st.waits, (ins (dx, (jx : Int)) st.best).take W⟩ from by
                                  rw [HE.out, HHIT.out, if_pos (.inr (by rw [HLST.out]; exact HLY.out))])
                                as_aux_lemma =>
                                  have SZ := Lib.hid (S11.out.on HBZ.out)
                                  have BZ := Lib.hid (B11.out.trans (HBZ.out.mono B11.out.size))
                                  have HZZ := Lib.hid ((HBZ.out.block _ ht11).trans H11.out)
                                  have htz : tb < wz.heap.size := Nat.lt_of_lt_of_le ht11 HBZ.out.size
                                  have HBKZ := Lib.hid ((Kept.of_below (F := []) HBZ.out (Nat.le_refl _)).blk HBK.out (by simp))
                                  have x0 : wz.cell? ⟨bb, 0, none⟩ = some (.int .i64 dx) := HBKZ.out.cell 0
                                  have x1 : wz.cell? ⟨bb, 1, none⟩ = some (.int .u32 (jx : Int)) := HBKZ.out.cell 1
                                  have HWL := Lib.hid (show st.waits.length ≤ 100000 ∧ st.best.length ≤ 256 from ⟨by have := HSB.out.2.1; omega, HSB.out.2.2.1⟩)
                                  have CI1 := Lib.hid (into_any b12 m12 d12 _ (dx, (jx : Int)) wz SZ.out.waits.rd (by have h7 := SZ.out.waits.rd.len; have h8 := HWL.out; simp only at h7; omega))
                                  have CI2 := Lib.hid (fun (X : World) (hb : Below wz.heap.size wz X) => into_any _ m13 d13 _ (dx, (jx : Int)) X (HReads.of_own (SZ.out.on hb).best.own (by have h8 := HWL.out; show st.best.length ≤ 1000000; omega)) (by have h7 := ownB_n SZ.out.best; have h8 := HWL.out; simp only at h7; omega))
                                  go_wp2_with (fail)
                                  refine CI1.out.mono ?_
                                  rintro e w12 ⟨v5, rfl, ho5, hb5⟩
                                  obtain ⟨a5, n5, c5, rfl⟩ := ho5.parts11
                                  have O5 := Lib.hid ho5
                                  have BB5 := Lib.hid hb5
                                  have HBK5 := (Kept.of_below (F := []) hb5 (Nat.le_refl _)).blk HBKZ.out (by simp)
                                  have y0 : w12.cell? ⟨bb, 0, none⟩ = some (.int .i64 dx) := HBK5.cell 0
                                  have y1 : w12.cell? ⟨bb, 1, none⟩ = some (.int .u32 (jx : Int)) := HBK5.cell 1
                                  have C6 := Lib.hid (CI2.out w12 hb5)
                                  clear ho5 hb5 HBK5 x0 x1 CI1 CI2
                                  go_wp2_with (fail)
                                  refine C6.out.mono ?_
                                  rintro e w13 ⟨v6, rfl, ho6, hb6⟩
                                  obtain ⟨a6, n6, c6, rfl⟩ := ho6.parts11
                                  have BB6 := Lib.hid hb6
                                  have C7 := Lib.hid (first_any a6 n6 c6 ww _ w13 (HReads.of_own ho6.own (by have h8 := HWL.out; rw [ins_len]; show st.best.length + 1 ≤ 1000000; omega)))
                                  clear ho6 hb6 C6 y0 y1
                                  go_wp2_with (fail)
                                  refine C7.out.mono ?_
                                  rintro e w14 ⟨v7, rfl, ho7, hb7⟩
                                  obtain ⟨a7, n7, c7, rfl⟩ := ho7.parts11
                                  have B57 := BB6.out.trans (hb7.mono BB6.out.size)
                                  have S14 := Lib.hid (show RWs w.heap.size w14 (.slice e11 q11 f11) a5 n5 c5 (.slice a7 n7 c7) ⟨st.met ++ [jx], ins (dx, (jx : Int)) st.waits, (ins (dx, (jx : Int)) st.best).take W⟩ from by
                                    refine ⟨RowC.on (RowC.on SZ.out.met BB5.out) B57, WR.own (((O5.out.mono BZ.out.size).kept (F := []) (Kept.of_below B57 (Nat.le_refl _)) (by simp))) (by have h8 := HWL.out; rw [ins_len]; show st.waits.length + 1 ≤ 1000000; omega), ?_⟩
                                    have h9 := ho7.mono (Nat.le_trans BZ.out.size (Nat.le_trans BB5.out.size BB6.out.size))
                                    rw [show ww.toNat = W from by have := HWW.out; omega] at h9
                                    exact h9)
                                  have BALL := BB5.out.trans (B57.mono BB5.out.size)
                                  have B14 := Lib.hid (BZ.out.trans (BALL.mono BZ.out.size))
                                  have HZE := Lib.hid ((BALL.block _ htz).trans HZZ.out)
                                  have hte : tb < w14.heap.size := Nat.lt_of_lt_of_le htz BALL.size
                                  clear ho7 hb7 B57 C7 BALL
                                  go_wp2
                                  go_roundw
                                  case rel => exact ⟨i + 1, q11, f11, n5, c5, n7, c7, e11, a5, a7, KM.out, by go_num, rfl, rfl, rfl, by rw [HTK.out, HE2.out]; exact S14, B14, fun tb' e' => by
                                    simp at e'
                                    subst e'
                                    exact ⟨HZE.out, hte, T10.out⟩⟩
                                  case measure => simp [intOf]; omega
                              | false =>
                                have HE2 := Lib.hid (show G.meetI q W (lev : Int) st (jx : Int) = ⟨st.met ++ [jx], st.waits, st.best⟩ from by
                                  rw [HE.out, HHIT.out, if_neg (fun hh => hh.elim HNR.out fun hh => by rw [HLST.out, HLY.out] at hh; cases hh)])
                                have SZ := Lib.hid (S11.out.on HBZ.out)
                                have BZ := Lib.hid (B11.out.trans (HBZ.out.mono B11.out.size))
                                have HZZ := Lib.hid ((HBZ.out.block _ ht11).trans H11.out)
                                have htz : tb < wz.heap.size := Nat.lt_of_lt_of_le ht11 HBZ.out.size
                                go_wp2
                                go_roundw
                                case rel => exact ⟨i + 1, q11, f11, m12, d12, m13, d13, e11, b12, _, KM.out, by go_num, rfl, rfl, rfl, by rw [HTK.out, HE2.out]; exact SZ, BZ, fun tb' e' => by
                                  simp at e'
                                  subst e'
                                  exact ⟨HZZ.out, htz, T10.out⟩⟩
                                case measure => simp [intOf]; omega
                    · obtain rfl : i = T := by omega
                      have e0 : NX.take i = NX := List.take_of_length_le (by rw [HNXL.out]; exact Nat.le_refl _)
                      have hm1 := HMLT.out
                      have hm2 := HMS.out
                      obtain ⟨k', rfl⟩ : ∃ k', k = k' + 1 := ⟨k - 1, by omega⟩
                      have HSEND := Lib.hid (show st = G.meets q W ⟨met, ws, best⟩ (G.nbrs j lev) from by
                        rw [← HSTE.out, e0, ← HNXE.out]
                        exact GraphV.meets_next HR.out q W HON.out _)
                      have HINV := Lib.hid (show InvR G q W (lev : Int) R w (.slice b11 m11 d11) (.slice b12 m12 d12) (.slice b13 m13 d13) wr k' from by
                        refine ⟨st, m11, d11, m12, d12, m13, d13, b11, b12, b13, rfl, rfl, rfl, ?_, ?_, ?_, .inl h0, HSX.out, HBX.out⟩
                        · have h1 := walkF_go (k := k') (g := G) (q := q) (W := W) (level := lev) (s := ⟨met, (d, (j : Int)) :: ws, best⟩) (c := (d, (j : Int))) (ws := ws) rfl HNO.out
                          rw [HRK.out] at h1
                          rw [Int.toNat_natCast, h1, HSEND.out]
                          rw [show ((d, (j : Int)) : Hit).2.toNat = j from Int.toNat_natCast j]
                        · rw [Int.toNat_natCast, HSEND.out]
                          exact H2OK.out
                        · rw [HSEND.out]
                          omega)
                      clear e0 hm1 hm2 HSX HBX HTX
                      go_wp2
                      go_roundw
                      case rel => exact ⟨k', m11, d11, m12, d12, m13, d13, b11, b12, b13, rfl, rfl, rfl, HINV⟩
                      case measure =>
                        have h1 := (leastK_spec HINV.out).2
                        have h2 := HK.out
                        show leastK _ < leastK _
                        rw [h2]
                        omega
            | true =>
              have HFW := Lib.hid (show best.length = W from HFU.out.2 rfl)
              obtain ⟨y1, hy1⟩ : ∃ y1 : Nat, W = y1 + 1 := ⟨W - 1, by have := HWB.out; omega⟩
              have hn13 : n13 = y1 + 1 := by have := HFU.out.2 rfl; have := HBN.out; omega
              obtain ⟨z, hz⟩ : ∃ z, ltH (lastL best) (d, cj) = z := ⟨_, rfl⟩
              have HZ := Lib.hid hz
              have HYY := Lib.hid (show lastL best = best.getD y1 (0, 0) from by
                unfold lastL
                rw [List.getLast?_eq_getElem?, List.getD_eq_getElem?_getD, HBN.out, hn13]
                rfl)
              obtain ⟨y, hy⟩ : ∃ y, lastL best = y := ⟨_, rfl⟩
              have hyw : IntKind.i64.wrap (ww - 1) = (y1 : Int) := by
                have := HWW.out
                have := HWB.out
                rw [IntKind.wrap_i64]
                omega
              obtain ⟨gb, hgb, -, hgbl, hg0, hg1⟩ := hit_cells HS3.out.best.own (show y1 < best.length from by rw [HBN.out, hn13]; omega)
              subst hgb
              rw [← HYY.out, hy] at hg0 hg1
              have HZY := Lib.hid (show ltH y (d, cj) = z from by rw [← hy]; exact hz)
              have HLST := Lib.hid hy
              have hyn : y1 < n13 := by omega
              have HSC := Lib.hid (fun (X : World) (hb : Below w3.heap.size w3 X) => show X.cell? ⟨gb, y1 * 2, none⟩ = some (.int .i64 y.1) ∧ X.cell? ⟨gb, y1 * 2 + 1, none⟩ = some (.int .u32 y.2) ∧ X.cell? ⟨bh, 0, none⟩ = some (.int .i64 d) ∧ X.cell? ⟨bh, 1, none⟩ = some (.int .u32 cj) ∧ Below w3.heap.size w3 X from by
                have h8 := (Kept.of_below (F := []) hb (Nat.le_refl _)).blk HX3.out (by simp)
                exact ⟨(hb.cell (p := ⟨gb, y1 * 2, none⟩) hgbl).trans hg0, (hb.cell (p := ⟨gb, y1 * 2 + 1, none⟩) hgbl).trans hg1, h8.cell 0, h8.cell 1, hb⟩)
              clear hy hz hg0 hg1 hn13 hy1
              go_region_held3 (fun X => X.cell? ⟨gb, y1 * 2, none⟩ = some (.int .i64 y.1) ∧ X.cell? ⟨gb, y1 * 2 + 1, none⟩ = some (.int .u32 y.2) ∧ X.cell? ⟨bh, 0, none⟩ = some (.int .i64 d) ∧ X.cell? ⟨bh, 1, none⟩ = some (.int .u32 cj) ∧ Below w3.heap.size w3 X)
                (first
                  | (go_keep; done)
                  | exact HSC.out _ (Below.refl _ _)
                  | exact HSC.out _ (Below.refl _ _).drew
                  | (go_split_ands; exact HSC.out _ (below_on (by assumption) hbel)))
                (first
                  | (go_at_call 19; refine (rless_eq y (d, cj) z HZY _).mono ?_; rintro e w' ⟨rfl, hbel⟩))
              all_goals
                rename_i hH
                rename World => wq
                have HBQ := Lib.hid (show Below w3.heap.size w3 wq from hH.2.2.2.2)
                clear hH hbel hyw f1 hfull hyn
                cases z with
                | true =>
                  have HRB := Lib.hid (show best = R from (walkF_stop rfl ⟨HFW.out, HZ.out⟩).symm.trans HRK.out)
                  go_wp2
                  go_ret
                  exact ⟨_, rfl, by rw [← HRB.out]; exact (HS3.out.on HBQ.out).best, HB3.out.trans (HBQ.out.mono HB3.out.size)⟩
                | false =>
                  have HNO := Lib.hid (show ¬ (best.length = W ∧ ltH (lastL best) (d, cj) = true) from fun hh => by
                    have := HZ.out
                    rw [hh.2] at this
                    cases this)
                  clear HFU HZ HYY HZY HLST HSC
                  have HSQ := Lib.hid (HS3.out.on HBQ.out)
                  have HB4 := Lib.hid (HB3.out.trans (HBQ.out.mono HB3.out.size))
                  have q1 : wq.cell? ⟨bh, 1, none⟩ = some (.int .u32 cj) := ((Kept.of_below (F := []) HBQ.out (Nat.le_refl _)).blk HX3.out (by simp)).cell 1
                  obtain ⟨jj, hjj⟩ : ∃ jj : Nat, cj = (jj : Int) := ⟨j, HCJ.out.symm⟩
                  subst hjj
                  obtain rfl : j = jj := by have := HCJ.out; omega
                  have hjw : IntKind.i64.wrap (j : Int) = (j : Int) := by
                    rw [IntKind.wrap_i64]
                    omega
                  obtain ⟨gu, cu, gl, cl, P, vn, vc, va, hkP, hlk⟩ := HLK.out j lev hjN HON.out
                  obtain ⟨s1, s2, s3, s4⟩ := hlk wq HB4.out
                  obtain ⟨lks, hlks⟩ : ∃ lks, G.links j lev = lks := ⟨_, rfl⟩
                  rw [hlks] at s4
                  have HSRC := Lib.hid s4.src
                  have HVN := Lib.hid (show lks.length = vn from intsAt_n s4)
                  have HLKS := Lib.hid hlks
                  have HLN := Lib.hid (show ∀ y ∈ lks, y < N from fun y hy => by
                    have := links_lt HR.out (i := j) (k := lev) (by rw [hlks]; exact hy)
                    have := HG.out
                    omega)
                  have HLL := Lib.hid (show lks.length ≤ N from nodup_le _ _ (by rw [← hlks]; exact HR.out.each j lev) HLN.out)
                  have hvnN : vn ≤ N := by rw [← HVN.out]; exact HLL.out
                  have HMT := Lib.hid (show met.length ≤ N from by
                    have h4 := H1OK.out.met_le
                    have h5 := HG.out
                    simp only at h4
                    omega)
                  clear s4 hlks hlk
                  have HSI := Lib.hid (fun (s : WalkV) (hs : WalkOk G q W lev s) => show s.met.length ≤ N ∧ s.waits.length ≤ N ∧ s.best.length ≤ 256 ∧ ∀ y ∈ s.met, y < N from by
                    have h4 := hs.met_le
                    have h5 := HG.out
                    have h6 := hs.wlen
                    have h7 := hs.blen
                    have h8 := HWB.out
                    refine ⟨by omega, by omega, by omega, fun y hy => ?_⟩
                    have := lv_len (hs.on y hy)
                    omega)
                  by_cases hl0 : lev = 0
                  · as_aux_lemma =>
                      have e0 : ((lev : Int) == 0) = true := by simpa using hl0
                      have e1 : decide ((lev : Int) = 0) = true := decide_eq_true (by omega)
                      have e2 : decide (lev = 0) = true := decide_eq_true hl0
                      obtain ⟨NX, hNX⟩ : ∃ NX, natsI lks ++ [(j : Int) - 1, (j : Int) + 1] = NX := ⟨_, rfl⟩
                      have HNXE := Lib.hid (show G.nextI j lev = NX from by
                        unfold GraphV.nextI
                        rw [if_pos hl0, HLKS.out]
                        exact hNX)
                      have HNXC := Lib.hid (show intsC lks ++ [.int .i64 ((j : Int) - 1), .int .i64 ((j : Int) + 1)] = NX.map (Value.int .i64) from by rw [← hNX]; simp [natsI])
                      have HNXN := Lib.hid (show NX.length = lks.length + 2 from by rw [← hNX, List.length_append, natsI_len]; rfl)
                      clear hl0 hNX
                      go_wp2_with (first
                        | (at_builtin; (refine app_one (w7.alloc (.cells #[.int .i64 ((j : Int) - 1), .int .i64 ((j : Int) + 1)] 3)) rfl _ _ 46 3 rfl Try.underlying46 (.int .i64 0) 8 int_info11 rfl wq.heap.size (.slice a17 T7 c17) (intsC lks) rfl (by rw [HL7.out]; exact row_on RR7.out ((Below.refl _ w7).alloc (Nat.le_refl _) _)) (some ⟨w7.heap.size, 0, none⟩) 2 2 [.int .i64 ((j : Int) - 1), .int .i64 ((j : Int) + 1)] rfl rfl (fun ha => (by cases ha)) (.inr ⟨w7.heap.size, 0, rfl, fun i hi => by rw [Nat.zero_add, (Blk.new w7 3 #[.int .i64 ((j : Int) - 1), .int .i64 ((j : Int) + 1)]).cell]⟩) (by simp [Value.oneCell']) (by rw [HL7.out]; have := HT7.out; omega) (by rw [HL7.out]; have := HT7.out; omega) (by have := BBQ7.out.size; simp; omega) ?_); intro v1 w8 h3 h4; obtain ⟨a18, T, c18, rfl, hm1⟩ := ownsRow_slice h3; have BBQ8 := Lib.hid (show Below wq.heap.size wq w8 from BBQ7.out.trans ((((Kept.refl (ownB (.slice a17 T7 c17)) w7).alloc _).grown h4 (fun b hb => .inl (mem_ownB.2 hb))).below (fun b hb => (World.ownsRow.lt RR7.out b (mem_ownB.1 hb)).1) BBQ7.out.size)); have NN := Lib.hid (show T = lks.length + 2 from by rw [hm1.out, List.length_append, List.length_map]; rfl); have RR := Lib.hid (show w8.ownsRow wq.heap.size 3 1 (.slice a18 T c18) T (NX.map (Value.int .i64)) from by rw [HNXC.out] at h3; rw [List.length_map, HNXN.out, ← NN.out] at h3; exact h3); clear h3 h4 hm1)
                        | (at_builtin; go_must (refine app_one wq rfl _ _ 46 3 rfl Try.underlying46 (.int .i64 0) 8 int_info11 rfl wq.heap.size (.slice none 0 0) [] rfl (World.ownsRow_nil wq wq.heap.size _ 1) va vn vc (intsC lks) rfl (by rw [List.length_map]; exact HVN.out) (fun ha => HSRC.out.1 ha) (by have h8 := HSRC.out.2 lks.length (Nat.le_refl _); rw [List.take_length, HVN.out] at h8; exact h8) (ints_one _) (by simp; omega) (by simp; omega) (Nat.le_refl _) ?_); intro v1 w7 h3 h4; obtain ⟨a17, T7, c17, rfl, hm1⟩ := ownsRow_slice h3; have BBQ7 := Lib.hid (((Kept.refl [] wq).grown h4 fun q hq => (by cases hq)).below (B := wq.heap.size) (by simp) (Nat.le_refl _)); have NN7 := Lib.hid (show lks.length = T7 from by rw [hm1.out]; simp); have RR7 := Lib.hid (show w7.ownsRow wq.heap.size 3 1 (.slice a17 T7 c17) T7 (intsC lks) from by have h5 := h3; simp only [List.nil_append] at h5; rw [List.length_map, NN7.out] at h5; exact h5); have hll7 : (intsC lks).length = T7 := (by rw [List.length_map]; exact NN7.out); have HL7 := Lib.hid hll7; have HT7 := Lib.hid (show T7 ≤ 100000 from by have := HLL.out; have := NN7.out; omega); clear h3 h4 hm1 hll7)
                        | fail)
                      have HNXL := Lib.hid (show NX.length = T from by rw [HNXN.out, NN.out])
                      have H18 := RR
                      have HTB : T ≤ 100002 := by have := HLL.out; have := NN.out; omega
                      clear e0 e1 e2
                      have S8 := Lib.hid (HSQ.out.on BBQ8.out)
                      have B8 := Lib.hid (HB4.out.trans (BBQ8.out.mono HB4.out.size))
  
                      have HROW := Lib.hid (show ∀ (i : Nat), i < T → ∃ (tb : Nat), a18 = some ⟨tb, 0, none⟩ ∧ tb < w8.heap.size ∧ wq.heap.size ≤ tb ∧ w8.cell? ⟨tb, i, none⟩ = some (.int .i64 (NX.getD i 0)) ∧ ∀ X, Below w8.heap.size w8 X → X.heap[tb]? = w8.heap[tb]? from fun i hi => by
                        rcases own_cells1 (show w8.ownsRow wq.heap.size 3 1 _ (NX.map (Value.int .i64)).length (NX.map (Value.int .i64)) from by rw [List.length_map, HNXL.out]; exact H18.out) with ⟨_, h4⟩ | ⟨tb, c2, e1, _, h3, h4, h5⟩
                        · have := congrArg List.length h4
                          rw [List.length_map, HNXL.out] at this
                          simp at this
                          omega
                        · simp only [Value.slice.injEq] at e1
                          refine ⟨tb, e1.1, h4, h3, ?_, fun X hb => hb.block tb h4⟩
                          rw [h5 i (by rw [List.length_map, HNXL.out]; exact hi), List.getElem?_map, List.getElem?_eq_getElem (by rw [HNXL.out]; exact hi), List.getD_eq_getElem?_getD, List.getElem?_eq_getElem (by rw [HNXL.out]; exact hi)]
                          rfl)
                      have HST8 := Lib.hid (show ∀ tb, a18 = some ⟨tb, 0, none⟩ → tb < w8.heap.size ∧ (Value.slice a11 n11 c11).ownBlock ≠ some tb from fun tb e => by
                        have h8 := World.ownsRow.lt H18.out tb (by rw [e]; rfl)
                        refine ⟨h8.2, fun hh => ?_⟩
                        have h9 := (RowC.lt HSQ.out.met tb hh).2
                        omega)
                      clear BBQ8 HSRC s1 s2 s3 q1
                      go_wp2_with (fail)
                      go_loopw [11, 12, 13, 19] (fun s11 s12 s13 s19 wx => ∃ (i m11 d11 m12 d12 m13 d13 : Nat) (b11 b12 b13 : Option Addr), i ≤ T ∧ s19 = .int .i64 (i : Int) ∧ s11 = .slice b11 m11 d11 ∧ s12 = .slice b12 m12 d12 ∧ s13 = .slice b13 m13 d13 ∧ Hid (RWs w.heap.size wx (.slice b11 m11 d11) b12 m12 d12 (.slice b13 m13 d13) ((NX.take i).foldl (G.meetI q W (lev : Int)) ⟨met, ws, best⟩)) ∧ Hid (Below w.heap.size w wx) ∧ Hid (∀ tb, a18 = some ⟨tb, 0, none⟩ → wx.heap[tb]? = w8.heap[tb]? ∧ tb < wx.heap.size ∧ (Value.slice b11 m11 d11).ownBlock ≠ some tb)) (fun _ _ _ s19 _ => T - (intOf s19).toNat)
                      case atStart => exact ⟨0, n11, c11, mw, c2, n13, c13, a11, a2, _, Nat.zero_le _, rfl, rfl, rfl, rfl, S8, B8.out, fun tb e => ⟨rfl, HST8.out tb e⟩⟩
                      case round =>
                        clear S8 B8
                        obtain ⟨i, m11, d11, m12, d12, m13, d13, b11, b12, b13, hi, rfl, rfl, rfl, rfl, HSX, HBX, HTX⟩ := hrel
                        obtain ⟨st, hst⟩ : ∃ st, (NX.take i).foldl (G.meetI q W (lev : Int)) ⟨met, ws, best⟩ = st := ⟨_, rfl⟩
                        have HSTE := Lib.hid hst
                        rw [hst] at HSX
                        have HOKI := Lib.hid (show WalkOk G q W lev st from by
                          rw [← hst]
                          exact H1OK.out.foldI)
                        clear hst
                        by_cases hiT : i < T
                        · obtain ⟨tb, rfl, htl, htlo, htc, htb⟩ := HROW.out i hiT
                          obtain ⟨x, hx⟩ : ∃ x, NX.getD i 0 = x := ⟨_, rfl⟩
                          rw [hx] at htc
                          have HTK := Lib.hid (show (NX.take (i + 1)).foldl (G.meetI q W (lev : Int)) ⟨met, ws, best⟩ = G.meetI q W (lev : Int) st x from by
                            rw [getD_take (by rw [HNXL.out]; exact hiT) hx, List.foldl_append, HSTE.out]
                            rfl)
                          obtain ⟨hth, htx, htn⟩ := HTX.out tb rfl
                          have r0 : wr.cell? ⟨tb, i, none⟩ = some (.int .i64 x) := (World.cell?_of_block (a := ⟨tb, i, none⟩) hth).trans htc
                          have HR0 := Lib.hid (fun (X : World) (hb : X.heap[tb]? = w8.heap[tb]?) => show X.cell? ⟨tb, i, none⟩ = some (.int .i64 x) from (World.cell?_of_block (a := ⟨tb, i, none⟩) hb).trans htc)
                          have HTH := Lib.hid (And.intro hth (And.intro htx htn))
                          have HSB := Lib.hid (HSI.out st HOKI.out)
                          have hrd := HSX.out.met.reads (by have := HSB.out.1; omega) (fun y hy => by have := HSB.out.2.2.2 y hy; omega)
                          obtain ⟨has, hhas⟩ : ∃ has, decide (x ∈ natsI st.met) = has := ⟨_, rfl⟩
                          have C2 := Lib.hid (rhas_any wr b11 m11 d11 _ hrd x has hhas)
                          have HHAS := Lib.hid hhas
                          have KM := Lib.hid (show i + 1 ≤ T from hiT)
                          have hwl : w.heap.size ≤ wr.heap.size := HBX.out.size
                          clear hrd hhas hx htc htb hth htn
                          cases has with
                          | true =>
                            have HE := Lib.hid (meetI_old (g := G) (q := q) (W := W) (level := (lev : Int)) (of_decide_eq_true HHAS.out))
                            go_wp2_with (first
                              | (go_at_call 14; refine C2.out.mono ?_; rintro e w9 ⟨rfl, h5⟩; have BB := Lib.hid h5; clear h5)
                              | fail)
                            go_roundw
                            case rel => exact ⟨i + 1, m11, d11, m12, d12, m13, d13, b11, b12, b13, KM.out, by go_num, rfl, rfl, rfl, by rw [HTK.out, HE.out]; exact HSX.out.on BB.out, HBX.out.trans (BB.out.mono HBX.out.size), fun tb' e' => by
                              simp at e'
                              subst e'
                              exact ⟨(BB.out.block _ HTH.out.2.1).trans HTH.out.1, Nat.lt_of_lt_of_le HTH.out.2.1 BB.out.size, HTH.out.2.2⟩⟩
                            case measure => simp [intOf]; omega
                          | false =>
                            cases hz : G.onB x (lev : Int) with
                            | false =>
                              have HE := Lib.hid (meetI_off (g := G) (q := q) (W := W) (level := (lev : Int)) (s := st) hz)
                              have C3 := Lib.hid (fun (X : World) (hb : Below w.heap.size w X) => CT.out X hb x false hz)
                              clear hz
                              go_wp2_with (first
                                | (go_at_call 14; refine C2.out.mono ?_; rintro e w9 ⟨rfl, h5⟩; have BB := Lib.hid h5; have B9 := Lib.hid (HBX.out.trans (h5.mono HBX.out.size)); have r9 := HR0.out w9 ((h5.block _ htx).trans HTH.out.1); clear h5)
                                | (go_at_call 27; refine (C3.out _ B9.out).mono ?_; rintro e w' ⟨rfl, h3⟩; subst h3)
                                | fail)
                              go_roundw
                              case rel => exact ⟨i + 1, m11, d11, m12, d12, m13, d13, b11, b12, b13, KM.out, by go_num, rfl, rfl, rfl, by rw [HTK.out, HE.out]; exact HSX.out.on BB.out, B9.out, fun tb' e' => by
                                simp at e'
                                subst e'
                                exact ⟨(BB.out.block _ HTH.out.2.1).trans HTH.out.1, Nat.lt_of_lt_of_le HTH.out.2.1 BB.out.size, HTH.out.2.2⟩⟩
                              case measure => simp [intOf]; omega
                            | true =>
                              obtain ⟨jx, rfl⟩ : ∃ jx : Nat, x = (jx : Int) := ⟨x.toNat, by have := onB_nonneg hz; omega⟩
                              have hjxN := HJ.out jx hz
                              have HNM := Lib.hid (show jx ∉ st.met from fun hm => (of_decide_eq_false HHAS.out) (mem_natsI.2 hm))
                              have C3 := Lib.hid (fun (X : World) (hb : Below w.heap.size w X) => CT.out X hb (jx : Int) true hz)
                              have HE := Lib.hid (meetI_new (g := G) (q := q) (W := W) (level := (lev : Int)) (s := st) hz HNM.out)
                              obtain ⟨dx, hdx⟩ : ∃ dx, (G.hit q jx).1 = dx := ⟨_, rfl⟩
                              have HD := Lib.hid hdx
                              have HHIT := Lib.hid (show G.hit q jx = (dx, (jx : Int)) from Prod.ext hdx rfl)
                              have hjw2 : IntKind.u32.wrap (jx : Int) = (jx : Int) := by rw [IntKind.wrap_u32]; omega
                              have HJW := Lib.hid hjw2
                              have hsl1 := Lib.hid (show st.met.length ≤ 1000000 from by have := HSB.out.1; omega)
                              clear hz hdx hjw2 HHAS
                              go_upto_region 27 with (first
                                | (go_at_call 14; refine C2.out.mono ?_; rintro e w9 ⟨rfl, h5⟩; have S9 := Lib.hid (HSX.out.on h5); have B9 := Lib.hid (HBX.out.trans (h5.mono HBX.out.size)); have H9 := Lib.hid ((h5.block _ htx).trans HTH.out.1); have r9 := HR0.out w9 H9.out; have hl9 : w.heap.size ≤ w9.heap.size := B9.out.size; have ht9 : tb < w9.heap.size := Nat.lt_of_lt_of_le htx h5.size; clear h5)
                                | (go_at_call 27; refine (C3.out _ B9.out).mono ?_; rintro e w' ⟨rfl, h3⟩; subst h3)
                                | (at_builtin; go_must (refine app_int w9 rfl _ _ rfl w.heap.size (.slice b11 m11 d11) _ jx rfl rfl S9.out.met hl9 hsl1.out ?_); intro v3 w10 h3 k3 g3; obtain ⟨e11, q11, f11, rfl, -⟩ := h3.parts; have S10 := Lib.hid (S9.out.grown k3 h3); have B10 := Lib.hid (B9.out.trans (k3.below (fun b hb => (RowC.lt S9.out.met b (mem_ownB.1 hb)).1) hl9)); have H10 := Lib.hid ((k3.block tb ht9 (fun hh => HTH.out.2.2 (mem_ownB.1 hh))).trans H9.out); have T10 := Lib.hid (show (Value.slice e11 q11 f11).ownBlock ≠ some tb from fun e => by rcases g3 tb (mem_ownB.2 e) with h | h; (exact HTH.out.2.2 (mem_ownB.1 h)); omega); have ht10 : tb < w10.heap.size := Nat.lt_of_lt_of_le ht9 k3.size; clear h3 k3 g3)
                                | fail)
                              have r10 := HR0.out w10 H10.out
                              refine hit_region 150 20 18 19 w10 g tb 0 T c18 i qa qn qc (jx : Int) dx ⟨_, rfl, rfl, rfl, rfl, by kernel_rfl⟩ ⟨_, rfl, rfl, rfl, rfl, by kernel_rfl⟩ ⟨_, rfl, rfl, rfl, rfl, by kernel_rfl⟩ ⟨_, rfl, rfl, rfl, rfl, by kernel_rfl⟩ ⟨_, rfl, rfl, rfl, rfl, by kernel_rfl⟩ ⟨_, rfl, rfl, rfl, rfl, by kernel_rfl⟩ ⟨_, rfl, rfl, rfl, rfl, by kernel_rfl⟩ ⟨_, rfl, rfl, rfl, rfl, by kernel_rfl⟩ ⟨_, rfl, rfl, rfl, rfl, by kernel_rfl⟩ ⟨_, rfl, rfl, rfl, rfl, by kernel_rfl⟩ ⟨_, rfl, rfl, rfl, rfl, by kernel_rfl⟩ ⟨_, rfl, rfl, rfl, rfl, by kernel_rfl⟩ ⟨_, rfl, rfl, rfl, rfl, by kernel_rfl⟩ ⟨_, rfl, rfl, rfl, rfl, by kernel_rfl⟩ ⟨_, rfl, rfl, rfl, rfl, by kernel_rfl⟩ rfl (by kernel_rfl) (by kernel_rfl) (by show 150 + 13 ≤ 186; decide) (by decide) (by decide) (by decide) (by decide) (by decide) (by decide) rfl rfl rfl rfl hiT (by rw [Nat.zero_add]; exact r10) ht10 HJW.out (fun X hb => CF.out X (B10.out.trans (hb.mono B10.out.size)) jx hjxN dx HD.out) ?_
                              intro E w11 bb hE hbb hblk hb11
                              have B11 := Lib.hid (B10.out.trans (hb11.mono B10.out.size))
                              have S11 := Lib.hid (S10.out.on hb11)
                              have H11 := Lib.hid ((hb11.block _ ht10).trans H10.out)
                              have ht11 : tb < w11.heap.size := Nat.lt_of_lt_of_le ht10 hb11.size
                              have x0 : w11.cell? ⟨bb, 0, none⟩ = some (.int .i64 dx) := hblk.cell 0
                              have x1 : w11.cell? ⟨bb, 1, none⟩ = some (.int .u32 (jx : Int)) := hblk.cell 1
                              have HBK := Lib.hid hblk
                              obtain ⟨room, hroom⟩ : ∃ room, decide ((m13 : Int) < ww) = room := ⟨_, rfl⟩
                              have HBN2 := Lib.hid (show st.best.length = m13 from ownB_n S11.out.best)
                              have HROOM := Lib.hid (show st.best.length < W ↔ room = true from by
                                rw [← hroom, decide_eq_true_iff, HBN2.out]
                                have := HWW.out
                                omega)
                              simp only [filledR, dsH, hE, Nat.reduceLT, Nat.reduceAdd, Nat.reduceEqDiff, if_true, if_false]
                              clear hE hbb hblk hb11 r10 r0
                              go_simp
                              go_step
                              cases room with
                              | true =>
                                have HE2 := Lib.hid (show G.meetI q W (lev : Int) st (jx : Int) = ⟨st.met ++ [jx], ins (dx, (jx : Int)) st.waits, (ins (dx, (jx : Int)) st.best).take W⟩ from by
                                  rw [HE.out, HHIT.out, if_pos (.inl (HROOM.out.2 rfl))])
                                clear HROOM
                                go_wp2_with (fail)
                                go_quiet (fail)
                                obtain ⟨wz, hwz⟩ : ∃ wz, w11.drewN nq = wz := ⟨_, rfl⟩
                                have HBZ := Lib.hid (show Below w11.heap.size w11 wz from by rw [← hwz]; exact below_draws (Below.refl _ _) _)
                                rw [hwz]
                                clear hwz hroom
                                as_aux_lemma =>
                                  have SZ := Lib.hid (S11.out.on HBZ.out)
                                  have BZ := Lib.hid (B11.out.trans (HBZ.out.mono B11.out.size))
                                  have HZZ := Lib.hid ((HBZ.out.block _ ht11).trans H11.out)
                                  have htz : tb < wz.heap.size := Nat.lt_of_lt_of_le ht11 HBZ.out.size
                                  have HBKZ := Lib.hid ((Kept.of_below (F := []) HBZ.out (Nat.le_refl _)).blk HBK.out (by simp))
                                  have x0 : wz.cell? ⟨bb, 0, none⟩ = some (.int .i64 dx) := HBKZ.out.cell 0
                                  have x1 : wz.cell? ⟨bb, 1, none⟩ = some (.int .u32 (jx : Int)) := HBKZ.out.cell 1
                                  have HWL := Lib.hid (show st.waits.length ≤ 100000 ∧ st.best.length ≤ 256 from ⟨by have := HSB.out.2.1; omega, HSB.out.2.2.1⟩)
                                  have CI1 := Lib.hid (into_any b12 m12 d12 _ (dx, (jx : Int)) wz SZ.out.waits.rd (by have h7 := SZ.out.waits.rd.len; have h8 := HWL.out; simp only at h7; omega))
                                  have CI2 := Lib.hid (fun (X : World) (hb : Below wz.heap.size wz X) => into_any _ m13 d13 _ (dx, (jx : Int)) X (HReads.of_own (SZ.out.on hb).best.own (by have h8 := HWL.out; show st.best.length ≤ 1000000; omega)) (by have h7 := ownB_n SZ.out.best; have h8 := HWL.out; simp only at h7; omega))
                                  go_wp2_with (fail)
                                  refine CI1.out.mono ?_
                                  rintro e w12 ⟨v5, rfl, ho5, hb5⟩
                                  obtain ⟨a5, n5, c5, rfl⟩ := ho5.parts11
                                  have O5 := Lib.hid ho5
                                  have BB5 := Lib.hid hb5
                                  have HBK5 := (Kept.of_below (F := []) hb5 (Nat.le_refl _)).blk HBKZ.out (by simp)
                                  have y0 : w12.cell? ⟨bb, 0, none⟩ = some (.int .i64 dx) := HBK5.cell 0
                                  have y1 : w12.cell? ⟨bb, 1, none⟩ = some (.int .u32 (jx : Int)) := HBK5.cell 1
                                  have C6 := Lib.hid (CI2.out w12 hb5)
                                  clear ho5 hb5 HBK5 x0 x1 CI1 CI2
                                  go_wp2_with (fail)
                                  refine C6.out.mono ?_
                                  rintro e w13 ⟨v6, rfl, ho6, hb6⟩
                                  obtain ⟨a6, n6, c6, rfl⟩ := ho6.parts11
                                  have BB6 := Lib.hid hb6
                                  have C7 := Lib.hid (first_any a6 n6 c6 ww _ w13 (HReads.of_own ho6.own (by have h8 := HWL.out; rw [ins_len]; show st.best.length + 1 ≤ 1000000; omega)))
                                  clear ho6 hb6 C6 y0 y1
                                  go_wp2_with (fail)
                                  refine C7.out.mono ?_
                                  rintro e w14 ⟨v7, rfl, ho7, hb7⟩
                                  obtain ⟨a7, n7, c7, rfl⟩ := ho7.parts11
                                  have B57 := BB6.out.trans (hb7.mono BB6.out.size)
                                  have S14 := Lib.hid (show RWs w.heap.size w14 (.slice e11 q11 f11) a5 n5 c5 (.slice a7 n7 c7) ⟨st.met ++ [jx], ins (dx, (jx : Int)) st.waits, (ins (dx, (jx : Int)) st.best).take W⟩ from by
                                    refine ⟨RowC.on (RowC.on SZ.out.met BB5.out) B57, WR.own (((O5.out.mono BZ.out.size).kept (F := []) (Kept.of_below B57 (Nat.le_refl _)) (by simp))) (by have h8 := HWL.out; rw [ins_len]; show st.waits.length + 1 ≤ 1000000; omega), ?_⟩
                                    have h9 := ho7.mono (Nat.le_trans BZ.out.size (Nat.le_trans BB5.out.size BB6.out.size))
                                    rw [show ww.toNat = W from by have := HWW.out; omega] at h9
                                    exact h9)
                                  have BALL := BB5.out.trans (B57.mono BB5.out.size)
                                  have B14 := Lib.hid (BZ.out.trans (BALL.mono BZ.out.size))
                                  have HZE := Lib.hid ((BALL.block _ htz).trans HZZ.out)
                                  have hte : tb < w14.heap.size := Nat.lt_of_lt_of_le htz BALL.size
                                  clear ho7 hb7 B57 C7 BALL
                                  go_wp2
                                  go_roundw
                                  case rel => exact ⟨i + 1, q11, f11, n5, c5, n7, c7, e11, a5, a7, KM.out, by go_num, rfl, rfl, rfl, by rw [HTK.out, HE2.out]; exact S14, B14, fun tb' e' => by
                                    simp at e'
                                    subst e'
                                    exact ⟨HZE.out, hte, T10.out⟩⟩
                                  case measure => simp [intOf]; omega
                              | false =>
                                obtain ⟨y2, hy2⟩ : ∃ y2 : Nat, m13 = y2 + 1 := ⟨m13 - 1, by
                                  have h1 : ¬ st.best.length < W := fun hh => by
                                    have := HROOM.out.1 hh
                                    cases this
                                  have := HWB.out
                                  have := HBN2.out
                                  omega⟩
                                obtain ⟨less, hless⟩ : ∃ less, ltH (dx, (jx : Int)) (lastL st.best) = less := ⟨_, rfl⟩
                                have HYY := Lib.hid (show lastL st.best = st.best.getD y2 (0, 0) from by
                                  unfold lastL
                                  rw [List.getLast?_eq_getElem?, List.getD_eq_getElem?_getD, HBN2.out, hy2]
                                  rfl)
                                obtain ⟨y, hy⟩ : ∃ y, lastL st.best = y := ⟨_, rfl⟩
                                have hyw2 : IntKind.i64.wrap ((m13 : Int) - 1) = (y2 : Int) := by
                                  have := HBN2.out
                                  have := HSB.out.2.2.1
                                  rw [IntKind.wrap_i64]
                                  omega
                                obtain ⟨gb, hgb, -, hgbl, hg0, hg1⟩ := hit_cells S11.out.best.own (show y2 < st.best.length from by rw [HBN2.out, hy2]; omega)
                                subst hgb
                                rw [← HYY.out, hy] at hg0 hg1
                                rw [hy] at hless
                                have HLY := Lib.hid hless
                                have HLST := Lib.hid hy
                                have hyn2 : y2 < m13 := by omega
                                have HSC := Lib.hid (fun (X : World) (hb : Below w11.heap.size w11 X) => show X.cell? ⟨gb, y2 * 2, none⟩ = some (.int .i64 y.1) ∧ X.cell? ⟨gb, y2 * 2 + 1, none⟩ = some (.int .u32 y.2) ∧ X.cell? ⟨bb, 0, none⟩ = some (.int .i64 dx) ∧ X.cell? ⟨bb, 1, none⟩ = some (.int .u32 (jx : Int)) ∧ Below w11.heap.size w11 X from by
                                  have h8 := (Kept.of_below (F := []) hb (Nat.le_refl _)).blk HBK.out (by simp)
                                  exact ⟨(hb.cell (p := ⟨gb, y2 * 2, none⟩) hgbl).trans hg0, (hb.cell (p := ⟨gb, y2 * 2 + 1, none⟩) hgbl).trans hg1, h8.cell 0, h8.cell 1, hb⟩)
                                have HNR := Lib.hid (show ¬ st.best.length < W from fun hh => by
                                  have := HROOM.out.1 hh
                                  cases this)
                                clear hy hg0 hg1 hy2 HROOM hless
                                go_wp2_with (fail)
                                go_region_held3 (fun X => X.cell? ⟨gb, y2 * 2, none⟩ = some (.int .i64 y.1) ∧ X.cell? ⟨gb, y2 * 2 + 1, none⟩ = some (.int .u32 y.2) ∧ X.cell? ⟨bb, 0, none⟩ = some (.int .i64 dx) ∧ X.cell? ⟨bb, 1, none⟩ = some (.int .u32 (jx : Int)) ∧ Below w11.heap.size w11 X)
                                  (first
                                    | (go_keep; done)
                                    | exact HSC.out _ (Below.refl _ _)
                                    | exact HSC.out _ (Below.refl _ _).drew
                                    | (go_split_ands; exact HSC.out _ (below_on (by assumption) hbel)))
                                  (first
                                    | (go_at_call 19; refine (rless_eq (dx, (jx : Int)) y less HLY _).mono ?_; rintro e w' ⟨rfl, hbel⟩))
                                all_goals
                                  rename_i hH
                                  rename World => wz
                                  have HBZ := Lib.hid (show Below w11.heap.size w11 wz from hH.2.2.2.2)
                                  clear hH hbel hyw2 hyn2 hroom HSC
                                  cases less with
                                  | true =>
                                    have HE2 := Lib.hid (show G.meetI q W (lev : Int) st (jx : Int) = ⟨st.met ++ [jx], ins (dx, (jx : Int)) st.waits, (ins (dx, (jx : Int)) st.best).take W⟩ from by
                                      rw [HE.out, HHIT.out, if_pos (.inr (by rw [HLST.out]; exact HLY.out))])
                                    as_aux_lemma =>
                                      have SZ := Lib.hid (S11.out.on HBZ.out)
                                      have BZ := Lib.hid (B11.out.trans (HBZ.out.mono B11.out.size))
                                      have HZZ := Lib.hid ((HBZ.out.block _ ht11).trans H11.out)
                                      have htz : tb < wz.heap.size := Nat.lt_of_lt_of_le ht11 HBZ.out.size
                                      have HBKZ := Lib.hid ((Kept.of_below (F := []) HBZ.out (Nat.le_refl _)).blk HBK.out (by simp))
                                      have x0 : wz.cell? ⟨bb, 0, none⟩ = some (.int .i64 dx) := HBKZ.out.cell 0
                                      have x1 : wz.cell? ⟨bb, 1, none⟩ = some (.int .u32 (jx : Int)) := HBKZ.out.cell 1
                                      have HWL := Lib.hid (show st.waits.length ≤ 100000 ∧ st.best.length ≤ 256 from ⟨by have := HSB.out.2.1; omega, HSB.out.2.2.1⟩)
                                      have CI1 := Lib.hid (into_any b12 m12 d12 _ (dx, (jx : Int)) wz SZ.out.waits.rd (by have h7 := SZ.out.waits.rd.len; have h8 := HWL.out; simp only at h7; omega))
                                      have CI2 := Lib.hid (fun (X : World) (hb : Below wz.heap.size wz X) => into_any _ m13 d13 _ (dx, (jx : Int)) X (HReads.of_own (SZ.out.on hb).best.own (by have h8 := HWL.out; show st.best.length ≤ 1000000; omega)) (by have h7 := ownB_n SZ.out.best; have h8 := HWL.out; simp only at h7; omega))
                                      go_wp2_with (fail)
                                      refine CI1.out.mono ?_
                                      rintro e w12 ⟨v5, rfl, ho5, hb5⟩
                                      obtain ⟨a5, n5, c5, rfl⟩ := ho5.parts11
                                      have O5 := Lib.hid ho5
                                      have BB5 := Lib.hid hb5
                                      have HBK5 := (Kept.of_below (F := []) hb5 (Nat.le_refl _)).blk HBKZ.out (by simp)
                                      have y0 : w12.cell? ⟨bb, 0, none⟩ = some (.int .i64 dx) := HBK5.cell 0
                                      have y1 : w12.cell? ⟨bb, 1, none⟩ = some (.int .u32 (jx : Int)) := HBK5.cell 1
                                      have C6 := Lib.hid (CI2.out w12 hb5)
                                      clear ho5 hb5 HBK5 x0 x1 CI1 CI2
                                      go_wp2_with (fail)
                                      refine C6.out.mono ?_
                                      rintro e w13 ⟨v6, rfl, ho6, hb6⟩
                                      obtain ⟨a6, n6, c6, rfl⟩ := ho6.parts11
                                      have BB6 := Lib.hid hb6
                                      have C7 := Lib.hid (first_any a6 n6 c6 ww _ w13 (HReads.of_own ho6.own (by have h8 := HWL.out; rw [ins_len]; show st.best.length + 1 ≤ 1000000; omega)))
                                      clear ho6 hb6 C6 y0 y1
                                      go_wp2_with (fail)
                                      refine C7.out.mono ?_
                                      rintro e w14 ⟨v7, rfl, ho7, hb7⟩
                                      obtain ⟨a7, n7, c7, rfl⟩ := ho7.parts11
                                      have B57 := BB6.out.trans (hb7.mono BB6.out.size)
                                      have S14 := Lib.hid (show RWs w.heap.size w14 (.slice e11 q11 f11) a5 n5 c5 (.slice a7 n7 c7) ⟨st.met ++ [jx], ins (dx, (jx : Int)) st.waits, (ins (dx, (jx : Int)) st.best).take W⟩ from by
                                        refine ⟨RowC.on (RowC.on SZ.out.met BB5.out) B57, WR.own (((O5.out.mono BZ.out.size).kept (F := []) (Kept.of_below B57 (Nat.le_refl _)) (by simp))) (by have h8 := HWL.out; rw [ins_len]; show st.waits.length + 1 ≤ 1000000; omega), ?_⟩
                                        have h9 := ho7.mono (Nat.le_trans BZ.out.size (Nat.le_trans BB5.out.size BB6.out.size))
                                        rw [show ww.toNat = W from by have := HWW.out; omega] at h9
                                        exact h9)
                                      have BALL := BB5.out.trans (B57.mono BB5.out.size)
                                      have B14 := Lib.hid (BZ.out.trans (BALL.mono BZ.out.size))
                                      have HZE := Lib.hid ((BALL.block _ htz).trans HZZ.out)
                                      have hte : tb < w14.heap.size := Nat.lt_of_lt_of_le htz BALL.size
                                      clear ho7 hb7 B57 C7 BALL
                                      go_wp2
                                      go_roundw
                                      case rel => exact ⟨i + 1, q11, f11, n5, c5, n7, c7, e11, a5, a7, KM.out, by go_num, rfl, rfl, rfl, by rw [HTK.out, HE2.out]; exact S14, B14, fun tb' e' => by
                                        simp at e'
                                        subst e'
                                        exact ⟨HZE.out, hte, T10.out⟩⟩
                                      case measure => simp [intOf]; omega
                                  | false =>
                                    have HE2 := Lib.hid (show G.meetI q W (lev : Int) st (jx : Int) = ⟨st.met ++ [jx], st.waits, st.best⟩ from by
                                      rw [HE.out, HHIT.out, if_neg (fun hh => hh.elim HNR.out fun hh => by rw [HLST.out, HLY.out] at hh; cases hh)])
                                    have SZ := Lib.hid (S11.out.on HBZ.out)
                                    have BZ := Lib.hid (B11.out.trans (HBZ.out.mono B11.out.size))
                                    have HZZ := Lib.hid ((HBZ.out.block _ ht11).trans H11.out)
                                    have htz : tb < wz.heap.size := Nat.lt_of_lt_of_le ht11 HBZ.out.size
                                    go_wp2
                                    go_roundw
                                    case rel => exact ⟨i + 1, q11, f11, m12, d12, m13, d13, e11, b12, _, KM.out, by go_num, rfl, rfl, rfl, by rw [HTK.out, HE2.out]; exact SZ, BZ, fun tb' e' => by
                                      simp at e'
                                      subst e'
                                      exact ⟨HZZ.out, htz, T10.out⟩⟩
                                    case measure => simp [intOf]; omega
                        · obtain rfl : i = T := by omega
                          have e0 : NX.take i = NX := List.take_of_length_le (by rw [HNXL.out]; exact Nat.le_refl _)
                          have hm1 := HMLT.out
                          have hm2 := HMS.out
                          obtain ⟨k', rfl⟩ : ∃ k', k = k' + 1 := ⟨k - 1, by omega⟩
                          have HSEND := Lib.hid (show st = G.meets q W ⟨met, ws, best⟩ (G.nbrs j lev) from by
                            rw [← HSTE.out, e0, ← HNXE.out]
                            exact GraphV.meets_next HR.out q W HON.out _)
                          have HINV := Lib.hid (show InvR G q W (lev : Int) R w (.slice b11 m11 d11) (.slice b12 m12 d12) (.slice b13 m13 d13) wr k' from by
                            refine ⟨st, m11, d11, m12, d12, m13, d13, b11, b12, b13, rfl, rfl, rfl, ?_, ?_, ?_, .inl h0, HSX.out, HBX.out⟩
                            · have h1 := walkF_go (k := k') (g := G) (q := q) (W := W) (level := lev) (s := ⟨met, (d, (j : Int)) :: ws, best⟩) (c := (d, (j : Int))) (ws := ws) rfl HNO.out
                              rw [HRK.out] at h1
                              rw [Int.toNat_natCast, h1, HSEND.out]
                              rw [show ((d, (j : Int)) : Hit).2.toNat = j from Int.toNat_natCast j]
                            · rw [Int.toNat_natCast, HSEND.out]
                              exact H2OK.out
                            · rw [HSEND.out]
                              omega)
                          clear e0 hm1 hm2 HSX HBX HTX
                          go_wp2
                          go_roundw
                          case rel => exact ⟨k', m11, d11, m12, d12, m13, d13, b11, b12, b13, rfl, rfl, rfl, HINV⟩
                          case measure =>
                            have h1 := (leastK_spec HINV.out).2
                            have h2 := HK.out
                            show leastK _ < leastK _
                            rw [h2]
                            omega
                  · as_aux_lemma =>
                      have e0 : ((lev : Int) == 0) = false := by simpa using hl0
                      have e1 : decide ((lev : Int) = 0) = false := decide_eq_false (by omega)
                      have e2 : decide (lev = 0) = false := decide_eq_false hl0
                      obtain ⟨NX, hNX⟩ : ∃ NX, natsI lks = NX := ⟨_, rfl⟩
                      have HNXE := Lib.hid (show G.nextI j lev = NX from by
                        unfold GraphV.nextI
                        rw [if_neg hl0, HLKS.out, List.append_nil]
                        exact hNX)
                      have HNXC := Lib.hid (show intsC lks = NX.map (Value.int .i64) from by rw [← hNX]; simp [natsI])
                      have HNXN := Lib.hid (show NX.length = lks.length from by rw [← hNX, natsI_len])
                      clear hl0 hNX
                      go_wp2_with (first
                        | (at_builtin; go_must (refine app_one wq rfl _ _ 46 3 rfl Try.underlying46 (.int .i64 0) 8 int_info11 rfl wq.heap.size (.slice none 0 0) [] rfl (World.ownsRow_nil wq wq.heap.size _ 1) va vn vc (intsC lks) rfl (by rw [List.length_map]; exact HVN.out) (fun ha => HSRC.out.1 ha) (by have h8 := HSRC.out.2 lks.length (Nat.le_refl _); rw [List.take_length, HVN.out] at h8; exact h8) (ints_one _) (by simp; omega) (by simp; omega) (Nat.le_refl _) ?_); intro v1 w8 h3 h4; obtain ⟨a18, T, c18, rfl, hm1⟩ := ownsRow_slice h3; have BBQ8 := Lib.hid (((Kept.refl [] wq).grown h4 fun q hq => (by cases hq)).below (B := wq.heap.size) (by simp) (Nat.le_refl _)); have NN := Lib.hid (show lks.length = T from by rw [hm1.out]; simp); have RR := Lib.hid (show w8.ownsRow wq.heap.size 3 1 (.slice a18 T c18) T (intsC lks) from by have h5 := h3; simp only [List.nil_append] at h5; rw [List.length_map, NN.out] at h5; exact h5); clear h3 h4 hm1)
                        | fail)
                      have HNXL := Lib.hid (show NX.length = T from by rw [HNXN.out, NN.out])
                      have H18 := Lib.hid (show w8.ownsRow wq.heap.size 3 1 (.slice a18 T c18) T (NX.map (Value.int .i64)) from by rw [← HNXC.out]; exact RR.out)
                      have HTB : T ≤ 100002 := by have := HLL.out; have := NN.out; omega
                      clear e0 e1 e2
                      have S8 := Lib.hid (HSQ.out.on BBQ8.out)
                      have B8 := Lib.hid (HB4.out.trans (BBQ8.out.mono HB4.out.size))
  
                      have HROW := Lib.hid (show ∀ (i : Nat), i < T → ∃ (tb : Nat), a18 = some ⟨tb, 0, none⟩ ∧ tb < w8.heap.size ∧ wq.heap.size ≤ tb ∧ w8.cell? ⟨tb, i, none⟩ = some (.int .i64 (NX.getD i 0)) ∧ ∀ X, Below w8.heap.size w8 X → X.heap[tb]? = w8.heap[tb]? from fun i hi => by
                        rcases own_cells1 (show w8.ownsRow wq.heap.size 3 1 _ (NX.map (Value.int .i64)).length (NX.map (Value.int .i64)) from by rw [List.length_map, HNXL.out]; exact H18.out) with ⟨_, h4⟩ | ⟨tb, c2, e1, _, h3, h4, h5⟩
                        · have := congrArg List.length h4
                          rw [List.length_map, HNXL.out] at this
                          simp at this
                          omega
                        · simp only [Value.slice.injEq] at e1
                          refine ⟨tb, e1.1, h4, h3, ?_, fun X hb => hb.block tb h4⟩
                          rw [h5 i (by rw [List.length_map, HNXL.out]; exact hi), List.getElem?_map, List.getElem?_eq_getElem (by rw [HNXL.out]; exact hi), List.getD_eq_getElem?_getD, List.getElem?_eq_getElem (by rw [HNXL.out]; exact hi)]
                          rfl)
                      have HST8 := Lib.hid (show ∀ tb, a18 = some ⟨tb, 0, none⟩ → tb < w8.heap.size ∧ (Value.slice a11 n11 c11).ownBlock ≠ some tb from fun tb e => by
                        have h8 := World.ownsRow.lt H18.out tb (by rw [e]; rfl)
                        refine ⟨h8.2, fun hh => ?_⟩
                        have h9 := (RowC.lt HSQ.out.met tb hh).2
                        omega)
                      clear BBQ8 HSRC s1 s2 s3 q1
                      go_wp2_with (fail)
                      go_loopw [11, 12, 13, 19] (fun s11 s12 s13 s19 wx => ∃ (i m11 d11 m12 d12 m13 d13 : Nat) (b11 b12 b13 : Option Addr), i ≤ T ∧ s19 = .int .i64 (i : Int) ∧ s11 = .slice b11 m11 d11 ∧ s12 = .slice b12 m12 d12 ∧ s13 = .slice b13 m13 d13 ∧ Hid (RWs w.heap.size wx (.slice b11 m11 d11) b12 m12 d12 (.slice b13 m13 d13) ((NX.take i).foldl (G.meetI q W (lev : Int)) ⟨met, ws, best⟩)) ∧ Hid (Below w.heap.size w wx) ∧ Hid (∀ tb, a18 = some ⟨tb, 0, none⟩ → wx.heap[tb]? = w8.heap[tb]? ∧ tb < wx.heap.size ∧ (Value.slice b11 m11 d11).ownBlock ≠ some tb)) (fun _ _ _ s19 _ => T - (intOf s19).toNat)
                      case atStart => exact ⟨0, n11, c11, mw, c2, n13, c13, a11, a2, _, Nat.zero_le _, rfl, rfl, rfl, rfl, S8, B8.out, fun tb e => ⟨rfl, HST8.out tb e⟩⟩
                      case round =>
                        clear S8 B8
                        obtain ⟨i, m11, d11, m12, d12, m13, d13, b11, b12, b13, hi, rfl, rfl, rfl, rfl, HSX, HBX, HTX⟩ := hrel
                        obtain ⟨st, hst⟩ : ∃ st, (NX.take i).foldl (G.meetI q W (lev : Int)) ⟨met, ws, best⟩ = st := ⟨_, rfl⟩
                        have HSTE := Lib.hid hst
                        rw [hst] at HSX
                        have HOKI := Lib.hid (show WalkOk G q W lev st from by
                          rw [← hst]
                          exact H1OK.out.foldI)
                        clear hst
                        by_cases hiT : i < T
                        · obtain ⟨tb, rfl, htl, htlo, htc, htb⟩ := HROW.out i hiT
                          obtain ⟨x, hx⟩ : ∃ x, NX.getD i 0 = x := ⟨_, rfl⟩
                          rw [hx] at htc
                          have HTK := Lib.hid (show (NX.take (i + 1)).foldl (G.meetI q W (lev : Int)) ⟨met, ws, best⟩ = G.meetI q W (lev : Int) st x from by
                            rw [getD_take (by rw [HNXL.out]; exact hiT) hx, List.foldl_append, HSTE.out]
                            rfl)
                          obtain ⟨hth, htx, htn⟩ := HTX.out tb rfl
                          have r0 : wr.cell? ⟨tb, i, none⟩ = some (.int .i64 x) := (World.cell?_of_block (a := ⟨tb, i, none⟩) hth).trans htc
                          have HR0 := Lib.hid (fun (X : World) (hb : X.heap[tb]? = w8.heap[tb]?) => show X.cell? ⟨tb, i, none⟩ = some (.int .i64 x) from (World.cell?_of_block (a := ⟨tb, i, none⟩) hb).trans htc)
                          have HTH := Lib.hid (And.intro hth (And.intro htx htn))
                          have HSB := Lib.hid (HSI.out st HOKI.out)
                          have hrd := HSX.out.met.reads (by have := HSB.out.1; omega) (fun y hy => by have := HSB.out.2.2.2 y hy; omega)
                          obtain ⟨has, hhas⟩ : ∃ has, decide (x ∈ natsI st.met) = has := ⟨_, rfl⟩
                          have C2 := Lib.hid (rhas_any wr b11 m11 d11 _ hrd x has hhas)
                          have HHAS := Lib.hid hhas
                          have KM := Lib.hid (show i + 1 ≤ T from hiT)
                          have hwl : w.heap.size ≤ wr.heap.size := HBX.out.size
                          clear hrd hhas hx htc htb hth htn
                          cases has with
                          | true =>
                            have HE := Lib.hid (meetI_old (g := G) (q := q) (W := W) (level := (lev : Int)) (of_decide_eq_true HHAS.out))
                            go_wp2_with (first
                              | (go_at_call 14; refine C2.out.mono ?_; rintro e w9 ⟨rfl, h5⟩; have BB := Lib.hid h5; clear h5)
                              | fail)
                            go_roundw
                            case rel => exact ⟨i + 1, m11, d11, m12, d12, m13, d13, b11, b12, b13, KM.out, by go_num, rfl, rfl, rfl, by rw [HTK.out, HE.out]; exact HSX.out.on BB.out, HBX.out.trans (BB.out.mono HBX.out.size), fun tb' e' => by
                              simp at e'
                              subst e'
                              exact ⟨(BB.out.block _ HTH.out.2.1).trans HTH.out.1, Nat.lt_of_lt_of_le HTH.out.2.1 BB.out.size, HTH.out.2.2⟩⟩
                            case measure => simp [intOf]; omega
                          | false =>
                            cases hz : G.onB x (lev : Int) with
                            | false =>
                              have HE := Lib.hid (meetI_off (g := G) (q := q) (W := W) (level := (lev : Int)) (s := st) hz)
                              have C3 := Lib.hid (fun (X : World) (hb : Below w.heap.size w X) => CT.out X hb x false hz)
                              clear hz
                              go_wp2_with (first
                                | (go_at_call 14; refine C2.out.mono ?_; rintro e w9 ⟨rfl, h5⟩; have BB := Lib.hid h5; have B9 := Lib.hid (HBX.out.trans (h5.mono HBX.out.size)); have r9 := HR0.out w9 ((h5.block _ htx).trans HTH.out.1); clear h5)
                                | (go_at_call 27; refine (C3.out _ B9.out).mono ?_; rintro e w' ⟨rfl, h3⟩; subst h3)
                                | fail)
                              go_roundw
                              case rel => exact ⟨i + 1, m11, d11, m12, d12, m13, d13, b11, b12, b13, KM.out, by go_num, rfl, rfl, rfl, by rw [HTK.out, HE.out]; exact HSX.out.on BB.out, B9.out, fun tb' e' => by
                                simp at e'
                                subst e'
                                exact ⟨(BB.out.block _ HTH.out.2.1).trans HTH.out.1, Nat.lt_of_lt_of_le HTH.out.2.1 BB.out.size, HTH.out.2.2⟩⟩
                              case measure => simp [intOf]; omega
                            | true =>
                              obtain ⟨jx, rfl⟩ : ∃ jx : Nat, x = (jx : Int) := ⟨x.toNat, by have := onB_nonneg hz; omega⟩
                              have hjxN := HJ.out jx hz
                              have HNM := Lib.hid (show jx ∉ st.met from fun hm => (of_decide_eq_false HHAS.out) (mem_natsI.2 hm))
                              have C3 := Lib.hid (fun (X : World) (hb : Below w.heap.size w X) => CT.out X hb (jx : Int) true hz)
                              have HE := Lib.hid (meetI_new (g := G) (q := q) (W := W) (level := (lev : Int)) (s := st) hz HNM.out)
                              obtain ⟨dx, hdx⟩ : ∃ dx, (G.hit q jx).1 = dx := ⟨_, rfl⟩
                              have HD := Lib.hid hdx
                              have HHIT := Lib.hid (show G.hit q jx = (dx, (jx : Int)) from Prod.ext hdx rfl)
                              have hjw2 : IntKind.u32.wrap (jx : Int) = (jx : Int) := by rw [IntKind.wrap_u32]; omega
                              have HJW := Lib.hid hjw2
                              have hsl1 := Lib.hid (show st.met.length ≤ 1000000 from by have := HSB.out.1; omega)
                              clear hz hdx hjw2 HHAS
                              go_upto_region 27 with (first
                                | (go_at_call 14; refine C2.out.mono ?_; rintro e w9 ⟨rfl, h5⟩; have S9 := Lib.hid (HSX.out.on h5); have B9 := Lib.hid (HBX.out.trans (h5.mono HBX.out.size)); have H9 := Lib.hid ((h5.block _ htx).trans HTH.out.1); have r9 := HR0.out w9 H9.out; have hl9 : w.heap.size ≤ w9.heap.size := B9.out.size; have ht9 : tb < w9.heap.size := Nat.lt_of_lt_of_le htx h5.size; clear h5)
                                | (go_at_call 27; refine (C3.out _ B9.out).mono ?_; rintro e w' ⟨rfl, h3⟩; subst h3)
                                | (at_builtin; go_must (refine app_int w9 rfl _ _ rfl w.heap.size (.slice b11 m11 d11) _ jx rfl rfl S9.out.met hl9 hsl1.out ?_); intro v3 w10 h3 k3 g3; obtain ⟨e11, q11, f11, rfl, -⟩ := h3.parts; have S10 := Lib.hid (S9.out.grown k3 h3); have B10 := Lib.hid (B9.out.trans (k3.below (fun b hb => (RowC.lt S9.out.met b (mem_ownB.1 hb)).1) hl9)); have H10 := Lib.hid ((k3.block tb ht9 (fun hh => HTH.out.2.2 (mem_ownB.1 hh))).trans H9.out); have T10 := Lib.hid (show (Value.slice e11 q11 f11).ownBlock ≠ some tb from fun e => by rcases g3 tb (mem_ownB.2 e) with h | h; (exact HTH.out.2.2 (mem_ownB.1 h)); omega); have ht10 : tb < w10.heap.size := Nat.lt_of_lt_of_le ht9 k3.size; clear h3 k3 g3)
                                | fail)
                              have r10 := HR0.out w10 H10.out
                              refine hit_region 150 20 18 19 w10 g tb 0 T c18 i qa qn qc (jx : Int) dx ⟨_, rfl, rfl, rfl, rfl, by kernel_rfl⟩ ⟨_, rfl, rfl, rfl, rfl, by kernel_rfl⟩ ⟨_, rfl, rfl, rfl, rfl, by kernel_rfl⟩ ⟨_, rfl, rfl, rfl, rfl, by kernel_rfl⟩ ⟨_, rfl, rfl, rfl, rfl, by kernel_rfl⟩ ⟨_, rfl, rfl, rfl, rfl, by kernel_rfl⟩ ⟨_, rfl, rfl, rfl, rfl, by kernel_rfl⟩ ⟨_, rfl, rfl, rfl, rfl, by kernel_rfl⟩ ⟨_, rfl, rfl, rfl, rfl, by kernel_rfl⟩ ⟨_, rfl, rfl, rfl, rfl, by kernel_rfl⟩ ⟨_, rfl, rfl, rfl, rfl, by kernel_rfl⟩ ⟨_, rfl, rfl, rfl, rfl, by kernel_rfl⟩ ⟨_, rfl, rfl, rfl, rfl, by kernel_rfl⟩ ⟨_, rfl, rfl, rfl, rfl, by kernel_rfl⟩ ⟨_, rfl, rfl, rfl, rfl, by kernel_rfl⟩ rfl (by kernel_rfl) (by kernel_rfl) (by show 150 + 13 ≤ 186; decide) (by decide) (by decide) (by decide) (by decide) (by decide) (by decide) rfl rfl rfl rfl hiT (by rw [Nat.zero_add]; exact r10) ht10 HJW.out (fun X hb => CF.out X (B10.out.trans (hb.mono B10.out.size)) jx hjxN dx HD.out) ?_
                              intro E w11 bb hE hbb hblk hb11
                              have B11 := Lib.hid (B10.out.trans (hb11.mono B10.out.size))
                              have S11 := Lib.hid (S10.out.on hb11)
                              have H11 := Lib.hid ((hb11.block _ ht10).trans H10.out)
                              have ht11 : tb < w11.heap.size := Nat.lt_of_lt_of_le ht10 hb11.size
                              have x0 : w11.cell? ⟨bb, 0, none⟩ = some (.int .i64 dx) := hblk.cell 0
                              have x1 : w11.cell? ⟨bb, 1, none⟩ = some (.int .u32 (jx : Int)) := hblk.cell 1
                              have HBK := Lib.hid hblk
                              obtain ⟨room, hroom⟩ : ∃ room, decide ((m13 : Int) < ww) = room := ⟨_, rfl⟩
                              have HBN2 := Lib.hid (show st.best.length = m13 from ownB_n S11.out.best)
                              have HROOM := Lib.hid (show st.best.length < W ↔ room = true from by
                                rw [← hroom, decide_eq_true_iff, HBN2.out]
                                have := HWW.out
                                omega)
                              simp only [filledR, dsH, hE, Nat.reduceLT, Nat.reduceAdd, Nat.reduceEqDiff, if_true, if_false]
                              clear hE hbb hblk hb11 r10 r0
                              go_simp
                              go_step
                              cases room with
                              | true =>
                                have HE2 := Lib.hid (show G.meetI q W (lev : Int) st (jx : Int) = ⟨st.met ++ [jx], ins (dx, (jx : Int)) st.waits, (ins (dx, (jx : Int)) st.best).take W⟩ from by
                                  rw [HE.out, HHIT.out, if_pos (.inl (HROOM.out.2 rfl))])
                                clear HROOM
                                go_wp2_with (fail)
                                go_quiet (fail)
                                obtain ⟨wz, hwz⟩ : ∃ wz, w11.drewN nq = wz := ⟨_, rfl⟩
                                have HBZ := Lib.hid (show Below w11.heap.size w11 wz from by rw [← hwz]; exact below_draws (Below.refl _ _) _)
                                rw [hwz]
                                clear hwz hroom
                                as_aux_lemma =>
                                  have SZ := Lib.hid (S11.out.on HBZ.out)
                                  have BZ := Lib.hid (B11.out.trans (HBZ.out.mono B11.out.size))
                                  have HZZ := Lib.hid ((HBZ.out.block _ ht11).trans H11.out)
                                  have htz : tb < wz.heap.size := Nat.lt_of_lt_of_le ht11 HBZ.out.size
                                  have HBKZ := Lib.hid ((Kept.of_below (F := []) HBZ.out (Nat.le_refl _)).blk HBK.out (by simp))
                                  have x0 : wz.cell? ⟨bb, 0, none⟩ = some (.int .i64 dx) := HBKZ.out.cell 0
                                  have x1 : wz.cell? ⟨bb, 1, none⟩ = some (.int .u32 (jx : Int)) := HBKZ.out.cell 1
                                  have HWL := Lib.hid (show st.waits.length ≤ 100000 ∧ st.best.length ≤ 256 from ⟨by have := HSB.out.2.1; omega, HSB.out.2.2.1⟩)
                                  have CI1 := Lib.hid (into_any b12 m12 d12 _ (dx, (jx : Int)) wz SZ.out.waits.rd (by have h7 := SZ.out.waits.rd.len; have h8 := HWL.out; simp only at h7; omega))
                                  have CI2 := Lib.hid (fun (X : World) (hb : Below wz.heap.size wz X) => into_any _ m13 d13 _ (dx, (jx : Int)) X (HReads.of_own (SZ.out.on hb).best.own (by have h8 := HWL.out; show st.best.length ≤ 1000000; omega)) (by have h7 := ownB_n SZ.out.best; have h8 := HWL.out; simp only at h7; omega))
                                  go_wp2_with (fail)
                                  refine CI1.out.mono ?_
                                  rintro e w12 ⟨v5, rfl, ho5, hb5⟩
                                  obtain ⟨a5, n5, c5, rfl⟩ := ho5.parts11
                                  have O5 := Lib.hid ho5
                                  have BB5 := Lib.hid hb5
                                  have HBK5 := (Kept.of_below (F := []) hb5 (Nat.le_refl _)).blk HBKZ.out (by simp)
                                  have y0 : w12.cell? ⟨bb, 0, none⟩ = some (.int .i64 dx) := HBK5.cell 0
                                  have y1 : w12.cell? ⟨bb, 1, none⟩ = some (.int .u32 (jx : Int)) := HBK5.cell 1
                                  have C6 := Lib.hid (CI2.out w12 hb5)
                                  clear ho5 hb5 HBK5 x0 x1 CI1 CI2
                                  go_wp2_with (fail)
                                  refine C6.out.mono ?_
                                  rintro e w13 ⟨v6, rfl, ho6, hb6⟩
                                  obtain ⟨a6, n6, c6, rfl⟩ := ho6.parts11
                                  have BB6 := Lib.hid hb6
                                  have C7 := Lib.hid (first_any a6 n6 c6 ww _ w13 (HReads.of_own ho6.own (by have h8 := HWL.out; rw [ins_len]; show st.best.length + 1 ≤ 1000000; omega)))
                                  clear ho6 hb6 C6 y0 y1
                                  go_wp2_with (fail)
                                  refine C7.out.mono ?_
                                  rintro e w14 ⟨v7, rfl, ho7, hb7⟩
                                  obtain ⟨a7, n7, c7, rfl⟩ := ho7.parts11
                                  have B57 := BB6.out.trans (hb7.mono BB6.out.size)
                                  have S14 := Lib.hid (show RWs w.heap.size w14 (.slice e11 q11 f11) a5 n5 c5 (.slice a7 n7 c7) ⟨st.met ++ [jx], ins (dx, (jx : Int)) st.waits, (ins (dx, (jx : Int)) st.best).take W⟩ from by
                                    refine ⟨RowC.on (RowC.on SZ.out.met BB5.out) B57, WR.own (((O5.out.mono BZ.out.size).kept (F := []) (Kept.of_below B57 (Nat.le_refl _)) (by simp))) (by have h8 := HWL.out; rw [ins_len]; show st.waits.length + 1 ≤ 1000000; omega), ?_⟩
                                    have h9 := ho7.mono (Nat.le_trans BZ.out.size (Nat.le_trans BB5.out.size BB6.out.size))
                                    rw [show ww.toNat = W from by have := HWW.out; omega] at h9
                                    exact h9)
                                  have BALL := BB5.out.trans (B57.mono BB5.out.size)
                                  have B14 := Lib.hid (BZ.out.trans (BALL.mono BZ.out.size))
                                  have HZE := Lib.hid ((BALL.block _ htz).trans HZZ.out)
                                  have hte : tb < w14.heap.size := Nat.lt_of_lt_of_le htz BALL.size
                                  clear ho7 hb7 B57 C7 BALL
                                  go_wp2
                                  go_roundw
                                  case rel => exact ⟨i + 1, q11, f11, n5, c5, n7, c7, e11, a5, a7, KM.out, by go_num, rfl, rfl, rfl, by rw [HTK.out, HE2.out]; exact S14, B14, fun tb' e' => by
                                    simp at e'
                                    subst e'
                                    exact ⟨HZE.out, hte, T10.out⟩⟩
                                  case measure => simp [intOf]; omega
                              | false =>
                                obtain ⟨y2, hy2⟩ : ∃ y2 : Nat, m13 = y2 + 1 := ⟨m13 - 1, by
                                  have h1 : ¬ st.best.length < W := fun hh => by
                                    have := HROOM.out.1 hh
                                    cases this
                                  have := HWB.out
                                  have := HBN2.out
                                  omega⟩
                                obtain ⟨less, hless⟩ : ∃ less, ltH (dx, (jx : Int)) (lastL st.best) = less := ⟨_, rfl⟩
                                have HYY := Lib.hid (show lastL st.best = st.best.getD y2 (0, 0) from by
                                  unfold lastL
                                  rw [List.getLast?_eq_getElem?, List.getD_eq_getElem?_getD, HBN2.out, hy2]
                                  rfl)
                                obtain ⟨y, hy⟩ : ∃ y, lastL st.best = y := ⟨_, rfl⟩
                                have hyw2 : IntKind.i64.wrap ((m13 : Int) - 1) = (y2 : Int) := by
                                  have := HBN2.out
                                  have := HSB.out.2.2.1
                                  rw [IntKind.wrap_i64]
                                  omega
                                obtain ⟨gb, hgb, -, hgbl, hg0, hg1⟩ := hit_cells S11.out.best.own (show y2 < st.best.length from by rw [HBN2.out, hy2]; omega)
                                subst hgb
                                rw [← HYY.out, hy] at hg0 hg1
                                rw [hy] at hless
                                have HLY := Lib.hid hless
                                have HLST := Lib.hid hy
                                have hyn2 : y2 < m13 := by omega
                                have HSC := Lib.hid (fun (X : World) (hb : Below w11.heap.size w11 X) => show X.cell? ⟨gb, y2 * 2, none⟩ = some (.int .i64 y.1) ∧ X.cell? ⟨gb, y2 * 2 + 1, none⟩ = some (.int .u32 y.2) ∧ X.cell? ⟨bb, 0, none⟩ = some (.int .i64 dx) ∧ X.cell? ⟨bb, 1, none⟩ = some (.int .u32 (jx : Int)) ∧ Below w11.heap.size w11 X from by
                                  have h8 := (Kept.of_below (F := []) hb (Nat.le_refl _)).blk HBK.out (by simp)
                                  exact ⟨(hb.cell (p := ⟨gb, y2 * 2, none⟩) hgbl).trans hg0, (hb.cell (p := ⟨gb, y2 * 2 + 1, none⟩) hgbl).trans hg1, h8.cell 0, h8.cell 1, hb⟩)
                                have HNR := Lib.hid (show ¬ st.best.length < W from fun hh => by
                                  have := HROOM.out.1 hh
                                  cases this)
                                clear hy hg0 hg1 hy2 HROOM hless
                                go_wp2_with (fail)
                                go_region_held3 (fun X => X.cell? ⟨gb, y2 * 2, none⟩ = some (.int .i64 y.1) ∧ X.cell? ⟨gb, y2 * 2 + 1, none⟩ = some (.int .u32 y.2) ∧ X.cell? ⟨bb, 0, none⟩ = some (.int .i64 dx) ∧ X.cell? ⟨bb, 1, none⟩ = some (.int .u32 (jx : Int)) ∧ Below w11.heap.size w11 X)
                                  (first
                                    | (go_keep; done)
                                    | exact HSC.out _ (Below.refl _ _)
                                    | exact HSC.out _ (Below.refl _ _).drew
                                    | (go_split_ands; exact HSC.out _ (below_on (by assumption) hbel)))
                                  (first
                                    | (go_at_call 19; refine (rless_eq (dx, (jx : Int)) y less HLY _).mono ?_; rintro e w' ⟨rfl, hbel⟩))
                                all_goals
                                  rename_i hH
                                  rename World => wz
                                  have HBZ := Lib.hid (show Below w11.heap.size w11 wz from hH.2.2.2.2)
                                  clear hH hbel hyw2 hyn2 hroom HSC
                                  cases less with
                                  | true =>
                                    have HE2 := Lib.hid (show G.meetI q W (lev : Int) st (jx : Int) = ⟨st.met ++ [jx], ins (dx, (jx : Int)) st.waits, (ins (dx, (jx : Int)) st.best).take W⟩ from by
                                      rw [HE.out, HHIT.out, if_pos (.inr (by rw [HLST.out]; exact HLY.out))])
                                    as_aux_lemma =>
                                      have SZ := Lib.hid (S11.out.on HBZ.out)
                                      have BZ := Lib.hid (B11.out.trans (HBZ.out.mono B11.out.size))
                                      have HZZ := Lib.hid ((HBZ.out.block _ ht11).trans H11.out)
                                      have htz : tb < wz.heap.size := Nat.lt_of_lt_of_le ht11 HBZ.out.size
                                      have HBKZ := Lib.hid ((Kept.of_below (F := []) HBZ.out (Nat.le_refl _)).blk HBK.out (by simp))
                                      have x0 : wz.cell? ⟨bb, 0, none⟩ = some (.int .i64 dx) := HBKZ.out.cell 0
                                      have x1 : wz.cell? ⟨bb, 1, none⟩ = some (.int .u32 (jx : Int)) := HBKZ.out.cell 1
                                      have HWL := Lib.hid (show st.waits.length ≤ 100000 ∧ st.best.length ≤ 256 from ⟨by have := HSB.out.2.1; omega, HSB.out.2.2.1⟩)
                                      have CI1 := Lib.hid (into_any b12 m12 d12 _ (dx, (jx : Int)) wz SZ.out.waits.rd (by have h7 := SZ.out.waits.rd.len; have h8 := HWL.out; simp only at h7; omega))
                                      have CI2 := Lib.hid (fun (X : World) (hb : Below wz.heap.size wz X) => into_any _ m13 d13 _ (dx, (jx : Int)) X (HReads.of_own (SZ.out.on hb).best.own (by have h8 := HWL.out; show st.best.length ≤ 1000000; omega)) (by have h7 := ownB_n SZ.out.best; have h8 := HWL.out; simp only at h7; omega))
                                      go_wp2_with (fail)
                                      refine CI1.out.mono ?_
                                      rintro e w12 ⟨v5, rfl, ho5, hb5⟩
                                      obtain ⟨a5, n5, c5, rfl⟩ := ho5.parts11
                                      have O5 := Lib.hid ho5
                                      have BB5 := Lib.hid hb5
                                      have HBK5 := (Kept.of_below (F := []) hb5 (Nat.le_refl _)).blk HBKZ.out (by simp)
                                      have y0 : w12.cell? ⟨bb, 0, none⟩ = some (.int .i64 dx) := HBK5.cell 0
                                      have y1 : w12.cell? ⟨bb, 1, none⟩ = some (.int .u32 (jx : Int)) := HBK5.cell 1
                                      have C6 := Lib.hid (CI2.out w12 hb5)
                                      clear ho5 hb5 HBK5 x0 x1 CI1 CI2
                                      go_wp2_with (fail)
                                      refine C6.out.mono ?_
                                      rintro e w13 ⟨v6, rfl, ho6, hb6⟩
                                      obtain ⟨a6, n6, c6, rfl⟩ := ho6.parts11
                                      have BB6 := Lib.hid hb6
                                      have C7 := Lib.hid (first_any a6 n6 c6 ww _ w13 (HReads.of_own ho6.own (by have h8 := HWL.out; rw [ins_len]; show st.best.length + 1 ≤ 1000000; omega)))
                                      clear ho6 hb6 C6 y0 y1
                                      go_wp2_with (fail)
                                      refine C7.out.mono ?_
                                      rintro e w14 ⟨v7, rfl, ho7, hb7⟩
                                      obtain ⟨a7, n7, c7, rfl⟩ := ho7.parts11
                                      have B57 := BB6.out.trans (hb7.mono BB6.out.size)
                                      have S14 := Lib.hid (show RWs w.heap.size w14 (.slice e11 q11 f11) a5 n5 c5 (.slice a7 n7 c7) ⟨st.met ++ [jx], ins (dx, (jx : Int)) st.waits, (ins (dx, (jx : Int)) st.best).take W⟩ from by
                                        refine ⟨RowC.on (RowC.on SZ.out.met BB5.out) B57, WR.own (((O5.out.mono BZ.out.size).kept (F := []) (Kept.of_below B57 (Nat.le_refl _)) (by simp))) (by have h8 := HWL.out; rw [ins_len]; show st.waits.length + 1 ≤ 1000000; omega), ?_⟩
                                        have h9 := ho7.mono (Nat.le_trans BZ.out.size (Nat.le_trans BB5.out.size BB6.out.size))
                                        rw [show ww.toNat = W from by have := HWW.out; omega] at h9
                                        exact h9)
                                      have BALL := BB5.out.trans (B57.mono BB5.out.size)
                                      have B14 := Lib.hid (BZ.out.trans (BALL.mono BZ.out.size))
                                      have HZE := Lib.hid ((BALL.block _ htz).trans HZZ.out)
                                      have hte : tb < w14.heap.size := Nat.lt_of_lt_of_le htz BALL.size
                                      clear ho7 hb7 B57 C7 BALL
                                      go_wp2
                                      go_roundw
                                      case rel => exact ⟨i + 1, q11, f11, n5, c5, n7, c7, e11, a5, a7, KM.out, by go_num, rfl, rfl, rfl, by rw [HTK.out, HE2.out]; exact S14, B14, fun tb' e' => by
                                        simp at e'
                                        subst e'
                                        exact ⟨HZE.out, hte, T10.out⟩⟩
                                      case measure => simp [intOf]; omega
                                  | false =>
                                    have HE2 := Lib.hid (show G.meetI q W (lev : Int) st (jx : Int) = ⟨st.met ++ [jx], st.waits, st.best⟩ from by
                                      rw [HE.out, HHIT.out, if_neg (fun hh => hh.elim HNR.out fun hh => by rw [HLST.out, HLY.out] at hh; cases hh)])
                                    have SZ := Lib.hid (S11.out.on HBZ.out)
                                    have BZ := Lib.hid (B11.out.trans (HBZ.out.mono B11.out.size))
                                    have HZZ := Lib.hid ((HBZ.out.block _ ht11).trans H11.out)
                                    have htz : tb < wz.heap.size := Nat.lt_of_lt_of_le ht11 HBZ.out.size
                                    go_wp2
                                    go_roundw
                                    case rel => exact ⟨i + 1, q11, f11, m12, d12, m13, d13, e11, b12, _, KM.out, by go_num, rfl, rfl, rfl, by rw [HTK.out, HE2.out]; exact SZ, BZ, fun tb' e' => by
                                      simp at e'
                                      subst e'
                                      exact ⟨HZZ.out, htz, T10.out⟩⟩
                                    case measure => simp [intOf]; omega
                        · obtain rfl : i = T := by omega
                          have e0 : NX.take i = NX := List.take_of_length_le (by rw [HNXL.out]; exact Nat.le_refl _)
                          have hm1 := HMLT.out
                          have hm2 := HMS.out
                          obtain ⟨k', rfl⟩ : ∃ k', k = k' + 1 := ⟨k - 1, by omega⟩
                          have HSEND := Lib.hid (show st = G.meets q W ⟨met, ws, best⟩ (G.nbrs j lev) from by
                            rw [← HSTE.out, e0, ← HNXE.out]
                            exact GraphV.meets_next HR.out q W HON.out _)
                          have HINV := Lib.hid (show InvR G q W (lev : Int) R w (.slice b11 m11 d11) (.slice b12 m12 d12) (.slice b13 m13 d13) wr k' from by
                            refine ⟨st, m11, d11, m12, d12, m13, d13, b11, b12, b13, rfl, rfl, rfl, ?_, ?_, ?_, .inl h0, HSX.out, HBX.out⟩
                            · have h1 := walkF_go (k := k') (g := G) (q := q) (W := W) (level := lev) (s := ⟨met, (d, (j : Int)) :: ws, best⟩) (c := (d, (j : Int))) (ws := ws) rfl HNO.out
                              rw [HRK.out] at h1
                              rw [Int.toNat_natCast, h1, HSEND.out]
                              rw [show ((d, (j : Int)) : Hit).2.toNat = j from Int.toNat_natCast j]
                            · rw [Int.toNat_natCast, HSEND.out]
                              exact H2OK.out
                            · rw [HSEND.out]
                              omega)
                          clear e0 hm1 hm2 HSX HBX HTX
                          go_wp2
                          go_roundw
                          case rel => exact ⟨k', m11, d11, m12, d12, m13, d13, b11, b12, b13, rfl, rfl, rfl, HINV⟩
                          case measure =>
                            have h1 := (leastK_spec HINV.out).2
                            have h2 := HK.out
                            show leastK _ < leastK _
                            rw [h2]
                            omega
end
end Go.Proofs.Ytdfpfgkfmjehiaa
