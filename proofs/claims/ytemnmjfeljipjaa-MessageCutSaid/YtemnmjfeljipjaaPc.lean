/-
  MessageCut holds: what is cut off a message's bytes, or put behind it, is refused.
-/
import Derived.Test.YtemnmjfeljipjaaRows
import Derived.Test.YtemnmjfeljipjaaNu
import Derived.Test.YtemnmjfeljipjaaMy
import Derived.Test.YtemnmjfeljipjaaMz
import Derived.Test.YtemnmjfeljipjaaEl
import Derived.Test.YtemnmjfeljipjaaEc
import Derived.Deep.RegionLaw
namespace Go.Proofs.Ytemnmjfeljipjaa
open Go.ChangeShapes Go.WideShapes Go.ChangeAt Go.RowKit

theorem wp_load_c {P : Program} {ops : Array Oper} {rest : List Oper} {o : Oper} {act : Act} {Q : Exit → Act → World → Prop} (w : World) (hw : Region.wanted o (yielded ops act.tmps) = true) (ty : TypeId) (x : Operand) (hop : o.op = .load ty x) (g : Nat) (t : TypeId) (cs : Array Value) (d : TypeDesc)
    (hx : act.eval x = .pointer (some ⟨g, 0, none⟩)) (hb : w.heap[g]? = some (.cells cs t (0, 0))) (hu : P.underlying ty = some d) (hd : (match d with | .struct _ | .array _ _ => true | _ => false) = true) (hi : (P.info? ty).map (·.size) = some cs.size)
    (K : wpList P ops Q rest (act.put o.dst (.agg cs)) w) : wpList P ops Q (o :: rest) act w := by
  refine BigFrame.wpList_want hw fun K' hK => ?_
  have hl := run_loadVar_row (P := P) w g t ty cs (0, 0) d hb hu hd hi
  unfold Oper.wp execOp
  simp only [hop, hx, Instr.loadAt, Instr.sureAddr, Sem.run_bind, Sem.run_pure, Result.andThen_ok, hl]
  exact hK _ _ K
theorem bytesM_small (x : MsgV) (h : fitM x) : (bytesM x).length ≤ 800000000 := by
  obtain ⟨fs, h1, h2, h3⟩ := h
  have h4 := encF_len fs x h3
  have h5 := (form_some _ fs h1).2
  unfold bytesM
  rw [h1]
  show (encF fs x).length ≤ _
  omega
theorem step_app_at {P : Program} {ops : Array Oper} {o : Oper} {a : Act} {K : Act → World → Prop} {Q : Exit → Act → World → Prop} {E : Prop} (w : World) (hg : o.guard = none) (s x : Operand) (t e : TypeId)
    (hop : o.op = .call { callee := .builtin .append, args := #[s, x], argTypes := #[t, t] }) (hu : P.underlying t = some (.slice e)) (hi : (P.info? e).map (fun i => (i.zero, i.size, i.bytes)) = some (some (.int .u8 0), 1, 1))
    (B : Nat) (v : Value) (zs : List Nat) (hs : a.eval s = v) (hown : OwnAt w B e v zs) (aa : Option Addr) (n cap : Nat) (xs : List Nat) (hx : a.eval x = .slice aa n cap) (h : BReads w aa n cap xs)
    (hb : zs.length + n ≤ 140737488355328) (hbase : B ≤ w.heap.size)
    (hK : ∀ v' w', OwnAt w' B e v' (zs ++ xs) → w.grownBy w' v.ownBlock → (∀ k, v'.ownBlock = some k → v.ownBlock = some k ∨ w.heap.size ≤ k) → K (a.put o.dst v') w') :
    if Region.wanted o (yielded ops a.tmps) = true then Oper.wp P o a w K Q else E := by
  have hw : Region.wanted o (yielded ops a.tmps) = true := by simp [Region.wanted, hg]
  rw [if_pos hw]
  obtain ⟨v', w', hrun, h1, h2, h3⟩ := run_app_at (P := P) o.type hu hi hown h hb hbase
  unfold Oper.wp
  simp [execOp, hop, resolve, invoke, builtin, hs, hx, hrun, Result.andThen]
  exact hK v' w' h1 h2 h3
theorem row_emp (w : World) (B : Nat) (t : TypeId) (g : Nat) (hg : w.heap.size = g) (hB : B ≤ g) : OwnAt (w.alloc (.cells #[] t)) B t (.slice (some ⟨g, 0, none⟩) 0 0) [] := by
  subst hg
  exact ⟨by simp, .inr ⟨w.heap.size, 0, [], [], rfl, hB, Blk.new w t #[], by simp, by simp⟩⟩
theorem OwnAt.read_at {w : World} {B : Nat} {t : TypeId} {a : Option Addr} {n c : Nat} {bs : List Nat} (h : OwnAt w B t (.slice a n c) bs) (hs : bs.length ≤ 140737488355328) : BReads w a n c bs := by
  obtain ⟨a', c', e, hr⟩ := h.reads hs
  simp only [Value.slice.injEq] at e
  obtain ⟨rfl, h1, rfl⟩ := e
  rw [← h1] at hr
  exact hr
theorem msg_new (w : World) (Z : Array Value) (hZ : (zeroL 0).cells.toArray = Z) : Blk (w.alloc (.cells Z 38)) w.heap.size 38 (zeroL 0).cells := by
  rw [← hZ]
  exact Blk.new w 38 (zeroL 0).cells.toArray
theorem mget_er (k : Nat) (hk : k ≤ 255) (a : Option Addr) (n c : Nat) (l : List Nat) (w : World) (h : BReads w a n c l) (er : Int) (he : (er = 0 ∧ ∃ x, readM k l = .inl x) ∨ ∃ e0 : Nat, er = (e0 : Int) ∧ readM k l = .inr e0) :
    Calls Try.prog 8 #[.int .u8 (k : Int), .slice a n c] w fun e w' => Below w.heap.size w w' ∧ ∃ y : MsgL, e = .returned (.tuple #[.agg y.cells.toArray, .int .i64 er]) := by
  refine (mget_any k hk a n c l w h).mono ?_
  rintro e w' ⟨hb, y, e1, rfl, _, ⟨rfl, h1⟩ | ⟨h0, h1, _⟩⟩
  · rcases he with ⟨rfl, x, h2⟩ | ⟨e0, rfl, h2⟩
    · exact ⟨hb, y, rfl⟩
    · rw [h1] at h2
      cases h2
  · rcases he with ⟨rfl, x, h2⟩ | ⟨e0, rfl, h2⟩
    · rw [h1] at h2
      cases h2
    · rw [h1] at h2
      cases h2
      exact ⟨hb, y, rfl⟩

set_option maxRecDepth 100000 in
set_option maxHeartbeats 25600000 in
theorem cut_walk (m : MsgL) (cut : Int) (a2 : Option Addr) (n2 c2 : Nat) (xs : List Nat) (w : World) (h2 : BReads w a2 n2 c2 xs) (hm : m.In (· < w.heap.size) w) :
    Calls Try.prog 4 #[.agg m.cells.toArray, .int .i64 cut, .slice a2 n2 c2] w fun e w' => e = .returned (.bool true) ∧ Below w.heap.size w w' := by
  obtain ⟨M, hM⟩ : ∃ M, m.cells.toArray = M := ⟨_, rfl⟩
  obtain ⟨Z, hZ⟩ : ∃ Z, (zeroL 0).cells.toArray = Z := ⟨_, rfl⟩
  have hz := msg_zero
  rw [hZ] at hz
  have hb1 : (Z = #[]) = False := by
    rw [← hZ]
    simp [MsgL.cells]
  have hb4 : Z.size = 28 := by
    rw [← hZ]
    rfl
  have hM28 : M.size = 28 := by
    rw [← hM]
    rfl
  have hinfoM : (Try.prog.info? 38).map (·.size) = some M.size := by
    rw [hM28]
    kernel_rfl
  have hinfoZ : (Try.prog.info? 38).map (·.size) = some Z.size := by
    rw [hb4]
    kernel_rfl
  rw [hM]
  obtain ⟨w1, hw1⟩ : ∃ w1, w.alloc (.cells M 38) = w1 := ⟨_, rfl⟩
  have X1 := Lib.hid (show Blk w1 w.heap.size 38 m.cells from by rw [← hw1, ← hM]; exact Blk.new w 38 m.cells.toArray)
  have B1 := Lib.hid (show Below w.heap.size w w1 from by rw [← hw1]; exact (Below.refl _ _).alloc (Nat.le_refl _) _)
  have HMM := Lib.hid hM
  have HZ := Lib.hid hZ
  have hl1 := X1.out.lt
  have HM := Lib.hid hm
  clear hM hZ hm
  have hk255 := HM.out.hkind
  go_enter Try.func4, Try.ntmps4
  go_wp2_with (fail)
  try rw [hw1]
  clear hw1
  refine (alive6 w1).mono ?_
  rintro e w2 ⟨rfl, hb⟩
  have X2 := Lib.hid ((Kept.of_below (F := []) hb (Nat.le_refl _)).blk X1.out (by simp))
  have B2 := Lib.hid (below_on B1.out hb)
  have hs2 := hb.size
  have HB2 : w2.heap[w.heap.size]? = some (.cells M 38 (0, 0)) := by
    rw [← HMM.out]
    exact X2.out
  clear hb X1 B1
  go_wp2_with (refine wp_load_c w2 (by rfl) 38 (.tmp 3) rfl w.heap.size 38 M _ (by rfl) HB2 Try.underlying38 rfl hinfoM ?_)
  rw [← HMM.out]
  refine (great_msg m w2 (HM.out.under B2.out)).mono ?_
  rintro e w3 ⟨⟨g, rfl⟩, hb3⟩
  rw [HMM.out]
  have X3 := Lib.hid ((Kept.of_below (F := []) hb3 (Nat.le_refl _)).blk X2.out (by simp))
  have B3 := Lib.hid (below_on B2.out hb3)
  have hs3 := hb3.size
  have HB3 : w3.heap[w.heap.size]? = some (.cells M 38 (0, 0)) := by
    rw [← HMM.out]
    exact X3.out
  clear hb3 X2 B2 HB2
  have XS := Lib.hid h2
  clear h2
  cases g
  rotate_left
  · go_wp2
    go_ret
    exact ⟨rfl, B3.out⟩
  by_cases hn2 : 1000 < n2
  · have hnb : decide ((1000 : Int) < (n2 : Int)) = true := decide_eq_true (by omega)
    go_wp2
    go_ret
    exact ⟨rfl, B3.out⟩
  have hnb : decide ((1000 : Int) < (n2 : Int)) = false := decide_eq_false (by omega)
  go_wp2_with (refine wp_load_c w3 (by rfl) 38 (.tmp 3) rfl w.heap.size 38 M _ (by rfl) HB3 Try.underlying38 rfl hinfoM ?_)
  rw [← HMM.out]
  refine (mput_any m w3 (HM.out.under B3.out)).mono ?_
  rintro e w4 ⟨hb4', ⟨hf, v, rfl, ho⟩ | ⟨hf, rfl⟩⟩
  rotate_left
  · rw [HMM.out]
    have B4 := Lib.hid (below_on B3.out hb4')
    clear hb4' hf
    go_wp2
    go_ret
    exact ⟨rfl, B4.out⟩
  rw [HMM.out]
  have X4 := Lib.hid ((Kept.of_below (F := []) hb4' (Nat.le_refl _)).blk X3.out (by simp))
  have B4 := Lib.hid (below_on B3.out hb4')
  have hs4 := hb4'.size
  have HF := Lib.hid hf
  have hbl := bytesM_small _ hf
  obtain ⟨bs, hbs⟩ : ∃ bs, bytesM m.toM = bs := ⟨_, rfl⟩
  rw [hbs] at ho hbl
  obtain ⟨L, hL⟩ : ∃ L, bs.length = L := ⟨_, rfl⟩
  obtain ⟨va, vc, rfl, hvr, _⟩ := ho.reads (by omega)
  rw [hL] at hvr hbl ⊢
  have VR := Lib.hid hvr
  have HBS := Lib.hid hbs
  have HL := Lib.hid hL
  obtain ⟨k, hk⟩ : ∃ k, m.kind = k := ⟨_, rfl⟩
  rw [hk] at hk255
  have HK := Lib.hid hk
  have d0 : w4.cell? ⟨w.heap.size, 0, none⟩ = some (.int .u8 (k : Int)) := by
    rw [← hk]
    exact X4.out.cell 0
  have hl4 := X4.out.lt
  clear hb4' hf ho hbs hL hvr hk X3 B3 HB3
  by_cases hc : 0 ≤ cut ∧ cut < (L : Int)
  rotate_left
  · have hcb : (decide ((0 : Int) ≤ cut) && decide (cut < (L : Int))) = false := by
      rw [← Bool.decide_and, decide_eq_false hc]
    obtain ⟨er, her⟩ : ∃ er : Int, (if n2 = 0 then 0 else 60) = er := ⟨_, rfl⟩
    have HE0 := Lib.hid (show n2 = 0 → er = 0 from fun h => by rw [← her, if_pos h])
    have HE1 := Lib.hid (show n2 ≠ 0 → er = 60 from fun h => by rw [← her, if_neg h])
    have hlb : ([] ++ bs ++ xs).length ≤ 140737488355328 := by
      rw [List.nil_append, List.length_append, HL.out, XS.out.len]
      omega
    have HER := Lib.hid (show (er = 0 ∧ ∃ x, readM k ([] ++ bs ++ xs) = .inl x) ∨ ∃ e0 : Nat, er = (e0 : Int) ∧ readM k ([] ++ bs ++ xs) = .inr e0 from by
      rw [List.nil_append]
      by_cases hn0 : n2 = 0
      · have hx0 : xs = [] := List.eq_nil_of_length_eq_zero (by rw [XS.out.len]; exact hn0)
        refine .inl ⟨HE0.out hn0, m.toM, ?_⟩
        rw [hx0, List.append_nil, ← HBS.out, ← HK.out]
        exact readM_back m.toM HF.out
      · refine .inr ⟨60, HE1.out hn0, ?_⟩
        have hx0 : xs ≠ [] := fun h => hn0 (by rw [← XS.out.len, h]; rfl)
        rw [← HBS.out, ← HK.out]
        exact readM_more m.toM HF.out xs hx0)
    clear her
    have hb4' := hb4
    have BW := Lib.hid B4.out
    have hlw := hl4
    by_cases hc0 : 0 ≤ cut
    · have hc1 : decide (cut < (L : Int)) = false := decide_eq_false (fun h => hc ⟨hc0, h⟩)
      have hc2 : decide ((0 : Int) ≤ cut) = true := decide_eq_true hc0
      clear hc hcb
      have d0' : (w4.alloc (.cells Z 38)).cell? ⟨w.heap.size, 0, none⟩ = some (.int .u8 (k : Int)) := (((Kept.refl [] w4).alloc _).cell (p := ⟨w.heap.size, 0, none⟩) hlw (by simp)).trans d0
      have d0e : (w4.alloc (.cells #[] 5)).cell? ⟨w.heap.size, 0, none⟩ = some (.int .u8 (k : Int)) := (((Kept.refl [] w4).alloc _).cell (p := ⟨w.heap.size, 0, none⟩) hlw (by simp)).trans d0
      have FA := Lib.hid (row_emp w4.drew w4.heap.size 5 w4.heap.size rfl (Nat.le_refl _))
      have FB := Lib.hid (row_emp (w4.drew.alloc (.cells Z 38)) w4.heap.size 5 (w4.heap.size + 1) (by simp) (by simp))
      have FC := Lib.hid (FA.out.on ((Below.refl _ _).alloc (Nat.le_refl _) (.cells Z 38)))
      have VB := Lib.hid (show ∀ w', Below w4.heap.size w4 w' → BReads w' va L vc bs from fun w' hb => VR.out.on hb)
      have XB := Lib.hid (show ∀ w', Below w4.heap.size w4 w' → BReads w' a2 n2 c2 xs from fun w' hb => XS.out.below (Nat.le_refl _) (BW.out.trans (hb.mono BW.out.size)))
      have LA := Lib.hid (show Below w4.heap.size w4 (w4.drew.alloc (.cells #[] 5)) from (Below.refl _ _).drew.alloc (Nat.le_refl _) _)
      have LB := Lib.hid (show Below w4.heap.size w4 ((w4.drew.alloc (.cells Z 38)).alloc (.cells #[] 5)) from ((Below.refl _ _).drew.alloc (Nat.le_refl _) _).alloc (by simp) _)
      have LC := Lib.hid (show Below w4.heap.size w4 ((w4.drew.alloc (.cells #[] 5)).alloc (.cells Z 38)) from ((Below.refl _ _).drew.alloc (Nat.le_refl _) _).alloc (by simp) _)
      have ZB := Lib.hid (show Blk ((w4.drew.alloc (.cells Z 38)).alloc (.cells #[] 5)) w4.heap.size 38 (zeroL 0).cells from by
        rw [← HZ.out]
        exact (Blk.new w4.drew 38 (zeroL 0).cells.toArray).alloc _)
      have ZC := Lib.hid (show Blk ((w4.drew.alloc (.cells #[] 5)).alloc (.cells Z 38)) (w4.heap.size + 1) 38 (zeroL 0).cells from by
        have hs : (w4.drew.alloc (.cells #[] 5)).heap.size = w4.heap.size + 1 := by simp
        rw [← hs]
        exact msg_new _ Z HZ.out)
      go_upto_region 12 with fail
      go_cut [12] (fun s12 wx => s12 = .int .i64 er ∧ Hid (Below w4.heap.size w4 wx))
      case first =>
        go_region_law (first
          | (refine step_app_at (w4.drew.alloc (.cells #[] 5)) (by rfl) (.tmp 54) (.tmp 55) 22 5 (by rfl) Try.underlying22 byte_info w4.heap.size _ [] (by rfl) FA.out va L vc bs (by rfl) (VB.out _ LA.out) (by simp; omega) (by simp) ?_; intro v1 w1 ho1 hg1 _; obtain ⟨r1, s1, t1, rfl, _⟩ := ho1.parts; have O1 := Lib.hid ho1; have L1 := Lib.hid (LA.out.grown hg1 (by simp) (fun k hk => (FA.out.lt k hk).1)); have e1 := L1.out.size; have y1 : w1.cell? ⟨w.heap.size, 0, none⟩ = some (.int .u8 (k : Int)) := ((Kept.of_below (F := []) L1.out (Nat.le_refl _)).cell (p := ⟨w.heap.size, 0, none⟩) hlw (by simp)).trans d0; have y1' : (w1.alloc (.cells Z 38)).cell? ⟨w.heap.size, 0, none⟩ = some (.int .u8 (k : Int)) := (((Kept.refl [] w1).alloc _).cell (p := ⟨w.heap.size, 0, none⟩) (show w.heap.size < w1.heap.size by omega) (by simp)).trans y1; clear ho1 hg1)
          | (refine step_app_at ((w4.drew.alloc (.cells Z 38)).alloc (.cells #[] 5)) (by rfl) (.tmp 54) (.tmp 55) 22 5 (by rfl) Try.underlying22 byte_info w4.heap.size _ [] (by rfl) FB.out va L vc bs (by rfl) (VB.out _ LB.out) (by simp; omega) (by simp; omega) ?_; intro v1 w1 ho1 hg1 _; obtain ⟨r1, s1, t1, rfl, _⟩ := ho1.parts; have O1 := Lib.hid ho1; have L1 := Lib.hid (LB.out.grown hg1 (by simp; omega) (fun k hk => (FB.out.lt k hk).1)); have e1 := L1.out.size; have y1 : w1.cell? ⟨w.heap.size, 0, none⟩ = some (.int .u8 (k : Int)) := ((Kept.of_below (F := []) L1.out (Nat.le_refl _)).cell (p := ⟨w.heap.size, 0, none⟩) hlw (by simp)).trans d0; have y1' : (w1.alloc (.cells Z 38)).cell? ⟨w.heap.size, 0, none⟩ = some (.int .u8 (k : Int)) := (((Kept.refl [] w1).alloc _).cell (p := ⟨w.heap.size, 0, none⟩) (show w.heap.size < w1.heap.size by omega) (by simp)).trans y1; have Z1 := Lib.hid (ZB.out.grown hg1 (fun hh => FB.out.far ZB.out (by decide) _ hh rfl)); clear ho1 hg1)
          | (refine step_app_at ((w4.drew.alloc (.cells #[] 5)).alloc (.cells Z 38)) (by rfl) (.tmp 54) (.tmp 55) 22 5 (by rfl) Try.underlying22 byte_info w4.heap.size _ [] (by rfl) FC.out va L vc bs (by rfl) (VB.out _ LC.out) (by simp; omega) (by simp; omega) ?_; intro v1 w1 ho1 hg1 _; obtain ⟨r1, s1, t1, rfl, _⟩ := ho1.parts; have O1 := Lib.hid ho1; have L1 := Lib.hid (LC.out.grown hg1 (by simp; omega) (fun k hk => (FC.out.lt k hk).1)); have e1 := L1.out.size; have y1 : w1.cell? ⟨w.heap.size, 0, none⟩ = some (.int .u8 (k : Int)) := ((Kept.of_below (F := []) L1.out (Nat.le_refl _)).cell (p := ⟨w.heap.size, 0, none⟩) hlw (by simp)).trans d0; have y1' : (w1.alloc (.cells Z 38)).cell? ⟨w.heap.size, 0, none⟩ = some (.int .u8 (k : Int)) := (((Kept.refl [] w1).alloc _).cell (p := ⟨w.heap.size, 0, none⟩) (show w.heap.size < w1.heap.size by omega) (by simp)).trans y1; have Z1 := Lib.hid (ZC.out.grown hg1 (fun hh => FC.out.far ZC.out (by decide) _ hh rfl)); clear ho1 hg1)
          | (refine step_app_at w1 (by rfl) (.tmp 56) (.tmp 57) 22 5 (by rfl) Try.underlying22 byte_info w4.heap.size _ ([] ++ bs) (by rfl) O1.out a2 n2 c2 xs (by rfl) (XB.out _ L1.out) (by rw [List.nil_append, HL.out]; omega) (by (try simp); omega) ?_; intro v2 w2 ho2 hg2 _; obtain ⟨r2, s2, t2, rfl, _⟩ := ho2.parts; have O2 := Lib.hid ho2; have L2 := Lib.hid (L1.out.grown hg2 (by (try simp); omega) (fun k hk => (O1.out.lt k hk).1)); have e2 := L2.out.size; have y2 : w2.cell? ⟨w.heap.size, 0, none⟩ = some (.int .u8 (k : Int)) := ((Kept.of_below (F := []) L2.out (Nat.le_refl _)).cell (p := ⟨w.heap.size, 0, none⟩) hlw (by simp)).trans d0; have y2' : (w2.alloc (.cells Z 38)).cell? ⟨w.heap.size, 0, none⟩ = some (.int .u8 (k : Int)) := (((Kept.refl [] w2).alloc _).cell (p := ⟨w.heap.size, 0, none⟩) (show w.heap.size < w2.heap.size by omega) (by simp)).trans y2; (try have Z2 := Lib.hid (Z1.out.grown hg2 (fun hh => O1.out.far Z1.out (by decide) _ hh rfl))); clear ho2 hg2)
          | (refine step_app_at (w1.alloc (.cells Z 38)) (by rfl) (.tmp 56) (.tmp 57) 22 5 (by rfl) Try.underlying22 byte_info w4.heap.size _ ([] ++ bs) (by rfl) (O1.out.on ((Below.refl _ _).alloc (Nat.le_refl _) _)) a2 n2 c2 xs (by rfl) (XB.out _ (L1.out.alloc L1.out.size _)) (by rw [List.nil_append, HL.out]; omega) (by (try simp); omega) ?_; intro v2 w2 ho2 hg2 _; obtain ⟨r2, s2, t2, rfl, _⟩ := ho2.parts; have O2 := Lib.hid ho2; have L2 := Lib.hid ((L1.out.alloc L1.out.size _).grown hg2 (by (try simp); omega) (fun k hk => (O1.out.lt k hk).1)); have e2 := L2.out.size; have y2 : w2.cell? ⟨w.heap.size, 0, none⟩ = some (.int .u8 (k : Int)) := ((Kept.of_below (F := []) L2.out (Nat.le_refl _)).cell (p := ⟨w.heap.size, 0, none⟩) hlw (by simp)).trans d0; have y2' : (w2.alloc (.cells Z 38)).cell? ⟨w.heap.size, 0, none⟩ = some (.int .u8 (k : Int)) := (((Kept.refl [] w2).alloc _).cell (p := ⟨w.heap.size, 0, none⟩) (show w.heap.size < w2.heap.size by omega) (by simp)).trans y2; have Z2 := Lib.hid ((msg_new w1 Z HZ.out).grown hg2 (fun hh => (O1.out.on ((Below.refl _ _).alloc (Nat.le_refl _) (.cells Z 38))).far (msg_new w1 Z HZ.out) (by decide) _ hh rfl)); clear ho2 hg2)
          | (rw [if_pos (by rfl)]; go_simp; go_at_call 8; refine (mget_er k hk255 r2 s2 t2 ([] ++ bs ++ xs) w2 (O2.out.read_at hlb) er HER.out).mono ?_; rintro r w3 ⟨hb3, y, rfl⟩; have L3 := Lib.hid (L2.out.trans (hb3.mono L2.out.size)); (try have Z3 := Lib.hid ((Kept.of_below (F := []) hb3 (Nat.le_refl _)).blk Z2.out (by simp))); have hstn := msg_store_new w3 Z y hb4'; (try have hst := msg_store w3 _ _ y Z3.out rfl); have hF28 : y.cells.toArray.size = 28 := rfl; generalize y.cells.toArray = U at *; clear hb3)
          | (rw [if_pos (by rfl)]; go_simp; go_at_call 8; refine (mget_er k hk255 r2 s2 t2 ([] ++ bs ++ xs) (w2.alloc (.cells Z 38)) ((O2.out.read_at hlb).alloc _) er HER.out).mono ?_; rintro r w3 ⟨hb3, y, rfl⟩; have L3 := Lib.hid ((L2.out.alloc L2.out.size _).trans (hb3.mono (L2.out.alloc L2.out.size _).size)); have Z3 := Lib.hid ((Kept.of_below (F := []) hb3 (Nat.le_refl _)).blk (msg_new w2 Z HZ.out) (by simp)); have hstn := msg_store_new w3 Z y hb4'; (try have hst := msg_store w3 _ _ y Z3.out rfl); have hF28 : y.cells.toArray.size = 28 := rfl; generalize y.cells.toArray = U at *; clear hb3))
        all_goals
          go_wp2
          go_meet
          first
            | exact ⟨rfl, L3.out.alloc L3.out.size _⟩
            | exact ⟨rfl, below_kept2 L3.out (Nat.le_refl _) (by omega) (setRow_kept _ _ _)⟩
      case rest =>
        obtain ⟨rfl, HC⟩ := hcut
        have B9 := Lib.hid (BW.out.trans (HC.out.mono BW.out.size))
        clear HC
        by_cases hn0 : n2 = 0
        · subst hn0
          obtain rfl : er = 0 := HE0.out rfl
          go_wp2
          go_ret
          exact ⟨rfl, B9.out⟩
        · obtain rfl : er = 60 := HE1.out hn0
          have hn0b : decide ((0 : Int) < (n2 : Int)) = true := decide_eq_true (by omega)
          have hpos : 0 < n2 := by omega
          go_wp2
          go_ret
          exact ⟨by simp, B9.out⟩
    · have hc2 : decide ((0 : Int) ≤ cut) = false := decide_eq_false hc0
      clear hc hcb
      have d0' : (w4.alloc (.cells Z 38)).cell? ⟨w.heap.size, 0, none⟩ = some (.int .u8 (k : Int)) := (((Kept.refl [] w4).alloc _).cell (p := ⟨w.heap.size, 0, none⟩) hlw (by simp)).trans d0
      have d0e : (w4.alloc (.cells #[] 5)).cell? ⟨w.heap.size, 0, none⟩ = some (.int .u8 (k : Int)) := (((Kept.refl [] w4).alloc _).cell (p := ⟨w.heap.size, 0, none⟩) hlw (by simp)).trans d0
      have FA := Lib.hid (row_emp w4.drew w4.heap.size 5 w4.heap.size rfl (Nat.le_refl _))
      have FB := Lib.hid (row_emp (w4.drew.alloc (.cells Z 38)) w4.heap.size 5 (w4.heap.size + 1) (by simp) (by simp))
      have FC := Lib.hid (FA.out.on ((Below.refl _ _).alloc (Nat.le_refl _) (.cells Z 38)))
      have VB := Lib.hid (show ∀ w', Below w4.heap.size w4 w' → BReads w' va L vc bs from fun w' hb => VR.out.on hb)
      have XB := Lib.hid (show ∀ w', Below w4.heap.size w4 w' → BReads w' a2 n2 c2 xs from fun w' hb => XS.out.below (Nat.le_refl _) (BW.out.trans (hb.mono BW.out.size)))
      have LA := Lib.hid (show Below w4.heap.size w4 (w4.drew.alloc (.cells #[] 5)) from (Below.refl _ _).drew.alloc (Nat.le_refl _) _)
      have LB := Lib.hid (show Below w4.heap.size w4 ((w4.drew.alloc (.cells Z 38)).alloc (.cells #[] 5)) from ((Below.refl _ _).drew.alloc (Nat.le_refl _) _).alloc (by simp) _)
      have LC := Lib.hid (show Below w4.heap.size w4 ((w4.drew.alloc (.cells #[] 5)).alloc (.cells Z 38)) from ((Below.refl _ _).drew.alloc (Nat.le_refl _) _).alloc (by simp) _)
      have ZB := Lib.hid (show Blk ((w4.drew.alloc (.cells Z 38)).alloc (.cells #[] 5)) w4.heap.size 38 (zeroL 0).cells from by
        rw [← HZ.out]
        exact (Blk.new w4.drew 38 (zeroL 0).cells.toArray).alloc _)
      have ZC := Lib.hid (show Blk ((w4.drew.alloc (.cells #[] 5)).alloc (.cells Z 38)) (w4.heap.size + 1) 38 (zeroL 0).cells from by
        have hs : (w4.drew.alloc (.cells #[] 5)).heap.size = w4.heap.size + 1 := by simp
        rw [← hs]
        exact msg_new _ Z HZ.out)
      go_upto_region 12 with fail
      go_cut [12] (fun s12 wx => s12 = .int .i64 er ∧ Hid (Below w4.heap.size w4 wx))
      case first =>
        go_region_law (first
          | (refine step_app_at (w4.drew.alloc (.cells #[] 5)) (by rfl) (.tmp 54) (.tmp 55) 22 5 (by rfl) Try.underlying22 byte_info w4.heap.size _ [] (by rfl) FA.out va L vc bs (by rfl) (VB.out _ LA.out) (by simp; omega) (by simp) ?_; intro v1 w1 ho1 hg1 _; obtain ⟨r1, s1, t1, rfl, _⟩ := ho1.parts; have O1 := Lib.hid ho1; have L1 := Lib.hid (LA.out.grown hg1 (by simp) (fun k hk => (FA.out.lt k hk).1)); have e1 := L1.out.size; have y1 : w1.cell? ⟨w.heap.size, 0, none⟩ = some (.int .u8 (k : Int)) := ((Kept.of_below (F := []) L1.out (Nat.le_refl _)).cell (p := ⟨w.heap.size, 0, none⟩) hlw (by simp)).trans d0; have y1' : (w1.alloc (.cells Z 38)).cell? ⟨w.heap.size, 0, none⟩ = some (.int .u8 (k : Int)) := (((Kept.refl [] w1).alloc _).cell (p := ⟨w.heap.size, 0, none⟩) (show w.heap.size < w1.heap.size by omega) (by simp)).trans y1; clear ho1 hg1)
          | (refine step_app_at ((w4.drew.alloc (.cells Z 38)).alloc (.cells #[] 5)) (by rfl) (.tmp 54) (.tmp 55) 22 5 (by rfl) Try.underlying22 byte_info w4.heap.size _ [] (by rfl) FB.out va L vc bs (by rfl) (VB.out _ LB.out) (by simp; omega) (by simp; omega) ?_; intro v1 w1 ho1 hg1 _; obtain ⟨r1, s1, t1, rfl, _⟩ := ho1.parts; have O1 := Lib.hid ho1; have L1 := Lib.hid (LB.out.grown hg1 (by simp; omega) (fun k hk => (FB.out.lt k hk).1)); have e1 := L1.out.size; have y1 : w1.cell? ⟨w.heap.size, 0, none⟩ = some (.int .u8 (k : Int)) := ((Kept.of_below (F := []) L1.out (Nat.le_refl _)).cell (p := ⟨w.heap.size, 0, none⟩) hlw (by simp)).trans d0; have y1' : (w1.alloc (.cells Z 38)).cell? ⟨w.heap.size, 0, none⟩ = some (.int .u8 (k : Int)) := (((Kept.refl [] w1).alloc _).cell (p := ⟨w.heap.size, 0, none⟩) (show w.heap.size < w1.heap.size by omega) (by simp)).trans y1; have Z1 := Lib.hid (ZB.out.grown hg1 (fun hh => FB.out.far ZB.out (by decide) _ hh rfl)); clear ho1 hg1)
          | (refine step_app_at ((w4.drew.alloc (.cells #[] 5)).alloc (.cells Z 38)) (by rfl) (.tmp 54) (.tmp 55) 22 5 (by rfl) Try.underlying22 byte_info w4.heap.size _ [] (by rfl) FC.out va L vc bs (by rfl) (VB.out _ LC.out) (by simp; omega) (by simp; omega) ?_; intro v1 w1 ho1 hg1 _; obtain ⟨r1, s1, t1, rfl, _⟩ := ho1.parts; have O1 := Lib.hid ho1; have L1 := Lib.hid (LC.out.grown hg1 (by simp; omega) (fun k hk => (FC.out.lt k hk).1)); have e1 := L1.out.size; have y1 : w1.cell? ⟨w.heap.size, 0, none⟩ = some (.int .u8 (k : Int)) := ((Kept.of_below (F := []) L1.out (Nat.le_refl _)).cell (p := ⟨w.heap.size, 0, none⟩) hlw (by simp)).trans d0; have y1' : (w1.alloc (.cells Z 38)).cell? ⟨w.heap.size, 0, none⟩ = some (.int .u8 (k : Int)) := (((Kept.refl [] w1).alloc _).cell (p := ⟨w.heap.size, 0, none⟩) (show w.heap.size < w1.heap.size by omega) (by simp)).trans y1; have Z1 := Lib.hid (ZC.out.grown hg1 (fun hh => FC.out.far ZC.out (by decide) _ hh rfl)); clear ho1 hg1)
          | (refine step_app_at w1 (by rfl) (.tmp 56) (.tmp 57) 22 5 (by rfl) Try.underlying22 byte_info w4.heap.size _ ([] ++ bs) (by rfl) O1.out a2 n2 c2 xs (by rfl) (XB.out _ L1.out) (by rw [List.nil_append, HL.out]; omega) (by (try simp); omega) ?_; intro v2 w2 ho2 hg2 _; obtain ⟨r2, s2, t2, rfl, _⟩ := ho2.parts; have O2 := Lib.hid ho2; have L2 := Lib.hid (L1.out.grown hg2 (by (try simp); omega) (fun k hk => (O1.out.lt k hk).1)); have e2 := L2.out.size; have y2 : w2.cell? ⟨w.heap.size, 0, none⟩ = some (.int .u8 (k : Int)) := ((Kept.of_below (F := []) L2.out (Nat.le_refl _)).cell (p := ⟨w.heap.size, 0, none⟩) hlw (by simp)).trans d0; have y2' : (w2.alloc (.cells Z 38)).cell? ⟨w.heap.size, 0, none⟩ = some (.int .u8 (k : Int)) := (((Kept.refl [] w2).alloc _).cell (p := ⟨w.heap.size, 0, none⟩) (show w.heap.size < w2.heap.size by omega) (by simp)).trans y2; (try have Z2 := Lib.hid (Z1.out.grown hg2 (fun hh => O1.out.far Z1.out (by decide) _ hh rfl))); clear ho2 hg2)
          | (refine step_app_at (w1.alloc (.cells Z 38)) (by rfl) (.tmp 56) (.tmp 57) 22 5 (by rfl) Try.underlying22 byte_info w4.heap.size _ ([] ++ bs) (by rfl) (O1.out.on ((Below.refl _ _).alloc (Nat.le_refl _) _)) a2 n2 c2 xs (by rfl) (XB.out _ (L1.out.alloc L1.out.size _)) (by rw [List.nil_append, HL.out]; omega) (by (try simp); omega) ?_; intro v2 w2 ho2 hg2 _; obtain ⟨r2, s2, t2, rfl, _⟩ := ho2.parts; have O2 := Lib.hid ho2; have L2 := Lib.hid ((L1.out.alloc L1.out.size _).grown hg2 (by (try simp); omega) (fun k hk => (O1.out.lt k hk).1)); have e2 := L2.out.size; have y2 : w2.cell? ⟨w.heap.size, 0, none⟩ = some (.int .u8 (k : Int)) := ((Kept.of_below (F := []) L2.out (Nat.le_refl _)).cell (p := ⟨w.heap.size, 0, none⟩) hlw (by simp)).trans d0; have y2' : (w2.alloc (.cells Z 38)).cell? ⟨w.heap.size, 0, none⟩ = some (.int .u8 (k : Int)) := (((Kept.refl [] w2).alloc _).cell (p := ⟨w.heap.size, 0, none⟩) (show w.heap.size < w2.heap.size by omega) (by simp)).trans y2; have Z2 := Lib.hid ((msg_new w1 Z HZ.out).grown hg2 (fun hh => (O1.out.on ((Below.refl _ _).alloc (Nat.le_refl _) (.cells Z 38))).far (msg_new w1 Z HZ.out) (by decide) _ hh rfl)); clear ho2 hg2)
          | (rw [if_pos (by rfl)]; go_simp; go_at_call 8; refine (mget_er k hk255 r2 s2 t2 ([] ++ bs ++ xs) w2 (O2.out.read_at hlb) er HER.out).mono ?_; rintro r w3 ⟨hb3, y, rfl⟩; have L3 := Lib.hid (L2.out.trans (hb3.mono L2.out.size)); (try have Z3 := Lib.hid ((Kept.of_below (F := []) hb3 (Nat.le_refl _)).blk Z2.out (by simp))); have hstn := msg_store_new w3 Z y hb4'; (try have hst := msg_store w3 _ _ y Z3.out rfl); have hF28 : y.cells.toArray.size = 28 := rfl; generalize y.cells.toArray = U at *; clear hb3)
          | (rw [if_pos (by rfl)]; go_simp; go_at_call 8; refine (mget_er k hk255 r2 s2 t2 ([] ++ bs ++ xs) (w2.alloc (.cells Z 38)) ((O2.out.read_at hlb).alloc _) er HER.out).mono ?_; rintro r w3 ⟨hb3, y, rfl⟩; have L3 := Lib.hid ((L2.out.alloc L2.out.size _).trans (hb3.mono (L2.out.alloc L2.out.size _).size)); have Z3 := Lib.hid ((Kept.of_below (F := []) hb3 (Nat.le_refl _)).blk (msg_new w2 Z HZ.out) (by simp)); have hstn := msg_store_new w3 Z y hb4'; (try have hst := msg_store w3 _ _ y Z3.out rfl); have hF28 : y.cells.toArray.size = 28 := rfl; generalize y.cells.toArray = U at *; clear hb3))
        all_goals
          go_wp2
          go_meet
          first
            | exact ⟨rfl, L3.out.alloc L3.out.size _⟩
            | exact ⟨rfl, below_kept2 L3.out (Nat.le_refl _) (by omega) (setRow_kept _ _ _)⟩
      case rest =>
        obtain ⟨rfl, HC⟩ := hcut
        have B9 := Lib.hid (BW.out.trans (HC.out.mono BW.out.size))
        clear HC
        by_cases hn0 : n2 = 0
        · subst hn0
          obtain rfl : er = 0 := HE0.out rfl
          go_wp2
          go_ret
          exact ⟨rfl, B9.out⟩
        · obtain rfl : er = 60 := HE1.out hn0
          have hn0b : decide ((0 : Int) < (n2 : Int)) = true := decide_eq_true (by omega)
          have hpos : 0 < n2 := by omega
          go_wp2
          go_ret
          exact ⟨by simp, B9.out⟩
  · obtain ⟨q, hq⟩ : ∃ q : Nat, cut = (q : Int) := ⟨cut.toNat, by omega⟩
    subst hq
    have hqL : q < L := by omega
    have hc1 : decide ((q : Int) < (L : Int)) = true := decide_eq_true (by omega)
    have hc2 : decide ((0 : Int) ≤ (q : Int)) = true := decide_eq_true (by omega)
    obtain ⟨er, her⟩ : ∃ er : Int, (if n2 = 0 then 0 else 60) = er := ⟨_, rfl⟩
    have HE0 := Lib.hid (show n2 = 0 → er = 0 from fun h => by rw [← her, if_pos h])
    have HE1 := Lib.hid (show n2 ≠ 0 → er = 60 from fun h => by rw [← her, if_neg h])
    have hlb : ([] ++ bs ++ xs).length ≤ 140737488355328 := by
      rw [List.nil_append, List.length_append, HL.out, XS.out.len]
      omega
    have HER := Lib.hid (show (er = 0 ∧ ∃ x, readM k ([] ++ bs ++ xs) = .inl x) ∨ ∃ e0 : Nat, er = (e0 : Int) ∧ readM k ([] ++ bs ++ xs) = .inr e0 from by
      rw [List.nil_append]
      by_cases hn0 : n2 = 0
      · have hx0 : xs = [] := List.eq_nil_of_length_eq_zero (by rw [XS.out.len]; exact hn0)
        refine .inl ⟨HE0.out hn0, m.toM, ?_⟩
        rw [hx0, List.append_nil, ← HBS.out, ← HK.out]
        exact readM_back m.toM HF.out
      · refine .inr ⟨60, HE1.out hn0, ?_⟩
        have hx0 : xs ≠ [] := fun h => hn0 (by rw [← XS.out.len, h]; rfl)
        rw [← HBS.out, ← HK.out]
        exact readM_more m.toM HF.out xs hx0)
    clear her
    have hb4' := hb4
    obtain ⟨ah, hhead, hah⟩ := head_bytes (P := Try.prog) 22 5 Try.underlying22 (by kernel_rfl) byte_info va L vc q q rfl (by have := VR.out.room; omega)
    simp only [hah] at hhead
    clear hah hc
    have R9 := Lib.hid (VR.out.take (show q ≤ L by omega))
    have CUT := Lib.hid (show (((40 : Nat) : Int) = 0 ∧ ∃ x, readM k (bs.take q) = .inl x) ∨ ∃ e0 : Nat, ((40 : Nat) : Int) = (e0 : Int) ∧ readM k (bs.take q) = .inr e0 from by
      refine .inr ⟨40, rfl, ?_⟩
      rw [← HBS.out, ← HK.out]
      exact readM_cut m.toM HF.out q (by rw [HBS.out, HL.out]; exact hqL))
    have g0' : (w4.alloc (.cells Z 38)).cell? ⟨w.heap.size, 0, none⟩ = some (.int .u8 (k : Int)) := (((Kept.refl [] w4).alloc _).cell (p := ⟨w.heap.size, 0, none⟩) hl4 (by simp)).trans d0
    have XA := Lib.hid (show Blk (w4.drew.alloc (.cells Z 38)) w4.heap.size 38 (zeroL 0).cells from msg_new w4.drew Z HZ.out)
    go_upto_region 9 with fail
    go_cut [10] (fun s10 wx => s10 = .int .i64 40 ∧ Hid (Below w4.heap.size w4 wx))
    case first =>
      go_region_law (first
        | (rw [if_pos (by rfl)]; go_simp; go_at_call 8; refine (mget_er k hk255 va q vc (bs.take q) w4.drew R9.out.drew ((40 : Nat) : Int) CUT.out).mono ?_; rintro r w5 ⟨hb5, y, rfl⟩; have L5 := Lib.hid (below_on (show Below w4.heap.size w4 w4.drew from (Below.refl _ _).drew) hb5); have hst := msg_store_new w5 Z y hb4'; have hF28 : y.cells.toArray.size = 28 := rfl; generalize y.cells.toArray = U at *; clear hb5)
        | (rw [if_pos (by rfl)]; go_simp; go_at_call 8; refine (mget_er k hk255 va q vc (bs.take q) (w4.drew.alloc (.cells Z 38)) (R9.out.drew.alloc _) ((40 : Nat) : Int) CUT.out).mono ?_; rintro r w5 ⟨hb5, y, rfl⟩; have L5 := Lib.hid (((Below.refl w4.heap.size w4).drew.alloc (Nat.le_refl _) (.cells Z 38)).trans (hb5.mono (by simp))); have hst := msg_store w5 w4.heap.size _ y ((Kept.of_below (F := []) hb5 (Nat.le_refl _)).blk XA.out (by simp)) rfl; have hF28 : y.cells.toArray.size = 28 := rfl; generalize y.cells.toArray = U at *; clear hb5))
      all_goals
        go_wp2
        go_meet
        first
          | exact ⟨rfl, L5.out.alloc L5.out.size _⟩
          | exact ⟨rfl, below_kept2 L5.out (Nat.le_refl _) (Nat.le_refl _) (setRow_kept _ _ _)⟩
    case rest =>
      obtain ⟨rfl, HC⟩ := hcut
      generalize wc = w5 at *
      have BW := Lib.hid (show Below w.heap.size w w5 from B4.out.trans (HC.out.mono B4.out.size))
      have hlw : w.heap.size < w5.heap.size := by have := HC.out.size; omega
      have d5 : w5.cell? ⟨w.heap.size, 0, none⟩ = some (.int .u8 (k : Int)) := ((Kept.of_below (F := []) HC.out (Nat.le_refl _)).cell (p := ⟨w.heap.size, 0, none⟩) hl4 (by simp)).trans d0
      have V5 := Lib.hid (VR.out.on HC.out)
      clear d0 g0' XA R9 CUT hhead HC VR
      have d0 := d5
      have VR := V5
      clear d5 V5
      have d0' : (w5.alloc (.cells Z 38)).cell? ⟨w.heap.size, 0, none⟩ = some (.int .u8 (k : Int)) := (((Kept.refl [] w5).alloc _).cell (p := ⟨w.heap.size, 0, none⟩) hlw (by simp)).trans d0
      have d0e : (w5.alloc (.cells #[] 5)).cell? ⟨w.heap.size, 0, none⟩ = some (.int .u8 (k : Int)) := (((Kept.refl [] w5).alloc _).cell (p := ⟨w.heap.size, 0, none⟩) hlw (by simp)).trans d0
      have FA := Lib.hid (row_emp w5.drew w5.heap.size 5 w5.heap.size rfl (Nat.le_refl _))
      have FB := Lib.hid (row_emp (w5.drew.alloc (.cells Z 38)) w5.heap.size 5 (w5.heap.size + 1) (by simp) (by simp))
      have FC := Lib.hid (FA.out.on ((Below.refl _ _).alloc (Nat.le_refl _) (.cells Z 38)))
      have VB := Lib.hid (show ∀ w', Below w5.heap.size w5 w' → BReads w' va L vc bs from fun w' hb => VR.out.on hb)
      have XB := Lib.hid (show ∀ w', Below w5.heap.size w5 w' → BReads w' a2 n2 c2 xs from fun w' hb => XS.out.below (Nat.le_refl _) (BW.out.trans (hb.mono BW.out.size)))
      have LA := Lib.hid (show Below w5.heap.size w5 (w5.drew.alloc (.cells #[] 5)) from (Below.refl _ _).drew.alloc (Nat.le_refl _) _)
      have LB := Lib.hid (show Below w5.heap.size w5 ((w5.drew.alloc (.cells Z 38)).alloc (.cells #[] 5)) from ((Below.refl _ _).drew.alloc (Nat.le_refl _) _).alloc (by simp) _)
      have LC := Lib.hid (show Below w5.heap.size w5 ((w5.drew.alloc (.cells #[] 5)).alloc (.cells Z 38)) from ((Below.refl _ _).drew.alloc (Nat.le_refl _) _).alloc (by simp) _)
      have ZB := Lib.hid (show Blk ((w5.drew.alloc (.cells Z 38)).alloc (.cells #[] 5)) w5.heap.size 38 (zeroL 0).cells from by
        rw [← HZ.out]
        exact (Blk.new w5.drew 38 (zeroL 0).cells.toArray).alloc _)
      have ZC := Lib.hid (show Blk ((w5.drew.alloc (.cells #[] 5)).alloc (.cells Z 38)) (w5.heap.size + 1) 38 (zeroL 0).cells from by
        have hs : (w5.drew.alloc (.cells #[] 5)).heap.size = w5.heap.size + 1 := by simp
        rw [← hs]
        exact msg_new _ Z HZ.out)
      go_upto_region 12 with fail
      go_cut [12] (fun s12 wx => s12 = .int .i64 er ∧ Hid (Below w5.heap.size w5 wx))
      case first =>
        go_region_law (first
          | (refine step_app_at (w5.drew.alloc (.cells #[] 5)) (by rfl) (.tmp 54) (.tmp 55) 22 5 (by rfl) Try.underlying22 byte_info w5.heap.size _ [] (by rfl) FA.out va L vc bs (by rfl) (VB.out _ LA.out) (by simp; omega) (by simp) ?_; intro v1 w1 ho1 hg1 _; obtain ⟨r1, s1, t1, rfl, _⟩ := ho1.parts; have O1 := Lib.hid ho1; have L1 := Lib.hid (LA.out.grown hg1 (by simp) (fun k hk => (FA.out.lt k hk).1)); have e1 := L1.out.size; have y1 : w1.cell? ⟨w.heap.size, 0, none⟩ = some (.int .u8 (k : Int)) := ((Kept.of_below (F := []) L1.out (Nat.le_refl _)).cell (p := ⟨w.heap.size, 0, none⟩) hlw (by simp)).trans d0; have y1' : (w1.alloc (.cells Z 38)).cell? ⟨w.heap.size, 0, none⟩ = some (.int .u8 (k : Int)) := (((Kept.refl [] w1).alloc _).cell (p := ⟨w.heap.size, 0, none⟩) (show w.heap.size < w1.heap.size by omega) (by simp)).trans y1; clear ho1 hg1)
          | (refine step_app_at ((w5.drew.alloc (.cells Z 38)).alloc (.cells #[] 5)) (by rfl) (.tmp 54) (.tmp 55) 22 5 (by rfl) Try.underlying22 byte_info w5.heap.size _ [] (by rfl) FB.out va L vc bs (by rfl) (VB.out _ LB.out) (by simp; omega) (by simp; omega) ?_; intro v1 w1 ho1 hg1 _; obtain ⟨r1, s1, t1, rfl, _⟩ := ho1.parts; have O1 := Lib.hid ho1; have L1 := Lib.hid (LB.out.grown hg1 (by simp; omega) (fun k hk => (FB.out.lt k hk).1)); have e1 := L1.out.size; have y1 : w1.cell? ⟨w.heap.size, 0, none⟩ = some (.int .u8 (k : Int)) := ((Kept.of_below (F := []) L1.out (Nat.le_refl _)).cell (p := ⟨w.heap.size, 0, none⟩) hlw (by simp)).trans d0; have y1' : (w1.alloc (.cells Z 38)).cell? ⟨w.heap.size, 0, none⟩ = some (.int .u8 (k : Int)) := (((Kept.refl [] w1).alloc _).cell (p := ⟨w.heap.size, 0, none⟩) (show w.heap.size < w1.heap.size by omega) (by simp)).trans y1; have Z1 := Lib.hid (ZB.out.grown hg1 (fun hh => FB.out.far ZB.out (by decide) _ hh rfl)); clear ho1 hg1)
          | (refine step_app_at ((w5.drew.alloc (.cells #[] 5)).alloc (.cells Z 38)) (by rfl) (.tmp 54) (.tmp 55) 22 5 (by rfl) Try.underlying22 byte_info w5.heap.size _ [] (by rfl) FC.out va L vc bs (by rfl) (VB.out _ LC.out) (by simp; omega) (by simp; omega) ?_; intro v1 w1 ho1 hg1 _; obtain ⟨r1, s1, t1, rfl, _⟩ := ho1.parts; have O1 := Lib.hid ho1; have L1 := Lib.hid (LC.out.grown hg1 (by simp; omega) (fun k hk => (FC.out.lt k hk).1)); have e1 := L1.out.size; have y1 : w1.cell? ⟨w.heap.size, 0, none⟩ = some (.int .u8 (k : Int)) := ((Kept.of_below (F := []) L1.out (Nat.le_refl _)).cell (p := ⟨w.heap.size, 0, none⟩) hlw (by simp)).trans d0; have y1' : (w1.alloc (.cells Z 38)).cell? ⟨w.heap.size, 0, none⟩ = some (.int .u8 (k : Int)) := (((Kept.refl [] w1).alloc _).cell (p := ⟨w.heap.size, 0, none⟩) (show w.heap.size < w1.heap.size by omega) (by simp)).trans y1; have Z1 := Lib.hid (ZC.out.grown hg1 (fun hh => FC.out.far ZC.out (by decide) _ hh rfl)); clear ho1 hg1)
          | (refine step_app_at w1 (by rfl) (.tmp 56) (.tmp 57) 22 5 (by rfl) Try.underlying22 byte_info w5.heap.size _ ([] ++ bs) (by rfl) O1.out a2 n2 c2 xs (by rfl) (XB.out _ L1.out) (by rw [List.nil_append, HL.out]; omega) (by (try simp); omega) ?_; intro v2 w2 ho2 hg2 _; obtain ⟨r2, s2, t2, rfl, _⟩ := ho2.parts; have O2 := Lib.hid ho2; have L2 := Lib.hid (L1.out.grown hg2 (by (try simp); omega) (fun k hk => (O1.out.lt k hk).1)); have e2 := L2.out.size; have y2 : w2.cell? ⟨w.heap.size, 0, none⟩ = some (.int .u8 (k : Int)) := ((Kept.of_below (F := []) L2.out (Nat.le_refl _)).cell (p := ⟨w.heap.size, 0, none⟩) hlw (by simp)).trans d0; have y2' : (w2.alloc (.cells Z 38)).cell? ⟨w.heap.size, 0, none⟩ = some (.int .u8 (k : Int)) := (((Kept.refl [] w2).alloc _).cell (p := ⟨w.heap.size, 0, none⟩) (show w.heap.size < w2.heap.size by omega) (by simp)).trans y2; (try have Z2 := Lib.hid (Z1.out.grown hg2 (fun hh => O1.out.far Z1.out (by decide) _ hh rfl))); clear ho2 hg2)
          | (refine step_app_at (w1.alloc (.cells Z 38)) (by rfl) (.tmp 56) (.tmp 57) 22 5 (by rfl) Try.underlying22 byte_info w5.heap.size _ ([] ++ bs) (by rfl) (O1.out.on ((Below.refl _ _).alloc (Nat.le_refl _) _)) a2 n2 c2 xs (by rfl) (XB.out _ (L1.out.alloc L1.out.size _)) (by rw [List.nil_append, HL.out]; omega) (by (try simp); omega) ?_; intro v2 w2 ho2 hg2 _; obtain ⟨r2, s2, t2, rfl, _⟩ := ho2.parts; have O2 := Lib.hid ho2; have L2 := Lib.hid ((L1.out.alloc L1.out.size _).grown hg2 (by (try simp); omega) (fun k hk => (O1.out.lt k hk).1)); have e2 := L2.out.size; have y2 : w2.cell? ⟨w.heap.size, 0, none⟩ = some (.int .u8 (k : Int)) := ((Kept.of_below (F := []) L2.out (Nat.le_refl _)).cell (p := ⟨w.heap.size, 0, none⟩) hlw (by simp)).trans d0; have y2' : (w2.alloc (.cells Z 38)).cell? ⟨w.heap.size, 0, none⟩ = some (.int .u8 (k : Int)) := (((Kept.refl [] w2).alloc _).cell (p := ⟨w.heap.size, 0, none⟩) (show w.heap.size < w2.heap.size by omega) (by simp)).trans y2; have Z2 := Lib.hid ((msg_new w1 Z HZ.out).grown hg2 (fun hh => (O1.out.on ((Below.refl _ _).alloc (Nat.le_refl _) (.cells Z 38))).far (msg_new w1 Z HZ.out) (by decide) _ hh rfl)); clear ho2 hg2)
          | (rw [if_pos (by rfl)]; go_simp; go_at_call 8; refine (mget_er k hk255 r2 s2 t2 ([] ++ bs ++ xs) w2 (O2.out.read_at hlb) er HER.out).mono ?_; rintro r w3 ⟨hb3, y, rfl⟩; have L3 := Lib.hid (L2.out.trans (hb3.mono L2.out.size)); (try have Z3 := Lib.hid ((Kept.of_below (F := []) hb3 (Nat.le_refl _)).blk Z2.out (by simp))); have hstn := msg_store_new w3 Z y hb4'; (try have hst := msg_store w3 _ _ y Z3.out rfl); have hF28 : y.cells.toArray.size = 28 := rfl; generalize y.cells.toArray = U at *; clear hb3)
          | (rw [if_pos (by rfl)]; go_simp; go_at_call 8; refine (mget_er k hk255 r2 s2 t2 ([] ++ bs ++ xs) (w2.alloc (.cells Z 38)) ((O2.out.read_at hlb).alloc _) er HER.out).mono ?_; rintro r w3 ⟨hb3, y, rfl⟩; have L3 := Lib.hid ((L2.out.alloc L2.out.size _).trans (hb3.mono (L2.out.alloc L2.out.size _).size)); have Z3 := Lib.hid ((Kept.of_below (F := []) hb3 (Nat.le_refl _)).blk (msg_new w2 Z HZ.out) (by simp)); have hstn := msg_store_new w3 Z y hb4'; (try have hst := msg_store w3 _ _ y Z3.out rfl); have hF28 : y.cells.toArray.size = 28 := rfl; generalize y.cells.toArray = U at *; clear hb3))
        all_goals
          go_wp2
          go_meet
          first
            | exact ⟨rfl, L3.out.alloc L3.out.size _⟩
            | exact ⟨rfl, below_kept2 L3.out (Nat.le_refl _) (by omega) (setRow_kept _ _ _)⟩
      case rest =>
        obtain ⟨rfl, HC⟩ := hcut
        have B9 := Lib.hid (BW.out.trans (HC.out.mono BW.out.size))
        clear HC
        by_cases hn0 : n2 = 0
        · subst hn0
          obtain rfl : er = 0 := HE0.out rfl
          go_wp2
          go_ret
          exact ⟨rfl, B9.out⟩
        · obtain rfl : er = 60 := HE1.out hn0
          have hn0b : decide ((0 : Int) < (n2 : Int)) = true := decide_eq_true (by omega)
          have hpos : 0 < n2 := by omega
          go_wp2
          go_ret
          exact ⟨by simp, B9.out⟩

theorem cut_row : Rows.MessageCutSaid :=
  OpenClaim.holds_of_wide 4 Try.f4 rfl rfl rfl rfl rfl rfl rfl ⟨rfl, rfl, rfl, rfl, rfl⟩ rfl rfl rfl rfl rfl (by kernel_rfl) Try.func4 (by kernel_rfl)
    (of_decide_eq_true (by kernel_rfl)) (by unfold Func.isWrapper; rw [if_neg (of_decide_eq_false (by kernel_rfl))]; exact ⟨rfl, rfl⟩)
    (fun os started H enc _ => lift (C := Try.checked) (s := Rows.messageCutSpec) (conds := Rows.messageCutRow.domain) os started H enc prog_own (by kernel_rfl) Try.func4 prog_laid rfl Try.underlying4 rfl
      (fun ds hl => by
        have hl : ds.length = 3 := hl
        match ds, hl with
        | [_, _, _], _ => rfl)
      (of_decide_eq_true (by kernel_rfl))
      (ChangeSpec.witness6 (enc := enc) (C := Try.checked) false ⟨#[], #[.agg #[.int .u8 0, .int .u32 0, .int .u32 0, .int .u64 0, .int .u8 0, .int .u32 0, .string ⟨#[]⟩, .string ⟨#[]⟩, .int .u8 0, .int .u8 0, .bool false, .int .u8 0, .int .u16 0, .slice none 0 0, .int .u32 0, .slice none 0 0, .int .u16 0, .int .u16 0, .slice none 0 0, .slice none 0 0, .slice none 0 0, .int .u32 0, .int .u32 0, .slice none 0 0, .int .u64 0, .slice none 0 0, .slice none 0 0, .slice none 0 0], .int .i64 0, .slice none 0 0], []⟩ 8 (by kernel_rfl) (by kernel_rfl) (by kernel_rfl) (by kernel_rfl))
      (fun W base args ds p g => by
        rw [Try.params4] at g
        obtain ⟨m, e0, hm⟩ := g.msg 0 rfl
        obtain ⟨n, e1, _⟩ := g.i64 1 rfl Try.underlying3
        obtain ⟨a2, n2, c2, bs, e2, hb, _⟩ := g.bytes 2 rfl Try.underlying22 Try.underlying5 (by kernel_rfl) (by kernel_rfl)
        rw [args3 g.count e0 e1 e2]
        exact cut_walk m n a2 n2 c2 bs W hb hm))
end Go.Proofs.Ytemnmjfeljipjaa
