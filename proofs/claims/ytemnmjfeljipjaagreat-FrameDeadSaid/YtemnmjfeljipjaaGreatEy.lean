/-
  FrameDead holds: a reader that has told an error tells it for ever, whatever comes, and keeps nothing.
-/
import Derived.Test.YtemnmjfeljipjaaGreatRows
import Derived.Test.YtemnmjfeljipjaaGreatRe
import Derived.Test.YtemnmjfeljipjaaGreatMy
import Derived.Test.YtemnmjfeljipjaaGreatSp
import Derived.Test.YtemnmjfeljipjaaGreatEp
import Derived.Test.YtemnmjfeljipjaaGreatEx
namespace Go.Proofs.YtemnmjfeljipjaaGreat
open Go.ChangeShapes Go.WideShapes Go.ChangeAt Go.RowKit

/-- How many bytes wait. -/
def lenOf (w : World) (g : Nat) : Nat := match w.cell? ⟨g, 1, none⟩ with
  | some (.slice _ n _) => n
  | _ => 0
theorem lenOf_alive {w : World} {B g p : Nat} {F l : List Nat} (h : RdrAt w B g F (.alive p l)) : lenOf w g = l.length := by
  obtain ⟨_, gs, v, b, en, e, ha, _⟩ := h
  obtain ⟨a, n, c, rfl, hn⟩ := ha.own.parts
  have c1 : w.cell? ⟨g, 1, none⟩ = some (.slice a n c) := ha.blk.cell 1
  unfold lenOf
  rw [c1]
  exact hn.out.symm
theorem lenOf_dead {w : World} {B g e : Nat} {F : List Nat} (h : RdrAt w B g F (.dead e)) : lenOf w g = 0 := by
  have c1 : w.cell? ⟨g, 1, none⟩ = some (.slice none 0 0) := h.1.cell 1
  unfold lenOf
  rw [c1]
/-- The state of the first loop: the reader lives, or the error is told. -/
def DeadI (W N B g : Nat) (w : World) (ev : Nat) : Prop :=
  (ev = 0 ∧ ∃ p F l, RdrAt w B g F (.alive p l) ∧ whyA l = W ∧ l.length ≤ N) ∨ (ev = W ∧ (W = 40 ∨ RdrAt w B g [g] (.dead W)))

set_option maxRecDepth 100000 in
set_option maxHeartbeats 25600000 in
theorem dead_walk (a : Option Addr) (n c : Nat) (bs : List Nat) (a2 : Option Addr) (n2 c2 : Nat) (w : World) (hb : BReads w a n c bs) (hm : Msgs w.heap.size w a2 n2 c2) :
    Calls Tryz.prog 8 #[.slice a n c, .slice a2 n2 c2] w fun e w' => e = .returned (.bool true) ∧ Below w.heap.size w w' := by
  obtain ⟨Z, hZ⟩ : ∃ Z, (zeroL 0).cells.toArray = Z := ⟨_, rfl⟩
  have hz := msg_zero
  rw [hZ] at hz
  have hb1 : (Z = #[]) = False := by
    rw [← hZ]
    simp [MsgL.cells]
  have hb4 : Z.size = 28 := by
    rw [← hZ]
    rfl
  have hinfoZ : (Tryz.prog.info? 37).map (·.size) = some Z.size := by
    rw [hb4]
    kernel_rfl
  have HZ := Lib.hid hZ
  have HR := Lib.hid hb
  have HMS := Lib.hid hm
  have hnl := hb.len
  clear hZ hb hm
  go_enter Tryz.func8, Tryz.ntmps8
  go_wp2_with (fail)
  refine (alive7 w).mono ?_
  rintro e w2 ⟨rfl, hb2⟩
  have B2 := Lib.hid hb2
  have hs2 := hb2.size
  clear hb2
  by_cases h1 : 5000 < n
  · have hnb : decide ((5000 : Int) < (n : Int)) = true := decide_eq_true (by omega)
    go_wp2
    go_ret
    exact ⟨rfl, B2.out⟩
  have hnb : decide ((5000 : Int) < (n : Int)) = false := decide_eq_false (by omega)
  go_wp2_with (fail)
  refine (fnew_any w2).mono ?_
  rintro e w3 ⟨g, F, rfl, hrd, hFl, hb3⟩
  have D3 := Lib.hid hrd
  have B3 := Lib.hid (below_on B2.out hb3)
  have R3 := Lib.hid (HR.out.on B3.out)
  have hs3 := hb3.size
  clear hrd hFl hb3 B2
  go_wp2_with (fail)
  refine (ffeed_alive w2.heap.size g F 0 [] a n c bs w3 D3.out R3.out (by simp; omega) hs3).mono ?_
  rintro e w4 ⟨rfl, F4, hrd, hk, hgr⟩
  have D4 := Lib.hid (show RdrAt w4 w2.heap.size g F4 (.alive 0 bs) from hrd)
  have B4 := Lib.hid (show Below w.heap.size w w4 from B3.out.trans (hk.below (fun k hk => by have := (D3.out.lt k hk).1; omega) (by omega)))
  have R4 := Lib.hid (HR.out.below (Nat.le_refl _) B4.out)
  have hs4 := hk.size
  clear hrd hk hgr D3 B3 R3
  go_wp2_with (fail)
  refine (rall_any a n c bs w4 R4.out (by omega)).mono ?_
  rintro e w5 ⟨hb5, v5, left, hW0, rfl⟩
  obtain ⟨W, hW⟩ : ∃ W, whyA bs = W := ⟨_, rfl⟩
  rw [hW] at hW0 ⊢
  have D5 := Lib.hid (show DeadI W 5000 w2.heap.size g w5 0 from .inl ⟨rfl, 0, F4, bs, D4.out.kept (F := F4) (Kept.of_below (F := []) hb5 (Nat.le_refl _)) (by simp), hW, by omega⟩)
  have B5 := Lib.hid (below_on B4.out hb5)
  have HW0 := Lib.hid hW0
  have hs5 := hb5.size
  clear hb5 hW hW0 D4 B4 R4
  go_wp2_with (fail)
  go_loopw [9] (fun s9 wr => ∃ ev : Nat, s9 = .int .i64 (ev : Int) ∧ Hid (DeadI W 5000 w2.heap.size g wr ev) ∧ Hid (Below w.heap.size w wr) ∧ w2.heap.size ≤ wr.heap.size) (fun s9 wr => (if intOf s9 = 0 then 1 else 0) + lenOf wr g)
  case atStart => exact ⟨0, rfl, D5.out, B5.out, by omega⟩
  case round =>
    clear D5 B5
    obtain ⟨ev, rfl, HD, HB, hsr⟩ := hrel
    by_cases hev : ev = 0
    · subst hev
      obtain ⟨p, F, l, hrd, hwl, hln⟩ : ∃ p F l, RdrAt wr w2.heap.size g F (.alive p l) ∧ whyA l = W ∧ l.length ≤ 5000 := by
        rcases HD.out with ⟨_, h⟩ | ⟨h, _⟩
        · exact h
        · exact absurd h.symm HW0.out
      have D6 := Lib.hid hrd
      have HWL := Lib.hid hwl
      have LEN := Lib.hid (lenOf_alive hrd)
      clear hrd hwl HD
      go_wp2_with (fail)
      refine (fnext_alive w2.heap.size g F p l wr D6.out (by omega) hsr).mono ?_
      rintro e w7 hp
      have B7 := Lib.hid (show Below w.heap.size w w7 from HB.out.trans (hp.1.below (fun k hk => by have := (D6.out.lt k hk).1; omega) HB.out.size))
      have hs7 := hp.1.size
      cases hf : firstF l with
      | more =>
        obtain ⟨_, rfl, p', F', hrd', _⟩ := hp.more hf
        obtain rfl : W = 40 := by rw [← HWL.out]; exact whyA_more hf
        have NX := Lib.hid (show DeadI 40 5000 w2.heap.size g w7 40 from .inr ⟨rfl, .inl rfl⟩)
        have L7 := Lib.hid (lenOf_alive hrd')
        clear hp hf hrd' D6 HWL
        go_wp2
        go_roundw
        case rel => exact ⟨40, rfl, NX.out, by omega⟩
        case measure =>
          rw [L7.out, LEN.out]
          simp
      | bad er =>
        obtain ⟨_, rfl, hrd'⟩ := hp.bad hf
        obtain rfl : W = er := by rw [← HWL.out]; exact whyA_bad hf
        have NX := Lib.hid (show DeadI W 5000 w2.heap.size g w7 W from .inr ⟨rfl, .inr hrd'⟩)
        have L7 := Lib.hid (lenOf_dead hrd')
        have h0 := HW0.out
        clear hp hf hrd' D6 HWL
        go_wp2
        go_roundw
        case rel => exact ⟨W, by go_num, NX.out, B7.out, by omega⟩
        case measure =>
          rw [L7.out, LEN.out]
          simp [intOf, h0]
          omega
      | got x k =>
        obtain ⟨_, y, F', rfl, _, _, hrd', _⟩ := hp.got hf
        have hl4 := firstF_len hf
        have NX := Lib.hid (show DeadI W 5000 w2.heap.size g w7 0 from .inl ⟨rfl, 0, F', _, hrd', (whyA_got hf).trans HWL.out, by rw [List.length_drop]; omega⟩)
        have L7 := Lib.hid ((lenOf_alive hrd').trans (List.length_drop ..))
        obtain ⟨U, hU⟩ : ∃ U, y.cells.toArray = U := ⟨_, rfl⟩
        rw [hU]
        clear hp hf hrd' D6 HWL hU
        go_wp2
        go_roundw
        case rel => exact ⟨0, by go_num, NX.out, B7.out, by omega⟩
        case measure =>
          rw [L7.out, LEN.out]
          simp [intOf]
          omega
    · have hevb : ((ev : Int) == 0) = false := by simp; omega
      obtain ⟨rfl, hD⟩ : W = ev ∧ Hid (W = 40 ∨ RdrAt wr w2.heap.size g [g] (.dead W)) := by
        rcases HD.out with ⟨h, _⟩ | ⟨h, h2⟩
        · exact absurd h hev
        · exact ⟨h.symm, h2⟩
      clear HD
      by_cases h40 : W = 40
      · subst h40
        go_wp2
        go_ret
        exact ⟨rfl, HB.out⟩
      have h40b : ((W : Int) == 40) = false := by simp; omega
      have D8 := Lib.hid (show RdrAt wr w2.heap.size g [g] (.dead W) from hD.out.resolve_left h40)
      have B8 := HB
      generalize wr = w8 at *
      clear hD HB
      go_wp2_with (fail)
      go_loopw [10] (fun s10 wr => ∃ i : Nat, s10 = .int .i64 i ∧ i ≤ 5 ∧ Hid (RdrAt wr w2.heap.size g [g] (.dead W)) ∧ Hid (Below w.heap.size w wr) ∧ w2.heap.size ≤ wr.heap.size) (fun s10 _ => 5 - (intOf s10).toNat)
      case atStart => exact ⟨0, rfl, by omega, D8.out, B8.out, hsr⟩
      case round =>
        clear D8 B8
        obtain ⟨i, rfl, hi, HD, HB, hsr⟩ := hrel
        by_cases hin : i < n2
        rotate_left
        · go_wp2
          go_ret
          exact ⟨rfl, HB.out⟩
        by_cases hi5 : i < 5
        rotate_left
        · go_wp2
          go_ret
          exact ⟨rfl, HB.out⟩
        obtain ⟨gb, off, m, ha2, hgl, hrange, hmi⟩ := HMS.out.at i hin
        subst ha2
        have HRG := Lib.hid hrange
        have HMI := Lib.hid hmi
        obtain ⟨ML, hML⟩ : ∃ ML, m.cells = ML := ⟨_, rfl⟩
        have HML := Lib.hid hML
        have hmsz : (Tryz.prog.info? 37).map (·.size) = some ML.length := by
          rw [← hML]
          kernel_rfl
        have RG := Lib.hid (show ∀ wx, Below w.heap.size w wx → wx.rangeAt gb (off + i * 28) ML from fun wx hb => by
          rw [← HML.out]
          exact fun j v hj => ((Kept.of_below (F := []) hb (Nat.le_refl _)).cell (p := ⟨gb, off + i * 28 + j, none⟩) hgl (by simp)).trans (HRG.out j v hj))
        have G4 := Lib.hid (RG.out _ HB.out)
        have M4 := Lib.hid (HMI.out.under HB.out)
        clear hrange hmi hML
        go_wp2_with (refine wp_load_m wr (by rfl) 37 (.tmp 54) rfl gb (off + i * 28) ML _ (by rfl) G4.out Tryz.underlying37 rfl hmsz ?_)
        rw [← HML.out]
        refine (great_msg m wr M4.out).mono ?_
        rintro e w9 ⟨⟨gr, rfl⟩, hb9⟩
        rw [HML.out]
        have D9 := Lib.hid (show RdrAt w9 w2.heap.size g [g] (.dead W) from HD.out.kept (F := [g]) (Kept.of_below (F := []) hb9 (Nat.le_refl _)) (by simp))
        have B9 := Lib.hid (below_on HB.out hb9)
        have hs9 := hb9.size
        have G9 := Lib.hid (RG.out _ B9.out)
        have M9 := Lib.hid (HMI.out.under B9.out)
        clear hb9 HD HB G4 M4
        cases gr
        rotate_left
        · go_wp2
          go_ret
          exact ⟨rfl, B9.out⟩
        go_wp2_with (refine wp_load_m w9 (by rfl) 37 (.tmp 60) rfl gb (off + i * 28) ML _ (by rfl) G9.out Tryz.underlying37 rfl hmsz ?_)
        rw [← HML.out]
        refine (enc_any m w9 M9.out).mono ?_
        rintro e w10 hp
        obtain ⟨a10, n10, c10, er, rfl⟩ : ∃ (a10 : Option Addr) (n10 c10 er : Nat), e = .returned (.tuple #[.slice a10 n10 c10, .int .i64 (er : Int)]) := by
          rcases hp.2 with ⟨_, _, v, h, ho⟩ | ⟨_, h⟩ | ⟨_, _, h⟩
          · obtain ⟨a, n, c, rfl, _⟩ := ho.parts
            exact ⟨a, n, c, 0, h⟩
          · exact ⟨none, 0, 0, 62, h⟩
          · exact ⟨none, 0, 0, 72, h⟩
        rw [HML.out]
        have D10 := Lib.hid (show RdrAt w10 w2.heap.size g [g] (.dead W) from D9.out.kept (F := [g]) (Kept.of_below (F := []) hp.1 (Nat.le_refl _)) (by simp))
        have B10 := Lib.hid (below_on B9.out hp.1)
        have hs10 := hp.1.size
        clear hp D9 B9 G9 M9
        go_wp2_with (fail)
        refine (ffeed_dead w2.heap.size g [g] W (.slice a10 n10 c10) w10 D10.out).mono ?_
        rintro e w11 ⟨rfl, hw11⟩
        have hw10 := hw11.symm
        subst hw10
        clear hw11
        go_wp2_with (fail)
        refine (fnext_dead w2.heap.size g [g] W w10 D10.out).mono ?_
        rintro e w12 ⟨rfl, hb12⟩
        have D12 := Lib.hid (show RdrAt w12 w2.heap.size g [g] (.dead W) from D10.out.kept (F := [g]) (Kept.of_below (F := []) hb12 (Nat.le_refl _)) (by simp))
        have B12 := Lib.hid (below_on B10.out hb12)
        have hs12 := hb12.size
        clear hb12 D10 B10
        have hst := msg_store_new w12 Z (zeroL 0) hb4
        rw [HZ.out] at hst ⊢
        obtain ⟨w13, hw13⟩ : ∃ w13, w12.alloc (.cells Z 37) = w13 := ⟨_, rfl⟩
        rw [hw13] at hst
        have hb13 : Below w12.heap.size w12 w13 := by
          rw [← hw13]
          exact (Below.refl _ _).alloc (Nat.le_refl _) _
        have HB13 : w13.heap[w12.heap.size]? = some (.cells Z 37 (0, 0)) := by
          rw [← hw13]
          exact heap_alloc_new w12 _
        have D13 := Lib.hid (show RdrAt w13 w2.heap.size g [g] (.dead W) from D12.out.kept (F := [g]) (Kept.of_below (F := []) hb13 (Nat.le_refl _)) (by simp))
        have B13 := Lib.hid (below_on B12.out hb13)
        have hs13 := hb13.size
        have SAME := Lib.hid (show Calls Tryz.prog 16 #[.agg Z, .agg Z] w13 fun e w' => e = .returned (.bool true) ∧ Below w13.heap.size w13 w' from by
          rw [← HZ.out]
          refine (sameMsg (zeroL 0) (zeroL 0) w13 (zeroL_in (fun _ => True) w13 0 (by decide)) (zeroL_in (fun _ => True) w13 0 (by decide))).mono ?_
          rintro e w' ⟨z, rfl, hz, hb'⟩
          rw [hz.2 rfl]
          exact ⟨rfl, hb'⟩)
        clear hb13 D12 B12
        go_upto_region 23 with fail
        try rw [hw13]
        clear hw13 hst
        go_wp2_with (refine wp_load_e w13 (by rfl) 37 (.tmp 13) rfl w12.heap.size 37 Z _ (by rfl) HB13 Tryz.underlying37 rfl hinfoZ ?_)
        refine SAME.out.mono ?_
        rintro e w14 ⟨rfl, hb14⟩
        have D14 := Lib.hid (show RdrAt w14 w2.heap.size g [g] (.dead W) from D13.out.kept (F := [g]) (Kept.of_below (F := []) hb14 (Nat.le_refl _)) (by simp))
        have B14 := Lib.hid (below_on B13.out hb14)
        have hs14 := hb14.size
        clear hb14 D13 B13 SAME HB13
        go_wp2_with (fail)
        refine (fwaits_dead w2.heap.size g [g] W w14 D14.out).mono ?_
        rintro e w15 ⟨rfl, hw15⟩
        have hw14 := hw15.symm
        subst hw14
        clear hw15
        go_wp2
        go_roundw
        case rel => exact ⟨i + 1, by go_num, by omega, D14.out, B14.out, by omega⟩
        case measure => simp [intOf]; omega

theorem dead_row : Rows.FrameDeadSaid :=
  OpenClaim.holds_of_wide 8 Tryz.f8 rfl rfl rfl rfl rfl rfl rfl ⟨rfl, rfl, rfl, rfl, rfl⟩ rfl rfl rfl rfl rfl (by kernel_rfl) Tryz.func8 (by kernel_rfl)
    (of_decide_eq_true (by kernel_rfl)) (by unfold Func.isWrapper; rw [if_neg (of_decide_eq_false (by kernel_rfl))]; exact ⟨rfl, rfl⟩)
    (fun os started H enc _ => lift (C := Tryz.checked) (s := Rows.frameDeadSpec) (conds := Rows.frameDeadRow.domain) os started H enc prog_own (by kernel_rfl) Tryz.func8 prog_laid rfl Tryz.underlying4 rfl
      (fun ds hl => by
        have hl : ds.length = 2 := hl
        match ds, hl with
        | [_, _], _ => rfl)
      (of_decide_eq_true (by kernel_rfl))
      (ChangeSpec.witness6 (enc := enc) (C := Tryz.checked) false ⟨#[], #[.slice none 0 0, .slice none 0 0], []⟩ 8 (by kernel_rfl) (by kernel_rfl) (by kernel_rfl) (by kernel_rfl))
      (fun W base args ds p g => by
        rw [Tryz.params8] at g
        obtain ⟨a, n, c, bs, e0, hb, _⟩ := g.bytes 0 rfl Tryz.underlying33 Tryz.underlying5 (by kernel_rfl) (by kernel_rfl)
        obtain ⟨a2, n2, c2, e1, _, hm⟩ := g.msgs 1 rfl
        rw [args2 g.count e0 e1]
        exact dead_walk a n c bs a2 n2 c2 W hb hm))
end Go.Proofs.YtemnmjfeljipjaaGreat
