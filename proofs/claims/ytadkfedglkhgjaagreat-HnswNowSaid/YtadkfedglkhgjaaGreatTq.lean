/-
  The document's Into, by a walk over its text.
-/
import Derived.Test.YtadkfedglkhgjaaGreatTp
namespace Go.Proofs.YtadkfedglkhgjaaGreat
open Go.RowKit

theorem rless_eq (x y : Hit) (z : Bool) (hz : Hid (ltH x y = z)) (w : World) :
    Calls Tryz.prog 19 #[.agg #[.int .i64 x.1, .int .u32 x.2], .agg #[.int .i64 y.1, .int .u32 y.2]] w fun e w' => e = .returned (.bool z) ∧ Below w.heap.size w w' := by
  rw [← hz.out]
  exact rless_any x.1 x.2 y.1 y.2 w

/-- append(v, p), v a row of hits of the call's own. -/
theorem app_hit {ops : Array Oper} {rest : List Oper} {o : Oper} {act : Act} {Q : Exit → Act → World → Prop} (w : World) (hg : o.guard = none) (s x : Operand)
    (hop : o.op = .call { callee := .builtin .append, args := #[s, x], argTypes := #[47, 47] }) (B : Nat) (v : Value) (xs : List Hit) (p : Hit) (hs : act.eval s = v)
    (hx : act.eval x = .slice (some ⟨w.heap.size, 0, none⟩) 1 1) (hown : OwnB w B v xs) (hB : B ≤ w.heap.size) (hl : xs.length ≤ 2000000)
    (K : ∀ v' w', OwnB w' B v' (xs ++ [p]) → (w.alloc (.cells #[.int .i64 p.1, .int .u32 p.2] 51)).grownBy w' v.ownBlock → wpList Tryz.prog ops Q rest (act.put o.dst v') w') :
    wpList Tryz.prog ops Q (o :: rest) act (w.alloc (.cells #[.int .i64 p.1, .int .u32 p.2] 51)) := by
  obtain ⟨i0, hi0, hz0, hz1, hz2⟩ := info_parts hit_info
  refine wpList_append_own _ hg s x 47 hop B 51 i0 _ 2 16 Tryz.underlying47 hi0 hz0 hz1 hz2 rfl (by omega) v xs.length (flat xs) hs (World.ownsRow.alloc hown _) ⟨w.heap.size, 0, none⟩ 1 1 [.int .i64 p.1, .int .u32 p.2] hx rfl
    (World.news_of_block (cs := #[.int .i64 p.1, .int .u32 p.2]) (t := 51) (fr := (0, 0)) (news_one w _)) (by simp [Value.oneCell']) (by unfold maxLen; omega) (by omega) (by simp; omega) ?_
  intro v' w1 h1 h2 _
  exact K v' w1 (OwnB.snoc h1 rfl) h2

/-- What an append leaves of all that is not the row's own. -/
theorem app_kept {w w1 w2 : World} {o : Obj} {B : Nat} {v : Value} {xs : List Hit} (hown : OwnB w1 (w.heap.size + B) v xs) (hg : (w1.alloc o).grownBy w2 v.ownBlock) (hb : Below w.heap.size w w1) (hB : w.heap.size + B ≤ w1.heap.size) :
    Below (w.heap.size + B) w1 w2 ∧ Below w.heap.size w w2 := by
  have h1 : Below (w.heap.size + B) w1 w2 := ((Below.refl _ w1).alloc hB o).grown hg (by simp; omega) (fun k hk => hown.new k hk)
  exact ⟨h1, hb.trans (h1.mono (by omega))⟩

set_option maxHeartbeats 3200000 in
theorem into_any (a : Option Addr) (n cap : Nat) (l : List Hit) (x : Hit) (w : World) (h : HReads w a n l) (hn : n ≤ 1000000) :
    Calls Tryz.prog 50 #[.slice a n cap, .agg #[.int .i64 x.1, .int .u32 x.2]] w fun e w' => ∃ v, e = .returned v ∧ OwnB w' w.heap.size v (ins x l) ∧ Below w.heap.size w w' := by
  obtain ⟨hl, hs, hc⟩ := h
  have HL := Lib.hid hl
  have HC := Lib.hid hc
  clear hl hc hs
  have hB0 := Lib.hid (Blk.new w 51 #[.int .i64 x.1, .int .u32 x.2])
  go_enter Tryz.func50, Tryz.ntmps50
  go_wp2
  go_loopw [5, 6, 7] (fun s5 s6 s7 wr => ∃ (i : Nat) (d : Bool), i ≤ n ∧ s7 = .int .i64 i ∧ s6 = .bool d ∧ Hid ((intoS x (l.take i)).2 = d) ∧ Hid (OwnB wr (w.heap.size + 1) s5 (intoS x (l.take i)).1) ∧ Hid (Below w.heap.size w wr) ∧ Hid (Blk wr w.heap.size 51 [.int .i64 x.1, .int .u32 x.2])) (fun _ _ s7 _ => n - (intOf s7).toNat)
  case atStart => exact ⟨0, false, Nat.zero_le _, rfl, rfl, rfl, OwnB.nil _ _, (Below.refl _ _).alloc (Nat.le_refl _) _, hB0.out⟩
  case round =>
    clear hB0
    obtain ⟨i, d, hi, rfl, rfl, HD, HO, HB, HX⟩ := hrel
    have lX := HX.out.lt
    by_cases h1 : i < n
    · rcases HC.out with h0 | ⟨b, off, rfl, hlt, hc⟩
      · omega
      obtain ⟨p, hp⟩ : ∃ p, l.getD i (0, 0) = p := ⟨_, rfl⟩
      have HP := Lib.hid hp
      have hcc := hc i h1
      rw [hp] at hcc
      have HS := Lib.hid (fun (w' : World) (hb : Below wr.heap.size wr w') => show w'.cell? ⟨w.heap.size, 0, none⟩ = some (.int .i64 x.1) ∧ w'.cell? ⟨w.heap.size, 1, none⟩ = some (.int .u32 x.2) ∧ w'.cell? ⟨b, off + i * 2, none⟩ = some (.int .i64 p.1) ∧ w'.cell? ⟨b, off + i * 2 + 1, none⟩ = some (.int .u32 p.2) ∧ w.heap.size < w'.heap.size ∧ b < w'.heap.size ∧ Below wr.heap.size wr w' from by
        have hk := Kept.of_below (F := []) hb (Nat.le_refl _)
        have h3 := hk.blk HX.out (by simp)
        have hBB := HB.out.trans (hb.mono HB.out.size)
        exact ⟨by rw [h3.cell]; rfl, by rw [h3.cell]; rfl, (hBB.cell (p := ⟨b, off + i * 2, none⟩) hlt).trans hcc.1, (hBB.cell (p := ⟨b, off + i * 2 + 1, none⟩) hlt).trans hcc.2, h3.lt, Nat.lt_of_lt_of_le hlt hBB.size, hb⟩)
      obtain ⟨s1, s2, s3, s4, s5', s6', s7'⟩ := HS.out wr (Below.refl _ _)
      have hsn : intoS x (l.take (i + 1)) = stepI x (intoS x (l.take i)) p := by
        rw [take_snoc' l i (by have := HL.out; omega), hp, intoS_snoc]
      have HSN := Lib.hid hsn
      have hil := intoS_len x (l.take i)
      have htl : (l.take i).length ≤ i := by simp; omega
      have hl1 : (intoS x (l.take i)).1.length ≤ 1500000 := by omega
      clear hp hc hcc hsn hil htl
      cases d
      · obtain ⟨z, hz⟩ : ∃ z, ltH x p = z := ⟨_, rfl⟩
        have HZ := Lib.hid hz
        clear hz
        go_wp2
        go_region_held3 (fun w' => w'.cell? ⟨w.heap.size, 0, none⟩ = some (.int .i64 x.1) ∧ w'.cell? ⟨w.heap.size, 1, none⟩ = some (.int .u32 x.2) ∧ w'.cell? ⟨b, off + i * 2, none⟩ = some (.int .i64 p.1) ∧ w'.cell? ⟨b, off + i * 2 + 1, none⟩ = some (.int .u32 p.2) ∧ w.heap.size < w'.heap.size ∧ b < w'.heap.size ∧ Below wr.heap.size wr w')
          (first
            | (go_keep; done)
            | exact HS.out _ (Below.refl _ _)
            | exact HS.out _ (Below.refl _ _).drew
            | (go_split_ands; exact HS.out _ (below_on (by assumption) hbel)))
          (first
            | (go_at_call 19; refine (rless_eq x p z HZ _).mono ?_; rintro e w' ⟨rfl, hbel⟩))
        rename_i hH
        have hb := hH.2.2.2.2.2.2
        have HO1 := Lib.hid (HO.out.kept (Kept.of_below (F := []) hb (Nat.le_refl _)) (by simp))
        have HX1 := Lib.hid ((Kept.of_below (F := []) hb (Nat.le_refl _)).blk HX.out (by simp))
        have HB1 := Lib.hid (HB.out.trans (hb.mono HB.out.size))
        have HD1 := Lib.hid (show intoS x (l.take (i + 1)) = (if z = true then ((intoS x (l.take i)).1 ++ [x, p], true) else ((intoS x (l.take i)).1 ++ [p], false)) from by
          rw [HSN.out, stepI, HD.out, HZ.out]
          simp)
        obtain ⟨t1, t2, t3, t4, t5, t6, _⟩ := HS.out _ hb
        clear hH hb hbel s1 s2 s3 s4 s5' s6' s7' HS HO HX HB HD HSN lX
        cases z
        · go_wp2_with (at_builtin; refine app_hit _ rfl (.tmp 28) (.tmp 33) rfl (w.heap.size + 1) _ (intoS x (l.take i)).1 p rfl rfl HO1.out (by omega) (by omega) ?_)
          intro v' w1 hown hgrow
          obtain ⟨K1, K2⟩ := app_kept HO1.out hgrow HB1.out (by omega)
          have X2 := Lib.hid (HX1.out.of_eq (K1.block _ (by omega)))
          have N1 := Lib.hid hown
          have N2 := Lib.hid K2
          clear hown hgrow K1 K2 t1 t2 t3 t4 t5 t6 HO1 HX1 HB1
          go_wp2
          go_roundw
          case rel => exact ⟨i + 1, false, by omega, by go_num, rfl, by rw [HD1.out]; rfl, by rw [HD1.out]; exact N1.out, N2.out, X2.out⟩
          case measure => simp [intOf]; omega
        · go_wp2_with (at_builtin; refine app_hit _ rfl (.tmp 24) (.tmp 26) rfl (w.heap.size + 1) _ (intoS x (l.take i)).1 x rfl rfl HO1.out (by omega) (by omega) ?_)
          intro v' w1 hown hgrow
          obtain ⟨K1, K2⟩ := app_kept HO1.out hgrow HB1.out (by omega)
          have X2 := Lib.hid (HX1.out.of_eq (K1.block _ (by omega)))
          have r3 := (K1.cell (p := ⟨b, off + i * 2, none⟩) (by simp; omega)).trans t3
          have r4 := (K1.cell (p := ⟨b, off + i * 2 + 1, none⟩) (by simp; omega)).trans t4
          have r6 : b < w1.heap.size := Nat.lt_of_lt_of_le t6 K1.size
          have r5 : w.heap.size < w1.heap.size := Nat.lt_of_lt_of_le t5 K1.size
          have N1 := Lib.hid hown
          have N2 := Lib.hid K2
          clear hown hgrow K1 K2 t1 t2 t3 t4 t5 t6 HO1 HX1 HB1
          go_wp2_with (at_builtin; refine app_hit _ rfl (.tmp 28) (.tmp 33) rfl (w.heap.size + 1) _ ((intoS x (l.take i)).1 ++ [x]) p rfl rfl N1.out (by omega) (by simp; omega) ?_)
          intro v2 w2 hown hgrow
          obtain ⟨K1, K2⟩ := app_kept N1.out hgrow N2.out (by omega)
          have X3 := Lib.hid (X2.out.of_eq (K1.block _ (by omega)))
          have M1 := Lib.hid hown
          have M2 := Lib.hid K2
          clear hown hgrow K1 K2 r3 r4 r5 r6 N1 N2 X2
          go_wp2
          go_roundw
          case rel => exact ⟨i + 1, true, by omega, by go_num, rfl, by rw [HD1.out]; rfl, by rw [HD1.out, if_pos (by trivial)]; exact M1.out, M2.out, X3.out⟩
          case measure => simp [intOf]; omega
      · go_wp2
        go_quiet (fail)
        have HO1 := Lib.hid (HO.out.kept ((Kept.refl [] _).drewN nq) (by simp))
        have HX1 := Lib.hid (((Kept.refl [] _).drewN nq).blk HX.out (by simp))
        have HB1 := Lib.hid (below_draws HB.out nq)
        have HD1 := Lib.hid (show intoS x (l.take (i + 1)) = ((intoS x (l.take i)).1 ++ [p], true) from by
          rw [HSN.out, stepI, HD.out]
          simp)
        obtain ⟨t1, t2, t3, t4, t5, t6, _⟩ := HS.out _ (below_draws (Below.refl _ _) nq)
        clear s1 s2 s3 s4 s5' s6' s7' HS HO HX HB HD HSN lX
        generalize wr.drewN nq = wd at *
        go_wp2_with (at_builtin; refine app_hit _ rfl (.tmp 28) (.tmp 33) rfl (w.heap.size + 1) _ (intoS x (l.take i)).1 p rfl rfl HO1.out (by omega) (by omega) ?_)
        intro v' w1 hown hgrow
        obtain ⟨K1, K2⟩ := app_kept HO1.out hgrow HB1.out (by omega)
        have X2 := Lib.hid (HX1.out.of_eq (K1.block _ (by omega)))
        have N1 := Lib.hid hown
        have N2 := Lib.hid K2
        clear hown hgrow K1 K2 t1 t2 t3 t4 t5 t6 HO1 HX1 HB1
        go_wp2
        go_roundw
        case rel => exact ⟨i + 1, true, by omega, by go_num, rfl, by rw [HD1.out]; rfl, by rw [HD1.out]; exact N1.out, N2.out, X2.out⟩
        case measure => simp [intOf]; omega
    · have hin : i = n := by omega
      have hfin := intoS_ins x l
      have ht : l.take i = l := List.take_of_length_le (by have := HL.out; omega)
      have hil := intoS_len x l
      have hl1 : (intoS x l).1.length ≤ 1500000 := by have := HL.out; omega
      rw [ht] at HD HO
      rw [HD.out] at hfin
      have HF := Lib.hid hfin
      have d1 := HX.out.cell 0
      have d2 := HX.out.cell 1
      simp only [List.getElem?_cons_zero, List.getElem?_cons_succ] at d1 d2
      clear hfin ht hil hin
      cases d
      · go_wp2_with (at_builtin; refine app_hit _ rfl (.tmp 37) (.tmp 39) rfl (w.heap.size + 1) _ (intoS x l).1 x rfl rfl HO.out (by omega) (by omega) ?_)
        intro v' w1 hown hgrow
        obtain ⟨K1, K2⟩ := app_kept HO.out hgrow HB.out (by omega)
        have N1 := Lib.hid hown
        have N2 := Lib.hid K2
        clear hown hgrow K1 K2 d1 d2 HX HB
        go_wp2
        go_ret
        have e := HF.out
        rw [if_neg (by simp)] at e
        exact ⟨_, rfl, by rw [← e]; exact OwnB.mono N1.out (by omega), N2.out⟩
      · go_wp2
        go_ret
        have e := HF.out
        rw [if_pos (by trivial)] at e
        exact ⟨_, rfl, by rw [← e]; exact OwnB.mono HO.out (by omega), HB.out⟩

end Go.Proofs.YtadkfedglkhgjaaGreat
