/-
  The program's table of uploads: Leave (maps.DeleteFunc with a closure), by walks over their texts.
-/
import Derived.Test.YtdlpifcfgfhagaaSge
import Derived.Maps.RangeWalk
import Derived.Maps.Ext
import Derived.Laws.IdiomRangeMap
import Derived.Deep.LoopGhost
namespace Go.Proofs.Ytdlpifcfgfhagaa
open Go.RowKit Go.ChangeShapes Go.WideShapes Go.ChangeAt Go.Maps

theorem scommit_any (w : World) (lo x : Nat) (F : List Nat) (s : TabV) (h : TabIs w lo x F s) (owner n : Nat) (hn : n < 4294967296) :
    Calls Try.prog 15 #[.pointer (some ⟨x, 0, none⟩), .int .u64 (owner : Int), .int .u32 (n : Int)] w fun e w' =>
      (s.own owner n = none ∧ e = .returned (.tuple #[.string ⟨#[]⟩, .slice none 0 0, .int .i64 130]) ∧ TPost lo x F s w w') ∨ (∃ u, s.own owner n = some u ∧ CmPost lo x F s u w e w') := by
  have h0 := h
  obtain ⟨m, L, h1, h2, rfl⟩ := h
  cases ho : s.own owner n with
  | none =>
    refine (commit_none w lo x m s.last L h1 owner n hn (own_lack h2 ho)).mono ?_
    rintro e w' ⟨rfl, rfl⟩
    exact .inl ⟨rfl, rfl, TPost.same h0⟩
  | some u =>
    obtain ⟨t, ht, rfl, rfl, rfl⟩ := own_find h2 ho
    exact (commit_some w lo x m L s h1 h2 t ht).mono fun e w' hh => .inr ⟨_, rfl, hh⟩
theorem sbegin_any (w : World) (lo x k : Nat) (F : List Nat) (s : TabV) (h : TabIs w lo x F s) (hF : s.Few k) (hk : k ≤ 1000000) (owner : Nat) (ho : owner < 18446744073709551616) (name : ByteArray) :
    Calls Try.prog 10 #[.pointer (some ⟨x, 0, none⟩), .int .u64 (owner : Int), .string name] w fun e w' =>
      (4 ≤ s.ups.length ∧ e = .returned (.tuple #[.int .u32 0, .int .i64 4]) ∧ TPost lo x F s w w') ∨ (s.ups.length < 4 ∧ e = .returned (.tuple #[.int .u32 ((s.last + 1 : Nat) : Int), .int .i64 0]) ∧ TPost lo x F (s.start owner name) w w') := by
  by_cases hf : s.ups.length < 4
  · exact (sbegin_new w lo x k F s h hF hk hf owner ho name).mono fun e w' ⟨F', h1, h2⟩ => .inr ⟨hf, h1, F', h2⟩
  · refine (sbegin_full w lo x F s h (by omega) owner name).mono ?_
    rintro e w' ⟨rfl, rfl⟩
    exact .inl ⟨by omega, rfl, TPost.same h⟩

set_option maxHeartbeats 400000 in
theorem leave1_any (W : World) (key : Value) (g ob o1 o2 : Nat) (h1 : W.cell? ⟨g, 0, none⟩ = some (.int .u64 (o1 : Int))) (h2 : W.cell? ⟨ob, 0, none⟩ = some (.int .u64 (o2 : Int))) :
    Calls Try.prog 34 #[key, .pointer (some ⟨g, 0, none⟩), .pointer (some ⟨ob, 0, none⟩)] W fun e w' => e = .returned (.bool (decide (o1 = o2))) ∧ W.grownBy w' none := by
  have G := Lib.hid (show W.grownBy W.drew none from ⟨rfl, rfl, rfl, Nat.le_refl _, fun _ _ _ => rfl⟩)
  by_cases h : o1 = o2
  · subst h
    rw [decide_eq_true rfl]
    go_enter Try.func34, Try.ntmps34
    go_wp2
    go_region_law (fail)
    all_goals
      go_wp2
      go_ret
      exact ⟨rfl, G.out⟩
  · rw [decide_eq_false h]
    have hb : ((o1 : Int) == (o2 : Int)) = false := by rw [beq_eq_false_iff_ne]; omega
    go_enter Try.func34, Try.ntmps34
    go_wp2
    go_region_law (fail)
    all_goals
      go_wp2
      go_ret
      exact ⟨rfl, G.out⟩

def rawP (pd : Lit → Value → Bool) (kl : Lit) : DataW Value → Bool
  | .held v => pd kl v
  | _ => false
theorem heldE_filter (pd : Lit → Value → Bool) (E : List (Lit × Value)) : (heldE E).filter (fun p => !rawP pd p.1 p.2) = heldE (E.filter fun p => !pd p.1 p.2) := by
  unfold heldE
  rw [List.filter_map]
  rfl
theorem Fk_mem {pd : Lit → DataW Value → Bool} {es0 : List (Lit × DataW Value)} {left : Lit → Bool} {kl : Lit} {d : DataW Value} (hk : WideAt.IsKeyLit kl) (hap : es0.Pairwise fun p q => p.1 ≠ q.1) (hat : ∀ zd, (Fk pd es0 left).atKey kl zd = d) : (kl, d) ∈ es0 := by
  by_cases hn : ∃ p ∈ es0.filter (fun p => !pd p.1 p.2 || left p.1), p.1 = kl
  · obtain ⟨p, hp, rfl⟩ := hn
    have h1 := (WideAt.atKey_mem .nil hk (hap.filter _) (show (p.1, p.2) ∈ _ from hp)).symm.trans (hat .nil)
    rw [← h1]
    exact (List.mem_filter.1 hp).1
  · exfalso
    have hh : has (DataW.map (es0.filter fun p => !pd p.1 p.2 || left p.1)) kl = false := by
      rw [has_eq, List.any_eq_false]
      intro p hp e
      exact hn ⟨p, hp, WideAt.sameKey_eq e⟩
    have h1 := (atKey_of_not_has (z := (DataW.nil : DataW Value)) hh).symm.trans (hat .nil)
    have h2 := (atKey_of_not_has (z := (DataW.held undef : DataW Value)) hh).symm.trans (hat (.held undef))
    rw [← h1] at h2
    cases h2
set_option maxHeartbeats 4000000 in
set_option maxRecDepth 100000 in
theorem delfunc_up (pd : Lit → Value → Bool) (g : FuncId) (eg : ∀ args w, (callFunc g args).run Try.prog w = .ok (.enter g args) w) (ob b : Nat) (E : List (Lit × Value)) (w : World) (h : MapE w Try.prog 28 b E)
    (hdel : ∀ (W : World) (key v : Value) (kl : Lit), w.grownBy W (some b) → (kl, v) ∈ E → Calls Try.prog g #[key, v, .pointer (some ⟨ob, 0, none⟩)] W fun e w' => e = .returned (.bool (pd kl v)) ∧ W.grownBy w' none) :
    Calls Try.prog 33 #[.map (some b), .func (.func g) #[] #[.pointer (some ⟨ob, 0, none⟩)]] w fun e w' => e = .returned (.tuple #[]) ∧ MapE w' Try.prog 28 b (E.filter fun p => !pd p.1 p.2) ∧ w.grownBy w' (some b) := by
  obtain ⟨⟨es0, hown, hp⟩, ha, hkl⟩ := h
  have K := Maps.int_keyed (P := Try.prog) Try.underlying28
  have hap := perm_apart hp (heldE_apart ha)
  have hkeys : ∀ p ∈ es0, WideAt.IsKeyLit p.1 := fun p hpm => by
    obtain ⟨q, hq, rfl⟩ := (held_mem hp).1 hpm
    exact hkl q hq
  have HD : Aside _ := hdel
  obtain ⟨n, hn⟩ : ∃ n, E.length = n := ⟨_, rfl⟩
  rw [hn] at hown
  have FIN := Lib.hid (fun (w' : World) (h1 : w'.ownsMap Try.prog 28 rawElem b n (Lib.deleteFuncD (rawP pd) (.map es0))) => show MapE w' Try.prog 28 b (E.filter fun p => !pd p.1 p.2) from by
    have hP : (es0.filter fun p => !rawP pd p.1 p.2).Perm (heldE (E.filter fun p => !pd p.1 p.2)) := by
      rw [← heldE_filter]
      exact hp.filter _
    refine ⟨⟨_, ?_, hP⟩, ha.filter _, fun p hp' => hkl p (List.mem_filter.1 hp').1⟩
    have h2 := owns_exact h1
    rw [hP.length_eq, heldE_len] at h2
    exact h2)
  have MEM : Aside _ := fun (kl : Lit) (d : DataW Value) (hm : (kl, d) ∈ es0) => (held_mem hp).1 hm
  clear hdel hp ha hkl hn
  go_enter Try.func33, Try.ntmps33
  go_wp2_with (first
    | (at_range; refine wpList_range_own _ rfl _ 62 rfl 28 65 K Try.underlying62 rawElem b n _ rfl hown ?_; intro w0 hrg0 hg0 hs0)
    | fail)
  go_frame
  go_loopw [8] (fun _ wr => ∃ (left : Lit → Bool) (cnt : Nat), wr.ranges Try.prog 28 rawElem b w.heap.size n (Fk (rawP pd) es0 left) left cnt ∧ w.grownBy wr (some b))
    (fun _ wr => wr.rangeLeft b w.heap.size)
  case atStart => exact ⟨_, _, by rw [Fk_start hkeys]; exact hrg0, hg0.but _⟩
  case round =>
    obtain ⟨left, cnt, hrg, hgw⟩ := hrel
    go_wp2_with (first
      | (at_next; refine wpList_next_ranges _ rfl _ rfl 28 K rawElem id id (fun key _ _ => ⟨key, rfl⟩) (fun v _ _ => ⟨v, rfl⟩) b w.heap.size n _ _ _ rfl hrg ?_ ?_)
      | fail)
    · intro _ hl0
      go_wp2
      go_end0
      exact ⟨rfl, FIN.out _ (by rw [← Fk_end hl0]; exact hrg.owns), hgw⟩
    · intro x c kl yd yp w1 cnt1 hkey hlx hv hat hrg1 hlt hg1 hs1 hen
      have hv2 : (DataW.held c, []) = (yd, yp) := Option.some.inj hv
      simp only [Prod.mk.injEq] at hv2
      obtain ⟨rfl, rfl⟩ := hv2
      have hgw1 := hgw.andThen hg1 (fun j hj => by cases hj; exact Or.inl (Nat.le_refl _))
      obtain ⟨q, hq, hqe⟩ := MEM.out kl (.held c) (Fk_mem (K.key hkey) hap hat)
      simp only [Prod.mk.injEq, DataW.held.injEq] at hqe
      have hc := HD.out w1 x c kl hgw1 (by rw [hqe.1, hqe.2]; exact hq)
      clear hq hqe
      have hbl := hrg1.owns.lt
      have hrl := hrg1.lt
      have hrp : rawP pd kl (.held c) = pd kl c := rfl
      cases hpd : pd kl c <;> rw [hpd] at hc hrp
      · go_wp2_with (first
          | (go_at_fn g; refine hc.mono ?_; rintro e w2 ⟨rfl, hg2⟩)
          | fail)
        have hrg2 := hrg1.kept hg2 (by simp) (by simp)
        go_roundw
        case rel => exact ⟨_, cnt1, by rw [← Fk_stays hap (K.key hkey) hlx hrp hat]; exact hrg2, hgw1.andThen hg2 (fun j hj => by cases hj)⟩
        case measure => rw [hrg2.left_eq, hrg.left_eq]; exact hlt
      · go_wp2_with (first
          | (go_at_fn g; refine hc.mono ?_; rintro e w2 ⟨rfl, hg2⟩; have hrg2 := hrg1.kept hg2 (by simp) (by simp))
          | (at_delete; refine wpList_delete_ranges _ rfl _ _ 62 28 rfl 65 K Try.underlying62 rawElem b w.heap.size n _ _ _ rfl hrg2 _ _ rfl hkey ?_; intro w3 cnt3 hrg3 hle hturn; go_frame)
          | fail)
        rw [strike_twice] at hrg3
        go_roundw
        case rel => exact ⟨_, cnt3, by rw [← Fk_struck hap (K.key hkey) hlx hrp hat]; exact hrg3, (hgw1.andThen hg2 (fun j hj => by cases hj)).andThen hturn.grown (fun j hj => by cases hj; exact Or.inr rfl)⟩
        case measure => rw [hrg3.left_eq, hrg.left_eq]; omega
end Go.Proofs.Ytdlpifcfgfhagaa
