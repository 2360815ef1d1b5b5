/-
  List of a selector, by a walk over its text.
-/
import Derived.Test.YtdocoioenkajeaaTn1
import Derived.Laws.MakeOwn
namespace Go.Proofs.Ytdocoioenkajeaa
open Go.RowKit

/-- What is told of a heap: its tops, taken out one behind the other, the last one first. -/
def drainL : Nat → List Hit → List Hit → List Hit
  | 0, _, acc => acc
  | _ + 1, [], acc => acc
  | n + 1, x :: xs, acc => drainL n (popL (x :: xs)) (x :: acc)

theorem swapL_take_len (xs : List Hit) (k : Nat) (h : k ≤ xs.length) : (xs.take k).length = k := by simp; omega
theorem sinkL_len (xs : List Hit) (i : Nat) : (sinkL xs i).length = xs.length := by
  fun_induction sinkL xs i with
  | case1 xs i h1 h2 ih => rw [ih, swapL_len]
  | case2 => rfl
  | case3 => rfl
theorem popL_len (x : Hit) (xs : List Hit) : (popL (x :: xs)).length = xs.length := by
  rw [popL, sinkL_len]; simp

/-- What the first statement of List leaves: a heap of its own. -/
def ListCut (w : World) (c : Nat) (xs : List Hit) (s3 : Value) (wx : World) : Prop :=
  ∃ (L : Nat) (v' : Value), s3 = .pointer (some ⟨L, 0, none⟩) ∧ HeapAt wx L 0 c 108 [] v' xs ∧ Below w.heap.size w wx ∧ w.heap.size ≤ L ∧ ∀ k, v'.ownBlock = some k → w.heap.size ≤ k

theorem cut_late {w w2 : World} {b c room n : Nat} {v : Value} {xs : List Hit} {a' : Option Addr} {cap' : Nat} (H : BestAt w b c room v xs) (ho : Own w2 58 (.slice a' n cap') xs) (hb : Below w.drew.heap.size w.drew w2) (hk : ∀ k, (Value.slice a' n cap').ownBlock = some k → w.drew.heap.size ≤ k) :
    ListCut w c xs (.pointer (some ⟨w2.heap.size, 0, none⟩)) (w2.alloc (.cells #[.slice a' n cap', .func (.func 92) #[] #[.pointer (some ⟨c, 0, none⟩)]] 108)) := by
  have hB : Below w.heap.size w w2 := (Below.refl _ _).drew.trans hb
  have H2 := H.grow hB
  exact ⟨_, _, rfl, ⟨rfl, .inl rfl, Blk.new w2 _ _, H2.fn.alloc _, World.ownsRow.alloc ho _⟩, hB.alloc hB.size _, hB.size, hk⟩

theorem cut_soon {w w2 : World} {b c room n : Nat} {v : Value} {xs : List Hit} {a' : Option Addr} {cap' : Nat} (H : BestAt w b c room v xs) (ho : Own w2 58 (.slice a' n cap') xs) (hb : Below (w.alloc (.cells #[.slice none 0 0, .nilFunc] 108)).drew.heap.size (w.alloc (.cells #[.slice none 0 0, .nilFunc] 108)).drew w2) (hk : ∀ k, (Value.slice a' n cap').ownBlock = some k → (w.alloc (.cells #[.slice none 0 0, .nilFunc] 108)).drew.heap.size ≤ k) :
    ListCut w c xs (.pointer (some ⟨w.heap.size, 0, none⟩)) ((w2.setCell ⟨w.heap.size, 0, none⟩ (.slice a' n cap')).setCell ⟨w.heap.size, 1, none⟩ (.func (.func 92) #[] #[.pointer (some ⟨c, 0, none⟩)])) := by
  have hA : Below w.heap.size w (w.alloc (.cells #[.slice none 0 0, .nilFunc] 108)).drew := ((Below.refl _ _).alloc (Nat.le_refl _) _).drew
  have hB : Below w.heap.size w w2 := hA.trans (hb.mono hA.size)
  have H2 := H.grow hB
  have hz : w.heap.size < (w.alloc (.cells #[.slice none 0 0, .nilFunc] 108)).drew.heap.size := by simp
  have hL : Blk w2 w.heap.size 108 [.slice none 0 0, .nilFunc] := (Blk.new w 108 #[.slice none 0 0, .nilFunc]).drew.of_eq (hb.block _ hz)
  have h1 := (hL.set 0 (.slice a' n cap')).set 1 (.func (.func 92) #[] #[.pointer (some ⟨c, 0, none⟩)])
  have hc := H.fn.lt
  refine ⟨_, _, rfl, ⟨rfl, .inl rfl, h1, (H2.fn.far (by simp; omega) _).far (by simp; omega) _, ?_⟩, (hB.setCell (by simp) _).setCell (by simp) _, Nat.le_refl _, fun k hk' => by have := hk k hk'; simp at this; omega⟩
  exact Kept.own (F := [w.heap.size]) (((Kept.refl _ _).setCell _ _ (by simp)).setCell _ _ (by simp)) ho (fun k hk' => by have := hk k hk'; simp at this ⊢; omega)

theorem split_two (l : List Value) (m : Nat) (h : l.length = (m + 1) * 2) : ∃ p a b, l = p ++ [a, b] ∧ p.length = m * 2 := by
  have h1 : (l.drop (m * 2)).length = 2 := by simp; omega
  match e : l.drop (m * 2), h1 with
  | [a, b], _ => exact ⟨l.take (m * 2), a, b, by rw [← e, List.take_append_drop], by simp; omega⟩
theorem set_two (p l : List Value) (a b x y : Value) (m : Nat) (h : p.length = m * 2) : (((p ++ [a, b]) ++ l).set (m * 2) x).set (m * 2 + 1) y = p ++ x :: y :: l := by
  rw [← h]
  simp

set_option maxHeartbeats 6400000 in
theorem list_any (b c room : Nat) (v : Value) (xs : List Hit) (w : World) (h : BestAt w b c room v xs) (hs : xs.length ≤ 1000000) :
    Calls Try.prog 41 #[.pointer (some ⟨b, 0, none⟩)] w fun e w' => ∃ g, e = .returned (.slice (some ⟨g, 0, none⟩) xs.length xs.length) ∧ Own w' 58 (.slice (some ⟨g, 0, none⟩) xs.length xs.length) (drainL xs.length xs []) ∧ Below w.heap.size w w' ∧ w.heap.size ≤ g := by
  have H := Lib.hid h
  have c1 := h.cell0
  have c2 := h.cell1
  have l0 := h.self.lt
  unfold fnV at c2
  have c3 : w.cell? ⟨b, 2, none⟩ = some (.func (.func 92) #[] #[.pointer (some ⟨c, 0, none⟩)]) := c2
  obtain ⟨i0, hi0, hz0, hz1, hz2⟩ := info_parts hit_info
  obtain ⟨mc, hmc, hmk⟩ : ∃ mc : Array Value, mc.size = xs.length * 2 ∧ ∀ w, (Instr.makeSlice 48 (.int .i64 (xs.length : Int)) (.int .i64 (xs.length : Int))).run Try.prog w = .ok (.slice (some ⟨w.heap.size, 0, none⟩) xs.length xs.length) (w.alloc (.cells mc 58)) := by
    refine ⟨madeCells #[.int .i64 0, .int .u32 0] (xs.length * 2), size_madeCells _ _, fun w => ?_⟩
    have := run_make (P := Try.prog) w 48 58 i0 _ Try.underlying48 hi0 hz0 .i64 .i64 xs.length xs.length (by omega) (by omega) (by rw [hz2]; omega) (by omega)
    rw [hz1] at this
    simpa [Value.cells] using this
  have HM := Lib.hid hmc
  clear h hmc hi0 hz0 hz1 hz2
  go_enter Try.func41, Try.ntmps41
  go_upto_region 1 with fail
  go_cut [3] (fun s3 wx => ListCut w c xs s3 wx)
  case first =>
    go_region_with (go_at_call 64; refine (clone_any v xs _ (Own.kept (HeapAt.own H.out) (show Kept [] w _ from by first | exact (Kept.refl [] _).drew | exact ((Kept.refl [] _).alloc _).drew) (by simp)) hs).mono ?_; rintro e w2 ⟨v', rfl, ho, hb, hk⟩; obtain ⟨a', cap', rfl⟩ := ho.size; obtain ⟨sc, sf, sz⟩ := seen hb; have k1 : w2.cell? ⟨b, 2, none⟩ = some (.func (.func 92) #[] #[.pointer (some ⟨c, 0, none⟩)]) := (by rw [sc b 2 (by simp; omega)]; first | (simp [go_sem, c3]; done) | simp [go_sem, c3, l0]); (try (have k2 : w2.cell? ⟨w.heap.size, 0, none⟩ = some (.slice none 0 0) := (by rw [sc _ 0 (by simp)]; simp [go_sem]); have k3 : w2.cell? ⟨w.heap.size, 1, none⟩ = some .nilFunc := (by rw [sc _ 1 (by simp)]; simp [go_sem]); have k4 : w2.frozen? ⟨w.heap.size, 0, none⟩ = false := (by rw [sf _ 0 (by simp)]; simp [go_sem]); have k5 : w2.frozen? ⟨w.heap.size, 1, none⟩ = false := (by rw [sf _ 1 (by simp)]; simp [go_sem]); have k6 : w.heap.size < w2.heap.size := by simp at sz; omega)); have k7 : b < w2.heap.size := (by simp at sz; omega); clear sc sf sz; replace ho := Lib.hid ho; replace hb := Lib.hid hb; replace hk := Lib.hid hk)
    all_goals (go_wp2_with (fail); go_meet; first | exact cut_late H.out ho.out hb.out hk.out | exact cut_soon H.out ho.out hb.out hk.out)
  case rest =>
    clear c1 c2 c3
    obtain ⟨L, v', rfl, hh, hB, hL, hrow⟩ := hcut
    have HH := Lib.hid hh
    have HB := Lib.hid hB
    have HB0 := Lib.hid (H.out.grow hB)
    have HR := Lib.hid hrow
    clear hh hB hrow H l0
    go_wp2_with (fail)
    refine (len_any b c room v xs _ HB0.out).mono ?_
    rintro e w3 ⟨rfl, rfl⟩
    clear HB0
    have l3 : w.heap.size ≤ wc.heap.size := HB.out.size
    have HH1 := Lib.hid (HH.out.kept ((Kept.refl [] _).alloc (.cells mc 58)) (by simp) (by simp) (by simp))
    have HG1 := Lib.hid (Blk.new wc 58 mc)
    have HB1 := Lib.hid (HB.out.alloc HB.out.size (.cells mc 58))
    have HR1 := Lib.hid (fun k hk => show k ≠ wc.heap.size from fun e => by have := HH.out.own.lt k hk; omega)
    clear HH HB
    go_wp2
    generalize wc.alloc (.cells mc 58) = w1 at *
    generalize wc.heap.size = G at *
    go_loopw [23] (fun s23 wr => ∃ (k : Nat) (hp done : List Hit) (v'' : Value) (pre : List Value), s23 = .int .i64 k ∧ k ≤ xs.length ∧ Hid (hp.length + k = xs.length) ∧ Hid (done.length = k) ∧ Hid (pre.length = hp.length * 2) ∧ Hid (drainL hp.length hp done = drainL xs.length xs []) ∧
        Hid (HeapAt wr L 0 c 108 [] v'' hp) ∧ Hid (Blk wr G 58 (pre ++ flat done)) ∧ Hid (Below w.heap.size w wr) ∧ Hid (∀ j, v''.ownBlock = some j → w.heap.size ≤ j ∧ j ≠ G)) (fun s23 _ => xs.length - (intOf s23).toNat)
    case atStart => exact ⟨0, xs, [], v', mc.toList, rfl, Nat.zero_le _, rfl, rfl, by have := HM.out; simpa [Hid] using this, rfl, HH1.out, by simpa [Hid, flat] using HG1.out, HB1.out, fun j hj => ⟨HR.out j hj, HR1.out j hj⟩⟩
    case round =>
      clear HH1 HG1 HB1 HR1 HR HM hmk
      obtain ⟨k, hp, done, v'', pre, rfl, hk, HN, HD, HP, HX, HH, HG, HB, HR⟩ := hrel
      by_cases hlt : k < xs.length
      · obtain ⟨m, hm⟩ : ∃ m, m = xs.length - 1 - k := ⟨_, rfl⟩
        have hm1 : (xs.length : Int) - 1 - (k : Int) = (m : Int) := by omega
        have hml : hp.length = m + 1 := by have := HN.out; omega
        obtain ⟨x, ys, rfl⟩ : ∃ x ys, hp = x :: ys := by
          cases hp with
          | nil => simp at hml
          | cons x ys => exact ⟨x, ys, rfl⟩
        have hym : ys.length = m := by simpa using hml
        obtain ⟨gr, cap, rfl⟩ : ∃ gr cap, v'' = .slice (some ⟨gr, 0, none⟩) (x :: ys).length cap := by
          rcases HH.out.own.form with ⟨_, e⟩ | ⟨gr, cap, _, e, _⟩
          · cases e
          · exact ⟨gr, cap, e⟩
        have hgr := HR.out gr rfl
        obtain ⟨hgr1, hgr2⟩ := hgr
        have hmx : m < xs.length := by omega
        have HM1 := Lib.hid hm1
        have HY := Lib.hid hym
        clear hm1 hml hym hm
        go_wp2_with (fail)
        rw [HM1.out]
        refine (pop_any L 0 c gr _ cap 108 [] x ys _ HH.out (by have := HY.out; omega)).mono ?_
        rintro e w3 ⟨rfl, h4, k4⟩
        have hLG := (HH.out.ne HG.out).1
        have G4 := k4.blk HG.out (by simp; omega)
        obtain ⟨p, u0, u1, rfl, hpl⟩ := split_two pre m (by have := HP.out; have := HY.out; simp at *; omega)
        have d0 := G4.cell (m * 2)
        have d1 := G4.cell (m * 2 + 1)
        rw [List.append_assoc, ← hpl, List.getElem?_append_right (Nat.le_refl _), hpl] at d0
        rw [List.append_assoc, List.getElem?_append_right (by omega), hpl] at d1
        simp at d0 d1
        have f0 := G4.frozen (m * 2)
        have f1 := G4.frozen (m * 2 + 1)
        have l4 := G4.lt
        have G5 := (G4.set (m * 2) (.int .i64 x.1)).set (m * 2 + 1) (.int .u32 x.2)
        rw [set_two p _ u0 u1 _ _ m hpl] at G5
        have hKG : Kept [G] w3 ((w3.setCell ⟨G, m * 2, none⟩ (.int .i64 x.1)).setCell ⟨G, m * 2 + 1, none⟩ (.int .u32 x.2)) := ((Kept.refl _ _).setCell _ _ (by simp)).setCell _ _ (by simp)
        have hcG := (HH.out.ne HG.out).2
        have H5 := Lib.hid (h4.kept hKG (by simp; omega) (by simp; omega) (by simp [Value.ownBlock]; omega))
        have B5 := Lib.hid (HB.out.trans ((k4.below (B := w.heap.size) (by simp; omega) HB.out.size).trans ((((Below.refl w.heap.size w3).setCell (p := ⟨G, m * 2, none⟩) l3 (.int .i64 x.1))).setCell (p := ⟨G, m * 2 + 1, none⟩) l3 (.int .u32 x.2))))
        have G6 := Lib.hid G5
        have HPL := Lib.hid hpl
        clear h4 k4 G4 hKG G5 hpl HH HG HB
        go_wp2
        go_roundw
        case rel =>
          have hy := HY.out
          exact ⟨k + 1, popL (x :: ys), x :: done, .slice (some ⟨gr, 0, none⟩) ys.length cap, p, by go_num, by omega, by have := HN.out; unfold Hid; rw [popL_len]; simp at this; omega, by have := HD.out; unfold Hid; simp; omega, by have := HPL.out; unfold Hid; rw [popL_len]; omega,
            by have := HX.out; unfold Hid; rw [popL_len]; simpa [drainL] using this, H5.out, by simpa [Hid, flat] using G6.out, B5.out, fun j hj => by simp [Value.ownBlock] at hj; subst hj; exact ⟨hgr1, hgr2⟩⟩
        case measure => simp [intOf]; omega
      · go_wp2
        go_ret
        have hkn : k = xs.length := by omega
        subst hkn
        have hp0 : hp = [] := by
          have := HN.out
          exact List.eq_nil_of_length_eq_zero (by omega)
        subst hp0
        have hpre : pre = [] := List.eq_nil_of_length_eq_zero (by have := HP.out; simpa using this)
        subst hpre
        have hd := HX.out
        simp only [List.length_nil, drainL] at hd
        refine ⟨G, rfl, ?_, HB.out, ?_⟩
        · rw [← hd]
          have hdl := HD.out
          have hf := flat_len done
          have := Own.mk (cap := xs.length) (xs := done) (rest := []) (by simpa using HG.out) (by omega) (by unfold maxLen; omega) (by simp; omega)
          rwa [hdl] at this
        · exact l3
end Go.Proofs.Ytdocoioenkajeaa
