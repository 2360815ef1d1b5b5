/-
  The document's reader of bytes: changes, by a walk over its text.
-/
import Derived.Test.YtkhcoinpplpomaaGreatMt
namespace Go.Proofs.YtkhcoinpplpomaaGreat
open Go.RowKit

set_option maxRecDepth 100000 in
set_option maxHeartbeats 12800000 in
theorem rchanges_u (g : Nat) (s : List Nat ⊕ Nat) (w : World) (h : RState w g s) (hgl : g < w.heap.size) :
    Calls Tryz.prog 17 #[.pointer (some ⟨g, 0, none⟩)] w fun e w' => RdU (cMany cChange) (IsSl w.heap.size shChange 64 (fun xs => xs.map toChange)) g s w e w' := by
  have HS := Lib.hid h
  clear h
  go_enter Tryz.func17, Tryz.ntmps17
  go_wp2_with (fail)
  refine (rnum_u 128 g s w HS.out (by decide)).mono ?_
  rintro e w2 ⟨hk2, v2, n, s2, rfl, ⟨rfl, hn⟩, hs2, st2⟩
  have K2 := Lib.hid hk2
  have S2 := Lib.hid hs2
  have T2 := Lib.hid st2
  have hwn : IntKind.i64.wrap (n : Int) = (n : Int) := by rw [IntKind.wrap_i64]; omega
  clear hk2 hs2 st2
  go_wp2_with (fail)
  go_loopw [3, 5] (fun s3 s5 wr => ∃ (i : Nat) (st : List Nat ⊕ Nat) (xs : List shChange.T), s5 = .int .i64 i ∧ i ≤ n ∧ Hid (RState wr g st) ∧ Hid (∀ r, s2 = .inl r → ManyR cChange n i r (xs.map toChange) st) ∧ Hid (∀ k, s2 = .inr k → st = .inr k) ∧ Hid (OwnR w.heap.size wr 90 shChange s3 xs) ∧ Hid (xs.length ≤ i) ∧ Hid (Kept [g] w wr)) (fun _ s5 _ => n - (intOf s5).toNat)
  case atStart => exact ⟨0, s2, [], rfl, by omega, S2.out, fun r h => by subst h; exact ManyR.start cChange n r, fun k h => h, OwnR.nil _ _ _ _, by simp [Hid], K2.out⟩
  case round =>
    clear K2 S2
    obtain ⟨i, st, xs, rfl, hi, HST, HM, HB, HO, HLN, HK⟩ := hrel
    have hwr := HK.out.size
    rcases st with q | k
    · have hat : RAt wr g q := HST.out
      obtain ⟨a, m, c, c0, c1, f0, f1, hlt, _, _, _⟩ := hat.cells
      have HM2 := Lib.hid (show ∃ r, s2 = .inl r ∧ ManyR cChange n i r (xs.map toChange) (.inl q) from by
        rcases s2 with r | k
        · exact ⟨r, rfl, HM.out r rfl⟩
        · exact nomatch HB.out k rfl)
      clear hat f0 f1 c0 HM HB
      by_cases hin : i < n
      · go_wp2_with (fail)
        refine (rnum_u 1 g (.inl q) wr HST.out (by decide)).mono ?_
        rintro e w4 ⟨hk4, v4, f, s4, rfl, ⟨rfl, hf⟩, hs4, st4⟩
        have O4 := Lib.hid (HO.out.kept hk4 (by simp; omega))
        have K4 := Lib.hid (HK.out.trans hk4 (Grows.refl _ _))
        have h4s := K4.out.size
        have S4 := Lib.hid hs4
        have T4 := Lib.hid (show Step cFlag (.inl q) (f == 1) s4 from Step.map st4)
        have hln := HLN.out
        clear hk4 hs4 st4 HO HST HK c1
        have hf01 : f = 0 ∨ f = 1 := by omega
        rcases hf01 with rfl | rfl
        · go_wp2_with (fail)
          obtain ⟨w5, hw5⟩ : ∃ w5, w4.alloc (.cells #[.bool false, .int .u32 0, .slice none 0 0, .slice none 0 0] 90) = w5 := ⟨_, rfl⟩
          have k45 : Kept [] w4 w5 := by rw [← hw5]; exact (Kept.refl _ _).alloc _
          have KK5 := Lib.hid (show Kept [g] w4 w5 from k45.mono (by simp))
          have X5 := Lib.hid (show Blk w5 w4.heap.size 90 [.bool false, .int .u32 0, .slice none 0 0, .slice none 0 0] from by rw [← hw5]; exact Blk.new w4 _ _)
          have S5 := Lib.hid (S4.out.kept k45 (by simp))
          have hown4 := Lib.hid (fun k (hk : Value.ownBlock u3 = some k) => (O4.out.lt k hk).2)
          rw [hw5]
          have h5s := k45.size
          clear hw5 k45 S4
          have l5 := X5.out.lt
          refine (ritem_u g s4 w5 S5.out (by omega)).mono ?_
          rintro e w6 ⟨hk6, v6, it, s6, rfl, ⟨cs, y, rfl, hy, hto⟩, hs6, st6⟩
          obtain ⟨id, vec, tags, p, n1, c1, p', n2, c2, rfl, rfl, hid, _⟩ := rd_item hy
          have V6 := Lib.hid hy
          have S6 := Lib.hid hs6
          subst hto
          have T6 := Lib.hid st6
          have KK6 := Lib.hid (KK5.out.trans hk6 (Grows.refl _ _))
          have X6 := Lib.hid (hk6.blk X5.out (by simp; omega))
          have h6s := hk6.size
          have x0 : w6.cell? ⟨w4.heap.size, 0, none⟩ = some (.bool false) := X6.out.cell 0
          have x1 : w6.cell? ⟨w4.heap.size, 1, none⟩ = some (.int .u32 0) := X6.out.cell 1
          have x2 : w6.cell? ⟨w4.heap.size, 2, none⟩ = some (.slice none 0 0) := X6.out.cell 2
          have x3 : w6.cell? ⟨w4.heap.size, 3, none⟩ = some (.slice none 0 0) := X6.out.cell 3
          have g1 := X6.out.frozen 1
          have g2 := X6.out.frozen 2
          have g3 := X6.out.frozen 3
          have l6 := X6.out.lt
          obtain ⟨w7, hw7⟩ : ∃ w7, ((w6.setCell ⟨w4.heap.size, 1, none⟩ (.int .u32 (id : Int))).setCell ⟨w4.heap.size, 2, none⟩ (.slice p n1 c1)).setCell ⟨w4.heap.size, 3, none⟩ (.slice p' n2 c2) = w7 := ⟨_, rfl⟩
          have k67 : Kept [w4.heap.size] w6 w7 := by
            rw [← hw7]
            exact (((Kept.refl _ _).setCell _ _ (.inl (by simp))).setCell _ _ (.inl (by simp))).setCell _ _ (.inl (by simp))
          have KK7 := Lib.hid (show Kept [g] w4 w7 from KK6.out.trans k67 (fun k hk => .inr (by simp at hk; omega)))
          have K7 := Lib.hid (K4.out.trans KK7.out (Grows.refl _ _))
          have X7 := Lib.hid (show Blk w7 w4.heap.size 90 [.bool false, .int .u32 (id : Int), .slice p n1 c1, .slice p' n2 c2] from by
            rw [← hw7]
            exact ((X6.out.set 1 (.int .u32 (id : Int))).set 2 (.slice p n1 c1)).set 3 (.slice p' n2 c2))
          have S7 := Lib.hid (S6.out.kept k67 (by simp; omega))
          have O7 := Lib.hid (O4.out.kept KK7.out (by simp; omega))
          have V7 := Lib.hid ((V6.out.kept k67 (fun k hk ho => by simp at hk; omega)).mono (ok' := fun k => w.heap.size ≤ k ∧ Value.ownBlock u3 ≠ some k) (fun k hk _ => ⟨by omega, fun hv => by have := hown4.out k hv; omega⟩))
          have z0 : w7.cell? ⟨w4.heap.size, 0, none⟩ = some (.bool false) := X7.out.cell 0
          have z1 : w7.cell? ⟨w4.heap.size, 1, none⟩ = some (.int .u32 (id : Int)) := X7.out.cell 1
          have z2 : w7.cell? ⟨w4.heap.size, 2, none⟩ = some (.slice p n1 c1) := X7.out.cell 2
          have z3 : w7.cell? ⟨w4.heap.size, 3, none⟩ = some (.slice p' n2 c2) := X7.out.cell 3
          have l7 := X7.out.lt
          clear hk6 hy hs6 st6 S5 KK5 X5 S6 V6 KK6 X6 k67 O4 K4 KK7
          have hlo := (K7.out).size
          obtain ⟨el, hel⟩ : ∃ el : shChange.T, el = (false, ((id : Int), vec, tags, ()), ()) := ⟨_, rfl⟩
          have R7 := Lib.hid (show Rd (fun k => w.heap.size ≤ k ∧ Value.ownBlock u3 ≠ some k) w7 shChange [.bool false, .int .u32 (id : Int), .slice p n1 c1, .slice p' n2 c2] el from by rw [hel]; exact change_mk V7.out)
          have M7 := Lib.hid (show Step cChange (.inl q) (toChange el) s6 from by rw [hel]; exact step_change (g := false) T4.out T6.out)
          clear hel
          go_wp2_with (at_builtin; go_must (refine app_row (e := shChange) w7 rfl (.tmp 36) (.tmp 38) 28 rfl Tryz.underlying28 (.agg #[.bool false, .int .u32 0, .slice none 0 0, .slice none 0 0]) 64 change_info rfl (by decide) el [.bool false, .int .u32 (id : Int), .slice p n1 c1, .slice p' n2 c2] (by rfl) (by rfl) O7.out R7.out hlo (by omega) (by omega) ?_))
          intro v8 w8 ho8 hk8 hg8
          have O8 := Lib.hid ho8
          have hown := fun k (hk : k ∈ ownB u3) => (O7.out.lt k (mem_ownB.1 hk)).1
          have K8 := Lib.hid (K7.out.trans hk8 (fun k hk => .inr (hown k hk)))
          have R8 := Lib.hid (S7.out.kept hk8 (fun k hk => by have := hown k hk; omega))
          have A8 := Lib.hid (show (∀ r, s2 = .inl r → ManyR cChange n (i + 1) r ((xs ++ [el]).map toChange) s6) ∧ ∀ k, s2 = .inr k → s6 = .inr k from by
            obtain ⟨r, hr, hm⟩ := HM2.out
            refine ⟨fun r' hr' => ?_, fun k hk => by rw [hr] at hk; cases hk⟩
            rw [hr] at hr'
            cases hr'
            have := hm.step hin M7.out
            simpa using this)
          clear ho8 hk8 hg8 hown O7 K7 S7 V7 R7 M7
          go_wp2
          go_roundw
          case rel => exact ⟨i + 1, s6, xs ++ [el], by go_num, by omega, R8.out, A8.out.1, A8.out.2, O8.out, by simp [Hid]; omega, K8.out⟩
          case measure => simp [intOf]; omega
        · go_wp2_with (fail)
          obtain ⟨w5, hw5⟩ : ∃ w5, w4.alloc (.cells #[.bool true, .int .u32 0, .slice none 0 0, .slice none 0 0] 90) = w5 := ⟨_, rfl⟩
          have k45 : Kept [] w4 w5 := by rw [← hw5]; exact (Kept.refl _ _).alloc _
          have KK5 := Lib.hid (show Kept [g] w4 w5 from k45.mono (by simp))
          have X5 := Lib.hid (show Blk w5 w4.heap.size 90 [.bool true, .int .u32 0, .slice none 0 0, .slice none 0 0] from by rw [← hw5]; exact Blk.new w4 _ _)
          have S5 := Lib.hid (S4.out.kept k45 (by simp))
          have hown4 := Lib.hid (fun k (hk : Value.ownBlock u3 = some k) => (O4.out.lt k hk).2)
          rw [hw5]
          have h5s := k45.size
          clear hw5 k45 S4
          have l5 := X5.out.lt
          refine (rnum_u 4294967295 g s4 w5 S5.out (by decide)).mono ?_
          rintro e w6 ⟨hk6, v6, id, s6, rfl, ⟨rfl, hid⟩, hs6, st6⟩
          have hwid : IntKind.u32.wrap (id : Int) = (id : Int) := by rw [IntKind.wrap_u32]; omega
          have S6 := Lib.hid hs6
          have T6 := Lib.hid (show Step cBare s4 (toItem ((id : Int), [], [], ())) s6 from Step.map st6)
          have KK6 := Lib.hid (KK5.out.trans hk6 (Grows.refl _ _))
          have X6 := Lib.hid (hk6.blk X5.out (by simp; omega))
          have h6s := hk6.size
          have x0 : w6.cell? ⟨w4.heap.size, 0, none⟩ = some (.bool true) := X6.out.cell 0
          have x1 : w6.cell? ⟨w4.heap.size, 1, none⟩ = some (.int .u32 0) := X6.out.cell 1
          have x2 : w6.cell? ⟨w4.heap.size, 2, none⟩ = some (.slice none 0 0) := X6.out.cell 2
          have x3 : w6.cell? ⟨w4.heap.size, 3, none⟩ = some (.slice none 0 0) := X6.out.cell 3
          have g1 := X6.out.frozen 1
          have l6 := X6.out.lt
          obtain ⟨w7, hw7⟩ : ∃ w7, w6.setCell ⟨w4.heap.size, 1, none⟩ (.int .u32 (id : Int)) = w7 := ⟨_, rfl⟩
          have k67 : Kept [w4.heap.size] w6 w7 := by
            rw [← hw7]
            exact (Kept.refl _ _).setCell _ _ (.inl (by simp))
          have KK7 := Lib.hid (show Kept [g] w4 w7 from KK6.out.trans k67 (fun k hk => .inr (by simp at hk; omega)))
          have K7 := Lib.hid (K4.out.trans KK7.out (Grows.refl _ _))
          have X7 := Lib.hid (show Blk w7 w4.heap.size 90 [.bool true, .int .u32 (id : Int), .slice none 0 0, .slice none 0 0] from by
            rw [← hw7]
            exact X6.out.set 1 (.int .u32 (id : Int)))
          have S7 := Lib.hid (S6.out.kept k67 (by simp; omega))
          have O7 := Lib.hid (O4.out.kept KK7.out (by simp; omega))
          have V7 := Lib.hid (show Rd (fun k => w.heap.size ≤ k ∧ Value.ownBlock u3 ≠ some k) w7 shItem [.int .u32 (id : Int), .slice none 0 0, .slice none 0 0] ((id : Int), [], [], ()) from bare_mk hid)
          have z0 : w7.cell? ⟨w4.heap.size, 0, none⟩ = some (.bool true) := X7.out.cell 0
          have z1 : w7.cell? ⟨w4.heap.size, 1, none⟩ = some (.int .u32 (id : Int)) := X7.out.cell 1
          have z2 : w7.cell? ⟨w4.heap.size, 2, none⟩ = some (.slice none 0 0) := X7.out.cell 2
          have z3 : w7.cell? ⟨w4.heap.size, 3, none⟩ = some (.slice none 0 0) := X7.out.cell 3
          have l7 := X7.out.lt
          clear hk6 hs6 st6 S5 KK5 X5 S6 KK6 X6 k67 O4 K4 KK7
          have hlo := (K7.out).size
          obtain ⟨el, hel⟩ : ∃ el : shChange.T, el = (true, ((id : Int), [], [], ()), ()) := ⟨_, rfl⟩
          have R7 := Lib.hid (show Rd (fun k => w.heap.size ≤ k ∧ Value.ownBlock u3 ≠ some k) w7 shChange [.bool true, .int .u32 (id : Int), .slice none 0 0, .slice none 0 0] el from by rw [hel]; exact change_mk V7.out)
          have M7 := Lib.hid (show Step cChange (.inl q) (toChange el) s6 from by rw [hel]; exact step_change (g := true) T4.out T6.out)
          clear hel
          go_wp2_with (at_builtin; go_must (refine app_row (e := shChange) w7 rfl (.tmp 36) (.tmp 38) 28 rfl Tryz.underlying28 (.agg #[.bool false, .int .u32 0, .slice none 0 0, .slice none 0 0]) 64 change_info rfl (by decide) el [.bool true, .int .u32 (id : Int), .slice none 0 0, .slice none 0 0] (by rfl) (by rfl) O7.out R7.out hlo (by omega) (by omega) ?_))
          intro v8 w8 ho8 hk8 hg8
          have O8 := Lib.hid ho8
          have hown := fun k (hk : k ∈ ownB u3) => (O7.out.lt k (mem_ownB.1 hk)).1
          have K8 := Lib.hid (K7.out.trans hk8 (fun k hk => .inr (hown k hk)))
          have R8 := Lib.hid (S7.out.kept hk8 (fun k hk => by have := hown k hk; omega))
          have A8 := Lib.hid (show (∀ r, s2 = .inl r → ManyR cChange n (i + 1) r ((xs ++ [el]).map toChange) s6) ∧ ∀ k, s2 = .inr k → s6 = .inr k from by
            obtain ⟨r, hr, hm⟩ := HM2.out
            refine ⟨fun r' hr' => ?_, fun k hk => by rw [hr] at hk; cases hk⟩
            rw [hr] at hr'
            cases hr'
            have := hm.step hin M7.out
            simpa using this)
          clear ho8 hk8 hg8 hown O7 K7 S7 V7 R7 M7
          go_wp2
          go_roundw
          case rel => exact ⟨i + 1, s6, xs ++ [el], by go_num, by omega, R8.out, A8.out.1, A8.out.2, O8.out, by simp [Hid]; omega, K8.out⟩
          case measure => simp [intOf]; omega
      · have hin' : i = n := by omega
        subst hin'
        obtain ⟨r, hr, hm⟩ := HM2.out
        have HE := Lib.hid (show Step (cMany cChange) s (xs.map toChange) (.inl q) from by
          have h1 := T2.out
          rw [hr] at h1
          rcases s with l | k
          · show (cMany cChange).dec l = .inl (xs.map toChange, q)
            rw [cMany_dec]
            have h2 : (cNum 128 (by decide)).dec l = .inl (i, r) := h1
            rw [h2]
            exact hm.fin
          · exact h1.elim)
        have HR := Lib.hid (HO.out.rd 64 (by decide) (by have := HLN.out; omega))
        clear hr hm HM2
        go_wp2
        go_ret
        exact ⟨HK.out, _, _, .inl q, rfl, ⟨xs, HR.out, rfl⟩, HST.out, HE.out⟩
    · have hbad : RBad wr g k := HST.out
      obtain ⟨c1, hlt, e1, e2⟩ := hbad.cells
      have HE := Lib.hid (show Step (cMany cChange) s (xs.map toChange) (.inr k) from by
        have h1 := T2.out
        rcases s2 with r | k2
        · have h3 := HM.out r rfl
          rcases s with l | k3
          · show (cMany cChange).dec l = .inr k
            rw [cMany_dec]
            have h2 : (cNum 128 (by decide)).dec l = .inl (n, r) := h1
            rw [h2]
            exact h3
          · exact h1.elim
        · have h3 := HB.out k2 rfl
          cases h3
          rcases s with l | k3
          · show (cMany cChange).dec l = .inr k
            rw [cMany_dec]
            have h2 : (cNum 128 (by decide)).dec l = .inr k := h1
            rw [h2]
          · exact h1)
      have HR := Lib.hid (HO.out.rd 64 (by decide) (by have := HLN.out; omega))
      clear hbad
      by_cases hin : i < n
      all_goals
        go_wp2
        go_ret
        exact ⟨HK.out, _, _, .inr k, rfl, ⟨xs, HR.out, rfl⟩, HST.out, HE.out⟩
end Go.Proofs.YtkhcoinpplpomaaGreat
