/-
  The document's Same of lists of changes, by a walk over its text.
-/
import Derived.Test.YtemnmjfeljipjaaGreatSn
namespace Go.Proofs.YtemnmjfeljipjaaGreat
open Go.RowKit

/-- What is read of a change in a list. -/
theorem rd_change_in {ok : Nat → Prop} {w : World} {a : Option Addr} {n c : Nat} {xs : List shChange.T} (h : Rd ok w shChanges [.slice a n c] xs) (i : Nat) (hi : i < n) :
    ∃ (b off : Nat) (x : shChange.T) (g : Bool) (y : shItem.T) (c0 c1 c2 : Value), a = some ⟨b, off, none⟩ ∧ b < w.heap.size ∧ xs[i]? = some x ∧ x = (g, y, ()) ∧ Hid (Rd ok w shItem [c0, c1, c2] y) ∧ w.cell? ⟨b, off + i * 4, none⟩ = some (.bool g) ∧ w.cell? ⟨b, off + i * 4 + 1, none⟩ = some c0 ∧
      w.cell? ⟨b, off + i * 4 + 2, none⟩ = some c1 ∧ w.cell? ⟨b, off + i * 4 + 3, none⟩ = some c2 := by
  obtain ⟨b, off, x, vs, ha, _, hlt, hx, hl, hc, hr⟩ := Rd.elem (e := shChange) h i hi
  obtain ⟨g, y, c0, c1, c2, hxe, hcs, hy⟩ := rd_change hr
  subst hcs
  exact ⟨b, off, x, g, y, c0, c1, c2, ha, hlt, hx, hxe, hy, hc 0 (by decide), hc 1 (by decide), hc 2 (by decide), hc 3 (by decide)⟩

set_option maxRecDepth 100000 in
set_option maxHeartbeats 3200000 in
theorem sameChanges {ok ok' : Nat → Prop} (a a' : Option Addr) (n n' c c' : Nat) (xs ys : List shChange.T) (w : World) (h : Rd ok w shChanges [.slice a n c] xs) (h' : Rd ok' w shChanges [.slice a' n' c'] ys) :
    Calls Tryz.prog 21 #[.slice a n c, .slice a' n' c'] w fun e w' => Tells (xs.map toChange = ys.map toChange) w e w' := by
  have HX := Lib.hid h
  have HY := Lib.hid h'
  obtain ⟨_, _, _, hcs, HL, hsm, _⟩ := Rd.slice_is (e := shChange) h
  simp only [List.cons.injEq, Value.slice.injEq, and_true] at hcs
  obtain ⟨rfl, rfl, rfl⟩ := hcs
  obtain ⟨_, _, _, hcs, HL', hsm', _⟩ := Rd.slice_is (e := shChange) h'
  simp only [List.cons.injEq, Value.slice.injEq, and_true] at hcs
  obtain ⟨rfl, rfl, rfl⟩ := hcs
  replace HL : Hid (xs.length = n) := HL
  replace HL' : Hid (ys.length = n') := HL'
  clear h h'
  by_cases hnn : n = n'
  · subst hnn
    go_enter Tryz.func21, Tryz.ntmps21
    go_wp2
    go_loopw [5] (fun s5 wr => ∃ i : Nat, s5 = .int .i64 i ∧ i ≤ n ∧ Hid ((xs.map toChange).take i = (ys.map toChange).take i) ∧ Below w.heap.size w wr) (fun s5 _ => n - (intOf s5).toNat)
    case atStart => exact ⟨0, rfl, Nat.zero_le _, by simp [Hid], Below.refl _ _⟩
    case round =>
      obtain ⟨i, rfl, hi, HT, hB⟩ := hrel
      by_cases hc : i < n
      · have HX2 := HX.out.on hB
        have HY2 := HY.out.on hB
        have HB := Lib.hid hB
        clear hB
        obtain ⟨b, off, x, g, p, c0, c1, c2, rfl, hlt, hgx, hxe, RX, kx, kx0, kx1, kx2⟩ := rd_change_in HX2 i hc
        obtain ⟨b', off', y, g', q, d0, d1, d2, rfl, hlt', hgy, hye, RY, ky, ky0, ky1, ky2⟩ := rd_change_in HY2 i hc
        have GX := Lib.hid (show (xs.map toChange)[i]? = some ⟨g, toItem p⟩ by rw [List.getElem?_map, hgx, hxe]; rfl)
        have GY := Lib.hid (show (ys.map toChange)[i]? = some ⟨g', toItem q⟩ by rw [List.getElem?_map, hgy, hye]; rfl)
        clear HX2 HY2 hgx hgy hxe hye
        by_cases hgg : g = g'
        · subst hgg
          have hne : (g != g) = false := by simp
          go_wp2
          go_still_tail 22, (by kernel_rfl)
          change wpList _ _ _ _ _ wr.drew
          go_wp2_with (fail)
          refine (sameItem c0 c1 c2 d0 d1 d2 p q wr.drew RX.out.drew RY.out.drew).mono ?_
          rintro e w3 ⟨z, rfl, hz, hb⟩
          have HZ := Lib.hid hz
          have HB3 := Lib.hid (below_on HB.out.drew hb)
          clear hz hb HB kx0 kx1 kx2 ky0 ky1 ky2 kx ky
          cases z
          · have HN := Lib.hid (show ¬ xs.map toChange = ys.map toChange from fun e => by
              have h1 := GX.out
              rw [e, GY.out] at h1
              have := HZ.out.2 (by have := Option.some.inj h1; rw [ChangeV.mk.injEq] at this; exact this.2.symm)
              cases this)
            go_wp2
            go_ret
            exact tells_no HN.out HB3.out
          · have HT2 := Lib.hid (take_more GX.out GY.out HT.out (by rw [HZ.out.1 rfl]))
            clear HT
            go_wp2
            go_roundw
            case rel => exact ⟨i + 1, by go_num, by omega, HT2.out, HB3.out⟩
            case measure => simp [intOf]; omega
        · have hne : (g == g') = false := by simpa using hgg
          have HN := Lib.hid (show ¬ xs.map toChange = ys.map toChange from fun e => hgg (by
            have h1 := GX.out
            rw [e, GY.out] at h1
            have := Option.some.inj h1
            rw [ChangeV.mk.injEq] at this
            exact this.1.symm))
          clear hgg
          go_wp2
          go_quiet (fail)
          go_wp2
          go_ret
          exact tells_no HN.out (below_draws HB.out _)
      · have HEQ := Lib.hid (show xs.map toChange = ys.map toChange from by
          have := HT.out
          rwa [List.take_of_length_le (by rw [List.length_map, HL.out]; omega), List.take_of_length_le (by rw [List.length_map, HL'.out]; omega)] at this)
        have HB := Lib.hid hB
        clear hB HT
        go_wp2
        go_ret
        exact tells_yes HEQ.out HB.out
  · have HNE := Lib.hid (show xs.map toChange ≠ ys.map toChange from len_ne (n := n) (n' := n') (by rw [List.length_map]; exact HL) (by rw [List.length_map]; exact HL') hnn)
    go_enter Tryz.func21, Tryz.ntmps21
    go_wp2
    go_ret
    exact tells_no HNE.out (Below.refl _ _)
end Go.Proofs.YtemnmjfeljipjaaGreat
