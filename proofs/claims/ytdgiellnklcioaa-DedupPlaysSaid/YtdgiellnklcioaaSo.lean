/-
  The document's Same of lists of changes, by a walk over its text.
-/
import Derived.Test.YtdgiellnklcioaaSn
namespace Go.Proofs.Ytdgiellnklcioaa
open Go.RowKit

set_option maxRecDepth 100000 in
set_option maxHeartbeats 3200000 in
theorem sameChanges {ok ok' : Nat → Prop} (a a' : Option Addr) (n n' c c' : Nat) (xs ys : List shChange.T) (w : World) (h : Rd ok w shChanges [.slice a n c] xs) (h' : Rd ok' w shChanges [.slice a' n' c'] ys) :
    Calls Try.prog 23 #[.slice a n c, .slice a' n' c'] w fun e w' => Tells (xs.map toChange = ys.map toChange) w e w' := by
  have HX := Lib.hid h
  have HY := Lib.hid h'
  obtain ⟨_, _, _, hcs, HL, hsm, _⟩ := Rd.slice_is (e := shChange) h
  simp only [List.cons.injEq, Value.slice.injEq, and_true] at hcs
  obtain ⟨rfl, rfl, rfl⟩ := hcs
  obtain ⟨_, _, _, hcs, HL', hsm', _⟩ := Rd.slice_is (e := shChange) h'
  simp only [List.cons.injEq, Value.slice.injEq, and_true] at hcs
  obtain ⟨rfl, rfl, rfl⟩ := hcs
  replace HL : Hid (xs.length = n) := HL
  replace HL' : Hid (ys.length = n') := HL'
  clear h h'
  by_cases hnn : n = n'
  · subst hnn
    go_enter Try.func23, Try.ntmps23
    go_wp2
    go_loopw [5] (fun s5 wr => ∃ i : Nat, s5 = .int .i64 i ∧ i ≤ n ∧ Hid ((xs.map toChange).take i = (ys.map toChange).take i) ∧ Below w.heap.size w wr) (fun s5 _ => n - (intOf s5).toNat)
    case atStart => exact ⟨0, rfl, Nat.zero_le _, by simp [Hid], Below.refl _ _⟩
    case round =>
      obtain ⟨i, rfl, hi, HT, hB⟩ := hrel
      by_cases hc : i < n
      · have HX2 := HX.out.on hB
        have HY2 := HY.out.on hB
        have HB := Lib.hid hB
        clear hB
        obtain ⟨b, off, x, g, p, c0, c1, c2, rfl, hlt, hgx, hxe, RX, kx, kx0, kx1, kx2⟩ := rd_change_in HX2 i hc
        obtain ⟨b', off', y, g', q, d0, d1, d2, rfl, hlt', hgy, hye, RY, ky, ky0, ky1, ky2⟩ := rd_change_in HY2 i hc
        have GX := Lib.hid (show (xs.map toChange)[i]? = some ⟨g, toItem p⟩ by rw [List.getElem?_map, hgx, hxe]; rfl)
        have GY := Lib.hid (show (ys.map toChange)[i]? = some ⟨g', toItem q⟩ by rw [List.getElem?_map, hgy, hye]; rfl)
        clear HX2 HY2 hgx hgy hxe hye
        by_cases hgg : g = g'
        · subst hgg
          have hne : (g != g) = false := by simp
          go_wp2
          go_still_tail 22, (by kernel_rfl)
          change wpList _ _ _ _ _ wr.drew
          go_wp2_with (fail)
          refine (sameItem c0 c1 c2 d0 d1 d2 p q wr.drew RX.out.drew RY.out.drew).mono ?_
          rintro e w3 ⟨z, rfl, hz, hb⟩
          have HZ := Lib.hid hz
          have HB3 := Lib.hid (below_on HB.out.drew hb)
          clear hz hb HB kx0 kx1 kx2 ky0 ky1 ky2 kx ky
          cases z
          · have HN := Lib.hid (show ¬ xs.map toChange = ys.map toChange from fun e => by
              have h1 := GX.out
              rw [e, GY.out] at h1
              have := HZ.out.2 (by have := Option.some.inj h1; rw [ChangeV.mk.injEq] at this; exact this.2.symm)
              cases this)
            go_wp2
            go_ret
            exact tells_no HN.out HB3.out
          · have HT2 := Lib.hid (take_more GX.out GY.out HT.out (by rw [HZ.out.1 rfl]))
            clear HT
            go_wp2
            go_roundw
            case rel => exact ⟨i + 1, by go_num, by omega, HT2.out, HB3.out⟩
            case measure => simp [intOf]; omega
        · have hne : (g == g') = false := by simpa using hgg
          have HN := Lib.hid (show ¬ xs.map toChange = ys.map toChange from fun e => hgg (by
            have h1 := GX.out
            rw [e, GY.out] at h1
            have := Option.some.inj h1
            rw [ChangeV.mk.injEq] at this
            exact this.1.symm))
          clear hgg
          go_wp2
          go_quiet (fail)
          go_wp2
          go_ret
          exact tells_no HN.out (below_draws HB.out _)
      · have HEQ := Lib.hid (show xs.map toChange = ys.map toChange from by
          have := HT.out
          rwa [List.take_of_length_le (by rw [List.length_map, HL.out]; omega), List.take_of_length_le (by rw [List.length_map, HL'.out]; omega)] at this)
        have HB := Lib.hid hB
        clear hB HT
        go_wp2
        go_ret
        exact tells_yes HEQ.out HB.out
  · have HNE := Lib.hid (show xs.map toChange ≠ ys.map toChange from len_ne (n := n) (n' := n') (by rw [List.length_map]; exact HL) (by rw [List.length_map]; exact HL') hnn)
    go_enter Try.func23, Try.ntmps23
    go_wp2
    go_ret
    exact tells_no HNE.out (Below.refl _ _)
end Go.Proofs.Ytdgiellnklcioaa
