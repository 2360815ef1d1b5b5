/-
  The document's Same of hits, by a walk over its text.
-/
import Derived.Test.YtdgiellnklcioaaSm
namespace Go.Proofs.Ytdgiellnklcioaa
open Go.RowKit

theorem run_neq_pair (x y : Int) (x' y' : Int) (w : World) (z : Bool) (hz : (!decide (x = y ∧ x' = y')) = z) : (binOp .neq 91 (.agg #[.int .i64 x, .int .u32 x']) (.agg #[.int .i64 y, .int .u32 y'])).run Try.prog w = .ok (.bool z) w := by
  subst hz
  have e : decide (x = y ∧ x' = y') = (x == y && x' == y') := by
    rw [Bool.eq_iff_iff]
    simp
  rw [e]
  simp [go_sem]
  by_cases h1 : x = y
  · by_cases h2 : x' = y' <;> simp [h1, h2]
  · simp [h1]
theorem rd_hit_in {ok : Nat → Prop} {w : World} {a : Option Addr} {n c : Nat} {xs : List shHit.T} (h : Rd ok w shHits [.slice a n c] xs) (i : Nat) (hi : i < n) :
    ∃ (b off : Nat) (x : shHit.T) (d : Int) (id : Nat), a = some ⟨b, off, none⟩ ∧ b < w.heap.size ∧ xs[i]? = some x ∧ x = (d, (id : Int), ()) ∧ -9223372036854775808 ≤ d ∧ d ≤ 9223372036854775807 ∧ id ≤ 4294967295 ∧ w.cell? ⟨b, off + i * 2, none⟩ = some (.int .i64 d) ∧ w.cell? ⟨b, off + i * 2 + 1, none⟩ = some (.int .u32 (id : Int)) := by
  obtain ⟨b, off, x, vs, ha, _, hlt, hx, hl, hc, hr⟩ := Rd.elem (e := shHit) h i hi
  obtain ⟨d, id, hxe, hcs, h1, h2, h3⟩ := rd_hit hr
  subst hcs
  exact ⟨b, off, x, d, id, ha, hlt, hx, hxe, h2, h3, h1, hc 0 (by decide), hc 1 (by decide)⟩
set_option maxRecDepth 100000 in
set_option maxHeartbeats 1600000 in
theorem same02 {ok ok' : Nat → Prop} (a a' : Option Addr) (n n' c c' : Nat) (xs ys : List shHit.T) (w : World) (h : Rd ok w shHits [.slice a n c] xs) (h' : Rd ok' w shHits [.slice a' n' c'] ys) :
    Calls Try.prog 27 #[.slice a n c, .slice a' n' c'] w fun e w' => Tells (xs = ys) w e w' := by
  have HX := Lib.hid h
  have HY := Lib.hid h'
  obtain ⟨_, _, _, hcs, HL, hsm, _⟩ := Rd.slice_is (e := shHit) h
  simp only [List.cons.injEq, Value.slice.injEq, and_true] at hcs
  obtain ⟨rfl, rfl, rfl⟩ := hcs
  obtain ⟨_, _, _, hcs, HL', hsm', _⟩ := Rd.slice_is (e := shHit) h'
  simp only [List.cons.injEq, Value.slice.injEq, and_true] at hcs
  obtain ⟨rfl, rfl, rfl⟩ := hcs
  replace HL : Hid (xs.length = n) := HL
  replace HL' : Hid (ys.length = n') := HL'
  clear h h'
  by_cases hnn : n = n'
  · subst hnn
    go_enter Try.func27, Try.ntmps27
    go_wp2
    go_loopw [5] (fun s5 wr => ∃ i : Nat, s5 = .int .i64 i ∧ i ≤ n ∧ Hid (xs.take i = ys.take i) ∧ Below w.heap.size w wr) (fun s5 _ => n - (intOf s5).toNat)
    case atStart => exact ⟨0, rfl, Nat.zero_le _, by simp [Hid], Below.refl _ _⟩
    case round =>
      obtain ⟨i, rfl, hi, HT, hB⟩ := hrel
      by_cases hc : i < n
      · have HX2 := HX.out.on hB
        have HY2 := HY.out.on hB
        have HB := Lib.hid hB
        clear hB
        obtain ⟨b, off, x, d, id, rfl, hlt, hgx, hxe, _, _, _, kx, kx'⟩ := rd_hit_in HX2 i hc
        obtain ⟨b', off', y, d', id', rfl, hlt', hgy, hye, _, _, _, ky, ky'⟩ := rd_hit_in HY2 i hc
        clear HX2 HY2
        by_cases hxy : x = y
        · have hne := fun w => run_neq_pair d d' (id : Int) (id' : Int) w false (by
            rw [hxe, hye] at hxy
            have h1 : d = d' := congrArg (fun (p : Int × Int × Unit) => p.1) hxy
            have h2 : (id : Int) = (id' : Int) := congrArg (fun (p : Int × Int × Unit) => p.2.1) hxy
            simp [h1, h2])
          clear hxe hye
          have HE := Lib.hid hxy
          have HT2 := Lib.hid (take_more hgx hgy HT.out hxy)
          clear hxy HT hgx hgy
          go_wp2
          go_quiet (fail)
          go_wp2
          go_roundw
          case rel => exact ⟨i + 1, by go_num, by omega, HT2.out, below_draws HB.out _⟩
          case measure => simp [intOf]; omega
        · have hne := fun w => run_neq_pair d d' (id : Int) (id' : Int) w true (by
            have : ¬ (d = d' ∧ (id : Int) = (id' : Int)) := fun h => hxy (by rw [hxe, hye, h.1, h.2])
            simp only [decide_eq_false this, Bool.not_false])
          clear hxe hye
          have HN := Lib.hid (show ¬ xs = ys from fun e => hxy (by rw [e, hgy] at hgx; exact (Option.some.inj hgx).symm))
          clear hxy HT hgx hgy
          go_wp2
          go_quiet (fail)
          go_wp2
          go_ret
          exact tells_no HN.out (below_draws HB.out _)
      · have HEQ := Lib.hid (show xs = ys from by
          have := HT.out
          rwa [List.take_of_length_le (by rw [HL.out]; omega), List.take_of_length_le (by rw [HL'.out]; omega)] at this)
        have HB := Lib.hid hB
        clear hB HT
        go_wp2
        go_ret
        exact tells_yes HEQ.out HB.out
  · have HNE := Lib.hid (len_ne HL HL' hnn)
    go_enter Try.func27, Try.ntmps27
    go_wp2
    go_ret
    exact tells_no HNE.out (Below.refl _ _)
end Go.Proofs.Ytdgiellnklcioaa
