/-
  The document's Same of slices of numbers, of texts and of hits, each by a walk over its text.
-/
import Derived.Test.YtdgiellnklcioaaMg
import Derived.BigQuiet
import Derived.Deep.QuietTactic
import Derived.Handy
import Derived.WalkSmall
import Derived.Laws.StructEq
namespace Go.Proofs.Ytdgiellnklcioaa
open Go.RowKit

/-- What a comparison tells. -/
def Tells (q : Prop) (w : World) (e : Ending) (w' : World) : Prop := ∃ z : Bool, e = .returned (.bool z) ∧ (z = true ↔ q) ∧ Below w.heap.size w w'
theorem tells_yes {q : Prop} {w w' : World} (h : q) (hb : Below w.heap.size w w') : Tells q w (.returned (.bool true)) w' := ⟨true, rfl, by simp [h], hb⟩
theorem tells_no {q : Prop} {w w' : World} (h : ¬ q) (hb : Below w.heap.size w w') : Tells q w (.returned (.bool false)) w' := ⟨false, rfl, by simp [h], hb⟩
theorem take_more {α : Type} {xs ys : List α} {i : Nat} {x y : α} (hx : xs[i]? = some x) (hy : ys[i]? = some y) (h : xs.take i = ys.take i) (e : x = y) : xs.take (i + 1) = ys.take (i + 1) := by
  rw [List.take_add_one, List.take_add_one, h, hx, hy, e]
theorem bytes_yes {a b : ByteArray} (h : a = b) : (a.toList == b.toList) = true := (Lib.bytes_beq_iff a b).2 h
theorem bytes_no {a b : ByteArray} (h : a ≠ b) : (a.toList == b.toList) = false := (Lib.bytes_beq_false_iff a b).2 h
theorem rd_int_at {ok : Nat → Prop} {w : World} {k : IntKind} {sz : Nat} {a : Option Addr} {n c : Nat} {xs : List Int} (h : Rd ok w (.slice (.int k) sz) [.slice a n c] xs) (i : Nat) (hi : i < n) :
    ∃ (b off : Nat) (x : Int), a = some ⟨b, off, none⟩ ∧ b < w.heap.size ∧ xs[i]? = some x ∧ (Lit.int k x).wf = true ∧ w.cell? ⟨b, off + i, none⟩ = some (.int k x) := by
  obtain ⟨b, off, x, vs, ha, _, hlt, hx, hl, hc, hr⟩ := Rd.elem (e := .int k) h i hi
  obtain ⟨rfl, hw⟩ := Rd.int_is hr
  have := hc 0 Nat.zero_lt_one
  rw [show off + i * Sh.cells (.int k) + 0 = off + i by simp [Sh.cells]] at this
  exact ⟨b, off, x, ha, hlt, hx, hw, this⟩
theorem rd_str_at {ok : Nat → Prop} {w : World} {sz : Nat} {a : Option Addr} {n c : Nat} {xs : List ByteArray} (h : Rd ok w (.slice .str sz) [.slice a n c] xs) (i : Nat) (hi : i < n) :
    ∃ (b off : Nat) (x : ByteArray), a = some ⟨b, off, none⟩ ∧ b < w.heap.size ∧ xs[i]? = some x ∧ x.size ≤ 140737488351232 ∧ w.cell? ⟨b, off + i, none⟩ = some (.string x) := by
  obtain ⟨b, off, x, vs, ha, _, hlt, hx, hl, hc, hr⟩ := Rd.elem (e := .str) h i hi
  obtain ⟨rfl, hw⟩ := Rd.str_is hr
  have := hc 0 (by decide)
  rw [show off + i * Sh.cells .str + 0 = off + i by simp [Sh.cells]] at this
  exact ⟨b, off, x, ha, hlt, hx, hw, this⟩
theorem len_ne {α : Type} {xs ys : List α} {n n' : Nat} (h : Hid (xs.length = n)) (h' : Hid (ys.length = n')) (hn : n ≠ n') : xs ≠ ys := fun e => hn (by rw [← h.out, ← h'.out, e])

set_option maxRecDepth 100000 in
set_option maxHeartbeats 1600000 in
theorem same01 {ok ok' : Nat → Prop} (a a' : Option Addr) (n n' c c' : Nat) (xs ys : List Int) (w : World) (h : Rd ok w shVec [.slice a n c] xs) (h' : Rd ok' w shVec [.slice a' n' c'] ys) :
    Calls Try.prog 24 #[.slice a n c, .slice a' n' c'] w fun e w' => Tells (xs = ys) w e w' := by
  have HX := Lib.hid h
  have HY := Lib.hid h'
  obtain ⟨_, _, _, hcs, HL, hsm, _⟩ := Rd.slice_is (e := .int .i32) h
  simp only [List.cons.injEq, Value.slice.injEq, and_true] at hcs
  obtain ⟨rfl, rfl, rfl⟩ := hcs
  obtain ⟨_, _, _, hcs, HL', hsm', _⟩ := Rd.slice_is (e := .int .i32) h'
  simp only [List.cons.injEq, Value.slice.injEq, and_true] at hcs
  obtain ⟨rfl, rfl, rfl⟩ := hcs
  replace HL : Hid (xs.length = n) := HL
  replace HL' : Hid (ys.length = n') := HL'
  clear h h'
  by_cases hnn : n = n'
  · subst hnn
    go_enter Try.func24, Try.ntmps24
    go_wp2
    go_loopw [5] (fun s5 wr => ∃ i : Nat, s5 = .int .i64 i ∧ i ≤ n ∧ Hid (xs.take i = ys.take i) ∧ Below w.heap.size w wr) (fun s5 _ => n - (intOf s5).toNat)
    case atStart => exact ⟨0, rfl, Nat.zero_le _, by simp [Hid], Below.refl _ _⟩
    case round =>
      obtain ⟨i, rfl, hi, HT, hB⟩ := hrel
      by_cases hc : i < n
      · have HX2 := HX.out.on hB
        have HY2 := HY.out.on hB
        have HB := Lib.hid hB
        clear hB
        obtain ⟨b, off, x, rfl, hlt, hgx, hwx, kx⟩ := rd_int_at HX2 i hc
        obtain ⟨b', off', y, rfl, hlt', hgy, hwy, ky⟩ := rd_int_at HY2 i hc
        clear HX2 HY2 hwx hwy
        by_cases hxy : x = y
        · have hne : (x != y) = false := by simpa using hxy
          have HE := Lib.hid hxy
          have HT2 := Lib.hid (take_more hgx hgy HT.out hxy)
          clear hxy HT hgx hgy
          go_wp2
          go_quiet (fail)
          go_wp2
          go_roundw
          case rel => exact ⟨i + 1, by go_num, by omega, HT2.out, below_draws HB.out _⟩
          case measure => simp [intOf]; omega
        · have hne : (x != y) = true := by simpa using hxy
          have HN := Lib.hid (show ¬ xs = ys from fun e => hxy (by rw [e, hgy] at hgx; exact (Option.some.inj hgx).symm))
          clear hxy HT hgx hgy
          go_wp2
          go_quiet (fail)
          go_wp2
          go_ret
          exact tells_no HN.out (below_draws HB.out _)
      · have HEQ := Lib.hid (show xs = ys from by
          have := HT.out
          rwa [List.take_of_length_le (by rw [HL.out]; omega), List.take_of_length_le (by rw [HL'.out]; omega)] at this)
        have HB := Lib.hid hB
        clear hB HT
        go_wp2
        go_ret
        exact tells_yes HEQ.out HB.out
  · have HNE := Lib.hid (len_ne HL HL' hnn)
    go_enter Try.func24, Try.ntmps24
    go_wp2
    go_ret
    exact tells_no HNE.out (Below.refl _ _)

set_option maxRecDepth 100000 in
set_option maxHeartbeats 1600000 in
theorem same03 {ok ok' : Nat → Prop} (a a' : Option Addr) (n n' c c' : Nat) (xs ys : List ByteArray) (w : World) (h : Rd ok w shTags [.slice a n c] xs) (h' : Rd ok' w shTags [.slice a' n' c'] ys) :
    Calls Try.prog 25 #[.slice a n c, .slice a' n' c'] w fun e w' => Tells (xs = ys) w e w' := by
  have HX := Lib.hid h
  have HY := Lib.hid h'
  obtain ⟨_, _, _, hcs, HL, hsm, _⟩ := Rd.slice_is (e := .str) h
  simp only [List.cons.injEq, Value.slice.injEq, and_true] at hcs
  obtain ⟨rfl, rfl, rfl⟩ := hcs
  obtain ⟨_, _, _, hcs, HL', hsm', _⟩ := Rd.slice_is (e := .str) h'
  simp only [List.cons.injEq, Value.slice.injEq, and_true] at hcs
  obtain ⟨rfl, rfl, rfl⟩ := hcs
  replace HL : Hid (xs.length = n) := HL
  replace HL' : Hid (ys.length = n') := HL'
  clear h h'
  by_cases hnn : n = n'
  · subst hnn
    go_enter Try.func25, Try.ntmps25
    go_wp2
    go_loopw [5] (fun s5 wr => ∃ i : Nat, s5 = .int .i64 i ∧ i ≤ n ∧ Hid (xs.take i = ys.take i) ∧ Below w.heap.size w wr) (fun s5 _ => n - (intOf s5).toNat)
    case atStart => exact ⟨0, rfl, Nat.zero_le _, by simp [Hid], Below.refl _ _⟩
    case round =>
      obtain ⟨i, rfl, hi, HT, hB⟩ := hrel
      by_cases hc : i < n
      · have HX2 := HX.out.on hB
        have HY2 := HY.out.on hB
        have HB := Lib.hid hB
        clear hB
        obtain ⟨b, off, x, rfl, hlt, hgx, hwx, kx⟩ := rd_str_at HX2 i hc
        obtain ⟨b', off', y, rfl, hlt', hgy, hwy, ky⟩ := rd_str_at HY2 i hc
        clear HX2 HY2 hwx hwy
        by_cases hxy : x = y
        · have ht := bytes_yes hxy
          have HE := Lib.hid hxy
          have HT2 := Lib.hid (take_more hgx hgy HT.out hxy)
          clear hxy HT hgx hgy
          go_wp2
          go_quiet (fail)
          go_wp2
          go_roundw
          case rel => exact ⟨i + 1, by go_num, by omega, HT2.out, below_draws HB.out _⟩
          case measure => simp [intOf]; omega
        · have ht := bytes_no hxy
          have HN := Lib.hid (show ¬ xs = ys from fun e => hxy (by rw [e, hgy] at hgx; exact (Option.some.inj hgx).symm))
          clear hxy HT hgx hgy
          go_wp2
          go_quiet (fail)
          go_wp2
          go_ret
          exact tells_no HN.out (below_draws HB.out _)
      · have HEQ := Lib.hid (show xs = ys from by
          have := HT.out
          rwa [List.take_of_length_le (by rw [HL.out]; omega), List.take_of_length_le (by rw [HL'.out]; omega)] at this)
        have HB := Lib.hid hB
        clear hB HT
        go_wp2
        go_ret
        exact tells_yes HEQ.out HB.out
  · have HNE := Lib.hid (len_ne HL HL' hnn)
    go_enter Try.func25, Try.ntmps25
    go_wp2
    go_ret
    exact tells_no HNE.out (Below.refl _ _)

end Go.Proofs.Ytdgiellnklcioaa
