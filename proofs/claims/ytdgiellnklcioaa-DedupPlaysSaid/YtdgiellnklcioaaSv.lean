/-
  The document's Great of texts and of changes: each tells some Bool and changes nothing. By walks over their texts.
-/
import Derived.Test.YtdgiellnklcioaaSm
import Derived.Test.YtdgiellnklcioaaSn
import Derived.BigGuardPart
import Derived.BigCall
import Derived.Deep.DeepMust
import Derived.Deep.DeepCutAuto
namespace Go.Proofs.Ytdgiellnklcioaa
open Go.RowKit

/-- Some Bool is told. -/
def SomeB (w : World) (e : Ending) (w' : World) : Prop := ∃ g : Bool, e = .returned (.bool g) ∧ Below w.heap.size w w'

def SomeG (e : Ending) : Prop := ∃ g : Bool, e = .returned (.bool g)

set_option maxRecDepth 100000 in
set_option maxHeartbeats 1600000 in
theorem great03 {ok : Nat → Prop} (a : Option Addr) (n c : Nat) (ss : List ByteArray) (w : World) (h : Rd ok w shTags [.slice a n c] ss) :
    Calls Try.prog 20 #[.slice a n c] w fun e w' => SomeG e ∧ w' = w := by
  obtain ⟨_, _, _, hcs, HL, hsm, _⟩ := Rd.slice_is (e := .str) h
  simp only [List.cons.injEq, Value.slice.injEq, and_true] at hcs
  obtain ⟨rfl, rfl, rfl⟩ := hcs
  have HX := Lib.hid h
  clear h
  go_enter Try.func20, Try.ntmps20
  go_wp2
  go_loop [3, 4] (fun s3 s4 => ∃ (i : Nat) (m : Int), s3 = .int .i64 m ∧ s4 = .int .i64 i ∧ i ≤ n ∧ 0 ≤ m ∧ m ≤ 50000) (fun _ s4 => n - (intOf s4).toNat)
  case atStart => exact ⟨0, 0, rfl, rfl, Nat.zero_le _, by omega, by omega⟩
  case round =>
    obtain ⟨i, m, rfl, rfl, hi, h0, h1⟩ := hrel
    by_cases hc : i < n
    · by_cases hm : m < 20000
      · obtain ⟨b, off, y, rfl, hlt, _, hsz, hcc⟩ := rd_str_at HX.out i hc
        go_wp2
        go_round
        case rel => exact ⟨i + 1, _, rfl, by go_num, by omega, by go_num, by go_num⟩
        case measure => simp [intOf]; omega
      · go_wp2
        all_goals
          go_ret
          exact ⟨⟨_, rfl⟩, rfl⟩
    · go_wp2
      all_goals
        go_ret
        exact ⟨⟨_, rfl⟩, rfl⟩

theorem rd_change_lens {ok : Nat → Prop} {w : World} {a : Option Addr} {n c : Nat} {xs : List shChange.T} (h : Rd ok w shChanges [.slice a n c] xs) (i : Nat) (hi : i < n) :
    ∃ (b off : Nat) (a1 : Option Addr) (n1 k1 : Nat) (a2 : Option Addr) (n2 k2 : Nat) (tags : List ByteArray), a = some ⟨b, off, none⟩ ∧ b < w.heap.size ∧ n1 ≤ 140737488351232 ∧ Hid (Rd ok w shTags [.slice a2 n2 k2] tags) ∧ w.cell? ⟨b, off + i * 4 + 2, none⟩ = some (.slice a1 n1 k1) ∧ w.cell? ⟨b, off + i * 4 + 3, none⟩ = some (.slice a2 n2 k2) := by
  obtain ⟨b, off, x, g, y, c0, c1, c2, ha, hlt, _, _, hy, _, _, h1, h2⟩ := rd_change_in h i hi
  obtain ⟨id, vec, tags, a1, n1, k1, a2, n2, k2, _, hcs, _, _, rt, _, _, l1, _⟩ := rd_item hy.out
  simp only [List.cons.injEq, and_true] at hcs
  obtain ⟨rfl, rfl, rfl⟩ := hcs
  exact ⟨b, off, a1, n1, k1, a2, n2, k2, tags, ha, hlt, l1, rt, h1, h2⟩

set_option maxRecDepth 100000 in
set_option maxHeartbeats 3200000 in
theorem greatChanges {ok : Nat → Prop} (a : Option Addr) (n c : Nat) (xs : List shChange.T) (w : World) (h : Rd ok w shChanges [.slice a n c] xs) :
    Calls Try.prog 21 #[.slice a n c] w fun e w' => SomeG e ∧ w' = w := by
  obtain ⟨_, _, _, hcs, HL, hsm, _⟩ := Rd.slice_is (e := shChange) h
  simp only [List.cons.injEq, Value.slice.injEq, and_true] at hcs
  obtain ⟨rfl, rfl, rfl⟩ := hcs
  have HX := Lib.hid h
  clear h
  go_enter Try.func21, Try.ntmps21
  go_wp2
  go_loop [3, 4] (fun s3 s4 => ∃ (i : Nat) (m : Int), s3 = .int .i64 m ∧ s4 = .int .i64 i ∧ i ≤ n ∧ 0 ≤ m ∧ m ≤ 200000) (fun _ s4 => n - (intOf s4).toNat)
  case atStart => exact ⟨0, 0, rfl, rfl, Nat.zero_le _, by omega, by omega⟩
  case round =>
    obtain ⟨i, m, rfl, rfl, hi, h0, h1⟩ := hrel
    by_cases hc : i < n
    · by_cases hm : m < 50000
      · obtain ⟨b, off, a1, n1, k1, a2, n2, k2, tags, rfl, hlt, hn1, HT, hc1, hc2⟩ := rd_change_lens HX.out i hc
        go_wp2_with (fail)
        all_goals
          refine (great03 a2 n2 k2 tags w HT.out).mono ?_
          rintro e w' ⟨⟨g, rfl⟩, rfl⟩
          cases g
          · go_wp2
            go_round
            case rel => exact ⟨i + 1, _, rfl, by go_num, by omega, by go_num, by go_num⟩
            case measure => simp [intOf]; omega
          · go_wp2
            go_ret
            exact ⟨⟨_, rfl⟩, rfl⟩
      · go_wp2
        all_goals
          go_ret
          exact ⟨⟨_, rfl⟩, rfl⟩
    · go_wp2
      all_goals
        go_ret
        exact ⟨⟨_, rfl⟩, rfl⟩
end Go.Proofs.Ytdgiellnklcioaa
