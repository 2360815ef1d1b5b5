/-
  The document's Great of texts: it tells some Bool and changes nothing. By a walk over its text.
-/
import Derived.Test.YtadkfedglkhgjaaSm
import Derived.BigGuardPart
import Derived.BigCall
import Derived.Deep.DeepMust
import Derived.Deep.DeepCutAuto
namespace Go.Proofs.Ytadkfedglkhgjaa
open Go.RowKit

/-- Some Bool is told. -/
def SomeB (w : World) (e : Ending) (w' : World) : Prop := ∃ g : Bool, e = .returned (.bool g) ∧ Below w.heap.size w w'

def SomeG (e : Ending) : Prop := ∃ g : Bool, e = .returned (.bool g)

set_option maxRecDepth 100000 in
set_option maxHeartbeats 1600000 in
theorem great03 {ok : Nat → Prop} (a : Option Addr) (n c : Nat) (ss : List ByteArray) (w : World) (h : Rd ok w shTags [.slice a n c] ss) :
    Calls Try.prog 24 #[.slice a n c] w fun e w' => SomeG e ∧ w' = w := by
  obtain ⟨_, _, _, hcs, HL, hsm, _⟩ := Rd.slice_is (e := .str) h
  simp only [List.cons.injEq, Value.slice.injEq, and_true] at hcs
  obtain ⟨rfl, rfl, rfl⟩ := hcs
  have HX := Lib.hid h
  clear h
  go_enter Try.func24, Try.ntmps24
  go_wp2
  go_loop [3, 4] (fun s3 s4 => ∃ (i : Nat) (m : Int), s3 = .int .i64 m ∧ s4 = .int .i64 i ∧ i ≤ n ∧ 0 ≤ m ∧ m ≤ 50000) (fun _ s4 => n - (intOf s4).toNat)
  case atStart => exact ⟨0, 0, rfl, rfl, Nat.zero_le _, by omega, by omega⟩
  case round =>
    obtain ⟨i, m, rfl, rfl, hi, h0, h1⟩ := hrel
    by_cases hc : i < n
    · by_cases hm : m < 20000
      · obtain ⟨b, off, y, rfl, hlt, _, hsz, hcc⟩ := rd_str_at HX.out i hc
        go_wp2
        go_round
        case rel => exact ⟨i + 1, _, rfl, by go_num, by omega, by go_num, by go_num⟩
        case measure => simp [intOf]; omega
      · go_wp2
        all_goals
          go_ret
          exact ⟨⟨_, rfl⟩, rfl⟩
    · go_wp2
      all_goals
        go_ret
        exact ⟨⟨_, rfl⟩, rfl⟩

end Go.Proofs.Ytadkfedglkhgjaa
