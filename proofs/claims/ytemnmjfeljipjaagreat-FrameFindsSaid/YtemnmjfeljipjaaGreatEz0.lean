/-
  Mathematics of frames one behind the other. No program stands here.
-/
import Derived.Test.YtemnmjfeljipjaaGreatRd
namespace Go.Proofs.YtemnmjfeljipjaaGreat
open Go.RowKit Go.ChangeShapes Go.WideShapes Go.ChangeAt

def frL (m : MsgL) : List Nat := frameF m.toM.kind (bytesM m.toM)
def FitL (m : MsgL) : Prop := fitM m.toM ∧ (bytesM m.toM).length ≤ 4096
/-- The frames behind the first k. -/
def restF (ms : List MsgL) (k : Nat) : List Nat := ((ms.drop k).map frL).flatten
theorem restF_at {ms : List MsgL} {k : Nat} {m : MsgL} (h : ms[k]? = some m) : restF ms k = frL m ++ restF ms (k + 1) := by
  have hk := (List.getElem?_eq_some_iff.1 h).1
  have e : ms[k] = m := (List.getElem?_eq_some_iff.1 h).2
  unfold restF
  rw [List.drop_eq_getElem_cons hk, e]
  rfl
theorem restF_end {ms : List MsgL} {k : Nat} (h : ms.length ≤ k) : restF ms k = [] := by
  unfold restF
  rw [List.drop_eq_nil_of_le h]
  rfl
theorem restF_app (ms : List MsgL) (m : MsgL) : restF (ms ++ [m]) 0 = restF ms 0 ++ frL m := by
  simp [restF]
theorem frL_pos (m : MsgL) : 0 < (frL m).length := by
  unfold frL frameF openF
  simp
/-- What comes next of frames of which some bytes came. -/
theorem find_step {ms : List MsgL} (hfit : ∀ m ∈ ms, FitL m) {k : Nat} {l rest : List Nat} (h : l ++ rest = restF ms k) :
    (firstF l = .more ∧ (rest = [] → ms.length ≤ k ∧ l = [])) ∨ ∃ m, ms[k]? = some m ∧ firstF l = .got m.toM (frL m).length ∧ l.drop (frL m).length ++ rest = restF ms (k + 1) := by
  by_cases hk : k < ms.length
  · obtain ⟨m, hm⟩ : ∃ m, ms[k]? = some m := ⟨_, List.getElem?_eq_getElem hk⟩
    obtain ⟨h1, h2⟩ := hfit m (List.mem_of_getElem? hm)
    rw [restF_at hm] at h
    by_cases hl : l.length < (frL m).length
    · have e : l = (frL m).take l.length := by
        have := congrArg (List.take l.length) h
        rw [List.take_left' rfl, List.take_append_of_le_length (by omega)] at this
        exact this
      refine .inl ⟨?_, fun hr => ?_⟩
      · rw [e]
        exact frame_cut h1 h2 l.length hl
      · rw [hr, List.append_nil] at h
        have := congrArg List.length h
        rw [List.length_append] at this
        omega
    · have e : l = frL m ++ l.drop (frL m).length := by
        have := congrArg (List.take (frL m).length) h
        rw [List.take_append_of_le_length (by omega), List.take_left' rfl] at this
        conv => lhs; rw [← List.take_append_drop (frL m).length l, this]
      refine .inr ⟨m, hm, ?_, ?_⟩
      · rw [e]
        exact frame_found h1 h2 _
      · rw [e, List.append_assoc] at h
        exact List.append_cancel_left h
  · rw [restF_end (by omega)] at h
    obtain ⟨rfl, _⟩ := List.append_eq_nil_iff.1 h
    exact .inl ⟨firstF_nil, fun _ => ⟨by omega, rfl⟩⟩
end Go.Proofs.YtemnmjfeljipjaaGreat
