/-
  (*sync.Once).Do in one goroutine, whatever function it is handed: the first time it is called once; from then on never.
-/
import Derived.Test.YtaecaanepomkdaaWs
namespace Go.Proofs.Ytaecaanepomkdaa
open Go.RowKit

/-- The world behind a first Do: what the function has left, the flag laid, the lock let go. -/
def onceDone (b off : Nat) (w2 : World) : World := (w2.drew.setCell ⟨b, off, none⟩ (.int .u32 1)).setCell ⟨b, off + 1, none⟩ (.int .i32 0)

/-- What a function that is handed to Do leaves: the flag not laid yet, the lock held. -/
def OnceKept (b off : Nat) (w2 : World) : Prop :=
  (w2.cell? ⟨b, off, none⟩ = some (.int .u32 0) ∧ w2.cell? ⟨b, off + 1, none⟩ = some (.int .i32 1)) ∧ w2.frozen? ⟨b, off, none⟩ = false ∧ w2.frozen? ⟨b, off + 1, none⟩ = false

/-- The world behind a first Do. -/
def AfterOnce (b off : Nat) (Q : World → Prop) (w' : World) : Prop := ∃ w2, Q w2 ∧ w' = onceDone b off w2

set_option maxRecDepth 100000 in
set_option maxHeartbeats 1600000 in
theorem s_slow (b off : Nat) (f : FuncId) (hin : ∀ args w, (callFunc f args).run Try.prog w = .ok (.enter f args) w) (first cap args : Array Value) (ha : first ++ cap = args) (Q : World → Prop) (w : World)
    (h0 : w.cell? ⟨b, off, none⟩ = some (.int .u32 0)) (h1 : w.cell? ⟨b, off + 1, none⟩ = some (.int .i32 0))
    (f1 : w.frozen? ⟨b, off + 1, none⟩ = false)
    (hcall : Calls Try.prog f args (w.setCell ⟨b, off + 1, none⟩ (.int .i32 1)) fun e w2 => e = .returned (.tuple #[]) ∧ Q w2)
    (hQ : Hid (∀ w2, Q w2 → OnceKept b off w2)) :
    Calls Try.prog 19 #[.pointer (some ⟨b, off, none⟩), .func (.func f) first cap] w fun e w' => e = .returned (.tuple #[]) ∧ AfterOnce b off Q w' := by
  have a0 : (w.setCell ⟨b, off + 1, none⟩ (.int .i32 1)).cell? ⟨b, off, none⟩ = some (.int .u32 0) := (World.cell?_setCell_other _ ⟨b, off + 1, none⟩ ⟨b, off, none⟩ _ (by simp)).trans h0
  have hnot : ∀ (x : Bool) (w : World), (Op.unary .not (.bool x)).run Try.prog w = .ok (.bool (!x)) w := fun _ _ => rfl
  have HC := Lib.hid hcall
  clear hcall
  go_enter_defers Try.func19, Try.ntmps19
  go_wp2_with (fail)
  refine (s_lock_free ⟨b, off + 1, none⟩ w h1 f1).mono ?_
  rintro e w' ⟨rfl, rfl⟩
  go_wp2_with (fail)
  refine (s_load ⟨b, off, none⟩ 0 false _ a0 (by decide)).mono ?_
  rintro e w' ⟨rfl, rfl⟩
  go_wp2_with (fail)
  refine HC.out.mono ?_
  rintro e w2 ⟨rfl, hq⟩
  obtain ⟨⟨q0, q1⟩, z0, z1⟩ := hQ.out w2 hq
  have HQ2 := Lib.hid hq
  clear hq
  go_wp2_with (fail)
  refine leaves_cons (f := 21) (args := #[.pointer (some ⟨b, off, none⟩), .bool true]) (by simp) (by simp [go_sem]) ?_
  refine (s_store_deferred ⟨b, off, none⟩ (.int .u32 0) .returning _ q0 z0).mono ?_
  rintro e u' w'' ⟨rfl, rfl, rfl⟩
  refine leaves_cons (f := 24) (args := #[.pointer (some ⟨b, off + 1, none⟩)]) (by simp [settle]) (by simp [go_sem]) ?_
  refine (s_unlock_deferred ⟨b, off + 1, none⟩ _ _ ?_ (by simp [z1])).mono ?_
  · refine (World.cell?_setCell_other _ ⟨b, off, none⟩ ⟨b, off + 1, none⟩ _ (by simp)).trans ?_
    rw [World.cell?_drew]
    exact q1
  rintro e u' w'' ⟨rfl, rfl, rfl⟩
  have hend : AfterOnce b off Q ((w2.drew.setCell ⟨b, off, none⟩ (.int .u32 1)).setCell ⟨b, off + 1, none⟩ (.int .i32 0)) := ⟨w2, HQ2.out, rfl⟩
  simp [Leaves, settle, results, Try.results19, hend]

/-- Do, for the first time. -/
theorem s_do_first (b off : Nat) (f : FuncId) (hin : ∀ args w, (callFunc f args).run Try.prog w = .ok (.enter f args) w) (first cap args : Array Value) (ha : first ++ cap = args) (Q : World → Prop) (w : World)
    (h0 : w.cell? ⟨b, off, none⟩ = some (.int .u32 0)) (h1 : w.cell? ⟨b, off + 1, none⟩ = some (.int .i32 0))
    (f1 : w.frozen? ⟨b, off + 1, none⟩ = false)
    (hcall : Calls Try.prog f args (w.setCell ⟨b, off + 1, none⟩ (.int .i32 1)) fun e w2 => e = .returned (.tuple #[]) ∧ Q w2)
    (hQ : Hid (∀ w2, Q w2 → OnceKept b off w2)) :
    Calls Try.prog 16 #[.pointer (some ⟨b, off, none⟩), .func (.func f) first cap] w fun e w' => e = .returned (.tuple #[]) ∧ AfterOnce b off Q w' := by
  have hnot : ∀ (x : Bool) (w : World), (Op.unary .not (.bool x)).run Try.prog w = .ok (.bool (!x)) w := fun _ _ => rfl
  have HC := Lib.hid hcall
  have HI := Lib.hid hin
  have HA := Lib.hid ha
  clear hcall hin ha
  go_enter Try.func16, Try.ntmps16
  go_wp2_with (fail)
  refine (s_load ⟨b, off, none⟩ 0 false _ h0 (by decide)).mono ?_
  rintro e w' ⟨rfl, rfl⟩
  go_wp2_with (fail)
  refine (s_slow b off f HI.out first cap args HA.out Q _ h0 h1 f1 HC.out hQ).mono ?_
  rintro e w' ⟨rfl, hq⟩
  have H := Lib.hid hq
  clear hq h0 h1 f1
  go_wp2_with (fail)
  go_end0
  exact ⟨rfl, H.out⟩

/-- Do, done already: nothing is called. -/
theorem s_do_done (b off : Nat) (fv : Value) (w : World) (h0 : w.cell? ⟨b, off, none⟩ = some (.int .u32 1)) :
    Calls Try.prog 16 #[.pointer (some ⟨b, off, none⟩), fv] w fun e w' => e = .returned (.tuple #[]) ∧ w' = w := by
  have hnot : ∀ (x : Bool) (w : World), (Op.unary .not (.bool x)).run Try.prog w = .ok (.bool (!x)) w := fun _ _ => rfl
  go_enter Try.func16, Try.ntmps16
  go_wp2_with (fail)
  refine (s_load ⟨b, off, none⟩ 1 true _ h0 (by decide)).mono ?_
  rintro e w' ⟨rfl, rfl⟩
  go_wp2_with (fail)
  go_end0
  exact ⟨rfl, rfl⟩
end Go.Proofs.Ytaecaanepomkdaa
