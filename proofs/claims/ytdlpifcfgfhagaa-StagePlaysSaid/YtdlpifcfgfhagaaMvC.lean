/-
  Of XMv what a seat holds that lacks some functions (made by tools/autopick.py).
-/
import Derived.Test.YtdlpifcfgfhagaaMM1
import Derived.Test.YtdlpifcfgfhagaaGs
import Derived.Test.YtdlpifcfgfhagaaProg
import Derived.Tactics2
import Derived.BigFrame
import Derived.BigGuard
import Derived.Handy
namespace Go.Proofs.Ytdlpifcfgfhagaa
open Go.RowKit

/-- A field's name in the document's text. -/
def Fld.s : Fld → ByteArray
  | .req => ⟨#[114, 101, 113]⟩
  | .caps => ⟨#[99, 97, 112, 115]⟩
  | .token => ⟨#[116, 111, 107, 101, 110]⟩
  | .code => ⟨#[99, 111, 100, 101]⟩
  | .n => ⟨#[110]⟩
  | .name => ⟨#[110, 97, 109, 101]⟩
  | .conf => ⟨#[99, 111, 110, 102]⟩
  | .changes => ⟨#[99, 104, 97, 110, 103, 101, 115]⟩
  | .id => ⟨#[105, 100]⟩
  | .vec => ⟨#[118, 101, 99]⟩
  | .k => ⟨#[107]⟩
  | .width => ⟨#[119, 105, 100, 116, 104]⟩
  | .filter => ⟨#[102, 105, 108, 116, 101, 114]⟩
  | .num => ⟨#[110, 117, 109]⟩
  | .page => ⟨#[112, 97, 103, 101]⟩
  | .bytes => ⟨#[98, 121, 116, 101, 115]⟩
  | .version => ⟨#[118, 101, 114, 115, 105, 111, 110]⟩
  | .names => ⟨#[110, 97, 109, 101, 115]⟩
  | .items => ⟨#[105, 116, 101, 109, 115]⟩
  | .hits => ⟨#[104, 105, 116, 115]⟩

/-- What Form tells. -/
def FormPost (k : Nat) (w : World) (e : Ending) (w' : World) : Prop := Below w.heap.size w w' ∧
  ((∃ fs, formM k = some fs ∧ ∃ a c, e = .returned (.tuple #[.slice a fs.length c, .bool true]) ∧ SReads w' a fs.length c (fs.map Fld.s) ∧ fs.length ≤ 7 ∧ ∀ b off, a = some ⟨b, off, none⟩ → w.heap.size ≤ b) ∨
    (formM k = none ∧ e = .returned (.tuple #[.slice none 0 0, .bool false])))
theorem form_none (k : Nat) (h : k = 0 ∨ 24 < k) : formM k = none := by
  unfold formM
  split <;> first | rfl | omega
end Go.Proofs.Ytdlpifcfgfhagaa
