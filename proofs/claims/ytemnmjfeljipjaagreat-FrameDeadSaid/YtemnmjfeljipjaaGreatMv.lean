/-
  The document's forms of the kinds of messages, by a walk over its text.
-/
import Derived.Test.YtemnmjfeljipjaaGreatMo
import Derived.Test.YtemnmjfeljipjaaGreatGs
import Derived.Test.YtemnmjfeljipjaaGreatProg
import Derived.Tactics2
import Derived.BigFrame
import Derived.BigGuard
import Derived.Handy
namespace Go.Proofs.YtemnmjfeljipjaaGreat
open Go.RowKit

/-- A field's name in the document's text. -/
def Fld.s : Fld → ByteArray
  | .req => ⟨#[114, 101, 113]⟩
  | .caps => ⟨#[99, 97, 112, 115]⟩
  | .token => ⟨#[116, 111, 107, 101, 110]⟩
  | .code => ⟨#[99, 111, 100, 101]⟩
  | .n => ⟨#[110]⟩
  | .name => ⟨#[110, 97, 109, 101]⟩
  | .conf => ⟨#[99, 111, 110, 102]⟩
  | .changes => ⟨#[99, 104, 97, 110, 103, 101, 115]⟩
  | .id => ⟨#[105, 100]⟩
  | .vec => ⟨#[118, 101, 99]⟩
  | .k => ⟨#[107]⟩
  | .width => ⟨#[119, 105, 100, 116, 104]⟩
  | .filter => ⟨#[102, 105, 108, 116, 101, 114]⟩
  | .num => ⟨#[110, 117, 109]⟩
  | .page => ⟨#[112, 97, 103, 101]⟩
  | .bytes => ⟨#[98, 121, 116, 101, 115]⟩
  | .version => ⟨#[118, 101, 114, 115, 105, 111, 110]⟩
  | .names => ⟨#[110, 97, 109, 101, 115]⟩
  | .items => ⟨#[105, 116, 101, 109, 115]⟩
  | .hits => ⟨#[104, 105, 116, 115]⟩

/-- What Form tells. -/
def FormPost (k : Nat) (w : World) (e : Ending) (w' : World) : Prop := Below w.heap.size w w' ∧
  ((∃ fs, formM k = some fs ∧ ∃ a c, e = .returned (.tuple #[.slice a fs.length c, .bool true]) ∧ SReads w' a fs.length c (fs.map Fld.s) ∧ fs.length ≤ 7 ∧ ∀ b off, a = some ⟨b, off, none⟩ → w.heap.size ≤ b) ∨
    (formM k = none ∧ e = .returned (.tuple #[.slice none 0 0, .bool false])))
theorem form_none (k : Nat) (h : k = 0 ∨ 24 < k) : formM k = none := by
  unfold formM
  split <;> first | rfl | omega
set_option maxRecDepth 100000 in
set_option maxHeartbeats 1600000 in
theorem form_1 (w : World) : Calls Tryz.prog 40 #[.int .u8 1] w fun e w' => FormPost 1 w e w' := by
  have HR := Lib.hid (SReads.built w (([.caps] : List Fld).map Fld.s) 9 (by decide))
  have HB := Lib.hid ((Below.refl w.heap.size w).alloc (Nat.le_refl _) (.cells ((([.caps] : List Fld).map Fld.s).map Value.string).toArray 9))
  go_enter Tryz.func40, Tryz.ntmps40
  go_wp2
  go_ret2
  exact ⟨HB.out, .inl ⟨[.caps], rfl, _, _, rfl, HR.out, by decide, fun b off h => by cases h; exact Nat.le_refl _⟩⟩
set_option maxRecDepth 100000 in
set_option maxHeartbeats 1600000 in
theorem form_2 (w : World) : Calls Tryz.prog 40 #[.int .u8 2] w fun e w' => FormPost 2 w e w' := by
  have HR := Lib.hid (SReads.built w (([.caps, .token, .n] : List Fld).map Fld.s) 9 (by decide))
  have HB := Lib.hid ((Below.refl w.heap.size w).alloc (Nat.le_refl _) (.cells ((([.caps, .token, .n] : List Fld).map Fld.s).map Value.string).toArray 9))
  go_enter Tryz.func40, Tryz.ntmps40
  go_wp2
  go_ret2
  exact ⟨HB.out, .inl ⟨[.caps, .token, .n], rfl, _, _, rfl, HR.out, by decide, fun b off h => by cases h; exact Nat.le_refl _⟩⟩
set_option maxRecDepth 100000 in
set_option maxHeartbeats 1600000 in
theorem form_3 (w : World) : Calls Tryz.prog 40 #[.int .u8 3] w fun e w' => FormPost 3 w e w' := by
  have HR := Lib.hid (SReads.built w (([.token, .n] : List Fld).map Fld.s) 9 (by decide))
  have HB := Lib.hid ((Below.refl w.heap.size w).alloc (Nat.le_refl _) (.cells ((([.token, .n] : List Fld).map Fld.s).map Value.string).toArray 9))
  go_enter Tryz.func40, Tryz.ntmps40
  go_wp2
  go_ret2
  exact ⟨HB.out, .inl ⟨[.token, .n], rfl, _, _, rfl, HR.out, by decide, fun b off h => by cases h; exact Nat.le_refl _⟩⟩
set_option maxRecDepth 100000 in
set_option maxHeartbeats 1600000 in
theorem form_4 (w : World) : Calls Tryz.prog 40 #[.int .u8 4] w fun e w' => FormPost 4 w e w' := by
  have HR := Lib.hid (SReads.built w (([.n] : List Fld).map Fld.s) 9 (by decide))
  have HB := Lib.hid ((Below.refl w.heap.size w).alloc (Nat.le_refl _) (.cells ((([.n] : List Fld).map Fld.s).map Value.string).toArray 9))
  go_enter Tryz.func40, Tryz.ntmps40
  go_wp2
  go_ret2
  exact ⟨HB.out, .inl ⟨[.n], rfl, _, _, rfl, HR.out, by decide, fun b off h => by cases h; exact Nat.le_refl _⟩⟩
set_option maxRecDepth 100000 in
set_option maxHeartbeats 1600000 in
theorem form_5 (w : World) : Calls Tryz.prog 40 #[.int .u8 5] w fun e w' => FormPost 5 w e w' := by
  have HR := Lib.hid (SReads.built w (([.code] : List Fld).map Fld.s) 9 (by decide))
  have HB := Lib.hid ((Below.refl w.heap.size w).alloc (Nat.le_refl _) (.cells ((([.code] : List Fld).map Fld.s).map Value.string).toArray 9))
  go_enter Tryz.func40, Tryz.ntmps40
  go_wp2
  go_ret2
  exact ⟨HB.out, .inl ⟨[.code], rfl, _, _, rfl, HR.out, by decide, fun b off h => by cases h; exact Nat.le_refl _⟩⟩
set_option maxRecDepth 100000 in
set_option maxHeartbeats 1600000 in
theorem form_6 (w : World) : Calls Tryz.prog 40 #[.int .u8 6] w fun e w' => FormPost 6 w e w' := by
  have HR := Lib.hid (SReads.built w (([.code] : List Fld).map Fld.s) 9 (by decide))
  have HB := Lib.hid ((Below.refl w.heap.size w).alloc (Nat.le_refl _) (.cells ((([.code] : List Fld).map Fld.s).map Value.string).toArray 9))
  go_enter Tryz.func40, Tryz.ntmps40
  go_wp2
  go_ret2
  exact ⟨HB.out, .inl ⟨[.code], rfl, _, _, rfl, HR.out, by decide, fun b off h => by cases h; exact Nat.le_refl _⟩⟩
set_option maxRecDepth 100000 in
set_option maxHeartbeats 1600000 in
theorem form_7 (w : World) : Calls Tryz.prog 40 #[.int .u8 7] w fun e w' => FormPost 7 w e w' := by
  have HR := Lib.hid (SReads.built w (([.n] : List Fld).map Fld.s) 9 (by decide))
  have HB := Lib.hid ((Below.refl w.heap.size w).alloc (Nat.le_refl _) (.cells ((([.n] : List Fld).map Fld.s).map Value.string).toArray 9))
  go_enter Tryz.func40, Tryz.ntmps40
  go_wp2
  go_ret2
  exact ⟨HB.out, .inl ⟨[.n], rfl, _, _, rfl, HR.out, by decide, fun b off h => by cases h; exact Nat.le_refl _⟩⟩
set_option maxRecDepth 100000 in
set_option maxHeartbeats 1600000 in
theorem form_8 (w : World) : Calls Tryz.prog 40 #[.int .u8 8] w fun e w' => FormPost 8 w e w' := by
  have HR := Lib.hid (SReads.built w (([.n] : List Fld).map Fld.s) 9 (by decide))
  have HB := Lib.hid ((Below.refl w.heap.size w).alloc (Nat.le_refl _) (.cells ((([.n] : List Fld).map Fld.s).map Value.string).toArray 9))
  go_enter Tryz.func40, Tryz.ntmps40
  go_wp2
  go_ret2
  exact ⟨HB.out, .inl ⟨[.n], rfl, _, _, rfl, HR.out, by decide, fun b off h => by cases h; exact Nat.le_refl _⟩⟩
set_option maxRecDepth 100000 in
set_option maxHeartbeats 1600000 in
theorem form_9 (w : World) : Calls Tryz.prog 40 #[.int .u8 9] w fun e w' => FormPost 9 w e w' := by
  have HR := Lib.hid (SReads.built w (([.n] : List Fld).map Fld.s) 9 (by decide))
  have HB := Lib.hid ((Below.refl w.heap.size w).alloc (Nat.le_refl _) (.cells ((([.n] : List Fld).map Fld.s).map Value.string).toArray 9))
  go_enter Tryz.func40, Tryz.ntmps40
  go_wp2
  go_ret2
  exact ⟨HB.out, .inl ⟨[.n], rfl, _, _, rfl, HR.out, by decide, fun b off h => by cases h; exact Nat.le_refl _⟩⟩
set_option maxRecDepth 100000 in
set_option maxHeartbeats 1600000 in
theorem form_10 (w : World) : Calls Tryz.prog 40 #[.int .u8 10] w fun e w' => FormPost 10 w e w' := by
  have HR := Lib.hid (SReads.built w (([.n] : List Fld).map Fld.s) 9 (by decide))
  have HB := Lib.hid ((Below.refl w.heap.size w).alloc (Nat.le_refl _) (.cells ((([.n] : List Fld).map Fld.s).map Value.string).toArray 9))
  go_enter Tryz.func40, Tryz.ntmps40
  go_wp2
  go_ret2
  exact ⟨HB.out, .inl ⟨[.n], rfl, _, _, rfl, HR.out, by decide, fun b off h => by cases h; exact Nat.le_refl _⟩⟩
set_option maxRecDepth 100000 in
set_option maxHeartbeats 1600000 in
theorem form_11 (w : World) : Calls Tryz.prog 40 #[.int .u8 11] w fun e w' => FormPost 11 w e w' := by
  have HR := Lib.hid (SReads.built w (([.req, .conf] : List Fld).map Fld.s) 9 (by decide))
  have HB := Lib.hid ((Below.refl w.heap.size w).alloc (Nat.le_refl _) (.cells ((([.req, .conf] : List Fld).map Fld.s).map Value.string).toArray 9))
  go_enter Tryz.func40, Tryz.ntmps40
  go_wp2
  go_ret2
  exact ⟨HB.out, .inl ⟨[.req, .conf], rfl, _, _, rfl, HR.out, by decide, fun b off h => by cases h; exact Nat.le_refl _⟩⟩
set_option maxRecDepth 100000 in
set_option maxHeartbeats 1600000 in
theorem form_12 (w : World) : Calls Tryz.prog 40 #[.int .u8 12] w fun e w' => FormPost 12 w e w' := by
  have HR := Lib.hid (SReads.built w (([.req, .name] : List Fld).map Fld.s) 9 (by decide))
  have HB := Lib.hid ((Below.refl w.heap.size w).alloc (Nat.le_refl _) (.cells ((([.req, .name] : List Fld).map Fld.s).map Value.string).toArray 9))
  go_enter Tryz.func40, Tryz.ntmps40
  go_wp2
  go_ret2
  exact ⟨HB.out, .inl ⟨[.req, .name], rfl, _, _, rfl, HR.out, by decide, fun b off h => by cases h; exact Nat.le_refl _⟩⟩
set_option maxRecDepth 100000 in
set_option maxHeartbeats 1600000 in
theorem form_13 (w : World) : Calls Tryz.prog 40 #[.int .u8 13] w fun e w' => FormPost 13 w e w' := by
  have HR := Lib.hid (SReads.built w (([.req] : List Fld).map Fld.s) 9 (by decide))
  have HB := Lib.hid ((Below.refl w.heap.size w).alloc (Nat.le_refl _) (.cells ((([.req] : List Fld).map Fld.s).map Value.string).toArray 9))
  go_enter Tryz.func40, Tryz.ntmps40
  go_wp2
  go_ret2
  exact ⟨HB.out, .inl ⟨[.req], rfl, _, _, rfl, HR.out, by decide, fun b off h => by cases h; exact Nat.le_refl _⟩⟩
set_option maxRecDepth 100000 in
set_option maxHeartbeats 1600000 in
theorem form_14 (w : World) : Calls Tryz.prog 40 #[.int .u8 14] w fun e w' => FormPost 14 w e w' := by
  have HR := Lib.hid (SReads.built w (([.req, .name, .changes] : List Fld).map Fld.s) 9 (by decide))
  have HB := Lib.hid ((Below.refl w.heap.size w).alloc (Nat.le_refl _) (.cells ((([.req, .name, .changes] : List Fld).map Fld.s).map Value.string).toArray 9))
  go_enter Tryz.func40, Tryz.ntmps40
  go_wp2
  go_ret2
  exact ⟨HB.out, .inl ⟨[.req, .name, .changes], rfl, _, _, rfl, HR.out, by decide, fun b off h => by cases h; exact Nat.le_refl _⟩⟩
set_option maxRecDepth 100000 in
set_option maxHeartbeats 1600000 in
theorem form_15 (w : World) : Calls Tryz.prog 40 #[.int .u8 15] w fun e w' => FormPost 15 w e w' := by
  have HR := Lib.hid (SReads.built w (([.req, .name, .id] : List Fld).map Fld.s) 9 (by decide))
  have HB := Lib.hid ((Below.refl w.heap.size w).alloc (Nat.le_refl _) (.cells ((([.req, .name, .id] : List Fld).map Fld.s).map Value.string).toArray 9))
  go_enter Tryz.func40, Tryz.ntmps40
  go_wp2
  go_ret2
  exact ⟨HB.out, .inl ⟨[.req, .name, .id], rfl, _, _, rfl, HR.out, by decide, fun b off h => by cases h; exact Nat.le_refl _⟩⟩
set_option maxRecDepth 100000 in
set_option maxHeartbeats 1600000 in
theorem form_16 (w : World) : Calls Tryz.prog 40 #[.int .u8 16] w fun e w' => FormPost 16 w e w' := by
  have HR := Lib.hid (SReads.built w (([.req, .name, .vec, .k, .width, .filter] : List Fld).map Fld.s) 9 (by decide))
  have HB := Lib.hid ((Below.refl w.heap.size w).alloc (Nat.le_refl _) (.cells ((([.req, .name, .vec, .k, .width, .filter] : List Fld).map Fld.s).map Value.string).toArray 9))
  go_enter Tryz.func40, Tryz.ntmps40
  go_wp2
  go_ret2
  exact ⟨HB.out, .inl ⟨[.req, .name, .vec, .k, .width, .filter], rfl, _, _, rfl, HR.out, by decide, fun b off h => by cases h; exact Nat.le_refl _⟩⟩
set_option maxRecDepth 100000 in
set_option maxHeartbeats 1600000 in
theorem form_17 (w : World) : Calls Tryz.prog 40 #[.int .u8 17] w fun e w' => FormPost 17 w e w' := by
  have HR := Lib.hid (SReads.built w (([.req, .name, .vec, .filter] : List Fld).map Fld.s) 9 (by decide))
  have HB := Lib.hid ((Below.refl w.heap.size w).alloc (Nat.le_refl _) (.cells ((([.req, .name, .vec, .filter] : List Fld).map Fld.s).map Value.string).toArray 9))
  go_enter Tryz.func40, Tryz.ntmps40
  go_wp2
  go_ret2
  exact ⟨HB.out, .inl ⟨[.req, .name, .vec, .filter], rfl, _, _, rfl, HR.out, by decide, fun b off h => by cases h; exact Nat.le_refl _⟩⟩
set_option maxRecDepth 100000 in
set_option maxHeartbeats 1600000 in
theorem form_18 (w : World) : Calls Tryz.prog 40 #[.int .u8 18] w fun e w' => FormPost 18 w e w' := by
  have HR := Lib.hid (SReads.built w (([.req, .num, .page, .k] : List Fld).map Fld.s) 9 (by decide))
  have HB := Lib.hid ((Below.refl w.heap.size w).alloc (Nat.le_refl _) (.cells ((([.req, .num, .page, .k] : List Fld).map Fld.s).map Value.string).toArray 9))
  go_enter Tryz.func40, Tryz.ntmps40
  go_wp2
  go_ret2
  exact ⟨HB.out, .inl ⟨[.req, .num, .page, .k], rfl, _, _, rfl, HR.out, by decide, fun b off h => by cases h; exact Nat.le_refl _⟩⟩
set_option maxRecDepth 100000 in
set_option maxHeartbeats 1600000 in
theorem form_19 (w : World) : Calls Tryz.prog 40 #[.int .u8 19] w fun e w' => FormPost 19 w e w' := by
  have HR := Lib.hid (SReads.built w (([.req, .num] : List Fld).map Fld.s) 9 (by decide))
  have HB := Lib.hid ((Below.refl w.heap.size w).alloc (Nat.le_refl _) (.cells ((([.req, .num] : List Fld).map Fld.s).map Value.string).toArray 9))
  go_enter Tryz.func40, Tryz.ntmps40
  go_wp2
  go_ret2
  exact ⟨HB.out, .inl ⟨[.req, .num], rfl, _, _, rfl, HR.out, by decide, fun b off h => by cases h; exact Nat.le_refl _⟩⟩
set_option maxRecDepth 100000 in
set_option maxHeartbeats 1600000 in
theorem form_20 (w : World) : Calls Tryz.prog 40 #[.int .u8 20] w fun e w' => FormPost 20 w e w' := by
  have HR := Lib.hid (SReads.built w (([.req, .name] : List Fld).map Fld.s) 9 (by decide))
  have HB := Lib.hid ((Below.refl w.heap.size w).alloc (Nat.le_refl _) (.cells ((([.req, .name] : List Fld).map Fld.s).map Value.string).toArray 9))
  go_enter Tryz.func40, Tryz.ntmps40
  go_wp2
  go_ret2
  exact ⟨HB.out, .inl ⟨[.req, .name], rfl, _, _, rfl, HR.out, by decide, fun b off h => by cases h; exact Nat.le_refl _⟩⟩
set_option maxRecDepth 100000 in
set_option maxHeartbeats 1600000 in
theorem form_21 (w : World) : Calls Tryz.prog 40 #[.int .u8 21] w fun e w' => FormPost 21 w e w' := by
  have HR := Lib.hid (SReads.built w (([.req, .num, .page, .bytes] : List Fld).map Fld.s) 9 (by decide))
  have HB := Lib.hid ((Below.refl w.heap.size w).alloc (Nat.le_refl _) (.cells ((([.req, .num, .page, .bytes] : List Fld).map Fld.s).map Value.string).toArray 9))
  go_enter Tryz.func40, Tryz.ntmps40
  go_wp2
  go_ret2
  exact ⟨HB.out, .inl ⟨[.req, .num, .page, .bytes], rfl, _, _, rfl, HR.out, by decide, fun b off h => by cases h; exact Nat.le_refl _⟩⟩
set_option maxRecDepth 100000 in
set_option maxHeartbeats 1600000 in
theorem form_22 (w : World) : Calls Tryz.prog 40 #[.int .u8 22] w fun e w' => FormPost 22 w e w' := by
  have HR := Lib.hid (SReads.built w (([.req, .num] : List Fld).map Fld.s) 9 (by decide))
  have HB := Lib.hid ((Below.refl w.heap.size w).alloc (Nat.le_refl _) (.cells ((([.req, .num] : List Fld).map Fld.s).map Value.string).toArray 9))
  go_enter Tryz.func40, Tryz.ntmps40
  go_wp2
  go_ret2
  exact ⟨HB.out, .inl ⟨[.req, .num], rfl, _, _, rfl, HR.out, by decide, fun b off h => by cases h; exact Nat.le_refl _⟩⟩
set_option maxRecDepth 100000 in
set_option maxHeartbeats 1600000 in
theorem form_23 (w : World) : Calls Tryz.prog 40 #[.int .u8 23] w fun e w' => FormPost 23 w e w' := by
  have HR := Lib.hid (SReads.built w (([.req, .num] : List Fld).map Fld.s) 9 (by decide))
  have HB := Lib.hid ((Below.refl w.heap.size w).alloc (Nat.le_refl _) (.cells ((([.req, .num] : List Fld).map Fld.s).map Value.string).toArray 9))
  go_enter Tryz.func40, Tryz.ntmps40
  go_wp2
  go_ret2
  exact ⟨HB.out, .inl ⟨[.req, .num], rfl, _, _, rfl, HR.out, by decide, fun b off h => by cases h; exact Nat.le_refl _⟩⟩
set_option maxRecDepth 100000 in
set_option maxHeartbeats 1600000 in
theorem form_24 (w : World) : Calls Tryz.prog 40 #[.int .u8 24] w fun e w' => FormPost 24 w e w' := by
  have HR := Lib.hid (SReads.built w (([.req, .code, .version, .num, .names, .items, .hits] : List Fld).map Fld.s) 9 (by decide))
  have HB := Lib.hid ((Below.refl w.heap.size w).alloc (Nat.le_refl _) (.cells ((([.req, .code, .version, .num, .names, .items, .hits] : List Fld).map Fld.s).map Value.string).toArray 9))
  go_enter Tryz.func40, Tryz.ntmps40
  go_wp2
  go_ret2
  exact ⟨HB.out, .inl ⟨[.req, .code, .version, .num, .names, .items, .hits], rfl, _, _, rfl, HR.out, by decide, fun b off h => by cases h; exact Nat.le_refl _⟩⟩
set_option maxRecDepth 100000 in
set_option maxHeartbeats 1600000 in
theorem form_out (k : Nat) (h : k = 0 ∨ 24 < k) (w : World) : Calls Tryz.prog 40 #[.int .u8 (k : Int)] w fun e w' => FormPost k w e w' := by
  have HN := Lib.hid (form_none k h)
  have h1 : ((k : Int) == 1) = false := by simp; omega
  have h2 : ((k : Int) == 2) = false := by simp; omega
  have h3 : ((k : Int) == 3) = false := by simp; omega
  have h4 : ((k : Int) == 4) = false := by simp; omega
  have h5 : ((k : Int) == 5) = false := by simp; omega
  have h6 : ((k : Int) == 6) = false := by simp; omega
  have h7 : ((k : Int) == 7) = false := by simp; omega
  have h8 : ((k : Int) == 8) = false := by simp; omega
  have h9 : ((k : Int) == 9) = false := by simp; omega
  have h10 : ((k : Int) == 10) = false := by simp; omega
  have h11 : ((k : Int) == 11) = false := by simp; omega
  have h12 : ((k : Int) == 12) = false := by simp; omega
  have h13 : ((k : Int) == 13) = false := by simp; omega
  have h14 : ((k : Int) == 14) = false := by simp; omega
  have h15 : ((k : Int) == 15) = false := by simp; omega
  have h16 : ((k : Int) == 16) = false := by simp; omega
  have h17 : ((k : Int) == 17) = false := by simp; omega
  have h18 : ((k : Int) == 18) = false := by simp; omega
  have h19 : ((k : Int) == 19) = false := by simp; omega
  have h20 : ((k : Int) == 20) = false := by simp; omega
  have h21 : ((k : Int) == 21) = false := by simp; omega
  have h22 : ((k : Int) == 22) = false := by simp; omega
  have h23 : ((k : Int) == 23) = false := by simp; omega
  have h24 : ((k : Int) == 24) = false := by simp; omega
  clear h
  go_enter Tryz.func40, Tryz.ntmps40
  go_wp2
  go_ret2
  exact ⟨Below.refl _ _, .inr ⟨HN.out, rfl⟩⟩
theorem form_any (k : Nat) (w : World) : Calls Tryz.prog 40 #[.int .u8 (k : Int)] w fun e w' => FormPost k w e w' := by
  by_cases h : k = 0 ∨ 24 < k
  · exact form_out k h w
  · have : k = 1 ∨ k = 2 ∨ k = 3 ∨ k = 4 ∨ k = 5 ∨ k = 6 ∨ k = 7 ∨ k = 8 ∨ k = 9 ∨ k = 10 ∨ k = 11 ∨ k = 12 ∨ k = 13 ∨ k = 14 ∨ k = 15 ∨ k = 16 ∨ k = 17 ∨ k = 18 ∨ k = 19 ∨ k = 20 ∨ k = 21 ∨ k = 22 ∨ k = 23 ∨ k = 24 := by omega
    rcases this with rfl | rfl | rfl | rfl | rfl | rfl | rfl | rfl | rfl | rfl | rfl | rfl | rfl | rfl | rfl | rfl | rfl | rfl | rfl | rfl | rfl | rfl | rfl | rfl
    · exact form_1 w
    · exact form_2 w
    · exact form_3 w
    · exact form_4 w
    · exact form_5 w
    · exact form_6 w
    · exact form_7 w
    · exact form_8 w
    · exact form_9 w
    · exact form_10 w
    · exact form_11 w
    · exact form_12 w
    · exact form_13 w
    · exact form_14 w
    · exact form_15 w
    · exact form_16 w
    · exact form_17 w
    · exact form_18 w
    · exact form_19 w
    · exact form_20 w
    · exact form_21 w
    · exact form_22 w
    · exact form_23 w
    · exact form_24 w
end Go.Proofs.YtemnmjfeljipjaaGreat
