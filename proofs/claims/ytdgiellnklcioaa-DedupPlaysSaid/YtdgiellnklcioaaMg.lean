/-
  Messages as shapes of plain data, and as the mathematics' messages. No program stands here.
-/
import Derived.Test.YtdgiellnklcioaaSi
import Derived.Test.YtdgiellnklcioaaMl
namespace Go.Proofs.Ytdgiellnklcioaa
open Go.RowKit
def shVec : Sh := .slice (.int .i32) 4
def shTags : Sh := .slice .str 16
def shItem : Sh := st [.int .u32, shVec, shTags]
def shChange : Sh := st [.bool, shItem]
def shHit : Sh := st [.int .i64, .int .u32]
def shFilter : Sh := st [shTags, shTags, shTags]
def shConf : Sh := st [.str, .int .u8, .int .u8, .bool, .int .u8, .int .u16]
def shChanges : Sh := .slice shChange 64
def shItems : Sh := .slice shItem 56
def shHits : Sh := .slice shHit 16
def shMsg : Sh := st [.int .u8, .int .u32, .int .u32, .int .u64, .int .u8, .int .u32, .str, shConf, shChanges, .int .u32, shVec, .int .u16, .int .u16, shFilter, .int .u32, .int .u32, .slice (.int .u8) 1, .int .u64, shTags, shItems, shHits]

/-- The same as mathematics' things. -/
def toTags (l : List ByteArray) : List (List Nat) := l.map strB
def toItem : shItem.T → ItemV := fun (x : Int × List Int × List ByteArray × Unit) => ⟨x.1.toNat, x.2.1, toTags x.2.2.1⟩
def toChange : shChange.T → ChangeV := fun (x : Bool × shItem.T × Unit) => ⟨x.1, toItem x.2.1⟩
def toHit : shHit.T → HitV := fun (x : Int × Int × Unit) => ⟨x.1, x.2.1.toNat⟩
def toFilter : shFilter.T → FilterV := fun (x : List ByteArray × List ByteArray × List ByteArray × Unit) => ⟨toTags x.1, toTags x.2.1, toTags x.2.2.1⟩
def toConf : shConf.T → ConfV := fun (x : ByteArray × Int × Int × Bool × Int × Int × Unit) => ⟨strB x.1, x.2.1.toNat, x.2.2.1.toNat, x.2.2.2.1, x.2.2.2.2.1.toNat, x.2.2.2.2.2.1.toNat⟩

section
variable {ok : Nat → Prop} {w : World}
theorem rd_item {cs : List Value} {x : shItem.T} (h : Rd ok w shItem cs x) :
    ∃ (id : Nat) (vec : List Int) (tags : List ByteArray) (a : Option Addr) (n c : Nat) (a' : Option Addr) (n' c' : Nat), x = ((id : Int), vec, tags, ()) ∧ cs = [.int .u32 (id : Int), .slice a n c, .slice a' n' c'] ∧ id ≤ 4294967295 ∧
      Rd ok w shVec [.slice a n c] vec ∧ Rd ok w shTags [.slice a' n' c'] tags ∧ Hid (vec.length = n) ∧ Hid (tags.length = n') ∧ n ≤ 140737488351232 ∧ n' ≤ 140737488351232 := by
  obtain ⟨i, vec, tags, u⟩ := x
  obtain ⟨c1, c2, rfl, h1, h2⟩ := Rd.pair_is h
  obtain ⟨c3, c4, rfl, h3, h4⟩ := Rd.pair_is h2
  obtain ⟨c5, c6, rfl, h5, h6⟩ := Rd.pair_is h4
  obtain ⟨rfl, hw⟩ := Rd.int_is h1
  obtain ⟨a, n, c, rfl, e1, l1, r1⟩ := Rd.slice_is (e := .int .i32) (xs := vec) h3
  obtain ⟨a', n', c', rfl, e2, l2, r2⟩ := Rd.slice_is (e := .str) (xs := tags) h5
  obtain rfl := Rd.unit_is h6
  obtain ⟨k, hk⟩ := Int.eq_ofNat_of_zero_le (u32_wf hw).1
  have hk2 := (u32_wf hw).2
  simp only at hk hk2
  subst hk
  exact ⟨k, vec, tags, a, n, c, a', n', c', rfl, rfl, by omega, r1, r2, e1, e2, l1, l2⟩
theorem rd_change {cs : List Value} {x : shChange.T} (h : Rd ok w shChange cs x) :
    ∃ (g : Bool) (y : shItem.T) (c0 c1 c2 : Value), x = (g, y, ()) ∧ cs = [.bool g, c0, c1, c2] ∧ Rd ok w shItem [c0, c1, c2] y := by
  obtain ⟨g, y, u⟩ := x
  obtain ⟨c1, c2, rfl, h1, h2⟩ := Rd.pair_is h
  obtain ⟨c3, c4, rfl, h3, h4⟩ := Rd.pair_is h2
  obtain rfl := Rd.bool_is h1
  obtain rfl := Rd.unit_is h4
  obtain ⟨id, vec, tags, a, n, c, a', n', c', _, hcs, _⟩ := rd_item h3
  subst hcs
  exact ⟨g, y, _, _, _, rfl, rfl, h3⟩
theorem rd_hit {cs : List Value} {x : shHit.T} (h : Rd ok w shHit cs x) :
    ∃ (d : Int) (id : Nat), x = (d, (id : Int), ()) ∧ cs = [.int .i64 d, .int .u32 (id : Int)] ∧ id ≤ 4294967295 ∧ -9223372036854775808 ≤ d ∧ d ≤ 9223372036854775807 := by
  obtain ⟨d, i, u⟩ := x
  obtain ⟨c1, c2, rfl, h1, h2⟩ := Rd.pair_is h
  obtain ⟨c3, c4, rfl, h3, h4⟩ := Rd.pair_is h2
  obtain ⟨rfl, hd⟩ := Rd.int_is h1
  obtain ⟨rfl, hw⟩ := Rd.int_is h3
  obtain rfl := Rd.unit_is h4
  obtain ⟨k, hk⟩ := Int.eq_ofNat_of_zero_le (u32_wf hw).1
  have hk2 := (u32_wf hw).2
  have hd2 := i64_wf hd
  simp only at hk hk2 hd2
  subst hk
  exact ⟨d, k, rfl, rfl, by omega, hd2.1, hd2.2⟩
end

theorem cItem_fits (x : ItemV) : cItem.fits x ↔ x.id ≤ 4294967295 ∧ cVec.fits x.vec ∧ cStrs.fits x.tags := by
  show ((x.id ≤ 4294967295 ∧ cVec.fits x.vec ∧ cStrs.fits x.tags) ∧ x = x) ↔ _
  exact ⟨fun h => h.1, fun h => ⟨h, rfl⟩⟩
theorem cItem_enc (x : ItemV) : cItem.enc x = vput x.id ++ (cVec.enc x.vec ++ cStrs.enc x.tags) := rfl
theorem cVec_len (v : List Int) (h : cVec.fits v) : (cVec.enc v).length ≤ 2000 := by
  obtain ⟨h1, h2⟩ := (show v.length ≤ 128 ∧ ∀ a ∈ v, (cInt (-2147483648) 2147483647).fits a from ⟨h.1.1, h.1.2.2⟩)
  have e : cVec.enc v = vput v.length ++ encN (cInt (-2147483648) 2147483647) v := rfl
  have l1 := vput_len10 (n := v.length) (by omega)
  have l2 : (encN (cInt (-2147483648) 2147483647) v).length ≤ v.length * 10 := by
    have : ∀ l : List Int, (∀ a ∈ l, (cInt (-2147483648) 2147483647).fits a) → (encN (cInt (-2147483648) 2147483647) l).length ≤ l.length * 10 := by
      intro l
      induction l with
      | nil => simp [encN]
      | cons a l ih =>
        intro hl
        have e : encN (cInt (-2147483648) 2147483647) (a :: l) = (cInt (-2147483648) 2147483647).enc a ++ encN (cInt (-2147483648) 2147483647) l := by simp [encN]
        have h1 : vfold a ≤ 18446744073709551615 := (hl a (by simp)).1.1
        have h2 : ((cInt (-2147483648) 2147483647).enc a).length ≤ 10 := vput_len10 (by omega)
        have h3 := ih fun b hb => hl b (by simp [hb])
        rw [e, List.length_append, List.length_cons]
        omega
    exact this v h2
  rw [e, List.length_append]
  omega
end Go.Proofs.Ytdgiellnklcioaa
