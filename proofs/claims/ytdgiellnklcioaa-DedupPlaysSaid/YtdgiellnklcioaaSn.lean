/-
  The document's Same of items and of lists of items and changes, by walks over their texts.
-/
import Derived.Test.YtdgiellnklcioaaSm
import Derived.Test.YtdgiellnklcioaaMp
import Derived.Deep.RegionHeld3
import Derived.StillTailTactics
namespace Go.Proofs.Ytdgiellnklcioaa
open Go.RowKit
theorem map_inj {α β : Type} {f : α → β} (hf : ∀ x y, f x = f y → x = y) : ∀ {l l' : List α}, l.map f = l'.map f → l = l'
  | [], [], _ => rfl
  | [], _ :: _, h => by simp at h
  | _ :: _, [], h => by simp at h
  | x :: l, y :: l', h => by
    simp only [List.map_cons, List.cons.injEq] at h
    rw [hf x y h.1, map_inj hf h.2]
theorem strB_inj {a b : ByteArray} (h : strB a = strB b) : a = b := by
  cases a with
  | mk a => cases b with
    | mk b =>
      simp only [strB] at h
      have : a.toList = b.toList := map_inj (fun x y hxy => UInt8.toNat_inj.1 hxy) h
      rw [Array.toList_inj.1 this]
theorem toTags_inj {a b : List ByteArray} (h : toTags a = toTags b) : a = b := map_inj (fun _ _ h => strB_inj h) h
theorem toItem_eq (id id' : Nat) (v v' : List Int) (t t' : List ByteArray) : (toItem ((id : Int), v, t, ()) = toItem ((id' : Int), v', t', ())) ↔ id = id' ∧ v = v' ∧ t = t' := by
  rw [toItem_id, toItem_id, ItemV.mk.injEq]
  exact ⟨fun h => ⟨h.1, h.2.1, toTags_inj h.2.2⟩, fun h => ⟨h.1, h.2.1, by rw [h.2.2]⟩⟩

set_option maxRecDepth 100000 in
set_option maxHeartbeats 3200000 in
theorem sameItem {ok ok' : Nat → Prop} (c0 c1 c2 d0 d1 d2 : Value) (x y : shItem.T) (w : World) (h : Rd ok w shItem [c0, c1, c2] x) (h' : Rd ok' w shItem [d0, d1, d2] y) :
    Calls Try.prog 37 #[.agg #[c0, c1, c2], .agg #[d0, d1, d2]] w fun e w' => Tells (toItem x = toItem y) w e w' := by
  obtain ⟨id, vec, tags, a, n, c, a', n', c', rfl, hcs, hid, rv, rt, lv, lt, nv, nt⟩ := rd_item h
  simp only [List.cons.injEq, and_true] at hcs
  obtain ⟨rfl, rfl, rfl⟩ := hcs
  obtain ⟨id2, vec2, tags2, b, m, k, b', m', k', rfl, hcs, hid2, rv2, rt2, lv2, lt2, nv2, nt2⟩ := rd_item h'
  simp only [List.cons.injEq, and_true] at hcs
  obtain ⟨rfl, rfl, rfl⟩ := hcs
  have HQ := Lib.hid (toItem_eq id id2 vec vec2 tags tags2)
  have RV := Lib.hid rv
  have RT := Lib.hid rt
  have RV2 := Lib.hid rv2
  have RT2 := Lib.hid rt2
  clear h h' rv rt rv2 rt2 lv lt lv2 lt2
  by_cases hi : id = id2
  · subst hi
    go_enter Try.func37, Try.ntmps37
    go_wp2_with (fail)
    obtain ⟨w1, hw1⟩ : ∃ w1, (w.alloc (.cells #[.int .u32 (id : Int), .slice a n c, .slice a' n' c'] 71)).alloc (.cells #[.int .u32 (id : Int), .slice b m k, .slice b' m' k'] 71) = w1 := ⟨_, rfl⟩
    have B1 := Lib.hid (show Below w.heap.size w w1 from by rw [← hw1]; exact ((Below.refl _ _).alloc (Nat.le_refl _) _).alloc (by simp) _)
    have X1 := Lib.hid (show Blk w1 w.heap.size 71 [.int .u32 (id : Int), .slice a n c, .slice a' n' c'] from by rw [← hw1]; exact (Blk.new w _ _).alloc _)
    have X2 := Lib.hid (show Blk w1 (w.heap.size + 1) 71 [.int .u32 (id : Int), .slice b m k, .slice b' m' k'] from by
      rw [← hw1]
      have := Blk.new (w.alloc (.cells #[.int .u32 (id : Int), .slice a n c, .slice a' n' c'] 71)) 71 #[.int .u32 (id : Int), .slice b m k, .slice b' m' k']
      rw [show (w.alloc (.cells #[.int .u32 (id : Int), .slice a n c, .slice a' n' c'] 71)).heap.size = w.heap.size + 1 by simp] at this
      exact this)
    rw [hw1]
    clear hw1
    refine (same01 a b n m c k vec vec2 w1 (RV.out.on B1.out) (RV2.out.on B1.out)).mono ?_
    rintro e w3 ⟨z, rfl, hz, hb⟩
    have hs : w1.heap.size ≤ w3.heap.size := hb.size
    have HZ := Lib.hid hz
    have B3 := Lib.hid (below_on B1.out hb)
    have k1 : w3.cell? ⟨w.heap.size, 2, none⟩ = some (.slice a' n' c') := (hb.cell (p := ⟨w.heap.size, 2, none⟩) X1.out.lt).trans (X1.out.cell 2)
    have k2 : w3.cell? ⟨w.heap.size + 1, 2, none⟩ = some (.slice b' m' k') := (hb.cell (p := ⟨w.heap.size + 1, 2, none⟩) X2.out.lt).trans (X2.out.cell 2)
    have hlt : w.heap.size + 1 < w3.heap.size := Nat.lt_of_lt_of_le X2.out.lt hs
    clear hz hb X1 X2
    cases z
    · have HN := Lib.hid (show ¬ toItem ((id : Int), vec, tags, ()) = toItem ((id : Int), vec2, tags2, ()) from fun h => by
        have := HZ.out.2 (HQ.out.1 h).2.1
        cases this)
      go_wp2
      go_ret
      exact tells_no HN.out B3.out
    · go_wp2_with (fail)
      refine (same03 a' b' n' m' c' k' tags tags2 w3 (RT.out.on B3.out) (RT2.out.on B3.out)).mono ?_
      rintro e w4 ⟨z, rfl, hz, hb⟩
      have HF := Lib.hid (show Tells (toItem ((id : Int), vec, tags, ()) = toItem ((id : Int), vec2, tags2, ())) w (.returned (.bool z)) w4 from
        ⟨z, rfl, hz.trans ⟨fun h => HQ.out.2 ⟨(by first | rfl | trivial), HZ.out.1 (by first | rfl | trivial), h⟩, fun h => (HQ.out.1 h).2.2⟩, below_on B3.out hb⟩)
      clear hz hb
      go_wp2
      go_ret
      exact HF.out
  · have HN := Lib.hid (show ¬ toItem ((id : Int), vec, tags, ()) = toItem ((id2 : Int), vec2, tags2, ()) from fun h => hi (HQ.out.1 h).1)
    have hne : ((id : Int) == (id2 : Int)) = false := by simp; omega
    have B1 := Lib.hid (((Below.refl w.heap.size w).alloc (Nat.le_refl _) (.cells #[.int .u32 (id : Int), .slice a n c, .slice a' n' c'] 71)).alloc (by simp) (.cells #[.int .u32 (id2 : Int), .slice b m k, .slice b' m' k'] 71))
    go_enter Try.func37, Try.ntmps37
    go_wp2
    go_ret
    exact tells_no HN.out B1.out

/-- What is read of an element of a list. -/
theorem rd_item_in {ok : Nat → Prop} {w : World} {a : Option Addr} {n c : Nat} {xs : List shItem.T} (h : Rd ok w shItems [.slice a n c] xs) (i : Nat) (hi : i < n) :
    ∃ (b off : Nat) (x : shItem.T) (c0 c1 c2 : Value), a = some ⟨b, off, none⟩ ∧ b < w.heap.size ∧ xs[i]? = some x ∧ Hid (Rd ok w shItem [c0, c1, c2] x) ∧ w.cell? ⟨b, off + i * 3, none⟩ = some c0 ∧ w.cell? ⟨b, off + i * 3 + 1, none⟩ = some c1 ∧ w.cell? ⟨b, off + i * 3 + 2, none⟩ = some c2 := by
  obtain ⟨b, off, x, vs, ha, _, hlt, hx, hl, hc, hr⟩ := Rd.elem (e := shItem) h i hi
  obtain ⟨_, _, _, _, _, _, _, _, _, _, hcs, _⟩ := rd_item hr
  subst hcs
  exact ⟨b, off, x, _, _, _, ha, hlt, hx, hr, hc 0 (by decide), hc 1 (by decide), hc 2 (by decide)⟩

set_option maxRecDepth 100000 in
set_option maxHeartbeats 3200000 in
theorem sameItems {ok ok' : Nat → Prop} (a a' : Option Addr) (n n' c c' : Nat) (xs ys : List shItem.T) (w : World) (h : Rd ok w shItems [.slice a n c] xs) (h' : Rd ok' w shItems [.slice a' n' c'] ys) :
    Calls Try.prog 26 #[.slice a n c, .slice a' n' c'] w fun e w' => Tells (xs.map toItem = ys.map toItem) w e w' := by
  have HX := Lib.hid h
  have HY := Lib.hid h'
  obtain ⟨_, _, _, hcs, HL, hsm, _⟩ := Rd.slice_is (e := shItem) h
  simp only [List.cons.injEq, Value.slice.injEq, and_true] at hcs
  obtain ⟨rfl, rfl, rfl⟩ := hcs
  obtain ⟨_, _, _, hcs, HL', hsm', _⟩ := Rd.slice_is (e := shItem) h'
  simp only [List.cons.injEq, Value.slice.injEq, and_true] at hcs
  obtain ⟨rfl, rfl, rfl⟩ := hcs
  replace HL : Hid (xs.length = n) := HL
  replace HL' : Hid (ys.length = n') := HL'
  clear h h'
  by_cases hnn : n = n'
  · subst hnn
    go_enter Try.func26, Try.ntmps26
    go_wp2
    go_loopw [5] (fun s5 wr => ∃ i : Nat, s5 = .int .i64 i ∧ i ≤ n ∧ Hid ((xs.map toItem).take i = (ys.map toItem).take i) ∧ Below w.heap.size w wr) (fun s5 _ => n - (intOf s5).toNat)
    case atStart => exact ⟨0, rfl, Nat.zero_le _, by simp [Hid], Below.refl _ _⟩
    case round =>
      obtain ⟨i, rfl, hi, HT, hB⟩ := hrel
      by_cases hc : i < n
      · have HX2 := HX.out.on hB
        have HY2 := HY.out.on hB
        have HB := Lib.hid hB
        clear hB
        obtain ⟨b, off, x, c0, c1, c2, rfl, hlt, hgx, RX, kx0, kx1, kx2⟩ := rd_item_in HX2 i hc
        obtain ⟨b', off', y, d0, d1, d2, rfl, hlt', hgy, RY, ky0, ky1, ky2⟩ := rd_item_in HY2 i hc
        have GX := Lib.hid (show (xs.map toItem)[i]? = some (toItem x) by rw [List.getElem?_map, hgx]; rfl)
        have GY := Lib.hid (show (ys.map toItem)[i]? = some (toItem y) by rw [List.getElem?_map, hgy]; rfl)
        clear HX2 HY2 hgx hgy
        go_wp2
        go_still_tail 8, (by kernel_rfl)
        change wpList _ _ _ _ _ wr.drew
        go_wp2_with (fail)
        refine (sameItem c0 c1 c2 d0 d1 d2 x y wr.drew RX.out.drew RY.out.drew).mono ?_
        rintro e w3 ⟨z, rfl, hz, hb⟩
        have HZ := Lib.hid hz
        have HB3 := Lib.hid (below_on HB.out.drew hb)
        clear hz hb HB kx0 kx1 kx2 ky0 ky1 ky2
        cases z
        · have HN := Lib.hid (show ¬ xs.map toItem = ys.map toItem from fun e => by
            have h1 := GX.out
            rw [e, GY.out] at h1
            have := HZ.out.2 (Option.some.inj h1).symm
            cases this)
          go_wp2
          go_ret
          exact tells_no HN.out HB3.out
        · have HT2 := Lib.hid (take_more GX.out GY.out HT.out (HZ.out.1 rfl))
          clear HT
          go_wp2
          go_roundw
          case rel => exact ⟨i + 1, by go_num, by omega, HT2.out, HB3.out⟩
          case measure => simp [intOf]; omega
      · have HEQ := Lib.hid (show xs.map toItem = ys.map toItem from by
          have := HT.out
          rwa [List.take_of_length_le (by rw [List.length_map, HL.out]; omega), List.take_of_length_le (by rw [List.length_map, HL'.out]; omega)] at this)
        have HB := Lib.hid hB
        clear hB HT
        go_wp2
        go_ret
        exact tells_yes HEQ.out HB.out
  · have HNE := Lib.hid (show xs.map toItem ≠ ys.map toItem from len_ne (n := n) (n' := n') (by rw [List.length_map]; exact HL) (by rw [List.length_map]; exact HL') hnn)
    go_enter Try.func26, Try.ntmps26
    go_wp2
    go_ret
    exact tells_no HNE.out (Below.refl _ _)
theorem rd_change_in {ok : Nat → Prop} {w : World} {a : Option Addr} {n c : Nat} {xs : List shChange.T} (h : Rd ok w shChanges [.slice a n c] xs) (i : Nat) (hi : i < n) :
    ∃ (b off : Nat) (x : shChange.T) (g : Bool) (y : shItem.T) (c0 c1 c2 : Value), a = some ⟨b, off, none⟩ ∧ b < w.heap.size ∧ xs[i]? = some x ∧ x = (g, y, ()) ∧ Hid (Rd ok w shItem [c0, c1, c2] y) ∧ w.cell? ⟨b, off + i * 4, none⟩ = some (.bool g) ∧ w.cell? ⟨b, off + i * 4 + 1, none⟩ = some c0 ∧
      w.cell? ⟨b, off + i * 4 + 2, none⟩ = some c1 ∧ w.cell? ⟨b, off + i * 4 + 3, none⟩ = some c2 := by
  obtain ⟨b, off, x, vs, ha, _, hlt, hx, hl, hc, hr⟩ := Rd.elem (e := shChange) h i hi
  obtain ⟨g, y, c0, c1, c2, hxe, hcs, hy⟩ := rd_change hr
  subst hcs
  exact ⟨b, off, x, g, y, c0, c1, c2, ha, hlt, hx, hxe, hy, hc 0 (by decide), hc 1 (by decide), hc 2 (by decide), hc 3 (by decide)⟩
end Go.Proofs.Ytdgiellnklcioaa
