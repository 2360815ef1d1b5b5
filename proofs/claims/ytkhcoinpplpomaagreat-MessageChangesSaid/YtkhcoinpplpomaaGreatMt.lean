/-
  The document's reader of bytes: one step behind the other, whatever the reader's state; items, by a walk over its text.
-/
import Derived.Test.YtkhcoinpplpomaaGreatMs
namespace Go.Proofs.YtkhcoinpplpomaaGreat
open Go.RowKit

/-- What is read: some thing, as V says it of the value, and the reader's next state. -/
def RdU {α : Type} (C : Cod α) (V : World → Value → α → Prop) (g : Nat) (s : List Nat ⊕ Nat) (w : World) (e : Ending) (w' : World) : Prop :=
  Kept [g] w w' ∧ ∃ v a st, e = .returned v ∧ V w' v a ∧ RState w' g st ∧ Step C s a st
theorem RdS.u {α : Type} {C : Cod α} {V : World → Value → α → Prop} {g : Nat} {s : List Nat ⊕ Nat} {w w' : World} {e : Ending} (h : RdS C V g s w e w') : RdU C V g s w e w' := by
  obtain ⟨hk, ⟨l, a, r, v, rfl, hd, he, hv, hr⟩ | ⟨k, z, a, hs, he, hv, hr⟩⟩ := h
  · exact ⟨hk, v, a, .inl r, he, hv, hr, hd⟩
  · refine ⟨hk, z, a, .inr k, he, hv, hr, ?_⟩
    rcases hs with rfl | ⟨l, rfl, hd⟩
    · rfl
    · exact hd
theorem RdPost.u {α : Type} {C : Cod α} {V V' : World → Value → α → Prop} {Z : Value → Prop} {g : Nat} {s : List Nat ⊕ Nat} {w w' : World} {e : Ending} (h : RdPost C V Z g s w e w') (z0 : α) (hz : ∀ v, Z v → V' w' v z0) (hv' : ∀ l v a r, s = .inl l → C.dec l = .inl (a, r) → V w' v a → V' w' v a) : RdU C V' g s w e w' := by
  obtain ⟨hk, ⟨l, a, r, v, rfl, hd, he, hv, hr⟩ | ⟨k, z, hs, he, hv, hr⟩⟩ := h
  · exact ⟨hk, v, a, .inl r, he, hv' l v a r rfl hd hv, hr, hd⟩
  · refine ⟨hk, z, z0, .inr k, he, hz z hv, hr, ?_⟩
    rcases hs with rfl | ⟨l, rfl, hd⟩
    · rfl
    · exact hd
theorem rnum_u (most g : Nat) (s : List Nat ⊕ Nat) (w : World) (h : RState w g s) (hm : most < 18446744073709551616) :
    Calls Tryz.prog 44 #[.pointer (some ⟨g, 0, none⟩), .int .u64 most] w fun e w' => RdU (cNum most hm) (IsNum most) g s w e w' :=
  (rnum_st most g s w h hm).mono fun _ _ hp => hp.u 0 (fun _ hv => ⟨hv, Nat.zero_le _⟩) (fun _ _ _ _ _ hd hv => ⟨hv, cNum_le hd⟩)
theorem rtext_u (g : Nat) (s : List Nat ⊕ Nat) (w : World) (h : RState w g s) :
    Calls Tryz.prog 112 #[.pointer (some ⟨g, 0, none⟩)] w fun e w' => RdU cStr IsTx g s w e w' := by
  refine (rtext_st g s w h).mono fun _ _ hp => hp.u [] (fun _ hv => ⟨⟨#[]⟩, hv, rfl, by decide⟩) ?_
  rintro l v a r rfl hd ⟨x, rfl, hx⟩
  refine ⟨x, rfl, hx, ?_⟩
  have h1 : a.length ≤ 4096 := (cStr.only l a r (RAt.byte h) hd).1.1.1
  have h2 := strB_len x
  rw [hx] at h2
  omega
theorem rwhole_u (low high : Int) (h0 : low ≤ 0) (h1 : 0 ≤ high) (g : Nat) (s : List Nat ⊕ Nat) (w : World) (h : RState w g s) :
    Calls Tryz.prog 111 #[.pointer (some ⟨g, 0, none⟩), .int .i64 low, .int .i64 high] w fun e w' => RdU (cInt low high) (IsInt low high) g s w e w' := by
  refine (rwhole_st low high g s w h).mono fun _ _ hp => hp.u 0 (fun _ hv => ⟨hv, h0, h1⟩) ?_
  rintro l v a r rfl hd hv
  exact ⟨hv, cInt_range (RAt.byte h) hd⟩

set_option maxRecDepth 100000 in
set_option maxHeartbeats 3200000 in
theorem ritem_u (g : Nat) (s : List Nat ⊕ Nat) (w : World) (h : RState w g s) (hgl : g < w.heap.size) :
    Calls Tryz.prog 45 #[.pointer (some ⟨g, 0, none⟩)] w fun e w' => RdU cItem (IsSt w.heap.size shItem toItem) g s w e w' := by
  have HS := Lib.hid h
  clear h
  obtain ⟨w1, hw1⟩ : ∃ w1, w.alloc (.cells #[.int .u32 0, .slice none 0 0, .slice none 0 0] 62) = w1 := ⟨_, rfl⟩
  have K1 := Lib.hid (show Kept [g] w w1 from by rw [← hw1]; exact (Kept.refl _ _).alloc _)
  have X1 := Lib.hid (show Blk w1 w.heap.size 62 [.int .u32 0, .slice none 0 0, .slice none 0 0] from by rw [← hw1]; exact Blk.new w _ _)
  have S1 := Lib.hid (show RState w1 g s from by rw [← hw1]; exact HS.out.kept (F := []) ((Kept.refl _ _).alloc _) (by simp))
  go_enter Tryz.func45, Tryz.ntmps45
  go_wp2_with (fail)
  try rw [hw1]
  clear hw1
  refine (rnum_u 4294967295 g s w1 S1.out (by decide)).mono ?_
  rintro e w2 ⟨hk2, v2, id, s2, rfl, ⟨rfl, hid⟩, hs2, st2⟩
  have hwid : IntKind.u32.wrap (id : Int) = (id : Int) := by rw [IntKind.wrap_u32]; omega
  have S2 := Lib.hid hs2
  have T2 := Lib.hid st2
  have K2 := Lib.hid (K1.out.trans hk2 (Grows.refl _ _))
  have X2 := Lib.hid (hk2.blk X1.out (by simp; omega))
  clear hk2 hs2 st2 S1
  go_wp2_with (fail)
  obtain ⟨w3, hw3⟩ : ∃ w3, w2.alloc (.cells #[.int .u32 (id : Int), .slice none 0 0, .slice none 0 0] 62) = w3 := ⟨_, rfl⟩
  have K3 := Lib.hid (show Kept [g] w w3 from by rw [← hw3]; exact K2.out.alloc _)
  have X3 := Lib.hid (show Blk w3 w.heap.size 62 [.int .u32 0, .slice none 0 0, .slice none 0 0] from by rw [← hw3]; exact X2.out.alloc _)
  have Y3 := Lib.hid (show Blk w3 w2.heap.size 62 [.int .u32 (id : Int), .slice none 0 0, .slice none 0 0] from by rw [← hw3]; exact Blk.new w2 _ _)
  have S3 := Lib.hid (show RState w3 g s2 from by rw [← hw3]; exact S2.out.kept (F := []) ((Kept.refl _ _).alloc _) (by simp))
  rw [hw3]
  clear hw3
  have hws : w.heap.size ≤ w2.heap.size := K2.out.size
  have hwlt := X2.out.lt
  clear S2 K2 X2
  refine (rvec_sh g s2 w3 S3.out (by have := K3.out.size; omega)).mono ?_
  rintro e w4 hu
  obtain ⟨hk4, v4, vec, s4, rfl, hv4, hs4, st4⟩ := hu.u
  obtain ⟨p, n, c, vec, rfl, rv, rfl⟩ := hv4.one
  have V4 := Lib.hid (show Rd (w3.heap.size ≤ ·) w4 shVec [.slice p n c] vec from rv)
  have S4 := Lib.hid hs4
  have T4 := Lib.hid st4
  have K4 := Lib.hid (K3.out.trans hk4 (Grows.refl _ _))
  have hk4s := hk4.size
  have X4 := Lib.hid (hk4.blk X3.out (by simp; omega))
  have Y4 := Lib.hid (hk4.blk Y3.out (by simp; omega))
  have y1 : w4.cell? ⟨w2.heap.size, 1, none⟩ = some (.slice none 0 0) := Y4.out.cell 1
  have f1 := Y4.out.frozen 1
  have l4 := Y4.out.lt
  have hw23 : w2.heap.size < w3.heap.size := Y3.out.lt
  clear hu hk4 hv4 rv hs4 st4 S3 K3 X3 Y3
  go_wp2_with (fail)
  obtain ⟨w5, hw5⟩ : ∃ w5, w4.setCell ⟨w2.heap.size, 1, none⟩ (.slice p n c) = w5 := ⟨_, rfl⟩
  have k45 : Kept [w2.heap.size] w4 w5 := by rw [← hw5]; exact (Kept.refl _ _).setCell _ _ (.inl (by simp))
  have K5 := Lib.hid (show Kept [g] w w5 from K4.out.trans k45 (fun k hk => .inr (by simp at hk; omega)))
  have X5 := Lib.hid (show Blk w5 w.heap.size 62 [.int .u32 0, .slice none 0 0, .slice none 0 0] from k45.blk X4.out (by simp; omega))
  have Y5 := Lib.hid (show Blk w5 w2.heap.size 62 [.int .u32 (id : Int), .slice p n c, .slice none 0 0] from by rw [← hw5]; exact Y4.out.set 1 (.slice p n c))
  have S5 := Lib.hid (S4.out.kept k45 (by simp; omega))
  have V5 := Lib.hid (V4.out.kept k45 (fun k hk ho => by simp at hk; omega))
  have h5s := k45.size
  try rw [hw5]
  clear hw5 k45 S4 V4 K4 X4 Y4 y1 f1 l4
  refine (rtexts_sh g s4 w5 S5.out (by omega)).mono ?_
  rintro e w6 hu
  obtain ⟨hk6, v6, tags, s6, rfl, hv6, hs6, st6⟩ := hu.u
  obtain ⟨p', n', c', tags, rfl, rt, rfl⟩ := hv6.one
  have V6 := Lib.hid (V5.out.kept hk6 (fun k hk ho => by simp at hk; omega))
  have W6 := Lib.hid (show Rd (w5.heap.size ≤ ·) w6 shTags [.slice p' n' c'] tags from rt)
  have S6 := Lib.hid hs6
  have T6 := Lib.hid st6
  have K6 := Lib.hid (K5.out.trans hk6 (Grows.refl _ _))
  have X6 := Lib.hid (hk6.blk X5.out (by simp; omega))
  have Y6 := Lib.hid (hk6.blk Y5.out (by simp; omega))
  have y0 : w6.cell? ⟨w2.heap.size, 0, none⟩ = some (.int .u32 (id : Int)) := Y6.out.cell 0
  have y1 : w6.cell? ⟨w2.heap.size, 1, none⟩ = some (.slice p n c) := Y6.out.cell 1
  have y2 : w6.cell? ⟨w2.heap.size, 2, none⟩ = some (.slice none 0 0) := Y6.out.cell 2
  have f2 := Y6.out.frozen 2
  have l6 := Y6.out.lt
  have x0 : w6.cell? ⟨w.heap.size, 0, none⟩ = some (.int .u32 0) := X6.out.cell 0
  have x1 : w6.cell? ⟨w.heap.size, 1, none⟩ = some (.slice none 0 0) := X6.out.cell 1
  have x2 : w6.cell? ⟨w.heap.size, 2, none⟩ = some (.slice none 0 0) := X6.out.cell 2
  have g0 := X6.out.frozen 0
  have g1 := X6.out.frozen 1
  have g2 := X6.out.frozen 2
  have lx := X6.out.lt
  have hne : w2.heap.size ≠ w.heap.size := by omega
  clear hu hk6 hv6 rt hs6 st6 S5 V5 K5 X5 Y5
  go_wp2_with (fail)
  obtain ⟨w7, hw7⟩ : ∃ w7, (((w6.setCell ⟨w2.heap.size, 2, none⟩ (.slice p' n' c')).setCell ⟨w.heap.size, 0, none⟩ (.int .u32 (id : Int))).setCell ⟨w.heap.size, 1, none⟩ (.slice p n c)).setCell ⟨w.heap.size, 2, none⟩ (.slice p' n' c') = w7 := ⟨_, rfl⟩
  have k67 : Kept [w2.heap.size, w.heap.size] w6 w7 := by
    rw [← hw7]
    exact ((((Kept.refl _ _).setCell _ _ (.inl (by simp))).setCell _ _ (.inl (by simp))).setCell _ _ (.inl (by simp))).setCell _ _ (.inl (by simp))
  have K7 := Lib.hid (show Kept [g] w w7 from K6.out.trans k67 (fun k hk => .inr (by simp at hk; omega)))
  have X7 := Lib.hid (show Blk w7 w.heap.size 62 [.int .u32 (id : Int), .slice p n c, .slice p' n' c'] from by
    rw [← hw7]
    exact (((X6.out.far (p := ⟨w2.heap.size, 2, none⟩) (fun h => hne h.symm) (.slice p' n' c')).set 0 (.int .u32 (id : Int))).set 1 (.slice p n c)).set 2 (.slice p' n' c'))
  have S7 := Lib.hid (S6.out.kept k67 (by simp; omega))
  have V7 := Lib.hid (V6.out.kept k67 (fun k hk ho => by simp at hk; omega))
  have W7 := Lib.hid (W6.out.kept k67 (fun k hk ho => by simp at hk; omega))
  have z0 : w7.cell? ⟨w.heap.size, 0, none⟩ = some (.int .u32 (id : Int)) := X7.out.cell 0
  have z1 : w7.cell? ⟨w.heap.size, 1, none⟩ = some (.slice p n c) := X7.out.cell 1
  have z2 : w7.cell? ⟨w.heap.size, 2, none⟩ = some (.slice p' n' c') := X7.out.cell 2
  have l7 := X7.out.lt
  rw [hw7]
  clear hw7 k67 S6 V6 W6 K6 X6 Y6 y0 y1 y2 f2 l6 x0 x1 x2 g0 g1 g2 lx
  have FIN := Lib.hid (show RdU cItem (IsSt w.heap.size shItem toItem) g s w (.returned (.agg #[.int .u32 (id : Int), .slice p n c, .slice p' n' c'])) w7 from
    ⟨K7.out, _, ⟨id, vec, toTags tags⟩, s6, rfl, ⟨[.int .u32 (id : Int), .slice p n c, .slice p' n' c'], ((id : Int), vec, tags, ()), rfl, item_mk hid (V7.out.mono (fun k hk _ => by omega)) (W7.out.mono (fun k hk _ => by omega)), rfl⟩, S7.out, Step.map (T2.out.pair (T4.out.pair T6.out))⟩)
  refine bodyPost_ret (v := .agg #[.int .u32 (id : Int), .slice p n c, .slice p' n' c']) (by simp [results, Tryz.results45, go_sem, z0, z1, z2]) rfl ?_
  exact FIN.out
end Go.Proofs.YtkhcoinpplpomaaGreat
