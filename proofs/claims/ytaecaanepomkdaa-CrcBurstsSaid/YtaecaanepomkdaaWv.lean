/-
  A summer's calls, by walks over their texts.
-/
import Derived.Test.YtaecaanepomkdaaWu
namespace Go.Proofs.Ytaecaanepomkdaa
open Go.RowKit

/-- A summer lies in block g; t: whether its table was made. -/
def SumAt (w : World) (g : Nat) (t : Bool) : Prop := Blk w g 50 (if t then sumV 1 0 1 256 else sumV 0 0 0 0)

set_option maxRecDepth 100000 in
set_option maxHeartbeats 3200000 in
theorem new_any5 (w : World) :
    Calls Try.prog 10 #[] w fun e w' => e = .returned (.pointer (some ⟨w.heap.size, 0, none⟩)) ∧ SumAt w' w.heap.size false ∧ Below w.heap.size w w' := by
  obtain ⟨cs, hcs⟩ : ∃ cs, (sumV 0 0 0 0).toArray = cs := ⟨_, rfl⟩
  have hz : ∀ w, (zeroValue 50).run Try.prog w = .ok (.agg cs) w := by
    rw [← hcs]
    intro w
    kernel_rfl
  have HCS := Lib.hid hcs
  clear hcs
  go_enter Try.func10, Try.ntmps10
  go_wp2
  go_ret
  refine ⟨rfl, ?_, (Below.refl _ _).alloc (Nat.le_refl _) _⟩
  have := Blk.new w 50 cs
  rw [← HCS.out] at this ⊢
  exact this

theorem SumAt.lt {w : World} {g : Nat} {t : Bool} (h : SumAt w g t) : g < w.heap.size := Blk.lt h
theorem SumAt.kept {F : List Nat} {w w' : World} {g : Nat} {t : Bool} (h : SumAt w g t) (hk : Kept F w w') (hg : g ∉ F) : SumAt w' g t := hk.blk h hg
theorem SumAt.on {w w' : World} {g : Nat} {t : Bool} (h : SumAt w g t) (hb : Below w.heap.size w w') : SumAt w' g t := h.kept (F := []) (Kept.of_below hb (Nat.le_refl _)) (by simp)
theorem BReads.kept {F : List Nat} {w w' : World} {a : Option Addr} {n c : Nat} {bs : List Nat} (h : BReads w a n c bs) (hk : Kept F w w') (hF : 0 < n → ∀ ad, a = some ad → ad.block ∉ F) : BReads w' a n c bs := by
  refine ⟨h.len, h.small, h.byte, h.nilOk, h.room, ?_⟩
  rcases h.cells with h4 | ⟨b, off, ha, hlt, hc⟩
  · exact .inl h4
  · refine .inr ⟨b, off, ha, Nat.lt_of_lt_of_le hlt hk.size, fun i hi => ?_⟩
    have hb := hF (by omega) ⟨b, off, none⟩ ha
    rw [hk.cell (p := ⟨b, off + i, none⟩) hlt hb]
    exact hc i hi
theorem BReads.old {w : World} {a : Option Addr} {n c g : Nat} {bs : List Nat} (h : BReads w a n c bs) (hg : w.heap.size ≤ g) : 0 < n → ∀ ad, a = some ad → ad.block ≠ g := by
  intro h0 ad ha
  rcases h.cells with h4 | ⟨b, off, hb, hlt, _⟩
  · omega
  · rw [hb] at ha
    cases ha
    simp only
    omega
theorem Kept.same {F : List Nat} {w w1 w2 : World} (h : Kept F w w1) (k : Kept F w1 w2) : Kept F w w2 := h.trans k (Grows.refl _ _)

theorem fill_enter (args : Array Value) (w : World) : (callFunc 17 args).run Try.prog w = .ok (.enter 17 args) w := by
  simp [callFunc, Try.func17, Try.f17]

/-- The summer's Once: the table is made, once. -/
theorem do_sum (g : Nat) (t : Bool) (w : World) (h : SumAt w g t) :
    Calls Try.prog 16 #[.pointer (some ⟨g, 0, none⟩), .func (.func 17) #[.pointer (some ⟨g, 0, none⟩)] #[]] w fun e w' => e = .returned (.tuple #[]) ∧ SumAt w' g true ∧ Kept [g] w w' := by
  cases t
  · have hb : Blk w g 50 (sumV 0 0 0 0) := h
    have hb1 : Blk (w.setCell ⟨g, 1, none⟩ (.int .i32 1)) g 50 (sumV 0 1 0 0) := hb.set 1 (.int .i32 1)
    have k1 : Kept [g] w (w.setCell ⟨g, 1, none⟩ (.int .i32 1)) := (Kept.refl _ _).setCell _ _ (.inl (by simp))
    refine (s_do_first g 0 17 fill_enter #[.pointer (some ⟨g, 0, none⟩)] #[] #[.pointer (some ⟨g, 0, none⟩)] rfl
      (fun w' => Blk w' g 50 (sumV 0 1 1 256) ∧ Kept [g] (w.setCell ⟨g, 1, none⟩ (.int .i32 1)) w') w (hb.cell 0) (hb.cell 1) (hb.frozen 1) (fill_any g 0 1 _ hb1)
      (fun w2 h2 => ⟨⟨h2.1.cell 0, h2.1.cell 1⟩, h2.1.frozen 0, h2.1.frozen 1⟩)).mono ?_
    rintro e w' ⟨rfl, w2, ⟨hb2, k2⟩, rfl⟩
    refine ⟨rfl, ?_, ?_⟩
    · have := ((Blk.drew hb2).set 0 (.int .u32 1)).set 1 (.int .i32 0)
      exact this
    · exact (((k1.same k2).drew).setCell _ _ (.inl (by simp))).setCell _ _ (.inl (by simp))
  · have hb : Blk w g 50 (sumV 1 0 1 256) := h
    refine (s_do_done g 0 _ w (hb.cell 0)).mono ?_
    rintro e w' ⟨rfl, rfl⟩
    exact ⟨rfl, h, Kept.refl _ _⟩

theorem not_u32' (x : BitVec 32) : bits .xor .u32 IntKind.u32.max (x.toNat : Int) = ((~~~x).toNat : Int) := by
  have h := xor_u32 (BitVec.allOnes 32) x
  rw [show ((BitVec.allOnes 32).toNat : Int) = IntKind.u32.max by decide] at h
  rw [h, BitVec.allOnes_xor]

theorem idx_u32 (x : BitVec 32) (p : Nat) (hp : p < 256) : bits .xor .u8 ((x.toNat : Int) % 256) (p : Int) = (((x ^^^ BitVec.ofNat 32 p).toNat % 256 : Nat) : Int) := by
  have h := u8_xor_nat (x.toNat % 256) p (by omega) hp
  have e : ((x.toNat % 256 : Nat) : Int) = (x.toNat : Int) % 256 := by omega
  rw [e] at h
  rw [h, BitVec.toNat_xor, BitVec.toNat_ofNat, Nat.mod_eq_of_lt (show p < 2 ^ 32 by omega)]
  rw [show 256 = 2 ^ 8 by decide, Nat.xor_mod_two_pow, Nat.mod_eq_of_lt (show p < 2 ^ 8 by omega)]
theorem shr8_u32 (x : BitVec 32) : (x.toNat : Int) / (256 : Int) = ((x >>> 8).toNat : Int) := by
  rw [BitVec.toNat_ushiftRight, Nat.shiftRight_eq_div_pow]
  omega
theorem SumAt.word {w : World} {g : Nat} (h : SumAt w g true) (i : Nat) (hi : i < 256) : w.cell? ⟨g, 4 + i, none⟩ = some (wordV i) := by
  have hb : Blk w g 50 (sumV 1 0 1 256) := h
  rw [hb.cell (4 + i), sumV, List.getElem?_append_right (by simp)]
  simp [tabV, hi]

set_option maxRecDepth 100000 in
set_option maxHeartbeats 3200000 in
theorem more_any (g : Nat) (t : Bool) (x : BitVec 32) (a : Option Addr) (n c : Nat) (bs : List Nat) (w : World) (hs : SumAt w g t) (h : BReads w a n c bs) (hg : 0 < n → ∀ ad, a = some ad → ad.block ≠ g) :
    Calls Try.prog 13 #[.pointer (some ⟨g, 0, none⟩), .int .u32 (x.toNat : Int), .slice a n c] w fun e w' => e = .returned (.int .u32 ((crcMore x bs).toNat : Int)) ∧ SumAt w' g true ∧ Kept [g] w w' := by
  have HS := Lib.hid hs
  have HR := Lib.hid h
  have HG := Lib.hid hg
  have hsm := h.small
  clear hs h hg
  obtain ⟨m0, hm0⟩ : ∃ m0, x.toNat = m0 := ⟨_, rfl⟩
  obtain ⟨m1, hm1⟩ : ∃ m1, (~~~x).toNat = m1 := ⟨_, rfl⟩
  have hnot := not_u32' x
  rw [hm0, hm1] at hnot
  have HM1 := Lib.hid hm1
  rw [hm0]
  clear hm0 hm1
  go_enter Try.func13, Try.ntmps13
  go_wp2_with (fail)
  refine (do_sum g t w HS.out).mono ?_
  rintro e w1 ⟨rfl, hs1, hk1⟩
  have HS1 := Lib.hid hs1
  have HK1 := Lib.hid hk1
  have HR1 := Lib.hid (HR.out.kept hk1 (fun h0 ad ha => by have := HG.out h0 ad ha; simpa using this))
  clear hs1 hk1 HS
  go_wp2_with (fail)
  clear hnot
  have HL := Lib.hid HR1.out.len
  have HA := Lib.hid HR1.out.at_lt
  go_loop [7, 20] (fun s7 s20 => ∃ (k m : Nat) (z : BitVec 32), k ≤ n ∧ s20 = .int .i64 k ∧ s7 = .int .u32 m ∧ Hid (z.toNat = m) ∧ Hid (crcs (~~~ x) (bs.take k) = z)) (fun _ s20 => n - (intOf s20).toNat)
  case atStart => exact ⟨0, m1, _, Nat.zero_le _, rfl, rfl, HM1.out, by simp [Hid, crcs]⟩
  case round =>
    obtain ⟨k, m, z, hk, rfl, rfl, HZ, HE⟩ := hrel
    by_cases hc : k < n
    · rcases HR1.out.cells with h0 | ⟨b, off, rfl, hlt, hcl⟩
      · omega
      obtain ⟨p, hp⟩ : ∃ p, byteAt bs k = p := ⟨_, rfl⟩
      have hcell := hcl k hc
      have hp256 := HA.out k
      rw [hp] at hcell hp256
      obtain ⟨q, hq⟩ : ∃ q, (z ^^^ BitVec.ofNat 32 p).toNat % 256 = q := ⟨_, rfl⟩
      have hidx := idx_u32 z p hp256
      rw [HZ.out, hq] at hidx
      have hq256 : q < 256 := by omega
      obtain ⟨r, hr⟩ : ∃ r, (crcWord q).toNat = r := ⟨_, rfl⟩
      have hword := HS1.out.word q hq256
      rw [wordV, hr] at hword
      obtain ⟨u, hu⟩ : ∃ u, (z >>> 8).toNat = u := ⟨_, rfl⟩
      have hshr := shr8_u32 z
      rw [HZ.out, hu] at hshr
      obtain ⟨m2, hm2⟩ : ∃ m2, (stepB z p).toNat = m2 := ⟨_, rfl⟩
      have hxor : bits .xor .u32 (r : Int) (u : Int) = (m2 : Int) := by
        rw [← hr, ← hu, ← hm2, xor_u32, stepB_table z p hp256, hq]
      have HM2 := Lib.hid hm2
      have HT := Lib.hid (show crcs (~~~ x) (bs.take (k + 1)) = stepB z p from by
        rw [btake_at bs k (by rw [HL.out]; exact hc), crcs_snoc, HE.out, hp])
      have hglt := HS1.out.lt
      have hqi : (q : Int) < 256 := by omega
      clear hcl hp hq hr hu hm2
      go_wp2
      go_round
      case rel => exact ⟨k + 1, m2, stepB z p, by omega, by go_num, rfl, HM2.out, HT.out⟩
      case measure => simp [intOf]; omega
    · obtain ⟨m3, hm3⟩ : ∃ m3, (~~~z).toNat = m3 := ⟨_, rfl⟩
      have hn3 := not_u32' z
      rw [HZ.out, hm3] at hn3
      have HF := Lib.hid (show (crcMore x bs).toNat = m3 from by
        have e := HE.out
        rw [List.take_of_length_le (by rw [HL.out]; omega)] at e
        rw [crcMore, e, hm3])
      clear hm3
      go_wp2
      go_ret
      exact ⟨by rw [HF.out]; rfl, HS1.out, HK1.out⟩

theorem of_any (g : Nat) (t : Bool) (a : Option Addr) (n c : Nat) (bs : List Nat) (w : World) (hs : SumAt w g t) (h : BReads w a n c bs) (hg : 0 < n → ∀ ad, a = some ad → ad.block ≠ g) :
    Calls Try.prog 11 #[.pointer (some ⟨g, 0, none⟩), .slice a n c] w fun e w' => e = .returned (.int .u32 ((crcMore 0#32 bs).toNat : Int)) ∧ SumAt w' g true ∧ Kept [g] w w' := by
  have key := more_any g t 0#32 a n c bs w hs h hg
  obtain ⟨m, hm⟩ : ∃ m, (crcMore 0#32 bs).toNat = m := ⟨_, rfl⟩
  rw [hm] at key ⊢
  have HK := Lib.hid key
  clear key hm hs h hg
  go_enter Try.func11, Try.ntmps11
  go_wp2_with (fail)
  refine HK.out.mono ?_
  rintro e w1 ⟨rfl, hs1, hk1⟩
  have HS1 := Lib.hid hs1
  have HK1 := Lib.hid hk1
  clear hs1 hk1
  go_wp2
  go_ret
  exact ⟨rfl, HS1.out, HK1.out⟩

theorem made_any (g : Nat) (t : Bool) (w : World) (hs : SumAt w g t) :
    Calls Try.prog 15 #[.pointer (some ⟨g, 0, none⟩)] w fun e w' => e = .returned (.bool t) ∧ w = w' := by
  have hc : w.cell? ⟨g, 3, none⟩ = some (.int .u32 (if t then 1 else 0)) := by
    have hb : Blk w g 50 (if t then sumV 1 0 1 256 else sumV 0 0 0 0) := hs
    rw [hb.cell 3]
    cases t <;> rfl
  have hd : ((if t then 1 else 0 : Int) != 0) = t := by cases t <;> rfl
  have HC := Lib.hid hc
  have HD := Lib.hid hd
  clear hc hd hs
  go_enter Try.func15, Try.ntmps15
  go_wp2_with (fail)
  refine (s_load ⟨g, 3, none⟩ _ t w HC.out HD.out).mono ?_
  rintro e w' ⟨rfl, rfl⟩
  go_wp2
  go_ret
  exact ⟨rfl, rfl⟩
end Go.Proofs.Ytaecaanepomkdaa
