/-
  CRC-32: its mathematics, sync's parts and Once, the document's sums, the program's summer, by walks over their texts.
-/
import Derived.Test.YtemnmjfeljipjaaGreatSl
import Derived.Test.YtemnmjfeljipjaaGreatRows
import Derived.Test.YtemnmjfeljipjaaGreatVs
import Derived.Defers
import Derived.Laws.Pointers
import Derived.Laws.LoneSync
import Derived.RegionTactic
import Derived.RegionCalls
import Derived.Laws.NewBlocks
import Derived.Laws.BitsAllLaws
import Derived.Deep.QuietTactic
import Derived.BigRegion
import Derived.Deep.RegionWith
import Derived.StillTailTactics
namespace Go.Proofs.YtemnmjfeljipjaaGreat
open Go.RowKit

/-- The word that is laid over where a bit falls out. -/
def crcP : BitVec 32 := 0xEDB88320#32
/-- A word halved. -/
def half (c : BitVec 32) : BitVec 32 := if c.getLsbD 0 then (c >>> 1) ^^^ crcP else c >>> 1
/-- A word halved n times. -/
def halves : Nat → BitVec 32 → BitVec 32
  | 0, c => c
  | n + 1, c => halves n (half c)

theorem half_xor (a b : BitVec 32) : half (a ^^^ b) = half a ^^^ half b := by
  unfold half
  rw [BitVec.getLsbD_xor, BitVec.ushiftRight_xor_distrib]
  generalize a >>> 1 = x
  generalize b >>> 1 = y
  cases a.getLsbD 0 <;> cases b.getLsbD 0 <;> simp
  · rw [BitVec.xor_assoc]
  · rw [BitVec.xor_assoc, BitVec.xor_assoc, BitVec.xor_comm crcP y]
  · rw [BitVec.xor_assoc, ← BitVec.xor_assoc crcP y, BitVec.xor_comm crcP y, BitVec.xor_assoc y, BitVec.xor_self, BitVec.xor_zero]
theorem half_zero : half 0#32 = 0#32 := by decide
theorem half_ne {c : BitVec 32} (h : c ≠ 0#32) : half c ≠ 0#32 := by
  intro e
  unfold half at e
  have h0 : (c >>> 1).getLsbD 31 = false := by simp
  cases hb : c.getLsbD 0
  · rw [hb] at e
    simp only [Bool.false_eq_true, if_false] at e
    apply h
    apply BitVec.eq_of_getLsbD_eq
    intro i hi
    rw [BitVec.getLsbD_zero]
    cases i with
    | zero => exact hb
    | succ i =>
      have := congrArg (fun x => BitVec.getLsbD x i) e
      simpa [Nat.add_comm] using this
  · rw [hb] at e
    simp only [if_true] at e
    have := congrArg (fun x => BitVec.getLsbD x 31) e
    simp only [BitVec.getLsbD_xor, h0, BitVec.getLsbD_zero] at this
    exact absurd this (by decide)
theorem halves_xor (n : Nat) (a b : BitVec 32) : halves n (a ^^^ b) = halves n a ^^^ halves n b := by
  induction n generalizing a b with
  | zero => rfl
  | succ n ih => simp only [halves, half_xor, ih]
theorem halves_ne (n : Nat) {c : BitVec 32} (h : c ≠ 0#32) : halves n c ≠ 0#32 := by
  induction n generalizing c with
  | zero => exact h
  | succ n ih => exact ih (half_ne h)
theorem halves_zero (n : Nat) : halves n 0#32 = 0#32 := by
  induction n with
  | zero => rfl
  | succ n ih => simp only [halves, half_zero, ih]
theorem halves_add (m n : Nat) (c : BitVec 32) : halves (m + n) c = halves n (halves m c) := by
  induction m generalizing c with
  | zero => simp [halves]
  | succ m ih => rw [Nat.succ_add]; simp only [halves, ih]
theorem halves_succ' (n : Nat) (c : BitVec 32) : halves (n + 1) c = half (halves n c) := halves_add n 1 c

/-- The bit i alone. -/
def bitAt (i : Nat) : BitVec 32 := 1#32 <<< i
theorem bitAt_nat (i : Nat) (h : i < 32) : (bitAt i).toNat = 2 ^ i := by
  have : 2 ^ i < 2 ^ 32 := Nat.pow_lt_pow_right (by decide) h
  simp only [bitAt, BitVec.toNat_shiftLeft, BitVec.toNat_ofNat, Nat.shiftLeft_eq]
  have h1 : 1 % 2 ^ 32 = 1 := by decide
  rw [h1, Nat.one_mul, Nat.mod_eq_of_lt this]
theorem half_bit (i : Nat) (h : i + 1 < 32) : half (bitAt (i + 1)) = bitAt i := by
  have hz : (bitAt (i + 1)).getLsbD 0 = false := by simp [bitAt]
  rw [half, hz]
  simp only [Bool.false_eq_true, if_false]
  apply BitVec.eq_of_toNat_eq
  rw [BitVec.toNat_ushiftRight, bitAt_nat _ h, bitAt_nat _ (by omega), Nat.shiftRight_eq_div_pow, Nat.pow_succ]
  omega
theorem halves_bit (i : Nat) (hi : i < 32) (n : Nat) (h : i ≤ n) : halves n (bitAt i) = halves (n - i) (bitAt 0) := by
  induction i generalizing n with
  | zero => simp
  | succ i ih =>
    obtain ⟨m, rfl⟩ : ∃ m, n = m + 1 := ⟨n - 1, by omega⟩
    rw [halves, half_bit i hi, ih (by omega) m (by omega)]
    congr 1
    omega
theorem bitAt_ne (i : Nat) (h : i < 32) : bitAt i ≠ 0#32 := by
  intro e
  have := congrArg (fun x => BitVec.getLsbD x i) e
  simp [bitAt, h] at this

/-- A byte goes in. -/
def stepB (c : BitVec 32) (b : Nat) : BitVec 32 := halves 8 (c ^^^ BitVec.ofNat 32 b)
/-- Bytes go in, one behind the other. -/
def crcs (c : BitVec 32) (l : List Nat) : BitVec 32 := l.foldl stepB c
/-- The sum of the bytes whose sum is c, and l behind them. -/
def crcMore (c : BitVec 32) (l : List Nat) : BitVec 32 := ~~~ (crcs (~~~ c) l)

theorem crcs_app (c : BitVec 32) (l m : List Nat) : crcs c (l ++ m) = crcs (crcs c l) m := by simp [crcs]
theorem crcs_snoc (c : BitVec 32) (l : List Nat) (b : Nat) : crcs c (l ++ [b]) = stepB (crcs c l) b := by simp [crcs]
theorem crcMore_more (l m : List Nat) (c : BitVec 32) : crcMore (crcMore c l) m = crcMore c (l ++ m) := by
  simp [crcMore, crcs_app]
theorem stepB_xor (a c : BitVec 32) (b : Nat) : stepB (a ^^^ c) b = stepB a b ^^^ halves 8 c := by
  unfold stepB
  rw [← halves_xor]
  congr 1
  rw [BitVec.xor_assoc, BitVec.xor_comm c, ← BitVec.xor_assoc]
theorem crcs_xor (a c : BitVec 32) (l : List Nat) : crcs (a ^^^ c) l = crcs a l ^^^ halves (8 * l.length) c := by
  induction l generalizing a c with
  | nil => simp [crcs, halves]
  | cons b l ih =>
    show crcs (stepB (a ^^^ c) b) l = crcs (stepB a b) l ^^^ halves (8 * (l.length + 1)) c
    rw [stepB_xor, ih, Nat.mul_add, Nat.add_comm (8 * l.length), halves_add]
/-- A byte of a list turned by d. -/
theorem crcs_turn (s : BitVec 32) (l : List Nat) (j d : Nat) (hj : j < l.length) :
    crcs s (l.set j (l[j] ^^^ d)) = crcs s l ^^^ halves (8 * (l.length - j)) (BitVec.ofNat 32 d) := by
  induction l generalizing s j with
  | nil => simp at hj
  | cons b l ih =>
    cases j with
    | zero =>
      show crcs (stepB s (b ^^^ d)) l = crcs (stepB s b) l ^^^ halves (8 * (l.length + 1)) (BitVec.ofNat 32 d)
      have e : stepB s (b ^^^ d) = stepB s b ^^^ halves 8 (BitVec.ofNat 32 d) := by
        unfold stepB
        rw [← halves_xor, BitVec.ofNat_xor, BitVec.xor_assoc]
      rw [e, crcs_xor, Nat.mul_add, Nat.add_comm (8 * l.length), halves_add]
    | succ j =>
      have := ih (stepB s b) j (by simpa using hj)
      simpa [crcs] using this

/-- The sums of bytes of which one differs are unlike. -/
theorem crc_byte (l : List Nat) (j d : Nat) (hj : j < l.length) (hd : d < 256) (h0 : d ≠ 0) : crcMore 0#32 (l.set j (l[j] ^^^ d)) ≠ crcMore 0#32 l := by
  intro e
  have e1 : crcs (~~~ 0#32) (l.set j (l[j] ^^^ d)) = crcs (~~~ 0#32) l := by
    have := congrArg (fun x => ~~~ x) e
    simpa [crcMore] using this
  rw [crcs_turn _ _ _ _ hj] at e1
  have e2 : halves (8 * (l.length - j)) (BitVec.ofNat 32 d) = 0#32 := by
    have := congrArg (fun x => crcs (~~~ 0#32) l ^^^ x) e1
    simpa [← BitVec.xor_assoc] using this
  refine halves_ne _ ?_ e2
  intro h
  have := congrArg BitVec.toNat h
  simp at this
  omega

/-- The word i of the table, and how it serves. -/
def crcWord (i : Nat) : BitVec 32 := halves 8 (BitVec.ofNat 32 i)
theorem half_even {c : BitVec 32} (h : c.getLsbD 0 = false) : half c = c >>> 1 := by
  rw [half, h]
  simp only [Bool.false_eq_true, if_false]
theorem halves_high (n : Nat) (hn : n ≤ 32) (c : BitVec 32) (h : ∀ i, i < n → c.getLsbD i = false) : halves n c = c >>> n := by
  induction n generalizing c with
  | zero => simp [halves]
  | succ n ih =>
    rw [halves, half_even (h 0 (by omega)), ih (by omega) _ (fun i hi => by
      have := h (i + 1) (by omega)
      simpa [Nat.add_comm] using this), ← BitVec.shiftRight_add]
    congr 1
    omega
theorem stepB_table (c : BitVec 32) (b : Nat) (hb : b < 256) : stepB c b = crcWord ((c ^^^ BitVec.ofNat 32 b).toNat % 256) ^^^ (c >>> 8) := by
  have hlow : ∀ x : BitVec 32, x = BitVec.ofNat 32 (x.toNat % 256) ^^^ ((x >>> 8) <<< 8) := by
    intro x
    apply BitVec.eq_of_getLsbD_eq
    intro i hi
    have h256 : (x.toNat % 256).testBit i = (decide (i < 8) && x.toNat.testBit i) := by
      rw [show 256 = 2 ^ 8 by decide, Nat.testBit_mod_two_pow]
    simp only [BitVec.getLsbD_xor, BitVec.getLsbD_ofNat, h256, BitVec.getLsbD_shiftLeft, BitVec.getLsbD_ushiftRight]
    rw [← BitVec.testBit_toNat]
    by_cases h8 : i < 8
    · simp [h8, hi]
    · simp [h8, hi, show 8 + (i - 8) = i by omega, BitVec.testBit_toNat]
  have hshift : (c ^^^ BitVec.ofNat 32 b) >>> 8 = c >>> 8 := by
    rw [BitVec.ushiftRight_xor_distrib]
    have : BitVec.ofNat 32 b >>> 8 = 0#32 := by
      apply BitVec.eq_of_toNat_eq
      simp [Nat.shiftRight_eq_div_pow]
      omega
    rw [this, BitVec.xor_zero]
  unfold stepB crcWord
  conv => lhs; rw [hlow (c ^^^ BitVec.ofNat 32 b)]
  rw [halves_xor, halves_high 8 (by decide) (((c ^^^ BitVec.ofNat 32 b) >>> 8) <<< 8) (fun i hi => by simp [hi]), hshift]
  congr 1
  apply BitVec.eq_of_getLsbD_eq
  intro i hi
  simp
  intro hg
  rcases Nat.lt_or_ge (8 + i) 32 with h1 | h1
  · exact h1
  · rw [BitVec.getLsbD_of_ge _ _ h1] at hg
    cases hg

/-- What was turned of l from a bit on, i bits gone by: l' is what has become of it, t tells whether anything was. -/
def Turned (l : List Nat) (at_ i : Nat) (l' : List Nat) (t : Bool) : Prop :=
  l'.length = l.length ∧ (∀ b ∈ l', b < 256) ∧ ∃ W : BitVec 32, (∀ s, crcs s l' = crcs s l ^^^ halves (8 * l.length - at_) W) ∧ (∀ j, i ≤ j → W.getLsbD j = false) ∧ (t = true ↔ W ≠ 0#32)
theorem Turned.start (l : List Nat) (at_ : Nat) (hb : ∀ b ∈ l, b < 256) : Turned l at_ 0 l false :=
  ⟨rfl, hb, 0#32, fun s => by rw [halves_zero, BitVec.xor_zero], fun j _ => by simp, by simp⟩
theorem Turned.next {l l' : List Nat} {at_ i : Nat} {t : Bool} (h : Turned l at_ i l' t) : Turned l at_ (i + 1) l' t := by
  obtain ⟨h1, h2, W, h3, h4, h5⟩ := h
  exact ⟨h1, h2, W, h3, fun j hj => h4 j (by omega), h5⟩
theorem Turned.turn {l l' : List Nat} {at_ i : Nat} {t : Bool} (h : Turned l at_ i l' t) (hi : i < 32) (hk : at_ + i < 8 * l.length) (p : Nat) (hp : l'.getD ((at_ + i) / 8) 0 = p) :
    Turned l at_ (i + 1) (l'.set ((at_ + i) / 8) (p ^^^ 2 ^ ((at_ + i) % 8))) true := by
  obtain ⟨h1, h2, W, h3, h4, h5⟩ := h
  have hj : (at_ + i) / 8 < l'.length := by omega
  have hp' : l'[(at_ + i) / 8] = p := by rw [← hp]; simp [List.getD, hj]
  have hpb : p < 256 := by rw [← hp']; exact h2 _ (List.getElem_mem hj)
  have hm : (at_ + i) % 8 < 8 := Nat.mod_lt _ (by decide)
  have hpow : 2 ^ ((at_ + i) % 8) < 256 := Nat.pow_lt_pow_right (a := 2) (by decide) hm
  refine ⟨by simp [h1], fun b hb => ?_, W ^^^ bitAt i, fun s => ?_, fun j hj => ?_, ?_⟩
  · rcases List.mem_or_eq_of_mem_set hb with hb | hb
    · exact h2 b hb
    · rw [hb]
      exact Nat.xor_lt_two_pow (n := 8) hpb hpow
  · have e := crcs_turn s l' ((at_ + i) / 8) (2 ^ ((at_ + i) % 8)) hj
    rw [hp'] at e
    rw [e, h3 s, halves_xor, BitVec.xor_assoc]
    congr 2
    have hbit : BitVec.ofNat 32 (2 ^ ((at_ + i) % 8)) = bitAt ((at_ + i) % 8) := by
      apply BitVec.eq_of_toNat_eq
      rw [bitAt_nat _ (by omega), BitVec.toNat_ofNat, Nat.mod_eq_of_lt (by omega)]
    rw [hbit, halves_bit _ (by omega) _ (by omega), halves_bit i hi _ (by omega)]
    congr 1
    omega
  · rw [BitVec.getLsbD_xor, h4 j (by omega)]
    have hne : j ≠ i := by omega
    rw [← BitVec.testBit_toNat, bitAt_nat i hi, Nat.testBit_two_pow]
    simp
    omega
  · simp only [true_iff]
    intro e
    have := congrArg (fun x => BitVec.getLsbD x i) e
    simp only [BitVec.getLsbD_xor, h4 i (Nat.le_refl _), BitVec.getLsbD_zero] at this
    rw [← BitVec.testBit_toNat, bitAt_nat i hi, Nat.testBit_two_pow] at this
    simp at this
/-- What is turned is seen. -/
theorem Turned.seen {l l' : List Nat} {at_ i : Nat} {t : Bool} (h : Turned l at_ i l' t) : (crcMore 0#32 l ≠ crcMore 0#32 l') ↔ t = true := by
  obtain ⟨h1, h2, W, h3, h4, h5⟩ := h
  rw [h5]
  have e : crcMore 0#32 l = crcMore 0#32 l' ↔ halves (8 * l.length - at_) W = 0#32 := by
    constructor
    · intro e
      have e1 : crcs (~~~ 0#32) l = crcs (~~~ 0#32) l' := by
        have := congrArg (fun x => ~~~ x) e
        simpa [crcMore] using this
      rw [h3] at e1
      have := congrArg (fun x => crcs (~~~ 0#32) l ^^^ x) e1
      simpa [← BitVec.xor_assoc] using this.symm
    · intro e
      simp [crcMore, h3, e]
  constructor
  · intro hne hw
    apply hne
    rw [e, hw, halves_zero]
  · intro hw hne
    exact halves_ne _ hw (e.1 hne)

theorem s_disable (w : World) : (callFunc 162 #[]).run Tryz.prog w = .ok (.value (.tuple #[])) w := run_call_mark0 Tryz.func162 (by kernel_rfl) (by kernel_rfl) (by kernel_rfl) .disable (by kernel_rfl) w
theorem s_enable (w : World) : (callFunc 164 #[]).run Tryz.prog w = .ok (.value (.tuple #[])) w := run_call_mark0 Tryz.func164 (by kernel_rfl) (by kernel_rfl) (by kernel_rfl) .enable (by kernel_rfl) w
theorem s_acquire (a : Addr) (w : World) : (callFunc 165 #[.pointer (some a)]).run Tryz.prog w = .ok (.value (.tuple #[])) w := run_call_marked Tryz.func165 (by kernel_rfl) (by kernel_rfl) (by kernel_rfl) .acquire (by kernel_rfl) a w
theorem s_releaseMerge (a : Addr) (w : World) : (callFunc 167 #[.pointer (some a)]).run Tryz.prog w = .ok (.value (.tuple #[])) w := run_call_marked Tryz.func167 (by kernel_rfl) (by kernel_rfl) (by kernel_rfl) .releaseMerge (by kernel_rfl) a w

/-- A flag that is stored, by a deferred call: the cell holds 1. -/
theorem s_store_deferred (a : Addr) (x : Value) (u : FrameMode) (w : World) (hc : w.cell? a = some x) (hz : w.frozen? a = false) :
    CallsD Tryz.prog 154 #[.pointer (some a), .bool true] u w fun e u' w' => u' = u ∧ (e = .returned (.tuple #[]) ∧ w' = w.drew.setCell a (.int .u32 1)) := by
  have hc' : w.drew.cell? a = some x := by go_simp
  have hz' : w.drew.frozen? a = false := by go_simp
  have hst := run_call_store (P := Tryz.prog) Tryz.func158 (by kernel_rfl) (by kernel_rfl) (by kernel_rfl) (by kernel_rfl) (k := .u32) (y := 1) hc' hz'
  go_enter_d Tryz.func154, Tryz.ntmps154
  go_wp2
  go_region_calls
  all_goals (go_end0; exact ⟨rfl, rfl⟩)
/-- A flag that is stored. -/
theorem s_store (a : Addr) (x : Value) (w : World) (hc : w.cell? a = some x) (hz : w.frozen? a = false) :
    Calls Tryz.prog 154 #[.pointer (some a), .bool true] w fun e w' => e = .returned (.tuple #[]) ∧ w' = w.drew.setCell a (.int .u32 1) := by
  have hc' : w.drew.cell? a = some x := by go_simp
  have hz' : w.drew.frozen? a = false := by go_simp
  have hst := run_call_store (P := Tryz.prog) Tryz.func158 (by kernel_rfl) (by kernel_rfl) (by kernel_rfl) (by kernel_rfl) (k := .u32) (y := 1) hc' hz'
  go_enter Tryz.func154, Tryz.ntmps154
  go_wp2
  go_region_calls
  all_goals (go_end0; exact ⟨rfl, rfl⟩)
/-- A flag that is read. -/
theorem s_load (a : Addr) (d : Int) (b : Bool) (w : World) (h0 : w.cell? a = some (.int .u32 d)) (hd : (d != 0) = b) :
    Calls Tryz.prog 151 #[.pointer (some a)] w fun e w' => e = .returned (.bool b) ∧ w' = w := by
  have hl := run_call_load (P := Tryz.prog) Tryz.func155 (by kernel_rfl) (by kernel_rfl) (by kernel_rfl) .u32 (by kernel_rfl) h0
  go_enter Tryz.func151, Tryz.ntmps151
  go_wp2
  go_ret
  exact ⟨rfl, rfl⟩

set_option maxRecDepth 100000 in
/-- The lock is let go, by a deferred call, nobody waiting. -/
theorem s_unlock_deferred (a : Addr) (u : FrameMode) (w : World) (hc : w.cell? a = some (.int .i32 1)) (hz : w.frozen? a = false) :
    CallsD Tryz.prog 157 #[.pointer (some a)] u w fun e u' w' => u' = u ∧ (e = .returned (.tuple #[]) ∧ w' = w.setCell a (.int .i32 0)) := by
  have hd := s_disable
  have he := s_enable
  have hr := s_releaseMerge
  have hadd := run_call_add (P := Tryz.prog) Tryz.func168 (by kernel_rfl) (by kernel_rfl) (by kernel_rfl) .i32 (by kernel_rfl) (y := -1) (s := 0) hc hz (by simp [go_sem]; rfl)
  have hcv := run_convert_to_unsafe (P := Tryz.prog) (src := 232) (dst := 236) Tryz.underlying232 Tryz.underlying236 (by kernel_rfl) hc
  go_enter_d Tryz.func157, Tryz.ntmps157
  go_wp2
  go_end0
  go_wp2
  go_end0
  exact ⟨rfl, rfl⟩

set_option maxRecDepth 100000 in
/-- The lock is taken, free as it was. -/
theorem s_lock_free (a : Addr) (w : World) (hc : w.cell? a = some (.int .i32 0)) (hz : w.frozen? a = false) :
    Calls Tryz.prog 156 #[.pointer (some a)] w fun e w' => e = .returned (.tuple #[]) ∧ w' = w.setCell a (.int .i32 1) := by
  have hd := s_disable
  have he := s_enable
  have ha := s_acquire
  have hcas := run_call_cas_hit (P := Tryz.prog) Tryz.func163 (by kernel_rfl) (by kernel_rfl) (by kernel_rfl) .i32 (by kernel_rfl) (y := 1) hc hz
  have hc' : (w.setCell a (.int .i32 1)).cell? a = some (.int .i32 1) := World.cell?_setCell_same w a _ hc
  have hcv := run_convert_to_unsafe (P := Tryz.prog) (src := 232) (dst := 236) Tryz.underlying232 Tryz.underlying236 (by kernel_rfl) hc'
  go_enter Tryz.func156, Tryz.ntmps156
  go_wp2
  first | go_end0 | (simp only [Exit.inBlock, Exit.then]; refine bodyPost_ret (results_none rfl _ _ _) rfl ?_) | refine bodyPost_ret (results_none rfl _ _ _) rfl ?_
  go_wp2
  go_end0
  exact ⟨rfl, rfl⟩

/-- The world behind a first Do: what the function has left, the flag laid, the lock let go. -/
def onceDone (b off : Nat) (w2 : World) : World := (w2.drew.setCell ⟨b, off, none⟩ (.int .u32 1)).setCell ⟨b, off + 1, none⟩ (.int .i32 0)

/-- What a function that is handed to Do leaves: the flag not laid yet, the lock held. -/
def OnceKept (b off : Nat) (w2 : World) : Prop :=
  (w2.cell? ⟨b, off, none⟩ = some (.int .u32 0) ∧ w2.cell? ⟨b, off + 1, none⟩ = some (.int .i32 1)) ∧ w2.frozen? ⟨b, off, none⟩ = false ∧ w2.frozen? ⟨b, off + 1, none⟩ = false

/-- The world behind a first Do. -/
def AfterOnce (b off : Nat) (Q : World → Prop) (w' : World) : Prop := ∃ w2, Q w2 ∧ w' = onceDone b off w2

set_option maxRecDepth 100000 in
set_option maxHeartbeats 1600000 in
theorem s_slow (b off : Nat) (f : FuncId) (hin : ∀ args w, (callFunc f args).run Tryz.prog w = .ok (.enter f args) w) (first cap args : Array Value) (ha : first ++ cap = args) (Q : World → Prop) (w : World)
    (h0 : w.cell? ⟨b, off, none⟩ = some (.int .u32 0)) (h1 : w.cell? ⟨b, off + 1, none⟩ = some (.int .i32 0))
    (f1 : w.frozen? ⟨b, off + 1, none⟩ = false)
    (hcall : Calls Tryz.prog f args (w.setCell ⟨b, off + 1, none⟩ (.int .i32 1)) fun e w2 => e = .returned (.tuple #[]) ∧ Q w2)
    (hQ : Hid (∀ w2, Q w2 → OnceKept b off w2)) :
    Calls Tryz.prog 152 #[.pointer (some ⟨b, off, none⟩), .func (.func f) first cap] w fun e w' => e = .returned (.tuple #[]) ∧ AfterOnce b off Q w' := by
  have a0 : (w.setCell ⟨b, off + 1, none⟩ (.int .i32 1)).cell? ⟨b, off, none⟩ = some (.int .u32 0) := (World.cell?_setCell_other _ ⟨b, off + 1, none⟩ ⟨b, off, none⟩ _ (by simp)).trans h0
  have hnot : ∀ (x : Bool) (w : World), (Op.unary .not (.bool x)).run Tryz.prog w = .ok (.bool (!x)) w := fun _ _ => rfl
  have HC := Lib.hid hcall
  clear hcall
  go_enter_defers Tryz.func152, Tryz.ntmps152
  go_wp2_with (fail)
  refine (s_lock_free ⟨b, off + 1, none⟩ w h1 f1).mono ?_
  rintro e w' ⟨rfl, rfl⟩
  go_wp2_with (fail)
  refine (s_load ⟨b, off, none⟩ 0 false _ a0 (by decide)).mono ?_
  rintro e w' ⟨rfl, rfl⟩
  go_wp2_with (fail)
  refine HC.out.mono ?_
  rintro e w2 ⟨rfl, hq⟩
  obtain ⟨⟨q0, q1⟩, z0, z1⟩ := hQ.out w2 hq
  have HQ2 := Lib.hid hq
  clear hq
  go_wp2_with (fail)
  refine leaves_cons (f := 154) (args := #[.pointer (some ⟨b, off, none⟩), .bool true]) (by simp) (by simp [go_sem]) ?_
  refine (s_store_deferred ⟨b, off, none⟩ (.int .u32 0) .returning _ q0 z0).mono ?_
  rintro e u' w'' ⟨rfl, rfl, rfl⟩
  refine leaves_cons (f := 157) (args := #[.pointer (some ⟨b, off + 1, none⟩)]) (by simp [settle]) (by simp [go_sem]) ?_
  refine (s_unlock_deferred ⟨b, off + 1, none⟩ _ _ ?_ (by simp [z1])).mono ?_
  · refine (World.cell?_setCell_other _ ⟨b, off, none⟩ ⟨b, off + 1, none⟩ _ (by simp)).trans ?_
    rw [World.cell?_drew]
    exact q1
  rintro e u' w'' ⟨rfl, rfl, rfl⟩
  have hend : AfterOnce b off Q ((w2.drew.setCell ⟨b, off, none⟩ (.int .u32 1)).setCell ⟨b, off + 1, none⟩ (.int .i32 0)) := ⟨w2, HQ2.out, rfl⟩
  simp [Leaves, settle, results, Tryz.results152, hend]

/-- Do, for the first time. -/
theorem s_do_first (b off : Nat) (f : FuncId) (hin : ∀ args w, (callFunc f args).run Tryz.prog w = .ok (.enter f args) w) (first cap args : Array Value) (ha : first ++ cap = args) (Q : World → Prop) (w : World)
    (h0 : w.cell? ⟨b, off, none⟩ = some (.int .u32 0)) (h1 : w.cell? ⟨b, off + 1, none⟩ = some (.int .i32 0))
    (f1 : w.frozen? ⟨b, off + 1, none⟩ = false)
    (hcall : Calls Tryz.prog f args (w.setCell ⟨b, off + 1, none⟩ (.int .i32 1)) fun e w2 => e = .returned (.tuple #[]) ∧ Q w2)
    (hQ : Hid (∀ w2, Q w2 → OnceKept b off w2)) :
    Calls Tryz.prog 147 #[.pointer (some ⟨b, off, none⟩), .func (.func f) first cap] w fun e w' => e = .returned (.tuple #[]) ∧ AfterOnce b off Q w' := by
  have hnot : ∀ (x : Bool) (w : World), (Op.unary .not (.bool x)).run Tryz.prog w = .ok (.bool (!x)) w := fun _ _ => rfl
  have HC := Lib.hid hcall
  have HI := Lib.hid hin
  have HA := Lib.hid ha
  clear hcall hin ha
  go_enter Tryz.func147, Tryz.ntmps147
  go_wp2_with (fail)
  refine (s_load ⟨b, off, none⟩ 0 false _ h0 (by decide)).mono ?_
  rintro e w' ⟨rfl, rfl⟩
  go_wp2_with (fail)
  refine (s_slow b off f HI.out first cap args HA.out Q _ h0 h1 f1 HC.out hQ).mono ?_
  rintro e w' ⟨rfl, hq⟩
  have H := Lib.hid hq
  clear hq h0 h1 f1
  go_wp2_with (fail)
  go_end0
  exact ⟨rfl, H.out⟩

/-- Do, done already: nothing is called. -/
theorem s_do_done (b off : Nat) (fv : Value) (w : World) (h0 : w.cell? ⟨b, off, none⟩ = some (.int .u32 1)) :
    Calls Tryz.prog 147 #[.pointer (some ⟨b, off, none⟩), fv] w fun e w' => e = .returned (.tuple #[]) ∧ w' = w := by
  have hnot : ∀ (x : Bool) (w : World), (Op.unary .not (.bool x)).run Tryz.prog w = .ok (.bool (!x)) w := fun _ _ => rfl
  go_enter Tryz.func147, Tryz.ntmps147
  go_wp2_with (fail)
  refine (s_load ⟨b, off, none⟩ 1 true _ h0 (by decide)).mono ?_
  rintro e w' ⟨rfl, rfl⟩
  go_wp2_with (fail)
  go_end0
  exact ⟨rfl, rfl⟩

theorem xor_u32 (x y : BitVec 32) : bits .xor .u32 (x.toNat : Int) (y.toNat : Int) = ((x ^^^ y).toNat : Int) := by
  rw [u32_xor_nat _ _ x.isLt y.isLt, BitVec.toNat_xor]
theorem not_u32 (x : BitVec 32) : bits .xor .u32 (x.toNat : Int) 4294967295 = ((~~~x).toNat : Int) := by
  have h := xor_u32 x (BitVec.allOnes 32)
  rw [show ((BitVec.allOnes 32).toNat : Int) = 4294967295 by decide] at h
  rw [h, BitVec.xor_allOnes]
theorem and1_u32 (x : BitVec 32) : bits .and .u32 (x.toNat : Int) 1 = if x.getLsbD 0 then 1 else 0 := by
  have h := u32_and_nat x.toNat 1 x.isLt (by decide)
  refine h.trans ?_
  have e : x.getLsbD 0 = x.toNat.testBit 0 := by rw [BitVec.testBit_toNat]
  rw [e, Nat.testBit_zero, Nat.and_one_is_mod]
  by_cases h1 : x.toNat % 2 = 1
  · simp [h1]
  · have : x.toNat % 2 = 0 := by omega
    simp [this]
theorem shr1_u32 (x : BitVec 32) : (x.toNat : Int) / (2 : Int) = ((x >>> 1).toNat : Int) := by
  rw [BitVec.toNat_ushiftRight, Nat.shiftRight_eq_div_pow]
  omega
theorem xorP_u32 (x : BitVec 32) : bits .xor .u32 (x.toNat : Int) 3988292384 = ((x ^^^ crcP).toNat : Int) := by
  have h := xor_u32 x crcP
  rw [show (crcP.toNat : Int) = 3988292384 by decide] at h
  exact h
theorem xor_byte32 (x : BitVec 32) (b : Nat) (hb : b < 256) : bits .xor .u32 (x.toNat : Int) (b : Int) = ((x ^^^ BitVec.ofNat 32 b).toNat : Int) := by
  have h := xor_u32 x (BitVec.ofNat 32 b)
  rw [show ((BitVec.ofNat 32 b).toNat : Int) = (b : Int) by simp; omega] at h
  exact h
theorem bdrop_at (bs : List Nat) (k : Nat) (h : k < bs.length) : bs.drop k = byteAt bs k :: bs.drop (k + 1) := by
  rw [List.drop_eq_getElem_cons h]
  simp [byteAt, List.getD, h]
theorem btake_at (bs : List Nat) (k : Nat) (h : k < bs.length) : bs.take (k + 1) = bs.take k ++ [byteAt bs k] := by
  rw [List.take_succ_eq_append_getElem h]
  simp [byteAt, List.getD, h]

set_option maxRecDepth 100000 in
set_option maxHeartbeats 3200000 in
theorem rmore_any (a : Option Addr) (n c : Nat) (bs : List Nat) (x : BitVec 32) (w : World) (h : BReads w a n c bs) :
    Calls Tryz.prog 141 #[.int .u32 (x.toNat : Int), .slice a n c] w fun e w' => e = .returned (.int .u32 ((crcMore x bs).toNat : Int)) ∧ w = w' := by
  have HC := Lib.hid h.cells
  have HL := Lib.hid h.len
  have HA := Lib.hid h.at_lt
  have hsm := h.small
  clear h
  obtain ⟨m0, hm0⟩ : ∃ m0, x.toNat = m0 := ⟨_, rfl⟩
  obtain ⟨m1, hm1⟩ : ∃ m1, (~~~x).toNat = m1 := ⟨_, rfl⟩
  have hnot := not_u32 x
  rw [hm0, hm1] at hnot
  have HM1 := Lib.hid hm1
  rw [hm0]
  clear hm0 hm1
  go_enter Tryz.func141, Tryz.ntmps141
  go_wp2
  clear hnot
  go_loop [0, 5] (fun s0 s5 => ∃ (k m : Nat) (z : BitVec 32), k ≤ n ∧ s5 = .int .i64 k ∧ s0 = .int .u32 m ∧ Hid (z.toNat = m) ∧ Hid (crcs (~~~ x) (bs.take k) = z)) (fun _ s5 => n - (intOf s5).toNat)
  case atStart => exact ⟨0, m1, _, Nat.zero_le _, rfl, rfl, HM1.out, by simp [Hid, crcs]⟩
  case round =>
    obtain ⟨k, m, z, hk, rfl, rfl, HZ, HE⟩ := hrel
    by_cases hc : k < n
    · rcases HC.out with h0 | ⟨b, off, rfl, hlt, hcl⟩
      · omega
      obtain ⟨p, hp⟩ : ∃ p, byteAt bs k = p := ⟨_, rfl⟩
      have hcell := hcl k hc
      have hp256 := HA.out k
      rw [hp] at hcell hp256
      obtain ⟨m2, hm2⟩ : ∃ m2, (z ^^^ BitVec.ofNat 32 p).toNat = m2 := ⟨_, rfl⟩
      have hxb := xor_byte32 z p hp256
      rw [HZ.out, hm2] at hxb
      have HM2 := Lib.hid hm2
      have HT := Lib.hid (show crcs (~~~ x) (bs.take (k + 1)) = halves 8 (z ^^^ BitVec.ofNat 32 p) from by
        rw [btake_at bs k (by rw [HL.out]; exact hc), crcs_snoc, HE.out, hp, stepB])
      clear hcl hp hm2
      go_wp2
      clear hxb
      go_loop [0, 6, 7] (fun s0 s6 s7 => ∃ (j m : Nat) (y : BitVec 32), j ≤ 8 ∧ s6 = .int .i64 j ∧ s0 = .int .u32 m ∧ Hid (y.toNat = m) ∧ Hid (crcs (~~~ x) (bs.take (k + 1)) = halves (8 - j) y)) (fun _ s6 _ => 8 - (intOf s6).toNat)
      case atStart => exact ⟨0, m2, _, by omega, rfl, rfl, HM2.out, HT.out⟩
      case round =>
        clear HM2 HT
        obtain ⟨j, m, y, hj, rfl, rfl, HY, HT⟩ := hrel
        by_cases hj8 : j < 8
        · obtain ⟨s, hs⟩ : ∃ s, (y >>> 1).toNat = s := ⟨_, rfl⟩
          have hshr := shr1_u32 y
          have hand := and1_u32 y
          have hxp := xorP_u32 (y >>> 1)
          rw [HY.out] at hshr hand
          rw [hs] at hshr hxp
          have HH := Lib.hid (show crcs (~~~ x) (bs.take (k + 1)) = halves (8 - (j + 1)) (half y) from by
            rw [HT.out, show 8 - j = 8 - (j + 1) + 1 by omega, halves])
          have HS := Lib.hid hs
          cases hb : y.getLsbD 0
          · have HF := Lib.hid (show half y = y >>> 1 from half_even hb)
            rw [hb] at hand
            simp only [Bool.false_eq_true, if_false] at hand
            clear hb hs hxp
            go_wp2
            go_round
            case rel => exact ⟨j + 1, s, y >>> 1, by omega, by go_num, rfl, HS.out, by rw [HH.out, HF.out]; exact rfl⟩
            case measure => simp [intOf]; omega
          · have HF := Lib.hid (show half y = (y >>> 1) ^^^ crcP from by unfold half; rw [hb]; simp only [if_true])
            rw [hb] at hand
            simp only [if_true] at hand
            obtain ⟨s', hs'⟩ : ∃ s', ((y >>> 1) ^^^ crcP).toNat = s' := ⟨_, rfl⟩
            rw [hs'] at hxp
            have HS' := Lib.hid hs'
            clear hb hs hs'
            go_wp2
            go_round
            case rel => exact ⟨j + 1, s', (y >>> 1) ^^^ crcP, by omega, by go_num, rfl, HS'.out, by rw [HH.out, HF.out]; exact rfl⟩
            case measure => simp [intOf]; omega
        · have hj' : j = 8 := by omega
          subst hj'
          go_wp2
          go_round
          case rel => exact ⟨k + 1, m, y, by omega, by go_num, rfl, HY.out, by rw [HT.out]; rfl⟩
          case measure => simp [intOf]; omega
    · obtain ⟨m3, hm3⟩ : ∃ m3, (~~~z).toNat = m3 := ⟨_, rfl⟩
      have hn3 := not_u32 z
      rw [HZ.out, hm3] at hn3
      have HR := Lib.hid (show (crcMore x bs).toNat = m3 from by
        have e := HE.out
        rw [List.take_of_length_le (by rw [HL.out]; omega)] at e
        rw [crcMore, e, hm3])
      clear hm3
      go_wp2
      go_ret
      exact ⟨by rw [HR.out]; rfl, rfl⟩

theorem rof_any (a : Option Addr) (n c : Nat) (bs : List Nat) (w : World) (h : BReads w a n c bs) :
    Calls Tryz.prog 117 #[.slice a n c] w fun e w' => e = .returned (.int .u32 ((crcMore 0#32 bs).toNat : Int)) ∧ w = w' := by
  have HR := Lib.hid h
  clear h
  obtain ⟨m, hm⟩ : ∃ m, (crcMore 0#32 bs).toNat = m := ⟨_, rfl⟩
  have key : ∀ w, BReads w a n c bs → Calls Tryz.prog 141 #[.int .u32 0, .slice a n c] w fun e w' => e = .returned (.int .u32 (m : Int)) ∧ w = w' := fun w h => by
    have := rmore_any a n c bs 0#32 w h
    rw [hm] at this
    exact this
  have HK := Lib.hid key
  rw [hm]
  clear key hm
  go_enter Tryz.func117, Tryz.ntmps117
  go_wp2_with (fail)
  refine (HK.out w HR.out).mono ?_
  rintro e w' ⟨rfl, rfl⟩
  go_wp2
  go_ret
  exact ⟨rfl, rfl⟩

set_option maxRecDepth 100000 in
set_option maxHeartbeats 3200000 in
theorem word_any (x : BitVec 32) (w : World) :
    Calls Tryz.prog 153 #[.int .u32 (x.toNat : Int)] w fun e w' => e = .returned (.int .u32 ((halves 8 x).toNat : Int)) ∧ w = w' := by
  obtain ⟨m0, hm0⟩ : ∃ m0, x.toNat = m0 := ⟨_, rfl⟩
  have HM := Lib.hid hm0
  rw [hm0]
  clear hm0
  go_enter Tryz.func153, Tryz.ntmps153
  go_wp2
  go_loop [0, 4] (fun s0 s4 => ∃ (j m : Nat) (y : BitVec 32), j ≤ 8 ∧ s4 = .int .i64 j ∧ s0 = .int .u32 m ∧ Hid (y.toNat = m) ∧ Hid (halves 8 x = halves (8 - j) y)) (fun _ s4 => 8 - (intOf s4).toNat)
  case atStart => exact ⟨0, m0, x, by omega, rfl, rfl, HM.out, rfl⟩
  case round =>
    obtain ⟨j, m, y, hj, rfl, rfl, HY, HT⟩ := hrel
    by_cases hj8 : j < 8
    · obtain ⟨s, hs⟩ : ∃ s, (y >>> 1).toNat = s := ⟨_, rfl⟩
      have hshr := shr1_u32 y
      have hand := and1_u32 y
      have hxp := xorP_u32 (y >>> 1)
      rw [HY.out] at hshr hand
      rw [hs] at hshr hxp
      have HH := Lib.hid (show halves 8 x = halves (8 - (j + 1)) (half y) from by
        rw [HT.out, show 8 - j = 8 - (j + 1) + 1 by omega, halves])
      have HS := Lib.hid hs
      cases hb : y.getLsbD 0
      · have HF := Lib.hid (show half y = y >>> 1 from half_even hb)
        rw [hb] at hand
        simp only [Bool.false_eq_true, if_false] at hand
        clear hb hs hxp
        go_wp2
        go_round
        case rel => exact ⟨j + 1, s, y >>> 1, by omega, by go_num, rfl, HS.out, by rw [HH.out, HF.out]; exact rfl⟩
        case measure => simp [intOf]; omega
      · have HF := Lib.hid (show half y = (y >>> 1) ^^^ crcP from by unfold half; rw [hb]; simp only [if_true])
        rw [hb] at hand
        simp only [if_true] at hand
        obtain ⟨s', hs'⟩ : ∃ s', ((y >>> 1) ^^^ crcP).toNat = s' := ⟨_, rfl⟩
        rw [hs'] at hxp
        have HS' := Lib.hid hs'
        clear hb hs hs'
        go_wp2
        go_round
        case rel => exact ⟨j + 1, s', (y >>> 1) ^^^ crcP, by omega, by go_num, rfl, HS'.out, by rw [HH.out, HF.out]; exact rfl⟩
        case measure => simp [intOf]; omega
    · have hj' : j = 8 := by omega
      subst hj'
      have HR := Lib.hid (show (halves 8 x).toNat = m from by rw [HT.out]; exact HY.out)
      go_wp2
      go_ret
      exact ⟨by rw [HR.out]; rfl, rfl⟩

/-- The word i as a value; a table of which k words are laid. -/
def wordV (i : Nat) : Value := .int .u32 ((crcWord i).toNat : Int)
def tabV (k : Nat) : List Value := (List.range 256).map fun i => if i < k then wordV i else .int .u32 0
/-- A summer's cells: the Once's flag and lock, whether the table was made, the table. -/
def sumV (d m s k : Nat) : List Value := [.int .u32 d, .int .i32 m, .int .u32 0, .int .u32 s] ++ tabV k
theorem tabV_len (k : Nat) : (tabV k).length = 256 := by simp [tabV]
theorem tabV_set (k : Nat) : (tabV k).set k (wordV k) = tabV (k + 1) := by
  apply List.ext_getElem (by simp [tabV])
  intro i h1 h2
  rw [List.getElem_set]
  simp only [tabV, List.getElem_map, List.getElem_range]
  by_cases he : k = i
  · subst he
    simp
  · simp only [if_neg he]
    by_cases hlt : i < k
    · rw [if_pos hlt, if_pos (by omega)]
    · rw [if_neg hlt, if_neg (by omega)]
theorem sumV_set (d m s k : Nat) : (sumV d m s k).set (4 + k) (wordV k) = sumV d m s (k + 1) := by
  rw [sumV, List.set_append_right _ _ (by simp)]
  simp only [List.length_cons, List.length_nil]
  rw [show 4 + k - (0 + 1 + 1 + 1 + 1) = k by omega, tabV_set k, sumV]
theorem sumV_len (d m s k : Nat) : (sumV d m s k).length = 260 := by simp [sumV, tabV_len]

theorem word_nat (k q : Nat) (w : World) (hk : k < 256) (hq : (crcWord k).toNat = q) :
    Calls Tryz.prog 153 #[.int .u32 (k : Int)] w fun e w' => e = .returned (.int .u32 (q : Int)) ∧ w' = w := by
  have := word_any (BitVec.ofNat 32 k) w
  rw [show ((BitVec.ofNat 32 k).toNat : Int) = (k : Int) by simp; omega] at this
  rw [← hq]
  exact this.mono fun _ _ ⟨h1, h2⟩ => ⟨h1, h2.symm⟩
theorem sumV_at (d m s j k : Nat) (hk : k < 256) : ∃ v, (sumV d m s j)[4 + k]? = some v := by
  rw [sumV, List.getElem?_append_right (by simp)]
  exact ⟨_, List.getElem?_eq_getElem (by rw [tabV_len]; simp; omega)⟩

set_option maxRecDepth 100000 in
set_option maxHeartbeats 3200000 in
/-- The table is laid, and that it was. -/
theorem fill_any (g d m : Nat) (w : World) (h : Blk w g 196 (sumV d m 0 0)) :
    Calls Tryz.prog 148 #[.pointer (some ⟨g, 0, none⟩)] w fun e w' => e = .returned (.tuple #[]) ∧ Blk w' g 196 (sumV d m 1 256) ∧ Kept [g] w w' := by
  have HB := Lib.hid h
  clear h
  go_enter Tryz.func148, Tryz.ntmps148
  go_wp2
  go_loopw [3] (fun s3 wr => ∃ k : Nat, k ≤ 256 ∧ s3 = .int .i64 k ∧ Hid (Blk wr g 196 (sumV d m 0 k)) ∧ Hid (Kept [g] w wr)) (fun s3 _ => 256 - (intOf s3).toNat)
  case atStart => exact ⟨0, by omega, rfl, HB.out, Kept.refl _ _⟩
  case round =>
    clear HB
    obtain ⟨k, hk, rfl, HB, HK⟩ := hrel
    by_cases hc : k < 256
    · have hlt := HB.out.lt
      obtain ⟨v, hv⟩ := sumV_at d m 0 k k hc
      obtain ⟨q, hq⟩ : ∃ q, (crcWord k).toNat = q := ⟨_, rfl⟩
      have HQ := Lib.hid hq
      clear hq
      have hck := (HB.out.cell (4 + k)).trans hv
      have hzk := HB.out.frozen (4 + k)
      have hkc : (k : Int) < 256 := by omega
      have hkw : IntKind.u32.wrap (k : Int) = (k : Int) := by rw [IntKind.wrap_u32]; omega
      clear hv
      go_wp2
      go_still_tail 8, (by kernel_rfl)
      still_call (word_nat k q _ hc HQ.out)
      repeat still_step
      try refine wpStill_nil ?_
      change wpList _ _ _ _ _ wr.drew
      have HB1 := Lib.hid (Blk.drew HB.out)
      have HK1 := Lib.hid HK.out.drew
      have hck' := (HB1.out.cell (4 + k)).trans ((HB.out.cell (4 + k)).symm.trans hck)
      have hzk' := HB1.out.frozen (4 + k)
      clear HB HK hck hzk hlt
      generalize wr.drew = w2 at *
      go_wp2
      go_roundw
      case rel => exact ⟨k + 1, by omega, by go_num, by have := HB1.out.set (4 + k) (wordV k); rw [sumV_set, wordV, HQ.out] at this; exact this, HK1.out.setCell _ _ (.inl (by simp))⟩
      case measure => simp [intOf]; omega
    · have hk' : k = 256 := by omega
      subst hk'
      have c3 := HB.out.cell 3
      have z3 := HB.out.frozen 3
      go_wp2_with (fail)
      refine (s_store ⟨g, 3, none⟩ (.int .u32 0) wr c3 z3).mono ?_
      rintro e w' ⟨rfl, rfl⟩
      clear c3 z3
      go_wp2
      go_end0
      refine ⟨rfl, ?_, ?_⟩
      · have := (HB.out.drew).set 3 (.int .u32 1)
        exact this
      · exact (HK.out.drew).setCell _ _ (.inl (by simp))

/-- A summer lies in block g; t: whether its table was made. -/
def SumAt (w : World) (g : Nat) (t : Bool) : Prop := Blk w g 196 (if t then sumV 1 0 1 256 else sumV 0 0 0 0)

set_option maxRecDepth 100000 in
set_option maxHeartbeats 3200000 in
theorem new_any5 (w : World) :
    Calls Tryz.prog 62 #[] w fun e w' => e = .returned (.pointer (some ⟨w.heap.size, 0, none⟩)) ∧ SumAt w' w.heap.size false ∧ Below w.heap.size w w' := by
  obtain ⟨cs, hcs⟩ : ∃ cs, (sumV 0 0 0 0).toArray = cs := ⟨_, rfl⟩
  have hz : ∀ w, (zeroValue 196).run Tryz.prog w = .ok (.agg cs) w := by
    rw [← hcs]
    intro w
    kernel_rfl
  have HCS := Lib.hid hcs
  clear hcs
  go_enter Tryz.func62, Tryz.ntmps62
  go_wp2
  go_ret
  refine ⟨rfl, ?_, (Below.refl _ _).alloc (Nat.le_refl _) _⟩
  have := Blk.new w 196 cs
  rw [← HCS.out] at this ⊢
  exact this

theorem SumAt.lt {w : World} {g : Nat} {t : Bool} (h : SumAt w g t) : g < w.heap.size := Blk.lt h
theorem SumAt.kept {F : List Nat} {w w' : World} {g : Nat} {t : Bool} (h : SumAt w g t) (hk : Kept F w w') (hg : g ∉ F) : SumAt w' g t := hk.blk h hg
theorem SumAt.on {w w' : World} {g : Nat} {t : Bool} (h : SumAt w g t) (hb : Below w.heap.size w w') : SumAt w' g t := h.kept (F := []) (Kept.of_below hb (Nat.le_refl _)) (by simp)
theorem BReads.kept {F : List Nat} {w w' : World} {a : Option Addr} {n c : Nat} {bs : List Nat} (h : BReads w a n c bs) (hk : Kept F w w') (hF : 0 < n → ∀ ad, a = some ad → ad.block ∉ F) : BReads w' a n c bs := by
  refine ⟨h.len, h.small, h.byte, h.nilOk, h.room, ?_⟩
  rcases h.cells with h4 | ⟨b, off, ha, hlt, hc⟩
  · exact .inl h4
  · refine .inr ⟨b, off, ha, Nat.lt_of_lt_of_le hlt hk.size, fun i hi => ?_⟩
    have hb := hF (by omega) ⟨b, off, none⟩ ha
    rw [hk.cell (p := ⟨b, off + i, none⟩) hlt hb]
    exact hc i hi
theorem BReads.old {w : World} {a : Option Addr} {n c g : Nat} {bs : List Nat} (h : BReads w a n c bs) (hg : w.heap.size ≤ g) : 0 < n → ∀ ad, a = some ad → ad.block ≠ g := by
  intro h0 ad ha
  rcases h.cells with h4 | ⟨b, off, hb, hlt, _⟩
  · omega
  · rw [hb] at ha
    cases ha
    simp only
    omega
theorem Kept.same {F : List Nat} {w w1 w2 : World} (h : Kept F w w1) (k : Kept F w1 w2) : Kept F w w2 := h.trans k (Grows.refl _ _)

theorem fill_enter (args : Array Value) (w : World) : (callFunc 148 args).run Tryz.prog w = .ok (.enter 148 args) w := by
  simp [callFunc, Tryz.func148, Tryz.f148]

/-- The summer's Once: the table is made, once. -/
theorem do_sum (g : Nat) (t : Bool) (w : World) (h : SumAt w g t) :
    Calls Tryz.prog 147 #[.pointer (some ⟨g, 0, none⟩), .func (.func 148) #[.pointer (some ⟨g, 0, none⟩)] #[]] w fun e w' => e = .returned (.tuple #[]) ∧ SumAt w' g true ∧ Kept [g] w w' := by
  cases t
  · have hb : Blk w g 196 (sumV 0 0 0 0) := h
    have hb1 : Blk (w.setCell ⟨g, 1, none⟩ (.int .i32 1)) g 196 (sumV 0 1 0 0) := hb.set 1 (.int .i32 1)
    have k1 : Kept [g] w (w.setCell ⟨g, 1, none⟩ (.int .i32 1)) := (Kept.refl _ _).setCell _ _ (.inl (by simp))
    refine (s_do_first g 0 148 fill_enter #[.pointer (some ⟨g, 0, none⟩)] #[] #[.pointer (some ⟨g, 0, none⟩)] rfl
      (fun w' => Blk w' g 196 (sumV 0 1 1 256) ∧ Kept [g] (w.setCell ⟨g, 1, none⟩ (.int .i32 1)) w') w (hb.cell 0) (hb.cell 1) (hb.frozen 1) (fill_any g 0 1 _ hb1)
      (fun w2 h2 => ⟨⟨h2.1.cell 0, h2.1.cell 1⟩, h2.1.frozen 0, h2.1.frozen 1⟩)).mono ?_
    rintro e w' ⟨rfl, w2, ⟨hb2, k2⟩, rfl⟩
    refine ⟨rfl, ?_, ?_⟩
    · have := ((Blk.drew hb2).set 0 (.int .u32 1)).set 1 (.int .i32 0)
      exact this
    · exact (((k1.same k2).drew).setCell _ _ (.inl (by simp))).setCell _ _ (.inl (by simp))
  · have hb : Blk w g 196 (sumV 1 0 1 256) := h
    refine (s_do_done g 0 _ w (hb.cell 0)).mono ?_
    rintro e w' ⟨rfl, rfl⟩
    exact ⟨rfl, h, Kept.refl _ _⟩

theorem not_u32' (x : BitVec 32) : bits .xor .u32 IntKind.u32.max (x.toNat : Int) = ((~~~x).toNat : Int) := by
  have h := xor_u32 (BitVec.allOnes 32) x
  rw [show ((BitVec.allOnes 32).toNat : Int) = IntKind.u32.max by decide] at h
  rw [h, BitVec.allOnes_xor]

theorem idx_u32 (x : BitVec 32) (p : Nat) (hp : p < 256) : bits .xor .u8 ((x.toNat : Int) % 256) (p : Int) = (((x ^^^ BitVec.ofNat 32 p).toNat % 256 : Nat) : Int) := by
  have h := u8_xor_nat (x.toNat % 256) p (by omega) hp
  have e : ((x.toNat % 256 : Nat) : Int) = (x.toNat : Int) % 256 := by omega
  rw [e] at h
  rw [h, BitVec.toNat_xor, BitVec.toNat_ofNat, Nat.mod_eq_of_lt (show p < 2 ^ 32 by omega)]
  rw [show 256 = 2 ^ 8 by decide, Nat.xor_mod_two_pow, Nat.mod_eq_of_lt (show p < 2 ^ 8 by omega)]
theorem shr8_u32 (x : BitVec 32) : (x.toNat : Int) / (256 : Int) = ((x >>> 8).toNat : Int) := by
  rw [BitVec.toNat_ushiftRight, Nat.shiftRight_eq_div_pow]
  omega
theorem SumAt.word {w : World} {g : Nat} (h : SumAt w g true) (i : Nat) (hi : i < 256) : w.cell? ⟨g, 4 + i, none⟩ = some (wordV i) := by
  have hb : Blk w g 196 (sumV 1 0 1 256) := h
  rw [hb.cell (4 + i), sumV, List.getElem?_append_right (by simp)]
  simp [tabV, hi]

set_option maxRecDepth 100000 in
set_option maxHeartbeats 3200000 in
theorem more_any (g : Nat) (t : Bool) (x : BitVec 32) (a : Option Addr) (n c : Nat) (bs : List Nat) (w : World) (hs : SumAt w g t) (h : BReads w a n c bs) (hg : 0 < n → ∀ ad, a = some ad → ad.block ≠ g) :
    Calls Tryz.prog 140 #[.pointer (some ⟨g, 0, none⟩), .int .u32 (x.toNat : Int), .slice a n c] w fun e w' => e = .returned (.int .u32 ((crcMore x bs).toNat : Int)) ∧ SumAt w' g true ∧ Kept [g] w w' := by
  have HS := Lib.hid hs
  have HR := Lib.hid h
  have HG := Lib.hid hg
  have hsm := h.small
  clear hs h hg
  obtain ⟨m0, hm0⟩ : ∃ m0, x.toNat = m0 := ⟨_, rfl⟩
  obtain ⟨m1, hm1⟩ : ∃ m1, (~~~x).toNat = m1 := ⟨_, rfl⟩
  have hnot := not_u32' x
  rw [hm0, hm1] at hnot
  have HM1 := Lib.hid hm1
  rw [hm0]
  clear hm0 hm1
  go_enter Tryz.func140, Tryz.ntmps140
  go_wp2_with (fail)
  refine (do_sum g t w HS.out).mono ?_
  rintro e w1 ⟨rfl, hs1, hk1⟩
  have HS1 := Lib.hid hs1
  have HK1 := Lib.hid hk1
  have HR1 := Lib.hid (HR.out.kept hk1 (fun h0 ad ha => by have := HG.out h0 ad ha; simpa using this))
  clear hs1 hk1 HS
  go_wp2_with (fail)
  clear hnot
  have HL := Lib.hid HR1.out.len
  have HA := Lib.hid HR1.out.at_lt
  go_loop [7, 20] (fun s7 s20 => ∃ (k m : Nat) (z : BitVec 32), k ≤ n ∧ s20 = .int .i64 k ∧ s7 = .int .u32 m ∧ Hid (z.toNat = m) ∧ Hid (crcs (~~~ x) (bs.take k) = z)) (fun _ s20 => n - (intOf s20).toNat)
  case atStart => exact ⟨0, m1, _, Nat.zero_le _, rfl, rfl, HM1.out, by simp [Hid, crcs]⟩
  case round =>
    obtain ⟨k, m, z, hk, rfl, rfl, HZ, HE⟩ := hrel
    by_cases hc : k < n
    · rcases HR1.out.cells with h0 | ⟨b, off, rfl, hlt, hcl⟩
      · omega
      obtain ⟨p, hp⟩ : ∃ p, byteAt bs k = p := ⟨_, rfl⟩
      have hcell := hcl k hc
      have hp256 := HA.out k
      rw [hp] at hcell hp256
      obtain ⟨q, hq⟩ : ∃ q, (z ^^^ BitVec.ofNat 32 p).toNat % 256 = q := ⟨_, rfl⟩
      have hidx := idx_u32 z p hp256
      rw [HZ.out, hq] at hidx
      have hq256 : q < 256 := by omega
      obtain ⟨r, hr⟩ : ∃ r, (crcWord q).toNat = r := ⟨_, rfl⟩
      have hword := HS1.out.word q hq256
      rw [wordV, hr] at hword
      obtain ⟨u, hu⟩ : ∃ u, (z >>> 8).toNat = u := ⟨_, rfl⟩
      have hshr := shr8_u32 z
      rw [HZ.out, hu] at hshr
      obtain ⟨m2, hm2⟩ : ∃ m2, (stepB z p).toNat = m2 := ⟨_, rfl⟩
      have hxor : bits .xor .u32 (r : Int) (u : Int) = (m2 : Int) := by
        rw [← hr, ← hu, ← hm2, xor_u32, stepB_table z p hp256, hq]
      have HM2 := Lib.hid hm2
      have HT := Lib.hid (show crcs (~~~ x) (bs.take (k + 1)) = stepB z p from by
        rw [btake_at bs k (by rw [HL.out]; exact hc), crcs_snoc, HE.out, hp])
      have hglt := HS1.out.lt
      have hqi : (q : Int) < 256 := by omega
      clear hcl hp hq hr hu hm2
      go_wp2
      go_round
      case rel => exact ⟨k + 1, m2, stepB z p, by omega, by go_num, rfl, HM2.out, HT.out⟩
      case measure => simp [intOf]; omega
    · obtain ⟨m3, hm3⟩ : ∃ m3, (~~~z).toNat = m3 := ⟨_, rfl⟩
      have hn3 := not_u32' z
      rw [HZ.out, hm3] at hn3
      have HF := Lib.hid (show (crcMore x bs).toNat = m3 from by
        have e := HE.out
        rw [List.take_of_length_le (by rw [HL.out]; omega)] at e
        rw [crcMore, e, hm3])
      clear hm3
      go_wp2
      go_ret
      exact ⟨by rw [HF.out]; rfl, HS1.out, HK1.out⟩

theorem of_any (g : Nat) (t : Bool) (a : Option Addr) (n c : Nat) (bs : List Nat) (w : World) (hs : SumAt w g t) (h : BReads w a n c bs) (hg : 0 < n → ∀ ad, a = some ad → ad.block ≠ g) :
    Calls Tryz.prog 116 #[.pointer (some ⟨g, 0, none⟩), .slice a n c] w fun e w' => e = .returned (.int .u32 ((crcMore 0#32 bs).toNat : Int)) ∧ SumAt w' g true ∧ Kept [g] w w' := by
  have key := more_any g t 0#32 a n c bs w hs h hg
  obtain ⟨m, hm⟩ : ∃ m, (crcMore 0#32 bs).toNat = m := ⟨_, rfl⟩
  rw [hm] at key ⊢
  have HK := Lib.hid key
  clear key hm hs h hg
  go_enter Tryz.func116, Tryz.ntmps116
  go_wp2_with (fail)
  refine HK.out.mono ?_
  rintro e w1 ⟨rfl, hs1, hk1⟩
  have HS1 := Lib.hid hs1
  have HK1 := Lib.hid hk1
  clear hs1 hk1
  go_wp2
  go_ret
  exact ⟨rfl, HS1.out, HK1.out⟩
end Go.Proofs.YtemnmjfeljipjaaGreat
