/-
  The mathematics of the sum CRC-32: halving a word of 32 bits, bytes one behind the other, what is turned and seen. No program stands here.
-/
import Derived.Test.YtaecaanepomkdaaSl
namespace Go.Proofs.Ytaecaanepomkdaa

/-- The word that is laid over where a bit falls out. -/
def crcP : BitVec 32 := 0xEDB88320#32
/-- A word halved. -/
def half (c : BitVec 32) : BitVec 32 := if c.getLsbD 0 then (c >>> 1) ^^^ crcP else c >>> 1
/-- A word halved n times. -/
def halves : Nat → BitVec 32 → BitVec 32
  | 0, c => c
  | n + 1, c => halves n (half c)

theorem half_xor (a b : BitVec 32) : half (a ^^^ b) = half a ^^^ half b := by
  unfold half
  rw [BitVec.getLsbD_xor, BitVec.ushiftRight_xor_distrib]
  generalize a >>> 1 = x
  generalize b >>> 1 = y
  cases a.getLsbD 0 <;> cases b.getLsbD 0 <;> simp
  · rw [BitVec.xor_assoc]
  · rw [BitVec.xor_assoc, BitVec.xor_assoc, BitVec.xor_comm crcP y]
  · rw [BitVec.xor_assoc, ← BitVec.xor_assoc crcP y, BitVec.xor_comm crcP y, BitVec.xor_assoc y, BitVec.xor_self, BitVec.xor_zero]
theorem half_zero : half 0#32 = 0#32 := by decide
theorem half_ne {c : BitVec 32} (h : c ≠ 0#32) : half c ≠ 0#32 := by
  intro e
  unfold half at e
  have h0 : (c >>> 1).getLsbD 31 = false := by simp
  cases hb : c.getLsbD 0
  · rw [hb] at e
    simp only [Bool.false_eq_true, if_false] at e
    apply h
    apply BitVec.eq_of_getLsbD_eq
    intro i hi
    rw [BitVec.getLsbD_zero]
    cases i with
    | zero => exact hb
    | succ i =>
      have := congrArg (fun x => BitVec.getLsbD x i) e
      simpa [Nat.add_comm] using this
  · rw [hb] at e
    simp only [if_true] at e
    have := congrArg (fun x => BitVec.getLsbD x 31) e
    simp only [BitVec.getLsbD_xor, h0, BitVec.getLsbD_zero] at this
    exact absurd this (by decide)
theorem halves_xor (n : Nat) (a b : BitVec 32) : halves n (a ^^^ b) = halves n a ^^^ halves n b := by
  induction n generalizing a b with
  | zero => rfl
  | succ n ih => simp only [halves, half_xor, ih]
theorem halves_ne (n : Nat) {c : BitVec 32} (h : c ≠ 0#32) : halves n c ≠ 0#32 := by
  induction n generalizing c with
  | zero => exact h
  | succ n ih => exact ih (half_ne h)
theorem halves_zero (n : Nat) : halves n 0#32 = 0#32 := by
  induction n with
  | zero => rfl
  | succ n ih => simp only [halves, half_zero, ih]
theorem halves_add (m n : Nat) (c : BitVec 32) : halves (m + n) c = halves n (halves m c) := by
  induction m generalizing c with
  | zero => simp [halves]
  | succ m ih => rw [Nat.succ_add]; simp only [halves, ih]
theorem halves_succ' (n : Nat) (c : BitVec 32) : halves (n + 1) c = half (halves n c) := halves_add n 1 c

/-- The bit i alone. -/
def bitAt (i : Nat) : BitVec 32 := 1#32 <<< i
theorem bitAt_nat (i : Nat) (h : i < 32) : (bitAt i).toNat = 2 ^ i := by
  have : 2 ^ i < 2 ^ 32 := Nat.pow_lt_pow_right (by decide) h
  simp only [bitAt, BitVec.toNat_shiftLeft, BitVec.toNat_ofNat, Nat.shiftLeft_eq]
  have h1 : 1 % 2 ^ 32 = 1 := by decide
  rw [h1, Nat.one_mul, Nat.mod_eq_of_lt this]
theorem half_bit (i : Nat) (h : i + 1 < 32) : half (bitAt (i + 1)) = bitAt i := by
  have hz : (bitAt (i + 1)).getLsbD 0 = false := by simp [bitAt]
  rw [half, hz]
  simp only [Bool.false_eq_true, if_false]
  apply BitVec.eq_of_toNat_eq
  rw [BitVec.toNat_ushiftRight, bitAt_nat _ h, bitAt_nat _ (by omega), Nat.shiftRight_eq_div_pow, Nat.pow_succ]
  omega
theorem halves_bit (i : Nat) (hi : i < 32) (n : Nat) (h : i ≤ n) : halves n (bitAt i) = halves (n - i) (bitAt 0) := by
  induction i generalizing n with
  | zero => simp
  | succ i ih =>
    obtain ⟨m, rfl⟩ : ∃ m, n = m + 1 := ⟨n - 1, by omega⟩
    rw [halves, half_bit i hi, ih (by omega) m (by omega)]
    congr 1
    omega
theorem bitAt_ne (i : Nat) (h : i < 32) : bitAt i ≠ 0#32 := by
  intro e
  have := congrArg (fun x => BitVec.getLsbD x i) e
  simp [bitAt, h] at this

/-- A byte goes in. -/
def stepB (c : BitVec 32) (b : Nat) : BitVec 32 := halves 8 (c ^^^ BitVec.ofNat 32 b)
/-- Bytes go in, one behind the other. -/
def crcs (c : BitVec 32) (l : List Nat) : BitVec 32 := l.foldl stepB c
/-- The sum of the bytes whose sum is c, and l behind them. -/
def crcMore (c : BitVec 32) (l : List Nat) : BitVec 32 := ~~~ (crcs (~~~ c) l)

theorem crcs_app (c : BitVec 32) (l m : List Nat) : crcs c (l ++ m) = crcs (crcs c l) m := by simp [crcs]
theorem crcs_snoc (c : BitVec 32) (l : List Nat) (b : Nat) : crcs c (l ++ [b]) = stepB (crcs c l) b := by simp [crcs]
theorem crcMore_more (l m : List Nat) (c : BitVec 32) : crcMore (crcMore c l) m = crcMore c (l ++ m) := by
  simp [crcMore, crcs_app]
theorem stepB_xor (a c : BitVec 32) (b : Nat) : stepB (a ^^^ c) b = stepB a b ^^^ halves 8 c := by
  unfold stepB
  rw [← halves_xor]
  congr 1
  rw [BitVec.xor_assoc, BitVec.xor_comm c, ← BitVec.xor_assoc]
theorem crcs_xor (a c : BitVec 32) (l : List Nat) : crcs (a ^^^ c) l = crcs a l ^^^ halves (8 * l.length) c := by
  induction l generalizing a c with
  | nil => simp [crcs, halves]
  | cons b l ih =>
    show crcs (stepB (a ^^^ c) b) l = crcs (stepB a b) l ^^^ halves (8 * (l.length + 1)) c
    rw [stepB_xor, ih, Nat.mul_add, Nat.add_comm (8 * l.length), halves_add]
/-- A byte of a list turned by d. -/
theorem crcs_turn (s : BitVec 32) (l : List Nat) (j d : Nat) (hj : j < l.length) :
    crcs s (l.set j (l[j] ^^^ d)) = crcs s l ^^^ halves (8 * (l.length - j)) (BitVec.ofNat 32 d) := by
  induction l generalizing s j with
  | nil => simp at hj
  | cons b l ih =>
    cases j with
    | zero =>
      show crcs (stepB s (b ^^^ d)) l = crcs (stepB s b) l ^^^ halves (8 * (l.length + 1)) (BitVec.ofNat 32 d)
      have e : stepB s (b ^^^ d) = stepB s b ^^^ halves 8 (BitVec.ofNat 32 d) := by
        unfold stepB
        rw [← halves_xor, BitVec.ofNat_xor, BitVec.xor_assoc]
      rw [e, crcs_xor, Nat.mul_add, Nat.add_comm (8 * l.length), halves_add]
    | succ j =>
      have := ih (stepB s b) j (by simpa using hj)
      simpa [crcs] using this

/-- The sums of bytes of which one differs are unlike. -/
theorem crc_byte (l : List Nat) (j d : Nat) (hj : j < l.length) (hd : d < 256) (h0 : d ≠ 0) : crcMore 0#32 (l.set j (l[j] ^^^ d)) ≠ crcMore 0#32 l := by
  intro e
  have e1 : crcs (~~~ 0#32) (l.set j (l[j] ^^^ d)) = crcs (~~~ 0#32) l := by
    have := congrArg (fun x => ~~~ x) e
    simpa [crcMore] using this
  rw [crcs_turn _ _ _ _ hj] at e1
  have e2 : halves (8 * (l.length - j)) (BitVec.ofNat 32 d) = 0#32 := by
    have := congrArg (fun x => crcs (~~~ 0#32) l ^^^ x) e1
    simpa [← BitVec.xor_assoc] using this
  refine halves_ne _ ?_ e2
  intro h
  have := congrArg BitVec.toNat h
  simp at this
  omega

/-- The word i of the table, and how it serves. -/
def crcWord (i : Nat) : BitVec 32 := halves 8 (BitVec.ofNat 32 i)
theorem half_even {c : BitVec 32} (h : c.getLsbD 0 = false) : half c = c >>> 1 := by
  rw [half, h]
  simp only [Bool.false_eq_true, if_false]
theorem halves_high (n : Nat) (hn : n ≤ 32) (c : BitVec 32) (h : ∀ i, i < n → c.getLsbD i = false) : halves n c = c >>> n := by
  induction n generalizing c with
  | zero => simp [halves]
  | succ n ih =>
    rw [halves, half_even (h 0 (by omega)), ih (by omega) _ (fun i hi => by
      have := h (i + 1) (by omega)
      simpa [Nat.add_comm] using this), ← BitVec.shiftRight_add]
    congr 1
    omega
theorem stepB_table (c : BitVec 32) (b : Nat) (hb : b < 256) : stepB c b = crcWord ((c ^^^ BitVec.ofNat 32 b).toNat % 256) ^^^ (c >>> 8) := by
  have hlow : ∀ x : BitVec 32, x = BitVec.ofNat 32 (x.toNat % 256) ^^^ ((x >>> 8) <<< 8) := by
    intro x
    apply BitVec.eq_of_getLsbD_eq
    intro i hi
    have h256 : (x.toNat % 256).testBit i = (decide (i < 8) && x.toNat.testBit i) := by
      rw [show 256 = 2 ^ 8 by decide, Nat.testBit_mod_two_pow]
    simp only [BitVec.getLsbD_xor, BitVec.getLsbD_ofNat, h256, BitVec.getLsbD_shiftLeft, BitVec.getLsbD_ushiftRight]
    rw [← BitVec.testBit_toNat]
    by_cases h8 : i < 8
    · simp [h8, hi]
    · simp [h8, hi, show 8 + (i - 8) = i by omega, BitVec.testBit_toNat]
  have hshift : (c ^^^ BitVec.ofNat 32 b) >>> 8 = c >>> 8 := by
    rw [BitVec.ushiftRight_xor_distrib]
    have : BitVec.ofNat 32 b >>> 8 = 0#32 := by
      apply BitVec.eq_of_toNat_eq
      simp [Nat.shiftRight_eq_div_pow]
      omega
    rw [this, BitVec.xor_zero]
  unfold stepB crcWord
  conv => lhs; rw [hlow (c ^^^ BitVec.ofNat 32 b)]
  rw [halves_xor, halves_high 8 (by decide) (((c ^^^ BitVec.ofNat 32 b) >>> 8) <<< 8) (fun i hi => by simp [hi]), hshift]
  congr 1
  apply BitVec.eq_of_getLsbD_eq
  intro i hi
  simp
  intro hg
  rcases Nat.lt_or_ge (8 + i) 32 with h1 | h1
  · exact h1
  · rw [BitVec.getLsbD_of_ge _ _ h1] at hg
    cases hg

/-- What was turned of l from a bit on, i bits gone by: l' is what has become of it, t tells whether anything was. -/
def Turned (l : List Nat) (at_ i : Nat) (l' : List Nat) (t : Bool) : Prop :=
  l'.length = l.length ∧ (∀ b ∈ l', b < 256) ∧ ∃ W : BitVec 32, (∀ s, crcs s l' = crcs s l ^^^ halves (8 * l.length - at_) W) ∧ (∀ j, i ≤ j → W.getLsbD j = false) ∧ (t = true ↔ W ≠ 0#32)
theorem Turned.start (l : List Nat) (at_ : Nat) (hb : ∀ b ∈ l, b < 256) : Turned l at_ 0 l false :=
  ⟨rfl, hb, 0#32, fun s => by rw [halves_zero, BitVec.xor_zero], fun j _ => by simp, by simp⟩
theorem Turned.next {l l' : List Nat} {at_ i : Nat} {t : Bool} (h : Turned l at_ i l' t) : Turned l at_ (i + 1) l' t := by
  obtain ⟨h1, h2, W, h3, h4, h5⟩ := h
  exact ⟨h1, h2, W, h3, fun j hj => h4 j (by omega), h5⟩
theorem Turned.turn {l l' : List Nat} {at_ i : Nat} {t : Bool} (h : Turned l at_ i l' t) (hi : i < 32) (hk : at_ + i < 8 * l.length) (p : Nat) (hp : l'.getD ((at_ + i) / 8) 0 = p) :
    Turned l at_ (i + 1) (l'.set ((at_ + i) / 8) (p ^^^ 2 ^ ((at_ + i) % 8))) true := by
  obtain ⟨h1, h2, W, h3, h4, h5⟩ := h
  have hj : (at_ + i) / 8 < l'.length := by omega
  have hp' : l'[(at_ + i) / 8] = p := by rw [← hp]; simp [List.getD, hj]
  have hpb : p < 256 := by rw [← hp']; exact h2 _ (List.getElem_mem hj)
  have hm : (at_ + i) % 8 < 8 := Nat.mod_lt _ (by decide)
  have hpow : 2 ^ ((at_ + i) % 8) < 256 := Nat.pow_lt_pow_right (a := 2) (by decide) hm
  refine ⟨by simp [h1], fun b hb => ?_, W ^^^ bitAt i, fun s => ?_, fun j hj => ?_, ?_⟩
  · rcases List.mem_or_eq_of_mem_set hb with hb | hb
    · exact h2 b hb
    · rw [hb]
      exact Nat.xor_lt_two_pow (n := 8) hpb hpow
  · have e := crcs_turn s l' ((at_ + i) / 8) (2 ^ ((at_ + i) % 8)) hj
    rw [hp'] at e
    rw [e, h3 s, halves_xor, BitVec.xor_assoc]
    congr 2
    have hbit : BitVec.ofNat 32 (2 ^ ((at_ + i) % 8)) = bitAt ((at_ + i) % 8) := by
      apply BitVec.eq_of_toNat_eq
      rw [bitAt_nat _ (by omega), BitVec.toNat_ofNat, Nat.mod_eq_of_lt (by omega)]
    rw [hbit, halves_bit _ (by omega) _ (by omega), halves_bit i hi _ (by omega)]
    congr 1
    omega
  · rw [BitVec.getLsbD_xor, h4 j (by omega)]
    have hne : j ≠ i := by omega
    rw [← BitVec.testBit_toNat, bitAt_nat i hi, Nat.testBit_two_pow]
    simp
    omega
  · simp only [true_iff]
    intro e
    have := congrArg (fun x => BitVec.getLsbD x i) e
    simp only [BitVec.getLsbD_xor, h4 i (Nat.le_refl _), BitVec.getLsbD_zero] at this
    rw [← BitVec.testBit_toNat, bitAt_nat i hi, Nat.testBit_two_pow] at this
    simp at this
/-- What is turned is seen. -/
theorem Turned.seen {l l' : List Nat} {at_ i : Nat} {t : Bool} (h : Turned l at_ i l' t) : (crcMore 0#32 l ≠ crcMore 0#32 l') ↔ t = true := by
  obtain ⟨h1, h2, W, h3, h4, h5⟩ := h
  rw [h5]
  have e : crcMore 0#32 l = crcMore 0#32 l' ↔ halves (8 * l.length - at_) W = 0#32 := by
    constructor
    · intro e
      have e1 : crcs (~~~ 0#32) l = crcs (~~~ 0#32) l' := by
        have := congrArg (fun x => ~~~ x) e
        simpa [crcMore] using this
      rw [h3] at e1
      have := congrArg (fun x => crcs (~~~ 0#32) l ^^^ x) e1
      simpa [← BitVec.xor_assoc] using this.symm
    · intro e
      simp [crcMore, h3, e]
  constructor
  · intro hne hw
    apply hne
    rw [e, hw, halves_zero]
  · intro hw hne
    exact halves_ne _ hw (e.1 hne)
end Go.Proofs.Ytaecaanepomkdaa
