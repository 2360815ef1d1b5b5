/-
  The program's frames: the mathematics of frames, Encode, the reader's state, what it looks at, by walks over their texts.
-/
import Derived.Test.YtemnmjfeljipjaaGreatVs
import Derived.Test.YtemnmjfeljipjaaGreatMo
import Derived.Test.YtemnmjfeljipjaaGreatRc
import Derived.Test.YtemnmjfeljipjaaGreatVp
import Derived.Test.YtemnmjfeljipjaaGreatEl
import Derived.Test.YtemnmjfeljipjaaGreatNi
import Derived.Test.YtemnmjfeljipjaaGreatNt
import Derived.Test.YtemnmjfeljipjaaGreatEc
import Derived.Deep.RegionLaw
import Derived.Deep.QuietTactic
import Derived.BigQuiet
import Derived.Test.YtemnmjfeljipjaaGreatVg
import Derived.Deep.RegionHeld3
namespace Go.Proofs.YtemnmjfeljipjaaGreat
open Go.RowKit Go.ChangeShapes Go.WideShapes Go.ChangeAt

def sumB (n : Nat) : List Nat := [n / 16777216 % 256, n / 65536 % 256, n / 256 % 256, n % 256]
def sumL (l : List Nat) : List Nat := sumB (crcMore 0#32 l).toNat
/-- All of a frame but its sum. -/
def openF (k : Nat) (m : List Nat) : List Nat := [76, 68, 1, k] ++ vput m.length ++ m
def frameF (k : Nat) (m : List Nat) : List Nat := openF k m ++ sumL (openF k m)
theorem sumB_len (n : Nat) : (sumB n).length = 4 := rfl
theorem sumL_len (l : List Nat) : (sumL l).length = 4 := rfl
theorem sumB_byte (n : Nat) : ∀ b ∈ sumB n, b < 256 := by
  intro b hb
  simp only [sumB, List.mem_cons, List.not_mem_nil, or_false] at hb
  omega
theorem sumB_inj {m n : Nat} (hm : m < 4294967296) (hn : n < 4294967296) (h : sumB m = sumB n) : m = n := by
  simp only [sumB, List.cons.injEq, and_true] at h
  omega
theorem sumL_inj {l m : List Nat} (h : sumL l = sumL m) : crcMore 0#32 l = crcMore 0#32 m :=
  BitVec.eq_of_toNat_eq (sumB_inj (crcMore 0#32 l).isLt (crcMore 0#32 m).isLt h)

/-- Where a message's bytes begin, and where they end. -/
def beginF (l : List Nat) : Nat := 4 + (vget 0 0 (l.drop 4)).2.1
def endF (l : List Nat) : Nat := beginF l + (vget 0 0 (l.drop 4)).1
/-- What is wrong with the byte that a phase looks at. -/
def byteF (p b : Nat) : Nat :=
  if p = 0 then (if b = 76 then 0 else 70) else if p = 1 then (if b = 68 then 0 else 70) else if p = 2 then (if b = 1 then 0 else 71) else if 1 ≤ b ∧ b ≤ 24 then 0 else 61
def sizeF (r : Nat × Nat × Nat) : Nat := if r.2.2 ≠ 0 then r.2.2 else if 4096 < r.1 then 72 else 0
/-- What is wrong with what a phase looks at; 40: it isn't there yet. -/
def lookF (p : Nat) (l : List Nat) : Nat :=
  if p < 4 then (if l.length ≤ p then 40 else byteF p (byteAt l p))
  else if p = 4 then sizeF (vget 0 0 (l.drop 4))
  else if endF l + 4 ≤ l.length then 0 else 40
inductive Fst where
  | more | bad (e : Nat) | got (x : MsgV) (n : Nat)
def takeF (l : List Nat) : Fst :=
  if (l.drop (endF l)).take 4 ≠ sumL (l.take (endF l)) then .bad 73
  else match readM (byteAt l 3) ((l.take (endF l)).drop (beginF l)) with
    | .inr e => .bad e
    | .inl x => .got x (endF l + 4)
def goF : Nat → Nat → List Nat → Fst
  | 0, _, l => takeF l
  | k + 1, p, l => if lookF p l = 0 then goF k (p + 1) l else if lookF p l = 40 then .more else .bad (lookF p l)
/-- What bytes begin with. -/
def firstF (l : List Nat) : Fst := goF 6 0 l

/-- The phases ahead of p have found nothing wrong. -/
def PastF (p : Nat) (l : List Nat) : Prop := ∀ q, q < p → lookF q l = 0
theorem PastF.zero (l : List Nat) : PastF 0 l := fun _ h => absurd h (Nat.not_lt_zero _)
theorem PastF.next {p : Nat} {l : List Nat} (h : PastF p l) (k : lookF p l = 0) : PastF (p + 1) l := fun q hq => by
  by_cases e : q = p
  · rw [e]; exact k
  · exact h q (by omega)
theorem goF_past : ∀ (p k : Nat) (l : List Nat), PastF p l → goF (p + k) 0 l = goF k p l := by
  intro p
  induction p with
  | zero => intro k l _; rw [Nat.zero_add]
  | succ p ih =>
    intro k l h
    have e : p + 1 + k = p + (k + 1) := by omega
    rw [e, ih (k + 1) l (fun q hq => h q (by omega)), goF, if_pos (h p (by omega))]
theorem firstF_more {p : Nat} {l : List Nat} (hp : p < 6) (h : PastF p l) (k : lookF p l = 40) : firstF l = .more := by
  have e : (6 : Nat) = p + ((5 - p) + 1) := by omega
  unfold firstF
  rw [e, goF_past p _ l h, goF, if_neg (by omega), if_pos k]
theorem firstF_bad {p : Nat} {l : List Nat} (hp : p < 6) (h : PastF p l) (k : lookF p l ≠ 40) (k0 : lookF p l ≠ 0) : firstF l = .bad (lookF p l) := by
  have e : (6 : Nat) = p + ((5 - p) + 1) := by omega
  unfold firstF
  rw [e, goF_past p _ l h, goF, if_neg k0, if_neg k]
theorem firstF_take {l : List Nat} (h : PastF 6 l) : firstF l = takeF l := by
  have := goF_past 6 0 l h
  exact this

/-- More bytes change nothing of a number that was read. -/
theorem vget_app : ∀ (l r : List Nat) (i A : Nat), (vget i A l).2.2 = 0 → vget i A (l ++ r) = vget i A l := by
  intro l
  induction l with
  | nil => intro r i A h; simp [vget] at h
  | cons p l ih =>
    intro r i A h
    simp only [List.cons_append, vget] at h ⊢
    split
    · rfl
    · rename_i h1
      rw [if_neg h1] at h
      split
      · rename_i h2
        rw [if_pos h2] at h
        exact ih r _ _ h
      · rfl
theorem vget_used : ∀ (l : List Nat) (i A : Nat), (vget i A l).2.2 = 0 → i < (vget i A l).2.1 ∧ (vget i A l).2.1 ≤ i + l.length := by
  intro l
  induction l with
  | nil => intro i A h; simp [vget] at h
  | cons p l ih =>
    intro i A h
    simp only [vget, List.length_cons] at h ⊢
    split
    · rename_i h1
      rw [if_pos h1] at h
      simp at h
    · rename_i h1
      rw [if_neg h1] at h
      split
      · rename_i h2
        rw [if_pos h2] at h
        have := ih _ _ h
        omega
      · rename_i h2
        rw [if_neg h2] at h
        split
        · rename_i h3
          rw [if_pos h3] at h
          simp at h
        · simp
theorem byteAt_app {l r : List Nat} {p : Nat} (h : p < l.length) : byteAt (l ++ r) p = byteAt l p := by
  unfold byteAt
  simp [List.getD, List.getElem?_append_left h]
/-- What a phase has found right stays so, whatever comes behind. -/
theorem PastF.len {p : Nat} {l : List Nat} (h : PastF p l) (hp : p ≤ 4) : p ≤ l.length := by
  by_cases h0 : p = 0
  · omega
  · have h1 := h (p - 1) (by omega)
    unfold lookF at h1
    rw [if_pos (by omega)] at h1
    by_cases h2 : l.length ≤ p - 1
    · rw [if_pos h2] at h1
      omega
    · omega
theorem PastF.sized {l : List Nat} (h : PastF 5 l) : (vget 0 0 (l.drop 4)).2.2 = 0 ∧ (vget 0 0 (l.drop 4)).1 ≤ 4096 := by
  have h1 := h 4 (by omega)
  unfold lookF sizeF at h1
  rw [if_neg (by omega), if_pos rfl] at h1
  split at h1
  · omega
  · rename_i h2
    split at h1
    · omega
    · exact ⟨by omega, by omega⟩
theorem PastF.same {l : List Nat} (h : PastF 5 l) (r : List Nat) : vget 0 0 ((l ++ r).drop 4) = vget 0 0 (l.drop 4) := by
  have h1 := PastF.len (p := 4) (fun q hq => h q (by omega)) (Nat.le_refl _)
  rw [List.drop_append_of_le_length h1, vget_app _ _ _ _ h.sized.1]
theorem PastF.app {p : Nat} {l : List Nat} (h : PastF p l) (r : List Nat) (hp : p ≤ 6) : PastF p (l ++ r) := by
  intro q hq
  have h1 := h q hq
  by_cases h4 : q < 4
  · unfold lookF at h1 ⊢
    rw [if_pos h4] at h1 ⊢
    have h2 : ¬ l.length ≤ q := fun hh => by
      rw [if_pos hh] at h1
      omega
    rw [if_neg h2] at h1
    rw [if_neg (by simp; omega), byteAt_app (by omega)]
    exact h1
  · by_cases h5 : q = 4
    · subst h5
      have h2 := PastF.len (p := 4) (fun q hq => h q (by omega)) (Nat.le_refl _)
      unfold lookF at h1 ⊢
      rw [if_neg h4, if_pos rfl] at h1 ⊢
      rw [List.drop_append_of_le_length h2, vget_app]
      · exact h1
      · unfold sizeF at h1
        split at h1
        · omega
        · omega
    · have h6 := PastF.same (fun q hq => h q (by omega)) r
      unfold lookF at h1 ⊢
      rw [if_neg h4, if_neg h5] at h1 ⊢
      have h7 : ¬ ¬ endF l + 4 ≤ l.length := fun hh => by
        rw [if_neg hh] at h1
        omega
      have h8 : endF (l ++ r) = endF l := by
        unfold endF beginF
        rw [h6]
      rw [h8, if_pos (by rw [List.length_append]; omega)]
/-- The length's bytes lie in what came. -/
theorem PastF.begins {l : List Nat} (h : PastF 5 l) : 5 ≤ beginF l ∧ beginF l ≤ l.length := by
  have h1 := PastF.len (p := 4) (fun q hq => h q (by omega)) (Nat.le_refl _)
  have h2 := vget_used (l.drop 4) 0 0 h.sized.1
  unfold beginF
  simp at h2
  omega

/-- A whole frame is found, whatever stands behind it. -/
theorem form_kind {k : Nat} {fs : List Fld} (h : formM k = some fs) : 1 ≤ k ∧ k ≤ 24 := by
  unfold formM at h
  split at h <;> first | omega | cases h
theorem fitM_kind {x : MsgV} (h : fitM x) : 1 ≤ x.kind ∧ x.kind ≤ 24 := by
  obtain ⟨fs, h1, _⟩ := h
  exact form_kind h1
/-- The frame, seen from its beginning: what looks at its bytes. -/
theorem openF_drop (k : Nat) (m r : List Nat) : (openF k m ++ r).drop 4 = vput m.length ++ (m ++ r) := by
  simp [openF]
theorem open_look {k : Nat} {m r : List Nat} (hk : 1 ≤ k ∧ k ≤ 24) (hm : m.length ≤ 4096) : PastF 5 (openF k m ++ r) ∧ beginF (openF k m ++ r) = 4 + (vput m.length).length ∧ endF (openF k m ++ r) = (openF k m).length := by
  have hv : vget 0 0 ((openF k m ++ r).drop 4) = (m.length, (vput m.length).length, 0) := by
    rw [openF_drop, vget_put0 _ _ (by omega)]
  have hl : 4 ≤ (openF k m ++ r).length := by simp [openF]
  refine ⟨fun q hq => ?_, by unfold beginF; rw [hv], by unfold endF beginF; rw [hv]; simp [openF]; omega⟩
  unfold lookF
  by_cases h4 : q < 4
  · rw [if_pos h4, if_neg (by omega)]
    rcases (by omega : q = 0 ∨ q = 1 ∨ q = 2 ∨ q = 3) with rfl | rfl | rfl | rfl
    · rfl
    · rfl
    · rfl
    · have : byteAt (openF k m ++ r) 3 = k := rfl
      rw [this]
      unfold byteF
      rw [if_neg (by omega), if_neg (by omega), if_neg (by omega), if_pos hk]
  · have : q = 4 := by omega
    subst this
    rw [if_neg (by omega), if_pos rfl, hv]
    unfold sizeF
    rw [if_neg (by simp), if_neg (by simp; omega)]
theorem frame_found {x : MsgV} (h : fitM x) (hm : (bytesM x).length ≤ 4096) (r : List Nat) : firstF (frameF x.kind (bytesM x) ++ r) = .got x (frameF x.kind (bytesM x)).length := by
  obtain ⟨m, hM⟩ : ∃ m, bytesM x = m := ⟨_, rfl⟩
  have hb := readM_back x h
  rw [hM] at hm hb ⊢
  have hk := fitM_kind h
  unfold frameF
  rw [List.append_assoc]
  obtain ⟨h5, h1, h2⟩ := open_look (r := sumL (openF x.kind m) ++ r) hk hm
  have h6 : PastF 6 (openF x.kind m ++ (sumL (openF x.kind m) ++ r)) := h5.next (by
    unfold lookF
    rw [if_neg (by omega), if_neg (by omega), h2, if_pos (by simp [sumL_len])])
  rw [firstF_take h6]
  unfold takeF
  rw [h1, h2, List.take_left', List.drop_left']
  · have e1 : (sumL (openF x.kind m) ++ r).take 4 = sumL (openF x.kind m) := by
      rw [List.take_left' (sumL_len _)]
    have e2 : byteAt (openF x.kind m ++ (sumL (openF x.kind m) ++ r)) 3 = x.kind := rfl
    have e3 : (openF x.kind m).drop (4 + (vput m.length).length) = m := by
      unfold openF
      rw [List.drop_left' (by simp; omega)]
    rw [e1, if_neg (by simp), e2, e3, hb]
    simp [sumL_len]
  · rfl
  · rfl
/-- What is cut off a frame is not a frame yet. -/
theorem frame_cut {x : MsgV} (h : fitM x) (hm : (bytesM x).length ≤ 4096) (k : Nat) (hk : k < (frameF x.kind (bytesM x)).length) : firstF ((frameF x.kind (bytesM x)).take k) = .more := by
  obtain ⟨m, hM⟩ : ∃ m, bytesM x = m := ⟨_, rfl⟩
  rw [hM] at hm hk ⊢
  have hkk := fitM_kind h
  obtain ⟨l, hl⟩ : ∃ l, (frameF x.kind m).take k = l := ⟨_, rfl⟩
  have hll : l.length = k := by rw [← hl, List.length_take]; omega
  obtain ⟨h5, h1, h2⟩ := open_look (r := sumL (openF x.kind m)) hkk hm
  have hfl : (frameF x.kind m).length = (openF x.kind m).length + 4 := by simp [frameF, sumL_len]
  have hol : (openF x.kind m).length = 4 + (vput m.length).length + m.length := by simp [openF]; omega
  have hat : ∀ q, q < k → byteAt l q = byteAt (frameF x.kind m) q := fun q hq => by
    unfold byteAt
    rw [← hl]
    simp [List.getD, List.getElem?_take_of_lt hq]
  have hlow : ∀ q, q < 4 → q < k → lookF q l = 0 := fun q h4 hq => by
    have h3 := h5 q (by omega)
    unfold lookF at h3 ⊢
    rw [if_pos h4] at h3 ⊢
    rw [if_neg (by omega), hat q hq]
    have h6 : ¬ (openF x.kind m ++ sumL (openF x.kind m)).length ≤ q := by rw [List.length_append]; omega
    rw [if_neg h6] at h3
    exact h3
  rw [hl]
  by_cases h4 : k < 4
  · refine firstF_more (p := k) (by omega) (fun q hq => hlow q (by omega) hq) ?_
    unfold lookF
    rw [if_pos h4, if_pos (by omega)]
  · have hd : l.drop 4 = (vput m.length ++ (m ++ sumL (openF x.kind m))).take (k - 4) := by
      rw [← hl, List.drop_take]
      unfold frameF
      rw [openF_drop]
    by_cases hv : k - 4 < (vput m.length).length
    · refine firstF_more (p := 4) (by omega) (fun q hq => hlow q hq (by omega)) ?_
      unfold lookF
      rw [if_neg (by omega), if_pos rfl, hd, List.take_append_of_le_length (by omega), vget_cut0 _ _ (by omega) hv]
      rfl
    · have hg : vget 0 0 (l.drop 4) = (m.length, (vput m.length).length, 0) := by
        rw [hd, List.take_append, List.take_of_length_le (by omega), vget_put0 _ _ (by omega)]
      have h44 : PastF 4 l := fun q hq => hlow q hq (by omega)
      refine firstF_more (p := 5) (by omega) (h44.next ?_) ?_
      · unfold lookF sizeF
        rw [if_neg (by omega), if_pos rfl, hg, if_neg (by simp), if_neg (by simp; omega)]
      · unfold lookF endF beginF
        rw [if_neg (show ¬ (5 : Nat) < 4 by decide), if_neg (show ¬ (5 : Nat) = 4 by decide), hg, if_neg (by simp; omega)]
theorem firstF_nil : firstF [] = .more := rfl
/-- What was found is taken off. -/
theorem firstF_len {l : List Nat} {x : MsgV} {n : Nat} (h : firstF l = .got x n) : 4 ≤ n ∧ n ≤ l.length := by
  have key : ∀ k p, p + k = 6 → PastF p l → goF k p l = .got x n → 4 ≤ n ∧ n ≤ l.length := by
    intro k
    induction k with
    | zero =>
      intro p hp hpast hgo
      have h6 : PastF 6 l := by
        have : p = 6 := by omega
        subst this
        exact hpast
      have h1 := h6 5 (by omega)
      unfold lookF at h1
      rw [if_neg (by omega), if_neg (by omega)] at h1
      have h2 : endF l + 4 ≤ l.length := by
        by_cases hh : endF l + 4 ≤ l.length
        · exact hh
        · rw [if_neg hh] at h1
          omega
      unfold goF takeF at hgo
      split at hgo
      · cases hgo
      · split at hgo
        · cases hgo
        · cases hgo
          omega
    | succ k ih =>
      intro p hp hpast hgo
      rw [goF] at hgo
      split at hgo
      · rename_i h0
        exact ih (p + 1) (by omega) (hpast.next h0) hgo
      · split at hgo <;> cases hgo
  exact key 6 0 rfl (PastF.zero l) h

/-- A literal row of bytes, as the walk spells it. -/
theorem OwnV.lits (w : World) (t : TypeId) (bs : List Nat) (cs : Array Value) (n : Nat) (hc : cs = (bs.map byteV).toArray) (hn : n = bs.length) (h : bs.length ≤ 1000000) (hb : ∀ b ∈ bs, b < 256) : OwnV (w.alloc (.cells cs t)) w.heap.size t (.slice (some ⟨w.heap.size, 0, none⟩) n n) bs := by
  subst hc
  subst hn
  exact OwnV.lit w t bs h hb

set_option maxRecDepth 100000 in
set_option maxHeartbeats 3200000 in
theorem sumb_any (g : Nat) (t : Bool) (a : Option Addr) (n c : Nat) (bs : List Nat) (w : World) (hs : SumAt w g t) (h : BReads w a n c bs) (hg : 0 < n → ∀ ad, a = some ad → ad.block ≠ g) :
    Calls Tryz.prog 61 #[.pointer (some ⟨g, 0, none⟩), .slice a n c] w fun e w' => ∃ v, e = .returned v ∧ OwnV w' w.heap.size 5 v (sumL bs) ∧ SumAt w' g true ∧ Kept [g] w w' := by
  have HS := Lib.hid hs
  have HR := Lib.hid h
  have HG := Lib.hid hg
  clear hs h hg
  go_enter Tryz.func61, Tryz.ntmps61
  go_wp2_with (fail)
  refine (of_any g t a n c bs w HS.out HR.out HG.out).mono ?_
  rintro e w1 ⟨rfl, hs1, hk1⟩
  obtain ⟨m, hm⟩ : ∃ m, (crcMore 0#32 bs).toNat = m := ⟨_, rfl⟩
  have hm32 : m < 4294967296 := by rw [← hm]; exact (crcMore 0#32 bs).isLt
  rw [hm]
  have HM := Lib.hid (show sumL bs = sumB m from by rw [sumL, hm])
  have HS1 := Lib.hid hs1
  have HK1 := Lib.hid hk1
  clear hm hs1 hk1 HS HR HG
  go_wp2
  go_ret
  refine ⟨_, rfl, ?_, HS1.out.on ((Below.refl _ _).alloc (Nat.le_refl _) _), HK1.out.alloc _⟩
  rw [HM.out]
  have ho := OwnV.lits w1 5 (sumB m) _ 4 (show #[.int .u8 ((m : Int) / 16777216), .int .u8 ((m : Int) / 65536 % 256), .int .u8 ((m : Int) / 256 % 256), .int .u8 ((m : Int) % 256)] = _ from by
    simp [sumB, byteV]
    omega) rfl (by simp [sumB]) (sumB_byte m)
  exact ho.mono HK1.out.size

theorem wp_load_e {P : Program} {ops : Array Oper} {rest : List Oper} {o : Oper} {act : Act} {Q : Exit → Act → World → Prop} (w : World) (hw : Region.wanted o (yielded ops act.tmps) = true) (ty : TypeId) (x : Operand) (hop : o.op = .load ty x) (g : Nat) (t : TypeId) (cs : Array Value) (d : TypeDesc)
    (hx : act.eval x = .pointer (some ⟨g, 0, none⟩)) (hb : w.heap[g]? = some (.cells cs t (0, 0))) (hu : P.underlying ty = some d) (hd : (match d with | .struct _ | .array _ _ => true | _ => false) = true) (hi : (P.info? ty).map (·.size) = some cs.size)
    (K : wpList P ops Q rest (act.put o.dst (.agg cs)) w) : wpList P ops Q (o :: rest) act w := by
  refine BigFrame.wpList_want hw fun K' hK => ?_
  have hl := run_loadVar_row (P := P) w g t ty cs (0, 0) d hb hu hd hi
  unfold Oper.wp execOp
  simp only [hop, hx, Instr.loadAt, Instr.sureAddr, Sem.run_bind, Sem.run_pure, Result.andThen_ok, hl]
  exact hK _ _ K
theorem bytesM_small (x : MsgV) (h : fitM x) : (bytesM x).length ≤ 800000000 := by
  obtain ⟨fs, h1, h2, h3⟩ := h
  have h4 := encF_len fs x h3
  have h5 := (form_some _ fs h1).2
  unfold bytesM
  rw [h1]
  show (encF fs x).length ≤ _
  omega
/-- What Encode leaves. -/
def EncPost (x : MsgV) (w : World) (e : Ending) (w' : World) : Prop := Below w.heap.size w w' ∧
  ((fitM x ∧ (bytesM x).length ≤ 4096 ∧ ∃ v, e = .returned (.tuple #[v, .int .i64 0]) ∧ OwnV w' w.heap.size 5 v (frameF x.kind (bytesM x)))
    ∨ (¬ fitM x ∧ e = .returned (.tuple #[.slice none 0 0, .int .i64 62])) ∨ (fitM x ∧ 4096 < (bytesM x).length ∧ e = .returned (.tuple #[.slice none 0 0, .int .i64 72])))

set_option maxRecDepth 100000 in
set_option maxHeartbeats 12800000 in
theorem enc_any {ok : Nat → Prop} (m : MsgL) (w : World) (h : m.In ok w) :
    Calls Tryz.prog 26 #[.agg m.cells.toArray] w fun e w' => EncPost m.toM w e w' := by
  have HM := Lib.hid h.lt
  clear h
  obtain ⟨M, hM⟩ : ∃ M, m.cells.toArray = M := ⟨_, rfl⟩
  have hM28 : M.size = 28 := by
    rw [← hM]
    rfl
  have hinfoM : (Tryz.prog.info? 37).map (·.size) = some M.size := by
    rw [hM28]
    kernel_rfl
  rw [hM]
  obtain ⟨w1, hw1⟩ : ∃ w1, w.alloc (.cells M 37) = w1 := ⟨_, rfl⟩
  have HB1 : w1.heap[w.heap.size]? = some (.cells M 37 (0, 0)) := by
    rw [← hw1]
    exact heap_alloc_new w _
  have X1 := Lib.hid (show Blk w1 w.heap.size 37 m.cells from by rw [← hw1, ← hM]; exact Blk.new w 37 m.cells.toArray)
  have B1 := Lib.hid (show Below w.heap.size w w1 from by rw [← hw1]; exact (Below.refl _ _).alloc (Nat.le_refl _) _)
  have l1 := X1.out.lt
  have hk255 := HM.out.hkind
  have HMM := Lib.hid hM
  clear hM
  go_enter Tryz.func26, Tryz.ntmps26
  go_wp2_with (refine wp_load_e w1 (by rfl) 37 (.tmp 1) rfl w.heap.size 37 M _ (by rfl) HB1 Tryz.underlying37 rfl hinfoM ?_)
  try rw [hw1]
  clear hw1
  rw [← HMM.out]
  refine (mput_any m w1 (HM.out.under B1.out)).mono ?_
  rintro e w2 ⟨hb2, ⟨hf, v, rfl, ho⟩ | ⟨hf, rfl⟩⟩
  rotate_left
  · have B2 := Lib.hid (below_on B1.out hb2)
    have HF := Lib.hid hf
    clear hb2 hf
    go_wp2
    go_ret2
    exact ⟨B2.out, .inr (.inl ⟨HF.out, rfl⟩)⟩
  have hbl := bytesM_small _ hf
  obtain ⟨bs, hbs⟩ : ∃ bs, bytesM m.toM = bs := ⟨_, rfl⟩
  rw [hbs] at ho hbl
  obtain ⟨L, hL⟩ : ∃ L, bs.length = L := ⟨_, rfl⟩
  obtain ⟨va, vc, rfl, hvr, _⟩ := ho.reads (by omega)
  rw [hL] at hvr hbl ⊢
  have V2 := Lib.hid hvr
  have HBS := Lib.hid hbs
  have HL := Lib.hid hL
  have HF := Lib.hid hf
  have X2 := Lib.hid ((Kept.of_below (F := []) hb2 (Nat.le_refl _)).blk X1.out (by simp))
  have B2 := Lib.hid (below_on B1.out hb2)
  have hs2 := hb2.size
  have c0 : w2.cell? ⟨w.heap.size, 0, none⟩ = some (.int .u8 (m.kind : Int)) := X2.out.cell 0
  clear hb2 hf ho hbs hL hvr X1 HB1
  by_cases h4 : 4096 < L
  · go_wp2
    go_ret2
    exact ⟨B2.out, .inr (.inr ⟨HF.out, by rw [HBS.out, HL.out]; exact h4, rfl⟩)⟩
  have hlt2 : w.heap.size < w2.heap.size := by omega
  obtain ⟨k, hk⟩ : ∃ k, m.kind = k := ⟨_, rfl⟩
  rw [hk] at c0 hk255
  have HK := Lib.hid hk
  clear hk
  obtain ⟨w3, hw3⟩ : ∃ w3, w2.alloc (.cells #[.int .u8 76, .int .u8 68, .int .u8 1, .int .u8 (k : Int)] 5) = w3 := ⟨_, rfl⟩
  have O3 := Lib.hid (show OwnV w3 w2.heap.size 5 (.slice (some ⟨w2.heap.size, 0, none⟩) 4 4) [76, 68, 1, k] from by
    rw [← hw3]
    exact OwnV.lits w2 5 [76, 68, 1, k] _ 4 (by simp [byteV]) rfl (by simp) (by simp; omega))
  have B3 := Lib.hid (show Below w2.heap.size w2 w3 from by rw [← hw3]; exact (Below.refl _ _).alloc (Nat.le_refl _) _)
  go_wp2_with (fail)
  try rw [hw3]
  clear hw3 c0
  refine (put_any L w3 (by omega)).mono ?_
  rintro e w4 ⟨v4, rfl, ho4, hb4⟩
  obtain ⟨n4, hn4⟩ : ∃ n4, (vput L).length = n4 := ⟨_, rfl⟩
  have hn10 : n4 ≤ 10 := by rw [← hn4]; exact vput_len10 (by omega)
  obtain ⟨a4, c4, rfl, hr4, _⟩ := ho4.reads (by omega)
  rw [hn4] at hr4 ⊢
  have O4 := Lib.hid (O3.out.on hb4)
  have B4 := Lib.hid (B3.out.trans (hb4.mono B3.out.size))
  have R4 := Lib.hid hr4
  have hs4 := B4.out.size
  clear ho4 hb4 hn4 hr4 O3 B3
  go_wp2_with (at_builtin; go_must (refine app_bytes _ rfl (.tmp 20) (.tmp 24) 33 5 rfl Tryz.underlying33 byte_info w2.heap.size _ [76, 68, 1, k] (by rfl) O4.out a4 n4 c4 (vput L) (by rfl) R4.out (by simp; omega) hs4 ?_))
  intro v5 w5 ho5 hg5 _
  have O5 := Lib.hid ho5
  have B5 := Lib.hid (B4.out.grown hg5 hs4 (fun k hk => (O4.out.lt k hk).1))
  have hs5 := B5.out.size
  have hl5 : ([76, 68, 1, k] ++ vput L).length ≤ 14 := by
    have := R4.out.len
    simp
    omega
  have R5 := Lib.hid (V2.out.on B5.out)
  clear ho5 hg5 O4 B4 R4
  go_wp2_with (at_builtin; go_must (refine app_bytes _ rfl (.tmp 26) (.tmp 27) 33 5 rfl Tryz.underlying33 byte_info w2.heap.size v5 ([76, 68, 1, k] ++ vput L) (by rfl) O5.out va L vc bs (by rfl) R5.out (by omega) hs5 ?_))
  intro v6 w6 ho6 hg6 _
  obtain ⟨op, hop⟩ : ∃ op, [76, 68, 1, k] ++ vput L ++ bs = op := ⟨_, rfl⟩
  have hlo : op.length ≤ 14 + L := by
    rw [← hop, List.length_append, HL.out]
    omega
  have HOP := Lib.hid (show openF m.toM.kind (bytesM m.toM) = op from by
    rw [← hop, HBS.out]
    unfold openF
    rw [HL.out, show m.toM.kind = k from HK.out])
  have ho6 : OwnV w6 w2.heap.size 5 v6 op := by
    rw [← hop]
    exact ho6
  have B6 := Lib.hid (B5.out.grown hg6 hs5 (fun k hk => (O5.out.lt k hk).1))
  have hs6 := B6.out.size
  have O6 := Lib.hid ho6
  obtain ⟨a6, c6, rfl, hr6, _⟩ := ho6.reads (by omega)
  obtain ⟨n6, hn6⟩ : ∃ n6, op.length = n6 := ⟨_, rfl⟩
  rw [hn6] at hr6 O6 hlo ⊢
  have HN6 := Lib.hid hn6
  have R6 := Lib.hid hr6
  clear ho6 hg6 hop hr6 hn6 O5 B5 R5 V2
  go_wp2_with (fail)
  refine (new_any5 w6).mono ?_
  rintro e w7 ⟨rfl, hsum, hb7⟩
  have S7 := Lib.hid hsum
  have O7 := Lib.hid (O6.out.on hb7)
  have R7 := Lib.hid (R6.out.on hb7)
  have B7 := Lib.hid (B6.out.trans (hb7.mono hs6))
  have N7 := Lib.hid (R6.out.old (Nat.le_refl _))
  have hs7 := hb7.size
  clear hsum hb7 O6
  go_wp2_with (fail)
  refine (sumb_any w6.heap.size false a6 n6 c6 op w7 S7.out R7.out N7.out).mono ?_
  rintro e w8 ⟨v8, rfl, ho8, _, hk8⟩
  have B8 := Lib.hid (B7.out.trans (hk8.below (B := w2.heap.size) (by simp; omega) (by omega)))
  have O8 := Lib.hid (O7.out.kept hk8 (fun k hk => by
    have := (O7.out.lt k hk)
    have h2 : ∀ ad, a6 = some ad → ad.block < w6.heap.size := fun ad had => by
      rcases R6.out.cells with h | ⟨b, off, e, hlt, _⟩
      · exfalso
        have h3 := HN6.out
        have h4 := HOP.out
        rw [← h3, ← h4] at h
        simp [openF] at h
      · rw [had] at e
        cases e
        exact hlt
    simp only [List.mem_singleton]
    cases a6 with
    | none => simp [Value.ownBlock] at hk
    | some ad =>
      simp only [Value.ownBlock] at hk
      have := h2 ad rfl
      cases hk
      omega))
  obtain ⟨a8, c8, rfl, hr8, _⟩ := ho8.reads (by simp [sumL_len])
  rw [sumL_len] at hr8 ⊢
  have R8 := Lib.hid hr8
  have hs8 := B8.out.size
  clear ho8 hk8 hr8 S7 O7 R7 B7 N7
  go_wp2_with (at_builtin; go_must (refine app_bytes _ rfl (.tmp 29) (.tmp 32) 33 5 rfl Tryz.underlying33 byte_info w2.heap.size _ op (by rfl) O8.out a8 4 c8 (sumL op) (by rfl) R8.out (by have := HN6.out; omega) hs8 ?_))
  intro v9 w9 ho9 hg9 _
  have B9 := Lib.hid (B8.out.grown hg9 hs8 (fun k hk => (O8.out.lt k hk).1))
  have O9 := Lib.hid ho9
  clear ho9 hg9 O8 B8 R8
  go_wp2
  go_ret2
  refine ⟨B2.out.trans (B9.out.mono B2.out.size), .inl ⟨HF.out, by rw [HBS.out, HL.out]; omega, v9, rfl, ?_⟩⟩
  unfold frameF
  rw [HOP.out]
  exact O9.out.mono B2.out.size

theorem unless_any (b : Bool) (e : Int) (w : World) : Calls Tryz.prog 119 #[.bool b, .int .i64 e] w fun r w' => r = .returned (.int .i64 (if b then 0 else e)) ∧ w' = w := by
  cases b
  · go_enter Tryz.func119, Tryz.ntmps119
    go_wp2
    go_ret
    exact ⟨rfl, rfl⟩
  · go_enter Tryz.func119, Tryz.ntmps119
    go_wp2
    go_ret
    exact ⟨rfl, rfl⟩

theorem form_no {k : Nat} (h : ¬ (1 ≤ k ∧ k ≤ 24)) : formM k = none := by
  cases hf : formM k with
  | none => rfl
  | some fs => exact absurd (form_kind hf) h
theorem read_empty (k : Nat) : readM k [] = .inr (if 1 ≤ k ∧ k ≤ 24 then 40 else 61) := by
  by_cases h : 1 ≤ k ∧ k ≤ 24
  · rw [if_pos h]
    obtain ⟨h1, h2⟩ := h
    rcases (by omega : k = 1 ∨ k = 2 ∨ k = 3 ∨ k = 4 ∨ k = 5 ∨ k = 6 ∨ k = 7 ∨ k = 8 ∨ k = 9 ∨ k = 10 ∨ k = 11 ∨ k = 12 ∨ k = 13 ∨ k = 14 ∨ k = 15 ∨ k = 16 ∨ k = 17 ∨ k = 18 ∨ k = 19 ∨ k = 20 ∨ k = 21 ∨ k = 22 ∨ k = 23 ∨ k = 24) with rfl | rfl | rfl | rfl | rfl | rfl | rfl | rfl | rfl | rfl | rfl | rfl | rfl | rfl | rfl | rfl | rfl | rfl | rfl | rfl | rfl | rfl | rfl | rfl <;> rfl
  · rw [if_neg h]
    unfold readM
    rw [form_no h]

set_option maxRecDepth 100000 in
set_option maxHeartbeats 3200000 in
theorem isKind_any (k : Nat) (hk : k ≤ 255) (w : World) : Calls Tryz.prog 142 #[.int .u8 (k : Int)] w fun r w' => r = .returned (.bool (decide (1 ≤ k ∧ k ≤ 24))) ∧ Below w.heap.size w w' := by
  obtain ⟨Z, hZ⟩ : ∃ Z, (zeroL 0).cells.toArray = Z := ⟨_, rfl⟩
  have hz := msg_zero
  rw [hZ] at hz
  have hb4 : Z.size = 28 := by
    rw [← hZ]
    rfl
  clear hZ
  go_enter Tryz.func142, Tryz.ntmps142
  go_wp2_with (fail)
  refine (mget_any k hk none 0 0 [] w (BReads.nil _)).mono ?_
  rintro e w1 ⟨hb1, y, er, rfl, _, hc⟩
  have HER := Lib.hid (show ((er : Int) != 61) = decide (1 ≤ k ∧ k ≤ 24) from by
    rw [read_empty] at hc
    rcases hc with ⟨_, h⟩ | ⟨_, h, _⟩
    · cases h
    · simp only [Sum.inr.injEq] at h
      by_cases hh : 1 ≤ k ∧ k ≤ 24
      · rw [if_pos hh] at h
        subst h
        simp [hh]
      · rw [if_neg hh] at h
        subst h
        simp [hh])
  obtain ⟨F, hF⟩ : ∃ F, y.cells.toArray = F := ⟨_, rfl⟩
  have hst := msg_store_new w1 Z y hb4
  rw [hF] at hst ⊢
  have hF28 : F.size = 28 := by
    rw [← hF]
    rfl
  obtain ⟨w2, hw2⟩ : ∃ wz, w1.alloc (.cells F 37) = wz := ⟨_, rfl⟩
  have B2 := Lib.hid (show Below w.heap.size w w2 from by rw [← hw2]; exact hb1.alloc hb1.size _)
  clear hb1 hc hF
  go_wp2
  try rw [hw2]
  go_ret
  exact ⟨by rw [← HER.out]; rfl, B2.out⟩

set_option maxRecDepth 100000 in
set_option maxHeartbeats 3200000 in
theorem check_any (p b : Nat) (hp : p < 4) (hb : b ≤ 255) (w : World) : Calls Tryz.prog 120 #[.int .i64 (p : Int), .int .u8 (b : Int)] w fun r w' => r = .returned (.int .i64 (byteF p b : Int)) ∧ Below w.heap.size w w' := by
  have hB := Below.refl w.heap.size w
  rcases (by omega : p = 0 ∨ p = 1 ∨ p = 2 ∨ p = 3) with rfl | rfl | rfl | rfl
  · by_cases h : b = 76
    · subst h
      go_enter Tryz.func120, Tryz.ntmps120
      go_wp2_with (fail)
      refine (unless_any true _ w).mono ?_
      rintro e w1 ⟨rfl, rfl⟩
      go_wp2
      go_ret
      exact ⟨rfl, hB⟩
    · have hq : ((b : Int) == 76) = false := by simp; omega
      have hf : byteF 0 b = 70 := by
        unfold byteF
        simp [h]
      rw [hf]
      go_enter Tryz.func120, Tryz.ntmps120
      go_wp2_with (fail)
      refine (unless_any false _ w).mono ?_
      rintro e w1 ⟨rfl, rfl⟩
      go_wp2
      go_ret
      exact ⟨rfl, hB⟩
  · by_cases h : b = 68
    · subst h
      go_enter Tryz.func120, Tryz.ntmps120
      go_wp2_with (fail)
      refine (unless_any true _ w).mono ?_
      rintro e w1 ⟨rfl, rfl⟩
      go_wp2
      go_ret
      exact ⟨rfl, hB⟩
    · have hq : ((b : Int) == 68) = false := by simp; omega
      have hf : byteF 1 b = 70 := by
        unfold byteF
        simp [h]
      rw [hf]
      go_enter Tryz.func120, Tryz.ntmps120
      go_wp2_with (fail)
      refine (unless_any false _ w).mono ?_
      rintro e w1 ⟨rfl, rfl⟩
      go_wp2
      go_ret
      exact ⟨rfl, hB⟩
  · by_cases h : b = 1
    · subst h
      go_enter Tryz.func120, Tryz.ntmps120
      go_wp2_with (fail)
      refine (unless_any true _ w).mono ?_
      rintro e w1 ⟨rfl, rfl⟩
      go_wp2
      go_ret
      exact ⟨rfl, hB⟩
    · have hq : ((b : Int) == 1) = false := by simp; omega
      have hf : byteF 2 b = 71 := by
        unfold byteF
        simp [h]
      rw [hf]
      go_enter Tryz.func120, Tryz.ntmps120
      go_wp2_with (fail)
      refine (unless_any false _ w).mono ?_
      rintro e w1 ⟨rfl, rfl⟩
      go_wp2
      go_ret
      exact ⟨rfl, hB⟩
  · by_cases h : 1 ≤ b ∧ b ≤ 24
    · have hf : byteF 3 b = 0 := (show byteF 3 b = if 1 ≤ b ∧ b ≤ 24 then 0 else 61 from rfl).trans (if_pos h)
      rw [hf]
      go_enter Tryz.func120, Tryz.ntmps120
      go_wp2_with (fail)
      refine (isKind_any b hb w).mono ?_
      rintro e w1 ⟨rfl, hb1⟩
      have B1 := Lib.hid hb1
      clear hb1
      rw [decide_eq_true h]
      go_wp2_with (fail)
      refine (unless_any true _ w1).mono ?_
      rintro e w2 ⟨rfl, rfl⟩
      go_wp2
      go_ret
      exact ⟨rfl, B1.out⟩
    · have hf : byteF 3 b = 61 := (show byteF 3 b = if 1 ≤ b ∧ b ≤ 24 then 0 else 61 from rfl).trans (if_neg h)
      rw [hf]
      go_enter Tryz.func120, Tryz.ntmps120
      go_wp2_with (fail)
      refine (isKind_any b hb w).mono ?_
      rintro e w1 ⟨rfl, hb1⟩
      have B1 := Lib.hid hb1
      clear hb1
      rw [decide_eq_false h]
      go_wp2_with (fail)
      refine (unless_any false _ w1).mono ?_
      rintro e w2 ⟨rfl, rfl⟩
      go_wp2
      go_ret
      exact ⟨rfl, B1.out⟩

/-- The cells of a reader. -/
def rdrV (s v : Value) (p b en e : Int) : List Value := [s, v, .int .i64 p, .int .i64 b, .int .i64 en, .int .i64 e]
inductive RdSt where
  | alive (p : Nat) (l : List Nat)
  | dead (e : Nat)
/-- A reader that lives: its summer in block gs, what waits as v. -/
structure AliveAt (w : World) (B g gs p : Nat) (v : Value) (b en e : Int) (l : List Nat) : Prop where
  blk : Blk w g 118 (rdrV (.pointer (some ⟨gs, 0, none⟩)) v p b en e)
  sum : ∃ t, SumAt w gs t
  own : OwnAt w B 5 v l
  hg : B ≤ g
  hgs : B ≤ gs
  past : PastF p l
  place : 5 ≤ p → b = (beginF l : Int) ∧ en = (endF l : Int)
/-- A reader in block g with the footprint F. -/
def RdrAt (w : World) (B g : Nat) (F : List Nat) : RdSt → Prop
  | .alive p l => p ≤ 5 ∧ ∃ gs v b en e, AliveAt w B g gs p v b en e l ∧ F = g :: gs :: ownL v
  | .dead e => Blk w g 118 (rdrV (.pointer none) (.slice none 0 0) 7 0 0 (e : Int)) ∧ B ≤ g ∧ F = [g]
theorem sum_ne {w : World} {g gs : Nat} {t : Bool} {cs : List Value} (h : Blk w g 118 cs) (hs : SumAt w gs t) : g ≠ gs := h.ne hs (by decide)
theorem row_ne {w : World} {g B : Nat} {v : Value} {l : List Nat} {cs : List Value} (h : Blk w g 118 cs) (ho : OwnAt w B 5 v l) : ∀ k, v.ownBlock = some k → k ≠ g := ho.far h (by decide)
theorem row_sum {w : World} {gs B : Nat} {t : Bool} {v : Value} {l : List Nat} (h : SumAt w gs t) (ho : OwnAt w B 5 v l) : ∀ k, v.ownBlock = some k → k ≠ gs := ho.far h (by decide)

theorem reader_info : (Tryz.prog.info? 118).map (·.size) = some 6 := by kernel_rfl

set_option maxRecDepth 100000 in
set_option maxHeartbeats 3200000 in
theorem fnew_any (w : World) : Calls Tryz.prog 28 #[] w fun r w' => ∃ g F, r = .returned (.pointer (some ⟨g, 0, none⟩)) ∧ RdrAt w' w.heap.size g F (.alive 0 []) ∧ (∀ k ∈ F, k < w'.heap.size) ∧ Below w.heap.size w w' := by
  go_enter Tryz.func28, Tryz.ntmps28
  go_wp2_with (fail)
  refine (new_any5 w).mono ?_
  rintro e w1 ⟨rfl, hs1, hb1⟩
  have S1 := Lib.hid hs1
  have B1 := Lib.hid hb1
  have hl1 := hs1.lt
  clear hs1 hb1
  go_wp2
  go_ret
  refine ⟨w1.heap.size, _, rfl, ⟨by omega, w.heap.size, .slice none 0 0, 0, 0, 0, ⟨Blk.new w1 _ _, ⟨false, S1.out.on ((Below.refl _ _).alloc (Nat.le_refl _) _)⟩, OwnAt.nil _ _ _, by omega, Nat.le_refl _, PastF.zero _, by omega⟩, rfl⟩, ?_, B1.out.alloc B1.out.size _⟩
  intro k hk
  simp [ownL, Value.ownBlock] at hk
  simp
  omega

set_option maxRecDepth 100000 in
set_option maxHeartbeats 3200000 in
theorem fwaits_alive (B g : Nat) (F : List Nat) (p : Nat) (l : List Nat) (w : World) (h : RdrAt w B g F (.alive p l)) (hl : l.length ≤ 140737488355328) : Calls Tryz.prog 31 #[.pointer (some ⟨g, 0, none⟩)] w fun r w' => r = .returned (.int .i64 (l.length : Int)) ∧ w' = w := by
  obtain ⟨_, gs, v, b, en, e, ha, _⟩ := h
  obtain ⟨a, c, rfl, _⟩ := ha.own.reads hl
  have c1 : w.cell? ⟨g, 1, none⟩ = some (.slice a l.length c) := ha.blk.cell 1
  obtain ⟨n, hn⟩ : ∃ n, l.length = n := ⟨_, rfl⟩
  rw [hn] at c1 ⊢
  clear ha hn
  go_enter Tryz.func31, Tryz.ntmps31
  go_wp2
  go_ret
  exact ⟨rfl, rfl⟩
theorem fwaits_dead (B g : Nat) (F : List Nat) (e : Nat) (w : World) (h : RdrAt w B g F (.dead e)) : Calls Tryz.prog 31 #[.pointer (some ⟨g, 0, none⟩)] w fun r w' => r = .returned (.int .i64 0) ∧ w' = w := by
  have c1 : w.cell? ⟨g, 1, none⟩ = some (.slice none 0 0) := h.1.cell 1
  clear h
  go_enter Tryz.func31, Tryz.ntmps31
  go_wp2
  go_ret
  exact ⟨rfl, rfl⟩

set_option maxRecDepth 100000 in
set_option maxHeartbeats 6400000 in
theorem ffail_any (g : Nat) (cs : List Value) (e : Nat) (w : World) (h : Blk w g 118 cs) (hc : cs.length = 6) : Calls Tryz.prog 65 #[.pointer (some ⟨g, 0, none⟩), .int .i64 (e : Int)] w fun r w' => r = .returned (.tuple #[.agg (zeroL 0).cells.toArray, .int .i64 (e : Int)]) ∧ Blk w' g 118 (rdrV (.pointer none) (.slice none 0 0) 7 0 0 (e : Int)) ∧ Kept [g] w w' := by
  have H := Lib.hid h
  have hlt := h.lt
  obtain ⟨Z, hZ⟩ : ∃ Z, (zeroL 0).cells.toArray = Z := ⟨_, rfl⟩
  have hz := msg_zero
  rw [hZ] at hz ⊢
  have hb4 : Z.size = 28 := by
    rw [← hZ]
    rfl
  have hb1 : (Z = #[]) = False := by
    rw [← hZ]
    simp [MsgL.cells]
  have hinfo : (Tryz.prog.info? 37).map (·.size) = some Z.size := by
    rw [hb4]
    kernel_rfl
  obtain ⟨x0, x1, x2, x3, x4, x5, rfl⟩ : ∃ x0 x1 x2 x3 x4 x5, cs = [x0, x1, x2, x3, x4, x5] := by
    match cs, hc with
    | [x0, x1, x2, x3, x4, x5], _ => exact ⟨x0, x1, x2, x3, x4, x5, rfl⟩
  obtain ⟨w1, hw1⟩ : ∃ w1, w.alloc (.cells Z 37) = w1 := ⟨_, rfl⟩
  have k1 : Kept [g] w w1 := by rw [← hw1]; exact (Kept.refl _ _).alloc _
  have r1 : Blk w1 g 118 [x0, x1, x2, x3, x4, x5] := (show Kept [] w w1 from by rw [← hw1]; exact (Kept.refl _ _).alloc _).blk H.out (by simp)
  have y1 : Blk w1 w.heap.size 37 (zeroL 0).cells := by rw [← hw1, ← hZ]; exact Blk.new w 37 (zeroL 0).cells.toArray
  have c0 : w1.cell? ⟨g, 0, none⟩ = some x0 := r1.cell 0
  have c1 : w1.cell? ⟨g, 1, none⟩ = some x1 := r1.cell 1
  have c2 : w1.cell? ⟨g, 2, none⟩ = some x2 := r1.cell 2
  have c3 : w1.cell? ⟨g, 3, none⟩ = some x3 := r1.cell 3
  have c4 : w1.cell? ⟨g, 4, none⟩ = some x4 := r1.cell 4
  have c5 : w1.cell? ⟨g, 5, none⟩ = some x5 := r1.cell 5
  have f0 := r1.frozen 0
  have f1 := r1.frozen 1
  have f2 := r1.frozen 2
  have f3 := r1.frozen 3
  have f4 := r1.frozen 4
  have f5 := r1.frozen 5
  obtain ⟨w2, hw2⟩ : ∃ w2, ((((((w1.setCell ⟨g, 0, none⟩ (.pointer none)).setCell ⟨g, 1, none⟩ (.slice none 0 0)).setCell ⟨g, 2, none⟩ (.int .i64 7)).setCell ⟨g, 3, none⟩ (.int .i64 0)).setCell ⟨g, 4, none⟩ (.int .i64 0)).setCell ⟨g, 5, none⟩ (.int .i64 (e : Int))) = w2 := ⟨_, rfl⟩
  have k2 : Kept [g] w1 w2 := by
    rw [← hw2]
    exact ((((((Kept.refl _ _).setCell _ _ (.inl (by simp))).setCell _ _ (.inl (by simp))).setCell _ _ (.inl (by simp))).setCell _ _ (.inl (by simp))).setCell _ _ (.inl (by simp))).setCell _ _ (.inl (by simp))
  have r2 : Blk w2 g 118 (rdrV (.pointer none) (.slice none 0 0) 7 0 0 (e : Int)) := by
    rw [← hw2]
    exact (((((r1.set 0 (.pointer none)).set 1 (.slice none 0 0)).set 2 (.int .i64 7)).set 3 (.int .i64 0)).set 4 (.int .i64 0)).set 5 (.int .i64 (e : Int))
  have y2 : Blk w2 w.heap.size 37 (zeroL 0).cells := k2.blk y1 (by simp; omega)
  have hst := msg_store w2 w.heap.size _ (zeroL 0) y2 rfl
  rw [hZ] at hst
  obtain ⟨w3, hw3⟩ : ∃ w3, w2.setRow w.heap.size Z = w3 := ⟨_, rfl⟩
  rw [hw3] at hst
  have HB3 : w3.heap[w.heap.size]? = some (.cells Z 37 (0, 0)) := by
    rw [← hw3, ← hZ]
    exact setRow_blk y2 _
  have k3 : Kept [w.heap.size] w2 w3 := by rw [← hw3]; exact setRow_kept _ _ _
  have R3 := Lib.hid (k3.blk r2 (by simp; omega))
  have K3 := Lib.hid (show Kept [g] w w3 from (k1.trans k2 (Grows.refl _ _)).trans k3 (fun x hx => by simp at hx; exact .inr (by omega)))
  have l2 := y2.lt
  have l1 := y1.lt
  clear k1 k2 k3 r1 r2 y1 y2 hw3 hZ h
  go_enter Tryz.func65, Tryz.ntmps65
  go_wp2_with (fail)
  try rw [hw1]
  clear hw1
  go_wp2_with (rw [hw2])
  try rw [hw2]
  clear hw2
  go_wp2
  (try simp only [Exit.inBlock, Exit.then])
  refine bodyPost_ret (results_row_tmp (p := 4) (q := 5) (ty := 37) rfl _ w3 w.heap.size 37 Z (0, 0) _ rfl HB3 Tryz.underlying37 rfl hinfo (.int .i64 (e : Int)) rfl) rfl ?_
  exact ⟨rfl, R3.out, K3.out⟩

set_option maxRecDepth 100000 in
set_option maxHeartbeats 3200000 in
theorem equal_any (a : Option Addr) (n c : Nat) (xs : List Nat) (a2 : Option Addr) (n2 c2 : Nat) (ys : List Nat) (w : World) (h : BReads w a n c xs) (h2 : BReads w a2 n2 c2 ys) (hn : n2 = n) :
    Calls Tryz.prog 121 #[.slice a n c, .slice a2 n2 c2] w fun r w' => r = .returned (.bool (decide (xs = ys))) ∧ Below w.heap.size w w' := by
  subst hn
  have H := Lib.hid h
  have H2 := Lib.hid h2
  have hsm := h.small
  clear h h2
  go_enter Tryz.func121, Tryz.ntmps121
  go_wp2
  go_loopw [13] (fun s13 wr => ∃ i : Nat, s13 = .int .i64 i ∧ i ≤ n2 ∧ Hid (xs.take i = ys.take i) ∧ Hid (Below w.heap.size w wr)) (fun s13 _ => n2 - (intOf s13).toNat)
  case atStart => exact ⟨0, rfl, Nat.zero_le _, rfl, Below.refl _ _⟩
  case round =>
    obtain ⟨i, rfl, hi, HE, HB⟩ := hrel
    have HR := Lib.hid (H.out.on HB.out)
    have HR2 := Lib.hid (H2.out.on HB.out)
    by_cases hin : i < n2
    · obtain ⟨b, off, rfl, hlt, hc⟩ : ∃ b off, a = some ⟨b, off, none⟩ ∧ b < wr.heap.size ∧ wr.cell? ⟨b, off + i, none⟩ = some (.int .u8 (byteAt xs i : Int)) := by
        rcases HR.out.cells with h0 | ⟨b, off, e, hlt, hc⟩
        · omega
        · exact ⟨b, off, e, hlt, hc i hin⟩
      obtain ⟨b2, off2, rfl, hlt2, hc2⟩ : ∃ b2 off2, a2 = some ⟨b2, off2, none⟩ ∧ b2 < wr.heap.size ∧ wr.cell? ⟨b2, off2 + i, none⟩ = some (.int .u8 (byteAt ys i : Int)) := by
        rcases HR2.out.cells with h0 | ⟨b, off, e, hlt, hc⟩
        · omega
        · exact ⟨b, off, e, hlt, hc i hin⟩
      obtain ⟨p, hp⟩ : ∃ p, byteAt xs i = p := ⟨_, rfl⟩
      obtain ⟨q, hq⟩ : ∃ q, byteAt ys i = q := ⟨_, rfl⟩
      rw [hp] at hc
      rw [hq] at hc2
      have T1 := Lib.hid (show xs.take (i + 1) = xs.take i ++ [p] from by rw [btake_at xs i (by rw [H.out.len]; exact hin), hp])
      have T2 := Lib.hid (show ys.take (i + 1) = ys.take i ++ [q] from by rw [btake_at ys i (by rw [H2.out.len]; exact hin), hq])
      clear hp hq
      by_cases hpq : p = q
      · subst hpq
        have NE := Lib.hid (show xs.take (i + 1) = ys.take (i + 1) from by rw [T1.out, T2.out, HE.out])
        have hii : (i : Int) < (n2 : Int) := by omega
        go_wp2
        go_quiet (fail)
        go_wp2
        go_roundw
        case rel => exact ⟨i + 1, by go_num, by omega, NE.out, below_draws HB.out _⟩
        case measure => simp [intOf]; omega
      · have hpq' : ((p : Int) != (q : Int)) = true := by simp; omega
        have NE := Lib.hid (show decide (xs = ys) = false from decide_eq_false (fun h => by
          subst h
          have h1 := T1.out.symm.trans T2.out
          simp at h1
          exact hpq h1))
        have hii : (i : Int) < (n2 : Int) := by omega
        go_wp2
        go_quiet (fail)
        go_wp2
        go_ret
        exact ⟨by rw [NE.out]; rfl, below_draws HB.out _⟩
    · have YES := Lib.hid (show decide (xs = ys) = true from decide_eq_true (by
        have h1 := HE.out
        rw [List.take_of_length_le (by rw [H.out.len]; omega), List.take_of_length_le (by rw [H2.out.len]; omega)] at h1
        exact h1))
      go_wp2
      go_ret
      exact ⟨by rw [YES.out]; rfl, HB.out⟩

set_option maxRecDepth 100000 in
set_option maxHeartbeats 3200000 in
theorem ffeed_alive (B g : Nat) (F : List Nat) (p : Nat) (l : List Nat) (a : Option Addr) (n c : Nat) (xs : List Nat) (w : World) (h : RdrAt w B g F (.alive p l)) (hx : BReads w a n c xs) (hb : l.length + n ≤ 140737488355328) (hB : B ≤ w.heap.size) :
    Calls Tryz.prog 29 #[.pointer (some ⟨g, 0, none⟩), .slice a n c] w fun r w' => r = .returned (.tuple #[]) ∧ ∃ F', RdrAt w' B g F' (.alive p (l ++ xs)) ∧ Kept F w w' ∧ Grows w F F' := by
  obtain ⟨hp5, gs, v, b, en, e, ha, rfl⟩ := h
  have HA := Lib.hid ha
  have HX := Lib.hid hx
  have c1 : w.cell? ⟨g, 1, none⟩ = some v := ha.blk.cell 1
  have c2 : w.cell? ⟨g, 2, none⟩ = some (.int .i64 (p : Int)) := ha.blk.cell 2
  have f1 := ha.blk.frozen 1
  obtain ⟨q, hq⟩ : ∃ q : Int, (p : Int) = q := ⟨_, rfl⟩
  have hq7 : (q != 7) = true := by simp; omega
  rw [hq] at c2
  clear ha hx hq
  go_enter Tryz.func29, Tryz.ntmps29
  go_wp2_with (at_builtin; go_must (refine wp_app_at w rfl (.tmp 13) (.tmp 14) 33 5 rfl Tryz.underlying33 byte_info B v l (by rfl) HA.out.own a n c xs (by rfl) HX.out hb hB ?_))
  intro v2 w2 ho2 hg2 hv2
  obtain ⟨va, vn, vc, rfl, _⟩ := ho2.parts
  have b2 : Blk w2 g 118 (rdrV (.pointer (some ⟨gs, 0, none⟩)) v p b en e) := HA.out.blk.grown hg2 (fun hh => row_ne HA.out.blk HA.out.own g hh rfl)
  obtain ⟨t, hs⟩ := HA.out.sum
  have s2 : SumAt w2 gs t := Blk.grown hs hg2 (fun hh => row_sum hs HA.out.own gs hh rfl)
  have d1 : w2.cell? ⟨g, 1, none⟩ = some v := b2.cell 1
  have g1 := b2.frozen 1
  have NEW := Lib.hid (show ∃ F', RdrAt (w2.setCell ⟨g, 1, none⟩ (.slice va vn vc)) B g F' (.alive p (l ++ xs)) ∧ Kept (g :: gs :: ownL v) w (w2.setCell ⟨g, 1, none⟩ (.slice va vn vc)) ∧ Grows w (g :: gs :: ownL v) F' from by
    have k3 : Kept [g] w2 (w2.setCell ⟨g, 1, none⟩ (.slice va vn vc)) := (Kept.refl _ _).setCell _ _ (.inl (by simp))
    refine ⟨g :: gs :: ownL (.slice va vn vc), ⟨hp5, gs, .slice va vn vc, b, en, e, ⟨b2.set 1 (.slice va vn vc), ⟨t, Kept.blk k3 s2 (by simpa using fun hh => sum_ne b2 s2 hh.symm)⟩, ho2.kept k3 (fun k hk => by simpa using row_ne b2 ho2 k hk), HA.out.hg, HA.out.hgs, HA.out.past.app xs (by omega), fun h5 => ?_⟩, rfl⟩, ?_, ?_⟩
    · obtain ⟨h6, h7⟩ := HA.out.place h5
      have h5 : p = 5 := by omega
      have h8 := HA.out.past
      rw [h5] at h8
      have h9 := h8.same xs
      unfold endF beginF at *
      rw [h9]
      exact ⟨h6, h7⟩
    · exact ((Kept.refl _ w).grown hg2 (fun k hk => .inl (by simp [mem_ownL.2 hk]))).setCell _ _ (.inl (by simp))
    · intro k hk
      rcases List.mem_cons.1 hk with rfl | hk
      · exact .inl (by simp)
      rcases List.mem_cons.1 hk with rfl | hk
      · exact .inl (by simp)
      rcases hv2 k (mem_ownL.1 hk) with h4 | h4
      · exact .inl (by simp [mem_ownL.2 h4])
      · exact .inr h4)
  clear b2 hs s2 ho2 hg2 hv2 HA HX
  go_wp2
  go_end0
  exact ⟨rfl, NEW.out⟩
set_option maxRecDepth 100000 in
set_option maxHeartbeats 3200000 in
theorem ffeed_dead (B g : Nat) (F : List Nat) (e : Nat) (v : Value) (w : World) (h : RdrAt w B g F (.dead e)) :
    Calls Tryz.prog 29 #[.pointer (some ⟨g, 0, none⟩), v] w fun r w' => r = .returned (.tuple #[]) ∧ w' = w := by
  have c2 : w.cell? ⟨g, 2, none⟩ = some (.int .i64 7) := h.1.cell 2
  clear h
  go_enter Tryz.func29, Tryz.ntmps29
  go_wp2
  go_end0
  exact ⟨rfl, rfl⟩

section
variable {w w' : World} {B g gs p : Nat} {v : Value} {b en e : Int} {l : List Nat}
theorem AliveAt.kept {F : List Nat} (h : AliveAt w B g gs p v b en e l) (hk : Kept F w w') (h1 : g ∉ F) (h2 : gs ∉ F) (h3 : ∀ k, v.ownBlock = some k → k ∉ F) : AliveAt w' B g gs p v b en e l :=
  ⟨hk.blk h.blk h1, h.sum.imp fun _ hs => hs.kept hk h2, h.own.kept hk h3, h.hg, h.hgs, h.past, h.place⟩
theorem AliveAt.on (h : AliveAt w B g gs p v b en e l) (hb : Below w.heap.size w w') : AliveAt w' B g gs p v b en e l := h.kept (F := []) (Kept.of_below hb (Nat.le_refl _)) (by simp) (by simp) (by simp)
/-- A cell of the reader is written. -/
theorem AliveAt.cells (h : AliveAt w B g gs p v b en e l) (i : Nat) (u : Value) : Kept [g] w (w.setCell ⟨g, i, none⟩ u) ∧ (∃ t, SumAt (w.setCell ⟨g, i, none⟩ u) gs t) ∧ OwnAt (w.setCell ⟨g, i, none⟩ u) B 5 v l := by
  have k : Kept [g] w (w.setCell ⟨g, i, none⟩ u) := (Kept.refl _ _).setCell _ _ (.inl (by simp))
  obtain ⟨t, hs⟩ := h.sum
  exact ⟨k, ⟨t, hs.kept k (by simpa using fun hh => sum_ne h.blk hs hh.symm)⟩, h.own.kept k (fun k hk => by simpa using row_ne h.blk h.own k hk)⟩
end

/-- What a look leaves. -/
def LookPost (B g gs p : Nat) (v : Value) (e : Int) (l : List Nat) (w : World) (r : Ending) (w' : World) : Prop :=
  r = .returned (.int .i64 (lookF p l : Int)) ∧ Kept [g] w w' ∧ ∃ b en, AliveAt w' B g gs p v b en e l ∧ (lookF p l = 0 → 4 ≤ p → b = (beginF l : Int) ∧ en = (endF l : Int))

set_option maxRecDepth 100000 in
set_option maxHeartbeats 6400000 in
theorem flen_any (B g gs : Nat) (v : Value) (b en e : Int) (l : List Nat) (w : World) (h : AliveAt w B g gs 4 v b en e l) (hl : l.length ≤ 1000000000) :
    Calls Tryz.prog 118 #[.pointer (some ⟨g, 0, none⟩)] w fun r w' => LookPost B g gs 4 v e l w r w' := by
  have HA := Lib.hid h
  obtain ⟨a, c, rfl, hr⟩ := h.own.reads (by omega)
  have h4 := h.past.len (Nat.le_refl _)
  have c1 : w.cell? ⟨g, 1, none⟩ = some (.slice a l.length c) := h.blk.cell 1
  have c3 : w.cell? ⟨g, 3, none⟩ = some (.int .i64 b) := h.blk.cell 3
  have c4 : w.cell? ⟨g, 4, none⟩ = some (.int .i64 en) := h.blk.cell 4
  have f3 := h.blk.frozen 3
  have f4 := h.blk.frozen 4
  obtain ⟨a', hcut, hrd⟩ := cut_bytes (P := Tryz.prog) 33 5 Tryz.underlying33 (by kernel_rfl) byte_info a l.length c 4 4 rfl h4
  have HR := Lib.hid (hrd w l hr)
  obtain ⟨n, hn⟩ : ∃ n, l.length = n := ⟨_, rfl⟩
  rw [hn] at c1 hcut HR HA ⊢
  obtain ⟨r1, r2, r3, hv⟩ : ∃ r1 r2 r3, vget 0 0 (l.drop 4) = (r1, r2, r3) := ⟨_, _, _, rfl⟩
  have hlook : lookF 4 l = sizeF (r1, r2, r3) := by
    unfold lookF
    rw [if_neg (by omega), if_pos rfl, hv]
  have HBE := Lib.hid (show beginF l = 4 + r2 ∧ endF l = 4 + r2 + r1 from by
    unfold endF beginF
    rw [hv]
    exact ⟨rfl, rfl⟩)
  have hr1 : r1 < 18446744073709551616 := by
    have := vget_lt (l.drop 4)
    rw [hv] at this
    exact this
  have hr2 : r2 ≤ 1000000000 := by
    rcases vget_err (l.drop 4) 0 0 with ⟨_, h5⟩ | h5 | h5 <;> rw [hv] at h5 <;> simp at h5 <;> omega
  have HV := Lib.hid hv
  have HLK := Lib.hid hlook
  clear h hr hrd hn hv hlook
  go_enter Tryz.func118, Tryz.ntmps118
  go_wp2_with (fail)
  refine (get_any a' (n - 4) (c - 4) (l.drop 4) w HR.out).mono ?_
  rintro r w1 ⟨rfl, rfl⟩
  rw [HV.out]
  unfold gotV
  by_cases h3 : r3 = 0
  · subst h3
    by_cases h1 : 4096 < r1
    · have NO := Lib.hid (show lookF 4 l = 72 from by
        rw [HLK.out]
        unfold sizeF
        rw [if_neg (by simp), if_pos h1])
      go_wp2
      go_ret
      exact ⟨by rw [NO.out]; rfl, Kept.refl _ _, b, en, HA.out, fun h => by rw [NO.out] at h; cases h⟩
    · have NEW := Lib.hid (show AliveAt ((w.setCell ⟨g, 3, none⟩ (.int .i64 (4 + (r2 : Int)))).setCell ⟨g, 4, none⟩ (.int .i64 (4 + (r2 : Int) + (r1 : Int)))) B g gs 4 (.slice a n c) (4 + (r2 : Int)) (4 + (r2 : Int) + (r1 : Int)) e l ∧ Kept [g] w ((w.setCell ⟨g, 3, none⟩ (.int .i64 (4 + (r2 : Int)))).setCell ⟨g, 4, none⟩ (.int .i64 (4 + (r2 : Int) + (r1 : Int)))) from by
        obtain ⟨k1, s1, o1⟩ := HA.out.cells 3 (.int .i64 (4 + (r2 : Int)))
        have A1 : AliveAt (w.setCell ⟨g, 3, none⟩ (.int .i64 (4 + (r2 : Int)))) B g gs 4 (.slice a n c) (4 + (r2 : Int)) en e l := ⟨HA.out.blk.set 3 _, s1, o1, HA.out.hg, HA.out.hgs, HA.out.past, by omega⟩
        obtain ⟨k2, s2, o2⟩ := A1.cells 4 (.int .i64 (4 + (r2 : Int) + (r1 : Int)))
        exact ⟨⟨A1.blk.set 4 _, s2, o2, A1.hg, A1.hgs, A1.past, by omega⟩, k1.trans k2 (Grows.refl _ _)⟩)
      have YES := Lib.hid (show lookF 4 l = 0 from by
        rw [HLK.out]
        unfold sizeF
        rw [if_neg (by simp), if_neg h1])
      go_wp2
      go_ret
      exact ⟨by rw [YES.out]; rfl, NEW.out.2, _, _, NEW.out.1, fun _ _ => by rw [HBE.out.1, HBE.out.2]; exact ⟨by omega, by omega⟩⟩
  · have h3b : ((r3 : Int) != 0) = true := by simp; omega
    have NO := Lib.hid (show lookF 4 l = r3 from by
      rw [HLK.out]
      unfold sizeF
      rw [if_pos h3])
    go_wp2
    go_ret
    exact ⟨by rw [NO.out]; rfl, Kept.refl _ _, b, en, HA.out, fun h => by rw [NO.out] at h; exact absurd h h3⟩

theorem check_at (q : Int) (p b : Nat) (hq : (p : Int) = q) (hp : p < 4) (hb : b ≤ 255) (w : World) : Calls Tryz.prog 120 #[.int .i64 q, .int .u8 (b : Int)] w fun r w' => r = .returned (.int .i64 (byteF p b : Int)) ∧ Below w.heap.size w w' := by
  subst hq
  exact check_any p b hp hb w

set_option maxRecDepth 100000 in
set_option maxHeartbeats 12800000 in
theorem flook_any (B g gs p : Nat) (v : Value) (b en e : Int) (l : List Nat) (w : World) (hp : p < 6) (h : AliveAt w B g gs p v b en e l) (hl : l.length ≤ 1000000000) :
    Calls Tryz.prog 64 #[.pointer (some ⟨g, 0, none⟩)] w fun r w' => LookPost B g gs p v e l w r w' := by
  have HA := Lib.hid h
  obtain ⟨a, c, rfl, hr⟩ := h.own.reads (by omega)
  have c1 : w.cell? ⟨g, 1, none⟩ = some (.slice a l.length c) := h.blk.cell 1
  have c2 : w.cell? ⟨g, 2, none⟩ = some (.int .i64 (p : Int)) := h.blk.cell 2
  have c4 : w.cell? ⟨g, 4, none⟩ = some (.int .i64 en) := h.blk.cell 4
  have HR := Lib.hid hr
  obtain ⟨n, hn⟩ : ∃ n, l.length = n := ⟨_, rfl⟩
  rw [hn] at c1 HR HA hl ⊢
  have HN := Lib.hid hn
  obtain ⟨q, hq⟩ : ∃ q : Int, (p : Int) = q := ⟨_, rfl⟩
  rw [hq] at c2
  clear h hr hn
  by_cases p4 : p = 4
  · subst p4
    have q4 : (q == 4) = true := by simp; omega
    go_enter Tryz.func64, Tryz.ntmps64
    go_wp2_with (fail)
    refine (flen_any B g gs _ b en e l w HA.out (by rw [HN.out]; exact hl)).mono ?_
    rintro r w1 ⟨rfl, k1, h1⟩
    have H1 := Lib.hid (show LookPost B g gs 4 (.slice a n c) e l w (.returned (.int .i64 (lookF 4 l : Int))) w1 from ⟨rfl, k1, h1⟩)
    obtain ⟨z, hz⟩ : ∃ z, lookF 4 l = z := ⟨_, rfl⟩
    rw [hz] at H1 ⊢
    clear k1 h1 hz
    go_wp2
    go_ret
    exact H1.out
  have q4 : (q == 4) = false := by simp; omega
  by_cases p5 : p = 5
  · subst p5
    have q5 : (q == 5) = true := by simp; omega
    obtain ⟨hb, he⟩ := HA.out.place (Nat.le_refl _)
    have HPL := Lib.hid (show b = (beginF l : Int) ∧ en = (endF l : Int) from ⟨hb, he⟩)
    clear hb he
    have hen : 0 ≤ en ∧ en ≤ 2000000000 := by
      have h1 := HA.out.past.begins
      have h2 := HA.out.past.sized
      have h3 := HPL.out.2
      have h4 := HN.out
      unfold endF at h3
      omega
    have hw4 : IntKind.i64.wrap (en + 4) = en + 4 := by rw [IntKind.wrap_i64]; omega
    by_cases h5 : endF l + 4 ≤ n
    · have hd : decide (en + 4 ≤ (n : Int)) = true := decide_eq_true (by have := HPL.out.2; omega)
      have YES := Lib.hid (show lookF 5 l = 0 from by
        unfold lookF
        rw [if_neg (by omega), if_neg (by omega), if_pos (by rw [HN.out]; exact h5)])
      go_enter Tryz.func64, Tryz.ntmps64
      go_wp2
      go_quiet (first | (go_at_call 119; refine Calls.quiet_of_same (unless_any true 40 _)))
      go_wp2
      go_ret
      refine ⟨by rw [YES.out]; rfl, (Kept.refl _ _).drewN _, b, en, HA.out.kept ((Kept.refl [] w).drewN _) (by simp) (by simp) (by simp), fun _ _ => HPL.out⟩
    · have hd : decide (en + 4 ≤ (n : Int)) = false := decide_eq_false (by have := HPL.out.2; omega)
      have NO := Lib.hid (show lookF 5 l = 40 from by
        unfold lookF
        rw [if_neg (by omega), if_neg (by omega), if_neg (by rw [HN.out]; exact h5)])
      go_enter Tryz.func64, Tryz.ntmps64
      go_wp2
      go_quiet (first | (go_at_call 119; refine Calls.quiet_of_same (unless_any false 40 _)))
      go_wp2
      go_ret
      refine ⟨by rw [NO.out]; rfl, (Kept.refl _ _).drewN _, b, en, HA.out.kept ((Kept.refl [] w).drewN _) (by simp) (by simp) (by simp), fun h => by rw [NO.out] at h; cases h⟩
  have q5 : (q == 5) = false := by simp; omega
  by_cases hnp : n ≤ p
  · have hd : decide ((n : Int) ≤ q) = true := decide_eq_true (by omega)
    have NO := Lib.hid (show lookF p l = 40 from by
      unfold lookF
      rw [if_pos (by omega), if_pos (by rw [HN.out]; exact hnp)])
    go_enter Tryz.func64, Tryz.ntmps64
    go_wp2
    go_quiet (fail)
    go_wp2
    go_ret
    refine ⟨by rw [NO.out]; rfl, (Kept.refl _ _).drewN _, b, en, HA.out.kept ((Kept.refl [] w).drewN _) (by simp) (by simp) (by simp), fun h => by rw [NO.out] at h; cases h⟩
  · have hd : decide ((n : Int) ≤ q) = false := decide_eq_false (by omega)
    obtain ⟨z, hz⟩ : ∃ z, byteAt l p = z := ⟨_, rfl⟩
    have z255 : z ≤ 255 := by have := HR.out.at_lt p; omega
    obtain ⟨bb, off, rfl, hlt, hcl⟩ : ∃ bb off, a = some ⟨bb, off, none⟩ ∧ bb < w.heap.size ∧ w.cell? ⟨bb, off + p, none⟩ = some (.int .u8 (z : Int)) := by
      rcases HR.out.cells with h0 | ⟨bb, off, e1, hlt, hc⟩
      · have := HN.out; omega
      · exact ⟨bb, off, e1, hlt, by rw [hc p (by have := HN.out; omega), hz]⟩
    have LK := Lib.hid (show lookF p l = byteF p z from by
      unfold lookF
      rw [if_pos (by omega), if_neg (by rw [HN.out]; exact hnp), hz])
    have hq0 : (0 : Int) ≤ q := by omega
    have hqn : q < (n : Int) := by omega
    have hqt : q.toNat = p := by omega
    clear hz
    go_enter Tryz.func64, Tryz.ntmps64
    go_wp2
    go_quiet (fail)
    have K1 := Lib.hid (show Kept [] w (w.drewN nq) from (Kept.refl [] w).drewN nq)
    generalize w.drewN nq = w1 at *
    have A1 := Lib.hid (HA.out.kept K1.out (by simp) (by simp) (by simp))
    have e1 : w1.cell? ⟨g, 1, none⟩ = some (.slice (some ⟨bb, off, none⟩) n c) := A1.out.blk.cell 1
    have e2 : w1.cell? ⟨g, 2, none⟩ = some (.int .i64 q) := by rw [← hq]; exact A1.out.blk.cell 2
    have e3 : w1.cell? ⟨bb, off + p, none⟩ = some (.int .u8 (z : Int)) := by rw [K1.out.cell (p := ⟨bb, off + p, none⟩) hlt (by simp)]; exact hcl
    have hbw : bb < w1.heap.size := Nat.lt_of_lt_of_le hlt K1.out.size
    have HS := Lib.hid (fun (w' : World) (hb : Below w1.heap.size w1 w') => show w'.cell? ⟨g, 1, none⟩ = some (.slice (some ⟨bb, off, none⟩) n c) ∧ w'.cell? ⟨g, 2, none⟩ = some (.int .i64 q) ∧ w'.cell? ⟨bb, off + p, none⟩ = some (.int .u8 (z : Int)) ∧ Below w1.heap.size w1 w' from
      ⟨((Kept.of_below (F := []) hb (Nat.le_refl _)).cell (p := ⟨g, 1, none⟩) A1.out.blk.lt (by simp)).trans e1, ((Kept.of_below (F := []) hb (Nat.le_refl _)).cell (p := ⟨g, 2, none⟩) A1.out.blk.lt (by simp)).trans e2, ((Kept.of_below (F := []) hb (Nat.le_refl _)).cell (p := ⟨bb, off + p, none⟩) hbw (by simp)).trans e3, hb⟩)
    clear c1 c2 c4 hcl
    go_wp2
    go_region_held3 (fun w' => w'.cell? ⟨g, 1, none⟩ = some (.slice (some ⟨bb, off, none⟩) n c) ∧ w'.cell? ⟨g, 2, none⟩ = some (.int .i64 q) ∧ w'.cell? ⟨bb, off + p, none⟩ = some (.int .u8 (z : Int)) ∧ Below w1.heap.size w1 w')
      (first
        | (go_keep; done)
        | exact HS.out _ (Below.refl _ _)
        | exact HS.out _ (Below.refl _ _).drew
        | (go_split_ands; exact HS.out _ (below_on (by assumption) hbel)))
      (first
        | (go_at_call 120; go_split_ands; refine (check_at q p z hq (by omega) z255 _).mono ?_; rintro r w' ⟨rfl, hbel⟩))
    rename_i hH
    have hB := hH.2.2.2
    go_wp2
    go_ret
    exact ⟨by rw [LK.out]; rfl, (K1.out.mono (G := [g]) (by simp)).trans (Kept.of_below (F := [g]) hB (Nat.le_refl _)) (Grows.refl _ _), b, en, A1.out.on hB, fun _ h4 => by omega⟩
end Go.Proofs.YtemnmjfeljipjaaGreat
