/-
  Of XQb what a seat holds that lacks some functions (made by tools/autopick.py and pick.py).
-/
import Derived.Test.YtdlpifcfgfhagaaVg
import Derived.Test.YtdlpifcfgfhagaaMq
import Derived.BigGuardPart
import Derived.Handy
import Derived.Test.YtdlpifcfgfhagaaMk
import Derived.Deep.RegionLaw
import Derived.Deep.RegionWith
import Derived.Deep.DeepCutAuto
import Derived.Test.YtdlpifcfgfhagaaMrC
namespace Go.Proofs.Ytdlpifcfgfhagaa
open Go.RowKit Go.ChangeShapes Go.WideShapes Go.ChangeAt

/-- A reader lies in block g: the bytes that are left, the error. -/
def CX (w : World) (B g : Nat) (l : List Nat) (k : Nat) : Prop :=
  ∃ a n c, Blk w g 91 [.slice a n c, .int .i64 (k : Int)] ∧ BReads w a n c l ∧ (0 < n → ∀ ad, a = some ad → ad.block < B ∧ B ≤ g)
def CState (w : World) (B g : Nat) : List Nat ⊕ Nat → Prop
  | .inl l => CX w B g l 0
  | .inr k => k ≠ 0 ∧ ∃ l, CX w B g l k
/-- What is read: some thing, as V says it of the value, and the reader's next state. -/
def RdC {α : Type} (C : Cod α) (V : World → Value → α → Prop) (B g : Nat) (s : List Nat ⊕ Nat) (w : World) (e : Ending) (w' : World) : Prop :=
  Kept [g] w w' ∧ ∃ v a st, e = .returned v ∧ V w' v a ∧ CState w' B g st ∧ Step C s a st
/-- The same, and beside an error zero. -/
def RdZ {α : Type} (z : α) (C : Cod α) (V : World → Value → α → Prop) (B g : Nat) (s : List Nat ⊕ Nat) (w : World) (e : Ending) (w' : World) : Prop :=
  Kept [g] w w' ∧ ∃ v a st, e = .returned v ∧ V w' v a ∧ CState w' B g st ∧ Step C s a st ∧ ∀ k, st = .inr k → a = z
theorem RdZ.c {α : Type} {z : α} {C : Cod α} {V : World → Value → α → Prop} {B g : Nat} {s : List Nat ⊕ Nat} {w : World} {e : Ending} {w' : World} (h : RdZ z C V B g s w e w') : RdC C V B g s w e w' := by
  obtain ⟨h1, v, a, st, h2, h3, h4, h5, _⟩ := h
  exact ⟨h1, v, a, st, h2, h3, h4, h5⟩
section
variable {w w' : World} {B g : Nat} {l : List Nat} {k : Nat}
theorem CX.opened (h : CX w B g l k) : ∃ a n c, w.cell? ⟨g, 0, none⟩ = some (.slice a n c) ∧ w.cell? ⟨g, 1, none⟩ = some (.int .i64 (k : Int)) ∧ w.frozen? ⟨g, 0, none⟩ = false ∧ w.frozen? ⟨g, 1, none⟩ = false ∧ g < w.heap.size ∧
    Hid (Blk w g 91 [.slice a n c, .int .i64 (k : Int)]) ∧ Hid (BReads w a n c l) ∧ Hid (0 < n → ∀ ad, a = some ad → ad.block < B ∧ B ≤ g) := by
  obtain ⟨a, n, c, hb, hr, hn⟩ := h
  exact ⟨a, n, c, hb.cell 0, hb.cell 1, hb.frozen 0, hb.frozen 1, hb.lt, hb, hr, hn⟩
theorem CX.kept {F : List Nat} (h : CX w B g l k) (hk : Kept F w w') (hF : ∀ k ∈ F, g < k) : CX w' B g l k := by
  have hg : g ∉ F := fun hx => by have := hF g hx; omega
  obtain ⟨a, n, c, hb, hr, hn⟩ := h
  refine ⟨a, n, c, hk.blk hb hg, ⟨hr.len, hr.small, hr.byte, hr.nilOk, hr.room, ?_⟩, hn⟩
  rcases hr.cells with h0 | ⟨b, off, ha, hlt, hc⟩
  · exact .inl h0
  · by_cases h0 : n = 0
    · exact .inl h0
    · have hbg := hn (by omega) _ ha
      refine .inr ⟨b, off, ha, Nat.lt_of_lt_of_le hlt hk.size, fun i hi => ?_⟩
      rw [hk.cell (p := ⟨b, off + i, none⟩) hlt (fun hx => by have := hF b hx; simp only at hbg; omega)]
      exact hc i hi
theorem CState.kept {s : List Nat ⊕ Nat} {F : List Nat} (h : CState w B g s) (hk : Kept F w w') (hF : ∀ k ∈ F, g < k) : CState w' B g s := by
  rcases s with l | k
  · exact CX.kept h hk hF
  · obtain ⟨h0, l, h1⟩ := h
    exact ⟨h0, l, h1.kept hk hF⟩
theorem CState.at (s : List Nat ⊕ Nat) (h : CState w B g s) : ∃ l k, CX w B g l k ∧ (s = .inl l ∧ k = 0 ∨ s = .inr k ∧ k ≠ 0) := by
  rcases s with l | k
  · exact ⟨l, 0, h, .inl ⟨rfl, rfl⟩⟩
  · obtain ⟨h0, l, h1⟩ := h
    exact ⟨l, k, h1, .inr ⟨rfl, h0⟩⟩
theorem CState.lt {s : List Nat ⊕ Nat} (h : CState w B g s) : g < w.heap.size := by
  obtain ⟨l, k, ⟨_, _, _, hb, _⟩, _⟩ := h.at
  exact hb.lt
theorem CX.byte (h : CX w B g l k) : ∀ b ∈ l, b < 256 := by
  obtain ⟨_, _, _, _, hr, _⟩ := h
  exact hr.byte
/-- The error is laid. -/
theorem CX.err {a : Option Addr} {n c : Nat} (hb : Blk w g 91 [.slice a n c, .int .i64 0]) (hr : BReads w a n c l) (hn : 0 < n → ∀ ad, a = some ad → ad.block < B ∧ B ≤ g) {k : Nat} (hk : k ≠ 0) : CState (w.setCell ⟨g, 1, none⟩ (.int .i64 (k : Int))) B g (.inr k) ∧ Kept [g] w (w.setCell ⟨g, 1, none⟩ (.int .i64 (k : Int))) := by
  have k1 : Kept [g] w (w.setCell ⟨g, 1, none⟩ (.int .i64 (k : Int))) := (Kept.refl _ _).setCell _ _ (.inl (by simp))
  refine ⟨⟨hk, l, a, n, c, hb.set 1 (.int .i64 (k : Int)), ?_, hn⟩, k1⟩
  refine ⟨hr.len, hr.small, hr.byte, hr.nilOk, hr.room, ?_⟩
  rcases hr.cells with h0 | ⟨b, off, ha, hlt, hc⟩
  · exact .inl h0
  · by_cases h0 : n = 0
    · exact .inl h0
    · have hbg := hn (by omega) _ ha
      refine .inr ⟨b, off, ha, Nat.lt_of_lt_of_le hlt k1.size, fun i hi => ?_⟩
      rw [k1.cell (p := ⟨b, off + i, none⟩) hlt (by simp; simp only at hbg; omega)]
      exact hc i hi
/-- The rest is laid. -/
theorem CX.rest {a' : Option Addr} {n' c' : Nat} {v : Value} (hb : Blk w g 91 [v, .int .i64 (k : Int)]) (hr : BReads w a' n' c' l) (hn : 0 < n' → ∀ ad, a' = some ad → ad.block < B ∧ B ≤ g) : CX (w.setCell ⟨g, 0, none⟩ (.slice a' n' c')) B g l k ∧ Kept [g] w (w.setCell ⟨g, 0, none⟩ (.slice a' n' c')) := by
  have k1 : Kept [g] w (w.setCell ⟨g, 0, none⟩ (.slice a' n' c')) := (Kept.refl _ _).setCell _ _ (.inl (by simp))
  refine ⟨⟨a', n', c', hb.set 0 (.slice a' n' c'), ?_, hn⟩, k1⟩
  refine ⟨hr.len, hr.small, hr.byte, hr.nilOk, hr.room, ?_⟩
  rcases hr.cells with h0 | ⟨b, off, ha, hlt, hc⟩
  · exact .inl h0
  · by_cases h0 : n' = 0
    · exact .inl h0
    · have hbg := hn (by omega) _ ha
      refine .inr ⟨b, off, ha, Nat.lt_of_lt_of_le hlt k1.size, fun i hi => ?_⟩
      rw [k1.cell (p := ⟨b, off + i, none⟩) hlt (by simp; simp only at hbg; omega)]
      exact hc i hi
end
theorem cNum_dec (most : Nat) (hm : most < 18446744073709551616) (l : List Nat) (r1 r2 r3 : Nat) (hv : vget 0 0 l = (r1, r2, r3)) : (cNum most hm).dec l = if r3 ≠ 0 then .inr r3 else if most < r1 then .inr 62 else .inl (r1, l.drop r2) := by
  show (if (vget 0 0 l).2.2 ≠ 0 then Sum.inr (vget 0 0 l).2.2 else if most < (vget 0 0 l).1 then Sum.inr 62 else Sum.inl ((vget 0 0 l).1, l.drop (vget 0 0 l).2.1)) = _
  rw [hv]

set_option maxRecDepth 100000 in
set_option maxHeartbeats 3200000 in
theorem cnum0 (most B g : Nat) (s : List Nat ⊕ Nat) (w : World) (h : CState w B g s) (hm : most < 18446744073709551616) :
    Calls Try.prog 67 #[.pointer (some ⟨g, 0, none⟩), .func (.func 68) #[] #[], .int .u64 0, .int .u64 (most : Int)] w fun e w' => RdZ 0 (cNum most hm) (IsNum most) B g s w e w' := by
  rcases s with l | k
  · have hx : CX w B g l 0 := h
    clear h
    obtain ⟨a, n, c, c0, c1, _, _, hlt, HB, HR, HN⟩ := hx.opened
    obtain ⟨r1, r2, r3, hv⟩ : ∃ r1 r2 r3, vget 0 0 l = (r1, r2, r3) := ⟨_, _, _, rfl⟩
    have HD := Lib.hid (cNum_dec most hm l r1 r2 r3 hv)
    have HV := Lib.hid hv
    have herr := vget_err l 0 0
    rw [hv] at herr
    simp only at herr
    have HERR := Lib.hid herr
    have hnn : ¬ (r1 : Int) < 0 := by omega
    have c1 : w.cell? ⟨g, 1, none⟩ = some (.int .i64 0) := c1
    generalize cNum most hm = C at HD ⊢
    clear hx hv herr hm
    go_enter Try.func67, Try.ntmps67
    go_wp2_with (fail)
    refine (get_eq a n c l w r1 r2 r3 HR.out HV.out).mono ?_
    rintro e w2 ⟨rfl, hw2⟩
    have hb2 : Below w.heap.size w w2 := by rw [← hw2]; exact Below.refl _ _
    clear hw2
    have B2 := Lib.hid ((Kept.of_below (F := []) hb2 (Nat.le_refl _)).blk HB.out (by simp))
    have K2 := Lib.hid (Kept.of_below (F := [g]) hb2 (Nat.le_refl _))
    have R2 := Lib.hid (HR.out.on hb2)
    have d0 : w2.cell? ⟨g, 0, none⟩ = some (.slice a n c) := B2.out.cell 0
    have d1 : w2.cell? ⟨g, 1, none⟩ = some (.int .i64 0) := B2.out.cell 1
    have f0 := B2.out.frozen 0
    have f1 := B2.out.frozen 1
    have hlt2 := B2.out.lt
    clear hb2 c0 c1 hlt HB HR
    by_cases h3 : r3 = 0
    · subst h3
      by_cases hgt : most < r1
      · have hlt' : (most : Int) < (r1 : Int) := by omega
        have HE := Lib.hid (show C.dec l = .inr 62 from by rw [HD.out, if_neg (by simp), if_pos hgt])
        go_wp2
        go_ret
        obtain ⟨s1, s2⟩ := CX.err (k := 62) B2.out R2.out HN.out (by decide)
        exact ⟨K2.out.trans s2 (Grows.refl _ _), _, 0, .inr 62, rfl, ⟨rfl, Nat.zero_le _⟩, s1, HE.out, fun _ _ => rfl⟩
      · have hlt' : ¬ (most : Int) < (r1 : Int) := by omega
        have HE := Lib.hid (show C.dec l = .inl (r1, l.drop r2) from by rw [HD.out, if_neg (by simp), if_neg hgt])
        have hle : r2 ≤ n := by
          have hl := R2.out.len
          rcases HERR.out with ⟨_, h⟩ | h | h
          · omega
          · simp at h
          · simp at h
        obtain ⟨a', hs1, hs2, hs3⟩ := cut_bytes3 (P := Try.prog) 31 5 Try.underlying31 (by kernel_rfl) byte_info a n c r2 r2 rfl hle
        have HS := Lib.hid (hs2 _ _ R2.out)
        obtain ⟨n', hn'⟩ : ∃ n', n - r2 = n' := ⟨_, rfl⟩
        obtain ⟨c', hc'⟩ : ∃ c', c - r2 = c' := ⟨_, rfl⟩
        rw [hn', hc'] at hs1 HS
        have HA := Lib.hid (show 0 < n' → ∀ ad, a' = some ad → ad.block < B ∧ B ≤ g from by
          intro h0 ad had
          obtain ⟨ad0, h1, h2⟩ := hs3 ad had
          rw [← h2]
          exact HN.out (by omega) ad0 h1)
        clear hs2 hs3 hn' hc'
        go_wp2
        go_ret
        obtain ⟨s1, s2⟩ := CX.rest (k := 0) B2.out HS.out HA.out
        exact ⟨K2.out.trans s2 (Grows.refl _ _), _, r1, .inl (l.drop r2), rfl, ⟨rfl, by omega⟩, s1, HE.out, fun _ h => nomatch h⟩
    · have h3b : ((r3 : Int) == 0) = false := by simp; omega
      have h3c : ((r3 : Int) != 0) = true := by simp; omega
      have HE := Lib.hid (show C.dec l = .inr r3 from by rw [HD.out, if_pos h3])
      go_wp2
      go_ret
      obtain ⟨s1, s2⟩ := CX.err (k := r3) B2.out R2.out HN.out h3
      exact ⟨K2.out.trans s2 (Grows.refl _ _), _, 0, .inr r3, rfl, ⟨rfl, Nat.zero_le _⟩, s1, HE.out, fun _ _ => rfl⟩
  · obtain ⟨h0, l, hx⟩ := h
    obtain ⟨a, n, c, c0, c1, _, _, hlt, HB, HR, HN⟩ := hx.opened
    have hkb : ((k : Int) != 0) = true := by simp; omega
    have H0 := Lib.hid h0
    have HX := Lib.hid hx
    clear h0 hx
    go_enter Try.func67, Try.ntmps67
    go_wp2
    go_ret
    exact ⟨Kept.refl _ _, _, 0, .inr k, rfl, ⟨rfl, Nat.zero_le _⟩, ⟨H0.out, l, HX.out⟩, rfl, fun _ _ => rfl⟩
-- GEN
theorem getint_eq (a : Option Addr) (n c : Nat) (bs : List Nat) (w : World) (r1 r2 r3 : Nat) (x : Int) (h : BReads w a n c bs) (hr : vget 0 0 bs = (r1, r2, r3)) (hx : vopen r1 = x) :
    Calls Try.prog 82 #[.slice a n c] w fun e w' => e = .returned (.tuple #[.int .i64 x, .int .i64 r2, .int .i64 r3]) ∧ w = w' := by
  have := getint_any a n c bs w h
  rw [hr] at this
  rw [← hx]
  exact this
set_option maxRecDepth 100000 in
set_option maxHeartbeats 3200000 in
theorem cwhole0 (low high : Int) (hlo : low ≤ 0) (hhi : 0 ≤ high) (B g : Nat) (s : List Nat ⊕ Nat) (w : World) (h : CState w B g s) :
    Calls Try.prog 81 #[.pointer (some ⟨g, 0, none⟩), .func (.func 82) #[] #[], .int .i64 low, .int .i64 high] w fun e w' => RdZ 0 (cInt low high) (IsInt low high) B g s w e w' := by
  rcases s with l | k
  · have hx : CX w B g l 0 := h
    clear h
    obtain ⟨a, n, c, c0, c1, _, _, hlt, HB, HR, HN⟩ := hx.opened
    obtain ⟨r1, r2, r3, hv⟩ : ∃ r1 r2 r3, vget 0 0 l = (r1, r2, r3) := ⟨_, _, _, rfl⟩
    have HD := Lib.hid (cInt_dec low high l r1 r2 r3 hv)
    have HV := Lib.hid hv
    have herr := vget_err l 0 0
    rw [hv] at herr
    simp only at herr
    have HERR := Lib.hid herr
    obtain ⟨x, hx2⟩ : ∃ x, vopen r1 = x := ⟨_, rfl⟩
    rw [hx2] at HD
    have HX2 := Lib.hid hx2
    have c1 : w.cell? ⟨g, 1, none⟩ = some (.int .i64 0) := c1
    clear hx herr hx2 hv
    go_enter Try.func81, Try.ntmps81
    go_wp2_with (fail)
    refine (getint_eq a n c l w r1 r2 r3 x HR.out HV.out HX2.out).mono ?_
    rintro e w2 ⟨rfl, hw2⟩
    have hb2 : Below w.heap.size w w2 := by rw [← hw2]; exact Below.refl _ _
    clear hw2
    have B2 := Lib.hid ((Kept.of_below (F := []) hb2 (Nat.le_refl _)).blk HB.out (by simp))
    have K2 := Lib.hid (Kept.of_below (F := [g]) hb2 (Nat.le_refl _))
    have R2 := Lib.hid (HR.out.on hb2)
    have d0 : w2.cell? ⟨g, 0, none⟩ = some (.slice a n c) := B2.out.cell 0
    have d1 : w2.cell? ⟨g, 1, none⟩ = some (.int .i64 0) := B2.out.cell 1
    have f0 := B2.out.frozen 0
    have f1 := B2.out.frozen 1
    have hlt2 := B2.out.lt
    clear hb2 c0 c1 hlt HB HR
    by_cases h3 : r3 = 0
    · subst h3
      by_cases hlo2 : x < low
      · have HE := Lib.hid (show (cInt low high).dec l = .inr 62 from by rw [HD.out, if_neg (by simp), if_neg (by omega)])
        go_wp2
        go_ret
        obtain ⟨s1, s2⟩ := CX.err (k := 62) B2.out R2.out HN.out (by decide)
        exact ⟨K2.out.trans s2 (Grows.refl _ _), _, 0, .inr 62, rfl, ⟨rfl, hlo, hhi⟩, s1, HE.out, fun _ _ => rfl⟩
      have dlo : decide (x < low) = false := decide_eq_false hlo2
      by_cases hhi2 : high < x
      · have dhi : decide (high < x) = true := decide_eq_true hhi2
        have HE := Lib.hid (show (cInt low high).dec l = .inr 62 from by rw [HD.out, if_neg (by simp), if_neg (by omega)])
        go_wp2
        go_ret
        obtain ⟨s1, s2⟩ := CX.err (k := 62) B2.out R2.out HN.out (by decide)
        exact ⟨K2.out.trans s2 (Grows.refl _ _), _, 0, .inr 62, rfl, ⟨rfl, hlo, hhi⟩, s1, HE.out, fun _ _ => rfl⟩
      · have dhi : decide (high < x) = false := decide_eq_false hhi2
        have HE := Lib.hid (show (cInt low high).dec l = .inl (x, l.drop r2) from by rw [HD.out, if_neg (by simp), if_pos (by omega)])
        have hle : r2 ≤ n := by
          have hl := R2.out.len
          rcases HERR.out with ⟨_, h⟩ | h | h
          · omega
          · simp at h
          · simp at h
        obtain ⟨a', hs1, hs2, hs3⟩ := cut_bytes3 (P := Try.prog) 31 5 Try.underlying31 (by kernel_rfl) byte_info a n c r2 r2 rfl hle
        have HS := Lib.hid (hs2 _ _ R2.out)
        obtain ⟨n', hn'⟩ : ∃ n', n - r2 = n' := ⟨_, rfl⟩
        obtain ⟨c', hc'⟩ : ∃ c', c - r2 = c' := ⟨_, rfl⟩
        rw [hn', hc'] at hs1 HS
        have HA := Lib.hid (show 0 < n' → ∀ ad, a' = some ad → ad.block < B ∧ B ≤ g from by
          intro h0 ad had
          obtain ⟨ad0, h1, h2⟩ := hs3 ad had
          rw [← h2]
          exact HN.out (by omega) ad0 h1)
        clear hs2 hs3 hn' hc'
        go_wp2
        go_ret
        obtain ⟨s1, s2⟩ := CX.rest (k := 0) B2.out HS.out HA.out
        exact ⟨K2.out.trans s2 (Grows.refl _ _), _, x, .inl (l.drop r2), rfl, ⟨rfl, by omega, by omega⟩, s1, HE.out, fun _ h => nomatch h⟩
    · have h3b : ((r3 : Int) == 0) = false := by simp; omega
      have h3c : ((r3 : Int) != 0) = true := by simp; omega
      have HE := Lib.hid (show (cInt low high).dec l = .inr r3 from by rw [HD.out, if_pos h3])
      go_wp2
      go_ret
      obtain ⟨s1, s2⟩ := CX.err (k := r3) B2.out R2.out HN.out h3
      exact ⟨K2.out.trans s2 (Grows.refl _ _), _, 0, .inr r3, rfl, ⟨rfl, hlo, hhi⟩, s1, HE.out, fun _ _ => rfl⟩
  · obtain ⟨h0, l, hx⟩ := h
    obtain ⟨a, n, c, c0, c1, _, _, hlt, HB, HR, HN⟩ := hx.opened
    have hkb : ((k : Int) != 0) = true := by simp; omega
    have H0 := Lib.hid h0
    have HX := Lib.hid hx
    clear h0 hx
    go_enter Try.func81, Try.ntmps81
    go_wp2
    go_ret
    exact ⟨Kept.refl _ _, _, 0, .inr k, rfl, ⟨rfl, hlo, hhi⟩, ⟨H0.out, l, HX.out⟩, rfl, fun _ _ => rfl⟩

theorem cnum_z (most : Nat) (B g : Nat) (s : List Nat ⊕ Nat) (w : World) (h : CState w B g s) (hm : most < 18446744073709551616) :
    Calls Try.prog 58 #[.pointer (some ⟨g, 0, none⟩), .int .u64 (most : Int)] w fun e w' => RdZ 0 (cNum most hm) (IsNum most) B g s w e w' := by
  have H := Lib.hid h
  clear h
  go_enter Try.func58, Try.ntmps58
  go_wp2_with (fail)
  refine (cnum0 most B g s w H.out hm).mono ?_
  rintro e w2 ⟨hk, v, x, st, rfl, ⟨rfl, hx⟩, hs, ht, hz⟩
  have FIN := Lib.hid (show Kept [g] w w2 ∧ CState w2 B g st ∧ Step (cNum most hm) s x st ∧ ∀ k, st = .inr k → x = 0 from ⟨hk, hs, ht, hz⟩)
  clear hk hs ht hz
  go_wp2
  go_ret
  exact ⟨FIN.out.1, _, x, st, rfl, ⟨rfl, hx⟩, FIN.out.2⟩

theorem cwhole_z (low high : Int) (hlo : low ≤ 0) (hhi : 0 ≤ high) (B g : Nat) (s : List Nat ⊕ Nat) (w : World) (h : CState w B g s) :
    Calls Try.prog 71 #[.pointer (some ⟨g, 0, none⟩), .int .i64 low, .int .i64 high] w fun e w' => RdZ 0 (cInt low high) (IsInt low high) B g s w e w' := by
  have H := Lib.hid h
  clear h
  go_enter Try.func71, Try.ntmps71
  go_wp2_with (fail)
  refine (cwhole0 low high hlo hhi B g s w H.out).mono ?_
  rintro e w2 ⟨hk, v, x, st, rfl, ⟨rfl, hx⟩, hs, ht, hz⟩
  have FIN := Lib.hid (show Kept [g] w w2 ∧ CState w2 B g st ∧ Step (cInt low high) s x st ∧ ∀ k, st = .inr k → x = 0 from ⟨hk, hs, ht, hz⟩)
  clear hk hs ht hz
  go_wp2
  go_ret
  exact ⟨FIN.out.1, _, x, st, rfl, ⟨rfl, hx⟩, FIN.out.2⟩
theorem cnum_any (most : Nat) (B g : Nat) (s : List Nat ⊕ Nat) (w : World) (h : CState w B g s) (hm : most < 18446744073709551616) :
    Calls Try.prog 58 #[.pointer (some ⟨g, 0, none⟩), .int .u64 (most : Int)] w fun e w' => RdC (cNum most hm) (IsNum most) B g s w e w' := (cnum_z most B g s w h hm).mono fun _ _ h => h.c
theorem cwhole_any (low high : Int) (hlo : low ≤ 0) (hhi : 0 ≤ high) (B g : Nat) (s : List Nat ⊕ Nat) (w : World) (h : CState w B g s) :
    Calls Try.prog 71 #[.pointer (some ⟨g, 0, none⟩), .int .i64 low, .int .i64 high] w fun e w' => RdC (cInt low high) (IsInt low high) B g s w e w' := (cwhole_z low high hlo hhi B g s w h).mono fun _ _ h => h.c

/-- A number of a kind. -/
def Is_u8 (_ : World) (v : Value) (n : Nat) : Prop := v = .int .u8 (n : Int) ∧ n ≤ 255
/-- A number of a kind. -/
def Is_u16 (_ : World) (v : Value) (n : Nat) : Prop := v = .int .u16 (n : Int) ∧ n ≤ 65535
/-- A number of a kind. -/
def Is_u32 (_ : World) (v : Value) (n : Nat) : Prop := v = .int .u32 (n : Int) ∧ n ≤ 4294967295
theorem clong_any (B g : Nat) (s : List Nat ⊕ Nat) (w : World) (h : CState w B g s) :
    Calls Try.prog 49 #[.pointer (some ⟨g, 0, none⟩)] w fun e w' => RdC cU32 Is_u32 B g s w e w' := by
  have H := Lib.hid h
  clear h
  go_enter Try.func49, Try.ntmps49
  go_wp2_with (fail)
  refine (cnum_any 4294967295 B g s w H.out (by decide)).mono ?_
  rintro e w2 ⟨hk, v, x, st, rfl, ⟨rfl, hx⟩, hs, ht⟩
  have hwn : IntKind.u32.wrap (x : Int) = (x : Int) := by rw [IntKind.wrap_u32]; omega
  have FIN := Lib.hid (show Kept [g] w w2 ∧ CState w2 B g st ∧ Step cU32 s x st from ⟨hk, hs, ht⟩)
  clear hk hs ht
  go_wp2
  go_ret
  exact ⟨FIN.out.1, _, x, st, rfl, ⟨rfl, hx⟩, FIN.out.2⟩

def IsFlag (_ : World) (v : Value) (b : Bool) : Prop := v = .bool b

theorem cflag_any (B g : Nat) (s : List Nat ⊕ Nat) (w : World) (h : CState w B g s) :
    Calls Try.prog 48 #[.pointer (some ⟨g, 0, none⟩)] w fun e w' => RdC cFlag IsFlag B g s w e w' := by
  have H := Lib.hid h
  clear h
  go_enter Try.func48, Try.ntmps48
  go_wp2_with (fail)
  refine (cnum_any 1 B g s w H.out (by decide)).mono ?_
  rintro e w2 ⟨hk, v, x, st, rfl, ⟨rfl, hx⟩, hs, ht⟩
  have hb : ((x : Int) == 1) = (x == 1) := by rw [Bool.eq_iff_iff]; simp; omega
  have ht := (show Step cFlag s (x == 1) st from Step.map ht)
  have FIN := Lib.hid (show Kept [g] w w2 ∧ CState w2 B g st ∧ Step cFlag s (x == 1) st from ⟨hk, hs, ht⟩)
  clear hk hs ht
  go_wp2
  go_ret
  exact ⟨FIN.out.1, _, (x == 1), st, rfl, rfl, FIN.out.2⟩

/-- A piece of what is read. -/
def IsPiece (B g : Nat) (w : World) (v : Value) (bs : List Nat) : Prop := ∃ a n c, v = .slice a n c ∧ BReads w a n c bs ∧ bs.length ≤ 4096 ∧ (0 < n → ∀ ad, a = some ad → ad.block < B ∧ B ≤ g)

theorem BReads.far {B g : Nat} {w w' : World} {a : Option Addr} {n c : Nat} {bs : List Nat} (h : BReads w a n c bs) (hk : Kept [g] w w') (hn : 0 < n → ∀ ad, a = some ad → ad.block < B ∧ B ≤ g) : BReads w' a n c bs := by
  refine ⟨h.len, h.small, h.byte, h.nilOk, h.room, ?_⟩
  rcases h.cells with h4 | ⟨b, off, ha, hlt, hc⟩
  · exact .inl h4
  · refine .inr ⟨b, off, ha, Nat.lt_of_lt_of_le hlt hk.size, fun i hi => ?_⟩
    have hb := hn (by omega) ⟨b, off, none⟩ ha
    rw [hk.cell (p := ⟨b, off + i, none⟩) hlt (by simp; simp only at hb; omega)]
    exact hc i hi

/-- A bound of another kind. -/
theorem slice_low {P : Program} (t e : TypeId) (hu : P.underlying t = some (.slice e)) (he : P.elem t = e) (a : Option Addr) (n c : Nat) (l : Int) (h0 : 0 ≤ l) (h1 : l ≤ n) (w : World) :
    (Instr.slice t (.slice a n c) (some (.int .u64 l)) none none).run P w = (Instr.slice t (.slice a n c) (some (.int .i64 l)) none none).run P w := by
  rw [run_slice_l (P := P) w t a n c (by rw [he]; exact hu) .i64 l h0 h1, run_slice_l (P := P) w t a n c (by rw [he]; exact hu) .u64 l h0 h1]
theorem slice_high {P : Program} (t e : TypeId) (hu : P.underlying t = some (.slice e)) (he : P.elem t = e) (a : Option Addr) (n c : Nat) (l : Int) (h0 : 0 ≤ l) (h1 : l ≤ c) (w : World) :
    (Instr.slice t (.slice a n c) none (some (.int .u64 l)) none).run P w = (Instr.slice t (.slice a n c) none (some (.int .i64 l)) none).run P w := by
  rw [run_slice_h (P := P) w t a n c (by rw [he]; exact hu) .i64 l h0 h1, run_slice_h (P := P) w t a n c (by rw [he]; exact hu) .u64 l h0 h1]

set_option maxRecDepth 100000 in
set_option maxHeartbeats 3200000 in
theorem cbytes_any (B g : Nat) (s : List Nat ⊕ Nat) (w : World) (h : CState w B g s) :
    Calls Try.prog 83 #[.pointer (some ⟨g, 0, none⟩)] w fun e w' => RdC cStr (IsPiece B g) B g s w e w' := by
  have H := Lib.hid h
  clear h
  go_enter Try.func83, Try.ntmps83
  go_wp2_with (fail)
  refine (cnum_z 4096 B g s w H.out (by decide)).mono ?_
  rintro e w2 ⟨hk, v, n, st, rfl, ⟨rfl, hn⟩, hs, ht, hz⟩
  have K2 := Lib.hid hk
  have T2 := Lib.hid ht
  clear hk ht
  rcases st with r | k
  · have hx : CX w2 B g r 0 := hs
    obtain ⟨a, m, c, c0, c1, f0, f1, hlt, B2, R2, N2⟩ := hx.opened
    have HLEN := Lib.hid R2.out.len
    have hmc := R2.out.room
    have hms := R2.out.small
    have hwm : IntKind.u64.wrap (m : Int) = (m : Int) := by rw [IntKind.wrap_u64]; omega
    have HS := Lib.hid (show ∀ a st, (cStr.dec · = if r.length < n then .inr 40 else .inl (r.take n, r.drop n)) = (cStr.dec · = if r.length < n then .inr 40 else .inl (r.take n, r.drop n)) → Step cStr s a st = Step cStr s a st from fun _ _ _ => rfl)
    have HD := Lib.hid (show (r.length < n → ∀ b, Step cStr s b (.inr 40)) ∧ (¬ r.length < n → Step cStr s (r.take n) (.inl (r.drop n))) from by
      have ht := T2.out
      rcases s with l | e
      · have hd : (cNum 4096 (by decide)).dec l = .inl (n, r) := ht
        have hc := cText_dec (most := 4096) (hm := by decide) l
        rw [hd] at hc
        simp only at hc
        constructor
        · intro hlt b
          rw [if_pos hlt] at hc
          exact hc
        · intro hlt
          rw [if_neg hlt] at hc
          exact hc
      · exact ht.elim)
    clear hx hs hz HS
    by_cases hlt' : m < n
    · have hlt2 : (m : Int) < (n : Int) := by omega
      go_wp2
      go_ret
      obtain ⟨s1, s2⟩ := CX.err (k := 40) B2.out R2.out N2.out (by decide)
      exact ⟨K2.out.trans s2 (Grows.refl _ _), _, [], .inr 40, rfl, ⟨none, 0, 0, rfl, BReads.nil _, by decide, fun h => absurd h (by decide)⟩, s1, HD.out.1 (by rw [HLEN.out]; exact hlt') _⟩
    · have hle : n ≤ m := by omega
      have hnlt : ¬ (m : Int) < (n : Int) := by omega
      obtain ⟨a0, hh1, rfl⟩ := head_bytes (P := Try.prog) 31 5 Try.underlying31 (by kernel_rfl) byte_info a m c n n rfl (by omega)
      obtain ⟨a', hs1, hs2, hs3⟩ := cut_bytes3 (P := Try.prog) 31 5 Try.underlying31 (by kernel_rfl) byte_info a0 m c n n rfl hle
      replace hs1 := fun w => (slice_low (P := Try.prog) 31 5 Try.underlying31 (by kernel_rfl) a0 m c (n : Int) (by omega) (by omega) w).trans (hs1 w)
      replace hh1 := fun w => (slice_high (P := Try.prog) 31 5 Try.underlying31 (by kernel_rfl) a0 m c (n : Int) (by omega) (by omega) w).trans (hh1 w)
      have HS2 := Lib.hid (hs2 _ _ R2.out)
      obtain ⟨m', hm'⟩ : ∃ m', m - n = m' := ⟨_, rfl⟩
      obtain ⟨c', hc'⟩ : ∃ c', c - n = c' := ⟨_, rfl⟩
      rw [hm', hc'] at hs1 HS2
      have HA := Lib.hid (show 0 < m' → ∀ ad, a' = some ad → ad.block < B ∧ B ≤ g from by
        intro h0 ad had
        obtain ⟨ad0, h1, h2⟩ := hs3 ad had
        rw [← h2]
        exact N2.out (by omega) ad0 h1)
      have HT := Lib.hid (R2.out.take hle)
      clear hs2 hs3 hm' hc'
      go_wp2
      go_ret
      obtain ⟨s1, s2⟩ := CX.rest (k := 0) B2.out HS2.out HA.out
      refine ⟨K2.out.trans s2 (Grows.refl _ _), _, r.take n, .inl (r.drop n), rfl, ⟨a0, n, c, rfl, HT.out.far s2 (fun h0 ad had => N2.out (by omega) ad had), by rw [List.length_take]; omega, fun h0 ad had => N2.out (by omega) ad had⟩, s1, HD.out.2 (by rw [HLEN.out]; omega)⟩
  · obtain ⟨hk0, l, hx⟩ := hs
    have hn0 : n = 0 := hz k rfl
    subst hn0
    obtain ⟨a, m, c, c0, c1, f0, f1, hlt, B2, R2, N2⟩ := hx.opened
    have hmc := R2.out.room
    have hms := R2.out.small
    have hwm : IntKind.u64.wrap (m : Int) = (m : Int) := by rw [IntKind.wrap_u64]; omega
    have H0 := Lib.hid hk0
    have HD := Lib.hid (show ∀ b, Step cStr s b (.inr k) from by
      have ht := T2.out
      rcases s with l | e
      · have hd : (cNum 4096 (by decide)).dec l = .inr k := ht
        have hc := cText_dec (most := 4096) (hm := by decide) l
        rw [hd] at hc
        exact fun b => hc
      · exact fun b => ht)
    clear hx hk0 hz
    have hnlt : ¬ (m : Int) < 0 := by omega
    obtain ⟨a0, hh1, rfl⟩ := head_bytes (P := Try.prog) 31 5 Try.underlying31 (by kernel_rfl) byte_info a m c 0 0 rfl (by omega)
    obtain ⟨a', hs1, hs2, hs3⟩ := cut_bytes3 (P := Try.prog) 31 5 Try.underlying31 (by kernel_rfl) byte_info a0 m c 0 0 rfl (by omega)
    replace hs1 := fun w => (slice_low (P := Try.prog) 31 5 Try.underlying31 (by kernel_rfl) a0 m c 0 (by omega) (by omega) w).trans (hs1 w)
    replace hh1 := fun w => (slice_high (P := Try.prog) 31 5 Try.underlying31 (by kernel_rfl) a0 m c 0 (by omega) (by omega) w).trans (hh1 w)
    have HS2 := Lib.hid (hs2 _ _ R2.out)
    obtain ⟨m', hm'⟩ : ∃ m', m - 0 = m' := ⟨_, rfl⟩
    obtain ⟨c', hc'⟩ : ∃ c', c - 0 = c' := ⟨_, rfl⟩
    rw [hm', hc'] at hs1 HS2
    have HA := Lib.hid (show 0 < m' → ∀ ad, a' = some ad → ad.block < B ∧ B ≤ g from by
      intro h0 ad had
      obtain ⟨ad0, h1, h2⟩ := hs3 ad had
      rw [← h2]
      exact N2.out (by omega) ad0 h1)
    have HT := Lib.hid (R2.out.take (k := 0) (by omega))
    clear hs2 hs3 hm' hc'
    go_wp2
    go_ret
    obtain ⟨s1, s2⟩ := CX.rest (k := k) B2.out HS2.out HA.out
    exact ⟨K2.out.trans s2 (Grows.refl _ _), _, _, .inr k, rfl, ⟨a0, 0, c, rfl, HT.out.far (B := B) s2 (fun h0 => absurd h0 (by decide)), by simp, fun h0 => absurd h0 (by decide)⟩, ⟨H0.out, _, s1⟩, HD.out _⟩

set_option maxRecDepth 100000 in
theorem ctext_any (B g : Nat) (s : List Nat ⊕ Nat) (w : World) (h : CState w B g s) :
    Calls Try.prog 74 #[.pointer (some ⟨g, 0, none⟩)] w fun e w' => RdC cStr IsTx B g s w e w' := by
  have H := Lib.hid h
  clear h
  go_enter Try.func74, Try.ntmps74
  go_wp2_with (fail)
  refine (cbytes_any B g s w H.out).mono ?_
  rintro e w2 ⟨hk, v, bs, st, rfl, ⟨a, n, c, rfl, hr, hl, _⟩, hs, ht⟩
  obtain ⟨str, hstr⟩ : ∃ str, strOfB bs = str := ⟨_, rfl⟩
  have kc : (convert 31 9 (.slice a n c)).run Try.prog w2 = .ok (.string str) w2 := by
    rw [← hstr]
    exact hr.str 31 5 Try.underlying31 Try.underlying5 9 Try.underlying9
  have FIN := Lib.hid (show RdC cStr IsTx B g s w (.returned (.string str)) w2 from ⟨hk, _, bs, st, rfl, ⟨str, rfl, by rw [← hstr]; exact strB_of _ hr.byte, by
    have h1 := strB_len str
    rw [← hstr, strB_of _ hr.byte] at h1
    rw [← hstr]
    omega⟩, hs, ht⟩)
  clear hk hr hl hs ht hstr
  go_wp2
  go_ret
  exact FIN.out
-- GEN

set_option maxRecDepth 100000 in
theorem ctext1_any (B g bx : Nat) (s : List Nat ⊕ Nat) (w : World) (h : CState w B g s) (hbx : Blk w bx 100 [.pointer (some ⟨g, 0, none⟩)]) :
    Calls Try.prog 73 #[.pointer (some ⟨bx, 0, none⟩)] w fun e w' => RdC cStr IsTx B g s w e w' := by
  have H := Lib.hid h
  have c0 : w.cell? ⟨bx, 0, none⟩ = some (.pointer (some ⟨g, 0, none⟩)) := hbx.cell 0
  have lt := hbx.lt
  clear h hbx
  go_enter Try.func73, Try.ntmps73
  go_wp2_with (fail)
  refine (ctext_any B g s w H.out).mono ?_
  rintro e w2 ⟨hk, v, x, st, rfl, hV, hs, ht⟩
  obtain ⟨x', rfl, hx, hsz⟩ := hV
  have FIN := Lib.hid (show RdC cStr IsTx B g s w (.returned (.string x')) w2 from ⟨hk, _, x, st, rfl, ⟨x', rfl, hx, hsz⟩, hs, ht⟩)
  clear hk hs ht hx
  go_wp2
  go_ret
  exact FIN.out

set_option maxRecDepth 100000 in
set_option maxHeartbeats 6400000 in
theorem rlist_str (B g bx : Nat) (s : List Nat ⊕ Nat) (w : World) (h : CState w B g s) (hbx : Blk w bx 100 [.pointer (some ⟨g, 0, none⟩)]) (hgb : bx ≠ g) :
    Calls Try.prog 72 #[.pointer (some ⟨g, 0, none⟩), .func (.func 73) #[] #[.pointer (some ⟨bx, 0, none⟩)]] w fun e w' => RdC (cMany cStr) (IsSl w.heap.size Sh.str 16 (fun xs : List ByteArray => xs.map strB)) B g s w e w' := by
  have HS := Lib.hid h
  have HBX := Lib.hid hbx
  have HGB := Lib.hid hgb
  have hgl := h.lt
  clear h hbx hgb
  go_enter Try.func72, Try.ntmps72
  go_wp2_with (fail)
  refine (cnum_any 128 B g s w HS.out (by decide)).mono ?_
  rintro e w2 ⟨hk2, v2, n, s2, rfl, ⟨rfl, hn⟩, hs2, st2⟩
  have K2 := Lib.hid hk2
  have S2 := Lib.hid hs2
  have T2 := Lib.hid st2
  clear hk2 hs2 st2
  go_wp2_with (fail)
  go_loopw [5, 8] (fun s5 s8 wr => ∃ (i : Nat) (st : List Nat ⊕ Nat) (xs : List ByteArray), s8 = .int .u64 i ∧ i ≤ n ∧ Hid (CState wr B g st) ∧ Hid (∀ r, s2 = .inl r → ManyR cStr n i r (xs.map strB) st) ∧ Hid (∀ k, s2 = .inr k → st = .inr k) ∧ Hid (OwnR w.heap.size wr 9 Sh.str s5 xs) ∧ Hid (xs.length ≤ i) ∧ Hid (Kept [g] w wr)) (fun _ s8 _ => n - (intOf s8).toNat)
  case atStart => exact ⟨0, s2, [], rfl, by omega, S2.out, fun r h => by subst h; exact ManyR.start cStr n r, fun k h => h, OwnR.nil _ _ _ _, by simp [Hid], K2.out⟩
  case round =>
    clear K2 S2
    obtain ⟨i, st, xs, rfl, hi, HST, HM, HB, HO, HLN, HK⟩ := hrel
    have hwr := HK.out.size
    rcases st with q | k
    · have hat : CX wr B g q 0 := HST.out
      obtain ⟨a, m, c, _, c1, _, _, hlt, _, _, _⟩ := hat.opened
      have c1 : wr.cell? ⟨g, 1, none⟩ = some (.int .i64 0) := c1
      have HM2 := Lib.hid (show ∃ r, s2 = .inl r ∧ ManyR cStr n i r (xs.map strB) (.inl q) from by
        rcases s2 with r | k
        · exact ⟨r, rfl, HM.out r rfl⟩
        · exact nomatch HB.out k rfl)
      have XB := Lib.hid (HK.out.blk HBX.out (by simpa using HGB.out))
      clear hat HM HB
      by_cases hin : i < n
      · go_wp2_with (fail)
        refine (ctext1_any B g bx (.inl q) wr HST.out XB.out).mono ?_
        rintro e w4 ⟨hk4, v4, a4, s4, rfl, hV, hs4, st4⟩
        obtain ⟨x, rfl, rfl, hsz⟩ := hV
        have O4 := Lib.hid (HO.out.kept hk4 (by simp; omega))
        have K4 := Lib.hid (HK.out.trans hk4 (Grows.refl _ _))
        have h4s := K4.out.size
        have S4 := Lib.hid hs4
        have hown4 := Lib.hid (fun k (hk : Value.ownBlock u5 = some k) => (HO.out.lt k hk).2)
        have hln := HLN.out
        obtain ⟨el, hel⟩ : ∃ el : ByteArray, el = x := ⟨_, rfl⟩
        have R4 := Lib.hid (show Rd (fun k => w.heap.size ≤ k ∧ Value.ownBlock u5 ≠ some k) w4 Sh.str [.string x] el from by
          rw [hel]
          exact Rd.str_mk rfl (by omega))
        have M4 := Lib.hid (show Step cStr (.inl q) (strB el) s4 from by rw [hel]; exact st4)
        clear hk4 hs4 st4 HO HST HK c1 hel hsz
        go_wp2_with (at_builtin; go_must (refine app_row (e := Sh.str) w4 rfl (.tmp 15) (.tmp 18) 77 rfl Try.underlying77 (.string ⟨#[]⟩) 16 string_info rfl (by decide) el [.string x] (by rfl) (by rfl) O4.out R4.out h4s (show (List.length (α := ByteArray) xs + 1) * 16 ≤ 140737488355328 by omega) (show List.length (α := ByteArray) xs ≤ 2000000 by omega) ?_))
        intro v5 w5 ho5 hk5 hg5
        have O5 := Lib.hid ho5
        have hown := fun k (hk : k ∈ ownB u5) => (O4.out.lt k (mem_ownB.1 hk)).1
        have K5 := Lib.hid (K4.out.trans hk5 (fun k hk => .inr (hown k hk)))
        have S5 := Lib.hid (S4.out.kept hk5 (fun k hk => by have := hown k hk; omega))
        have A5 := Lib.hid (show (∀ r, s2 = .inl r → ManyR cStr n (i + 1) r ((xs ++ [el]).map strB) s4) ∧ ∀ k, s2 = .inr k → s4 = .inr k from by
          obtain ⟨r, hr, hm⟩ := HM2.out
          refine ⟨fun r' hr' => ?_, fun k hk => by rw [hr] at hk; cases hk⟩
          rw [hr] at hr'
          cases hr'
          have := hm.step hin M4.out
          rw [List.map_append]
          exact this)
        clear ho5 hk5 hg5 hown O4 K4 S4 R4 M4
        go_wp2
        go_roundw
        case rel => exact ⟨i + 1, s4, xs ++ [el], by go_num, by omega, S5.out, A5.out.1, A5.out.2, O5.out, (show List.length (α := ByteArray) (xs ++ [el]) ≤ i + 1 by rw [List.length_append]; simp; omega), K5.out⟩
        case measure => simp [intOf]; omega
      · have hin' : i = n := by omega
        subst hin'
        obtain ⟨r, hr, hm⟩ := HM2.out
        have HE := Lib.hid (show Step (cMany cStr) s (xs.map strB) (.inl q) from by
          have h1 := T2.out
          rw [hr] at h1
          rcases s with l | k
          · show (cMany cStr).dec l = .inl (xs.map strB, q)
            rw [cMany_dec]
            have h2 : (cNum 128 (by decide)).dec l = .inl (i, r) := h1
            rw [h2]
            exact hm.fin
          · exact h1.elim)
        have HR := Lib.hid (HO.out.rd 16 (by decide) (show List.length (α := ByteArray) xs * 16 ≤ 140737488351232 by have := HLN.out; omega))
        clear hr hm HM2
        go_wp2
        go_ret
        exact ⟨HK.out, _, _, .inl q, rfl, ⟨xs, HR.out, rfl⟩, HST.out, HE.out⟩
    · obtain ⟨hk0, l, hbad⟩ := HST.out
      obtain ⟨a, m, c, _, c1, _, _, hlt, _, _, _⟩ := hbad.opened
      have e1 : ((k : Int) != 0) = true := by simp; omega
      have HE := Lib.hid (show Step (cMany cStr) s (xs.map strB) (.inr k) from by
        have h1 := T2.out
        rcases s2 with r | k2
        · have h3 := HM.out r rfl
          rcases s with l | k3
          · show (cMany cStr).dec l = .inr k
            rw [cMany_dec]
            have h2 : (cNum 128 (by decide)).dec l = .inl (n, r) := h1
            rw [h2]
            exact h3
          · exact h1.elim
        · have h3 := HB.out k2 rfl
          cases h3
          rcases s with l | k3
          · show (cMany cStr).dec l = .inr k
            rw [cMany_dec]
            have h2 : (cNum 128 (by decide)).dec l = .inr k := h1
            rw [h2]
          · exact h1)
      have HR := Lib.hid (HO.out.rd 16 (by decide) (show List.length (α := ByteArray) xs * 16 ≤ 140737488351232 by have := HLN.out; omega))
      clear hbad hk0
      by_cases hin : i < n
      all_goals
        go_wp2
        go_ret
        exact ⟨HK.out, _, _, .inr k, rfl, ⟨xs, HR.out, rfl⟩, HST.out, HE.out⟩

set_option maxRecDepth 100000 in
theorem ctexts_any (B g : Nat) (s : List Nat ⊕ Nat) (w : World) (h : CState w B g s) :
    Calls Try.prog 60 #[.pointer (some ⟨g, 0, none⟩)] w fun e w' => RdC (cMany cStr) (IsSl w.heap.size Sh.str 16 (fun xs : List ByteArray => xs.map strB)) B g s w e w' := by
  have hgl := h.lt
  obtain ⟨w1, hw1⟩ : ∃ w1, w.alloc (.cells #[.pointer (some ⟨g, 0, none⟩)] 100) = w1 := ⟨_, rfl⟩
  have k01 : Kept [] w w1 := by rw [← hw1]; exact (Kept.refl _ _).alloc _
  have X1 := Lib.hid (show Blk w1 w.heap.size 100 [.pointer (some ⟨g, 0, none⟩)] from by rw [← hw1]; exact Blk.new w _ _)
  have S1 := Lib.hid (h.kept k01 (by simp))
  have K1 := Lib.hid (show Kept [g] w w1 from k01.mono (by simp))
  have hs1 := k01.size
  have c0 : w1.cell? ⟨w.heap.size, 0, none⟩ = some (.pointer (some ⟨g, 0, none⟩)) := X1.out.cell 0
  have lt := X1.out.lt
  clear h k01
  go_enter Try.func60, Try.ntmps60
  go_wp2_with (fail)
  try rw [hw1]
  clear hw1
  refine (rlist_str B g w.heap.size s w1 S1.out X1.out (by omega)).mono ?_
  rintro e w2 ⟨hk, v, x, st, rfl, ⟨xs, hr, hx⟩, hs, ht⟩
  obtain ⟨a, n, c, hcs, _, _, _⟩ := Rd.slice_is (e := Sh.str) hr
  simp only [List.cons.injEq, and_true] at hcs
  subst hcs
  have FIN := Lib.hid (show RdC (cMany cStr) (IsSl w.heap.size Sh.str 16 (fun xs : List ByteArray => xs.map strB)) B g s w (.returned (.slice a n c)) w2 from ⟨K1.out.trans hk (Grows.refl _ _), _, x, st, rfl, ⟨xs, hr.mono (fun k hk _ => by omega), hx⟩, hs, ht⟩)
  clear hk hr hs ht hx
  go_wp2
  go_ret
  exact FIN.out

/-- A part of a vector. -/
def IsPart (_ : World) (v : Value) (n : Int) : Prop := v = .int .i32 n ∧ -2147483648 ≤ n ∧ n ≤ 2147483647

set_option maxRecDepth 100000 in
theorem cpart_any (B g bx : Nat) (s : List Nat ⊕ Nat) (w : World) (h : CState w B g s) (hbx : Blk w bx 100 [.pointer (some ⟨g, 0, none⟩)]) :
    Calls Try.prog 70 #[.pointer (some ⟨bx, 0, none⟩)] w fun e w' => RdC (cInt (-2147483648) 2147483647) IsPart B g s w e w' := by
  have H := Lib.hid h
  have c0 : w.cell? ⟨bx, 0, none⟩ = some (.pointer (some ⟨g, 0, none⟩)) := hbx.cell 0
  have lt := hbx.lt
  clear h hbx
  go_enter Try.func70, Try.ntmps70
  go_wp2_with (fail)
  refine (cwhole_any (-2147483648) 2147483647 (by decide) (by decide) B g s w H.out).mono ?_
  rintro e w2 ⟨hk, v, x, st, rfl, hV, hs, ht⟩
  obtain ⟨rfl, h1, h2⟩ := hV
  have hw : IntKind.i32.wrap x = x := by rw [IntKind.wrap_i32]; omega
  have FIN := Lib.hid (show RdC (cInt (-2147483648) 2147483647) IsPart B g s w (.returned (.int .i32 x)) w2 from ⟨hk, _, x, st, rfl, ⟨rfl, h1, h2⟩, hs, ht⟩)
  clear hk hs ht
  go_wp2
  go_ret
  exact FIN.out

set_option maxRecDepth 100000 in
set_option maxHeartbeats 6400000 in
theorem rlist_i32 (B g bx : Nat) (s : List Nat ⊕ Nat) (w : World) (h : CState w B g s) (hbx : Blk w bx 100 [.pointer (some ⟨g, 0, none⟩)]) (hgb : bx ≠ g) :
    Calls Try.prog 69 #[.pointer (some ⟨g, 0, none⟩), .func (.func 70) #[] #[.pointer (some ⟨bx, 0, none⟩)]] w fun e w' => RdC (cMany (cInt (-2147483648) 2147483647)) (IsSl w.heap.size (Sh.int .i32) 4 (fun xs : List Int => xs.map id)) B g s w e w' := by
  have HS := Lib.hid h
  have HBX := Lib.hid hbx
  have HGB := Lib.hid hgb
  have hgl := h.lt
  clear h hbx hgb
  go_enter Try.func69, Try.ntmps69
  go_wp2_with (fail)
  refine (cnum_any 128 B g s w HS.out (by decide)).mono ?_
  rintro e w2 ⟨hk2, v2, n, s2, rfl, ⟨rfl, hn⟩, hs2, st2⟩
  have K2 := Lib.hid hk2
  have S2 := Lib.hid hs2
  have T2 := Lib.hid st2
  clear hk2 hs2 st2
  go_wp2_with (fail)
  go_loopw [5, 8] (fun s5 s8 wr => ∃ (i : Nat) (st : List Nat ⊕ Nat) (xs : List Int), s8 = .int .u64 i ∧ i ≤ n ∧ Hid (CState wr B g st) ∧ Hid (∀ r, s2 = .inl r → ManyR (cInt (-2147483648) 2147483647) n i r (xs.map id) st) ∧ Hid (∀ k, s2 = .inr k → st = .inr k) ∧ Hid (OwnR w.heap.size wr 21 (Sh.int .i32) s5 xs) ∧ Hid (xs.length ≤ i) ∧ Hid (Kept [g] w wr)) (fun _ s8 _ => n - (intOf s8).toNat)
  case atStart => exact ⟨0, s2, [], rfl, by omega, S2.out, fun r h => by subst h; exact ManyR.start (cInt (-2147483648) 2147483647) n r, fun k h => h, OwnR.nil _ _ _ _, by simp [Hid], K2.out⟩
  case round =>
    clear K2 S2
    obtain ⟨i, st, xs, rfl, hi, HST, HM, HB, HO, HLN, HK⟩ := hrel
    have hwr := HK.out.size
    rcases st with q | k
    · have hat : CX wr B g q 0 := HST.out
      obtain ⟨a, m, c, _, c1, _, _, hlt, _, _, _⟩ := hat.opened
      have c1 : wr.cell? ⟨g, 1, none⟩ = some (.int .i64 0) := c1
      have HM2 := Lib.hid (show ∃ r, s2 = .inl r ∧ ManyR (cInt (-2147483648) 2147483647) n i r (xs.map id) (.inl q) from by
        rcases s2 with r | k
        · exact ⟨r, rfl, HM.out r rfl⟩
        · exact nomatch HB.out k rfl)
      have XB := Lib.hid (HK.out.blk HBX.out (by simpa using HGB.out))
      clear hat HM HB
      by_cases hin : i < n
      · go_wp2_with (fail)
        refine (cpart_any B g bx (.inl q) wr HST.out XB.out).mono ?_
        rintro e w4 ⟨hk4, v4, a4, s4, rfl, hV, hs4, st4⟩
        obtain ⟨rfl, hx1, hx2⟩ := hV
        have O4 := Lib.hid (HO.out.kept hk4 (by simp; omega))
        have K4 := Lib.hid (HK.out.trans hk4 (Grows.refl _ _))
        have h4s := K4.out.size
        have S4 := Lib.hid hs4
        have hown4 := Lib.hid (fun k (hk : Value.ownBlock u5 = some k) => (HO.out.lt k hk).2)
        have hln := HLN.out
        obtain ⟨el, hel⟩ : ∃ el : Int, el = a4 := ⟨_, rfl⟩
        have R4 := Lib.hid (show Rd (fun k => w.heap.size ≤ k ∧ Value.ownBlock u5 ≠ some k) w4 (Sh.int .i32) [.int .i32 a4] el from by
          rw [hel]
          exact Rd.int_mk rfl (i32_mk ⟨hx1, hx2⟩))
        have M4 := Lib.hid (show Step (cInt (-2147483648) 2147483647) (.inl q) (id el) s4 from by rw [hel]; exact st4)
        clear hk4 hs4 st4 HO HST HK c1 hel hx1 hx2
        go_wp2_with (at_builtin; go_must (refine app_row (e := (Sh.int .i32)) w4 rfl (.tmp 15) (.tmp 18) 76 rfl Try.underlying76 (.int .i32 0) 4 i32_info rfl (by decide) el [.int .i32 a4] (by rfl) (by rfl) O4.out R4.out h4s (show (List.length (α := Int) xs + 1) * 4 ≤ 140737488355328 by omega) (show List.length (α := Int) xs ≤ 2000000 by omega) ?_))
        intro v5 w5 ho5 hk5 hg5
        have O5 := Lib.hid ho5
        have hown := fun k (hk : k ∈ ownB u5) => (O4.out.lt k (mem_ownB.1 hk)).1
        have K5 := Lib.hid (K4.out.trans hk5 (fun k hk => .inr (hown k hk)))
        have S5 := Lib.hid (S4.out.kept hk5 (fun k hk => by have := hown k hk; omega))
        have A5 := Lib.hid (show (∀ r, s2 = .inl r → ManyR (cInt (-2147483648) 2147483647) n (i + 1) r ((xs ++ [el]).map id) s4) ∧ ∀ k, s2 = .inr k → s4 = .inr k from by
          obtain ⟨r, hr, hm⟩ := HM2.out
          refine ⟨fun r' hr' => ?_, fun k hk => by rw [hr] at hk; cases hk⟩
          rw [hr] at hr'
          cases hr'
          have := hm.step hin M4.out
          rw [List.map_append]
          exact this)
        clear ho5 hk5 hg5 hown O4 K4 S4 R4 M4
        go_wp2
        go_roundw
        case rel => exact ⟨i + 1, s4, xs ++ [el], by go_num, by omega, S5.out, A5.out.1, A5.out.2, O5.out, (show List.length (α := Int) (xs ++ [el]) ≤ i + 1 by rw [List.length_append]; simp; omega), K5.out⟩
        case measure => simp [intOf]; omega
      · have hin' : i = n := by omega
        subst hin'
        obtain ⟨r, hr, hm⟩ := HM2.out
        have HE := Lib.hid (show Step (cMany (cInt (-2147483648) 2147483647)) s (xs.map id) (.inl q) from by
          have h1 := T2.out
          rw [hr] at h1
          rcases s with l | k
          · show (cMany (cInt (-2147483648) 2147483647)).dec l = .inl (xs.map id, q)
            rw [cMany_dec]
            have h2 : (cNum 128 (by decide)).dec l = .inl (i, r) := h1
            rw [h2]
            exact hm.fin
          · exact h1.elim)
        have HR := Lib.hid (HO.out.rd 4 (by decide) (show List.length (α := Int) xs * 4 ≤ 140737488351232 by have := HLN.out; omega))
        clear hr hm HM2
        go_wp2
        go_ret
        exact ⟨HK.out, _, _, .inl q, rfl, ⟨xs, HR.out, rfl⟩, HST.out, HE.out⟩
    · obtain ⟨hk0, l, hbad⟩ := HST.out
      obtain ⟨a, m, c, _, c1, _, _, hlt, _, _, _⟩ := hbad.opened
      have e1 : ((k : Int) != 0) = true := by simp; omega
      have HE := Lib.hid (show Step (cMany (cInt (-2147483648) 2147483647)) s (xs.map id) (.inr k) from by
        have h1 := T2.out
        rcases s2 with r | k2
        · have h3 := HM.out r rfl
          rcases s with l | k3
          · show (cMany (cInt (-2147483648) 2147483647)).dec l = .inr k
            rw [cMany_dec]
            have h2 : (cNum 128 (by decide)).dec l = .inl (n, r) := h1
            rw [h2]
            exact h3
          · exact h1.elim
        · have h3 := HB.out k2 rfl
          cases h3
          rcases s with l | k3
          · show (cMany (cInt (-2147483648) 2147483647)).dec l = .inr k
            rw [cMany_dec]
            have h2 : (cNum 128 (by decide)).dec l = .inr k := h1
            rw [h2]
          · exact h1)
      have HR := Lib.hid (HO.out.rd 4 (by decide) (show List.length (α := Int) xs * 4 ≤ 140737488351232 by have := HLN.out; omega))
      clear hbad hk0
      by_cases hin : i < n
      all_goals
        go_wp2
        go_ret
        exact ⟨HK.out, _, _, .inr k, rfl, ⟨xs, HR.out, rfl⟩, HST.out, HE.out⟩

set_option maxRecDepth 100000 in
theorem cvec_any0 (B g : Nat) (s : List Nat ⊕ Nat) (w : World) (h : CState w B g s) :
    Calls Try.prog 59 #[.pointer (some ⟨g, 0, none⟩)] w fun e w' => RdC (cMany (cInt (-2147483648) 2147483647)) (IsSl w.heap.size (Sh.int .i32) 4 (fun xs : List Int => xs.map id)) B g s w e w' := by
  have hgl := h.lt
  obtain ⟨w1, hw1⟩ : ∃ w1, w.alloc (.cells #[.pointer (some ⟨g, 0, none⟩)] 100) = w1 := ⟨_, rfl⟩
  have k01 : Kept [] w w1 := by rw [← hw1]; exact (Kept.refl _ _).alloc _
  have X1 := Lib.hid (show Blk w1 w.heap.size 100 [.pointer (some ⟨g, 0, none⟩)] from by rw [← hw1]; exact Blk.new w _ _)
  have S1 := Lib.hid (h.kept k01 (by simp))
  have K1 := Lib.hid (show Kept [g] w w1 from k01.mono (by simp))
  have hs1 := k01.size
  have c0 : w1.cell? ⟨w.heap.size, 0, none⟩ = some (.pointer (some ⟨g, 0, none⟩)) := X1.out.cell 0
  have lt := X1.out.lt
  clear h k01
  go_enter Try.func59, Try.ntmps59
  go_wp2_with (fail)
  try rw [hw1]
  clear hw1
  refine (rlist_i32 B g w.heap.size s w1 S1.out X1.out (by omega)).mono ?_
  rintro e w2 ⟨hk, v, x, st, rfl, ⟨xs, hr, hx⟩, hs, ht⟩
  obtain ⟨a, n, c, hcs, _, _, _⟩ := Rd.slice_is (e := (Sh.int .i32)) hr
  simp only [List.cons.injEq, and_true] at hcs
  subst hcs
  have FIN := Lib.hid (show RdC (cMany (cInt (-2147483648) 2147483647)) (IsSl w.heap.size (Sh.int .i32) 4 (fun xs : List Int => xs.map id)) B g s w (.returned (.slice a n c)) w2 from ⟨K1.out.trans hk (Grows.refl _ _), _, x, st, rfl, ⟨xs, hr.mono (fun k hk _ => by omega), hx⟩, hs, ht⟩)
  clear hk hr hs ht hx
  go_wp2
  go_ret
  exact FIN.out

theorem u8_mk {n : Nat} (h : n ≤ 255) : (Lit.int .u8 (n : Int)).wf = true := by
  simp [Lit.wf, IntKind.min, IntKind.max, IntKind.signed, IntKind.bits]
  omega
theorem u16_mk {n : Nat} (h : n ≤ 65535) : (Lit.int .u16 (n : Int)).wf = true := by
  simp [Lit.wf, IntKind.min, IntKind.max, IntKind.signed, IntKind.bits]
  omega
theorem u64_mk {n : Nat} (h : n ≤ 18446744073709551615) : (Lit.int .u64 (n : Int)).wf = true := by
  simp [Lit.wf, IntKind.min, IntKind.max, IntKind.signed, IntKind.bits]
  omega
theorem i64_mk {x : Int} (h : -9223372036854775808 ≤ x ∧ x ≤ 9223372036854775807) : (Lit.int .i64 x).wf = true := by
  simp [Lit.wf, IntKind.min, IntKind.max, IntKind.signed, IntKind.bits]
  omega
/-- A configuration that is read. -/
def IsConf (_ : World) (v : Value) (c : ConfV) : Prop := ∃ x : ByteArray, v = .agg #[.string x, .int .u8 (c.dim : Int), .int .u8 (c.metric : Int), .bool c.graph, .int .u8 (c.links : Int), .int .u16 (c.width : Int)] ∧ strB x = c.name ∧ x.size ≤ 4096 ∧ c.dim ≤ 255 ∧ c.metric ≤ 255 ∧ c.links ≤ 255 ∧ c.width ≤ 65535
/-- A filter that is read. -/
def IsFilter (lo : Nat) (w : World) (v : Value) (f : FilterV) : Prop := ∃ (pa pb pc : SlL) (xa xb xc : List ByteArray), v = .agg #[.slice pa.a pa.n pa.c, .slice pb.a pb.n pb.c, .slice pc.a pc.n pc.c] ∧
  Rd (lo ≤ ·) w shTags [.slice pa.a pa.n pa.c] xa ∧ Rd (lo ≤ ·) w shTags [.slice pb.a pb.n pb.c] xb ∧ Rd (lo ≤ ·) w shTags [.slice pc.a pc.n pc.c] xc ∧ f = ⟨toTags xa, toTags xb, toTags xc⟩
theorem IsSl.sl {α : Type} {lo : Nat} {e : Sh} {sz : Nat} {f : List e.T → α} {w : World} {v : Value} {a : α} (h : IsSl lo e sz f w v a) : ∃ (p : SlL) (xs : List e.T), v = .slice p.a p.n p.c ∧ Rd (lo ≤ ·) w (.slice e sz) [.slice p.a p.n p.c] xs ∧ f xs = a := by
  obtain ⟨p, n, c, xs, rfl, h1, h2⟩ := h.one
  exact ⟨⟨p, n, c⟩, xs, rfl, h1, h2⟩
theorem hit_mk {ok : Nat → Prop} {w : World} {d : Int} {id : Nat} (h1 : -9223372036854775808 ≤ d ∧ d ≤ 9223372036854775807) (h2 : id ≤ 4294967295) : Rd ok w shHit [.int .i64 d, .int .u32 (id : Int)] (d, (id : Int), ()) :=
  Rd.pair_mk (c1 := [_]) (c2 := [_]) rfl (Rd.int_mk rfl (i64_mk h1)) (Rd.pair_mk (c1 := [_]) (c2 := []) rfl (Rd.int_mk rfl (u32_mk h2)) (Rd.unit_mk rfl))

theorem cvec_any (B g : Nat) (s : List Nat ⊕ Nat) (w : World) (h : CState w B g s) :
    Calls Try.prog 59 #[.pointer (some ⟨g, 0, none⟩)] w fun e w' => RdC cVec (IsSl w.heap.size (.int .i32) 4 (fun xs => xs)) B g s w e w' := by
  refine (cvec_any0 B g s w h).mono ?_
  rintro e w2 ⟨hk, v, x, st, he, ⟨xs, hr, hx⟩, hs, ht⟩
  exact ⟨hk, v, x, st, he, ⟨xs, hr, by rw [← hx]; exact (List.map_id _).symm⟩, hs, ht⟩

set_option maxRecDepth 100000 in
set_option maxHeartbeats 6400000 in
theorem citem_any (B g : Nat) (s : List Nat ⊕ Nat) (w : World) (h : CState w B g s) :
    Calls Try.prog 50 #[.pointer (some ⟨g, 0, none⟩)] w fun e w' => RdC cItem (IsSt w.heap.size shItem toItem) B g s w e w' := by
  have hgl := h.lt
  obtain ⟨w1, hw1⟩ : ∃ w1, w.alloc (.cells #[.int .u32 0, .slice none 0 0, .slice none 0 0] 79) = w1 := ⟨_, rfl⟩
  have k01 : Kept [] w w1 := by rw [← hw1]; exact (Kept.refl _ _).alloc _
  have X1 := Lib.hid (show Blk w1 w.heap.size 79 [.int .u32 0, .slice none 0 0, .slice none 0 0] from by rw [← hw1]; exact Blk.new w _ _)
  have S1 := Lib.hid (h.kept k01 (by simp))
  have K1 := Lib.hid (show Kept [g] w w1 from k01.mono (by simp))
  have hs1 := X1.out.lt
  clear h k01
  go_enter Try.func50, Try.ntmps50
  go_wp2_with (fail)
  try rw [hw1]
  clear hw1
  refine (clong_any B g s w1 S1.out).mono ?_
  rintro e w2 ⟨hk, v1, y1, s2, rfl, hV, hs, ht⟩
  obtain ⟨rfl, hid⟩ := hV
  have S2 := Lib.hid hs
  have T2 := Lib.hid ht
  have K2 := Lib.hid (K1.out.trans hk (Grows.refl _ _))
  have X2 := Lib.hid (hk.blk X1.out (by simp; omega))
  have hs2 := X2.out.lt
  have hz2 := hk.size
  clear hk hs ht S1 X1 K1  
  go_wp2_with (fail)
  refine (cvec_any B g s2 w2 S2.out).mono ?_
  rintro e w3 ⟨hk, v2, y2, s3, rfl, hV, hs, ht⟩
  obtain ⟨pa, xa, rfl, hra, rfl⟩ := hV.sl
  have Ra_3 := Lib.hid hra
  have S3 := Lib.hid hs
  have T3 := Lib.hid ht
  have K3 := Lib.hid (K2.out.trans hk (Grows.refl _ _))
  have X3 := Lib.hid (hk.blk X2.out (by simp; omega))
  have hs3 := X3.out.lt
  have hz3 := hk.size
  clear hk hs ht S2 X2 K2  
  go_wp2_with (fail)
  refine (ctexts_any B g s3 w3 S3.out).mono ?_
  rintro e w4 ⟨hk, v3, y3, s4, rfl, hV, hs, ht⟩
  obtain ⟨pb, xb, rfl, hrb, rfl⟩ := hV.sl
  have Rb_4 := Lib.hid hrb
  have S4 := Lib.hid hs
  have T4 := Lib.hid ht
  have K4 := Lib.hid (K3.out.trans hk (Grows.refl _ _))
  have X4 := Lib.hid (hk.blk X3.out (by simp; omega))
  have hs4 := X4.out.lt
  have hz4 := hk.size
  have Ra_4 := Lib.hid (Ra_3.out.kept hk (fun k hk ho => by simp at hk; omega))
  clear hk hs ht S3 X3 K3 Ra_3 
  have x0 : w4.cell? ⟨w.heap.size, 0, none⟩ = some (.int .u32 0) := X4.out.cell 0
  have g0 := X4.out.frozen 0
  have x1 : w4.cell? ⟨w.heap.size, 1, none⟩ = some (.slice none 0 0) := X4.out.cell 1
  have g1 := X4.out.frozen 1
  have x2 : w4.cell? ⟨w.heap.size, 2, none⟩ = some (.slice none 0 0) := X4.out.cell 2
  have g2 := X4.out.frozen 2
  obtain ⟨w5, hw5⟩ : ∃ wz, (((w4.setCell ⟨w.heap.size, 0, none⟩ (.int .u32 (y1 : Int))).setCell ⟨w.heap.size, 1, none⟩ (.slice pa.a pa.n pa.c)).setCell ⟨w.heap.size, 2, none⟩ (.slice pb.a pb.n pb.c)) = wz := ⟨_, rfl⟩
  have kM : Kept [w.heap.size] w4 w5 := by
    rw [← hw5]
    exact ((((Kept.refl _ _).setCell _ _ (.inl (by simp))).setCell _ _ (.inl (by simp))).setCell _ _ (.inl (by simp)))
  have K5 := Lib.hid (show Kept [g] w w5 from K4.out.trans kM (fun k hk => .inr (by simp at hk; omega)))
  have X5 := Lib.hid (show Blk w5 w.heap.size 79 [.int .u32 (y1 : Int), .slice pa.a pa.n pa.c, .slice pb.a pb.n pb.c] from by
    rw [← hw5]
    exact (((X4.out.set 0 (.int .u32 (y1 : Int))).set 1 (.slice pa.a pa.n pa.c)).set 2 (.slice pb.a pb.n pb.c)))
  have S5 := Lib.hid (S4.out.kept kM (by simp; omega))
  have Ra_5 := Lib.hid (Ra_4.out.kept kM (fun k hk ho => by simp at hk; omega))
  have Rb_5 := Lib.hid (Rb_4.out.kept kM (fun k hk ho => by simp at hk; omega))
  have z0 : w5.cell? ⟨w.heap.size, 0, none⟩ = some (.int .u32 (y1 : Int)) := X5.out.cell 0
  have z1 : w5.cell? ⟨w.heap.size, 1, none⟩ = some (.slice pa.a pa.n pa.c) := X5.out.cell 1
  have z2 : w5.cell? ⟨w.heap.size, 2, none⟩ = some (.slice pb.a pb.n pb.c) := X5.out.cell 2
  have lM := X5.out.lt
  have FIN := Lib.hid (show RdC cItem (IsSt w.heap.size shItem toItem) B g s w (.returned (.agg #[.int .u32 (y1 : Int), .slice pa.a pa.n pa.c, .slice pb.a pb.n pb.c])) w5 from ⟨K5.out, _, ⟨y1, xa, toTags xb⟩, s4, rfl, ⟨[.int .u32 (y1 : Int), .slice pa.a pa.n pa.c, .slice pb.a pb.n pb.c], ((y1 : Int), xa, xb, ()), rfl, item_mk hid (Ra_5.out.mono (fun k hk _ => by omega)) (Rb_5.out.mono (fun k hk _ => by omega)), rfl⟩, S5.out, Step.map (T2.out.pair (T3.out.pair T4.out))⟩)
  clear S4 X4 K4 kM S5 X5 K5 Ra_4 Ra_5 Rb_4 Rb_5
  go_wp2_with (fail)
  try rw [hw5]
  clear hw5
  refine bodyPost_ret (v := .agg #[.int .u32 (y1 : Int), .slice pa.a pa.n pa.c, .slice pb.a pb.n pb.c]) (by simp [results, Try.results50, go_sem, z0, z1, z2]) rfl ?_
  exact FIN.out

theorem item_info : (Try.prog.info? 79).map (fun i => (i.zero, i.size, i.bytes)) = some (some (.agg #[.int .u32 0, .slice none 0 0, .slice none 0 0]), 3, 56) := by kernel_rfl
set_option maxRecDepth 100000 in
set_option maxHeartbeats 6400000 in
theorem cchange1_any (B g bx : Nat) (s : List Nat ⊕ Nat) (w : World) (h : CState w B g s) (hbx : Blk w bx 100 [.pointer (some ⟨g, 0, none⟩)]) (hgb : bx ≠ g) :
    Calls Try.prog 47 #[.pointer (some ⟨bx, 0, none⟩)] w fun e w' => RdC cChange (IsSt w.heap.size shChange toChange) B g s w e w' := by
  have hgl := h.lt
  have hbl := hbx.lt
  obtain ⟨w1, hw1⟩ : ∃ w1, w.alloc (.cells #[.bool false, .int .u32 0, .slice none 0 0, .slice none 0 0] 81) = w1 := ⟨_, rfl⟩
  have k01 : Kept [] w w1 := by rw [← hw1]; exact (Kept.refl _ _).alloc _
  have X1 := Lib.hid (show Blk w1 w.heap.size 81 [.bool false, .int .u32 0, .slice none 0 0, .slice none 0 0] from by rw [← hw1]; exact Blk.new w _ _)
  have S1 := Lib.hid (h.kept k01 (by simp))
  have K1 := Lib.hid (show Kept [g] w w1 from k01.mono (by simp))
  have B1 := Lib.hid (k01.blk hbx (by simp))
  have hs1 := X1.out.lt
  have b0 : w1.cell? ⟨bx, 0, none⟩ = some (.pointer (some ⟨g, 0, none⟩)) := B1.out.cell 0
  have HGB := Lib.hid hgb
  clear h k01 hbx hgb
  go_enter Try.func47, Try.ntmps47
  go_wp2_with (fail)
  try rw [hw1]
  clear hw1
  refine (cflag_any B g s w1 S1.out).mono ?_
  rintro e w2 ⟨hk2, v2, f, s2, rfl, hf, hs2, ht2⟩
  rw [IsFlag] at hf
  subst hf
  have S2 := Lib.hid hs2
  have T2 := Lib.hid ht2
  have K2 := Lib.hid (K1.out.trans hk2 (Grows.refl _ _))
  have X2 := Lib.hid (hk2.blk X1.out (by simp; omega))
  have B2 := Lib.hid (hk2.blk B1.out (by simpa using HGB.out))
  have b2 : w2.cell? ⟨bx, 0, none⟩ = some (.pointer (some ⟨g, 0, none⟩)) := B2.out.cell 0
  have l2 := X2.out.lt
  clear hk2 hs2 ht2 b0 S1 X1 K1 B1
  cases f
  · go_wp2_with (fail)
    refine (citem_any B g s2 w2 S2.out).mono ?_
    rintro e w3 ⟨hk3, v3, y3, s3, rfl, ⟨cs, x, rfl, hx, rfl⟩, hs3, ht3⟩
    obtain ⟨id, vec, tags, p, n1, c1, p2, n2, c2, rfl, rfl, hid, hv, htg, _, _, _, _⟩ := rd_item hx
    have S3 := Lib.hid hs3
    have T3 := Lib.hid ht3
    have K3 := Lib.hid (K2.out.trans hk3 (Grows.refl _ _))
    have X3 := Lib.hid (hk3.blk X2.out (by simp; omega))
    have HX3 := Lib.hid hx
    have x0 : w3.cell? ⟨w.heap.size, 0, none⟩ = some (.bool false) := X3.out.cell 0
    have x1 : w3.cell? ⟨w.heap.size, 1, none⟩ = some (.int .u32 0) := X3.out.cell 1
    have x2 : w3.cell? ⟨w.heap.size, 2, none⟩ = some (.slice none 0 0) := X3.out.cell 2
    have x3 : w3.cell? ⟨w.heap.size, 3, none⟩ = some (.slice none 0 0) := X3.out.cell 3
    have f0 := X3.out.frozen 0
    have f1 := X3.out.frozen 1
    have f2 := X3.out.frozen 2
    have f3 := X3.out.frozen 3
    have l3 := X3.out.lt
    obtain ⟨w4, hw4⟩ : ∃ wz, (((w3.setCell ⟨w.heap.size, 0, none⟩ (.bool false)).setCell ⟨w.heap.size, 1, none⟩ (.int .u32 (id : Int))).setCell ⟨w.heap.size, 2, none⟩ (.slice p n1 c1)).setCell ⟨w.heap.size, 3, none⟩ (.slice p2 n2 c2) = wz := ⟨_, rfl⟩
    have kM : Kept [w.heap.size] w3 w4 := by
      rw [← hw4]
      exact ((((Kept.refl _ _).setCell _ _ (.inl (by simp))).setCell _ _ (.inl (by simp))).setCell _ _ (.inl (by simp))).setCell _ _ (.inl (by simp))
    have X4 := Lib.hid (show Blk w4 w.heap.size 81 [.bool false, .int .u32 (id : Int), .slice p n1 c1, .slice p2 n2 c2] from by
      rw [← hw4]
      exact (((X3.out.set 0 (.bool false)).set 1 (.int .u32 (id : Int))).set 2 (.slice p n1 c1)).set 3 (.slice p2 n2 c2))
    have z0 : w4.cell? ⟨w.heap.size, 0, none⟩ = some (.bool false) := X4.out.cell 0
    have z1 : w4.cell? ⟨w.heap.size, 1, none⟩ = some (.int .u32 (id : Int)) := X4.out.cell 1
    have z2 : w4.cell? ⟨w.heap.size, 2, none⟩ = some (.slice p n1 c1) := X4.out.cell 2
    have z3 : w4.cell? ⟨w.heap.size, 3, none⟩ = some (.slice p2 n2 c2) := X4.out.cell 3
    have lM := X4.out.lt
    have FIN := Lib.hid (show RdC cChange (IsSt w.heap.size shChange toChange) B g s w (.returned (.agg #[.bool false, .int .u32 (id : Int), .slice p n1 c1, .slice p2 n2 c2])) w4 from
      ⟨K3.out.trans kM (fun k hk => .inr (by simp at hk; omega)), _, toChange (false, ((id : Int), vec, tags, ()), ()), s3, rfl, ⟨[.bool false, .int .u32 (id : Int), .slice p n1 c1, .slice p2 n2 c2], (false, ((id : Int), vec, tags, ()), ()), rfl, change_mk ((HX3.out.kept kM (fun k hk ho => by simp at hk; omega)).mono (fun k hk _ => by omega)), rfl⟩, S3.out.kept kM (by simp; omega), step_change (g := false) T2.out T3.out⟩)
    clear kM X4 X3 K3 S3 HX3 hk3 hx hs3 ht3 hv htg S2 X2 K2 B2 b2
    go_wp2_with (fail)
    try rw [hw4]
    clear hw4
    refine bodyPost_ret (v := .agg #[.bool false, .int .u32 (id : Int), .slice p n1 c1, .slice p2 n2 c2]) (by simp [results, Try.results47, go_sem, z0, z1, z2, z3]) rfl ?_
    exact FIN.out
  · go_wp2_with (fail)
    refine (clong_any B g s2 w2 S2.out).mono ?_
    rintro e w3 ⟨hk3, v3, id, s3, rfl, ⟨rfl, hid⟩, hs3, ht3⟩
    have S3 := Lib.hid hs3
    have T3 := Lib.hid (show Step cBare s2 (toItem ((id : Int), [], [], ())) s3 from Step.map ht3)
    have K3 := Lib.hid (K2.out.trans hk3 (Grows.refl _ _))
    have X3 := Lib.hid (hk3.blk X2.out (by simp; omega))
    have x0 : w3.cell? ⟨w.heap.size, 0, none⟩ = some (.bool false) := X3.out.cell 0
    have x1 : w3.cell? ⟨w.heap.size, 1, none⟩ = some (.int .u32 0) := X3.out.cell 1
    have x2 : w3.cell? ⟨w.heap.size, 2, none⟩ = some (.slice none 0 0) := X3.out.cell 2
    have x3 : w3.cell? ⟨w.heap.size, 3, none⟩ = some (.slice none 0 0) := X3.out.cell 3
    have f0 := X3.out.frozen 0
    have f1 := X3.out.frozen 1
    have f2 := X3.out.frozen 2
    have f3 := X3.out.frozen 3
    have l3 := X3.out.lt
    obtain ⟨w4, hw4⟩ : ∃ wz, (((w3.setCell ⟨w.heap.size, 0, none⟩ (.bool true)).setCell ⟨w.heap.size, 1, none⟩ (.int .u32 (id : Int))).setCell ⟨w.heap.size, 2, none⟩ (.slice none 0 0)).setCell ⟨w.heap.size, 3, none⟩ (.slice none 0 0) = wz := ⟨_, rfl⟩
    have kM : Kept [w.heap.size] w3 w4 := by
      rw [← hw4]
      exact ((((Kept.refl _ _).setCell _ _ (.inl (by simp))).setCell _ _ (.inl (by simp))).setCell _ _ (.inl (by simp))).setCell _ _ (.inl (by simp))
    have X4 := Lib.hid (show Blk w4 w.heap.size 81 [.bool true, .int .u32 (id : Int), .slice none 0 0, .slice none 0 0] from by
      rw [← hw4]
      exact (((X3.out.set 0 (.bool true)).set 1 (.int .u32 (id : Int))).set 2 (.slice none 0 0)).set 3 (.slice none 0 0))
    have z0 : w4.cell? ⟨w.heap.size, 0, none⟩ = some (.bool true) := X4.out.cell 0
    have z1 : w4.cell? ⟨w.heap.size, 1, none⟩ = some (.int .u32 (id : Int)) := X4.out.cell 1
    have z2 : w4.cell? ⟨w.heap.size, 2, none⟩ = some (.slice none 0 0) := X4.out.cell 2
    have z3 : w4.cell? ⟨w.heap.size, 3, none⟩ = some (.slice none 0 0) := X4.out.cell 3
    have lM := X4.out.lt
    have FIN := Lib.hid (show RdC cChange (IsSt w.heap.size shChange toChange) B g s w (.returned (.agg #[.bool true, .int .u32 (id : Int), .slice none 0 0, .slice none 0 0])) w4 from
      ⟨K3.out.trans kM (fun k hk => .inr (by simp at hk; omega)), _, toChange (true, ((id : Int), [], [], ()), ()), s3, rfl, ⟨[.bool true, .int .u32 (id : Int), .slice none 0 0, .slice none 0 0], (true, ((id : Int), [], [], ()), ()), rfl, change_mk (bare_mk hid), rfl⟩, S3.out.kept kM (by simp; omega), step_change (g := true) T2.out T3.out⟩)
    clear kM X4 X3 K3 S3 hk3 hs3 ht3 S2 X2 K2 B2 b2
    go_wp2_with (fail)
    try rw [hw4]
    clear hw4
    refine bodyPost_ret (v := .agg #[.bool true, .int .u32 (id : Int), .slice none 0 0, .slice none 0 0]) (by simp [results, Try.results47, go_sem, z0, z1, z2, z3]) rfl ?_
    exact FIN.out
theorem rd_item_sl {ok : Nat → Prop} {w : World} {c0 c1 c2 : Value} {y : shItem.T} (h : Rd ok w shItem [c0, c1, c2] y) : ∃ (id : Nat) (a : Option Addr) (n c : Nat) (a2 : Option Addr) (n2 m2 : Nat), c0 = .int .u32 (id : Int) ∧ c1 = .slice a n c ∧ c2 = .slice a2 n2 m2 := by
  obtain ⟨id, vec, tags, a1, n1, d1, a2, n2, d2, rfl, hcs, _⟩ := rd_item h
  simp only [List.cons.injEq, and_true] at hcs
  exact ⟨id, a1, n1, d1, a2, n2, d2, hcs.1, hcs.2.1, hcs.2.2⟩

set_option maxRecDepth 100000 in
set_option maxHeartbeats 6400000 in
theorem rlist_changes (B g bx : Nat) (s : List Nat ⊕ Nat) (w : World) (h : CState w B g s) (hbx : Blk w bx 100 [.pointer (some ⟨g, 0, none⟩)]) (hgb : bx ≠ g) :
    Calls Try.prog 46 #[.pointer (some ⟨g, 0, none⟩), .func (.func 47) #[] #[.pointer (some ⟨bx, 0, none⟩)]] w fun e w' => RdC (cMany cChange) (IsSl w.heap.size shChange 64 (fun xs : List shChange.T => xs.map toChange)) B g s w e w' := by
  have HS := Lib.hid h
  have HBX := Lib.hid hbx
  have HGB := Lib.hid hgb
  have hgl := h.lt
  clear h hbx hgb
  go_enter Try.func46, Try.ntmps46
  go_wp2_with (fail)
  refine (cnum_any 128 B g s w HS.out (by decide)).mono ?_
  rintro e w2 ⟨hk2, v2, n, s2, rfl, ⟨rfl, hn⟩, hs2, st2⟩
  have K2 := Lib.hid hk2
  have S2 := Lib.hid hs2
  have T2 := Lib.hid st2
  clear hk2 hs2 st2
  go_wp2_with (fail)
  go_loopw [5, 8] (fun s5 s8 wr => ∃ (i : Nat) (st : List Nat ⊕ Nat) (xs : List shChange.T), s8 = .int .u64 i ∧ i ≤ n ∧ Hid (CState wr B g st) ∧ Hid (∀ r, s2 = .inl r → ManyR cChange n i r (xs.map toChange) st) ∧ Hid (∀ k, s2 = .inr k → st = .inr k) ∧ Hid (OwnR w.heap.size wr 81 shChange s5 xs) ∧ Hid (xs.length ≤ i) ∧ Hid (Kept [g] w wr)) (fun _ s8 _ => n - (intOf s8).toNat)
  case atStart => exact ⟨0, s2, [], rfl, by omega, S2.out, fun r h => by subst h; exact ManyR.start cChange n r, fun k h => h, OwnR.nil _ _ _ _, by simp [Hid], K2.out⟩
  case round =>
    clear K2 S2
    obtain ⟨i, st, xs, rfl, hi, HST, HM, HB, HO, HLN, HK⟩ := hrel
    have hwr := HK.out.size
    rcases st with q | k
    · have hat : CX wr B g q 0 := HST.out
      obtain ⟨a, m, c, _, c1, _, _, hlt, _, _, _⟩ := hat.opened
      have c1 : wr.cell? ⟨g, 1, none⟩ = some (.int .i64 0) := c1
      have HM2 := Lib.hid (show ∃ r, s2 = .inl r ∧ ManyR cChange n i r (xs.map toChange) (.inl q) from by
        rcases s2 with r | k
        · exact ⟨r, rfl, HM.out r rfl⟩
        · exact nomatch HB.out k rfl)
      have XB := Lib.hid (HK.out.blk HBX.out (by simpa using HGB.out))
      clear hat HM HB
      by_cases hin : i < n
      · go_wp2_with (fail)
        refine (cchange1_any B g bx (.inl q) wr HST.out XB.out HGB.out).mono ?_
        rintro e w4 ⟨hk4, v4, a4, s4, rfl, hV, hs4, st4⟩
        obtain ⟨cs, x, rfl, hx, rfl⟩ := hV
        obtain ⟨gn, y, d0, d1, d2, rfl, rfl, hy⟩ := rd_change hx
        have O4 := Lib.hid (HO.out.kept hk4 (by simp; omega))
        have K4 := Lib.hid (HK.out.trans hk4 (Grows.refl _ _))
        have h4s := K4.out.size
        have S4 := Lib.hid hs4
        have hown4 := Lib.hid (fun k (hk : Value.ownBlock u5 = some k) => (HO.out.lt k hk).2)
        have hln := HLN.out
        obtain ⟨el, hel⟩ : ∃ el : shChange.T, el = (gn, y, ()) := ⟨_, rfl⟩
        have R4 := Lib.hid (show Rd (fun k => w.heap.size ≤ k ∧ Value.ownBlock u5 ≠ some k) w4 shChange [.bool gn, d0, d1, d2] el from by
          rw [hel]
          exact change_mk (hy.mono (fun k hk _ => ⟨by omega, fun hv => by have := hown4.out k hv; omega⟩)))
        have M4 := Lib.hid (show Step cChange (.inl q) (toChange el) s4 from by rw [hel]; exact st4)
        clear hk4 hs4 st4 HO HST HK c1 hel hx hy
        go_wp2_with (at_builtin; go_must (refine app_row (e := shChange) w4 rfl (.tmp 15) (.tmp 18) 45 rfl Try.underlying45 (.agg #[.bool false, .int .u32 0, .slice none 0 0, .slice none 0 0]) 64 change_info rfl (by decide) el [.bool gn, d0, d1, d2] (by rfl) (by rfl) O4.out R4.out h4s (show (List.length (α := shChange.T) xs + 1) * 64 ≤ 140737488355328 by omega) (show List.length (α := shChange.T) xs ≤ 2000000 by omega) ?_))
        intro v5 w5 ho5 hk5 hg5
        have O5 := Lib.hid ho5
        have hown := fun k (hk : k ∈ ownB u5) => (O4.out.lt k (mem_ownB.1 hk)).1
        have K5 := Lib.hid (K4.out.trans hk5 (fun k hk => .inr (hown k hk)))
        have S5 := Lib.hid (S4.out.kept hk5 (fun k hk => by have := hown k hk; omega))
        have A5 := Lib.hid (show (∀ r, s2 = .inl r → ManyR cChange n (i + 1) r ((xs ++ [el]).map toChange) s4) ∧ ∀ k, s2 = .inr k → s4 = .inr k from by
          obtain ⟨r, hr, hm⟩ := HM2.out
          refine ⟨fun r' hr' => ?_, fun k hk => by rw [hr] at hk; cases hk⟩
          rw [hr] at hr'
          cases hr'
          have := hm.step hin M4.out
          rw [List.map_append]
          exact this)
        clear ho5 hk5 hg5 hown O4 K4 S4 R4 M4
        go_wp2
        go_roundw
        case rel => exact ⟨i + 1, s4, xs ++ [el], by go_num, by omega, S5.out, A5.out.1, A5.out.2, O5.out, (show List.length (α := shChange.T) (xs ++ [el]) ≤ i + 1 by rw [List.length_append]; simp; omega), K5.out⟩
        case measure => simp [intOf]; omega
      · have hin' : i = n := by omega
        subst hin'
        obtain ⟨r, hr, hm⟩ := HM2.out
        have HE := Lib.hid (show Step (cMany cChange) s (xs.map toChange) (.inl q) from by
          have h1 := T2.out
          rw [hr] at h1
          rcases s with l | k
          · show (cMany cChange).dec l = .inl (xs.map toChange, q)
            rw [cMany_dec]
            have h2 : (cNum 128 (by decide)).dec l = .inl (i, r) := h1
            rw [h2]
            exact hm.fin
          · exact h1.elim)
        have HR := Lib.hid (HO.out.rd 64 (by decide) (show List.length (α := shChange.T) xs * 64 ≤ 140737488351232 by have := HLN.out; omega))
        clear hr hm HM2
        go_wp2
        go_ret
        exact ⟨HK.out, _, _, .inl q, rfl, ⟨xs, HR.out, rfl⟩, HST.out, HE.out⟩
    · obtain ⟨hk0, l, hbad⟩ := HST.out
      obtain ⟨a, m, c, _, c1, _, _, hlt, _, _, _⟩ := hbad.opened
      have e1 : ((k : Int) != 0) = true := by simp; omega
      have HE := Lib.hid (show Step (cMany cChange) s (xs.map toChange) (.inr k) from by
        have h1 := T2.out
        rcases s2 with r | k2
        · have h3 := HM.out r rfl
          rcases s with l | k3
          · show (cMany cChange).dec l = .inr k
            rw [cMany_dec]
            have h2 : (cNum 128 (by decide)).dec l = .inl (n, r) := h1
            rw [h2]
            exact h3
          · exact h1.elim
        · have h3 := HB.out k2 rfl
          cases h3
          rcases s with l | k3
          · show (cMany cChange).dec l = .inr k
            rw [cMany_dec]
            have h2 : (cNum 128 (by decide)).dec l = .inr k := h1
            rw [h2]
          · exact h1)
      have HR := Lib.hid (HO.out.rd 64 (by decide) (show List.length (α := shChange.T) xs * 64 ≤ 140737488351232 by have := HLN.out; omega))
      clear hbad hk0
      by_cases hin : i < n
      all_goals
        go_wp2
        go_ret
        exact ⟨HK.out, _, _, .inr k, rfl, ⟨xs, HR.out, rfl⟩, HST.out, HE.out⟩

set_option maxRecDepth 100000 in
theorem cchanges_any (B g : Nat) (s : List Nat ⊕ Nat) (w : World) (h : CState w B g s) :
    Calls Try.prog 38 #[.pointer (some ⟨g, 0, none⟩)] w fun e w' => RdC (cMany cChange) (IsSl w.heap.size shChange 64 (fun xs : List shChange.T => xs.map toChange)) B g s w e w' := by
  have hgl := h.lt
  obtain ⟨w1, hw1⟩ : ∃ w1, w.alloc (.cells #[.pointer (some ⟨g, 0, none⟩)] 100) = w1 := ⟨_, rfl⟩
  have k01 : Kept [] w w1 := by rw [← hw1]; exact (Kept.refl _ _).alloc _
  have X1 := Lib.hid (show Blk w1 w.heap.size 100 [.pointer (some ⟨g, 0, none⟩)] from by rw [← hw1]; exact Blk.new w _ _)
  have S1 := Lib.hid (h.kept k01 (by simp))
  have K1 := Lib.hid (show Kept [g] w w1 from k01.mono (by simp))
  have hs1 := k01.size
  have c0 : w1.cell? ⟨w.heap.size, 0, none⟩ = some (.pointer (some ⟨g, 0, none⟩)) := X1.out.cell 0
  have lt := X1.out.lt
  clear h k01
  go_enter Try.func38, Try.ntmps38
  go_wp2_with (fail)
  try rw [hw1]
  clear hw1
  refine (rlist_changes B g w.heap.size s w1 S1.out X1.out (by omega)).mono ?_
  rintro e w2 ⟨hk, v, x, st, rfl, ⟨xs, hr, hx⟩, hs, ht⟩
  obtain ⟨a, n, c, hcs, _, _, _⟩ := Rd.slice_is (e := shChange) hr
  simp only [List.cons.injEq, and_true] at hcs
  subst hcs
  have FIN := Lib.hid (show RdC (cMany cChange) (IsSl w.heap.size shChange 64 (fun xs : List shChange.T => xs.map toChange)) B g s w (.returned (.slice a n c)) w2 from ⟨K1.out.trans hk (Grows.refl _ _), _, x, st, rfl, ⟨xs, hr.mono (fun k hk _ => by omega), hx⟩, hs, ht⟩)
  clear hk hr hs ht hx
  go_wp2
  go_ret
  exact FIN.out

/-- The end: nothing may be left. -/
def EndC (s : List Nat ⊕ Nat) (e : Ending) : Prop :=
  match s with
  | .inr k => e = .returned (.int .i64 (k : Int))
  | .inl l => e = .returned (.int .i64 (if l = [] then 0 else 60 : Nat))
set_option maxRecDepth 100000 in
set_option maxHeartbeats 3200000 in
theorem cend_any (B g : Nat) (s : List Nat ⊕ Nat) (w : World) (h : CState w B g s) :
    Calls Try.prog 39 #[.pointer (some ⟨g, 0, none⟩)] w fun e w' => EndC s e ∧ Kept [g] w w' := by
  rcases s with l | k
  · have hx : CX w B g l 0 := h
    clear h
    obtain ⟨a, n, c, c0, c1, f0, f1, hlt, HB, HR, HN⟩ := hx.opened
    have c1 : w.cell? ⟨g, 1, none⟩ = some (.int .i64 0) := c1
    have HL := Lib.hid HR.out.len
    have hsm := HR.out.small
    clear hx f0
    by_cases h0 : 0 < n
    · have HE := Lib.hid (show l ≠ [] from by rintro rfl; have := HL.out; simp at this; omega)
      have c1' : (w.setCell ⟨g, 1, none⟩ (.int .i64 60)).cell? ⟨g, 1, none⟩ = some (.int .i64 60) := World.cell?_setCell_same w _ _ c1
      go_enter Try.func39, Try.ntmps39
      go_wp2
      go_ret
      refine ⟨?_, (Kept.refl [g] w).setCell _ _ (.inl (by simp))⟩
      simp only [EndC]
      rw [if_neg HE.out]
      rfl
    · have hn : n = 0 := by omega
      subst hn
      have HE := Lib.hid (show l = [] from List.eq_nil_of_length_eq_zero HL.out)
      go_enter Try.func39, Try.ntmps39
      go_wp2
      go_ret
      refine ⟨?_, Kept.refl _ _⟩
      simp only [EndC]
      rw [if_pos HE.out]
      rfl
  · obtain ⟨hk0, l, hx⟩ := h
    obtain ⟨a, n, c, c0, c1, f0, f1, hlt, HB, HR, HN⟩ := hx.opened
    have e1 : ((k : Int) == 0) = false := by simp; omega
    clear hx hk0
    go_enter Try.func39, Try.ntmps39
    go_wp2
    go_ret
    exact ⟨rfl, Kept.refl _ _⟩

theorem CState.keptB {w w' : World} {B g : Nat} {s : List Nat ⊕ Nat} {F : List Nat} (h : CState w B g s) (hk : Kept F w w') (hF : ∀ k ∈ F, k ≠ g ∧ B ≤ k) : CState w' B g s := by
  have key : ∀ {l : List Nat} {k : Nat}, CX w B g l k → CX w' B g l k := by
    rintro l k ⟨a, n, c, hb, hr, hn⟩
    refine ⟨a, n, c, hk.blk hb (fun hx => (hF g hx).1 rfl), ⟨hr.len, hr.small, hr.byte, hr.nilOk, hr.room, ?_⟩, hn⟩
    rcases hr.cells with h0 | ⟨b, off, ha, hlt, hc⟩
    · exact .inl h0
    · by_cases h0 : n = 0
      · exact .inl h0
      · have hbg := hn (by omega) _ ha
        refine .inr ⟨b, off, ha, Nat.lt_of_lt_of_le hlt hk.size, fun i hi => ?_⟩
        rw [hk.cell (p := ⟨b, off + i, none⟩) hlt (fun hx => by have := (hF b hx).2; simp only at hbg; omega)]
        exact hc i hi
  rcases s with l | k
  · exact key h
  · obtain ⟨h0, l, h1⟩ := h
    exact ⟨h0, l, key h1⟩
theorem ofNat_at (bs : List Nat) (i : Nat) (x : Int) (h : (bs.map Int.ofNat)[i]? = some x) : ∃ q : Nat, bs[i]? = some q ∧ x = (q : Int) := by
  rw [List.getElem?_map, Option.map_eq_some_iff] at h
  obtain ⟨q, h1, h2⟩ := h
  exact ⟨q, h1, h2.symm⟩
/-- The bytes of the call's own as a list that reads. -/
theorem OwnV.rd {lo : Nat} {w : World} {t : TypeId} {v : Value} {bs : List Nat} (h : OwnV w lo t v bs) (hs : bs.length ≤ 140737488351232) : ∃ p : SlL, v = .slice p.a p.n p.c ∧ Rd (lo ≤ ·) w shBytes [.slice p.a p.n p.c] (bs.map Int.ofNat) := by
  obtain ⟨a, c, rfl, hr, hn, hb⟩ := h.reads (by omega)
  refine ⟨⟨a, bs.length, c⟩, rfl, Rd.slice_mk ⟨a, bs.length, c, rfl, List.length_map _, by omega, by omega, hn, hr.nilOk, ?_⟩⟩
  rcases hr.cells with h0 | ⟨b, off, rfl, hlt, hc⟩
  · exact .inl h0
  · refine .inr ⟨b, off, rfl, hb b off rfl, hlt, fun i x hx => ?_⟩
    obtain ⟨q, hq, rfl⟩ := ofNat_at bs i x hx
    have hi := (List.getElem?_eq_some_iff.1 hq).1
    refine ⟨[.int .u8 (q : Int)], rfl, fun j hj => ?_, Rd.int_mk rfl (u8_mk (by have := hr.byte q (List.mem_of_getElem? hq); omega))⟩
    have hj0 : j = 0 := by
      have : j < 1 := hj
      omega
    subst hj0
    have := hc i hi
    simp only [Sh.cells, Nat.mul_one, Nat.add_zero, List.getElem?_cons_zero]
    rw [this]
    simp [byteAt, List.getD, hq]
theorem map_ofNat_toNat (bs : List Nat) : (bs.map Int.ofNat).map Int.toNat = bs := by
  rw [List.map_map]
  conv => rhs; rw [← List.map_id bs]
  apply List.map_congr_left
  intro x _
  simp

end Go.Proofs.Ytdlpifcfgfhagaa
