/-
  Selectors by the list that they keep, whatever their heap looks like; Merge.
-/
import Derived.Test.YtadkfedglkhgjaaGreatTq
namespace Go.Proofs.YtadkfedglkhgjaaGreat
open Go.RowKit

/-- A selector lies in block b, in memory F of its own; it has room for so many hits and keeps those of s, which is in order. -/
def SelF (w : World) (F : List Nat) (b room : Nat) (s : List Hit) : Prop :=
  ∃ c v xs, BestAt w b c room v xs ∧ Rep xs s ∧ s.length ≤ room ∧ b ∈ F ∧ c ∈ F ∧ (∀ k, v.ownBlock = some k → k ∈ F) ∧ ∀ x ∈ F, x < w.heap.size

section
variable {w w' : World} {F G : List Nat} {b room : Nat} {s : List Hit}
theorem SelF.kept (h : SelF w F b room s) (hk : Kept G w w') (ha : Apart F G) : SelF w' F b room s := by
  obtain ⟨c, v, xs, hb, hr, hl, m1, m2, m3, m4⟩ := h
  exact ⟨c, v, xs, hb.kept hk (ha b m1) (ha c m2) (fun k hk => ha k (m3 k hk)), hr, hl, m1, m2, m3, fun x hx => Nat.lt_of_lt_of_le (m4 x hx) hk.size⟩
theorem SelF.grow (h : SelF w F b room s) (hb : Below w.heap.size w w') : SelF w' F b room s := h.kept (Kept.of_below (F := []) hb (Nat.le_refl _)) (by intro x _ hx; simp at hx)
theorem SelF.lt (h : SelF w F b room s) : ∀ x ∈ F, x < w.heap.size := h.choose_spec.choose_spec.choose_spec.2.2.2.2.2.2
theorem SelF.mem (h : SelF w F b room s) : b ∈ F := h.choose_spec.choose_spec.choose_spec.2.2.2.1
theorem SelF.room_le (h : SelF w F b room s) : s.length ≤ room := h.choose_spec.choose_spec.choose_spec.2.2.1
end

theorem sel_new (k : Int) (w : World) (r : Nat) (hr : Hid ((r : Int) = min (max k 0) 256)) :
    Calls Tryz.prog 39 #[.int .i64 k] w fun e w' => e = .returned (.pointer (some ⟨w.heap.size + 1, 0, none⟩)) ∧ SelF w' [w.heap.size, w.heap.size + 1] (w.heap.size + 1) r [] ∧ Below w.heap.size w w' := by
  refine (new_any k w r hr).mono ?_
  rintro e w' ⟨rfl, h, hb⟩
  refine ⟨rfl, ⟨_, _, [], h, Rep.nil, Nat.zero_le _, by simp, by simp, by simp [Value.ownBlock], ?_⟩, hb⟩
  have h1 := h.self.lt
  intro x hx
  simp at hx
  omega

theorem sel_put (F : List Nat) (b room : Nat) (s : List Hit) (x : Hit) (w : World) (h : SelF w F b room s) (hs : s.length < 1000000) :
    Calls Tryz.prog 46 #[.pointer (some ⟨b, 0, none⟩), .agg #[.int .i64 x.1, .int .u32 x.2]] w fun e w' => e = .returned (.tuple #[]) ∧ ∃ F', SelF w' F' b room ((ins x s).take room) ∧ Kept F w w' ∧ Grows w F F' := by
  obtain ⟨c, v, xs, hb, hr, hl, m1, m2, m3, m4⟩ := h
  refine (put_any b c room v xs x w hb (by rw [hr.len]; exact hs) (by rw [hr.len]; exact hl)).mono ?_
  rintro e w' ⟨rfl, v', hb', hk, hv⟩
  have hkF : Kept F w w' := hk.mono (by
    intro y hy
    simp at hy
    rcases hy with rfl | hy
    · exact m1
    · exact m3 y hy)
  refine ⟨rfl, F ++ v'.ownBlock.toList, ⟨c, v', _, hb', put_rep room xs s x hr (by rw [hr.len]; exact hl), by simp; omega, by simp [m1], by simp [m2], fun k hk => by simp [hk], ?_⟩, hkF, ?_⟩
  · intro y hy
    rcases List.mem_append.1 hy with hy | hy
    · exact Nat.lt_of_lt_of_le (m4 y hy) hk.size
    · exact hb'.own.lt y (by simpa using hy)
  · intro y hy
    rcases List.mem_append.1 hy with hy | hy
    · exact .inl hy
    · rcases hv y (by simpa using hy) with h | h
      · exact .inl (m3 y h)
      · exact .inr h

theorem sel_len (F : List Nat) (b room : Nat) (s : List Hit) (w : World) (h : SelF w F b room s) :
    Calls Tryz.prog 87 #[.pointer (some ⟨b, 0, none⟩)] w fun e w' => e = .returned (.int .i64 s.length) ∧ w = w' := by
  obtain ⟨c, v, xs, hb, hr, _⟩ := h
  rw [← hr.len]
  exact len_any b c room v xs w hb

theorem sel_list (F : List Nat) (b room : Nat) (s : List Hit) (w : World) (h : SelF w F b room s) (hs : s.length ≤ 1000000) :
    Calls Tryz.prog 47 #[.pointer (some ⟨b, 0, none⟩)] w fun e w' => ∃ g, e = .returned (.slice (some ⟨g, 0, none⟩) s.length s.length) ∧ Own w' 51 (.slice (some ⟨g, 0, none⟩) s.length s.length) s ∧ Below w.heap.size w w' ∧ w.heap.size ≤ g := by
  obtain ⟨c, v, xs, hb, hr, _⟩ := h
  refine (list_any b c room v xs w hb (by rw [hr.len]; exact hs)).mono ?_
  rintro e w' ⟨g, rfl, ho, hb', hg⟩
  rw [drain_rep _ xs s [] hr rfl, List.append_nil] at ho
  rw [hr.len] at *
  exact ⟨g, rfl, ho, hb', hg⟩

/-- The greatest one of a list in order; the zero hit of none. -/
def lastL (s : List Hit) : Hit := s.getLast?.getD (0, 0)
theorem Rep.last {xs s : List Hit} (h : Rep xs s) : xs.getD 0 (0, 0) = lastL s := by
  cases xs with
  | nil =>
    have : s = [] := List.eq_nil_of_length_eq_zero (by rw [← h.len]; rfl)
    subst this
    rfl
  | cons x xs =>
    obtain ⟨s', rfl⟩ := h.top
    simp [lastL]

theorem foldK_snoc (k : Nat) (s l : List Hit) (x : Hit) : (l ++ [x]).foldl (fun s x => (ins x s).take k) s = (ins x (l.foldl (fun s x => (ins x s).take k) s)).take k := by simp
theorem foldK_len (k : Nat) (s l : List Hit) (h : s.length ≤ k) : (l.foldl (fun s x => (ins x s).take k) s).length ≤ k := by
  induction l generalizing s with
  | nil => exact h
  | cons x l ih => exact ih _ (by simp; omega)
theorem foldK_len2 (k : Nat) (s l : List Hit) : (l.foldl (fun s x => (ins x s).take k) s).length ≤ s.length + l.length := by
  induction l generalizing s with
  | nil => simp
  | cons x l ih =>
    refine Nat.le_trans (ih _) ?_
    have := ins_len x s
    simp
    omega
/-- What a selector keeps that kept s, when the hits of l have been put. -/
def putAll (k : Nat) (s l : List Hit) : List Hit := l.foldl (fun s x => (ins x s).take k) s
theorem putAll_snoc (k : Nat) (s l : List Hit) (x : Hit) : putAll k s (l ++ [x]) = (ins x (putAll k s l)).take k := foldK_snoc k s l x
theorem putAll_app (k : Nat) (s l m : List Hit) : putAll k s (l ++ m) = putAll k (putAll k s l) m := by simp [putAll]
theorem putAll_nil (k : Nat) (l : List Hit) : putAll k [] l = keepL k l := by
  have := fold_take l [] k
  simpa [putAll, keepL, sortL] using this
theorem putAll_len (k : Nat) (s l : List Hit) : (putAll k s l).length ≤ s.length + l.length := foldK_len2 k s l

/-- Merge's text behind its selector: for a room that is known. -/
def MergePost (w : World) (room : Nat) (l : List Hit) (e : Ending) (w' : World) : Prop :=
  ∃ g n, e = .returned (.slice (some ⟨g, 0, none⟩) n n) ∧ Own w' 51 (.slice (some ⟨g, 0, none⟩) n n) (keepL room l) ∧ Below w.heap.size w w' ∧ w.heap.size ≤ g

set_option maxHeartbeats 3200000 in
theorem merge_some (a1 a2 : Option Addr) (n1 n2 cap1 cap2 room : Nat) (l1 l2 : List Hit) (k : Int) (hk' : k = (room : Int)) (w : World) (h1 : HReads w a1 n1 l1) (h2 : HReads w a2 n2 l2) (hn1 : n1 ≤ 100000) (hn2 : n2 ≤ 100000) :
    Calls Tryz.prog 133 #[.slice a1 n1 cap1, .slice a2 n2 cap2, .int .i64 k] w (MergePost w room (l1 ++ l2)) := by
  obtain ⟨hl1, _, hc1⟩ := h1
  obtain ⟨hl2, _, hc2⟩ := h2
  have HL1 := Lib.hid hl1
  have HC1 := Lib.hid hc1
  have HL2 := Lib.hid hl2
  have HC2 := Lib.hid hc2
  clear hl1 hc1 hl2 hc2
  subst hk'
  go_enter Tryz.func133, Tryz.ntmps133
  go_wp2_with (fail)
  refine (with_any room w).mono ?_
  rintro e w1 ⟨rfl, hh, hb⟩
  have hS : SelF w1 [w.heap.size, w.heap.size + 1] (w.heap.size + 1) room [] := ⟨_, _, [], hh, Rep.nil, Nat.zero_le _, by simp, by simp, by simp [Value.ownBlock], by
    have h1 := hh.self.lt
    intro x hx
    simp at hx
    omega⟩
  have HS1 := Lib.hid hS
  have HB1 := Lib.hid hb
  clear hS hb hh
  have HS0 := Lib.hid (show ([] : List Hit).length ≤ 200000 by simp)
  go_wp2
  go_loopw [17] (fun s17 wr => ∃ (i : Nat) (F : List Nat), s17 = .int .i64 i ∧ i ≤ n1 ∧ Hid (SelF wr F (w.heap.size + 1) room (putAll room [] (l1.take i))) ∧ Hid (Below w.heap.size w wr) ∧ Hid (∀ x ∈ F, w.heap.size ≤ x)) (fun s17 _ => n1 - (intOf s17).toNat)
  case atStart => exact ⟨0, _, rfl, Nat.zero_le _, HS1.out, HB1.out, fun x hx => by simp at hx; omega⟩
  case round =>
    obtain ⟨i, F, rfl, hi, HS, HB, HF⟩ := hrel
    by_cases h1 : i < n1
    · rcases HC1.out with h0 | ⟨bb, off, rfl, hlt, hc⟩
      · omega
      obtain ⟨p, hp⟩ : ∃ p, l1.getD i (0, 0) = p := ⟨_, rfl⟩
      have hcc := hc i h1
      rw [hp] at hcc
      have t3 := (HB.out.cell (p := ⟨bb, off + i * 2, none⟩) hlt).trans hcc.1
      have t4 := (HB.out.cell (p := ⟨bb, off + i * 2 + 1, none⟩) hlt).trans hcc.2
      have t6 : bb < wr.heap.size := Nat.lt_of_lt_of_le hlt HB.out.size
      have hl : (l1.take i).length = i := by have := HL1.out; simp; omega
      have hsl := putAll_len room ([]) (l1.take i)
      have hS0 := HS0.out
      have hsn : putAll room ([]) (l1.take (i + 1)) = (ins p (putAll room ([]) (l1.take i))).take room := by
        rw [take_snoc' l1 i (by have := HL1.out; omega), hp, putAll_snoc]
      have HSN := Lib.hid hsn
      have lw := HB.out.size
      clear hp hc hcc hsn
      go_wp2_with (fail)
      refine (sel_put F (w.heap.size + 1) room _ p _ (HS.out.kept ((Kept.refl [] _).alloc _) (by intro x _ hx; simp at hx)) (by omega)).mono ?_
      rintro e w2 ⟨rfl, F', h', k', g'⟩
      have HF' : ∀ x ∈ F', w.heap.size ≤ x := fun x hx => by
        rcases g' x hx with h | h
        · exact HF.out x h
        · simp at h; omega
      have N1 := Lib.hid (show SelF w2 F' (w.heap.size + 1) room (putAll room ([]) (l1.take (i + 1))) from by rw [HSN.out]; exact h')
      have N2 := Lib.hid ((HB.out.alloc lw (.cells #[.int .i64 p.1, .int .u32 p.2] 51)).trans (k'.below HF.out (by simp; omega)))
      have N3 := Lib.hid HF'
      clear h' k' g' t3 t4 t6 hl hsl HF'
      go_wp2
      go_roundw
      case rel => exact ⟨i + 1, F', by go_num, by omega, N1.out, N2.out, N3.out⟩
      case measure => simp [intOf]; omega
    · have ht : l1.take i = l1 := List.take_of_length_le (by have := HL1.out; omega)
      rw [ht] at HS
      clear HS1 HB1
      have hS0' : (putAll room [] l1).length ≤ 200000 := by have := putAll_len room [] l1; have := HL1.out; simp only [List.length_nil] at *; omega
      replace HS0 := Lib.hid hS0'
      clear hS0' ht
      obtain ⟨wo, rfl⟩ : ∃ wo : World, wo = wr := ⟨_, rfl⟩
      go_wp2
      go_loopw [27] (fun s27 wr => ∃ (i : Nat) (F : List Nat), s27 = .int .i64 i ∧ i ≤ n2 ∧ Hid (SelF wr F (w.heap.size + 1) room (putAll room (putAll room [] l1) (l2.take i))) ∧ Hid (Below w.heap.size w wr) ∧ Hid (∀ x ∈ F, w.heap.size ≤ x)) (fun s27 _ => n2 - (intOf s27).toNat)
      case atStart => exact ⟨0, F, rfl, Nat.zero_le _, HS.out, HB.out, HF.out⟩
      case round =>
        obtain ⟨i, F, rfl, hi, HS, HB, HF⟩ := hrel
        by_cases h1 : i < n2
        · rcases HC2.out with h0 | ⟨bb, off, rfl, hlt, hc⟩
          · omega
          obtain ⟨p, hp⟩ : ∃ p, l2.getD i (0, 0) = p := ⟨_, rfl⟩
          have hcc := hc i h1
          rw [hp] at hcc
          have t3 := (HB.out.cell (p := ⟨bb, off + i * 2, none⟩) hlt).trans hcc.1
          have t4 := (HB.out.cell (p := ⟨bb, off + i * 2 + 1, none⟩) hlt).trans hcc.2
          have t6 : bb < wr.heap.size := Nat.lt_of_lt_of_le hlt HB.out.size
          have hl : (l2.take i).length = i := by have := HL2.out; simp; omega
          have hsl := putAll_len room (putAll room [] l1) (l2.take i)
          have hS0 := HS0.out
          have hsn : putAll room (putAll room [] l1) (l2.take (i + 1)) = (ins p (putAll room (putAll room [] l1) (l2.take i))).take room := by
            rw [take_snoc' l2 i (by have := HL2.out; omega), hp, putAll_snoc]
          have HSN := Lib.hid hsn
          have lw := HB.out.size
          clear hp hc hcc hsn
          go_wp2_with (fail)
          refine (sel_put F (w.heap.size + 1) room _ p _ (HS.out.kept ((Kept.refl [] _).alloc _) (by intro x _ hx; simp at hx)) (by omega)).mono ?_
          rintro e w2 ⟨rfl, F', h', k', g'⟩
          have HF' : ∀ x ∈ F', w.heap.size ≤ x := fun x hx => by
            rcases g' x hx with h | h
            · exact HF.out x h
            · simp at h; omega
          have N1 := Lib.hid (show SelF w2 F' (w.heap.size + 1) room (putAll room (putAll room [] l1) (l2.take (i + 1))) from by rw [HSN.out]; exact h')
          have N2 := Lib.hid ((HB.out.alloc lw (.cells #[.int .i64 p.1, .int .u32 p.2] 51)).trans (k'.below HF.out (by simp; omega)))
          have N3 := Lib.hid HF'
          clear h' k' g' t3 t4 t6 hl hsl HF'
          go_wp2
          go_roundw
          case rel => exact ⟨i + 1, F', by go_num, by omega, N1.out, N2.out, N3.out⟩
          case measure => simp [intOf]; omega
        · have ht : l2.take i = l2 := List.take_of_length_le (by have := HL2.out; omega)
          rw [ht] at HS
          have hsl := putAll_len room (putAll room [] l1) l2
          have hS0 := HS0.out
          have hl2 := HL2.out
          go_wp2_with (fail)
          refine (sel_list F (w.heap.size + 1) room _ _ HS.out (by omega)).mono ?_
          rintro e w3 ⟨g, rfl, ho, hb3, hg⟩
          have N1 := Lib.hid ho
          have N2 := Lib.hid (HB.out.trans (hb3.mono HB.out.size))
          have N3 := Lib.hid (Nat.le_trans HB.out.size hg)
          clear ho hb3 hg
          go_wp2
          go_ret
          refine ⟨g, _, rfl, ?_, N2.out, N3.out⟩
          have e : keepL room (l1 ++ l2) = putAll room (putAll room [] l1) l2 := by rw [← putAll_nil, putAll_app]
          rw [e]
          exact N1.out

set_option maxHeartbeats 3200000 in
theorem merge_none (a1 a2 : Option Addr) (n1 n2 cap1 cap2 : Nat) (l1 l2 : List Hit) (k : Int) (hk' : k < 0) (w : World) (h1 : HReads w a1 n1 l1) (h2 : HReads w a2 n2 l2) (hn1 : n1 ≤ 100000) (hn2 : n2 ≤ 100000) :
    Calls Tryz.prog 133 #[.slice a1 n1 cap1, .slice a2 n2 cap2, .int .i64 k] w (MergePost w 0 (l1 ++ l2)) := by
  obtain ⟨hl1, _, hc1⟩ := h1
  obtain ⟨hl2, _, hc2⟩ := h2
  have HL1 := Lib.hid hl1
  have HC1 := Lib.hid hc1
  have HL2 := Lib.hid hl2
  have HC2 := Lib.hid hc2
  clear hl1 hc1 hl2 hc2
  go_enter Tryz.func133, Tryz.ntmps133
  go_wp2_with (fail)
  refine (with_any 0 w).mono ?_
  rintro e w1 ⟨rfl, hh, hb⟩
  have hS : SelF w1 [w.heap.size, w.heap.size + 1] (w.heap.size + 1) 0 [] := ⟨_, _, [], hh, Rep.nil, Nat.zero_le _, by simp, by simp, by simp [Value.ownBlock], by
    have h1 := hh.self.lt
    intro x hx
    simp at hx
    omega⟩
  have HS1 := Lib.hid hS
  have HB1 := Lib.hid hb
  clear hS hb hh
  have HS0 := Lib.hid (show ([] : List Hit).length ≤ 200000 by simp)
  go_wp2
  go_loopw [17] (fun s17 wr => ∃ (i : Nat) (F : List Nat), s17 = .int .i64 i ∧ i ≤ n1 ∧ Hid (SelF wr F (w.heap.size + 1) 0 (putAll 0 [] (l1.take i))) ∧ Hid (Below w.heap.size w wr) ∧ Hid (∀ x ∈ F, w.heap.size ≤ x)) (fun s17 _ => n1 - (intOf s17).toNat)
  case atStart => exact ⟨0, _, rfl, Nat.zero_le _, HS1.out, HB1.out, fun x hx => by simp at hx; omega⟩
  case round =>
    obtain ⟨i, F, rfl, hi, HS, HB, HF⟩ := hrel
    by_cases h1 : i < n1
    · rcases HC1.out with h0 | ⟨bb, off, rfl, hlt, hc⟩
      · omega
      obtain ⟨p, hp⟩ : ∃ p, l1.getD i (0, 0) = p := ⟨_, rfl⟩
      have hcc := hc i h1
      rw [hp] at hcc
      have t3 := (HB.out.cell (p := ⟨bb, off + i * 2, none⟩) hlt).trans hcc.1
      have t4 := (HB.out.cell (p := ⟨bb, off + i * 2 + 1, none⟩) hlt).trans hcc.2
      have t6 : bb < wr.heap.size := Nat.lt_of_lt_of_le hlt HB.out.size
      have hl : (l1.take i).length = i := by have := HL1.out; simp; omega
      have hsl := putAll_len 0 ([]) (l1.take i)
      have hS0 := HS0.out
      have hsn : putAll 0 ([]) (l1.take (i + 1)) = (ins p (putAll 0 ([]) (l1.take i))).take 0 := by
        rw [take_snoc' l1 i (by have := HL1.out; omega), hp, putAll_snoc]
      have HSN := Lib.hid hsn
      have lw := HB.out.size
      clear hp hc hcc hsn
      go_wp2_with (fail)
      refine (sel_put F (w.heap.size + 1) 0 _ p _ (HS.out.kept ((Kept.refl [] _).alloc _) (by intro x _ hx; simp at hx)) (by omega)).mono ?_
      rintro e w2 ⟨rfl, F', h', k', g'⟩
      have HF' : ∀ x ∈ F', w.heap.size ≤ x := fun x hx => by
        rcases g' x hx with h | h
        · exact HF.out x h
        · simp at h; omega
      have N1 := Lib.hid (show SelF w2 F' (w.heap.size + 1) 0 (putAll 0 ([]) (l1.take (i + 1))) from by rw [HSN.out]; exact h')
      have N2 := Lib.hid ((HB.out.alloc lw (.cells #[.int .i64 p.1, .int .u32 p.2] 51)).trans (k'.below HF.out (by simp; omega)))
      have N3 := Lib.hid HF'
      clear h' k' g' t3 t4 t6 hl hsl HF'
      go_wp2
      go_roundw
      case rel => exact ⟨i + 1, F', by go_num, by omega, N1.out, N2.out, N3.out⟩
      case measure => simp [intOf]; omega
    · have ht : l1.take i = l1 := List.take_of_length_le (by have := HL1.out; omega)
      rw [ht] at HS
      clear HS1 HB1
      have hS0' : (putAll 0 [] l1).length ≤ 200000 := by have := putAll_len 0 [] l1; have := HL1.out; simp only [List.length_nil] at *; omega
      replace HS0 := Lib.hid hS0'
      clear hS0' ht
      obtain ⟨wo, rfl⟩ : ∃ wo : World, wo = wr := ⟨_, rfl⟩
      go_wp2
      go_loopw [27] (fun s27 wr => ∃ (i : Nat) (F : List Nat), s27 = .int .i64 i ∧ i ≤ n2 ∧ Hid (SelF wr F (w.heap.size + 1) 0 (putAll 0 (putAll 0 [] l1) (l2.take i))) ∧ Hid (Below w.heap.size w wr) ∧ Hid (∀ x ∈ F, w.heap.size ≤ x)) (fun s27 _ => n2 - (intOf s27).toNat)
      case atStart => exact ⟨0, F, rfl, Nat.zero_le _, HS.out, HB.out, HF.out⟩
      case round =>
        obtain ⟨i, F, rfl, hi, HS, HB, HF⟩ := hrel
        by_cases h1 : i < n2
        · rcases HC2.out with h0 | ⟨bb, off, rfl, hlt, hc⟩
          · omega
          obtain ⟨p, hp⟩ : ∃ p, l2.getD i (0, 0) = p := ⟨_, rfl⟩
          have hcc := hc i h1
          rw [hp] at hcc
          have t3 := (HB.out.cell (p := ⟨bb, off + i * 2, none⟩) hlt).trans hcc.1
          have t4 := (HB.out.cell (p := ⟨bb, off + i * 2 + 1, none⟩) hlt).trans hcc.2
          have t6 : bb < wr.heap.size := Nat.lt_of_lt_of_le hlt HB.out.size
          have hl : (l2.take i).length = i := by have := HL2.out; simp; omega
          have hsl := putAll_len 0 (putAll 0 [] l1) (l2.take i)
          have hS0 := HS0.out
          have hsn : putAll 0 (putAll 0 [] l1) (l2.take (i + 1)) = (ins p (putAll 0 (putAll 0 [] l1) (l2.take i))).take 0 := by
            rw [take_snoc' l2 i (by have := HL2.out; omega), hp, putAll_snoc]
          have HSN := Lib.hid hsn
          have lw := HB.out.size
          clear hp hc hcc hsn
          go_wp2_with (fail)
          refine (sel_put F (w.heap.size + 1) 0 _ p _ (HS.out.kept ((Kept.refl [] _).alloc _) (by intro x _ hx; simp at hx)) (by omega)).mono ?_
          rintro e w2 ⟨rfl, F', h', k', g'⟩
          have HF' : ∀ x ∈ F', w.heap.size ≤ x := fun x hx => by
            rcases g' x hx with h | h
            · exact HF.out x h
            · simp at h; omega
          have N1 := Lib.hid (show SelF w2 F' (w.heap.size + 1) 0 (putAll 0 (putAll 0 [] l1) (l2.take (i + 1))) from by rw [HSN.out]; exact h')
          have N2 := Lib.hid ((HB.out.alloc lw (.cells #[.int .i64 p.1, .int .u32 p.2] 51)).trans (k'.below HF.out (by simp; omega)))
          have N3 := Lib.hid HF'
          clear h' k' g' t3 t4 t6 hl hsl HF'
          go_wp2
          go_roundw
          case rel => exact ⟨i + 1, F', by go_num, by omega, N1.out, N2.out, N3.out⟩
          case measure => simp [intOf]; omega
        · have ht : l2.take i = l2 := List.take_of_length_le (by have := HL2.out; omega)
          rw [ht] at HS
          have hsl := putAll_len 0 (putAll 0 [] l1) l2
          have hS0 := HS0.out
          have hl2 := HL2.out
          go_wp2_with (fail)
          refine (sel_list F (w.heap.size + 1) 0 _ _ HS.out (by omega)).mono ?_
          rintro e w3 ⟨g, rfl, ho, hb3, hg⟩
          have N1 := Lib.hid ho
          have N2 := Lib.hid (HB.out.trans (hb3.mono HB.out.size))
          have N3 := Lib.hid (Nat.le_trans HB.out.size hg)
          clear ho hb3 hg
          go_wp2
          go_ret
          refine ⟨g, _, rfl, ?_, N2.out, N3.out⟩
          have e : keepL 0 (l1 ++ l2) = putAll 0 (putAll 0 [] l1) l2 := by rw [← putAll_nil, putAll_app]
          rw [e]
          exact N1.out

theorem merge_any (a1 a2 : Option Addr) (n1 n2 cap1 cap2 room : Nat) (l1 l2 : List Hit) (k : Int) (hk : Hid ((room : Int) = max k 0)) (w : World) (h1 : HReads w a1 n1 l1) (h2 : HReads w a2 n2 l2) (hn1 : n1 ≤ 100000) (hn2 : n2 ≤ 100000) :
    Calls Tryz.prog 133 #[.slice a1 n1 cap1, .slice a2 n2 cap2, .int .i64 k] w (MergePost w room (l1 ++ l2)) := by
  have e := hk.out
  by_cases h : k < 0
  · obtain rfl : room = 0 := by omega
    exact merge_none a1 a2 n1 n2 cap1 cap2 l1 l2 k h w h1 h2 hn1 hn2
  · exact merge_some a1 a2 n1 n2 cap1 cap2 room l1 l2 k (by omega) w h1 h2 hn1 hn2
end Go.Proofs.YtadkfedglkhgjaaGreat
