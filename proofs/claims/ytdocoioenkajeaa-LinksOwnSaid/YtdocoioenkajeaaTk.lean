/-
  A selector's calls, each by a walk over its text.
-/
import Derived.Test.YtdocoioenkajeaaTj
import Derived.WalkSpells
import Derived.Laws.EntriesVeiled
import Derived.StillTailTactics
namespace Go.Proofs.Ytdocoioenkajeaa
open Go.RowKit

theorem reversed_any (w : World) :
    Calls Try.prog 82 #[.func (.func 38) #[] #[]] w fun e w' => e = .returned (.func (.func 92) #[] #[.pointer (some ⟨w.heap.size, 0, none⟩)]) ∧ w' = w.alloc (.cells #[.func (.func 38) #[] #[]] 56) := by
  go_enter Try.func82, Try.ntmps82
  go_wp2
  go_ret
  exact ⟨rfl, rfl⟩

/-- A selector lies in block b: so many hits it has room for, these it keeps. -/
def BestAt (w : World) (b c room : Nat) (v : Value) (xs : List Hit) : Prop := HeapAt w b 1 c 110 [.int .i64 (room : Int)] v xs

theorem with_any (room : Nat) (w : World) :
    Calls Try.prog 67 #[.int .i64 room] w fun e w' => e = .returned (.pointer (some ⟨w.heap.size + 1, 0, none⟩)) ∧ BestAt w' (w.heap.size + 1) w.heap.size room (.slice none 0 0) [] ∧ Below w.heap.size w w' := by
  go_enter Try.func67, Try.ntmps67
  go_wp2_with (fail)
  refine (reversed_any w).mono ?_
  rintro e w1 ⟨rfl, rfl⟩
  go_wp2
  go_ret
  refine ⟨rfl, ⟨rfl, .inr rfl, ?_, ?_, ?_⟩, ((Below.refl _ _).alloc (Nat.le_refl _) _).alloc (by simp) _⟩
  · have h := Blk.new (w.alloc (.cells #[.func (.func 38) #[] #[]] 56)) 110 #[.int .i64 room, .slice none 0 0, .func (.func 92) #[] #[.pointer (some ⟨w.heap.size, 0, none⟩)]]
    rw [show (w.alloc (.cells #[.func (.func 38) #[] #[]] 56)).heap.size = w.heap.size + 1 from by simp] at h
    exact h
  · exact (Blk.new w 56 #[.func (.func 38) #[] #[]]).alloc _
  · exact World.ownsRow_nil _ _ _ _

theorem new_any (k : Int) (w : World) (r : Nat) (hr : Hid ((r : Int) = min (max k 0) 256)) :
    Calls Try.prog 57 #[.int .i64 k] w fun e w' => e = .returned (.pointer (some ⟨w.heap.size + 1, 0, none⟩)) ∧ BestAt w' (w.heap.size + 1) w.heap.size r (.slice none 0 0) [] ∧ Below w.heap.size w w' := by
  by_cases h1 : k < 0
  · have e : r = 0 := by have := hr.out; omega
    subst e
    clear hr
    go_enter Try.func57, Try.ntmps57
    go_wp2_with (fail)
    refine (with_any 0 w).mono ?_
    rintro e w1 ⟨rfl, h, hb⟩
    have H := Lib.hid h
    clear h
    go_wp2
    go_ret
    exact ⟨rfl, H.out, hb⟩
  by_cases h2 : 256 < k
  · have e : r = 256 := by have := hr.out; omega
    subst e
    clear hr
    go_enter Try.func57, Try.ntmps57
    go_wp2_with (fail)
    refine (with_any 256 w).mono ?_
    rintro e w1 ⟨rfl, h, hb⟩
    have H := Lib.hid h
    clear h
    go_wp2
    go_ret
    exact ⟨rfl, H.out, hb⟩
  · obtain rfl : k = (r : Int) := by have := hr.out; omega
    go_enter Try.func57, Try.ntmps57
    go_wp2_with (fail)
    refine (with_any r w).mono ?_
    rintro e w1 ⟨rfl, h, hb⟩
    have H := Lib.hid h
    clear h
    go_wp2
    go_ret
    exact ⟨rfl, H.out, hb⟩

theorem len_any (b c room : Nat) (v : Value) (xs : List Hit) (w : World) (h : BestAt w b c room v xs) :
    Calls Try.prog 61 #[.pointer (some ⟨b, 0, none⟩)] w fun e w' => e = .returned (.int .i64 xs.length) ∧ w = w' := by
  obtain ⟨a, cap, rfl⟩ := h.own.size
  have c0 := h.cell0
  have l0 := h.self.lt
  clear h
  go_enter Try.func61, Try.ntmps61
  go_wp2
  go_ret
  exact ⟨rfl, rfl⟩
theorem BestAt.kept {F : List Nat} {w w' : World} {b c room : Nat} {v : Value} {xs : List Hit} (h : BestAt w b c room v xs) (hk : Kept F w w') (hb : b ∉ F) (hc : c ∉ F) (hv : ∀ k, v.ownBlock = some k → k ∉ F) : BestAt w' b c room v xs := HeapAt.kept h hk hb hc hv
theorem BestAt.grow {w w' : World} {b c room : Nat} {v : Value} {xs : List Hit} (h : BestAt w b c room v xs) (hb : Below w.heap.size w w') : BestAt w' b c room v xs := HeapAt.grow h hb
theorem BestAt.room {w : World} {b c room : Nat} {v : Value} {xs : List Hit} (h : BestAt w b c room v xs) : w.cell? ⟨b, 0, none⟩ = some (.int .i64 room) := by
  rw [h.self.cell]; simp

theorem len_q (b c room : Nat) (v : Value) (xs : List Hit) (w : World) (h : BestAt w b c room v xs) (n : Nat) :
    Calls Try.prog 61 #[.pointer (some ⟨b, 0, none⟩)] (w.drewN n) fun e w' => e = .returned (.int .i64 xs.length) ∧ ∃ m, w' = w.drewN m :=
  (len_any b c room v xs (w.drewN n) (h.kept ((Kept.refl [] _).drewN n) (by simp) (by simp) (by simp))).mono fun _ _ ⟨he, hw⟩ => ⟨he, n, hw.symm⟩

/-- What a selector keeps when x is put, as it lies in its heap. -/
def putH (room : Nat) (xs : List Hit) (x : Hit) : List Hit :=
  if xs.length < room then riseL (xs ++ [x]) xs.length else if ltH x (xs.getD 0 (0, 0)) = true ∧ 0 < room then sinkL (xs.set 0 x) 0 else xs

def PutPost (b c room : Nat) (v : Value) (xs : List Hit) (x : Hit) (w w' : World) : Prop :=
  ∃ v', BestAt w' b c room v' (putH room xs x) ∧ Kept (b :: v.ownBlock.toList) w w' ∧ (∀ k, v'.ownBlock = some k → v.ownBlock = some k ∨ w.heap.size ≤ k)

set_option maxHeartbeats 1600000 in
theorem put_room (b c room : Nat) (v : Value) (xs : List Hit) (x : Hit) (w : World) (h : BestAt w b c room v xs) (hs : xs.length < 1000000) (hr : xs.length < room) :
    Calls Try.prog 59 #[.pointer (some ⟨b, 0, none⟩), .agg #[.int .i64 x.1, .int .u32 x.2]] w fun e w' => e = .returned (.tuple #[]) ∧ PutPost b c room v xs x w w' := by
  have hp : putH room xs x = riseL (xs ++ [x]) xs.length := by rw [putH, if_pos hr]
  have HP := Lib.hid hp
  have H1 := Lib.hid (h.kept ((Kept.refl [] _).alloc (.cells #[.int .i64 x.1, .int .u32 x.2] 58)) (by simp) (by simp) (by simp))
  have K1 := Lib.hid ((Kept.refl (b :: v.ownBlock.toList) w).alloc (.cells #[.int .i64 x.1, .int .u32 x.2] 58))
  have B1 := Lib.hid (Blk.new w 58 #[.int .i64 x.1, .int .u32 x.2])
  have c0 := h.room
  have l0 := h.self.lt
  have hd : decide (xs.length < room) = true := by simpa using hr
  clear h hp
  go_enter Try.func59, Try.ntmps59
  go_wp2_with (fail)
  go_quiet ((go_at_call 61; exact len_q b c room v xs _ H1.out _))
  go_wp2_with (fail)
  have H2 := Lib.hid (H1.out.kept ((Kept.refl [] _).drewN nq) (by simp) (by simp) (by simp))
  have K2 := Lib.hid (K1.out.drewN nq)
  have B2 := Lib.hid ((Kept.refl [] _).drewN nq |>.blk B1.out (by simp))
  clear H1 K1 B1 c0 l0
  generalize (w.alloc (.cells #[.int .i64 x.1, .int .u32 x.2] 58)).drewN nq = w1 at *
  have c1 := B2.out.cell 0
  have c2 := B2.out.cell 1
  have l1 := B2.out.lt
  have l2 := H2.out.self.lt
  simp only [List.getElem?_cons_zero, List.getElem?_cons_succ] at c1 c2
  go_region_with (go_at_call 75; refine (push_any b 1 c 110 _ v xs x _ (HeapAt.drew H2.out) hs).mono ?_; rintro e w2 ⟨rfl, hq⟩)
  all_goals
    obtain ⟨g, cap, hq1, hq2, hq3⟩ := hq
    have Q1 := Lib.hid hq1
    have Q2 := Lib.hid hq2
    have Q3 := Lib.hid hq3
    clear hq1 hq2 hq3
    go_wp2
    refine bodyPost_ret (v := .tuple #[]) (results_none rfl _ _ _) rfl ⟨rfl, .slice (some ⟨g, 0, none⟩) (xs.length + 1) cap, ?_, K2.out.drew.trans Q2.out (Grows.refl _ _), ?_⟩
    · rw [HP.out]
      exact Q1.out
    · intro k hk
      simp [Value.ownBlock] at hk
      subst hk
      rcases Q3.out with e | e
      · exact .inl e
      · have := K2.out.size
        exact .inr (by simp at e; omega)

theorem addr_add (b o j : Nat) : (⟨b, o, none⟩ : Addr).add j = ⟨b, o + j, none⟩ := by
  unfold Addr.add
  split <;> simp_all

set_option maxHeartbeats 800000 in
theorem clone_any (v : Value) (xs : List Hit) (w : World) (h : Own w 58 v xs) (hs : xs.length ≤ 1000000) :
    Calls Try.prog 64 #[v] w fun e w' => ∃ v', e = .returned v' ∧ Own w' 58 v' xs ∧ Below w.heap.size w w' ∧ (∀ k, v'.ownBlock = some k → w.heap.size ≤ k) := by
  obtain ⟨i0, hi0, hz0, hz1, hz2⟩ := info_parts hit_info
  have hn := fun (w : World) (a : Option Addr) (n c : Nat) => Lib.run_eql_slice_nil (P := Try.prog) w 48 58 a n c 0 0 Try.underlying48
  rcases h.form with ⟨rfl, rfl⟩ | ⟨g, cap, rest, rfl, hg, hl, hcap, hlen⟩
  · clear h
    go_enter Try.func64, Try.ntmps64
    go_wp2
    go_ret
    exact ⟨_, rfl, World.ownsRow_nil _ _ _ _, Below.refl _ _, by simp [Value.ownBlock]⟩
  · have hfl := flat_len xs
    have hnews : ∀ j u, (flat xs)[j]? = some u → (w.alloc (.cells #[] 58)).cell? ((⟨g, 0, none⟩ : Addr).add j) = some u := by
      intro j u hj
      have := (hg.alloc (.cells #[] 58)).cell j
      rw [addr_add, Nat.zero_add, this, List.getElem?_append_left (by have := (List.getElem?_eq_some_iff.1 hj).1; omega), hj]
    have HN := Lib.hid hnews
    clear h hg hlen hcap hl hnews
    go_enter Try.func64, Try.ntmps64
    go_wp2_with (at_builtin; refine wpList_append_own_at _ rfl (.tmp 5) (.tmp 6) 48 rfl 0 58 i0 _ 2 16 Try.underlying48 hi0 hz0 hz1 hz2 rfl (by omega) _ 0 [] rfl (World.ownsRow_made w #[] 0 (Nat.zero_le _) (by decide) rfl) ⟨g, 0, none⟩ xs.length cap (flat xs) rfl (by omega) HN.out (flat_one xs) (by unfold maxLen; omega) (by omega) (Nat.zero_le _) ?_)
    intro v' w1 hown hgrow _ hat
    go_wp2
    go_ret
    refine ⟨v', rfl, ?_, ?_, ?_⟩
    · unfold Own; simpa using hown
    · exact ((Below.refl _ _).alloc (Nat.le_refl _) _).grown hgrow (by simp) (by simp [Value.ownBlock])
    · intro k hk
      rcases hat with e | e <;> rw [e] at hk <;> simp [Value.ownBlock] at hk <;> omega
end Go.Proofs.Ytdocoioenkajeaa
