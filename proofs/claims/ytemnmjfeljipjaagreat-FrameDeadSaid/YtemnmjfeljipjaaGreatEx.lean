/-
  The document's All: the error that ends what bytes say, by a walk over its text.
-/
import Derived.Test.YtemnmjfeljipjaaGreatEv
import Derived.Test.YtemnmjfeljipjaaGreatEm
import Derived.Great.BuildSlice
namespace Go.Proofs.YtemnmjfeljipjaaGreat
open Go.RowKit Go.ChangeShapes Go.WideShapes Go.ChangeAt

/-- The error that ends the messages of bytes. -/
def whyG : Nat → List Nat → Nat
  | 0, _ => 0
  | k + 1, l => match firstF l with
    | .more => 40
    | .bad e => e
    | .got _ n => whyG k (l.drop n)
theorem whyG_enough : ∀ (k k' : Nat) (l : List Nat), l.length < k → l.length < k' → whyG k l = whyG k' l := by
  intro k
  induction k with
  | zero => intro k' l h; omega
  | succ k ih =>
    intro k' l h h'
    cases k' with
    | zero => omega
    | succ k' =>
      unfold whyG
      cases hf : firstF l with
      | more => rfl
      | bad e => rfl
      | got x n =>
        have := firstF_len hf
        exact ih k' (l.drop n) (by rw [List.length_drop]; omega) (by rw [List.length_drop]; omega)
def whyA (l : List Nat) : Nat := whyG (l.length + 1) l
theorem whyA_more {l : List Nat} (h : firstF l = .more) : whyA l = 40 := by
  unfold whyA whyG
  rw [h]
theorem whyA_bad {l : List Nat} {e : Nat} (h : firstF l = .bad e) : whyA l = e := by
  unfold whyA whyG
  rw [h]
theorem whyA_got {l : List Nat} {x : MsgV} {n : Nat} (h : firstF l = .got x n) : whyA (l.drop n) = whyA l := by
  have h1 := firstF_len h
  have e : whyA l = whyG l.length (l.drop n) := by
    unfold whyA
    rw [whyG, h]
  rw [e]
  exact whyG_enough _ _ _ (by omega) (by rw [List.length_drop]; omega)
theorem msg_info : (Tryz.prog.info? 37).map (fun i => (i.zero, i.size, i.bytes)) = some (some (.agg (zeroL 0).cells.toArray), 28, 320) := by kernel_rfl
theorem build_msgx (m : MsgL) (w : World) : (Instr.buildSlice 64 1 #[(0, .agg m.cells.toArray)]).run Tryz.prog w = .ok (.slice (some ⟨w.heap.size, 0, none⟩) 1 1) (w.alloc (.cells m.cells.toArray 37)) := by
  obtain ⟨i0, hi, hz0, hz1, hz2⟩ := info_parts msg_info
  exact run_buildSlice w _ _ 1 _ _ i0 _ Tryz.underlying64 hi hz0 (by rw [hz1]; decide) (by rw [hz1]; decide) (by rw [hz1]; kernel_rfl)
theorem msg_one (m : MsgL) : ∀ u ∈ m.cells, u.oneCell' = true := by simp [MsgL.cells, Value.oneCell']

set_option maxRecDepth 100000 in
set_option maxHeartbeats 25600000 in
theorem rall_any (a : Option Addr) (n c : Nat) (l : List Nat) (w : World) (h : BReads w a n c l) (hn : n ≤ 1000000) :
    Calls Tryz.prog 32 #[.slice a n c] w fun e w' => Below w.heap.size w w' ∧ ∃ (v : Value) (left : Nat), whyA l ≠ 0 ∧ e = .returned (.tuple #[v, .int .i64 (whyA l : Int), .int .i64 (left : Int)]) := by
  obtain ⟨Z, hZ⟩ : ∃ Z, (zeroL 0).cells.toArray = Z := ⟨_, rfl⟩
  have hz := msg_zero
  rw [hZ] at hz
  have hb4 : Z.size = 28 := by
    rw [← hZ]
    rfl
  have hb1 : (Z = #[]) = False := by
    rw [← hZ]
    simp [MsgL.cells]
  have HZ := Lib.hid hZ
  have HR := Lib.hid h
  obtain ⟨W, hW⟩ : ∃ W, whyA l = W := ⟨_, rfl⟩
  rw [hW]
  have HW := Lib.hid hW
  clear hZ h hW
  go_enter Tryz.func32, Tryz.ntmps32
  go_wp2_with (fail)
  go_loopw [0, 5] (fun s0 s5 wr => ∃ (a' : Option Addr) (n' c' : Nat) (l' : List Nat) (css : List (List Value)), s0 = .slice a' n' c' ∧ css.length + n' ≤ n ∧ Hid (BReads w a' n' c' l') ∧ Hid (whyA l' = W) ∧ Hid (RowC w.heap.size wr 37 28 s5 css) ∧ Hid (Below w.heap.size w wr)) (fun s0 _ _ => match s0 with | .slice _ n' _ => n' | _ => 0)
  case atStart => exact ⟨a, n, c, l, [], rfl, by simp, HR.out, HW.out, RowC.nil _ _ _ _, Below.refl _ _⟩
  case round =>
    obtain ⟨a', n', c', l', css, rfl, hcn, HR', HW', HC, HB⟩ := hrel
    have hroom := HR'.out.room
    go_wp2_with (fail)
    refine (rfirst_any a' n' c' l' wr (HR'.out.below (Nat.le_refl _) HB.out) (by omega)).mono ?_
    rintro e w2 ⟨hb2, hf⟩
    have B2 := Lib.hid (below_on HB.out hb2)
    have C2 := Lib.hid (HC.out.on hb2)
    have hs2 := hb2.size
    have hsw := HB.out.size
    cases hff : firstF l' with
    | more =>
      rw [hff] at hf
      simp only at hf
      subst hf
      obtain rfl : W = 40 := by rw [← HW'.out]; exact whyA_more hff
      have hst := msg_store_new w2 Z (zeroL 0) hb4
      rw [HZ.out] at hst ⊢
      obtain ⟨w3, hw3⟩ : ∃ w3, w2.alloc (.cells Z 37) = w3 := ⟨_, rfl⟩
      rw [hw3] at hst
      have B3 := Lib.hid (show Below w.heap.size w w3 from by rw [← hw3]; exact B2.out.alloc B2.out.size _)
      clear hb2 hff HR' HC C2
      go_wp2
      go_ret3
      exact ⟨by (try rw [hw3]); exact B3.out, _, _, by omega, rfl⟩
    | bad er =>
      rw [hff] at hf
      simp only at hf
      obtain ⟨her, rfl⟩ := hf
      obtain rfl : W = er := by rw [← HW'.out]; exact whyA_bad hff
      have hst := msg_store_new w2 Z (zeroL 0) hb4
      rw [HZ.out] at hst ⊢
      obtain ⟨w3, hw3⟩ : ∃ w3, w2.alloc (.cells Z 37) = w3 := ⟨_, rfl⟩
      rw [hw3] at hst
      have B3 := Lib.hid (show Below w.heap.size w w3 from by rw [← hw3]; exact B2.out.alloc B2.out.size _)
      clear hb2 hff HR' HC C2
      by_cases h40 : W = 40
      · subst h40
        go_wp2
        go_ret3
        exact ⟨by (try rw [hw3]); exact B3.out, _, _, by omega, rfl⟩
      · have h40b : ((W : Int) == 40) = false := by simp; omega
        have h0b : ((W : Int) != 0) = true := by simp; omega
        go_wp2
        go_ret3
        exact ⟨by (try rw [hw3]); exact B3.out, _, 0, by omega, rfl⟩
    | got x k =>
      rw [hff] at hf
      simp only at hf
      obtain ⟨y, rfl, _, _⟩ := hf
      have hlen := firstF_len hff
      have hl' := HR'.out.len
      have hW2 := whyA_got hff
      obtain ⟨F, hF⟩ : ∃ F, y.cells.toArray = F := ⟨_, rfl⟩
      have hst := msg_store_new w2 Z y hb4
      rw [hF] at hst ⊢
      have hF28 : F.size = 28 := by rw [← hF]; rfl
      have HBS := Lib.hid (show ∀ wx : World, (Instr.buildSlice 64 1 #[(0, .agg F)]).run Tryz.prog wx = .ok (.slice (some ⟨wx.heap.size, 0, none⟩) 1 1) (wx.alloc (.cells F 37)) from fun wx => by
        rw [← hF]
        exact build_msgx y wx)
      have hinfoF : (Tryz.prog.info? 37).map (·.size) = some F.size := by
        rw [hF28]
        kernel_rfl
      have hFl : F.toList.length = 28 := by rw [← hF]; rfl
      have hFo : ∀ u ∈ F.toList, u.oneCell' = true := by
        rw [← hF]
        simpa using msg_one y
      obtain ⟨w3, hw3⟩ : ∃ w3, w2.alloc (.cells F 37) = w3 := ⟨_, rfl⟩
      have HB3 : w3.heap[w2.heap.size]? = some (.cells F 37 (0, 0)) := by
        rw [← hw3]
        exact heap_alloc_new w2 _
      have B3 := Lib.hid (show Below w.heap.size w w3 from by rw [← hw3]; exact B2.out.alloc B2.out.size _)
      have C3 := Lib.hid (show RowC w.heap.size w3 37 28 u5 css from by rw [← hw3]; exact C2.out.on ((Below.refl _ _).alloc (Nat.le_refl _) _))
      have hs3 : w2.heap.size < w3.heap.size := by rw [← hw3]; simp
      have HW3 := Lib.hid (hW2.trans HW'.out)
      obtain ⟨a4, hcut4, hrd4⟩ := cut_bytes (P := Tryz.prog) 33 5 Tryz.underlying33 (by kernel_rfl) byte_info a' n' c' k (k : Int) rfl (by omega)
      have RR := Lib.hid (hrd4 w l' HR'.out)
      have HLEN := Lib.hid (show 4 ≤ k ∧ k ≤ n' from by omega)
      clear hb2 hff HR' HC C2 hF hW2 hrd4 B2 HW' hlen hl' hroom
      go_wp2_with (first | (refine wp_load_e w3 (by rfl) 37 (.tmp 6) rfl w2.heap.size 37 F _ (by rfl) HB3 Tryz.underlying37 rfl hinfoF ?_) | (refine wp_bs w3 rfl 64 37 (.tmp 26) rfl F (HBS.out w3) (by rfl) ?_) | (at_builtin; go_must (refine app_c (k := 28) (css := css) w3 rfl (.tmp 25) (.tmp 27) 64 rfl Tryz.underlying64 (.agg (zeroL 0).cells.toArray) 320 msg_info rfl (by decide) F.toList (by rfl) (by rfl) C3.out hFl hFo (by omega) (by omega) (by omega) ?_)))
      intro v6 w6 hr6 hk6 _
      have C6 := Lib.hid hr6
      have B6 := Lib.hid (B3.out.trans (hk6.below (fun x hx => (C3.out.lt x (mem_ownB.1 hx)).1) B3.out.size))
      clear hr6 hk6 hst HB3 C3 B3
      go_wp2
      go_roundw
      case rel => exact ⟨a4, n' - k, c' - k, l'.drop k, css ++ [F.toList], rfl, by have := HLEN.out; simp; omega, RR.out, HW3.out, C6.out, B6.out⟩
      case measure =>
        have := HLEN.out
        simp
        omega
end Go.Proofs.YtemnmjfeljipjaaGreat
