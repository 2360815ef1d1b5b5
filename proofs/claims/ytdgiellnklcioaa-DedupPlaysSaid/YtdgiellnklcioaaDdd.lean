/-
  Layer 16: cloneEach. (Made by tools/mkddc.py.)
-/
import Derived.Test.YtdgiellnklcioaaDdc
namespace Go.Proofs.Ytdgiellnklcioaa
open Go.RowKit Go.ChangeShapes Go.WideShapes Go.ChangeAt
set_option maxRecDepth 100000 in
set_option maxHeartbeats 3200000 in
theorem eachI_cp (w : World) (p : SlL) (xs : List shItem.T) (h : Rd (fun _ => True) w shItems [.slice p.a p.n p.c] xs) : Calls Try.prog 34 #[.slice p.a p.n p.c, .func (.func 35) #[] #[]] w (CpPost shItems xs w) := by
  obtain ⟨a, n, c⟩ := p
  have HX := Lib.hid h
  obtain ⟨_, _, _, hcs, hlen, hby, hsm, _⟩ := Rd.slice_part (e := shItem) h
  simp only [List.cons.injEq, Value.slice.injEq, and_true] at hcs
  obtain ⟨rfl, rfl, rfl⟩ := hcs
  have HL := Lib.hid hlen
  have HBY := Lib.hid hby
  clear h hlen hby
  go_enter Try.func34, Try.ntmps34
  go_wp2_with (fail)
  go_loopw [5, 10] (fun s5 s10 wr => ∃ (i : Nat) (q : SlL), s10 = .int .i64 i ∧ s5 = .slice q.a q.n q.c ∧ i ≤ n ∧ Hid (Below w.heap.size w wr ∧ OwnR w.heap.size wr 71 shItem (.slice q.a q.n q.c) (xs.take i))) (fun _ s10 _ => n - (intOf s10).toNat)
  case atStart => exact ⟨0, .nil, rfl, rfl, by omega, Below.refl _ _, by simpa [SlL.nil] using OwnR.nil _ _ _ _⟩
  case round =>
    obtain ⟨i, q, rfl, rfl, hi, HI⟩ := hrel
    have HB := Lib.hid HI.out.1
    have HO := Lib.hid HI.out.2
    clear HI
    have HRr := Lib.hid (HX.out.on HB.out)
    by_cases hin : i < n
    · obtain ⟨b, off, x, c0, c1, c2, rfl, hlt, hget, HRX, k0, k1, k2⟩ := rd_item_at (HRr.out.lt.mono fun k hk _ => hk.2) i hin
      obtain ⟨id0, vec0, tags0, a1, n1, m1, a2, n2, m2, -, hce, -⟩ := rd_item HRX.out
      simp only [List.cons.injEq, and_true] at hce
      obtain ⟨rfl, rfl, rfl⟩ := hce
      have HT := Lib.hid (show xs.take (i + 1) = xs.take i ++ [x] by rw [List.take_add_one, hget]; rfl)
      clear hget
      have BA := Lib.hid (show Below wr.heap.size wr (wr.alloc (.cells #[.int .u32 (id0 : Int), .slice a1 n1 m1, .slice a2 n2 m2] 71)) from (Below.refl _ _).alloc (Nat.le_refl _) _)
      have hwn := Lib.hid (show wr.heap.size < (wr.alloc (.cells #[.int .u32 (id0 : Int), .slice a1 n1 m1, .slice a2 n2 m2] 71)).heap.size by simp)
      go_wp2_with (fail)
      refine (cloneI_cp _ _ _ _  x ((HRX.out.mono fun _ _ _ => trivial).on BA.out)).mono ?_
      rintro e w4 ⟨id, ⟨pa, pn, pc⟩, ⟨qa, qn, qc⟩, rfl, hb4, ho4⟩
      have BR := Lib.hid (below_on BA.out hb4)
      have B4 := Lib.hid (below_on HB.out BR.out)
      have HO4 := Lib.hid (HO.out.on BR.out)
      have HR4 := Lib.hid (ho4.mono (ok' := fun k => w.heap.size ≤ k ∧ (Value.slice q.a q.n q.c).ownBlock ≠ some k) fun k hk _ => ⟨Nat.le_trans HB.out.size (Nat.le_trans (Nat.le_of_lt hwn.out) hk), fun e => by have := (HO.out.lt k e).2; have := hwn.out; omega⟩)
      have HLEN := Lib.hid (show (xs.take i).length = i by rw [List.length_take, HL.out]; omega)
      clear hb4 ho4 k0 k1 k2 BA hwn HRr HRX HO HB
      go_wp2_with (first
        | (at_builtin; go_must (refine app_rowM (e := shItem) w4 rfl (.tmp 14) (.tmp 18) 42 rfl Try.underlying42 (.agg #[.int .u32 0, .slice none 0 0, .slice none 0 0]) 56 item_info3 rfl (by decide) x [.int .u32 (id : Int), .slice pa pn pc, .slice qa qn qc] rfl rfl HO4.out HR4.out B4.out.size (by rw [HLEN.out]; have := HBY.out; omega) (by rw [HLEN.out]; have := HBY.out; unfold maxLen; omega) ?_))
        | fail)
      intro v5 w5 ho5 hk5
      obtain ⟨q5, rfl⟩ := ho5.sl
      have HN := Lib.hid (show Below w.heap.size w w5 ∧ OwnR w.heap.size w5 71 shItem (.slice q5.a q5.n q5.c) (xs.take (i + 1)) from ⟨B4.out.trans (hk5.below (fun b hb => (HO4.out.lt b (mem_ownB.1 hb)).1) B4.out.size), by rw [HT.out]; exact ho5⟩)
      clear ho5 hk5 HO4 HR4 B4 BR HLEN HT
      go_wp2
      go_roundw
      case rel => exact ⟨i + 1, q5, by go_num, rfl, by omega, HN.out⟩
      case measure => simp [intOf]; omega
    · have hin' : i = n := by omega
      subst hin'
      have R := Lib.hid (show Rd (w.heap.size ≤ ·) wr shItems [.slice q.a q.n q.c] xs from by
        have h1 := HO.out
        rw [List.take_of_length_le (by rw [HL.out]; exact Nat.le_refl _)] at h1
        exact h1.rd 56 (by decide) (by rw [HL.out]; exact HBY.out))
      clear HO HRr
      go_wp2
      go_ret
      exact ⟨q, rfl, HB.out, R.out⟩
theorem rd_change_at16 {ok : Nat → Prop} {w : World} {a : Option Addr} {n c : Nat} {xs : List shChange.T} (h : Rd ok w shChanges [.slice a n c] xs) (i : Nat) (hi : i < n) :
    ∃ b off x c0 c1 c2 c3, a = some ⟨b, off, none⟩ ∧ b < w.heap.size ∧ xs[i]? = some x ∧ Hid (Rd ok w shChange [c0, c1, c2, c3] x) ∧ w.cell? ⟨b, off + i * 4, none⟩ = some c0 ∧ w.cell? ⟨b, off + i * 4 + 1, none⟩ = some c1 ∧ w.cell? ⟨b, off + i * 4 + 2, none⟩ = some c2 ∧ w.cell? ⟨b, off + i * 4 + 3, none⟩ = some c3 := by
  obtain ⟨b, off, x, vs, ha, _, hlt, hx, hl, hc, hr⟩ := Rd.elem (e := shChange) h i hi
  obtain ⟨g, y, c0, c1, c2, _, hcs, hy⟩ := rd_change hr
  subst hcs
  exact ⟨b, off, x, _, _, _, _, ha, hlt, hx, hr, hc 0 (by decide), hc 1 (by decide), hc 2 (by decide), hc 3 (by decide)⟩
set_option maxRecDepth 100000 in
set_option maxHeartbeats 3200000 in
theorem eachC_cp (w : World) (p : SlL) (xs : List shChange.T) (h : Rd (fun _ => True) w shChanges [.slice p.a p.n p.c] xs) : Calls Try.prog 28 #[.slice p.a p.n p.c, .func (.func 29) #[] #[]] w (CpPost shChanges xs w) := by
  obtain ⟨a, n, c⟩ := p
  have HX := Lib.hid h
  obtain ⟨_, _, _, hcs, hlen, hby, hsm, _⟩ := Rd.slice_part (e := shChange) h
  simp only [List.cons.injEq, Value.slice.injEq, and_true] at hcs
  obtain ⟨rfl, rfl, rfl⟩ := hcs
  have HL := Lib.hid hlen
  have HBY := Lib.hid hby
  clear h hlen hby
  go_enter Try.func28, Try.ntmps28
  go_wp2_with (fail)
  go_loopw [5, 10] (fun s5 s10 wr => ∃ (i : Nat) (q : SlL), s10 = .int .i64 i ∧ s5 = .slice q.a q.n q.c ∧ i ≤ n ∧ Hid (Below w.heap.size w wr ∧ OwnR w.heap.size wr 80 shChange (.slice q.a q.n q.c) (xs.take i))) (fun _ s10 _ => n - (intOf s10).toNat)
  case atStart => exact ⟨0, .nil, rfl, rfl, by omega, Below.refl _ _, by simpa [SlL.nil] using OwnR.nil _ _ _ _⟩
  case round =>
    obtain ⟨i, q, rfl, rfl, hi, HI⟩ := hrel
    have HB := Lib.hid HI.out.1
    have HO := Lib.hid HI.out.2
    clear HI
    have HRr := Lib.hid (HX.out.on HB.out)
    by_cases hin : i < n
    · obtain ⟨b, off, x, c0, c1, c2, c3, rfl, hlt, hget, HRX, k0, k1, k2, k3⟩ := rd_change_at16 HRr.out i hin
      obtain ⟨gone0, y0, e0, e1, e2, -, hce, hry⟩ := rd_change HRX.out
      obtain ⟨id0, vec0, tags0, a1, n1, m1, a2, n2, m2, -, hcf, -⟩ := rd_item hry
      clear hry
      simp only [List.cons.injEq, and_true] at hce hcf
      obtain ⟨rfl, rfl, rfl, rfl⟩ := hce
      obtain ⟨rfl, rfl, rfl⟩ := hcf
      have HT := Lib.hid (show xs.take (i + 1) = xs.take i ++ [x] by rw [List.take_add_one, hget]; rfl)
      clear hget
      have BA := Lib.hid (show Below wr.heap.size wr (wr.alloc (.cells #[.bool gone0, .int .u32 (id0 : Int), .slice a1 n1 m1, .slice a2 n2 m2] 80)) from (Below.refl _ _).alloc (Nat.le_refl _) _)
      have hwn := Lib.hid (show wr.heap.size < (wr.alloc (.cells #[.bool gone0, .int .u32 (id0 : Int), .slice a1 n1 m1, .slice a2 n2 m2] 80)).heap.size by simp)
      go_wp2_with (fail)
      refine (cloneC_cp _ _ _ _ _  x ((HRX.out.mono fun _ _ _ => trivial).on BA.out)).mono ?_
      rintro e w4 ⟨gn, id, ⟨pa, pn, pc⟩, ⟨qa, qn, qc⟩, rfl, hb4, ho4⟩
      have BR := Lib.hid (below_on BA.out hb4)
      have B4 := Lib.hid (below_on HB.out BR.out)
      have HO4 := Lib.hid (HO.out.on BR.out)
      have HR4 := Lib.hid (ho4.mono (ok' := fun k => w.heap.size ≤ k ∧ (Value.slice q.a q.n q.c).ownBlock ≠ some k) fun k hk _ => ⟨Nat.le_trans HB.out.size (Nat.le_trans (Nat.le_of_lt hwn.out) hk), fun e => by have := (HO.out.lt k e).2; have := hwn.out; omega⟩)
      have HLEN := Lib.hid (show (xs.take i).length = i by rw [List.length_take, HL.out]; omega)
      clear hb4 ho4 k0 k1 k2 k3 BA hwn HRr HRX HO HB
      go_wp2_with (first
        | (at_builtin; go_must (refine app_rowM (e := shChange) w4 rfl (.tmp 14) (.tmp 18) 36 rfl Try.underlying36 (.agg #[.bool false, .int .u32 0, .slice none 0 0, .slice none 0 0]) 64 chg_info16 rfl (by decide) x [.bool gn, .int .u32 (id : Int), .slice pa pn pc, .slice qa qn qc] rfl rfl HO4.out HR4.out B4.out.size (by rw [HLEN.out]; have := HBY.out; omega) (by rw [HLEN.out]; have := HBY.out; unfold maxLen; omega) ?_))
        | fail)
      intro v5 w5 ho5 hk5
      obtain ⟨q5, rfl⟩ := ho5.sl
      have HN := Lib.hid (show Below w.heap.size w w5 ∧ OwnR w.heap.size w5 80 shChange (.slice q5.a q5.n q5.c) (xs.take (i + 1)) from ⟨B4.out.trans (hk5.below (fun b hb => (HO4.out.lt b (mem_ownB.1 hb)).1) B4.out.size), by rw [HT.out]; exact ho5⟩)
      clear ho5 hk5 HO4 HR4 B4 BR HLEN HT
      go_wp2
      go_roundw
      case rel => exact ⟨i + 1, q5, by go_num, rfl, by omega, HN.out⟩
      case measure => simp [intOf]; omega
    · have hin' : i = n := by omega
      subst hin'
      have R := Lib.hid (show Rd (w.heap.size ≤ ·) wr shChanges [.slice q.a q.n q.c] xs from by
        have h1 := HO.out
        rw [List.take_of_length_le (by rw [HL.out]; exact Nat.le_refl _)] at h1
        exact h1.rd 64 (by decide) (by rw [HL.out]; exact HBY.out))
      clear HO HRr
      go_wp2
      go_ret
      exact ⟨q, rfl, HB.out, R.out⟩
end Go.Proofs.Ytdgiellnklcioaa
