/-
  CrcOwn holds: what is summed stays as it was, and a summer that has summed much sums as a new one.
-/
import Derived.Test.YtaecaanepomkdaaRows
import Derived.Test.YtaecaanepomkdaaWn
import Derived.Test.YtaecaanepomkdaaPr
import Derived.Test.YtaecaanepomkdaaVr
import Derived.Deep.RegionWith
namespace Go.Proofs.Ytaecaanepomkdaa
open Go.ChangeShapes Go.WideShapes Go.ChangeAt Go.RowKit

theorem byte_info : (Try.prog.info? 5).map (fun i => (i.zero, i.size, i.bytes)) = some (some (.int .u8 0), 1, 1) := by kernel_rfl
theorem bstr {w : World} {a : Option Addr} {n c : Nat} {bs : List Nat} {s : ByteArray} (h : BReads w a n c bs) (hs : strOfB bs = s) : (convert 23 9 (.slice a n c)).run Try.prog w = .ok (.string s) w := by
  rw [← hs]
  exact h.str 23 5 Try.underlying23 Try.underlying5 9 Try.underlying9
set_option maxRecDepth 100000 in
set_option maxHeartbeats 6400000 in
theorem own_walk (a : Option Addr) (n c : Nat) (rows : List (List Nat)) (w : World) (h : BRows w a n c rows) :
    Calls Try.prog 8 #[.slice a n c] w fun e w' => e = .returned (.bool true) ∧ Below w.heap.size w w' := by
  have HC := Lib.hid h.cells
  have hsm := h.small
  clear h
  go_enter Try.func8, Try.ntmps8
  go_wp2_with (fail)
  refine (alive5 w).mono ?_
  rintro e w1 ⟨rfl, hb1⟩
  have B1 := Lib.hid hb1
  clear hb1
  go_wp2_with (fail)
  refine (new_any5 w1).mono ?_
  rintro e w2 ⟨rfl, hs2, hb2⟩
  have S2 := Lib.hid hs2
  have B2 := Lib.hid (below_on B1.out hb2)
  have hg1 := B1.out.size
  obtain ⟨g, hgq⟩ : ∃ g, w1.heap.size = g := ⟨_, rfl⟩
  rw [hgq] at S2 hg1 ⊢
  clear hs2 hb2 hgq B1
  go_wp2_with (fail)
  go_loopw [4] (fun s4 wr => ∃ (i : Nat) (t : Bool), s4 = .int .i64 i ∧ i ≤ n ∧ i ≤ 40 ∧ Hid (SumAt wr g t) ∧ Hid (Below w.heap.size w wr)) (fun s4 _ => n - (intOf s4).toNat)
  case atStart => exact ⟨0, false, rfl, by omega, by omega, S2.out, B2.out⟩
  case round =>
    clear S2 B2
    obtain ⟨i, t, rfl, hin, hi40, HS, HB⟩ := hrel
    by_cases hc : i < n ∧ i < 40
    · obtain ⟨hc1, hc2⟩ := hc
      rcases HC.out with h0 | ⟨b, off, rfl, hlt, hcl⟩
      · omega
      obtain ⟨a', n', c', hcw, hrw⟩ := hcl i hc1
      obtain ⟨bs, hbs⟩ : ∃ bs, rows.getD i [] = bs := ⟨_, rfl⟩
      rw [hbs] at hrw
      have HW := Lib.hid (fun (w' : World) (hb : Below w.heap.size w w') => show w'.cell? ⟨b, off + i, none⟩ = some (.slice a' n' c') ∧ b < w'.heap.size from ⟨(hb.cell (p := ⟨b, off + i, none⟩) hlt).trans hcw, Nat.lt_of_lt_of_le hlt hb.size⟩)
      have HRW := Lib.hid hrw
      have HNE := Lib.hid (hrw.old hg1)
      have hnl := hrw.len
      have HNL := Lib.hid hnl
      have hnsm := hrw.small
      obtain ⟨c0, l0⟩ := HW.out wr HB.out
      clear hcl hcw hrw hbs hnl
      by_cases hbig : 2000 < n'
      · go_wp2
        go_ret
        exact ⟨rfl, HB.out⟩
      have O1 := Lib.hid (OwnV.lit wr 5 [] (by simp) (by simp))
      have D1 := Lib.hid ((Below.refl wr.heap.size wr).alloc (Nat.le_refl _) (.cells (([] : List Nat).map byteV).toArray 5))
      have R1 := Lib.hid (HRW.out.on HB.out)
      go_wp2_with (at_builtin; refine app_bytes _ rfl (.tmp 25) (.tmp 29) 23 5 rfl Try.underlying23 byte_info wr.heap.size _ [] (by rfl) O1.out _ _ _ bs (by rfl) (R1.out.alloc _) (by simp; omega) (by simp) ?_)
      intro v2 w2 hown hgr _
      have O2 := Lib.hid (show OwnV w2 wr.heap.size 5 v2 bs from hown)
      have D2 := Lib.hid (D1.out.grown hgr (by simp) (fun k hk => (O1.out.lt k hk).1))
      clear hown hgr O1 D1 R1 c0 l0
      obtain ⟨a5, c5, he5, R5, -, hb5⟩ := O2.out.reads (by rw [HNL.out]; omega)
      obtain ⟨n5, hn5⟩ : ∃ n5, bs.length = n5 := ⟨_, rfl⟩
      rw [hn5] at he5 R5
      subst he5
      have hgl := HS.out.lt
      have S2 := Lib.hid (HS.out.on D2.out)
      have B2 := Lib.hid (below_on HB.out D2.out)
      have HX5 := Lib.hid (show 0 < n5 → ∀ ad, a5 = some ad → ad.block ≠ g ∧ ad.block < w2.heap.size from by
        intro h0 ad had
        rcases R5.cells with h4 | ⟨b5, off5, hb, hlt, _⟩
        · omega
        · rw [hb] at had
          cases had
          have := hb5 b5 off5 hb
          simp only
          omega)
      have X2 := Lib.hid R5
      obtain ⟨m, hm⟩ : ∃ m, (crcMore 0#32 bs).toNat = m := ⟨_, rfl⟩
      obtain ⟨s, hs⟩ : ∃ s, strOfB bs = s := ⟨_, rfl⟩
      have HM := Lib.hid hm
      have HSS := Lib.hid hs
      clear hb5 hn5 hm hs R5 O2 D2 HS HB
      have hw2 := B2.out.size
      obtain ⟨c0, l0⟩ := HW.out w2 B2.out
      go_wp2_with (fail)
      have HXg := Lib.hid (show 0 < n5 → ∀ ad, a5 = some ad → ad.block ≠ g from fun h0 ad had => (HX5.out h0 ad had).1)
      clear c0 l0
      have BD := Lib.hid B2.out.drew
      obtain ⟨c0, l0⟩ := HW.out w2.drew BD.out
      go_region_with (first
        | (go_at_call 11; (with_reducible refine (of_at g t a' n' c' m bs _ (S2.out.on (Below.refl _ _).drew) (HRW.out.on BD.out) HNE.out HM.out).mono ?_); rintro e w3 ⟨rfl, hs3, hk3⟩; have S3 := Lib.hid hs3; have B3 := Lib.hid (below_kept BD.out hk3 hg1); have X3 := Lib.hid (X2.out.drew.kept hk3 (fun h0 ad had => by have := HXg.out h0 ad had; simpa using this)); have hz3 : w2.heap.size ≤ w3.heap.size := hk3.size; have hl3 := hs3.lt; obtain ⟨c3, l3⟩ := HW.out w3 B3.out; clear hs3 hk3)
        | (go_at_call 10; refine (new_any5 _).mono ?_; rintro e w4 ⟨rfl, hs4, hb4⟩; have S4 := Lib.hid (S3.out.on hb4); have T4 := Lib.hid hs4; have B4 := Lib.hid (below_on B3.out hb4); have X4 := Lib.hid (X3.out.on hb4); obtain ⟨c4, l4⟩ := HW.out w4 B4.out; clear hs4 hb4)
        | (go_at_call 11; (with_reducible refine (of_at w3.heap.size false a5 n5 c5 m bs w4 T4.out X4.out (fun h0 ad had => by have := (HX5.out h0 ad had).2; omega) HM.out).mono ?_); rintro e w5 ⟨rfl, hs5, hk5⟩; have S5 := Lib.hid (S4.out.kept hk5 (by simp; omega)); have B5 := Lib.hid (below_kept B4.out hk5 (by omega)); have X5 := Lib.hid (X4.out.kept hk5 (fun h0 ad had => by have := (HX5.out h0 ad had).2; simp; omega)); obtain ⟨c5', l5⟩ := HW.out w5 B5.out; have kx5 := bstr X5.out HSS.out; have kr5 := bstr (HRW.out.on B5.out) HSS.out; clear hs5 hk5)
        | (go_at_call 11; (with_reducible refine (of_at g true a5 n5 c5 m bs w5 S5.out X5.out HXg.out HM.out).mono ?_); rintro e w6 ⟨rfl, hs6, hk6⟩; have S6 := Lib.hid hs6; have B6 := Lib.hid (below_kept B5.out hk6 hg1); have X6 := Lib.hid (X5.out.kept hk6 (fun h0 ad had => by have := HXg.out h0 ad had; simpa using this)); clear hs6 hk6)
        | (go_at_call 12; refine (rof_at a5 n5 c5 m bs w6 X6.out HM.out).mono ?_; rintro e w' ⟨rfl, rfl⟩))
      all_goals
        clear c0 l0 c3 l3 c4 l4 c5' l5 kx5 kr5
        go_wp2
        go_roundw
        case rel => exact ⟨i + 1, true, by go_num, by omega, by omega, S6.out, B6.out⟩
        case measure => simp [intOf]; omega
    · have hnx : (¬ i < n) ∨ (i < n ∧ ¬ i < 40) := by omega
      clear hc
      rcases hnx with hnx | ⟨hnx, hny⟩
      all_goals
        go_wp2
        go_ret
        exact ⟨rfl, HB.out⟩

theorem own_row : Rows.CrcOwnSaid :=
  OpenClaim.holds_of_wide 8 Try.f8 rfl rfl rfl rfl rfl rfl rfl ⟨rfl, rfl, rfl, rfl, rfl⟩ rfl rfl rfl rfl rfl (by kernel_rfl) Try.func8 (by kernel_rfl)
    (of_decide_eq_true (by kernel_rfl)) (by unfold Func.isWrapper; rw [if_neg (of_decide_eq_false (by kernel_rfl))]; exact ⟨rfl, rfl⟩)
    (fun os started H enc _ => lift (C := Try.checked) (s := Rows.crcOwnSpec) (conds := Rows.crcOwnRow.domain) os started H enc prog_own (by kernel_rfl) Try.func8 prog_laid rfl Try.underlying4 rfl
      (fun ds hl => by
        have hl : ds.length = 1 := hl
        match ds, hl with
        | [_], _ => rfl)
      (of_decide_eq_true (by kernel_rfl))
      (ChangeSpec.witness6 (enc := enc) (C := Try.checked) false ⟨#[], #[.slice none 0 0], []⟩ 8 (by kernel_rfl) (by kernel_rfl) (by kernel_rfl) (by kernel_rfl))
      (fun W base args ds p g => by
        rw [Try.params8] at g
        obtain ⟨a, n, c, rows, e0, h0⟩ := g.rows 0 rfl Try.underlying35 Try.underlying23 Try.underlying5 (by kernel_rfl) (by kernel_rfl) (by kernel_rfl) (by kernel_rfl)
        rw [args1 g.count e0]
        exact own_walk a n c rows W h0))
end Go.Proofs.Ytaecaanepomkdaa
