/-
  CrcMore holds: the sum of bytes goes on behind others as that of all.
-/
import Derived.Test.YtaecaanepomkdaaRows
import Derived.Test.YtaecaanepomkdaaWn
import Derived.Test.YtaecaanepomkdaaPr
namespace Go.Proofs.Ytaecaanepomkdaa
open Go.ChangeShapes Go.WideShapes Go.ChangeAt Go.RowKit

theorem byte_info : (Try.prog.info? 5).map (fun i => (i.zero, i.size, i.bytes)) = some (some (.int .u8 0), 1, 1) := by kernel_rfl
set_option maxRecDepth 100000 in
set_option maxHeartbeats 3200000 in
theorem more_walk (a a' : Option Addr) (n n' c c' : Nat) (bs ds : List Nat) (w : World) (h : BReads w a n c bs) (h' : BReads w a' n' c' ds) :
    Calls Try.prog 4 #[.slice a n c, .slice a' n' c'] w fun e w' => e = .returned (.bool true) ∧ Below w.heap.size w w' := by
  obtain ⟨m, hm⟩ : ∃ m, (crcMore 0#32 bs).toNat = m := ⟨_, rfl⟩
  obtain ⟨q, hq⟩ : ∃ q, (crcMore 0#32 (bs ++ ds)).toNat = q := ⟨_, rfl⟩
  have HQ' := Lib.hid (show (crcMore (crcMore 0#32 bs) ds).toNat = q by rw [crcMore_more]; exact hq)
  have HM := Lib.hid hm
  have HQ := Lib.hid hq
  have HR := Lib.hid h
  have HR' := Lib.hid h'
  have HL := Lib.hid h.len
  have HL' := Lib.hid h'.len
  have hsm := h.small
  have hsm' := h'.small
  clear hm hq h h'
  by_cases hc : 20000 < n
  · go_enter Try.func4, Try.ntmps4
    go_wp2_with (fail)
    refine (alive5 w).mono ?_
    rintro e w1 ⟨rfl, hb1⟩
    have B1 := Lib.hid hb1
    clear hb1
    go_wp2
    go_ret
    exact ⟨rfl, B1.out⟩
  by_cases hc' : 20000 < n'
  · go_enter Try.func4, Try.ntmps4
    go_wp2_with (fail)
    refine (alive5 w).mono ?_
    rintro e w1 ⟨rfl, hb1⟩
    have B1 := Lib.hid hb1
    clear hb1
    go_wp2
    go_ret
    exact ⟨rfl, B1.out⟩
  go_enter Try.func4, Try.ntmps4
  go_wp2_with (fail)
  refine (alive5 w).mono ?_
  rintro e w1 ⟨rfl, hb1⟩
  have B1 := Lib.hid hb1
  clear hb1
  go_wp2_with (fail)
  refine (new_any5 w1).mono ?_
  rintro e w2 ⟨rfl, hs2, hb2⟩
  have S2 := Lib.hid hs2
  have B2 := Lib.hid (below_on B1.out hb2)
  have R2 := Lib.hid (HR.out.on B2.out)
  have HN := Lib.hid (HR.out.old B1.out.size)
  have HN' := Lib.hid (HR'.out.old B1.out.size)
  have hg := B1.out.size
  clear hs2 hb2
  go_wp2_with (fail)
  refine (of_at _ false a n c m bs w2 S2.out R2.out HN.out HM.out).mono ?_
  rintro e w3 ⟨rfl, hs3, hk3⟩
  have S3 := Lib.hid hs3
  have B3 := Lib.hid (below_kept B2.out hk3 hg)
  have R3 := Lib.hid (HR'.out.on B3.out)
  clear hs3 hk3 S2 B2 R2
  go_wp2_with (fail)
  refine (more_at _ true (crcMore 0#32 bs) a' m n' c' q ds w3 S3.out R3.out HN'.out HM.out HQ'.out).mono ?_
  rintro e w4 ⟨rfl, hs4, hk4⟩
  have S4 := Lib.hid hs4
  have B4 := Lib.hid (below_kept B3.out hk4 hg)
  have R4 := Lib.hid (HR.out.on B4.out)
  have R4' := Lib.hid (HR'.out.on B4.out)
  clear hs4 hk4 S3 B3 R3
  have O4 := Lib.hid (OwnV.lit w4 5 [] (by simp) (by simp))
  have hgl := S4.out.lt
  go_wp2_with (at_builtin; refine app_bytes _ rfl (.tmp 24) (.tmp 25) 23 5 rfl Try.underlying23 byte_info w4.heap.size _ [] (by rfl) O4.out _ _ _ bs (by rfl) (R4.out.alloc _) (by simp; omega) (by simp) ?_)
  intro v5 w5 hown hgr _
  have O5 := Lib.hid (show OwnV w5 w4.heap.size 5 v5 bs from hown)
  have D5 := Lib.hid (((Below.refl w4.heap.size w4).alloc (Nat.le_refl _) _).grown hgr (by simp) (fun k hk => (O4.out.lt k hk).1))
  have R5' := Lib.hid (R4'.out.on D5.out)
  have hs5 := D5.out.size
  clear hown hgr O4 R4
  go_wp2_with (at_builtin; refine app_bytes _ rfl (.tmp 26) (.tmp 27) 23 5 rfl Try.underlying23 byte_info w4.heap.size _ bs (by rfl) O5.out _ _ _ ds (by rfl) R5'.out (by rw [HL.out]; omega) hs5 ?_)
  intro v6 w6 hown hgr _
  have O6 := Lib.hid hown
  have D6 := Lib.hid (D5.out.grown hgr hs5 (fun k hk => (O5.out.lt k hk).1))
  clear hown hgr O5 D5 R5' hs5
  obtain ⟨v, hv⟩ : ∃ v, v6 = v := ⟨_, rfl⟩
  obtain ⟨a6, c6, e6, R6, -, hb6⟩ := O6.out.reads (by rw [List.length_append, HL.out, HL'.out]; omega)
  obtain ⟨m6, hm6⟩ : ∃ m6, (bs ++ ds).length = m6 := ⟨_, rfl⟩
  rw [hm6] at e6 R6
  subst e6
  have R6 := Lib.hid R6
  have S6 := Lib.hid (S4.out.on D6.out)
  have B6 := Lib.hid (below_on B4.out D6.out)
  have HN6 := Lib.hid (show 0 < m6 → ∀ ad, a6 = some ad → ad.block ≠ w1.heap.size from by
    intro h0 ad had
    rcases R6.out.cells with h4 | ⟨b, off, hb, hlt, _⟩
    · omega
    · rw [hb] at had
      cases had
      have := hb6 b off hb
      simp only
      omega)
  clear hv hb6 hm6 O6 D6 S4 B4 R4' hgl
  go_wp2_with (fail)
  refine (of_at _ true a6 m6 c6 q (bs ++ ds) w6 S6.out R6.out HN6.out HQ.out).mono ?_
  rintro e w7 ⟨rfl, hs7, hk7⟩
  have B7 := Lib.hid (below_kept B6.out hk7 hg)
  clear hs7 hk7
  go_wp2
  go_ret
  exact ⟨rfl, B7.out⟩

theorem more_row : Rows.CrcMoreSaid :=
  OpenClaim.holds_of_wide 4 Try.f4 rfl rfl rfl rfl rfl rfl rfl ⟨rfl, rfl, rfl, rfl, rfl⟩ rfl rfl rfl rfl rfl (by kernel_rfl) Try.func4 (by kernel_rfl)
    (of_decide_eq_true (by kernel_rfl)) (by unfold Func.isWrapper; rw [if_neg (of_decide_eq_false (by kernel_rfl))]; exact ⟨rfl, rfl⟩)
    (fun os started H enc _ => lift (C := Try.checked) (s := Rows.crcMoreSpec) (conds := Rows.crcMoreRow.domain) os started H enc prog_own (by kernel_rfl) Try.func4 prog_laid rfl Try.underlying4 rfl
      (fun ds hl => by
        have hl : ds.length = 2 := hl
        match ds, hl with
        | [_, _], _ => rfl)
      (of_decide_eq_true (by kernel_rfl))
      (ChangeSpec.witness6 (enc := enc) (C := Try.checked) false ⟨#[], #[.slice none 0 0, .slice none 0 0], []⟩ 8 (by kernel_rfl) (by kernel_rfl) (by kernel_rfl) (by kernel_rfl))
      (fun W base args ds p g => by
        rw [Try.params4] at g
        obtain ⟨a, n, c, bs, e0, h0, _⟩ := g.bytes 0 rfl Try.underlying23 Try.underlying5 (by kernel_rfl) (by kernel_rfl)
        obtain ⟨a', n', c', ds', e1, h1, _⟩ := g.bytes 1 rfl Try.underlying23 Try.underlying5 (by kernel_rfl) (by kernel_rfl)
        rw [args2 g.count e0 e1]
        exact more_walk a a' n n' c c' bs ds' W h0 h1))
end Go.Proofs.Ytaecaanepomkdaa
