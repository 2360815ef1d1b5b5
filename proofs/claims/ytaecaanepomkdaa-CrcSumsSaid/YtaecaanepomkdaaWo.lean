/-
  CrcSums holds: for every slice of bytes, and for every sum that goes ahead of them, the sum is the document's.
-/
import Derived.Test.YtaecaanepomkdaaRows
import Derived.Test.YtaecaanepomkdaaWn
import Derived.Test.YtaecaanepomkdaaPr
namespace Go.Proofs.Ytaecaanepomkdaa
open Go.ChangeShapes Go.WideShapes Go.ChangeAt Go.RowKit

set_option maxRecDepth 100000 in
set_option maxHeartbeats 3200000 in
theorem sums_walk (k : Nat) (a : Option Addr) (n c : Nat) (bs : List Nat) (w : World) (hk : k < 4294967296) (h : BReads w a n c bs) :
    Calls Try.prog 3 #[.int .u32 k, .slice a n c] w fun e w' => e = .returned (.bool true) ∧ Below w.heap.size w w' := by
  have hx : (BitVec.ofNat 32 k).toNat = k := by simp; omega
  obtain ⟨x, hxe⟩ : ∃ x, BitVec.ofNat 32 k = x := ⟨_, rfl⟩
  rw [hxe] at hx
  obtain ⟨m, hm⟩ : ∃ m, (crcMore 0#32 bs).toNat = m := ⟨_, rfl⟩
  obtain ⟨q, hq⟩ : ∃ q, (crcMore x bs).toNat = q := ⟨_, rfl⟩
  have HX := Lib.hid hx
  have HM := Lib.hid hm
  have HQ := Lib.hid hq
  have HR := Lib.hid h
  have hsm := h.small
  clear hx hxe hm hq hk h
  by_cases hc : 20000 < n
  · go_enter Try.func3, Try.ntmps3
    go_wp2_with (fail)
    refine (alive5 w).mono ?_
    rintro e w1 ⟨rfl, hb1⟩
    have B1 := Lib.hid hb1
    clear hb1
    go_wp2
    go_ret
    exact ⟨rfl, B1.out⟩
  go_enter Try.func3, Try.ntmps3
  go_wp2_with (fail)
  refine (alive5 w).mono ?_
  rintro e w1 ⟨rfl, hb1⟩
  have B1 := Lib.hid hb1
  clear hb1
  go_wp2_with (fail)
  refine (new_any5 w1).mono ?_
  rintro e w2 ⟨rfl, hs2, hb2⟩
  have S2 := Lib.hid hs2
  have B2 := Lib.hid (below_on B1.out hb2)
  have R2 := Lib.hid (HR.out.on B2.out)
  have HN := Lib.hid (HR.out.old B1.out.size)
  have hg := B1.out.size
  clear hs2 hb2
  go_wp2_with (fail)
  refine (of_at _ false a n c m bs w2 S2.out R2.out HN.out HM.out).mono ?_
  rintro e w3 ⟨rfl, hs3, hk3⟩
  have S3 := Lib.hid hs3
  have B3 := Lib.hid (below_kept B2.out hk3 hg)
  have R3 := Lib.hid (HR.out.on B3.out)
  clear hs3 hk3 S2 B2 R2
  go_wp2_with (fail)
  refine (rof_at a n c m bs w3 R3.out HM.out).mono ?_
  rintro e w' ⟨rfl, rfl⟩
  go_wp2_with (fail)
  refine (more_at _ true x a k n c q bs w3 S3.out R3.out HN.out HX.out HQ.out).mono ?_
  rintro e w4 ⟨rfl, hs4, hk4⟩
  have B4 := Lib.hid (below_kept B3.out hk4 hg)
  have R4 := Lib.hid (HR.out.on B4.out)
  clear hs4 hk4 S3 B3 R3
  go_wp2_with (fail)
  refine (rmore_at x a k n c q bs w4 R4.out HX.out HQ.out).mono ?_
  rintro e w' ⟨rfl, rfl⟩
  go_wp2
  go_ret
  exact ⟨rfl, B4.out⟩

theorem sums_row : Rows.CrcSumsSaid :=
  OpenClaim.holds_of_wide 3 Try.f3 rfl rfl rfl rfl rfl rfl rfl ⟨rfl, rfl, rfl, rfl, rfl⟩ rfl rfl rfl rfl rfl (by kernel_rfl) Try.func3 (by kernel_rfl)
    (of_decide_eq_true (by kernel_rfl)) (by unfold Func.isWrapper; rw [if_neg (of_decide_eq_false (by kernel_rfl))]; exact ⟨rfl, rfl⟩)
    (fun os started H enc _ => lift (C := Try.checked) (s := Rows.crcSumsSpec) (conds := Rows.crcSumsRow.domain) os started H enc prog_own (by kernel_rfl) Try.func3 prog_laid rfl Try.underlying4 rfl
      (fun ds hl => by
        have hl : ds.length = 2 := hl
        match ds, hl with
        | [_, _], _ => rfl)
      (of_decide_eq_true (by kernel_rfl))
      (ChangeSpec.witness6 (enc := enc) (C := Try.checked) false ⟨#[], #[.int .u32 0, .slice none 0 0], []⟩ 8 (by kernel_rfl) (by kernel_rfl) (by kernel_rfl) (by kernel_rfl))
      (fun W base args ds p g => by
        rw [Try.params3] at g
        obtain ⟨k, e0, h0⟩ := g.u32 0 rfl Try.underlying22
        obtain ⟨a, n, c, bs, e1, h1, _⟩ := g.bytes 1 rfl Try.underlying23 Try.underlying5 (by kernel_rfl) (by kernel_rfl)
        rw [args2 g.count e0 e1]
        exact sums_walk k a n c bs W h0 h1))
end Go.Proofs.Ytaecaanepomkdaa
