/-
  CrcBytes holds: of bytes that differ in just one byte the sums are unlike.
-/
import Derived.Test.YtaecaanepomkdaaRows
import Derived.Test.YtaecaanepomkdaaWn
import Derived.Test.YtaecaanepomkdaaPr
namespace Go.Proofs.Ytaecaanepomkdaa
open Go.ChangeShapes Go.WideShapes Go.ChangeAt Go.RowKit

theorem byte_info : (Try.prog.info? 5).map (fun i => (i.zero, i.size, i.bytes)) = some (some (.int .u8 0), 1, 1) := by kernel_rfl
theorem xor_u8n (p d : Nat) (hp : p < 256) (hd : d < 256) : bits .xor .u8 (p : Int) (d : Int) = ((p ^^^ d : Nat) : Int) ∧ p ^^^ d < 256 := ⟨u8_xor_nat p d hp hd, Nat.xor_lt_two_pow (n := 8) hp hd⟩
set_option maxRecDepth 100000 in
set_option maxHeartbeats 3200000 in
theorem bytes_walk (a : Option Addr) (n c : Nat) (bs : List Nat) (i : Int) (d : Nat) (w : World) (h : BReads w a n c bs) (hd : d < 256) (hi1 : i ≤ 9223372036854775807) :
    Calls Try.prog 7 #[.slice a n c, .int .i64 i, .int .u8 d] w fun e w' => e = .returned (.bool true) ∧ Below w.heap.size w w' := by
  have HR := Lib.hid h
  have HL := Lib.hid h.len
  have hsm := h.small
  clear h
  by_cases h1 : i < 0
  · clear hi1
    go_enter Try.func7, Try.ntmps7
    go_wp2_with (fail)
    refine (alive5 w).mono ?_
    rintro e w1 ⟨rfl, hb1⟩
    have B1 := Lib.hid hb1
    clear hb1
    go_wp2
    go_ret
    exact ⟨rfl, B1.out⟩
  by_cases h2 : (n : Int) ≤ i
  · clear hi1
    go_enter Try.func7, Try.ntmps7
    go_wp2_with (fail)
    refine (alive5 w).mono ?_
    rintro e w1 ⟨rfl, hb1⟩
    have B1 := Lib.hid hb1
    clear hb1
    go_wp2
    go_ret
    exact ⟨rfl, B1.out⟩
  by_cases h3 : 5000 < n
  · clear hi1
    go_enter Try.func7, Try.ntmps7
    go_wp2_with (fail)
    refine (alive5 w).mono ?_
    rintro e w1 ⟨rfl, hb1⟩
    have B1 := Lib.hid hb1
    clear hb1
    go_wp2
    go_ret
    exact ⟨rfl, B1.out⟩
  by_cases h4 : d = 0
  · subst h4
    clear hi1
    go_enter Try.func7, Try.ntmps7
    go_wp2_with (fail)
    refine (alive5 w).mono ?_
    rintro e w1 ⟨rfl, hb1⟩
    have B1 := Lib.hid hb1
    clear hb1
    go_wp2
    go_ret
    exact ⟨rfl, B1.out⟩
  obtain ⟨j, rfl⟩ := Int.eq_ofNat_of_zero_le (a := i) (by omega)
  have hj : j < n := by omega
  obtain ⟨p, hp⟩ : ∃ p, byteAt bs j = p := ⟨_, rfl⟩
  have hp256 := HR.out.at_lt j
  rw [hp] at hp256
  obtain ⟨q, hq⟩ : ∃ q, p ^^^ d = q := ⟨_, rfl⟩
  obtain ⟨hxor, hq256⟩ := xor_u8n p d hp256 hd
  rw [hq] at hxor hq256
  obtain ⟨m, hm⟩ : ∃ m, (crcMore 0#32 bs).toNat = m := ⟨_, rfl⟩
  obtain ⟨m', hm'⟩ : ∃ m', (crcMore 0#32 (bs.set j q)).toNat = m' := ⟨_, rfl⟩
  have hne : m ≠ m' := by
    intro e
    have hjl : j < bs.length := by rw [HL.out]; exact hj
    have e2 : bs[j] = p := by rw [← hp]; simp [byteAt, List.getD, hjl]
    refine crc_byte bs j d hjl hd h4 ?_
    rw [e2, hq]
    exact BitVec.eq_of_toNat_eq (by rw [hm, hm', e])
  have hneb : ((m : Int) != (m' : Int)) = true := by simp; omega
  have h4b : ((d : Int) == 0) = false := by simp; omega
  have HM := Lib.hid hm
  have HM' := Lib.hid hm'
  have HP := Lib.hid hp
  clear hp hq hm hm' hne h1 h4
  go_enter Try.func7, Try.ntmps7
  go_wp2_with (fail)
  refine (alive5 w).mono ?_
  rintro e w1 ⟨rfl, hb1⟩
  have B1 := Lib.hid hb1
  clear hb1
  have R1 := Lib.hid (HR.out.on B1.out)
  have O1 := Lib.hid (OwnV.lit w1 5 [] (by simp) (by simp))
  go_wp2_with (at_builtin; refine app_bytes _ rfl (.tmp 28) (.tmp 29) 23 5 rfl Try.underlying23 byte_info w1.heap.size _ [] (by rfl) O1.out _ _ _ bs (by rfl) (R1.out.alloc _) (by simp; omega) (by simp) ?_)
  intro v2 w2 hown hgr _
  have O2 := Lib.hid (show OwnV w2 w1.heap.size 5 v2 bs from hown)
  have D2 := Lib.hid (((Below.refl w1.heap.size w1).alloc (Nat.le_refl _) _).grown hgr (by simp) (fun k hk => (O1.out.lt k hk).1))
  clear hown hgr O1
  obtain ⟨g, cap, rfl, hg1, hg2⟩ := O2.out.head (by rw [HL.out]; omega)
  rw [HL.out] at O2
  rw [HL.out]
  obtain ⟨hcell, hfro⟩ := O2.out.cellAt j (by rw [HL.out]; exact hj)
  rw [HP.out] at hcell
  go_wp2_with (fail)
  have O3 := Lib.hid (O2.out.set j q hq256)
  have D3 := Lib.hid (D2.out.setCell (p := ⟨g, j, none⟩) hg1 (.int .u8 (q : Int)))
  clear hcell hfro O2 D2
  generalize w2.setCell ⟨g, j, none⟩ (.int .u8 (q : Int)) = w3 at *
  refine (new_any5 w3).mono ?_
  rintro e w4 ⟨rfl, hs4, hb4⟩
  have S4 := Lib.hid hs4
  have B3 := Lib.hid (below_on B1.out D3.out)
  have B4 := Lib.hid (below_on B3.out hb4)
  have O4 := Lib.hid (O3.out.on hb4)
  have R4 := Lib.hid (HR.out.on B4.out)
  have HN := Lib.hid (HR.out.old B3.out.size)
  have hg := B3.out.size
  have hgl := (O3.out.lt g rfl).2
  clear hs4 hb4 O3 D3
  go_wp2_with (fail)
  refine (of_at _ false a n c m bs w4 S4.out R4.out HN.out HM.out).mono ?_
  rintro e w5 ⟨rfl, hs5, hk5⟩
  have S5 := Lib.hid hs5
  have B5 := Lib.hid (below_kept B4.out hk5 hg)
  have O5 := Lib.hid (O4.out.kept hk5 (fun k hk => by simp [Value.ownBlock] at hk; subst hk; simp; omega))
  clear hs5 hk5 S4 B4 O4 R4
  obtain ⟨a6, c6, e6, R6, -, -⟩ := O5.out.reads (by rw [List.length_set, HL.out]; omega)
  rw [List.length_set, HL.out] at e6 R6
  have R6 : Hid (BReads w5 (some ⟨g, 0, none⟩) n cap (bs.set j q)) := by
    injection e6 with e1 _ e3
    subst e1; subst e3
    exact R6
  clear e6
  go_wp2_with (fail)
  refine (of_at _ true (some ⟨g, 0, none⟩) n cap m' (bs.set j q) w5 S5.out R6.out (by intro _ ad h; cases h; simp; omega) HM'.out).mono ?_
  rintro e w6 ⟨rfl, hs6, hk6⟩
  have B6 := Lib.hid (below_kept B5.out hk6 hg)
  clear hs6 hk6
  go_wp2
  go_ret
  exact ⟨rfl, B6.out⟩

theorem bytes_row : Rows.CrcBytesSaid :=
  OpenClaim.holds_of_wide 7 Try.f7 rfl rfl rfl rfl rfl rfl rfl ⟨rfl, rfl, rfl, rfl, rfl⟩ rfl rfl rfl rfl rfl (by kernel_rfl) Try.func7 (by kernel_rfl)
    (of_decide_eq_true (by kernel_rfl)) (by unfold Func.isWrapper; rw [if_neg (of_decide_eq_false (by kernel_rfl))]; exact ⟨rfl, rfl⟩)
    (fun os started H enc _ => lift (C := Try.checked) (s := Rows.crcBytesSpec) (conds := Rows.crcBytesRow.domain) os started H enc prog_own (by kernel_rfl) Try.func7 prog_laid rfl Try.underlying4 rfl
      (fun ds hl => by
        have hl : ds.length = 3 := hl
        match ds, hl with
        | [_, _, _], _ => rfl)
      (of_decide_eq_true (by kernel_rfl))
      (ChangeSpec.witness6 (enc := enc) (C := Try.checked) false ⟨#[], #[.slice none 0 0, .int .i64 0, .int .u8 0], []⟩ 8 (by kernel_rfl) (by kernel_rfl) (by kernel_rfl) (by kernel_rfl))
      (fun W base args ds p g => by
        rw [Try.params7] at g
        obtain ⟨a, n, c, bs, e0, h0, _⟩ := g.bytes 0 rfl Try.underlying23 Try.underlying5 (by kernel_rfl) (by kernel_rfl)
        obtain ⟨i, e1, _, h1⟩ := g.i64 1 rfl Try.underlying3
        obtain ⟨d, e2, h2⟩ := g.u8 2 rfl Try.underlying5
        rw [args3 g.count e0 e1 e2]
        exact bytes_walk a n c bs i d W h0 h2 h1))
end Go.Proofs.Ytaecaanepomkdaa
