/-
  CrcBursts holds: whatever is turned within 32 bits one behind the other is seen.
-/
import Derived.Test.YtaecaanepomkdaaRows
import Derived.Test.YtaecaanepomkdaaWn
import Derived.Test.YtaecaanepomkdaaPr
namespace Go.Proofs.Ytaecaanepomkdaa
open Go.ChangeShapes Go.WideShapes Go.ChangeAt Go.RowKit

theorem bit_u32 (b i : Nat) (hb : b < 4294967296) : bits .and .u32 ((b : Int) / 2 ^ i) 1 = ((b / 2 ^ i % 2 : Nat) : Int) := by
  have hle : b / 2 ^ i ≤ b := Nat.div_le_self _ _
  have h := u32_and_nat (b / 2 ^ i) 1 (by omega) (by decide)
  rw [Nat.and_one_is_mod] at h
  refine Eq.trans ?_ h
  congr 1
theorem byte_info : (Try.prog.info? 5).map (fun i => (i.zero, i.size, i.bytes)) = some (some (.int .u8 0), 1, 1) := by kernel_rfl
set_option maxRecDepth 100000 in
set_option maxHeartbeats 6400000 in
theorem bursts_walk (a : Option Addr) (n c : Nat) (bs : List Nat) (at_ burst : Nat) (w : World) (h : BReads w a n c bs) (hat : at_ < 4294967296) (hbu : burst < 4294967296) :
    Calls Try.prog 5 #[.slice a n c, .int .u32 at_, .int .u32 burst] w fun e w' => e = .returned (.bool true) ∧ Below w.heap.size w w' := by
  have HR := Lib.hid h
  have HL := Lib.hid h.len
  have hsm := h.small
  have HBY := Lib.hid h.byte
  have HAT := Lib.hid hat
  have HBU := Lib.hid hbu
  clear h hat hbu
  by_cases h1 : n = 0
  · subst h1
    go_enter Try.func5, Try.ntmps5
    go_wp2_with (fail)
    refine (alive5 w).mono ?_
    rintro e w1 ⟨rfl, hb1⟩
    have B1 := Lib.hid hb1
    clear hb1
    go_wp2
    go_ret
    exact ⟨rfl, B1.out⟩
  by_cases h2 : 5000 < n
  · go_enter Try.func5, Try.ntmps5
    go_wp2_with (fail)
    refine (alive5 w).mono ?_
    rintro e w1 ⟨rfl, hb1⟩
    have B1 := Lib.hid hb1
    clear hb1
    go_wp2
    go_ret
    exact ⟨rfl, B1.out⟩
  by_cases h3 : burst = 0
  · subst h3
    have hnz : ((n : Int) == 0) = false := by simp; omega
    go_enter Try.func5, Try.ntmps5
    go_wp2_with (fail)
    refine (alive5 w).mono ?_
    rintro e w1 ⟨rfl, hb1⟩
    have B1 := Lib.hid hb1
    clear hb1
    go_wp2
    go_ret
    exact ⟨rfl, B1.out⟩
  have hnz : ((n : Int) == 0) = false := by simp; omega
  have hbz : ((burst : Int) == 0) = false := by simp; omega
  obtain ⟨f, hf⟩ : ∃ f, at_ % (8 * n) = f := ⟨_, rfl⟩
  have hfi : (at_ : Int) % (8 * (n : Int)) = (f : Int) := by rw [← hf]; simp
  have hf8 : f < 8 * n := by have := Nat.mod_lt at_ (show 0 < 8 * n by omega); omega
  have hw8 : IntKind.u32.wrap (8 * (n : Int)) = 8 * (n : Int) := by rw [IntKind.wrap_u32]; omega
  clear hf
  go_enter Try.func5, Try.ntmps5
  go_wp2_with (fail)
  refine (alive5 w).mono ?_
  rintro e w1 ⟨rfl, hb1⟩
  have B1 := Lib.hid hb1
  clear hb1
  have R1 := Lib.hid (HR.out.on B1.out)
  have O1 := Lib.hid (OwnV.lit w1 5 [] (by simp) (by simp))
  go_wp2_with (at_builtin; refine app_bytes _ rfl (.tmp 27) (.tmp 28) 23 5 rfl Try.underlying23 byte_info w1.heap.size _ [] (by rfl) O1.out _ _ _ bs (by rfl) (R1.out.alloc _) (by simp; omega) (by simp) ?_)
  intro v2 w2 hown hgr _
  have O2 := Lib.hid (show OwnV w2 w1.heap.size 5 v2 bs from hown)
  have D2 := Lib.hid (((Below.refl w1.heap.size w1).alloc (Nat.le_refl _) _).grown hgr (by simp) (fun k hk => (O1.out.lt k hk).1))
  clear hown hgr O1 R1
  obtain ⟨g, cap, rfl, hg1, -⟩ := O2.out.head (by rw [HL.out]; omega)
  rw [HL.out] at O2
  rw [HL.out]
  go_wp2_with (fail)
  go_loopw [8, 10] (fun s8 s10 wr => ∃ (i : Nat) (t : Bool) (l : List Nat), s10 = .int .i64 i ∧ i ≤ 32 ∧ s8 = .bool t ∧ Hid (OwnV wr w1.heap.size 5 (.slice (some ⟨g, 0, none⟩) n cap) l) ∧ Hid (Turned bs f i l t) ∧ Hid (Below w1.heap.size w1 wr)) (fun _ s10 _ => 32 - (intOf s10).toNat)
  case atStart => exact ⟨0, false, bs, rfl, by omega, rfl, O2.out, Turned.start bs f HBY.out, D2.out⟩
  case round =>
    clear O2 D2
    obtain ⟨i, t, l, rfl, hi, rfl, HO, HT, HD⟩ := hrel
    by_cases hi32 : i < 32
    · by_cases hb : burst / 2 ^ i % 2 = 1 ∧ f + i < 8 * n
      · obtain ⟨hb1, hb2⟩ := hb
        have hjn : (f + i) / 8 < n := by omega
        have hand : bits .and .u32 ((burst : Int) / 2 ^ i) 1 = 1 := by rw [bit_u32 burst i HBU.out, hb1]; rfl
        obtain ⟨hcell, hfro⟩ := HO.out.cellAt ((f + i) / 8) (by rw [HT.out.1, HL.out]; exact hjn)
        obtain ⟨p, hp⟩ : ∃ p, byteAt l ((f + i) / 8) = p := ⟨_, rfl⟩
        rw [hp] at hcell
        obtain ⟨j, hj⟩ : ∃ j, (f + i) / 8 = j := ⟨_, rfl⟩
        rw [hj] at hcell hfro
        have HP := Lib.hid hp
        have HJ := Lib.hid hj
        have hp256 : p < 256 := by
          rw [← hp]
          exact HT.out.2.1 _ (by
            have hl : (f + i) / 8 < l.length := by rw [HT.out.1, HL.out]; exact hjn
            have e : byteAt l ((f + i) / 8) = l[(f + i) / 8] := by simp [byteAt, List.getD, hl]
            rw [e]
            exact List.getElem_mem hl)
        obtain ⟨q, hq⟩ : ∃ q, p ^^^ 2 ^ ((f + i) % 8) = q := ⟨_, rfl⟩
        have hpow : 2 ^ ((f + i) % 8) < 256 := Nat.pow_lt_pow_right (a := 2) (by decide) (Nat.mod_lt _ (by decide : 0 < 8))
        have hq256 : q < 256 := by rw [← hq]; exact Nat.xor_lt_two_pow (n := 8) hp256 hpow
        have hxor : bits .xor .u8 (p : Int) ((2 : Int) ^ ((f + i) % 8) % 256) = (q : Int) := by
          obtain ⟨u, hu⟩ : ∃ u, 2 ^ ((f + i) % 8) = u := ⟨_, rfl⟩
          have e : (2 : Int) ^ ((f + i) % 8) = (u : Int) := by rw [← hu]; simp
          rw [hu] at hpow hq
          have e2 : (u : Int) % 256 = (u : Int) := by omega
          rw [e, e2, u8_xor_nat p u hp256 hpow, hq]
        have HN := Lib.hid (show Turned bs f (i + 1) (l.set j q) true from by
          have := HT.out.turn hi32 (by rw [HL.out]; exact hb2) p hp
          rw [hj, hq] at this
          exact this)
        have hjI : ((f : Int) + (i : Int)) / 8 = (j : Int) := by omega
        have hjn' : (j : Int) < n := by omega
        have hglt := (HO.out.lt g rfl).2
        clear hp hj hq hpow
        go_wp2
        go_roundw
        case rel => exact ⟨i + 1, true, l.set j q, by go_num, by omega, rfl, HO.out.set j q hq256, HN.out, HD.out.setCell (p := ⟨g, j, none⟩) hg1 _⟩
        case measure => simp [intOf]; omega
      · have hbb : (burst / 2 ^ i % 2 = 1 ∧ ¬ f + i < 8 * n) ∨ burst / 2 ^ i % 2 = 0 := by omega
        rcases hbb with ⟨hb1, hb2⟩ | hb1
        · have hand : bits .and .u32 ((burst : Int) / 2 ^ i) 1 = 1 := by rw [bit_u32 burst i HBU.out, hb1]; rfl
          clear hb
          go_wp2
          go_roundw
          case rel => exact ⟨i + 1, t, l, by go_num, by omega, rfl, HO.out, HT.out.next, HD.out⟩
          case measure => simp [intOf]; omega
        · have hand : bits .and .u32 ((burst : Int) / 2 ^ i) 1 = 0 := by rw [bit_u32 burst i HBU.out, hb1]; rfl
          clear hb
          go_wp2
          go_roundw
          case rel => exact ⟨i + 1, t, l, by go_num, by omega, rfl, HO.out, HT.out.next, HD.out⟩
          case measure => simp [intOf]; omega
    · obtain ⟨m, hm⟩ : ∃ m, (crcMore 0#32 bs).toNat = m := ⟨_, rfl⟩
      obtain ⟨m', hm'⟩ : ∃ m', (crcMore 0#32 l).toNat = m' := ⟨_, rfl⟩
      have hseen : ((m : Int) != (m' : Int)) = t := by
        have hs := HT.out.seen
        cases t
        · have : ¬ crcMore 0#32 bs ≠ crcMore 0#32 l := fun h => by have := hs.1 h; cases this
          have e : crcMore 0#32 bs = crcMore 0#32 l := Decidable.not_not.1 this
          rw [← hm, ← hm', e]
          simp
        · have hne := hs.2 rfl
          have : m ≠ m' := fun e => hne (BitVec.eq_of_toNat_eq (by rw [hm, hm', e]))
          simp
          omega
      have HM := Lib.hid hm
      have HM' := Lib.hid hm'
      have HLL := Lib.hid (show l.length = n from by rw [HT.out.1, HL.out])
      have hgl := (HO.out.lt g rfl).2
      have B3 := Lib.hid (below_on B1.out HD.out)
      clear hm hm' HT
      go_wp2_with (fail)
      refine (new_any5 wr).mono ?_
      rintro e w4 ⟨rfl, hs4, hb4⟩
      have S4 := Lib.hid hs4
      have B4 := Lib.hid (below_on B3.out hb4)
      have O4 := Lib.hid (HO.out.on hb4)
      have R4 := Lib.hid (HR.out.on B4.out)
      have HN := Lib.hid (HR.out.old B3.out.size)
      have hg := B3.out.size
      clear hs4 hb4 HO HD
      go_wp2_with (fail)
      refine (of_at _ false a n c m bs w4 S4.out R4.out HN.out HM.out).mono ?_
      rintro e w5 ⟨rfl, hs5, hk5⟩
      have S5 := Lib.hid hs5
      have B5 := Lib.hid (below_kept B4.out hk5 hg)
      have O5 := Lib.hid (O4.out.kept hk5 (fun k hk => by simp [Value.ownBlock] at hk; subst hk; simp; omega))
      clear hs5 hk5 S4 B4 O4 R4
      obtain ⟨a6, c6, e6, R6, -, -⟩ := O5.out.reads (by rw [HLL.out]; omega)
      rw [HLL.out] at e6 R6
      have R6 : Hid (BReads w5 (some ⟨g, 0, none⟩) n cap l) := by
        injection e6 with e1 _ e3
        subst e1; subst e3
        exact R6
      clear e6
      go_wp2_with (fail)
      refine (of_at _ true (some ⟨g, 0, none⟩) n cap m' l w5 S5.out R6.out (by intro _ ad h; cases h; simp; omega) HM'.out).mono ?_
      rintro e w6 ⟨rfl, hs6, hk6⟩
      have B6 := Lib.hid (below_kept B5.out hk6 hg)
      clear hs6 hk6
      go_wp2
      go_ret
      exact ⟨rfl, B6.out⟩

theorem bursts_row : Rows.CrcBurstsSaid :=
  OpenClaim.holds_of_wide 5 Try.f5 rfl rfl rfl rfl rfl rfl rfl ⟨rfl, rfl, rfl, rfl, rfl⟩ rfl rfl rfl rfl rfl (by kernel_rfl) Try.func5 (by kernel_rfl)
    (of_decide_eq_true (by kernel_rfl)) (by unfold Func.isWrapper; rw [if_neg (of_decide_eq_false (by kernel_rfl))]; exact ⟨rfl, rfl⟩)
    (fun os started H enc _ => lift (C := Try.checked) (s := Rows.crcBurstsSpec) (conds := Rows.crcBurstsRow.domain) os started H enc prog_own (by kernel_rfl) Try.func5 prog_laid rfl Try.underlying4 rfl
      (fun ds hl => by
        have hl : ds.length = 3 := hl
        match ds, hl with
        | [_, _, _], _ => rfl)
      (of_decide_eq_true (by kernel_rfl))
      (ChangeSpec.witness6 (enc := enc) (C := Try.checked) false ⟨#[], #[.slice none 0 0, .int .u32 0, .int .u32 0], []⟩ 8 (by kernel_rfl) (by kernel_rfl) (by kernel_rfl) (by kernel_rfl))
      (fun W base args ds p g => by
        rw [Try.params5] at g
        obtain ⟨a, n, c, bs, e0, h0, _⟩ := g.bytes 0 rfl Try.underlying23 Try.underlying5 (by kernel_rfl) (by kernel_rfl)
        obtain ⟨k, e1, h1⟩ := g.u32 1 rfl Try.underlying22
        obtain ⟨b, e2, h2⟩ := g.u32 2 rfl Try.underlying22
        rw [args3 g.count e0 e1 e2]
        exact bursts_walk a n c bs k b W h0 h1 h2))
end Go.Proofs.Ytaecaanepomkdaa
