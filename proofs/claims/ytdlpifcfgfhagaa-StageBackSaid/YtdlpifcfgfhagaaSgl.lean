/-
  StageBack holds: changes that are written, cut in whatever pieces, and committed, are these changes, if they have room.
-/
import Derived.Test.YtdlpifcfgfhagaaRows
import Derived.Test.YtdlpifcfgfhagaaSgh
import Derived.Test.YtdlpifcfgfhagaaSoC
import Derived.Test.YtdlpifcfgfhagaaSvC
import Derived.Test.YtdlpifcfgfhagaaVt
namespace Go.Proofs.Ytdlpifcfgfhagaa
open Go.ChangeShapes Go.WideShapes Go.ChangeAt Go.RowKit

theorem readC_backS (l : List ChangeV) (h : (cMany cChange).fits l) : readC ((cMany cChange).enc l) = .inl l := by
  have := (cMany cChange).back l [] h
  rw [List.append_nil] at this
  unfold readC
  rw [this]
  rfl
theorem cChanges_lenS (l : List ChangeV) (h : (cMany cChange).fits l) : ((cMany cChange).enc l).length ≤ 1000000000 := by
  obtain ⟨h1, h2⟩ := (cMany_fits cChange l).1 h
  have h3 := vput_len10 (n := l.length) (by omega)
  have h4 := encN_len cChange l 800000 (fun c hc => cChange_len c (h2 c hc))
  have h5 : l.length * 800000 ≤ 128 * 800000 := Nat.mul_le_mul_right _ h1
  rw [cMany_enc, List.length_append]
  omega
def oneU (owner : Nat) (b : List Nat) (page : Nat) : TabV := ⟨[⟨1, owner, ⟨#[97]⟩, b, page⟩], 1⟩
theorem oneU_own (owner : Nat) (b : List Nat) (page : Nat) : (oneU owner b page).own owner 1 = some ⟨1, owner, ⟨#[97]⟩, b, page⟩ := by
  show List.find? (fun u : UpV => u.is owner 1) [⟨1, owner, ⟨#[97]⟩, b, page⟩] = _
  unfold List.find?
  rw [show UpV.is ⟨1, owner, ⟨#[97]⟩, b, page⟩ owner 1 = true from decide_eq_true ⟨rfl, rfl⟩]
theorem oneU_full (owner : Nat) (b xs : List Nat) (page : Nat) (h : 4096 < b.length + xs.length) : (oneU owner b page).chunkE owner 1 (page + 1) xs = 4 := by
  unfold TabV.chunkE
  rw [oneU_own]
  simp only
  rw [if_neg (fun hh => hh rfl), if_pos h]
theorem oneU_ok (owner : Nat) (b xs : List Nat) (page : Nat) (h : b.length + xs.length ≤ 4096) : (oneU owner b page).chunkE owner 1 (page + 1) xs = 0 ∧ (oneU owner b page).chunk owner 1 (page + 1) xs = oneU owner (b ++ xs) (page + 1) := by
  have h1 : (oneU owner b page).chunkE owner 1 (page + 1) xs = 0 := by
    unfold TabV.chunkE
    rw [oneU_own]
    simp only
    rw [if_neg (fun hh => hh rfl), if_neg (by omega)]
  refine ⟨h1, ?_⟩
  unfold TabV.chunk
  rw [if_pos h1]
  rfl
theorem oneU_cut (owner : Nat) (b : List Nat) (page : Nat) : (oneU owner b page).cut 1 = ⟨[], 1⟩ := by
  unfold TabV.cut oneU
  simp
/-- A cut at a place. -/
theorem read_u16 {w : World} {a : Option Addr} {n : Nat} {xs : List Int} (h : Reads .u16 w a n xs) (i : Nat) (hi : i < n) : ∃ b off q : Nat, a = some ⟨b, off, none⟩ ∧ b < w.heap.size ∧ w.cell? ⟨b, off + i, none⟩ = some (.int .u16 (q : Int)) ∧ q < 65536 := by
  rcases h.cells with h0 | ⟨b, off, ha, hlt, hc⟩
  · omega
  · have hil : i < xs.length := by rw [h.len]; exact hi
    have hw := u16_wf (h.wf xs[i] (List.getElem_mem hil))
    obtain ⟨q, hq⟩ := Int.eq_ofNat_of_zero_le (a := xs[i]) (by omega)
    refine ⟨b, off, q, ha, hlt, ?_, by omega⟩
    rw [hc i hi]
    simp [List.getD, hil, hq]
set_option maxRecDepth 100000 in
theorem fit_changes13 : (shChanges.fit Try.prog).1 45 = true := by kernel_rfl
set_option maxRecDepth 100000 in
set_option maxHeartbeats 12800000 in
theorem back_walk (a : Option Addr) (n c : Nat) (xs : List shChange.T) (ca : Option Addr) (cn cc : Nat) (cs : List Int) (owner : Nat) (w : World) (hx : Rd (· < w.heap.size) w shChanges [.slice a n c] xs) (hc : Reads .u16 w ca cn cs) (ho : owner < 18446744073709551616) :
    Calls Try.prog 4 #[.slice a n c, .slice ca cn cc, .int .u64 (owner : Int)] w fun e w' => e = .returned (.bool true) ∧ Below w.heap.size w w' := by
  have HX := Lib.hid hx
  have HC := Lib.hid hc
  have hcn := hc.small
  obtain ⟨_, _, _, hcs, -, hsm, _⟩ := Rd.slice_is (e := shChange) hx
  simp only [List.cons.injEq, Value.slice.injEq, and_true] at hcs
  obtain ⟨rfl, rfl, rfl⟩ := hcs
  clear hx hc
  go_enter Try.func4, Try.ntmps4
  go_wp2_with (fail)
  refine (alive13 w).mono ?_
  rintro e w1 ⟨rfl, hb⟩
  have B1 := Lib.hid hb
  clear hb
  go_wp2_with (fail)
  refine (greatChanges a n c xs w1 (HX.out.stay B1.out.size (fun k hk _ => B1.out.block k hk) (fun _ h _ => h))).mono ?_
  rintro e w2 ⟨⟨g, rfl⟩, rfl⟩
  cases g
  rotate_left
  · go_wp2
    go_ret
    exact ⟨rfl, B1.out⟩
  by_cases h4 : 400 < n
  · have h4' : decide ((400 : Int) < (n : Int)) = true := decide_eq_true (by omega)
    go_wp2
    go_ret
    exact ⟨rfl, B1.out⟩
  have h4' : decide ((400 : Int) < (n : Int)) = false := decide_eq_false (by omega)
  have X1 := Lib.hid (show Rd (· < w2.heap.size) w2 shChanges [.slice a n c] xs from (HX.out.stay B1.out.size (fun k hk _ => B1.out.block k hk) (fun k hk _ => Nat.lt_of_lt_of_le hk B1.out.size)))
  go_wp2_with (fail)
  refine (mputc_any a n c xs w2 X1.out).mono ?_
  rintro e w3 ⟨hb3, hpost⟩
  have B3 := Lib.hid (below_on B1.out hb3)
  have X3 := Lib.hid (show Rd (· < w3.heap.size) w3 shChanges [.slice a n c] xs from X1.out.stay hb3.size (fun k hk _ => hb3.block k hk) (fun k hk _ => Nat.lt_of_lt_of_le hk hb3.size))
  have C3 := Lib.hid (HC.out.below (Nat.le_refl _) B3.out)
  clear hb3 X1 B1 HX HC
  rcases hpost with ⟨hf, v, rfl, hown⟩ | ⟨hf, rfl⟩
  rotate_left
  · go_wp2
    go_ret
    exact ⟨rfl, B3.out⟩
  obtain ⟨bs, hbs⟩ : ∃ bs, (cMany cChange).enc (xs.map toChange) = bs := ⟨_, rfl⟩
  have hel := cChanges_lenS _ hf
  have RB := Lib.hid (readC_backS _ hf)
  rw [hbs] at hown hel RB
  obtain ⟨va, vc, rfl, hvr, _⟩ := hown.reads (by omega)
  obtain ⟨L, hL⟩ : ∃ L, bs.length = L := ⟨_, rfl⟩
  rw [hL] at hvr hel ⊢
  have VR := Lib.hid hvr
  have HL := Lib.hid hL
  clear hown hvr hL hbs hf
  go_wp2_with (fail)
  refine (s_new w3 w3 (Below.refl _ _)).mono ?_
  rintro e w4 ⟨x, rfl, h4⟩
  have H4 := Lib.hid h4
  clear h4
  go_wp2_with (fail)
  refine (s_begin H4.out (by decide) owner ho ⟨#[97]⟩).mono ?_
  rintro e w5 (⟨hl, -, -⟩ | ⟨-, rfl, h5⟩)
  · exact absurd hl (by decide)
  have H5 := Lib.hid (show SAt w3 1 x (oneU owner [] 0) w5 from h5)
  clear h5 H4
  rw [show (({ ups := [], last := 0 } : TabV).last + 1) = 1 from rfl]
  go_wp2_with (fail)
  go_loopw [7, 12, 14] (fun s7 s12 s14 wr => ∃ (i m mc d : Nat) (av : Option Addr), s7 = .slice av m mc ∧ s12 = .int .u32 (i : Int) ∧ s14 = .int .i64 (i : Int) ∧ i ≤ 61 ∧ m ≤ L ∧ Hid (61 ≤ i → m = 0) ∧ Hid (BReads w3 av m mc (bs.drop d) ∧ d + m = L ∧ SAt w3 (i + 1) x (oneU owner (bs.take d) i) wr)) (fun _ _ s14 _ => 62 - (intOf s14).toNat)
  case atStart => exact ⟨0, L, vc, 0, va, rfl, rfl, rfl, by omega, Nat.le_refl _, Lib.hid (fun h => by omega), Lib.hid ⟨VR.out, by omega, H5.out⟩⟩
  case round =>
    clear H5 VR
    obtain ⟨i, m, mc, d, av, rfl, rfl, rfl, hi, hmL, HE, HS⟩ := hrel
    by_cases hm0 : m = 0
    · have HT := Lib.hid (show SAt w3 (i + 1) x (oneU owner bs i) wr from by
        have h1 := HS.out.2.2
        rw [List.take_of_length_le (by have := HS.out.2.1; have := HL.out; omega)] at h1
        exact h1)
      subst hm0
      clear HS HE
      go_wp2_with (fail)
      refine (s_commit HT.out owner 1 (by decide)).mono ?_
      rintro e w6 (⟨ho, -, -⟩ | ⟨u, ho, hc, h6⟩)
      · exact absurd ho (by rw [oneU_own]; simp)
      rw [oneU_own] at ho
      obtain rfl := Option.some.inj ho
      rw [oneU_cut] at h6
      have H6 := Lib.hid h6
      rcases hc with ⟨p, ys, h1, rfl, hr⟩ | ⟨er, h1, -, -⟩
      rotate_left
      · have h2 := RB.out.symm.trans h1
        cases h2
      have HEQ := Lib.hid (show xs.map toChange = ys.map toChange from Sum.inl.inj (RB.out.symm.trans h1))
      have X6 := Lib.hid (X3.out.on H6.out.below)
      have Y6 := Lib.hid hr
      clear h6 h1 hr ho HT
      go_wp2_with (fail)
      refine (sameChanges a p.a n p.n c p.c xs ys w6 X6.out Y6.out).mono ?_
      rintro e w7 ⟨z, rfl, hz, hb7⟩
      obtain rfl : z = true := hz.2 HEQ.out
      have H7 := Lib.hid (H6.out.on hb7)
      clear hz hb7 H6 X6 Y6
      go_wp2_with (fail)
      refine (s_len H7.out).mono ?_
      rw [show (({ ups := [], last := 1 } : TabV).ups).length = 0 from rfl]
      rintro e w8 ⟨rfl, rfl⟩
      have BF := Lib.hid (below_on B3.out H7.out.below)
      go_wp2
      go_ret
      exact ⟨rfl, BF.out⟩
    have hm1 : (0 : Int) < (m : Int) := by omega
    have hi60 : i ≤ 60 := by
      have := HE.out
      omega
    have hpw : IntKind.u32.wrap ((i : Int) + 1) = ((i + 1 : Nat) : Int) := by rw [IntKind.wrap_u32]; omega
    have hiL : (L : Int) ≤ 1000000000 := by omega
    by_cases hin : i < cn
    · by_cases hi6 : i < 60
      · have hd1 : decide ((i : Int) < 60) = true := decide_eq_true (by omega)
        obtain ⟨cb, coff, q, rfl, hcl, hcc, hq⟩ := read_u16 C3.out i hin
        have c0 : wr.cell? ⟨cb, coff + i, none⟩ = some (.int .u16 (q : Int)) := (HS.out.2.2.below.cell (p := ⟨cb, coff + i, none⟩) hcl).trans hcc
        have hqw : IntKind.i64.wrap (q : Int) = (q : Int) := by rw [IntKind.wrap_i64]; omega
        have hmw : IntKind.i64.wrap ((m : Int) + 1) = ((m + 1 : Nat) : Int) := by rw [IntKind.wrap_i64]; omega
        obtain ⟨m1, hm1'⟩ : ∃ m1, m + 1 = m1 := ⟨_, rfl⟩
        rw [hm1'] at hmw
        obtain ⟨k, hk⟩ : ∃ k, q % m1 = k := ⟨_, rfl⟩
        have hkm : k ≤ m := by
          have := Nat.mod_lt q (show 0 < m1 by omega)
          omega
        have hkw : (q : Int) % (m1 : Int) = (k : Int) := by rw [← hk]; rfl
        have hm10 : ¬ (m1 : Int) = 0 := by omega
        have HK := Lib.hid (show 60 ≤ i → k = m from fun h => by omega)
        clear hcc hm1' hk hcl
        obtain ⟨i1, hi1⟩ : ∃ i1, i + 1 = i1 := ⟨_, rfl⟩
        rw [hi1] at hpw
        have hroom := HS.out.1.room
        have hkc : k ≤ mc := by omega
        have P := Lib.hid ((HS.out.1.on HS.out.2.2.below).take hkm)
        obtain ⟨a', hcut, hdrop⟩ := cut_bytes (P := Try.prog) 31 5 Try.underlying31 (by kernel_rfl) byte_info av m mc k k rfl hkm
        have HD := Lib.hid hdrop
        have HCUT := Lib.hid hcut
        have HKM := Lib.hid hkm
        clear hcut hdrop
        go_wp2_with (fail)
        refine (s_chunk HS.out.2.2 (by omega) owner 1 i1 (by decide) P.out).mono ?_
        have hlen : (bs.take d).length + ((bs.drop d).take k).length = d + k := by
          have h1 := HS.out.2.1
          have h2 := HL.out
          rw [List.length_take, List.length_take, List.length_drop]
          omega
        by_cases hfull : 4096 < d + k
        · rw [← hi1, oneU_full owner _ _ i (by rw [hlen]; exact hfull), hi1]
          rintro e w6 ⟨rfl, h6⟩
          have BF := Lib.hid (below_on B3.out h6.below)
          have hL4 : (4096 : Int) < (L : Int) := by
            have h1 := HS.out.2.1
            omega
          clear h6 HS
          go_wp2
          go_ret
          exact ⟨rfl, BF.out⟩
        · obtain ⟨e1, e2⟩ := oneU_ok owner (bs.take d) ((bs.drop d).take k) i (by rw [hlen]; omega)
          rw [← hi1, e1, e2]
          rintro e w6 ⟨rfl, h6⟩
          have N6 := Lib.hid (show BReads w3 a' (m - k) (mc - k) (bs.drop (d + k)) ∧ (d + k) + (m - k) = L ∧ SAt w3 (i + 1 + 1) x (oneU owner (bs.take (d + k)) (i + 1)) w6 from by
            refine ⟨?_, by have := HS.out.2.1; have := HKM.out; omega, ?_⟩
            · rw [← List.drop_drop]
              exact HD.out w3 _ HS.out.1
            · rw [List.take_add]
              exact h6)
          have HK2 := Lib.hid (show 61 ≤ i + 1 → m - k = 0 from fun h => by
            have := HK.out (by omega)
            omega)
          have hc2 := HCUT.out
          clear h6 HS e1 e2 hkm hkc hroom hlen HK hi1 P HD
          go_wp2
          go_roundw
          case rel => exact ⟨i + 1, m - k, mc - k, d + k, a', (by first | rfl | rw [Nat.sub_self]), by go_num, by go_num, by omega, by omega, HK2, N6⟩
          case measure => simp [intOf]; omega
      · have hd1 : decide ((i : Int) < 60) = false := decide_eq_false (by omega)
        have HK := Lib.hid (show 60 ≤ i → m = m from fun _ => rfl)
        have hkm : m ≤ m := Nat.le_refl m
        obtain ⟨i1, hi1⟩ : ∃ i1, i + 1 = i1 := ⟨_, rfl⟩
        rw [hi1] at hpw
        have hroom := HS.out.1.room
        have hkc : m ≤ mc := by omega
        have P := Lib.hid ((HS.out.1.on HS.out.2.2.below).take hkm)
        obtain ⟨a', hcut, hdrop⟩ := cut_bytes (P := Try.prog) 31 5 Try.underlying31 (by kernel_rfl) byte_info av m mc m m rfl hkm
        have HD := Lib.hid hdrop
        have HCUT := Lib.hid hcut
        have HKM := Lib.hid hkm
        clear hcut hdrop
        go_wp2_with (fail)
        refine (s_chunk HS.out.2.2 (by omega) owner 1 i1 (by decide) P.out).mono ?_
        have hlen : (bs.take d).length + ((bs.drop d).take m).length = d + m := by
          have h1 := HS.out.2.1
          have h2 := HL.out
          rw [List.length_take, List.length_take, List.length_drop]
          omega
        by_cases hfull : 4096 < d + m
        · rw [← hi1, oneU_full owner _ _ i (by rw [hlen]; exact hfull), hi1]
          rintro e w6 ⟨rfl, h6⟩
          have BF := Lib.hid (below_on B3.out h6.below)
          have hL4 : (4096 : Int) < (L : Int) := by
            have h1 := HS.out.2.1
            omega
          clear h6 HS
          go_wp2
          go_ret
          exact ⟨rfl, BF.out⟩
        · obtain ⟨e1, e2⟩ := oneU_ok owner (bs.take d) ((bs.drop d).take m) i (by rw [hlen]; omega)
          rw [← hi1, e1, e2]
          rintro e w6 ⟨rfl, h6⟩
          have N6 := Lib.hid (show BReads w3 a' (m - m) (mc - m) (bs.drop (d + m)) ∧ (d + m) + (m - m) = L ∧ SAt w3 (i + 1 + 1) x (oneU owner (bs.take (d + m)) (i + 1)) w6 from by
            refine ⟨?_, by have := HS.out.2.1; have := HKM.out; omega, ?_⟩
            · rw [← List.drop_drop]
              exact HD.out w3 _ HS.out.1
            · rw [List.take_add]
              exact h6)
          have HK2 := Lib.hid (show 61 ≤ i + 1 → m - m = 0 from fun h => by
            have := HK.out (by omega)
            omega)
          have hc2 := HCUT.out
          clear h6 HS e1 e2 hkm hkc hroom hlen HK hi1 P HD
          go_wp2
          go_roundw
          case rel => exact ⟨i + 1, m - m, mc - m, d + m, a', (by first | rfl | rw [Nat.sub_self]), by go_num, by go_num, by omega, by omega, HK2, N6⟩
          case measure => simp [intOf]; omega
    · have HK := Lib.hid (show 60 ≤ i → m = m from fun _ => rfl)
      have hkm : m ≤ m := Nat.le_refl m
      obtain ⟨i1, hi1⟩ : ∃ i1, i + 1 = i1 := ⟨_, rfl⟩
      rw [hi1] at hpw
      have hroom := HS.out.1.room
      have hkc : m ≤ mc := by omega
      have P := Lib.hid ((HS.out.1.on HS.out.2.2.below).take hkm)
      obtain ⟨a', hcut, hdrop⟩ := cut_bytes (P := Try.prog) 31 5 Try.underlying31 (by kernel_rfl) byte_info av m mc m m rfl hkm
      have HD := Lib.hid hdrop
      have HCUT := Lib.hid hcut
      have HKM := Lib.hid hkm
      clear hcut hdrop
      go_wp2_with (fail)
      refine (s_chunk HS.out.2.2 (by omega) owner 1 i1 (by decide) P.out).mono ?_
      have hlen : (bs.take d).length + ((bs.drop d).take m).length = d + m := by
        have h1 := HS.out.2.1
        have h2 := HL.out
        rw [List.length_take, List.length_take, List.length_drop]
        omega
      by_cases hfull : 4096 < d + m
      · rw [← hi1, oneU_full owner _ _ i (by rw [hlen]; exact hfull), hi1]
        rintro e w6 ⟨rfl, h6⟩
        have BF := Lib.hid (below_on B3.out h6.below)
        have hL4 : (4096 : Int) < (L : Int) := by
          have h1 := HS.out.2.1
          omega
        clear h6 HS
        go_wp2
        go_ret
        exact ⟨rfl, BF.out⟩
      · obtain ⟨e1, e2⟩ := oneU_ok owner (bs.take d) ((bs.drop d).take m) i (by rw [hlen]; omega)
        rw [← hi1, e1, e2]
        rintro e w6 ⟨rfl, h6⟩
        have N6 := Lib.hid (show BReads w3 a' (m - m) (mc - m) (bs.drop (d + m)) ∧ (d + m) + (m - m) = L ∧ SAt w3 (i + 1 + 1) x (oneU owner (bs.take (d + m)) (i + 1)) w6 from by
          refine ⟨?_, by have := HS.out.2.1; have := HKM.out; omega, ?_⟩
          · rw [← List.drop_drop]
            exact HD.out w3 _ HS.out.1
          · rw [List.take_add]
            exact h6)
        have HK2 := Lib.hid (show 61 ≤ i + 1 → m - m = 0 from fun h => by
          have := HK.out (by omega)
          omega)
        have hc2 := HCUT.out
        clear h6 HS e1 e2 hkm hkc hroom hlen HK hi1 P HD
        go_wp2
        go_roundw
        case rel => exact ⟨i + 1, m - m, mc - m, d + m, a', (by first | rfl | rw [Nat.sub_self]), by go_num, by go_num, by omega, by omega, HK2, N6⟩
        case measure => simp [intOf]; omega

set_option maxRecDepth 100000 in
theorem back_row : Rows.StageBackSaid :=
  OpenClaim.holds_of_wide 4 Try.f4 rfl rfl rfl rfl rfl rfl rfl ⟨rfl, rfl, rfl, rfl, rfl⟩ rfl rfl rfl rfl rfl (by kernel_rfl) Try.func4 (by kernel_rfl)
    (of_decide_eq_true (by kernel_rfl)) (by unfold Func.isWrapper; rw [if_neg (of_decide_eq_false (by kernel_rfl))]; exact ⟨rfl, rfl⟩)
    (fun os started H enc _ => lift (C := Try.checked) (s := Rows.stageBackSpec) (conds := Rows.stageBackRow.domain) os started H enc prog_own (by kernel_rfl) Try.func4 prog_laid rfl Try.underlying4 rfl
      (fun ds hl => by
        have hl : ds.length = 3 := hl
        match ds, hl with
        | [_, _, _], _ => rfl)
      (of_decide_eq_true (by kernel_rfl))
      (ChangeSpec.witness6 (enc := enc) (C := Try.checked) false ⟨#[], #[.slice none 0 0, .slice none 0 0, .int .u64 0], []⟩ 8 (by kernel_rfl) (by kernel_rfl) (by kernel_rfl) (by kernel_rfl))
      (fun W base args ds p g => by
        rw [Try.params4] at g
        obtain ⟨v, x, e0, hx⟩ := g.sh1 0 rfl shChanges fit_changes13 (.inl ⟨_, Try.underlying45⟩)
        obtain ⟨a, n, c, hcs, _, _, hr⟩ := Rd.slice_is (e := shChange) hx
        simp only [List.cons.injEq, and_true] at hcs
        subst hcs
        obtain ⟨ca, cn, cc, cs, e1, hc, -⟩ := g.slice 1 rfl Try.underlying55 Try.underlying59 (by kernel_rfl) (by kernel_rfl)
        obtain ⟨ow, e2, h2⟩ := g.u64 2 rfl Try.underlying34
        rw [args3 g.count e0 e1 e2]
        exact back_walk a n c x ca cn cc cs ow W (hr.mono fun _ _ hk => hk) hc h2))
end Go.Proofs.Ytdlpifcfgfhagaa
