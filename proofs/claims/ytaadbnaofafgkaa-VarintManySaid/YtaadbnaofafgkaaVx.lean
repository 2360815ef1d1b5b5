/-
  VarintMany holds: of any numbers, the first hundred, written one behind the other, are read in order, and nothing is left.
-/
import Derived.Test.YtaadbnaofafgkaaRows
import Derived.Test.YtaadbnaofafgkaaVn
import Derived.Test.YtaadbnaofafgkaaVt
namespace Go.Proofs.Ytaadbnaofafgkaa
open Go.ChangeShapes Go.WideShapes Go.ChangeAt Go.RowKit

/-- Numbers written one behind the other. -/
def vcat (l : List Nat) : List Nat := (l.map vput).flatten
theorem vcat_cons (x : Nat) (l : List Nat) : vcat (x :: l) = vput x ++ vcat l := by simp [vcat]
theorem vcat_snoc (l : List Nat) (x : Nat) : vcat (l ++ [x]) = vcat l ++ vput x := by simp [vcat]
theorem vcat_len (l : List Nat) (h : ∀ x ∈ l, x < 18446744073709551616) : (vcat l).length ≤ 10 * l.length := by
  induction l with
  | nil => simp [vcat]
  | cons x l ih =>
    rw [vcat_cons, List.length_append, List.length_cons]
    have h1 := vput_len10 (h x (by simp))
    have h2 := ih (fun y hy => h y (by simp [hy]))
    omega
theorem ntake_at (l : List Nat) (k : Nat) (h : k < l.length) : l.take (k + 1) = l.take k ++ [l.getD k 0] := by
  rw [List.take_succ_eq_append_getElem h]
  simp [List.getD, h]
theorem ndrop_at (l : List Nat) (k j : Nat) (hk : k ≤ l.length) (hj : j < k) : (l.take k).drop j = l.getD j 0 :: (l.take k).drop (j + 1) := by
  rw [List.drop_eq_getElem_cons (by simp; omega)]
  congr 1
  simp [List.getD, show j < l.length by omega]

/-- A slice of numbers reads as nums. -/
structure NReads (w : World) (a : Option Addr) (n : Nat) (nums : List Nat) : Prop where
  len : nums.length = n
  small : n ≤ 140737488351232
  lt : ∀ x ∈ nums, x < 18446744073709551616
  cells : n = 0 ∨ ∃ b off, a = some ⟨b, off, none⟩ ∧ b < w.heap.size ∧ ∀ i, i < n → w.cell? ⟨b, off + i, none⟩ = some (.int .u64 (nums.getD i 0 : Int))
theorem NReads.of {w : World} {a : Option Addr} {n : Nat} {xs : List Int} (h : Reads .u64 w a n xs) : NReads w a n (xs.map Int.toNat) := by
  have hw : ∀ x ∈ xs, 0 ≤ x ∧ x < 18446744073709551616 := fun x hx => by
    have := h.wf x hx
    simp [Lit.wf, IntKind.min, IntKind.max, IntKind.signed, IntKind.bits] at this
    omega
  refine ⟨by simpa using h.len, h.small, fun b hb => ?_, ?_⟩
  · obtain ⟨x, hx, rfl⟩ := List.mem_map.1 hb
    have := hw x hx
    omega
  · rcases h.cells with h4 | ⟨b, off, ha, hlt, hcl⟩
    · exact .inl h4
    · refine .inr ⟨b, off, ha, hlt, fun i hi => ?_⟩
      rw [hcl i hi]
      have hl := h.len
      have hi' : i < xs.length := by omega
      have := hw xs[i] (List.getElem_mem hi')
      simp [List.getD, hi']
      omega
theorem NReads.at_lt {w : World} {a : Option Addr} {n : Nat} {nums : List Nat} (h : NReads w a n nums) (i : Nat) : nums.getD i 0 < 18446744073709551616 := by
  by_cases hi : i < nums.length
  · have e : nums.getD i 0 = nums[i] := by simp [List.getD, hi]
    rw [e]
    exact h.lt _ (List.getElem_mem hi)
  · have e : nums.getD i 0 = 0 := by simp [List.getD, Nat.le_of_not_lt hi]
    omega

set_option maxRecDepth 100000 in
set_option maxHeartbeats 6400000 in
theorem many_walk (a : Option Addr) (n c : Nat) (nums : List Nat) (w : World) (h : NReads w a n nums) :
    Calls Try.prog 9 #[.slice a n c] w fun e w' => e = .returned (.bool true) ∧ Below w.heap.size w w' := by
  have HC := Lib.hid h.cells
  have HL := Lib.hid h.len
  have HA := Lib.hid h.at_lt
  have HT := Lib.hid h.lt
  have hsm := h.small
  clear h
  go_enter Try.func9, Try.ntmps9
  go_wp2_with (fail)
  refine (alive4 w).mono ?_
  rintro e w1 ⟨rfl, hb1⟩
  have B1 := Lib.hid hb1
  clear hb1
  go_wp2_with (fail)
  go_loopw [3, 4] (fun s3 s4 wr => ∃ i : Nat, s4 = .int .i64 i ∧ i ≤ n ∧ i ≤ 100 ∧ Hid (OwnV wr w.heap.size 5 s3 (vcat (nums.take i))) ∧ Hid (Below w.heap.size w wr)) (fun _ s4 _ => n - (intOf s4).toNat)
  case atStart => exact ⟨0, rfl, by omega, by omega, OwnV.nil _ _ _, B1.out⟩
  case round =>
    clear B1
    obtain ⟨i, rfl, hin, hi100, HO, HB⟩ := hrel
    have hlen : (vcat (nums.take i)).length ≤ 1000 := by
      have h1 := vcat_len (nums.take i) (fun x hx => HT.out x (List.mem_of_mem_take hx))
      have h2 : (nums.take i).length ≤ i := by simp; omega
      omega
    have HLN := Lib.hid hlen
    clear hlen
    by_cases hc : i < n ∧ i < 100
    · obtain ⟨hc1, hc2⟩ := hc
      rcases HC.out with h0 | ⟨b, off, rfl, hlt, hcl⟩
      · omega
      obtain ⟨x, hx⟩ : ∃ x, nums.getD i 0 = x := ⟨_, rfl⟩
      have hcell := (HB.out.cell (p := ⟨b, off + i, none⟩) hlt).trans (hcl i hc1)
      have hblt : b < wr.heap.size := Nat.lt_of_lt_of_le hlt HB.out.size
      have HX := Lib.hid (HA.out i)
      rw [hx] at hcell HX
      have HE := Lib.hid (show vcat (nums.take (i + 1)) = vcat (nums.take i) ++ vput x from by rw [ntake_at nums i (by rw [HL.out]; exact hc1), vcat_snoc, hx])
      clear hcl hx
      go_wp2_with (fail)
      refine (put_any x wr HX.out).mono ?_
      rintro e w2 ⟨v, rfl, ho, hb2⟩
      obtain ⟨a2, c2, rfl, hr2, -⟩ := ho.reads (by have := vput_len10 HX.out; omega)
      have HR2 := Lib.hid hr2
      have HO2 := Lib.hid (HO.out.on hb2)
      have HB2 := Lib.hid (below_on HB.out hb2)
      have hwb := HB2.out.size
      clear ho hr2 hb2 HO HB hcell hblt
      go_wp2_with (at_builtin; refine app_bytes _ rfl (.tmp 21) (.tmp 26) 24 5 rfl Try.underlying24 byte_info w.heap.size _ (vcat (nums.take i)) (by rfl) HO2.out _ _ _ (vput x) (by rfl) HR2.out (by have := vput_len10 HX.out; have := HLN.out; omega) hwb ?_)
      intro v' w3 hown hg _
      have N1 := Lib.hid hown
      have N2 := Lib.hid (HB2.out.grown hg hwb (fun k hk => (HO2.out.lt k hk).1))
      clear hown hg HO2 HB2 HR2
      go_wp2
      go_roundw
      case rel => exact ⟨i + 1, by go_num, by omega, by omega, by rw [HE.out]; exact N1.out, N2.out⟩
      case measure => simp [intOf]; omega
    · have hK : i = n ∨ i = 100 := by omega
      obtain ⟨v3, m3, c3, rfl, hm3⟩ := HO.out.parts
      obtain ⟨_, _, he, hr, -⟩ := HO.out.reads (by have := HLN.out; omega)
      have HR : Hid (BReads wr v3 m3 c3 (vcat (nums.take i))) := by
        injection he with e1 e2 e3
        subst e1; subst e3
        rw [← e2] at hr
        exact hr
      have hm1000 : m3 ≤ 1000 := by have := HLN.out; have := hm3.out; omega
      clear hc he hr HO HLN
      have hnx : (¬ i < n) ∨ (i < n ∧ ¬ i < 100) := by omega
      clear hK
      rcases hnx with hnx | ⟨hnx, hny⟩
      all_goals
        go_wp2
        go_loop [3, 5] (fun s3 s5 => ∃ (j m d : Nat) (b' : Option Addr), s5 = .int .i64 j ∧ j ≤ i ∧ s3 = .slice b' m d ∧ m ≤ 1000 ∧ Hid (BReads wr b' m d (vcat ((nums.take i).drop j)))) (fun _ s5 => i - (intOf s5).toNat)
        case atStart => exact ⟨0, m3, c3, v3, rfl, by omega, rfl, hm1000, HR.out⟩
        case round =>
          obtain ⟨j, m, d, b', rfl, hj, rfl, hm, HR'⟩ := hrel
          clear hm3
          by_cases hji : j < i
          · rcases HC.out with h0 | ⟨b, off, rfl, hlt, hcl⟩
            · omega
            obtain ⟨x, hx⟩ : ∃ x, nums.getD j 0 = x := ⟨_, rfl⟩
            have hjn : j < n := by omega
            have hj100 : j < 100 := by omega
            have hcell := (HB.out.cell (p := ⟨b, off + j, none⟩) hlt).trans (hcl j hjn)
            have hblt : b < wr.heap.size := Nat.lt_of_lt_of_le hlt HB.out.size
            have HX := Lib.hid (HA.out j)
            rw [hx] at hcell HX
            have HE := Lib.hid (show vcat ((nums.take i).drop j) = vput x ++ vcat ((nums.take i).drop (j + 1)) from by rw [ndrop_at nums i j (by rw [HL.out]; exact hin) hji, vcat_cons, hx])
            obtain ⟨k, hk⟩ : ∃ k, (vput x).length = k := ⟨_, rfl⟩
            have HG := Lib.hid (show vget 0 0 (vcat ((nums.take i).drop j)) = (x, k, 0) from by rw [HE.out, vget_put0 x _ HX.out, hk])
            have hkm : k ≤ m := by
              have h1 := HR'.out.len
              rw [HE.out, List.length_append, hk] at h1
              omega
            have HD := Lib.hid (show (vcat ((nums.take i).drop j)).drop k = vcat ((nums.take i).drop (j + 1)) from by rw [HE.out, ← hk]; simp)
            obtain ⟨b2, hs1, hs2⟩ := cut_bytes (P := Try.prog) 24 5 Try.underlying24 (by kernel_rfl) byte_info b' m d k k rfl hkm
            have HS := Lib.hid (hs2 _ _ HR'.out)
            obtain ⟨m2, hm2⟩ : ∃ m2, m - k = m2 := ⟨_, rfl⟩
            obtain ⟨d2, hd2⟩ : ∃ d2, d - k = d2 := ⟨_, rfl⟩
            rw [hm2, hd2] at hs1 HS
            have hm21 : m2 ≤ 1000 := by omega
            clear hcl hx hk hs2 hm2 hd2
            go_wp2_with (fail)
            refine (get_eq b' m d _ wr x k 0 HR'.out HG.out).mono ?_
            rintro e w' ⟨rfl, rfl⟩
            go_wp2
            go_round
            case rel => exact ⟨j + 1, m2, d2, b2, by go_num, by omega, rfl, hm21, by have := HS.out; rw [HD.out] at this; exact this⟩
            case measure => simp [intOf]; omega
          · have hji' : j = i := by omega
            subst hji'
            have hm0 : m = 0 := by
              have h1 := HR'.out.len
              rw [List.drop_eq_nil_of_le (by simp; omega)] at h1
              simpa [vcat] using h1.symm
            subst hm0
            go_wp2
            go_ret
            exact ⟨rfl, HB.out⟩

theorem many_row : Rows.VarintManySaid :=
  OpenClaim.holds_of_wide 9 Try.f9 rfl rfl rfl rfl rfl rfl rfl ⟨rfl, rfl, rfl, rfl, rfl⟩ rfl rfl rfl rfl rfl (by kernel_rfl) Try.func9 (by kernel_rfl)
    (of_decide_eq_true (by kernel_rfl)) (by unfold Func.isWrapper; rw [if_neg (of_decide_eq_false (by kernel_rfl))]; exact ⟨rfl, rfl⟩)
    (fun os started H enc _ => lift (C := Try.checked) (s := Rows.varintManySpec) (conds := Rows.varintManyRow.domain) os started H enc prog_own (by kernel_rfl) Try.func9 prog_laid rfl Try.underlying4 rfl
      (fun ds hl => by
        have hl : ds.length = 1 := hl
        match ds, hl with
        | [_], _ => rfl)
      (of_decide_eq_true (by kernel_rfl))
      (ChangeSpec.witness6 (enc := enc) (C := Try.checked) false ⟨#[], #[.slice none 0 0], []⟩ 8 (by kernel_rfl) (by kernel_rfl) (by kernel_rfl) (by kernel_rfl))
      (fun W base args ds p g => by
        rw [Try.params9] at g
        obtain ⟨a, n, c, xs, e0, h0, _⟩ := g.slice 0 rfl Try.underlying41 Try.underlying22 (by kernel_rfl) (by kernel_rfl)
        rw [args1 g.count e0]
        exact many_walk a n c _ W (NReads.of h0)))
end Go.Proofs.Ytaadbnaofafgkaa
