/-
  The library's BinarySearch at uint64, and cmp.Less; what the program's past asks of its versions: known, anyIn; mayLay, Last, Rows.
-/
import Derived.Test.YtdmnflncgmnghaaGreatCi
namespace Go.Proofs.YtdmnflncgmnghaaGreat
open Go.RowKit

/-- A row of versions. -/
def VersAt (lo : Nat) (w : World) (v : Value) (xs : List Nat) : Prop := RowC lo w 27 1 v (keptC xs)
theorem VersAt.at {lo : Nat} {w : World} {v : Value} {xs : List Nat} (h : VersAt lo w v xs) (i x : Nat) (hx : xs[i]? = some x) : ∃ g c, v = .slice (some ⟨g, 0, none⟩) xs.length c ∧ w.cell? ⟨g, i, none⟩ = some (.int .u64 (x : Int)) := by
  obtain ⟨g, c, e, _, _, hrg⟩ := RowC.at h i [.int .u64 (x : Int)] (by rw [keptC, List.getElem?_map, hx]; rfl)
  rw [keptC, List.length_map] at e
  have h0 := hrg 0 _ rfl
  rw [Nat.mul_one] at h0
  exact ⟨g, c, e, h0⟩
theorem VersAt.form {lo : Nat} {w : World} {v : Value} {xs : List Nat} (h : VersAt lo w v xs) : ∃ a c, v = .slice a xs.length c ∧ xs.length ≤ c := by
  obtain ⟨a, c, e, h2⟩ := RowC.form h
  rw [keptC, List.length_map] at e h2
  exact ⟨a, c, e, h2⟩

set_option maxHeartbeats 800000 in
theorem less64 (x y : Nat) (w : World) : Calls Tryz.prog 121 #[.int .u64 (x : Int), .int .u64 (y : Int)] w fun e w' => e = .returned (.bool (decide (x < y))) ∧ w' = w := by
  by_cases h : x < y
  · have hb : decide ((x : Int) < (y : Int)) = true := decide_eq_true (by omega)
    have hr := Lib.hid (show decide (x < y) = true from decide_eq_true h)
    clear h
    go_enter Tryz.func121, Tryz.ntmps121
    go_wp2
    go_ret
    exact ⟨by rw [hr.out]; rfl, rfl⟩
  · have hb : decide ((x : Int) < (y : Int)) = false := decide_eq_false (by omega)
    have hr := Lib.hid (show decide (x < y) = false from decide_eq_false h)
    clear h
    go_enter Tryz.func121, Tryz.ntmps121
    go_wp2
    go_ret
    exact ⟨by rw [hr.out]; rfl, rfl⟩
/-- Where a number belongs in a rising list. -/
def Spot (xs : List Nat) (t i : Nat) : Prop := i ≤ xs.length ∧ (∀ k x, k < i → xs[k]? = some x → x < t) ∧ (∀ k x, i ≤ k → xs[k]? = some x → t ≤ x)
theorem rising_at {xs : List Nat} (h : xs.Pairwise (· < ·)) {i j x y : Nat} (hij : i < j) (hx : xs[i]? = some x) (hy : xs[j]? = some y) : x < y := by
  obtain ⟨hi, rfl⟩ := List.getElem?_eq_some_iff.1 hx
  obtain ⟨hj, rfl⟩ := List.getElem?_eq_some_iff.1 hy
  exact List.pairwise_iff_getElem.1 h i j hi hj hij
theorem spot_hit {xs : List Nat} {t i : Nat} (hx : xs[i]? = some t) : xs.contains t = true := by
  have := List.mem_of_getElem? hx
  simpa using this
theorem spot_miss {xs : List Nat} {t i : Nat} (h : Spot xs t i) (hs : xs.Pairwise (· < ·)) (hx : xs[i]? ≠ some t) : xs.contains t = false := by
  rw [Bool.eq_false_iff]
  intro hc
  have hm : t ∈ xs := by simpa using hc
  obtain ⟨k, hk⟩ := List.getElem?_of_mem hm
  rcases Nat.lt_trichotomy k i with h1 | h1 | h1
  · have := h.2.1 k t h1 hk
    omega
  · subst h1
    exact hx hk
  · have hil : i < xs.length := by have := (List.getElem?_eq_some_iff.1 hk).1; omega
    have h2 := h.2.2 i _ (Nat.le_refl _) (List.getElem?_eq_getElem hil)
    have h3 := rising_at hs h1 (List.getElem?_eq_getElem hil) hk
    omega

set_option maxRecDepth 100000 in
set_option maxHeartbeats 3200000 in
theorem search64 (lo : Nat) (w : World) (a : Option Addr) (n c : Nat) (xs : List Nat) (t : Nat) (h : VersAt lo w (.slice a n c) xs) (hn : xs.length = n) (hl : n ≤ 100000) (hs : xs.Pairwise (· < ·)) :
    Calls Tryz.prog 96 #[.slice a n c, .int .u64 (t : Int)] w fun e w' => ∃ i : Nat, Spot xs t i ∧ e = .returned (.tuple #[.int .i64 (i : Int), .bool (xs.contains t)]) ∧ w' = w := by
  have HV := Lib.hid h
  have HN := Lib.hid hn
  have HS := Lib.hid hs
  obtain ⟨z, hz⟩ : ∃ z, xs.contains t = z := ⟨_, rfl⟩
  have HZ := Lib.hid hz
  rw [hz]
  clear h hn hs hz
  go_enter Tryz.func96, Tryz.ntmps96
  go_wp2_with (fail)
  go_loop [7, 8] (fun s7 s8 => ∃ (i j : Nat), s7 = .int .i64 i ∧ s8 = .int .i64 j ∧ i ≤ j ∧ j ≤ n ∧ Hid (∀ k x, k < i → xs[k]? = some x → x < t) ∧ Hid (∀ k x, j ≤ k → xs[k]? = some x → t ≤ x)) (fun s7 s8 => (intOf s8 - intOf s7).toNat)
  case atStart => exact ⟨0, n, rfl, rfl, by omega, by omega, fun k x hk => by omega, fun k x hk hx => by
    have := (List.getElem?_eq_some_iff.1 hx).1
    have := HN.out
    omega⟩
  case round =>
    obtain ⟨i, j, rfl, rfl, hij, hjn, H1, H2⟩ := hrel
    by_cases hlt : i < j
    · obtain ⟨m, hm⟩ : ∃ m, (i + j) / 2 = m := ⟨_, rfl⟩
      have hm1 : i ≤ m := by omega
      have hm2 : m < j := by omega
      have e1 : IntKind.u64.wrap ((i : Int) + (j : Int)) = (i : Int) + (j : Int) := by rw [IntKind.wrap_u64]; omega
      have e2 : IntKind.u64.wrap (((i : Int) + (j : Int)) / 2) = (m : Int) := by rw [IntKind.wrap_u64]; omega
      have e3 : IntKind.i64.wrap (m : Int) = (m : Int) := by rw [IntKind.wrap_i64]; omega
      have e4 : ((i : Int) + (j : Int)) / 2 = (m : Int) := by omega
      obtain ⟨x, hx⟩ : ∃ x, xs[m]? = some x := ⟨_, List.getElem?_eq_getElem (by have := HN.out; omega)⟩
      obtain ⟨gk, ck, ek, kx⟩ := HV.out.at m x hx
      rw [HN.out] at ek
      simp only [Value.slice.injEq] at ek
      obtain ⟨rfl, -, rfl⟩ := ek
      have HX := Lib.hid hx
      clear hx hm
      go_wp2_with (fail)
      refine (less64 x t _).mono ?_
      rintro e w2 ⟨rfl, hw2⟩
      have hw2' := hw2.symm
      subst hw2'
      clear hw2
      by_cases hxt : x < t
      · have N1 := Lib.hid (show ∀ k y, k < m + 1 → xs[k]? = some y → y < t from fun k y hk hy => by
          by_cases hkm : k = m
          · subst hkm
            rw [HX.out] at hy
            cases hy
            exact hxt
          · have h3 := rising_at HS.out (show k < m by omega) hy HX.out
            omega)
        rw [decide_eq_true hxt]
        go_wp2
        go_round
        case rel => exact ⟨m + 1, j, by go_num, rfl, by omega, by omega, N1.out, H2.out⟩
        case measure => simp [intOf]; omega
      · have N1 := Lib.hid (show ∀ k y, m ≤ k → xs[k]? = some y → t ≤ y from fun k y hk hy => by
          by_cases hkm : k = m
          · subst hkm
            rw [HX.out] at hy
            cases hy
            omega
          · have h3 := rising_at HS.out (show m < k by omega) HX.out hy
            omega)
        rw [decide_eq_false hxt]
        go_wp2
        go_round
        case rel => exact ⟨i, m, rfl, rfl, by omega, by omega, H1.out, N1.out⟩
        case measure => simp [intOf]; omega
    · obtain rfl : i = j := by omega
      have SP := Lib.hid (show Spot xs t i from ⟨by rw [HN.out]; exact hjn, H1.out, H2.out⟩)
      by_cases hin : i < n
      · obtain ⟨x, hx⟩ : ∃ x, xs[i]? = some x := ⟨_, List.getElem?_eq_getElem (by have := HN.out; omega)⟩
        obtain ⟨gk, ck, ek, kx⟩ := HV.out.at i x hx
        rw [HN.out] at ek
        simp only [Value.slice.injEq] at ek
        obtain ⟨rfl, -, rfl⟩ := ek
        by_cases hxt : x = t
        · have E := Lib.hid (show z = true from HZ.out ▸ spot_hit (by rw [hx, hxt]))
          have hxb : ((x : Int) == (t : Int)) = true := by simp [hxt]
          clear hx hxt
          go_wp2
          go_ret2
          exact ⟨i, SP.out, by rw [E.out]; rfl, rfl⟩
        · have E := Lib.hid (show z = false from HZ.out ▸ spot_miss SP.out HS.out (by rw [hx]; simp [hxt]))
          have hxb : ((x : Int) == (t : Int)) = false := by simp; omega
          clear hx hxt
          go_wp2
          go_ret2
          exact ⟨i, SP.out, by rw [E.out]; rfl, rfl⟩
      · obtain rfl : i = n := by omega
        have E := Lib.hid (show z = false from HZ.out ▸ spot_miss SP.out HS.out (by rw [List.getElem?_eq_none (by rw [HN.out]; exact Nat.le_refl _)]; simp))
        go_wp2
        go_ret2
        exact ⟨i, SP.out, by rw [E.out]; rfl, rfl⟩

def PastC.st (L : List RowL) (last floor : Nat) (kept : List Nat) : PastV := ⟨rowsV L, last, floor, kept⟩
set_option maxRecDepth 100000 in
set_option maxHeartbeats 1600000 in
theorem known_any (w : World) (lo g : Nat) (It : List Nat) (u k : Value) (L : List RowL) (last floor : Nat) (kept : List Nat) (v : Nat) (hv : v < 18446744073709551616) (h : PastC w lo g It u k L last floor kept) :
    Calls Tryz.prog 76 #[.pointer (some ⟨g, 0, none⟩), .int .u64 (v : Int)] w fun e w' => e = .returned (.bool ((PastC.st L last floor kept).known v)) ∧ w' = w := by
  obtain ⟨a, c, rfl, hnc⟩ := h.k_form
  obtain ⟨n, hn⟩ : ∃ n, kept.length = n := ⟨_, rfl⟩
  have c3 := h.blk.cell 3
  have c2 := h.blk.cell 2
  have HN := Lib.hid hn
  have HP := Lib.hid h
  have hK := h.hK
  have HF := Lib.hid (show floor < 18446744073709551616 from Nat.lt_of_le_of_lt h.hfl h.hlast)
  rw [hn] at HP hnc c3 hK
  simp only [List.getElem?_cons_succ, List.getElem?_cons_zero] at c3 c2
  have HV := Lib.hid hv
  clear h hn hv
  go_enter Tryz.func76, Tryz.ntmps76
  go_wp2_with (fail)
  refine (search64 lo w a n c kept v HP.out.vers HN.out hK HP.out.hks).mono ?_
  rintro e w2 ⟨i, hsp, rfl, hw2⟩
  have hw2' := hw2.symm
  subst hw2'
  clear hw2 hsp
  obtain ⟨z, hz⟩ : ∃ z, kept.contains v = z := ⟨_, rfl⟩
  have HZ := Lib.hid hz
  rw [hz]
  clear hz
  cases z
  · by_cases hfv : floor ≤ v
    · have hb : decide ((floor : Int) ≤ (v : Int)) = true := decide_eq_true (by omega)
      have K := Lib.hid (show (PastC.st L last floor kept).known v = true from by simp [PastV.known, PastC.st, hfv])
      go_wp2
      go_ret
      exact ⟨by rw [K.out]; rfl, rfl⟩
    · have hb : decide ((floor : Int) ≤ (v : Int)) = false := decide_eq_false (by omega)
      have K := Lib.hid (show (PastC.st L last floor kept).known v = false from by
        unfold PastV.known
        rw [show (PastC.st L last floor kept).kept = kept from rfl, HZ.out, show (PastC.st L last floor kept).floor = floor from rfl, decide_eq_false hfv]
        rfl)
      go_wp2
      go_ret
      exact ⟨by rw [K.out]; rfl, rfl⟩
  · have K := Lib.hid (show (PastC.st L last floor kept).known v = true from by
      unfold PastV.known
      rw [show (PastC.st L last floor kept).kept = kept from rfl, HZ.out]
      rfl)
    go_wp2
    go_ret
    exact ⟨by rw [K.out]; rfl, rfl⟩
set_option maxRecDepth 100000 in
set_option maxHeartbeats 1600000 in
/-- anyIn: has the rising list a version from b on, below e? -/
theorem anyIn_any (lo : Nat) (w : World) (a : Option Addr) (n c : Nat) (xs : List Nat) (b e : Nat) (hb : b < 18446744073709551616) (he : e < 18446744073709551616) (h : VersAt lo w (.slice a n c) xs) (hn : xs.length = n) (hl : n ≤ 100000) (hs : xs.Pairwise (· < ·)) :
    Calls Tryz.prog 134 #[.slice a n c, .int .u64 (b : Int), .int .u64 (e : Int)] w fun r w' => r = .returned (.bool (xs.any fun x => decide (b ≤ x) && decide (x < e))) ∧ w' = w := by
  have HV := Lib.hid h
  have HN := Lib.hid hn
  have HS := Lib.hid hs
  have HB := Lib.hid hb
  have HE := Lib.hid he
  clear h hn hs hb he
  go_enter Tryz.func134, Tryz.ntmps134
  go_wp2_with (fail)
  refine (search64 lo w a n c xs b HV.out HN.out hl HS.out).mono ?_
  rintro r w2 ⟨i, hsp, rfl, hw2⟩
  have hw2' := hw2.symm
  subst hw2'
  clear hw2
  have SP := Lib.hid hsp
  have hin := hsp.1
  rw [HN.out] at hin
  clear hsp
  by_cases hlt : i < n
  · obtain ⟨x, hx⟩ : ∃ x, xs[i]? = some x := ⟨_, List.getElem?_eq_getElem (by have := HN.out; omega)⟩
    obtain ⟨gk, ck, ek, kx⟩ := HV.out.at i x hx
    rw [HN.out] at ek
    simp only [Value.slice.injEq] at ek
    obtain ⟨rfl, -, rfl⟩ := ek
    by_cases hxe : x < e
    · have E := Lib.hid (show (xs.any fun x => decide (b ≤ x) && decide (x < e)) = true from List.any_eq_true.2 ⟨x, List.mem_of_getElem? hx, by simp [hxe, SP.out.2.2 i x (Nat.le_refl _) hx]⟩)
      have hb1 : decide ((x : Int) < (e : Int)) = true := decide_eq_true (by omega)
      have HXE := Lib.hid (show decide (x < e) = true from decide_eq_true hxe)
      clear hx hxe
      go_wp2
      go_ret
      exact ⟨by rw [E.out]; first | rfl | exact congrArg (fun b => Ending.returned (.bool b)) HXE.out, rfl⟩
    · have E := Lib.hid (show (xs.any fun x => decide (b ≤ x) && decide (x < e)) = false from by
        rw [Bool.eq_false_iff]
        intro hc
        obtain ⟨y, hy, h2⟩ := List.any_eq_true.1 hc
        obtain ⟨j, hj⟩ := List.getElem?_of_mem hy
        simp only [Bool.and_eq_true, decide_eq_true_eq] at h2
        rcases Nat.lt_trichotomy j i with h1 | h1 | h1
        · have := SP.out.2.1 j y h1 hj
          omega
        · subst h1
          rw [hx] at hj
          cases hj
          omega
        · have := rising_at HS.out h1 hx hj
          omega)
      have hb1 : decide ((x : Int) < (e : Int)) = false := decide_eq_false (by omega)
      have HXE := Lib.hid (show decide (x < e) = false from decide_eq_false hxe)
      clear hx hxe
      go_wp2
      go_ret
      exact ⟨by rw [E.out]; first | rfl | exact congrArg (fun b => Ending.returned (.bool b)) HXE.out, rfl⟩
  · obtain rfl : i = n := by omega
    have E := Lib.hid (show (xs.any fun x => decide (b ≤ x) && decide (x < e)) = false from by
      rw [Bool.eq_false_iff]
      intro hc
      obtain ⟨y, hy, h2⟩ := List.any_eq_true.1 hc
      obtain ⟨j, hj⟩ := List.getElem?_of_mem hy
      simp only [Bool.and_eq_true, decide_eq_true_eq] at h2
      have h3 := (List.getElem?_eq_some_iff.1 hj).1
      have := SP.out.2.1 j y (by have := HN.out; omega) hj
      omega)
    go_wp2
    go_ret
    exact ⟨by rw [E.out]; rfl, rfl⟩

set_option maxRecDepth 100000 in
set_option maxHeartbeats 1600000 in
theorem mayLay_any (w : World) (g : Nat) (u k : Value) (last floor v : Nat) (h : Blk w g 139 [u, .int .u64 (last : Int), .int .u64 (floor : Int), k]) :
    Calls Tryz.prog 93 #[.pointer (some ⟨g, 0, none⟩), .int .u64 (v : Int)] w fun e w' => e = .returned (.bool (!decide (v = 0 ∨ v < last))) ∧ w' = w := by
  have c1 : w.cell? ⟨g, 1, none⟩ = some (.int .u64 (last : Int)) := h.cell 1
  clear h
  by_cases h0 : v = 0
  · have E := Lib.hid (show (!decide (v = 0 ∨ v < last)) = false from by simp [h0])
    rw [E.out]
    clear E
    subst h0
    go_enter Tryz.func93, Tryz.ntmps93
    go_wp2
    go_ret
    exact ⟨rfl, rfl⟩
  · have h0' : 0 < v := by omega
    by_cases h1 : last ≤ v
    · have E := Lib.hid (show (!decide (v = 0 ∨ v < last)) = true from by simp [h0]; omega)
      have Z := Lib.hid (show decide (last ≤ v) = true from decide_eq_true h1)
      rw [E.out]
      go_enter Tryz.func93, Tryz.ntmps93
      go_wp2
      go_ret
      exact ⟨by first | rfl | exact congrArg (fun b => Ending.returned (.bool b)) Z.out, rfl⟩
    · have E := Lib.hid (show (!decide (v = 0 ∨ v < last)) = false from by simp; omega)
      have Z := Lib.hid (show decide (last ≤ v) = false from decide_eq_false h1)
      rw [E.out]
      go_enter Tryz.func93, Tryz.ntmps93
      go_wp2
      go_ret
      exact ⟨by first | rfl | exact congrArg (fun b => Ending.returned (.bool b)) Z.out, rfl⟩
theorem last_any (w : World) (g : Nat) (u k : Value) (last floor : Nat) (h : Blk w g 139 [u, .int .u64 (last : Int), .int .u64 (floor : Int), k]) :
    Calls Tryz.prog 65 #[.pointer (some ⟨g, 0, none⟩)] w fun e w' => e = .returned (.int .u64 (last : Int)) ∧ w' = w := by
  have c1 : w.cell? ⟨g, 1, none⟩ = some (.int .u64 (last : Int)) := h.cell 1
  clear h
  go_enter Tryz.func65, Tryz.ntmps65
  go_wp2
  go_ret
  exact ⟨rfl, rfl⟩
theorem rows_any (w : World) (g : Nat) (a : Option Addr) (n c : Nat) (k : Value) (last floor : Nat) (h : Blk w g 139 [.slice a n c, .int .u64 (last : Int), .int .u64 (floor : Int), k]) :
    Calls Tryz.prog 41 #[.pointer (some ⟨g, 0, none⟩)] w fun e w' => e = .returned (.int .i64 (n : Int)) ∧ w' = w := by
  have c0 : w.cell? ⟨g, 0, none⟩ = some (.slice a n c) := h.cell 0
  clear h
  go_enter Tryz.func41, Tryz.ntmps41
  go_wp2
  go_ret
  exact ⟨rfl, rfl⟩
theorem new_any8 (w : World) : Calls Tryz.prog 45 #[] w fun e w' => e = .returned (.pointer (some ⟨w.heap.size, 0, none⟩)) ∧ Below w.heap.size w w' ∧ PastC w' w.heap.size w.heap.size [] (.slice none 0 0) (.slice none 0 0) [] 0 0 [] := by
  have hb := (Below.refl w.heap.size w).alloc (Nat.le_refl _) (.cells #[.slice none 0 0, .int .u64 0, .int .u64 0, .slice none 0 0] 139)
  have hx := Blk.new w 139 #[.slice none 0 0, .int .u64 0, .int .u64 0, .slice none 0 0]
  go_enter Tryz.func45, Tryz.ntmps45
  go_wp2
  go_ret
  exact ⟨rfl, hb, hx, RowC.nil _ _ _ _, by simp, by simp, RowC.nil _ _ _ _, by decide, by decide, by simp, by simp, by simp, by simp, by simp, by simp, Nat.le_refl _⟩
end Go.Proofs.YtdmnflncgmnghaaGreat
