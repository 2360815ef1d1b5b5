/-
  The library's Sort (of one number at most), Compact and the program's cloneList over versions; stillKnown: the versions that a sweep keeps.
-/
import Derived.Shelf.SlicesE.Compact
import Derived.Shelf.Small.Bits
import Derived.Lib.OwnBridge
import Derived.Test.YtdmnflncgmnghaaGreatCb
import Derived.Test.YtdmnflncgmnghaaGreatCc
import Derived.Test.YtdmnflncgmnghaaGreatJs
namespace Go.Proofs.YtdmnflncgmnghaaGreat
open Go.RowKit Go.Shelf Go.Sort

def lays125Ren : Go.Shelf.Ren := ⟨fun | 125 => 91 | 128 => 117 | 129 => 118 | n => n, fun | 46 => 174 | 3 => 3 | 51 => 38 | 53 => 27 | 4 => 4 | 5 => 5 | 9 => 9 | n => n, fun | n => n⟩
theorem lays125 : Go.Proofs.Lays.n125 Tryz.prog lays125Ren := {
  mixed := by kernel_rfl
  f125 := Tryz.func91.trans (congrArg some (by kernel_rfl))
  f128 := Tryz.func117.trans (congrArg some (by kernel_rfl))
  f129 := Tryz.func118.trans (congrArg some (by kernel_rfl))
  t3 := Tryz.underlying3
  a3 := Tryz.isAgg3
  z3 := Tryz.sizeOf3
  v3 := Tryz.zeroValue3
  t4 := Tryz.underlying4
  a4 := Tryz.isAgg4
  z4 := Tryz.sizeOf4
  v4 := Tryz.zeroValue4
  t5 := Tryz.underlying5
  a5 := Tryz.isAgg5
  z5 := Tryz.sizeOf5
  v5 := Tryz.zeroValue5
  t9 := Tryz.underlying9
  a9 := Tryz.isAgg9
  z9 := Tryz.sizeOf9
  v9 := Tryz.zeroValue9
  t46 := Tryz.underlying174
  a46 := Tryz.isAgg174
  z46 := Tryz.sizeOf174
  v46 := Tryz.zeroValue174
  t51 := Tryz.underlying38
  a51 := Tryz.isAgg38
  z51 := Tryz.sizeOf38
  v51 := Tryz.zeroValue38
  t53 := Tryz.underlying27
  a53 := Tryz.isAgg27
  z53 := Tryz.sizeOf27
  v53 := Tryz.zeroValue27 }

def compact64Ren : Go.Shelf.Ren := ⟨fun | 43 => 133 | n => n, fun | 22 => 47 | 23 => 27 | 3 => 3 | 4 => 4 | 0 => 0 | n => n, fun | n => n⟩
theorem compact64 : Go.Proofs.SlLaysE.n43 Tryz.prog compact64Ren := {
  mixed := by kernel_rfl
  f43 := ⟨Tryz.f133.name, by decide, Tryz.func133.trans (congrArg some (by kernel_rfl))⟩
  t0 := Tryz.underlying0
  a0 := Tryz.isAgg0
  z0 := Tryz.sizeOf0
  v0 := Tryz.zeroValue0
  t3 := Tryz.underlying3
  a3 := Tryz.isAgg3
  z3 := Tryz.sizeOf3
  v3 := Tryz.zeroValue3
  t4 := Tryz.underlying4
  a4 := Tryz.isAgg4
  z4 := Tryz.sizeOf4
  v4 := Tryz.zeroValue4
  t22 := Tryz.underlying47
  a22 := Tryz.isAgg47
  z22 := Tryz.sizeOf47
  v22 := Tryz.zeroValue47
  a23 := Tryz.isAgg27
  z23 := Tryz.sizeOf27 }

/-- What Sort leaves of a row of versions. -/
def SortPost (lo : Nat) (v : Value) (xs : List Nat) (w : World) (e : Ending) (w' : World) : Prop := e = .returned (.tuple #[]) ∧ ∃ ys : List Nat, ys.Perm xs ∧ ys.Pairwise (· ≤ ·) ∧ VersAt lo w' v ys ∧ Kept (ownB v) w w'
/-- Sort is right for so many at most. -/
def SortU (n : Nat) : Prop := ∀ (lo : Nat) (w : World) (v : Value) (xs : List Nat), VersAt lo w v xs → xs.length ≤ n → (∀ x ∈ xs, x < 18446744073709551616) → Calls Tryz.prog 106 #[v] w fun e w' => SortPost lo v xs w e w'
set_option maxHeartbeats 800000 in
theorem ins_small (a : Option Addr) (n c : Nat) (w : World) (hn : n ≤ 1) : Calls Tryz.prog 147 #[.slice a n c, .int .i64 0, .int .i64 (n : Int)] w fun e w' => e = .returned (.tuple #[]) ∧ w' = w := by
  go_enter Tryz.func147, Tryz.ntmps147
  go_wp2_with (fail)
  go_loop [6] (fun s6 => s6 = .int .i64 1) (fun _ => 0)
  case atStart => rfl
  case round =>
    subst hrel
    go_wp2
    go_end0
    exact ⟨rfl, rfl⟩
set_option maxHeartbeats 1600000 in
theorem pdq_small (a : Option Addr) (n c : Nat) (w : World) (hn : n ≤ 1) (l : Int) : Calls Tryz.prog 136 #[.slice a n c, .int .i64 0, .int .i64 (n : Int), .int .i64 l] w fun e w' => e = .returned (.tuple #[]) ∧ w' = w := by
  go_enter Tryz.func136, Tryz.ntmps136
  go_wp2_with (fail)
  go_loop [1, 2] (fun s1 s2 => s1 = .int .i64 0 ∧ s2 = .int .i64 (n : Int)) (fun _ _ => 0)
  case atStart => exact ⟨rfl, rfl⟩
  case round =>
    obtain ⟨rfl, rfl⟩ := hrel
    go_wp2_with (fail)
    refine (ins_small a n c w hn).mono ?_
    rintro e w' ⟨rfl, hw'⟩
    have hw'' := hw'.symm
    subst hw''
    clear hw'
    go_wp2
    refine bodyPost_ret (v := .tuple #[]) (results_none rfl _ _ _) rfl ?_
    exact ⟨rfl, rfl⟩
set_option maxHeartbeats 1600000 in
theorem sort_small : SortU 1 := by
  intro lo w v xs h hl _
  obtain ⟨a, c, rfl, hnc⟩ := h.form
  obtain ⟨n, hn⟩ : ∃ n, xs.length = n := ⟨_, rfl⟩
  have R := Lib.hid (show SortPost lo (.slice a xs.length c) xs w (.returned (.tuple #[])) w from ⟨rfl, xs, .refl _, by
    match xs, hl with
    | [], _ => exact List.Pairwise.nil
    | [x], _ => exact List.pairwise_singleton _ _, h, Kept.refl _ _⟩)
  have HB := Lib.hid (fun W => Any.bits_Len lays125 (n : Int) W (by omega) (by omega))
  rw [hn] at R hl ⊢
  have hcv : IntKind.u64.wrap (n : Int) = (n : Int) := by rw [IntKind.wrap_u64]; omega
  clear h
  go_enter Tryz.func106, Tryz.ntmps106
  go_wp2_with (first
    | (go_at_call 91; refine (HB.out _).mono ?_; rintro e w' ⟨rfl, hw'⟩; have hw'' := hw'.symm; subst hw''; clear hw')
    | (go_at_call 136; refine (pdq_small a n c _ hl _).mono ?_; rintro e w' ⟨rfl, hw'⟩; have hw'' := hw'.symm; subst hw''; clear hw'))
  go_end0
  exact R.out

/-- A sorted list of numbers, its runs cut down to one each. -/
theorem compact_risingZ (zs : List Int) (h : zs.Pairwise (· ≤ ·)) : (Lib.compactUpTo zs.toArray zs.length).Pairwise (· < ·) ∧ ∀ x, x ∈ Lib.compactUpTo zs.toArray zs.length ↔ x ∈ zs := by
  have hle : ∀ i j, i ≤ j → j < zs.length → zs.toArray[i]! ≤ zs.toArray[j]! := by
    intro i j hij hj
    rcases Nat.lt_or_eq_of_le hij with h1 | rfl
    · have := List.pairwise_iff_getElem.1 h i j (by omega) hj h1
      simpa [getElem!_pos, hj, Nat.lt_trans h1 hj] using this
    · exact Int.le_refl _
  have key : ∀ m, m ≤ zs.length → (Lib.compactUpTo zs.toArray m).Pairwise (· < ·) ∧ (∀ x, x ∈ Lib.compactUpTo zs.toArray m → ∃ j, j < m ∧ x = zs.toArray[j]!) ∧ ∀ j, j < m → zs.toArray[j]! ∈ Lib.compactUpTo zs.toArray m := by
    intro m
    induction m with
    | zero => intro _; exact ⟨by simp [Lib.compactUpTo], by simp [Lib.compactUpTo], fun j hj => by omega⟩
    | succ m ih =>
      intro hm
      obtain ⟨h1, h2, h3⟩ := ih (by omega)
      rw [Lib.compactUpTo_succ]
      by_cases hk : Lib.keeps zs.toArray m = true
      · rw [if_pos hk]
        refine ⟨?_, ?_, ?_⟩
        · rw [List.pairwise_append]
          refine ⟨h1, List.pairwise_singleton _ _, fun a ha b hb => ?_⟩
          have hb := List.mem_singleton.1 hb
          subst hb
          obtain ⟨j, hj, rfl⟩ := h2 a ha
          have hk' := of_decide_eq_true hk
          rcases hk' with rfl | hk'
          · omega
          · have e1 := hle j (m - 1) (by omega) (by omega)
            have e2 := hle (m - 1) m (by omega) (by omega)
            omega
        · intro x hx
          rcases List.mem_append.1 hx with hx | hx
          · obtain ⟨j, hj, e⟩ := h2 x hx
            exact ⟨j, by omega, e⟩
          · exact ⟨m, by omega, List.mem_singleton.1 hx⟩
        · intro j hj
          rcases Nat.lt_or_eq_of_le (Nat.le_of_lt_succ hj) with h | rfl
          · exact List.mem_append_left _ (h3 j h)
          · simp
      · rw [if_neg hk, List.append_nil]
        refine ⟨h1, fun x hx => ?_, fun j hj => ?_⟩
        · obtain ⟨j, hj, e⟩ := h2 x hx
          exact ⟨j, by omega, e⟩
        · rcases Nat.lt_or_eq_of_le (Nat.le_of_lt_succ hj) with h | rfl
          · exact h3 j h
          · have hk' : ¬ (j = 0 ∨ zs.toArray[j]! ≠ zs.toArray[j - 1]!) := fun hh => hk (decide_eq_true hh)
            have e : zs.toArray[j]! = zs.toArray[j - 1]! := Classical.byContradiction fun hh => hk' (.inr hh)
            have e0 : j ≠ 0 := fun hh => hk' (.inl hh)
            rw [e]
            exact h3 (j - 1) (by omega)
  obtain ⟨h1, h2, h3⟩ := key zs.length (Nat.le_refl _)
  refine ⟨h1, fun x => ⟨fun hx => ?_, fun hx => ?_⟩⟩
  · obtain ⟨j, hj, rfl⟩ := h2 x hx
    simp [getElem!_pos, hj]
  · obtain ⟨j, hj, rfl⟩ := List.mem_iff_getElem.1 hx
    have := h3 j hj
    simpa [getElem!_pos, hj] using this
theorem compact_len (d : Array Int) (m : Nat) : (Lib.compactUpTo d m).length ≤ m := by
  unfold Lib.compactUpTo
  rw [List.length_map]
  have := List.length_filter_le (Lib.keeps d) (List.range m)
  rwa [List.length_range] at this
def zsOf (xs : List Nat) : List Int := xs.map fun n : Nat => (n : Int)
theorem keptC_flat (xs : List Nat) : (keptC xs).flatten = (zsOf xs).map (Value.int .u64) := by
  induction xs with
  | nil => rfl
  | cons x xs ih =>
    show [.int .u64 (x : Int)] ++ (keptC xs).flatten = _
    rw [ih]
    rfl
theorem versAt_of {lo : Nat} {w : World} {v : Value} {xs : List Nat} (h : w.ownsRow lo 27 1 v xs.length ((zsOf xs).map (Value.int .u64))) : VersAt lo w v xs := by
  refine ⟨fun cs hcs => ?_, ?_⟩
  · obtain ⟨x, _, rfl⟩ := List.mem_map.1 hcs
    rfl
  · rw [keptC_flat, keptC, List.length_map]
    exact h
theorem VersAt.own {lo : Nat} {w : World} {v : Value} {xs : List Nat} (h : VersAt lo w v xs) : w.ownsRow lo 27 1 v xs.length ((zsOf xs).map (Value.int .u64)) := by
  have h2 := h.2
  rw [keptC_flat, keptC, List.length_map] at h2
  exact h2
theorem zs_back (l : List Int) (xs : List Nat) (h : ∀ x ∈ l, x ∈ zsOf xs) : zsOf (l.map Int.toNat) = l := by
  unfold zsOf
  rw [List.map_map]
  conv => rhs; rw [← List.map_id l]
  apply List.map_congr_left
  intro x hx
  obtain ⟨n, _, rfl⟩ := List.mem_map.1 (h x hx)
  rfl
set_option maxHeartbeats 1600000 in
/-- Compact of a sorted row of versions: each once, rising. -/
theorem compact_vers (lo : Nat) (w : World) (v : Value) (xs : List Nat) (h : VersAt lo w v xs) (hl : xs.length ≤ 100000) (hs : xs.Pairwise (· ≤ ·)) :
    Calls Tryz.prog 133 #[v] w fun e w' => ∃ (v' : Value) (ys : List Nat), e = .returned v' ∧ VersAt lo w' v' ys ∧ ys.Pairwise (· < ·) ∧ (∀ x, x ∈ ys ↔ x ∈ xs) ∧ ys.length ≤ xs.length ∧ Below lo w w' := by
  by_cases hsm : xs.length ≤ 1
  · obtain ⟨a, c, rfl, hnc⟩ := h.form
    obtain ⟨n, hn⟩ : ∃ n, xs.length = n := ⟨_, rfl⟩
    have R := Lib.hid (show ∃ (v' : Value) (ys : List Nat), (Ending.returned (.slice a xs.length c)) = .returned v' ∧ VersAt lo w v' ys ∧ ys.Pairwise (· < ·) ∧ (∀ x, x ∈ ys ↔ x ∈ xs) ∧ ys.length ≤ xs.length ∧ Below lo w w from ⟨_, xs, rfl, h, by
      match xs, hsm with
      | [], _ => exact List.Pairwise.nil
      | [x], _ => exact List.pairwise_singleton _ _, fun _ => Iff.rfl, Nat.le_refl _, Below.refl _ _⟩)
    rw [hn] at R hsm ⊢
    clear h hs
    go_enter Tryz.func133, Tryz.ntmps133
    go_wp2
    go_ret
    have := R.out
    rw [← hn] at this ⊢
    exact this
  · have ho := h.own
    have hv : v ≠ .slice none 0 0 := fun hv => by
      subst hv
      obtain ⟨a, c, e, _⟩ := h.form
      simp only [Value.slice.injEq] at e
      omega
    obtain ⟨g, cap, rfl, hbg, hgl, hncap, hcm, hlen, hH⟩ := Lib.holds_of_ownsRow ho hv
    have hzl : (zsOf xs).length = xs.length := by simp [zsOf]
    have hzs : (zsOf xs).Pairwise (· ≤ ·) := by
      unfold zsOf
      rw [List.pairwise_map]
      exact hs.imp fun h => by omega
    have hcz := compact_risingZ (zsOf xs) hzs
    have hcl := compact_len (zsOf xs).toArray (zsOf xs).length
    have hc := AnyE.slices_Compact compact64 (Value.int .u64) (fun _ => rfl) (.intD _ _ _) (.intD _ _ _) 0 (Tryz.zeroValue27) g 0 cap (zsOf xs).toArray w hH (by simp [hzl]; omega) (by simp [hzl]; omega)
    rw [show (zsOf xs).toArray.size = xs.length by simp [hzl]] at hc
    refine hc.mono ?_
    rintro e w' ⟨rfl, q, rfl⟩
    obtain ⟨C, hC⟩ : ∃ C, Lib.compactUpTo (zsOf xs).toArray xs.length = C := ⟨_, rfl⟩
    rw [hzl, hC] at hcz hcl
    rw [hC]
    have hback := zs_back C xs (fun x hx => (hcz.2 x).1 hx)
    have ho2 := Lib.ownsRow_putRow (q := q) (k := C.length) (ys := C ++ List.replicate (xs.length - C.length) 0) ho (by simp; omega) hcl
    rw [List.take_left] at ho2
    refine ⟨_, C.map Int.toNat, rfl, versAt_of ?_, ?_, fun x => ?_, by simpa using hcl, Lib.below_putRow (Below.refl lo w) hbg⟩
    · rw [hback, List.length_map]
      exact ho2
    · rw [List.pairwise_map]
      refine hcz.1.imp_of_mem fun {a b} ha hb hab => ?_
      obtain ⟨m, _, rfl⟩ := List.mem_map.1 ((hcz.2 a).1 ha)
      obtain ⟨n, _, rfl⟩ := List.mem_map.1 ((hcz.2 b).1 hb)
      simp at hab ⊢
      omega
    · rw [List.mem_map]
      constructor
      · rintro ⟨z, hz, rfl⟩
        obtain ⟨m, hm, rfl⟩ := List.mem_map.1 ((hcz.2 z).1 hz)
        exact hm
      · intro hx
        exact ⟨(x : Int), (hcz.2 _).2 (List.mem_map.2 ⟨x, hx, rfl⟩), by simp⟩
set_option maxRecDepth 100000 in
set_option maxHeartbeats 1600000 in
theorem clone64_any (lo : Nat) (w : World) (v : Value) (xs : List Nat) (h : VersAt lo w v xs) (hl : xs.length ≤ 100000) :
    Calls Tryz.prog 132 #[v] w fun e w' => ∃ v', e = .returned v' ∧ Below w.heap.size w w' ∧ VersAt w.heap.size w' v' xs := by
  obtain ⟨n, hn⟩ : ∃ n, xs.length = n := ⟨_, rfl⟩
  have ho := h.own
  have hzl : (zsOf xs).length = xs.length := by simp [zsOf]
  have ho2 : w.ownsRow lo 27 1 v ((zsOf xs).map (Value.int .u64)).length ((zsOf xs).map (Value.int .u64)) := by rw [List.length_map, hzl]; exact ho
  obtain ⟨a, c, rfl, hnc⟩ := h.form
  rw [hn] at hnc ho ho2 hl ⊢
  have HL := Lib.hid (show ((zsOf xs).map (Value.int .u64)).length = n from by rw [List.length_map, hzl]; exact hn)
  have HC := Lib.hid (show n = 0 ∨ ∃ b off, a = some ⟨b, off, none⟩ ∧ ∀ i, i < n → w.cell? ⟨b, off + i, none⟩ = ((zsOf xs).map (Value.int .u64))[i]? from by
    rcases own_cells1 ho2 with ⟨h1, h2⟩ | ⟨g, c', h1, _, _, _, h2⟩
    · simp only [Value.slice.injEq] at h1
      exact .inl h1.2.1
    · simp only [Value.slice.injEq] at h1
      obtain ⟨rfl, -, -⟩ := h1
      refine .inr ⟨g, 0, rfl, fun i hi => ?_⟩
      rw [Nat.zero_add]
      exact h2 i (by rw [HL.out]; exact hi))
  have HN := Lib.hid (show a = none → n = 0 ∧ c = 0 from fun ha => by
    rcases ho.2 with ⟨h1, h2⟩ | ⟨g, cap, cur, h1, _⟩
    · simp only [Value.slice.injEq] at h1
      exact ⟨h1.2.1, h1.2.2⟩
    · simp only [Value.slice.injEq] at h1
      rw [ha] at h1
      cases h1.1)
  clear h ho ho2
  go_enter Tryz.func132, Tryz.ntmps132
  go_wp2_with (at_builtin; go_must (refine app_one w rfl (.const (.slice none 0 0)) (.tmp 3) 47 27 rfl Tryz.underlying47 (.int .u64 0) 8 u64_info8 rfl w.heap.size (.slice none 0 0) [] rfl ⟨by simp, .inl ⟨rfl, rfl⟩⟩ a n c ((zsOf xs).map (Value.int .u64)) rfl HL.out HN.out HC.out (by simp [Value.oneCell']) (by simp; omega) (by simp; omega) (Nat.le_refl _) ?_))
  intro v' w' h1 h2
  have H1 := Lib.hid h1
  have H2 := Lib.hid ((Below.refl w.heap.size w).grown h2 (Nat.le_refl _) (fun k e => by cases e))
  clear h1 h2
  go_wp2
  go_ret
  refine ⟨_, rfl, H2.out, versAt_of ?_⟩
  have h3 := H1.out
  rw [hn]
  first | exact h3 | (rw [List.nil_append, HL.out] at h3; exact h3)

/-- Is a version kept by a sweep? -/
def keepP (L : List RowL) (last floor : Nat) (kept : List Nat) (x : Nat) : Bool := decide (x < last) && (PastC.st L last floor kept).known x
set_option maxRecDepth 100000 in
set_option maxHeartbeats 6400000 in
theorem stillKnown_any (w : World) (lo g : Nat) (It : List Nat) (u k : Value) (L : List RowL) (last floor : Nat) (kept : List Nat) (ka : Option Addr) (kn kc : Nat) (keep : List Nat) (hsort : SortU keep.length) (h : PastC w lo g It u k L last floor kept) (hk : VersIn w w.heap.size ka kn kc keep) :
    Calls Tryz.prog 102 #[.pointer (some ⟨g, 0, none⟩), .slice ka kn kc] w fun e w' => ∃ (v' : Value) (ks : List Nat), e = .returned v' ∧ Below w.heap.size w w' ∧ VersAt w.heap.size w' v' ks ∧ ks.Pairwise (· < ·) ∧ (∀ x, x ∈ ks ↔ x ∈ keep ∧ keepP L last floor kept x = true) ∧ ks.length ≤ keep.length := by
  have hkn := hk.2.2.1
  have HP := Lib.hid h
  have HK := Lib.hid hk
  have HSO := Lib.hid hsort
  clear h hk hsort
  go_enter Tryz.func102, Tryz.ntmps102
  go_wp2_with (fail)
  go_loopw [5, 10] (fun s5 s10 wr => ∃ i : Nat, s10 = .int .i64 i ∧ i ≤ kn ∧ Hid (VersAt w.heap.size wr s5 ((keep.take i).filter (keepP L last floor kept))) ∧ Hid (Below w.heap.size w wr)) (fun _ s10 _ => kn - (intOf s10).toNat)
  case atStart => exact ⟨0, rfl, by omega, RowC.nil _ _ _ _, Below.refl _ _⟩
  case round =>
    obtain ⟨i, rfl, hi, HR, HB⟩ := hrel
    have PW := Lib.hid (HP.out.on HB.out)
    have KW := Lib.hid (HK.out.under HB.out)
    have c1 : wr.cell? ⟨g, 1, none⟩ = some (.int .u64 (last : Int)) := PW.out.blk.cell 1
    have hws := HB.out.size
    obtain ⟨a5, c5, rfl, h5⟩ := HR.out.form
    obtain ⟨q, hq⟩ : ∃ q, ((keep.take i).filter (keepP L last floor kept)).length = q := ⟨_, rfl⟩
    have HQ := Lib.hid hq
    rw [hq] at HR h5 ⊢
    have hql : q ≤ i := by
      have h2 := List.length_filter_le (keepP L last floor kept) (keep.take i)
      rw [List.length_take, hq] at h2
      omega
    clear hq
    by_cases hin : i < kn
    · obtain ⟨x, hx⟩ : ∃ x, keep[i]? = some x := ⟨_, List.getElem?_eq_getElem (by rw [KW.out.1]; exact hin)⟩
      obtain ⟨hx64, b, off, rfl, _, hbw, kx⟩ := KW.out.2.2.2 i x hx
      have HX := Lib.hid hx64
      have FN := Lib.hid (filter_next hx (keepP L last floor kept))
      clear hx hx64
      by_cases hxl : x < last
      rotate_left
      · have hxb : decide ((x : Int) < (last : Int)) = false := decide_eq_false (by omega)
        have N2 := Lib.hid (show VersAt w.heap.size wr (.slice a5 q c5) ((keep.take (i + 1)).filter (keepP L last floor kept)) from by
          rw [FN.out, if_neg (by unfold keepP; rw [decide_eq_false hxl]; simp)]
          exact HR.out)
        go_wp2
        go_roundw
        case rel => exact ⟨i + 1, by go_num, by omega, N2.out, HB.out⟩
        case measure => simp [intOf]; omega
      have hxb : decide ((x : Int) < (last : Int)) = true := decide_eq_true (by omega)
      go_wp2_with (fail)
      refine (known_any wr lo g It u k L last floor kept x HX.out PW.out).mono ?_
      rintro e w2 ⟨rfl, hw2⟩
      have hw2' := hw2.symm
      subst hw2'
      clear hw2
      cases hz : (PastC.st L last floor kept).known x
      · have N2 := Lib.hid (show VersAt w.heap.size wr (.slice a5 q c5) ((keep.take (i + 1)).filter (keepP L last floor kept)) from by
          rw [FN.out, if_neg (by unfold keepP; rw [hz]; simp)]
          exact HR.out)
        clear hz
        go_wp2
        go_roundw
        case rel => exact ⟨i + 1, by go_num, by omega, N2.out, HB.out⟩
        case measure => simp [intOf]; omega
      · have FN2 := Lib.hid (show keptC ((keep.take (i + 1)).filter (keepP L last floor kept)) = keptC ((keep.take i).filter (keepP L last floor kept)) ++ [[.int .u64 (x : Int)]] from by rw [FN.out, if_pos (by unfold keepP; rw [hz, decide_eq_true hxl]; rfl)]; simp [keptC])
        have HQK := Lib.hid (show (keptC ((keep.take i).filter (keepP L last floor kept))).length = q from by rw [keptC, List.length_map]; exact HQ.out)
        have HR2 := Lib.hid (show RowC w.heap.size wr 27 1 (.slice a5 q c5) (keptC ((keep.take i).filter (keepP L last floor kept))) from HR.out)
        clear hz FN
        obtain ⟨css, hcss⟩ : ∃ css, keptC ((keep.take i).filter (keepP L last floor kept)) = css := ⟨_, rfl⟩
        rw [hcss] at HR2 FN2 HQK
        clear hcss
        go_wp2_with (at_builtin; go_must (refine app_c (k := 1) (css := css) wr rfl (.tmp 25) (.tmp 27) 47 rfl Tryz.underlying47 (.int .u64 0) 8 u64_info8 rfl (by decide) [.int .u64 (x : Int)] (by rfl) (by rfl) HR2.out rfl (by simp [Value.oneCell']) hws (by rw [HQK.out]; omega) (by rw [HQK.out]; omega) ?_))
        intro v7 w7 hr7 hk7 _
        have N2 := Lib.hid (show VersAt w.heap.size w7 v7 ((keep.take (i + 1)).filter (keepP L last floor kept)) from by unfold VersAt; rw [FN2.out]; exact hr7)
        have B7 := Lib.hid (HB.out.trans (hk7.below (fun x hx => (HR2.out.lt x (mem_ownB.1 hx)).1) hws))
        clear hr7 hk7 HR HR2 HB
        go_wp2
        go_roundw
        case rel => exact ⟨i + 1, by go_num, by omega, N2.out, B7.out⟩
        case measure => simp [intOf]; omega
    · have hik : i = kn := by omega
      subst hik
      have HTK := Lib.hid (show keep.take i = keep from List.take_of_length_le (by rw [HK.out.1]; exact Nat.le_refl _))
      rw [HTK.out] at HR HQ
      have KB := Lib.hid (show ∀ x ∈ keep.filter (keepP L last floor kept), x < 18446744073709551616 from fun x hx => by
        obtain ⟨j, hj⟩ := List.getElem?_of_mem (List.mem_filter.1 hx).1
        exact (KW.out.2.2.2 j x hj).1)
      have KL := Lib.hid (show (keep.filter (keepP L last floor kept)).length ≤ keep.length from List.length_filter_le _ _)
      have HKL := Lib.hid HK.out.1
      have SRT := Lib.hid (fun lo w v => HSO.out lo w v (keep.filter (keepP L last floor kept)))
      have MEM := Lib.hid (show ∀ x, x ∈ keep.filter (keepP L last floor kept) ↔ x ∈ keep ∧ keepP L last floor kept x = true from fun x => List.mem_filter)
      obtain ⟨ks0, hks0⟩ : ∃ ks0, keep.filter (keepP L last floor kept) = ks0 := ⟨_, rfl⟩
      rw [hks0] at HR HQ KB KL SRT MEM
      clear hks0 PW KW HTK hin c1
      go_wp2_with (fail)
      refine (SRT.out w.heap.size wr (.slice a5 q c5) HR.out KL.out KB.out).mono ?_
      rintro e w2 ⟨rfl, ys, hp, hs, hv2, hk2⟩
      have B2 := HB.out.trans (hk2.below (fun x hx => (RowC.lt HR.out x (mem_ownB.1 hx)).1) hws)
      have hyl : ys.length = q := by rw [hp.length_eq]; exact HQ.out
      go_wp2_with (fail)
      refine (compact_vers w.heap.size w2 (.slice a5 q c5) ys hv2 (by omega) hs).mono ?_
      rintro e w3 ⟨v3, zs, rfl, hv3, hs3, hm3, hl3, hb3⟩
      have B3 := B2.trans hb3
      obtain ⟨a6, c6, rfl, -⟩ := hv3.form
      obtain ⟨q6, hq6⟩ : ∃ q6, zs.length = q6 := ⟨_, rfl⟩
      have hq6' := Lib.hid hq6
      rw [hq6] at hv3 hl3 ⊢
      clear hq6
      go_wp2_with (fail)
      refine (clone64_any w.heap.size w3 (.slice a6 q6 c6) zs hv3 (by rw [hq6'.out]; omega)).mono ?_
      rintro e w4 ⟨v4, rfl, hb4, hv4⟩
      have R := Lib.hid (show ∃ (v' : Value) (ks : List Nat), Ending.returned v4 = .returned v' ∧ Below w.heap.size w w4 ∧ VersAt w.heap.size w4 v' ks ∧ ks.Pairwise (· < ·) ∧ (∀ x, x ∈ ks ↔ x ∈ keep ∧ keepP L last floor kept x = true) ∧ ks.length ≤ keep.length from
        ⟨v4, zs, rfl, B3.trans (hb4.mono B3.size), RowC.mono hv4 B3.size, hs3, fun x => by rw [hm3, hp.mem_iff, MEM.out], by
          have h1 := HKL.out
          have h2 := hq6'.out
          omega⟩)
      clear hb4 hv4 hb3 hv3 hk2 hv2 B2 B3
      go_wp2
      go_ret
      exact R.out
end Go.Proofs.YtdmnflncgmnghaaGreat
