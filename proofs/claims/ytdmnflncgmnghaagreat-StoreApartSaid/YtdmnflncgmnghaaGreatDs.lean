/-
  Sorting uint64: the library's pdqsort and all that it calls, by walks over their texts; slices.Sort is right for every row.
-/
import Derived.Test.YtdmnflncgmnghaaGreatCk
import Derived.Sort.AssemblyPlain
import Derived.Deep.QuietTactic
import Derived.BigQuiet
import Derived.BigRegion
import Derived.Deep.CutRange
import Derived.Shelf.SlSortCmp.Xorshift
import Derived.Sort.LotD5
namespace Go.Proofs.YtdmnflncgmnghaaGreat
open Go.RowKit Go.Shelf Go.Sort

def ltU (x y : Nat) : Bool := decide (x < y)
theorem swo_ltU : Go.Sort.SWO ltU where
  irrefl := fun x => by simp [ltU]
  trans := fun x y z => by simp only [ltU, decide_eq_true_eq]; omega
  ntrans := fun x y z => by simp only [ltU, decide_eq_false_iff_not]; omega
/-- A row of uint64 as an array. -/
structure ArrAt (lo : Nat) (w : World) (g n c : Nat) (d : Array Nat) : Prop where
  row : VersAt lo w (.slice (some ⟨g, 0, none⟩) n c) d.toList
  size : d.size = n
  lt64 : ∀ x ∈ d, x < 18446744073709551616
theorem keptC_flatU (l : List Nat) : (keptC l).flatten = l.map fun (x : Nat) => Value.int .u64 (x : Int) := by
  induction l with
  | nil => rfl
  | cons x l ih =>
    rw [keptC] at ih ⊢
    simp only [List.map_cons, List.flatten_cons, ih]
    rfl
section
variable {lo g n c : Nat} {w w' : World} {d : Array Nat}
theorem ArrAt.blk (h : ArrAt lo w g n c d) : ∃ cur, Blk w g 27 cur ∧ lo ≤ g ∧ cur.take n = d.toList.map (fun (x : Nat) => Value.int .u64 (x : Int)) ∧ cur.length = c ∧ n ≤ c ∧ c ≤ maxLen := by
  obtain ⟨h1, h2⟩ := h.row
  rw [keptC_flatU] at h2
  rcases h2.2 with ⟨e, _⟩ | ⟨g', cap, cur, e, hb, hh, k1, k2, k3, k4⟩
  · cases e
  · simp only [Value.slice.injEq, Option.some.injEq, Addr.mk.injEq] at e
    obtain ⟨⟨rfl, -⟩, e2, rfl⟩ := e
    refine ⟨cur.toList, by simpa [Blk] using hh, hb, ?_, by simpa using k3, by rw [e2]; exact k1, k2⟩
    rw [e2, ← k4, Nat.mul_one]
theorem ArrAt.cell (h : ArrAt lo w g n c d) {i : Nat} (hi : i < n) : w.cell? ⟨g, i, none⟩ = some (.int .u64 (d[i]! : Int)) := by
  obtain ⟨cur, h1, h2, h3, h4, h5, h6⟩ := h.blk
  have hs := h.size
  rw [h1.cell i, ← List.getElem?_take_of_lt hi, h3, List.getElem?_map, List.getElem?_eq_getElem (by simpa using by omega)]
  simp [show i < d.size by omega]
theorem ArrAt.frozen (h : ArrAt lo w g n c d) (i : Nat) : w.frozen? ⟨g, i, none⟩ = false := by
  obtain ⟨cur, h1, _⟩ := h.blk
  exact h1.frozen i
theorem ArrAt.lt (h : ArrAt lo w g n c d) : lo ≤ g ∧ g < w.heap.size := by
  obtain ⟨cur, h1, h2, _⟩ := h.blk
  exact ⟨h2, h1.lt⟩
theorem ArrAt.of_blk {cur : List Value} (h1 : Blk w g 27 cur) (h2 : lo ≤ g) (h3 : cur.take n = d.toList.map (fun (x : Nat) => Value.int .u64 (x : Int))) (h4 : cur.length = c) (h5 : n ≤ c) (h6 : c ≤ maxLen) (hs : d.size = n) (hx : ∀ x ∈ d, x < 18446744073709551616) : ArrAt lo w g n c d := by
  refine ⟨⟨fun cs hc => ?_, ?_⟩, hs, hx⟩
  · obtain ⟨x, _, rfl⟩ := List.mem_map.1 hc
    rfl
  · rw [keptC_flatU]
    have hl : (keptC d.toList).length = n := by simp [keptC, hs]
    rw [hl]
    exact ⟨by simp [hs], .inr ⟨g, c, cur.toArray, rfl, h2, h1, h5, h6, by simp [h4], by simpa using h3⟩⟩
theorem ArrAt.set (h : ArrAt lo w g n c d) {i x : Nat} (_ : i < n) (hx : x < 18446744073709551616) : ArrAt lo (w.setCell ⟨g, i, none⟩ (.int .u64 (x : Int))) g n c (d.setIfInBounds i x) := by
  obtain ⟨cur, h1, h2, h3, h4, h5, h6⟩ := h.blk
  refine ArrAt.of_blk (h1.set i _) h2 ?_ (by simp [h4]) h5 h6 (by simp [h.size]) (fun y hy => ?_)
  · rw [List.take_set, h3]
    simp [List.map_set]
  · rcases Array.mem_or_eq_of_mem_setIfInBounds hy with hy | rfl
    · exact h.lt64 y hy
    · exact hx
theorem ArrAt.kept {F : List Nat} (h : ArrAt lo w g n c d) (hk : Kept F w w') (hF : g ∉ F) : ArrAt lo w' g n c d := by
  obtain ⟨cur, h1, h2, h3, h4, h5, h6⟩ := h.blk
  exact ArrAt.of_blk (hk.blk h1 hF) h2 h3 h4 h5 h6 h.size h.lt64
theorem ArrAt.drew (h : ArrAt lo w g n c d) : ArrAt lo w.drew g n c d := h.kept ((Kept.refl [] w).drew) (by simp)
theorem ArrAt.at64 (h : ArrAt lo w g n c d) {i : Nat} (hi : i < n) : d[i]! < 18446744073709551616 := by
  have hs := h.size
  rw [getElem!_pos d i (by omega)]
  exact h.lt64 _ (Array.getElem_mem _)
/-- Two elements change places. -/
theorem ArrAt.swap (h : ArrAt lo w g n c d) {i j : Nat} (hi : i < n) (hj : j < n) : ArrAt lo ((w.setCell ⟨g, i, none⟩ (.int .u64 (d[j]! : Int))).setCell ⟨g, j, none⟩ (.int .u64 (d[i]! : Int))) g n c (Go.Sort.swp d i j) := (h.set hi (h.at64 hj)).set hj (h.at64 hi)
end

theorem ins_stop {a j : Nat} {d : Array Nat} (h : (decide (a < j) && ltU d[j]! d[j - 1]!) = false) : Go.Sort.insInner ltU a j d = d := by
  cases j with
  | zero => rfl
  | succ j =>
    rw [Go.Sort.insInner, if_neg]
    intro hh
    rw [Nat.add_sub_cancel] at h
    have : (decide (a < j + 1) && ltU d[j + 1]! d[j]!) = true := by simpa using hh
    rw [h] at this
    cases this
theorem ins_go {a j : Nat} {d : Array Nat} (h : (decide (a < j) && ltU d[j]! d[j - 1]!) = true) : a < j ∧ ltU d[j]! d[j - 1]! = true := by
  rw [Bool.and_eq_true, decide_eq_true_eq] at h
  exact h
theorem ins_step {a j : Nat} {d : Array Nat} (h1 : a < j) (h2 : ltU d[j]! d[j - 1]! = true) : Go.Sort.insInner ltU a j d = Go.Sort.insInner ltU a (j - 1) (Go.Sort.swp d j (j - 1)) := by
  cases j with
  | zero => omega
  | succ j =>
    rw [Nat.add_sub_cancel] at h2 ⊢
    rw [Go.Sort.insInner, if_pos]
    simp [h2]
    omega
/-- A region that draws, of which no way panics. -/
theorem region_calm {id : Nat} {ops : Array Oper} {Q : Exit → Act → World → Prop} {a : Act} {w : World} (h : wpAny Tryz.prog .any ops (fun e a w => match e with | .normal => Q .normal a w | _ => False) ops.size (Array.replicate ops.size false) a w.drew) : (Code.region id ops true).wp Tryz.prog Q a w :=
  wp_mono (wp_region_any (by kernel_rfl) h) (fun e a w => by
    cases e
    · exact fun h => h
    all_goals exact False.elim)
set_option maxRecDepth 100000 in
set_option maxHeartbeats 6400000 in
theorem ins_any64 (lo g n c a b : Nat) (w : World) (d : Array Nat) (h : ArrAt lo w g n c d) (hab : a ≤ b) (hb : b ≤ n) (hn : n ≤ 4294967296) :
    Calls Tryz.prog 147 #[.slice (some ⟨g, 0, none⟩) n c, .int .i64 (a : Int), .int .i64 (b : Int)] w fun e w' => e = .returned (.tuple #[]) ∧ ArrAt lo w' g n c (Go.Sort.insertionSort ltU d a b) ∧ Kept [g] w w' := by
  obtain ⟨R, hR⟩ : ∃ R, Go.Sort.insertionSort ltU d a b = R := ⟨_, rfl⟩
  rw [hR]
  have H0 := Lib.hid h
  have HR := Lib.hid (show Go.Sort.insOuter ltU a b (a + 1) d = R from hR)
  have hcn : n ≤ c := by
    obtain ⟨_, _, _, _, _, h5, _⟩ := h.blk
    exact h5
  clear h hR
  go_enter Tryz.func147, Tryz.ntmps147
  go_wp2_with (fail)
  go_loopw [6] (fun s6 wr => ∃ (i : Nat) (d1 : Array Nat), s6 = .int .i64 i ∧ a + 1 ≤ i ∧ i ≤ n + 1 ∧ Hid (Go.Sort.insOuter ltU a b i d1 = R) ∧ Hid (ArrAt lo wr g n c d1) ∧ Hid (Kept [g] w wr)) (fun s6 _ => n + 1 - (intOf s6).toNat)
  case atStart => exact ⟨a + 1, d, by go_num, by omega, by omega, HR.out, H0.out, Kept.refl _ _⟩
  case round =>
    clear H0 HR
    obtain ⟨i, d1, rfl, hi1, hi2, HR, HA, HK⟩ := hrel
    by_cases hib : i < b
    · obtain ⟨D1, hD1⟩ : ∃ D1, Go.Sort.insInner ltU a i d1 = D1 := ⟨_, rfl⟩
      have HR1 := Lib.hid (show Go.Sort.insOuter ltU a b (i + 1) D1 = R from by
        have := HR.out
        rw [Go.Sort.insOuter, if_pos hib, hD1] at this
        exact this)
      have HD := Lib.hid hD1
      clear hD1 HR
      go_wp2_with (fail)
      go_loopw [7] (fun s7 wr => ∃ (j : Nat) (d2 : Array Nat), s7 = .int .i64 j ∧ j ≤ i ∧ Hid (Go.Sort.insInner ltU a j d2 = D1) ∧ Hid (ArrAt lo wr g n c d2) ∧ Hid (Kept [g] w wr)) (fun s7 _ => (intOf s7).toNat)
      case atStart => exact ⟨i, d1, rfl, Nat.le_refl _, HD.out, HA.out, HK.out⟩
      case round =>
        clear HA HK HD
        obtain ⟨j, d2, rfl, hj, HD, HA, HK⟩ := hrel
        go_upto_region 4 with fail
        go_cut [30] (fun s30 wx => ∃ z : Bool, s30 = .bool z ∧ Hid (z = (decide (a < j) && ltU d2[j]! d2[j - 1]!)) ∧ Hid (ArrAt lo wx g n c d2) ∧ Hid (Kept [g] w wx))
        case first J K' hJ hKK =>
          by_cases haj : a < j
          · obtain ⟨k, hk⟩ : ∃ k, j - 1 = k := ⟨_, rfl⟩
            have c1 : wr.cell? ⟨g, j, none⟩ = some (.int .u64 (d2[j]! : Int)) := HA.out.cell (by omega)
            have c2 : wr.cell? ⟨g, k, none⟩ = some (.int .u64 (d2[k]! : Int)) := HA.out.cell (by omega)
            obtain ⟨y1, hy1⟩ : ∃ y1, d2[j]! = y1 := ⟨_, rfl⟩
            obtain ⟨y2, hy2⟩ : ∃ y2, d2[k]! = y2 := ⟨_, rfl⟩
            rw [hy1] at c1
            rw [hy2] at c2
            have Z := Lib.hid (show decide (y1 < y2) = (decide (a < j) && ltU d2[j]! d2[j - 1]!) from by rw [hk, hy1, hy2, decide_eq_true haj, Bool.true_and]; rfl)
            have hsub : (j : Int) - 1 = (k : Int) := by omega
            have hkn : k < n := by omega
            have hwk : IntKind.i64.wrap (k : Int) = (k : Int) := by rw [IntKind.wrap_i64]; omega
            have hjn : j < n := by omega
            have hd1 : decide ((a : Int) < (j : Int)) = true := decide_eq_true (by omega)
            have hd2 : decide ((j : Int) > (a : Int)) = true := decide_eq_true (by omega)
            have hgl := HA.out.lt.2
            clear hy1 hy2
            refine region_calm ?_
            refine wpAny_take (i := 0) (v := ?v0) rfl (by kernel_rfl) (by kernel_rfl) (by kernel_rfl) (fun _ _ _ h => h) (Or.inl ⟨by rfl, ?y0⟩) ?_
            case y0 => (intro w; go_simp) <;> with_reducible rfl
            go_simp
            refine wpAny_take (i := 1) (v := ?v1) rfl (by kernel_rfl) (by kernel_rfl) (by kernel_rfl) (fun _ _ _ h => h) (Or.inl ⟨by rfl, ?y1⟩) ?_
            case y1 => (intro w; go_simp) <;> with_reducible rfl
            go_simp
            refine wpAny_take (i := 2) (v := ?v2) rfl (by kernel_rfl) (by kernel_rfl) (by kernel_rfl) (fun _ _ _ h => h) (Or.inl ⟨by rfl, ?y2⟩) ?_
            case y2 => (intro w; go_simp) <;> with_reducible rfl
            go_simp
            refine wpAny_take (i := 3) (v := ?v3) rfl (by kernel_rfl) (by kernel_rfl) (by kernel_rfl) (fun _ _ _ h => h) (Or.inl ⟨by rfl, ?y3⟩) ?_
            case y3 => (intro w; go_simp) <;> with_reducible rfl
            go_simp
            refine wpAny_take (i := 4) (v := ?v4) rfl (by kernel_rfl) (by kernel_rfl) (by kernel_rfl) (fun _ _ _ h => h) (Or.inl ⟨by rfl, ?y4⟩) ?_
            case y4 => (intro w; go_simp) <;> with_reducible rfl
            go_simp
            refine wpAny_take (i := 5) (v := ?v5) rfl (by kernel_rfl) (by kernel_rfl) (by kernel_rfl) (fun _ _ _ h => h) (Or.inl ⟨by rfl, ?y5⟩) ?_
            case y5 => (intro w; go_simp) <;> with_reducible rfl
            go_simp
            refine wpAny_take (i := 6) (v := ?v6) rfl (by kernel_rfl) (by kernel_rfl) (by kernel_rfl) (fun _ _ _ h => h) (Or.inl ⟨by rfl, ?y6⟩) ?_
            case y6 => (intro w; go_simp) <;> with_reducible rfl
            go_simp
            refine wpAny_take (i := 8) (v := ?v8) rfl (by kernel_rfl) (by kernel_rfl) (by kernel_rfl) (fun _ _ _ h => h) (Or.inl ⟨by rfl, ?y8⟩) ?_
            case y8 => (intro w; go_simp) <;> with_reducible rfl
            go_simp
            refine wpAny_take (i := 9) (v := ?v9) rfl (by kernel_rfl) (by kernel_rfl) (by kernel_rfl) (fun _ _ _ h => h) (Or.inl ⟨by rfl, ?y9⟩) ?_
            case y9 => (intro w; go_simp) <;> with_reducible rfl
            go_simp
            refine wpAny_take (i := 10) (v := ?v10) rfl (by kernel_rfl) (by kernel_rfl) (by kernel_rfl) (fun _ _ _ h => h) (Or.inl ⟨by rfl, ?y10⟩) ?_
            case y10 => (intro w; go_simp) <;> with_reducible rfl
            go_simp
            refine wpAny_take (i := 11) (v := ?v11) rfl (by kernel_rfl) (by kernel_rfl) (by kernel_rfl) (fun _ _ _ h => h) (Or.inl ⟨by rfl, ?y11⟩) ?_
            case y11 => (intro w; go_simp) <;> with_reducible rfl
            go_simp
            refine wpAny_ready (rs := [7, 12]) (by kernel_rfl) (by simp) ?_
            refine AllReady.cons rfl (fun K hK => ?_) (AllReady.cons rfl (fun K hK => ?_) AllReady.nil)
            · (rw [if_pos (by rfl)]; go_simp; refine hK _ _ ?_; clear hK K)
              refine wpAny_ready (rs := [12]) (by kernel_rfl) (by simp) ?_
              refine AllReady.cons rfl (fun K hK => ?_) AllReady.nil
              (rw [if_pos (by rfl)]; go_simp; refine hK _ _ ?_; clear hK K)
              refine wpAny_ready (rs := [13]) (by kernel_rfl) (by simp) ?_
              refine AllReady.cons rfl (fun K hK => ?_) AllReady.nil
              (rw [if_pos (by rfl)]; go_simp; go_at_call 121; refine (less64 y1 y2 _).mono ?_; rintro e w' ⟨rfl, hw'⟩; have hw'' := hw'.symm; subst hw''; clear hw'; go_simp; refine hK _ _ ?_; clear hK K)
              refine wpAny_take (i := 14) (v := ?v14) rfl (by kernel_rfl) (by kernel_rfl) (by kernel_rfl) (fun _ _ _ h => h) (Or.inl ⟨by rfl, ?y14⟩) ?_
              case y14 => (intro w; go_simp) <;> with_reducible rfl
              go_simp
              refine wpAny_done (by kernel_rfl) ?_ _
              refine hKK _ _ (Met.intro (hJ _ _ ?_))
              (repeat apply Exists.intro)
              refine ⟨?_, rfl⟩
              exact ⟨_, rfl, Z.out, HA.out.drew, HK.out.drew⟩
            · (rw [if_pos (by rfl)]; go_simp; refine hK _ _ ?_; clear hK K)
              refine wpAny_ready (rs := [7]) (by kernel_rfl) (by simp) ?_
              refine AllReady.cons rfl (fun K hK => ?_) AllReady.nil
              (rw [if_pos (by rfl)]; go_simp; refine hK _ _ ?_; clear hK K)
              refine wpAny_ready (rs := [13]) (by kernel_rfl) (by simp) ?_
              refine AllReady.cons rfl (fun K hK => ?_) AllReady.nil
              (rw [if_pos (by rfl)]; go_simp; go_at_call 121; refine (less64 y1 y2 _).mono ?_; rintro e w' ⟨rfl, hw'⟩; have hw'' := hw'.symm; subst hw''; clear hw'; go_simp; refine hK _ _ ?_; clear hK K)
              refine wpAny_take (i := 14) (v := ?v14) rfl (by kernel_rfl) (by kernel_rfl) (by kernel_rfl) (fun _ _ _ h => h) (Or.inl ⟨by rfl, ?y14⟩) ?_
              case y14 => (intro w; go_simp) <;> with_reducible rfl
              go_simp
              refine wpAny_done (by kernel_rfl) ?_ _
              refine hKK _ _ (Met.intro (hJ _ _ ?_))
              (repeat apply Exists.intro)
              refine ⟨?_, rfl⟩
              exact ⟨_, rfl, Z.out, HA.out.drew, HK.out.drew⟩
          · have hd1 : decide ((a : Int) < (j : Int)) = false := decide_eq_false (by omega)
            have hle : j ≤ a := by omega
            have Z := Lib.hid (show false = (decide (a < j) && ltU d2[j]! d2[j - 1]!) from by rw [decide_eq_false haj, Bool.false_and])
            refine region_calm ?_
            refine wpAny_take (i := 0) (v := ?v0) rfl (by kernel_rfl) (by kernel_rfl) (by kernel_rfl) (fun _ _ _ h => h) (Or.inl ⟨by rfl, ?y0⟩) ?_
            case y0 => (intro w; go_simp) <;> with_reducible rfl
            go_simp
            refine wpAny_take (i := 1) (v := ?v1) rfl (by kernel_rfl) (by kernel_rfl) (by kernel_rfl) (fun _ _ _ h => h) (Or.inl ⟨by rfl, ?y1⟩) ?_
            case y1 => (intro w; go_simp) <;> with_reducible rfl
            go_simp
            refine wpAny_take (i := 2) (v := .bool false) rfl (by kernel_rfl) (by kernel_rfl) (by kernel_rfl) (fun _ _ _ h => h) (Or.inl ⟨by rfl, ?y2⟩) ?_
            case y2 => (intro w; go_simp; try (first | done | omega | (simp; omega)))
            go_simp
            refine wpAny_take (i := 3) (v := .bool false) rfl (by kernel_rfl) (by kernel_rfl) (by kernel_rfl) (fun _ _ _ h => h) (Or.inl ⟨by rfl, ?y3⟩) ?_
            case y3 => (intro w; go_simp)
            go_simp
            refine wpAny_take (i := 4) (v := undef) rfl (by kernel_rfl) (by kernel_rfl) (by kernel_rfl) (fun _ _ _ h => h) (Or.inr ⟨by rfl, rfl⟩) ?_
            go_simp
            refine wpAny_take (i := 5) (v := undef) rfl (by kernel_rfl) (by kernel_rfl) (by kernel_rfl) (fun _ _ _ h => h) (Or.inr ⟨by rfl, rfl⟩) ?_
            go_simp
            refine wpAny_take (i := 6) (v := undef) rfl (by kernel_rfl) (by kernel_rfl) (by kernel_rfl) (fun _ _ _ h => h) (Or.inr ⟨by rfl, rfl⟩) ?_
            go_simp
            refine wpAny_take (i := 7) (v := undef) rfl (by kernel_rfl) (by kernel_rfl) (by kernel_rfl) (fun _ _ _ h => h) (Or.inr ⟨by rfl, rfl⟩) ?_
            go_simp
            refine wpAny_take (i := 8) (v := undef) rfl (by kernel_rfl) (by kernel_rfl) (by kernel_rfl) (fun _ _ _ h => h) (Or.inr ⟨by rfl, rfl⟩) ?_
            go_simp
            refine wpAny_take (i := 9) (v := undef) rfl (by kernel_rfl) (by kernel_rfl) (by kernel_rfl) (fun _ _ _ h => h) (Or.inr ⟨by rfl, rfl⟩) ?_
            go_simp
            refine wpAny_take (i := 10) (v := undef) rfl (by kernel_rfl) (by kernel_rfl) (by kernel_rfl) (fun _ _ _ h => h) (Or.inr ⟨by rfl, rfl⟩) ?_
            go_simp
            refine wpAny_take (i := 11) (v := undef) rfl (by kernel_rfl) (by kernel_rfl) (by kernel_rfl) (fun _ _ _ h => h) (Or.inr ⟨by rfl, rfl⟩) ?_
            go_simp
            refine wpAny_take (i := 12) (v := undef) rfl (by kernel_rfl) (by kernel_rfl) (by kernel_rfl) (fun _ _ _ h => h) (Or.inr ⟨by rfl, rfl⟩) ?_
            go_simp
            refine wpAny_take (i := 13) (v := undef) rfl (by kernel_rfl) (by kernel_rfl) (by kernel_rfl) (fun _ _ _ h => h) (Or.inr ⟨by rfl, rfl⟩) ?_
            go_simp
            refine wpAny_take (i := 14) (v := .bool false) rfl (by kernel_rfl) (by kernel_rfl) (by kernel_rfl) (fun _ _ _ h => h) (Or.inl ⟨by rfl, ?y14⟩) ?_
            case y14 => (intro w; go_simp)
            go_simp
            refine wpAny_done (by kernel_rfl) ?_ _
            refine hKK _ _ (Met.intro (hJ _ _ ?_))
            (repeat apply Exists.intro)
            refine ⟨?_, rfl⟩
            exact ⟨_, rfl, Z.out, HA.out.drew, HK.out.drew⟩
        case rest =>
          obtain ⟨z, rfl, HZ, HA2, HK2⟩ := hcut
          clear HA HK
          cases z
          · have HD2 := Lib.hid (show d2 = D1 from by rw [← HD.out, ins_stop HZ.out.symm])
            rw [HD2.out] at HA2
            go_wp2
            exact ⟨⟨i + 1, D1, by go_num, by omega, by omega, HR1.out, HA2.out, HK2.out⟩, by simp [intOf]; omega⟩
          · obtain ⟨haj, hlt⟩ := ins_go HZ.out.symm
            obtain ⟨k, hk⟩ : ∃ k, j - 1 = k := ⟨_, rfl⟩
            have HS := Lib.hid (show Go.Sort.insInner ltU a k (Go.Sort.swp d2 j k) = D1 from by rw [← HD.out, ins_step haj hlt, hk])
            have SW := Lib.hid ((HA2.out.drew).swap (show j < n by omega) (show k < n by omega))
            have SK := Lib.hid (((HK2.out.drew).setCell ⟨g, j, none⟩ (.int .u64 (d2[k]! : Int)) (.inl (by simp))).setCell ⟨g, k, none⟩ (.int .u64 (d2[j]! : Int)) (.inl (by simp)))
            have c1 : wc.cell? ⟨g, j, none⟩ = some (.int .u64 (d2[j]! : Int)) := HA2.out.cell (by omega)
            have c2 : wc.cell? ⟨g, k, none⟩ = some (.int .u64 (d2[k]! : Int)) := HA2.out.cell (by omega)
            have f1 := HA2.out.frozen j
            have f2 := HA2.out.frozen k
            obtain ⟨y1, hy1⟩ : ∃ y1, d2[j]! = y1 := ⟨_, rfl⟩
            obtain ⟨y2, hy2⟩ : ∃ y2, d2[k]! = y2 := ⟨_, rfl⟩
            rw [hy1] at c1 SK SW
            rw [hy2] at c2 SK SW
            have hsub : (j : Int) - 1 = (k : Int) := by omega
            have hkn : k < n := by omega
            have hwk : IntKind.i64.wrap (k : Int) = (k : Int) := by rw [IntKind.wrap_i64]; omega
            have hjn : j < n := by omega
            have hjk : ¬ j = k := by omega
            have hkj : ¬ k = j := by omega
            have hgl := HA2.out.lt.2
            clear hy1 hy2 hlt
            go_wp2_with (fail)
            refine region_calm ?_
            refine wpAny_take (i := 0) (v := ?ss0) rfl (by kernel_rfl) (by kernel_rfl) (by kernel_rfl) (fun _ _ _ h => h) (Or.inl ⟨by rfl, ?zz0⟩) ?_
            case zz0 => (intro w; go_simp) <;> with_reducible rfl
            go_simp
            refine wpAny_take (i := 1) (v := ?ss1) rfl (by kernel_rfl) (by kernel_rfl) (by kernel_rfl) (fun _ _ _ h => h) (Or.inl ⟨by rfl, ?zz1⟩) ?_
            case zz1 => (intro w; go_simp) <;> with_reducible rfl
            go_simp
            refine wpAny_take (i := 2) (v := ?ss2) rfl (by kernel_rfl) (by kernel_rfl) (by kernel_rfl) (fun _ _ _ h => h) (Or.inl ⟨by rfl, ?zz2⟩) ?_
            case zz2 => (intro w; go_simp) <;> with_reducible rfl
            go_simp
            refine wpAny_take (i := 3) (v := ?ss3) rfl (by kernel_rfl) (by kernel_rfl) (by kernel_rfl) (fun _ _ _ h => h) (Or.inl ⟨by rfl, ?zz3⟩) ?_
            case zz3 => (intro w; go_simp) <;> with_reducible rfl
            go_simp
            refine wpAny_take (i := 4) (v := ?ss4) rfl (by kernel_rfl) (by kernel_rfl) (by kernel_rfl) (fun _ _ _ h => h) (Or.inl ⟨by rfl, ?zz4⟩) ?_
            case zz4 => (intro w; go_simp) <;> with_reducible rfl
            go_simp
            refine wpAny_take (i := 5) (v := ?ss5) rfl (by kernel_rfl) (by kernel_rfl) (by kernel_rfl) (fun _ _ _ h => h) (Or.inl ⟨by rfl, ?zz5⟩) ?_
            case zz5 => (intro w; go_simp) <;> with_reducible rfl
            go_simp
            refine wpAny_take (i := 6) (v := ?ss6) rfl (by kernel_rfl) (by kernel_rfl) (by kernel_rfl) (fun _ _ _ h => h) (Or.inl ⟨by rfl, ?zz6⟩) ?_
            case zz6 => (intro w; go_simp) <;> with_reducible rfl
            go_simp
            refine wpAny_take (i := 7) (v := ?ss7) rfl (by kernel_rfl) (by kernel_rfl) (by kernel_rfl) (fun _ _ _ h => h) (Or.inl ⟨by rfl, ?zz7⟩) ?_
            case zz7 => (intro w; go_simp) <;> with_reducible rfl
            go_simp
            refine wpAny_take (i := 8) (v := ?ss8) rfl (by kernel_rfl) (by kernel_rfl) (by kernel_rfl) (fun _ _ _ h => h) (Or.inl ⟨by rfl, ?zz8⟩) ?_
            case zz8 => (intro w; go_simp) <;> with_reducible rfl
            go_simp
            refine wpAny_take (i := 10) (v := ?ss10) rfl (by kernel_rfl) (by kernel_rfl) (by kernel_rfl) (fun _ _ _ h => h) (Or.inl ⟨by rfl, ?zz10⟩) ?_
            case zz10 => (intro w; go_simp) <;> with_reducible rfl
            go_simp
            refine wpAny_take (i := 11) (v := ?ss11) rfl (by kernel_rfl) (by kernel_rfl) (by kernel_rfl) (fun _ _ _ h => h) (Or.inl ⟨by rfl, ?zz11⟩) ?_
            case zz11 => (intro w; go_simp) <;> with_reducible rfl
            go_simp
            refine wpAny_take (i := 12) (v := ?ss12) rfl (by kernel_rfl) (by kernel_rfl) (by kernel_rfl) (fun _ _ _ h => h) (Or.inl ⟨by rfl, ?zz12⟩) ?_
            case zz12 => (intro w; go_simp) <;> with_reducible rfl
            go_simp
            refine wpAny_ready (rs := [9, 13]) (by kernel_rfl) (by simp) ?_
            refine AllReady.cons rfl (fun K hK => ?_) (AllReady.cons rfl (fun K hK => ?_) AllReady.nil)
            · (rw [if_pos (by rfl)]; go_simp; refine hK _ _ ?_; clear hK K)
              refine wpAny_ready (rs := [13]) (by kernel_rfl) (by simp) ?_
              refine AllReady.cons rfl (fun K hK => ?_) AllReady.nil
              (rw [if_pos (by rfl)]; go_simp; refine hK _ _ ?_; clear hK K)
              refine wpAny_take (i := 14) (v := ?ss14a) rfl (by kernel_rfl) (by kernel_rfl) (by kernel_rfl) (fun _ _ _ h => h) (Or.inl ⟨by rfl, ?zz14a⟩) ?_
              case zz14a => (intro w; go_simp) <;> with_reducible rfl
              go_simp
              refine wpAny_ready (rs := [15]) (by kernel_rfl) (by simp) ?_
              refine AllReady.cons rfl (fun K hK => ?_) AllReady.nil
              (rw [if_pos (by rfl)]; go_simp; refine hK _ _ ?_; clear hK K)
              refine wpAny_take (i := 16) (v := ?ss16a) rfl (by kernel_rfl) (by kernel_rfl) (by kernel_rfl) (fun _ _ _ h => h) (Or.inl ⟨by rfl, ?zz16a⟩) ?_
              case zz16a => (intro w; go_simp) <;> with_reducible rfl
              go_simp
              refine wpAny_ready (rs := [17]) (by kernel_rfl) (by simp) ?_
              refine AllReady.cons rfl (fun K hK => ?_) AllReady.nil
              (rw [if_pos (by rfl)]; go_simp; refine hK _ _ ?_; clear hK K)
              refine wpAny_done (by kernel_rfl) ?_ _
              go_wp2
              go_roundw
              case rel => exact ⟨k, _, by go_num, by omega, HS.out, SW.out, SK.out⟩
              case measure => simp [intOf]; omega
            · (rw [if_pos (by rfl)]; go_simp; refine hK _ _ ?_; clear hK K)
              refine wpAny_ready (rs := [9]) (by kernel_rfl) (by simp) ?_
              refine AllReady.cons rfl (fun K hK => ?_) AllReady.nil
              (rw [if_pos (by rfl)]; go_simp; refine hK _ _ ?_; clear hK K)
              refine wpAny_take (i := 14) (v := ?ss14b) rfl (by kernel_rfl) (by kernel_rfl) (by kernel_rfl) (fun _ _ _ h => h) (Or.inl ⟨by rfl, ?zz14b⟩) ?_
              case zz14b => (intro w; go_simp) <;> with_reducible rfl
              go_simp
              refine wpAny_ready (rs := [15]) (by kernel_rfl) (by simp) ?_
              refine AllReady.cons rfl (fun K hK => ?_) AllReady.nil
              (rw [if_pos (by rfl)]; go_simp; refine hK _ _ ?_; clear hK K)
              refine wpAny_take (i := 16) (v := ?ss16b) rfl (by kernel_rfl) (by kernel_rfl) (by kernel_rfl) (fun _ _ _ h => h) (Or.inl ⟨by rfl, ?zz16b⟩) ?_
              case zz16b => (intro w; go_simp) <;> with_reducible rfl
              go_simp
              refine wpAny_ready (rs := [17]) (by kernel_rfl) (by simp) ?_
              refine AllReady.cons rfl (fun K hK => ?_) AllReady.nil
              (rw [if_pos (by rfl)]; go_simp; refine hK _ _ ?_; clear hK K)
              refine wpAny_done (by kernel_rfl) ?_ _
              go_wp2
              go_roundw
              case rel => exact ⟨k, _, by go_num, by omega, HS.out, SW.out, SK.out⟩
              case measure => simp [intOf]; omega
    · have HF := Lib.hid (show d1 = R from by
        have := HR.out
        rw [Go.Sort.insOuter, if_neg hib] at this
        exact this)
      rw [HF.out] at HA
      have HA9 := Lib.hid HA.out
      clear HR HA
      go_wp2
      go_end0
      exact ⟨rfl, HA9.out, HK.out⟩

set_option maxRecDepth 100000 in
set_option maxHeartbeats 6400000 in
theorem rev_any64 (lo g n c a b : Nat) (w : World) (d : Array Nat) (h : ArrAt lo w g n c d) (hab : a < b) (hb : b ≤ n) (hn : n ≤ 4294967296) :
    Calls Tryz.prog 151 #[.slice (some ⟨g, 0, none⟩) n c, .int .i64 (a : Int), .int .i64 (b : Int)] w fun e w' => e = .returned (.tuple #[]) ∧ ArrAt lo w' g n c (Go.Sort.reverseRange d a b) ∧ Kept [g] w w' := by
  obtain ⟨R, hR⟩ : ∃ R, Go.Sort.reverseRange d a b = R := ⟨_, rfl⟩
  rw [hR]
  have H0 := Lib.hid h
  have HR := Lib.hid (show Go.Sort.reverseLoop a (b - 1) d = R from hR)
  have hcn : n ≤ c := by
    obtain ⟨_, _, _, _, _, h5, _⟩ := h.blk
    exact h5
  clear h hR
  go_enter Tryz.func151, Tryz.ntmps151
  go_wp2_with (fail)
  go_loopw [6, 7] (fun s6 s7 wr => ∃ (i j : Nat) (d1 : Array Nat), s6 = .int .i64 i ∧ s7 = .int .i64 j ∧ i ≤ n ∧ j < n ∧ i ≤ j + 1 ∧ Hid (Go.Sort.reverseLoop i j d1 = R) ∧ Hid (ArrAt lo wr g n c d1) ∧ Hid (Kept [g] w wr)) (fun _ s7 _ => (intOf s7).toNat)
  case atStart => exact ⟨a, b - 1, d, rfl, by go_num, by omega, by omega, by omega, HR.out, H0.out, Kept.refl _ _⟩
  case round =>
    clear H0 HR
    obtain ⟨i, j, d1, rfl, rfl, hi, hj, hij, HR, HA, HK⟩ := hrel
    by_cases hlt : i < j
    · obtain ⟨k, hk⟩ : ∃ k, j - 1 = k := ⟨_, rfl⟩
      have HS := Lib.hid (show Go.Sort.reverseLoop (i + 1) k (Go.Sort.swp d1 i j) = R from by
        have := HR.out
        rw [Go.Sort.reverseLoop, if_pos hlt, hk] at this
        exact this)
      have hin : i < n := by omega
      have SW := Lib.hid ((HA.out.drew).swap hin hj)
      have SK := Lib.hid (((HK.out.drew).setCell ⟨g, i, none⟩ (.int .u64 (d1[j]! : Int)) (.inl (by simp))).setCell ⟨g, j, none⟩ (.int .u64 (d1[i]! : Int)) (.inl (by simp)))
      have c1 : wr.cell? ⟨g, i, none⟩ = some (.int .u64 (d1[i]! : Int)) := HA.out.cell hin
      have c2 : wr.cell? ⟨g, j, none⟩ = some (.int .u64 (d1[j]! : Int)) := HA.out.cell hj
      have f1 := HA.out.frozen i
      have f2 := HA.out.frozen j
      obtain ⟨y1, hy1⟩ : ∃ y1, d1[i]! = y1 := ⟨_, rfl⟩
      obtain ⟨y2, hy2⟩ : ∃ y2, d1[j]! = y2 := ⟨_, rfl⟩
      rw [hy1] at c1 SK SW
      rw [hy2] at c2 SK SW
      have hsub : (j : Int) - 1 = (k : Int) := by omega
      have hjk : ¬ i = j := by omega
      have hkj : ¬ j = i := by omega
      have hgl := HA.out.lt.2
      clear hy1 hy2 HR HA HK
      go_wp2_with (fail)
      refine region_calm ?_
      refine wpAny_take (i := 0) (v := ?v0) rfl (by kernel_rfl) (by kernel_rfl) (by kernel_rfl) (fun _ _ _ h => h) (Or.inl ⟨by rfl, ?y0⟩) ?_
      case y0 => (intro w; go_simp) <;> with_reducible rfl
      go_simp
      refine wpAny_take (i := 1) (v := ?v1) rfl (by kernel_rfl) (by kernel_rfl) (by kernel_rfl) (fun _ _ _ h => h) (Or.inl ⟨by rfl, ?y1⟩) ?_
      case y1 => (intro w; go_simp) <;> with_reducible rfl
      go_simp
      refine wpAny_take (i := 2) (v := ?v2) rfl (by kernel_rfl) (by kernel_rfl) (by kernel_rfl) (fun _ _ _ h => h) (Or.inl ⟨by rfl, ?y2⟩) ?_
      case y2 => (intro w; go_simp) <;> with_reducible rfl
      go_simp
      refine wpAny_take (i := 3) (v := ?v3) rfl (by kernel_rfl) (by kernel_rfl) (by kernel_rfl) (fun _ _ _ h => h) (Or.inl ⟨by rfl, ?y3⟩) ?_
      case y3 => (intro w; go_simp) <;> with_reducible rfl
      go_simp
      refine wpAny_take (i := 4) (v := ?v4) rfl (by kernel_rfl) (by kernel_rfl) (by kernel_rfl) (fun _ _ _ h => h) (Or.inl ⟨by rfl, ?y4⟩) ?_
      case y4 => (intro w; go_simp) <;> with_reducible rfl
      go_simp
      refine wpAny_take (i := 5) (v := ?v5) rfl (by kernel_rfl) (by kernel_rfl) (by kernel_rfl) (fun _ _ _ h => h) (Or.inl ⟨by rfl, ?y5⟩) ?_
      case y5 => (intro w; go_simp) <;> with_reducible rfl
      go_simp
      refine wpAny_take (i := 6) (v := ?v6) rfl (by kernel_rfl) (by kernel_rfl) (by kernel_rfl) (fun _ _ _ h => h) (Or.inl ⟨by rfl, ?y6⟩) ?_
      case y6 => (intro w; go_simp) <;> with_reducible rfl
      go_simp
      refine wpAny_take (i := 8) (v := ?v8) rfl (by kernel_rfl) (by kernel_rfl) (by kernel_rfl) (fun _ _ _ h => h) (Or.inl ⟨by rfl, ?y8⟩) ?_
      case y8 => (intro w; go_simp) <;> with_reducible rfl
      go_simp
      refine wpAny_take (i := 9) (v := ?v9) rfl (by kernel_rfl) (by kernel_rfl) (by kernel_rfl) (fun _ _ _ h => h) (Or.inl ⟨by rfl, ?y9⟩) ?_
      case y9 => (intro w; go_simp) <;> with_reducible rfl
      go_simp
      refine wpAny_take (i := 10) (v := ?v10) rfl (by kernel_rfl) (by kernel_rfl) (by kernel_rfl) (fun _ _ _ h => h) (Or.inl ⟨by rfl, ?y10⟩) ?_
      case y10 => (intro w; go_simp) <;> with_reducible rfl
      go_simp
      refine wpAny_ready (rs := [7, 11]) (by kernel_rfl) (by simp) ?_
      refine AllReady.cons rfl (fun K hK => ?_) (AllReady.cons rfl (fun K hK => ?_) AllReady.nil)
      · (rw [if_pos (by rfl)]; go_simp; refine hK _ _ ?_; clear hK K)
        refine wpAny_ready (rs := [11]) (by kernel_rfl) (by simp) ?_
        refine AllReady.cons rfl (fun K hK => ?_) AllReady.nil
        (rw [if_pos (by rfl)]; go_simp; refine hK _ _ ?_; clear hK K)
        refine wpAny_take (i := 12) (v := ?v12a) rfl (by kernel_rfl) (by kernel_rfl) (by kernel_rfl) (fun _ _ _ h => h) (Or.inl ⟨by rfl, ?y12a⟩) ?_
        case y12a => (intro w; go_simp) <;> with_reducible rfl
        go_simp
        refine wpAny_ready (rs := [13]) (by kernel_rfl) (by simp) ?_
        refine AllReady.cons rfl (fun K hK => ?_) AllReady.nil
        (rw [if_pos (by rfl)]; go_simp; refine hK _ _ ?_; clear hK K)
        refine wpAny_take (i := 14) (v := ?v14a) rfl (by kernel_rfl) (by kernel_rfl) (by kernel_rfl) (fun _ _ _ h => h) (Or.inl ⟨by rfl, ?y14a⟩) ?_
        case y14a => (intro w; go_simp) <;> with_reducible rfl
        go_simp
        refine wpAny_ready (rs := [15]) (by kernel_rfl) (by simp) ?_
        refine AllReady.cons rfl (fun K hK => ?_) AllReady.nil
        (rw [if_pos (by rfl)]; go_simp; refine hK _ _ ?_; clear hK K)
        refine wpAny_done (by kernel_rfl) ?_ _
        go_wp2
        go_roundw
        case rel => exact ⟨i + 1, k, _, by go_num, by go_num, by omega, by omega, by omega, HS.out, SW.out, SK.out⟩
        case measure => simp [intOf]; omega
      · (rw [if_pos (by rfl)]; go_simp; refine hK _ _ ?_; clear hK K)
        refine wpAny_ready (rs := [7]) (by kernel_rfl) (by simp) ?_
        refine AllReady.cons rfl (fun K hK => ?_) AllReady.nil
        (rw [if_pos (by rfl)]; go_simp; refine hK _ _ ?_; clear hK K)
        refine wpAny_take (i := 12) (v := ?v12b) rfl (by kernel_rfl) (by kernel_rfl) (by kernel_rfl) (fun _ _ _ h => h) (Or.inl ⟨by rfl, ?y12b⟩) ?_
        case y12b => (intro w; go_simp) <;> with_reducible rfl
        go_simp
        refine wpAny_ready (rs := [13]) (by kernel_rfl) (by simp) ?_
        refine AllReady.cons rfl (fun K hK => ?_) AllReady.nil
        (rw [if_pos (by rfl)]; go_simp; refine hK _ _ ?_; clear hK K)
        refine wpAny_take (i := 14) (v := ?v14b) rfl (by kernel_rfl) (by kernel_rfl) (by kernel_rfl) (fun _ _ _ h => h) (Or.inl ⟨by rfl, ?y14b⟩) ?_
        case y14b => (intro w; go_simp) <;> with_reducible rfl
        go_simp
        refine wpAny_ready (rs := [15]) (by kernel_rfl) (by simp) ?_
        refine AllReady.cons rfl (fun K hK => ?_) AllReady.nil
        (rw [if_pos (by rfl)]; go_simp; refine hK _ _ ?_; clear hK K)
        refine wpAny_done (by kernel_rfl) ?_ _
        go_wp2
        go_roundw
        case rel => exact ⟨i + 1, k, _, by go_num, by go_num, by omega, by omega, by omega, HS.out, SW.out, SK.out⟩
        case measure => simp [intOf]; omega
    · have HF := Lib.hid (show d1 = R from by
        have := HR.out
        rw [Go.Sort.reverseLoop, if_neg hlt] at this
        exact this)
      rw [HF.out] at HA
      have HA9 := Lib.hid HA.out
      clear HR HA
      go_wp2
      go_end0
      exact ⟨rfl, HA9.out, HK.out⟩

set_option maxRecDepth 100000 in
set_option maxHeartbeats 3200000 in
theorem order2_any64 (lo g n c a b s k : Nat) (w : World) (d : Array Nat) (h : ArrAt lo w g n c d) (ha : a < n) (hb : b < n) (hs : Blk w s 3 [.int .i64 (k : Int)]) (hk : k ≤ 1000) :
    Calls Tryz.prog 160 #[.slice (some ⟨g, 0, none⟩) n c, .int .i64 (a : Int), .int .i64 (b : Int), .pointer (some ⟨s, 0, none⟩)] w fun e w' => e = .returned (.tuple #[.int .i64 ((Go.Sort.order2 ltU d a b k).1 : Int), .int .i64 ((Go.Sort.order2 ltU d a b k).2.1 : Int)]) ∧ Blk w' s 3 [.int .i64 ((Go.Sort.order2 ltU d a b k).2.2 : Int)] ∧ Kept [s] w w' := by
  have hcn : n ≤ c := by
    obtain ⟨_, _, _, _, _, h5, _⟩ := h.blk
    exact h5
  have c1 : w.cell? ⟨g, b, none⟩ = some (.int .u64 (d[b]! : Int)) := h.cell hb
  have c2 : w.cell? ⟨g, a, none⟩ = some (.int .u64 (d[a]! : Int)) := h.cell ha
  have ks : w.cell? ⟨s, 0, none⟩ = some (.int .i64 (k : Int)) := hs.cell 0
  have fs := hs.frozen 0
  have hsl := hs.lt
  have HS := Lib.hid hs
  obtain ⟨y1, hy1⟩ : ∃ y1, d[b]! = y1 := ⟨_, rfl⟩
  obtain ⟨y2, hy2⟩ : ∃ y2, d[a]! = y2 := ⟨_, rfl⟩
  have HO := Lib.hid (show Go.Sort.order2 ltU d a b k = if decide (y1 < y2) = true then (b, a, k + 1) else (a, b, k) from by unfold Go.Sort.order2 ltU; rw [hy1, hy2])
  rw [hy1] at c1
  rw [hy2] at c2
  obtain ⟨O, hO⟩ : ∃ O, Go.Sort.order2 ltU d a b k = O := ⟨_, rfl⟩
  rw [hO] at HO ⊢
  have hgl := h.lt.2
  clear hy1 hy2 hO h hs
  go_enter Tryz.func160, Tryz.ntmps160
  go_upto_region 1 with fail
  refine region_calm ?_
  refine wpAny_take (i := 0) (v := ?v0) rfl (by kernel_rfl) (by kernel_rfl) (by kernel_rfl) (fun _ _ _ h => h) (Or.inl ⟨by rfl, ?y0⟩) ?_
  case y0 => (intro w; go_simp) <;> with_reducible rfl
  go_simp
  refine wpAny_take (i := 1) (v := ?v1) rfl (by kernel_rfl) (by kernel_rfl) (by kernel_rfl) (fun _ _ _ h => h) (Or.inl ⟨by rfl, ?y1⟩) ?_
  case y1 => (intro w; go_simp) <;> with_reducible rfl
  go_simp
  refine wpAny_take (i := 2) (v := ?v2) rfl (by kernel_rfl) (by kernel_rfl) (by kernel_rfl) (fun _ _ _ h => h) (Or.inl ⟨by rfl, ?y2⟩) ?_
  case y2 => (intro w; go_simp) <;> with_reducible rfl
  go_simp
  refine wpAny_take (i := 4) (v := ?v4) rfl (by kernel_rfl) (by kernel_rfl) (by kernel_rfl) (fun _ _ _ h => h) (Or.inl ⟨by rfl, ?y4⟩) ?_
  case y4 => (intro w; go_simp) <;> with_reducible rfl
  go_simp
  refine wpAny_take (i := 5) (v := ?v5) rfl (by kernel_rfl) (by kernel_rfl) (by kernel_rfl) (fun _ _ _ h => h) (Or.inl ⟨by rfl, ?y5⟩) ?_
  case y5 => (intro w; go_simp) <;> with_reducible rfl
  go_simp
  refine wpAny_take (i := 6) (v := ?v6) rfl (by kernel_rfl) (by kernel_rfl) (by kernel_rfl) (fun _ _ _ h => h) (Or.inl ⟨by rfl, ?y6⟩) ?_
  case y6 => (intro w; go_simp) <;> with_reducible rfl
  go_simp
  refine wpAny_ready (rs := [3, 7]) (by kernel_rfl) (by simp) ?_
  refine AllReady.cons rfl (fun K hK => ?_) (AllReady.cons rfl (fun K hK => ?_) AllReady.nil)
  · (rw [if_pos (by rfl)]; go_simp; refine hK _ _ ?_; clear hK K)
    refine wpAny_ready (rs := [7]) (by kernel_rfl) (by simp) ?_
    refine AllReady.cons rfl (fun K hK => ?_) AllReady.nil
    (rw [if_pos (by rfl)]; go_simp; refine hK _ _ ?_; clear hK K)
    refine wpAny_ready (rs := [8]) (by kernel_rfl) (by simp) ?_
    refine AllReady.cons rfl (fun K hK => ?_) AllReady.nil
    (rw [if_pos (by rfl)]; go_simp; go_at_call 121; refine (less64 y1 y2 _).mono ?_; rintro e w' ⟨rfl, hw'⟩; have hw'' := hw'.symm; subst hw''; clear hw'; go_simp; refine hK _ _ ?_; clear hK K)
    refine wpAny_done (by kernel_rfl) ?_ _
    cases hlt : decide (y1 < y2)
    · obtain rfl : O = (a, b, k) := by rw [HO.out, hlt]; rfl
      clear HO
      go_wp2
      refine bodyPost_ret (results_tmp2 rfl _ _ _) rfl ?_
      exact ⟨rfl, HS.out, (Kept.refl _ _).drew⟩
    · obtain rfl : O = (b, a, k + 1) := by rw [HO.out, hlt]; rfl
      have SW := Lib.hid (show Blk (w.setCell ⟨s, 0, none⟩ (.int .i64 ((k + 1 : Nat) : Int))).drew s 3 [.int .i64 ((k + 1 : Nat) : Int)] from HS.out.set 0 _)
      have SK := Lib.hid (((Kept.refl [s] w).setCell ⟨s, 0, none⟩ (.int .i64 ((k + 1 : Nat) : Int)) (.inl (by simp))).drew)
      clear HO
      go_wp2
      refine bodyPost_ret (results_tmp2 rfl _ _ _) rfl ?_
      exact ⟨rfl, SW.out, SK.out⟩
  · (rw [if_pos (by rfl)]; go_simp; refine hK _ _ ?_; clear hK K)
    refine wpAny_ready (rs := [3]) (by kernel_rfl) (by simp) ?_
    refine AllReady.cons rfl (fun K hK => ?_) AllReady.nil
    (rw [if_pos (by rfl)]; go_simp; refine hK _ _ ?_; clear hK K)
    refine wpAny_ready (rs := [8]) (by kernel_rfl) (by simp) ?_
    refine AllReady.cons rfl (fun K hK => ?_) AllReady.nil
    (rw [if_pos (by rfl)]; go_simp; go_at_call 121; refine (less64 y1 y2 _).mono ?_; rintro e w' ⟨rfl, hw'⟩; have hw'' := hw'.symm; subst hw''; clear hw'; go_simp; refine hK _ _ ?_; clear hK K)
    refine wpAny_done (by kernel_rfl) ?_ _
    cases hlt : decide (y1 < y2)
    · obtain rfl : O = (a, b, k) := by rw [HO.out, hlt]; rfl
      clear HO
      go_wp2
      refine bodyPost_ret (results_tmp2 rfl _ _ _) rfl ?_
      exact ⟨rfl, HS.out, (Kept.refl _ _).drew⟩
    · obtain rfl : O = (b, a, k + 1) := by rw [HO.out, hlt]; rfl
      have SW := Lib.hid (show Blk (w.setCell ⟨s, 0, none⟩ (.int .i64 ((k + 1 : Nat) : Int))).drew s 3 [.int .i64 ((k + 1 : Nat) : Int)] from HS.out.set 0 _)
      have SK := Lib.hid (((Kept.refl [s] w).setCell ⟨s, 0, none⟩ (.int .i64 ((k + 1 : Nat) : Int)) (.inl (by simp))).drew)
      clear HO
      go_wp2
      refine bodyPost_ret (results_tmp2 rfl _ _ _) rfl ?_
      exact ⟨rfl, SW.out, SK.out⟩

theorem order2_lt {d : Array Nat} {n a b k : Nat} (ha : a < n) (hb : b < n) : (Go.Sort.order2 ltU d a b k).1 < n ∧ (Go.Sort.order2 ltU d a b k).2.1 < n ∧ (Go.Sort.order2 ltU d a b k).2.2 ≤ k + 1 := by
  unfold Go.Sort.order2
  split
  · exact ⟨hb, ha, Nat.le_refl _⟩
  · exact ⟨ha, hb, Nat.le_succ _⟩
theorem median_lt {d : Array Nat} {n a b c k : Nat} (ha : a < n) (hb : b < n) (hc : c < n) : (Go.Sort.median ltU d a b c k).1 < n ∧ (Go.Sort.median ltU d a b c k).2 ≤ k + 3 := by
  have h1 := order2_lt (d := d) (k := k) ha hb
  have h2 := order2_lt (d := d) (k := (Go.Sort.order2 ltU d a b k).2.2) h1.2.1 hc
  have h3 := order2_lt (d := d) (k := (Go.Sort.order2 ltU d (Go.Sort.order2 ltU d a b k).2.1 c (Go.Sort.order2 ltU d a b k).2.2).2.2) h1.1 h2.1
  refine ⟨h3.2.1, ?_⟩
  show (Go.Sort.order2 ltU d _ _ _).2.2 ≤ k + 3
  omega
set_option maxRecDepth 100000 in
set_option maxHeartbeats 3200000 in
theorem median_any64 (lo g n c a b e s k : Nat) (w : World) (d : Array Nat) (h : ArrAt lo w g n c d) (ha : a < n) (hb : b < n) (he : e < n) (hs : Blk w s 3 [.int .i64 (k : Int)]) (hk : k ≤ 990) (hgs : g ≠ s) :
    Calls Tryz.prog 159 #[.slice (some ⟨g, 0, none⟩) n c, .int .i64 (a : Int), .int .i64 (b : Int), .int .i64 (e : Int), .pointer (some ⟨s, 0, none⟩)] w fun r w' => r = .returned (.int .i64 ((Go.Sort.median ltU d a b e k).1 : Int)) ∧ Blk w' s 3 [.int .i64 ((Go.Sort.median ltU d a b e k).2 : Int)] ∧ Kept [s] w w' := by
  obtain ⟨M, hM⟩ : ∃ M, Go.Sort.median ltU d a b e k = M := ⟨_, rfl⟩
  rw [hM]
  go_enter Tryz.func159, Tryz.ntmps159
  go_wp2_with (fail)
  refine (order2_any64 lo g n c a b s k w d h ha hb hs (by omega)).mono ?_
  rintro r w1 ⟨rfl, hs1, hk1⟩
  have l1 := order2_lt (d := d) (k := k) ha hb
  have A1 := h.kept hk1 (by simpa using hgs)
  obtain ⟨x1, y1, z1, e1⟩ : ∃ x1 y1 z1, Go.Sort.order2 ltU d a b k = (x1, y1, z1) := ⟨_, _, _, rfl⟩
  rw [e1] at hs1 l1 ⊢
  simp only at hs1 l1 ⊢
  go_wp2_with (fail)
  refine (order2_any64 lo g n c y1 e s z1 w1 d A1 l1.2.1 he hs1 (by omega)).mono ?_
  rintro r w2 ⟨rfl, hs2, hk2⟩
  have l2 := order2_lt (d := d) (k := z1) l1.2.1 he
  have A2 := A1.kept hk2 (by simpa using hgs)
  obtain ⟨x2, y2, z2, e2⟩ : ∃ x2 y2 z2, Go.Sort.order2 ltU d y1 e z1 = (x2, y2, z2) := ⟨_, _, _, rfl⟩
  rw [e2] at hs2 l2 ⊢
  simp only at hs2 l2 ⊢
  go_wp2_with (fail)
  refine (order2_any64 lo g n c x1 x2 s z2 w2 d A2 l1.1 l2.1 hs2 (by omega)).mono ?_
  rintro r w3 ⟨rfl, hs3, hk3⟩
  have hMM : M = ((Go.Sort.order2 ltU d x1 x2 z2).2.1, (Go.Sort.order2 ltU d x1 x2 z2).2.2) := by
    rw [← hM]
    unfold Go.Sort.median
    rw [e1]
    simp only
    rw [e2]
  obtain ⟨x3, y3, z3, e3⟩ : ∃ x3 y3 z3, Go.Sort.order2 ltU d x1 x2 z2 = (x3, y3, z3) := ⟨_, _, _, rfl⟩
  rw [e3] at hs3 hMM ⊢
  simp only at hs3 hMM ⊢
  have S3 := Lib.hid hs3
  have K3 := Lib.hid ((hk1.trans hk2 (Grows.refl _ _)).trans hk3 (Grows.refl _ _))
  subst hMM
  clear hM hs hs1 hs2 hs3 hk1 hk2 hk3 A1 A2 h e1 e2 e3 l1 l2
  go_wp2
  refine bodyPost_ret (results_tmp rfl _ _ _) rfl ?_
  exact ⟨rfl, S3.out, K3.out⟩
set_option maxRecDepth 100000 in
set_option maxHeartbeats 1600000 in
theorem medadj_any64 (lo g n c a s k : Nat) (w : World) (d : Array Nat) (h : ArrAt lo w g n c d) (h1 : 1 ≤ a) (ha : a + 1 < n) (hn : n ≤ 4294967296) (hs : Blk w s 3 [.int .i64 (k : Int)]) (hk : k ≤ 990) (hgs : g ≠ s) :
    Calls Tryz.prog 158 #[.slice (some ⟨g, 0, none⟩) n c, .int .i64 (a : Int), .pointer (some ⟨s, 0, none⟩)] w fun r w' => r = .returned (.int .i64 ((Go.Sort.medianAdjacent ltU d a k).1 : Int)) ∧ Blk w' s 3 [.int .i64 ((Go.Sort.medianAdjacent ltU d a k).2 : Int)] ∧ Kept [s] w w' := by
  unfold Go.Sort.medianAdjacent
  have CT := Lib.hid (median_any64 lo g n c (a - 1) a (a + 1) s k w d h (by omega) (by omega) ha hs hk hgs)
  obtain ⟨b, hb⟩ : ∃ b, a - 1 = b := ⟨_, rfl⟩
  obtain ⟨e, he⟩ : ∃ e, a + 1 = e := ⟨_, rfl⟩
  rw [hb, he] at CT ⊢
  have e1 : (a : Int) - 1 = (b : Int) := by omega
  have e2 : (a : Int) + 1 = (e : Int) := by omega
  clear h hs
  go_enter Tryz.func158, Tryz.ntmps158
  go_wp2_with (fail)
  refine CT.out.mono ?_
  rintro r w1 ⟨rfl, hs1, hk1⟩
  have S1 := Lib.hid hs1
  clear hs1
  go_wp2
  refine bodyPost_ret (results_tmp rfl _ _ _) rfl ?_
  exact ⟨rfl, S1.out, hk1⟩

theorem ArrAt.drewN {lo g n c : Nat} {w : World} {d : Array Nat} (h : ArrAt lo w g n c d) (q : Nat) : ArrAt lo (w.drewN q) g n c d := h.kept ((Kept.refl [] w).drewN q) (by simp)
theorem sift_end {hi F root : Nat} {d : Array Nat} (h : hi ≤ 2 * root + 1) : Go.Sort.siftDown ltU hi F root d = d := by rw [Go.Sort.siftDown, dif_pos (by omega)]
/-- The greater child's place. -/
theorem sift_step {hi F root ch cm : Nat} {d : Array Nat} {z : Bool} (hc : 2 * root + 1 = ch) (h : ch < hi) (hz : z = (decide (ch + 1 < hi) && ltU d[F + ch]! d[F + ch + 1]!)) (hcm : cm = if z then ch + 1 else ch) :
    cm < hi ∧ ch ≤ cm ∧ Go.Sort.siftDown ltU hi F root d = if ltU d[F + root]! d[F + cm]! then Go.Sort.siftDown ltU hi F cm (Go.Sort.swp d (F + root) (F + cm)) else d := by
  subst hc hcm
  rw [Go.Sort.siftDown, dif_neg (by omega)]
  have e : (decide (2 * root + 1 + 1 < hi) && ltU d[F + (2 * root + 1)]! d[F + (2 * root + 1) + 1]!) = z := hz.symm
  rw [e]
  cases z
  · refine ⟨h, Nat.le_refl _, ?_⟩
    simp only [Bool.false_eq_true, if_false]
    cases ltU d[F + root]! d[F + (2 * root + 1)]! <;> simp
  · have h2 : 2 * root + 1 + 1 < hi := by
      have := hz.symm
      rw [Bool.and_eq_true, decide_eq_true_eq] at this
      exact this.1
    refine ⟨h2, Nat.le_succ _, ?_⟩
    simp only [if_true]
    rw [dif_pos (show 2 * root + 2 < hi by omega)]
    cases ltU d[F + root]! d[F + (2 * root + 1 + 1)]! <;> simp
set_option maxRecDepth 100000 in
set_option maxHeartbeats 6400000 in
theorem sift_any64 (lo g n c root0 hi first : Nat) (w : World) (d : Array Nat) (h : ArrAt lo w g n c d) (hr : root0 ≤ hi) (hf : first + hi ≤ n) (hn : n ≤ 4294967296) :
    Calls Tryz.prog 157 #[.slice (some ⟨g, 0, none⟩) n c, .int .i64 (root0 : Int), .int .i64 (hi : Int), .int .i64 (first : Int)] w fun e w' => e = .returned (.tuple #[]) ∧ ArrAt lo w' g n c (Go.Sort.siftDown ltU hi first root0 d) ∧ Kept [g] w w' := by
  obtain ⟨R, hR⟩ : ∃ R, Go.Sort.siftDown ltU hi first root0 d = R := ⟨_, rfl⟩
  rw [hR]
  have H0 := Lib.hid h
  have HR0 := Lib.hid hR
  have hcn : n ≤ c := by
    obtain ⟨_, _, _, _, _, h5, _⟩ := h.blk
    exact h5
  clear h hR
  go_enter Tryz.func157, Tryz.ntmps157
  go_wp2_with (fail)
  go_loopw [8] (fun s8 wr => ∃ (root : Nat) (d1 : Array Nat), s8 = .int .i64 root ∧ root ≤ hi ∧ Hid (Go.Sort.siftDown ltU hi first root d1 = R) ∧ Hid (ArrAt lo wr g n c d1) ∧ Hid (Kept [g] w wr)) (fun s8 _ => hi - (intOf s8).toNat)
  case atStart => exact ⟨root0, d, rfl, hr, HR0.out, H0.out, Kept.refl _ _⟩
  case round =>
    clear H0 HR0
    obtain ⟨root, d1, rfl, hroot, HR, HA, HK⟩ := hrel
    obtain ⟨ch, hch⟩ : ∃ ch, 2 * root + 1 = ch := ⟨_, rfl⟩
    have hchI : 2 * (root : Int) + 1 = (ch : Int) := by omega
    have hrc : root < ch := by omega
    have hch := Lib.hid hch
    by_cases h0 : hi ≤ ch
    · have HF := Lib.hid (show d1 = R from by rw [← HR.out, sift_end (by rw [hch.out]; exact h0)])
      rw [HF.out] at HA
      have h0I : (hi : Int) ≤ (ch : Int) := by omega
      clear HR
      go_wp2
      go_end0
      exact ⟨rfl, HA.out, HK.out⟩
    · have hchi : ch < hi := by omega
      have h0I : decide ((ch : Int) ≥ (hi : Int)) = false := decide_eq_false (by omega)
      have h0J : decide ((hi : Int) ≤ (ch : Int)) = false := decide_eq_false (by omega)
      obtain ⟨ch1, hch1⟩ : ∃ ch1, ch + 1 = ch1 := ⟨_, rfl⟩
      have hch1I : (ch : Int) + 1 = (ch1 : Int) := by omega
      go_upto_region 3 with fail
      go_cut [36] from 11 to 75 (fun s wx => ∃ z : Bool, s = .bool z ∧ Hid (z = (decide (ch + 1 < hi) && ltU d1[first + ch]! d1[first + ch + 1]!)) ∧ Hid (ArrAt lo wx g n c d1) ∧ Hid (Kept [g] w wx))
      case first =>
        by_cases h1 : ch1 < hi
        · have h1I : (ch1 : Int) < (hi : Int) := by omega
          obtain ⟨p, hp⟩ : ∃ p, first + ch = p := ⟨_, rfl⟩
          obtain ⟨q, hq⟩ : ∃ q, first + ch + 1 = q := ⟨_, rfl⟩
          have hpI : (first : Int) + (ch : Int) = (p : Int) := by omega
          have hqI : (p : Int) + 1 = (q : Int) := by omega
          have hpn : p < n := by omega
          have hqn : q < n := by omega
          have c1 : wr.cell? ⟨g, p, none⟩ = some (.int .u64 (d1[p]! : Int)) := HA.out.cell hpn
          have c2 : wr.cell? ⟨g, q, none⟩ = some (.int .u64 (d1[q]! : Int)) := HA.out.cell hqn
          have f1 := HA.out.frozen p
          have f2 := HA.out.frozen q
          have hgl := HA.out.lt.2
          obtain ⟨y1, hy1⟩ : ∃ y1, d1[p]! = y1 := ⟨_, rfl⟩
          obtain ⟨y2, hy2⟩ : ∃ y2, d1[q]! = y2 := ⟨_, rfl⟩
          rw [hy1] at c1
          rw [hy2] at c2
          have Z := Lib.hid (show decide (y1 < y2) = (decide (ch + 1 < hi) && ltU d1[first + ch]! d1[first + ch + 1]!) from by rw [hq, hp, hy1, hy2, hch1, decide_eq_true h1, Bool.true_and]; rfl)
          clear hy1 hy2 hp hq
          go_quiet (first | (go_at_call 121; refine Calls.quiet_of_same (less64 y1 y2 _)))
          go_wp2
          go_meet
          exact ⟨_, rfl, Z.out, HA.out.drewN _, HK.out.drewN _⟩
        · have h1I : decide ((ch1 : Int) < (hi : Int)) = false := decide_eq_false (by omega)
          have Z := Lib.hid (show false = (decide (ch + 1 < hi) && ltU d1[first + ch]! d1[first + ch + 1]!) from by rw [hch1, decide_eq_false h1, Bool.false_and])
          obtain ⟨y1, hy1⟩ : ∃ y1 : Nat, 0 = y1 := ⟨_, rfl⟩
          obtain ⟨y2, hy2⟩ : ∃ y2 : Nat, 0 = y2 := ⟨_, rfl⟩
          clear hy1 hy2
          go_quiet (first | (go_at_call 121; refine Calls.quiet_of_same (less64 y1 y2 _)))
          go_wp2
          go_meet
          exact ⟨_, rfl, Z.out, HA.out.drewN _, HK.out.drewN _⟩
      case rest =>
        obtain ⟨z, rfl, HZ, HA, HK⟩ := hcut
        cases z
        · obtain ⟨hcm1, hcm2, HSt⟩ := sift_step (cm := ch) hch.out hchi HZ.out (by simp)
          have HST := Lib.hid HSt
          clear HSt HZ
          obtain ⟨p, hp⟩ : ∃ p, first + root = p := ⟨_, rfl⟩
          obtain ⟨q, hq⟩ : ∃ q, first + ch = q := ⟨_, rfl⟩
          rw [hp, hq] at HST
          have hpI : (first : Int) + (root : Int) = (p : Int) := by omega
          have hqI : (first : Int) + (ch : Int) = (q : Int) := by omega
          have hpn : p < n := by omega
          have hqn : q < n := by omega
          have hpq : ¬ p = q := by omega
          have hqp : ¬ q = p := by omega
          clear hp hq
          go_wp2_with (fail)
          go_upto_region 5 with fail
          go_cut [52] from 11 to 75 (fun s wx => ∃ z : Bool, s = .bool z ∧ Hid ((!z) = ltU d1[p]! d1[q]!) ∧ Hid (ArrAt lo wx g n c d1) ∧ Hid (Kept [g] w wx))
          case first =>
            have c1 : wc.cell? ⟨g, p, none⟩ = some (.int .u64 (d1[p]! : Int)) := HA.out.cell hpn
            have c2 : wc.cell? ⟨g, q, none⟩ = some (.int .u64 (d1[q]! : Int)) := HA.out.cell hqn
            have f1 := HA.out.frozen p
            have f2 := HA.out.frozen q
            have hgl := HA.out.lt.2
            obtain ⟨y1, hy1⟩ : ∃ y1, d1[p]! = y1 := ⟨_, rfl⟩
            obtain ⟨y2, hy2⟩ : ∃ y2, d1[q]! = y2 := ⟨_, rfl⟩
            rw [hy1] at c1
            rw [hy2] at c2
            have Z := Lib.hid (show (!!decide (y1 < y2)) = ltU d1[p]! d1[q]! from by rw [hy1, hy2, Bool.not_not]; rfl)
            clear hy1 hy2
            go_quiet (first | (go_at_call 121; refine Calls.quiet_of_same (less64 y1 y2 _)))
            go_wp2
            go_meet
            exact ⟨_, rfl, Z.out, HA.out.drewN _, HK.out.drewN _⟩
          case rest =>
            obtain ⟨z, rfl, HZ, HA2, HK2⟩ := hcut
            clear HA HK
            cases z
            · have HS := Lib.hid (show Go.Sort.siftDown ltU hi first ch (Go.Sort.swp d1 p q) = R from by
                have := HST.out
                rw [← HZ.out, HR.out] at this
                exact this.symm)
              have SW := Lib.hid ((HA2.out.drew).swap (show p < n by omega) (show q < n by omega))
              have SK := Lib.hid (((HK2.out.drew).setCell ⟨g, p, none⟩ (.int .u64 (d1[q]! : Int)) (.inl (by simp))).setCell ⟨g, q, none⟩ (.int .u64 (d1[p]! : Int)) (.inl (by simp)))
              have c1 : wc.cell? ⟨g, p, none⟩ = some (.int .u64 (d1[p]! : Int)) := HA2.out.cell hpn
              have c2 : wc.cell? ⟨g, q, none⟩ = some (.int .u64 (d1[q]! : Int)) := HA2.out.cell hqn
              have f1 := HA2.out.frozen p
              have f2 := HA2.out.frozen q
              have hgl := HA2.out.lt.2
              obtain ⟨y1, hy1⟩ : ∃ y1, d1[p]! = y1 := ⟨_, rfl⟩
              obtain ⟨y2, hy2⟩ : ∃ y2, d1[q]! = y2 := ⟨_, rfl⟩
              rw [hy1] at c1
              rw [hy2] at c2
              rw [hy1, hy2] at SK SW
              clear hy1 hy2 HZ HST HR HA2 HK2
              go_wp2_with (fail)
              go_region
              all_goals go_wp2
              go_roundw
              case rel => exact ⟨ch, _, rfl, by omega, HS.out, SW.out, SK.out⟩
              case measure => simp [intOf]; omega
            · have HF := Lib.hid (show d1 = R from by
                have := HST.out
                rw [← HZ.out, HR.out] at this
                exact this.symm)
              rw [HF.out] at HA2
              clear HZ HST HR
              go_wp2
              (try simp only [Exit.inBlock, Exit.then]); refine bodyPost_ret (results_none rfl _ _ _) rfl ?_
              exact ⟨rfl, HA2.out, HK2.out⟩
        · obtain ⟨hcm1, hcm2, HSt⟩ := sift_step (cm := ch1) hch.out hchi HZ.out (by rw [if_pos rfl, hch1])
          have HST := Lib.hid HSt
          clear HSt HZ
          obtain ⟨p, hp⟩ : ∃ p, first + root = p := ⟨_, rfl⟩
          obtain ⟨q, hq⟩ : ∃ q, first + ch1 = q := ⟨_, rfl⟩
          rw [hp, hq] at HST
          have hpI : (first : Int) + (root : Int) = (p : Int) := by omega
          have hqI : (first : Int) + (ch1 : Int) = (q : Int) := by omega
          have hpn : p < n := by omega
          have hqn : q < n := by omega
          have hpq : ¬ p = q := by omega
          have hqp : ¬ q = p := by omega
          clear hp hq
          go_wp2_with (fail)
          go_upto_region 5 with fail
          go_cut [52] from 11 to 75 (fun s wx => ∃ z : Bool, s = .bool z ∧ Hid ((!z) = ltU d1[p]! d1[q]!) ∧ Hid (ArrAt lo wx g n c d1) ∧ Hid (Kept [g] w wx))
          case first =>
            have c1 : wc.cell? ⟨g, p, none⟩ = some (.int .u64 (d1[p]! : Int)) := HA.out.cell hpn
            have c2 : wc.cell? ⟨g, q, none⟩ = some (.int .u64 (d1[q]! : Int)) := HA.out.cell hqn
            have f1 := HA.out.frozen p
            have f2 := HA.out.frozen q
            have hgl := HA.out.lt.2
            obtain ⟨y1, hy1⟩ : ∃ y1, d1[p]! = y1 := ⟨_, rfl⟩
            obtain ⟨y2, hy2⟩ : ∃ y2, d1[q]! = y2 := ⟨_, rfl⟩
            rw [hy1] at c1
            rw [hy2] at c2
            have Z := Lib.hid (show (!!decide (y1 < y2)) = ltU d1[p]! d1[q]! from by rw [hy1, hy2, Bool.not_not]; rfl)
            clear hy1 hy2
            go_quiet (first | (go_at_call 121; refine Calls.quiet_of_same (less64 y1 y2 _)))
            go_wp2
            go_meet
            exact ⟨_, rfl, Z.out, HA.out.drewN _, HK.out.drewN _⟩
          case rest =>
            obtain ⟨z, rfl, HZ, HA2, HK2⟩ := hcut
            clear HA HK
            cases z
            · have HS := Lib.hid (show Go.Sort.siftDown ltU hi first ch1 (Go.Sort.swp d1 p q) = R from by
                have := HST.out
                rw [← HZ.out, HR.out] at this
                exact this.symm)
              have SW := Lib.hid ((HA2.out.drew).swap (show p < n by omega) (show q < n by omega))
              have SK := Lib.hid (((HK2.out.drew).setCell ⟨g, p, none⟩ (.int .u64 (d1[q]! : Int)) (.inl (by simp))).setCell ⟨g, q, none⟩ (.int .u64 (d1[p]! : Int)) (.inl (by simp)))
              have c1 : wc.cell? ⟨g, p, none⟩ = some (.int .u64 (d1[p]! : Int)) := HA2.out.cell hpn
              have c2 : wc.cell? ⟨g, q, none⟩ = some (.int .u64 (d1[q]! : Int)) := HA2.out.cell hqn
              have f1 := HA2.out.frozen p
              have f2 := HA2.out.frozen q
              have hgl := HA2.out.lt.2
              obtain ⟨y1, hy1⟩ : ∃ y1, d1[p]! = y1 := ⟨_, rfl⟩
              obtain ⟨y2, hy2⟩ : ∃ y2, d1[q]! = y2 := ⟨_, rfl⟩
              rw [hy1] at c1
              rw [hy2] at c2
              rw [hy1, hy2] at SK SW
              clear hy1 hy2 HZ HST HR HA2 HK2
              go_wp2_with (fail)
              go_region
              all_goals go_wp2
              go_roundw
              case rel => exact ⟨ch1, _, rfl, by omega, HS.out, SW.out, SK.out⟩
              case measure => simp [intOf]; omega
            · have HF := Lib.hid (show d1 = R from by
                have := HST.out
                rw [← HZ.out, HR.out] at this
                exact this.symm)
              rw [HF.out] at HA2
              clear HZ HST HR
              go_wp2
              (try simp only [Exit.inBlock, Exit.then]); refine bodyPost_ret (results_none rfl _ _ _) rfl ?_
              exact ⟨rfl, HA2.out, HK2.out⟩

set_option maxRecDepth 100000 in
set_option maxHeartbeats 6400000 in
theorem heap_any64 (lo g n c a b : Nat) (w : World) (d : Array Nat) (h : ArrAt lo w g n c d) (hab : a ≤ b) (hb : b ≤ n) (hn : n ≤ 4294967296) :
    Calls Tryz.prog 148 #[.slice (some ⟨g, 0, none⟩) n c, .int .i64 (a : Int), .int .i64 (b : Int)] w fun e w' => e = .returned (.tuple #[]) ∧ ArrAt lo w' g n c (Go.Sort.heapSort ltU d a b) ∧ Kept [g] w w' := by
  obtain ⟨hi, hhi⟩ : ∃ hi, b - a = hi := ⟨_, rfl⟩
  have hhiI : (b : Int) - (a : Int) = (hi : Int) := by omega
  have hahi : a + hi ≤ n := by omega
  obtain ⟨K, hK⟩ : ∃ K, (hi - 1) / 2 + 1 = K := ⟨_, rfl⟩
  have hKI : ((hi : Int) - 1).tdiv 2 = (K : Int) - 1 := by
    by_cases h0 : hi = 0
    · subst h0
      rw [← hK]
      rfl
    · rw [Int.tdiv_eq_ediv_of_nonneg (by omega)]
      omega
  have hKle : K ≤ hi + 1 := by omega
  obtain ⟨H1, hH1⟩ : ∃ H1, Go.Sort.heapBuild ltU hi a K d = H1 := ⟨_, rfl⟩
  obtain ⟨R, hR⟩ : ∃ R, Go.Sort.heapPop ltU a hi H1 = R := ⟨_, rfl⟩
  have hRR : Go.Sort.heapSort ltU d a b = R := by rw [Go.Sort.heapSort, hhi, hK, hH1, hR]
  rw [hRR]
  have H0 := Lib.hid h
  have HB0 := Lib.hid hH1
  have HP0 := Lib.hid hR
  have hcn : n ≤ c := by
    obtain ⟨_, _, _, _, _, h5, _⟩ := h.blk
    exact h5
  clear h hR hRR hH1 hhi hK
  go_enter Tryz.func148, Tryz.ntmps148
  go_wp2_with (fail)
  go_loopw [9] (fun s wr => ∃ (k : Nat) (z : Int) (d1 : Array Nat), s = .int .i64 z ∧ z = (k : Int) - 1 ∧ k ≤ K ∧ Hid (Go.Sort.heapBuild ltU hi a k d1 = H1) ∧ Hid (ArrAt lo wr g n c d1) ∧ Hid (Kept [g] w wr)) (fun s _ => (intOf s + 1).toNat)
  case atStart => exact ⟨K, (K : Int) - 1, d, rfl, rfl, Nat.le_refl _, HB0.out, H0.out, Kept.refl _ _⟩
  case round =>
    clear H0 HB0
    obtain ⟨k, z, d1, rfl, hz, hk, HB, HA, HK⟩ := hrel
    cases k with
    | succ k =>
      obtain rfl : z = (k : Int) := by omega
      clear hz
      go_wp2_with (fail)
      refine (sift_any64 lo g n c k hi a _ d1 HA.out (by omega) (by omega) hn).mono ?_
      rintro e w1 ⟨rfl, ha1, hk1⟩
      have HA1 := Lib.hid ha1
      have HK1 := Lib.hid (HK.out.trans hk1 (Grows.refl _ _))
      clear ha1 hk1 HA HK
      go_wp2
      go_roundw
      case rel => exact ⟨k, _, _, rfl, by omega, by omega, HB.out, HA1.out, HK1.out⟩
      case measure => simp [intOf]
    | zero =>
      obtain rfl : z = -1 := by omega
      clear hz
      obtain rfl : d1 = H1 := HB.out
      clear HB hk
      go_wp2_with (fail)
      go_loopw [10] (fun s wr => ∃ (k : Nat) (z : Int) (d1 : Array Nat), s = .int .i64 z ∧ z = (k : Int) - 1 ∧ k ≤ hi ∧ Hid (Go.Sort.heapPop ltU a k d1 = R) ∧ Hid (ArrAt lo wr g n c d1) ∧ Hid (Kept [g] w wr)) (fun s _ => (intOf s + 1).toNat)
      case atStart => exact ⟨hi, (hi : Int) - 1, d1, rfl, rfl, Nat.le_refl _, HP0.out, HA.out, HK.out⟩
      case round =>
        clear HP0 HA HK
        obtain ⟨k, z, d2, rfl, hz, hk, HP, HA, HK⟩ := hrel
        cases k with
        | zero =>
          obtain rfl : z = -1 := by omega
          clear hz
          obtain rfl : d2 = R := HP.out
          go_wp2
          go_end0
          exact ⟨rfl, HA.out, HK.out⟩
        | succ k =>
          obtain rfl : z = (k : Int) := by omega
          clear hz
          rcases Nat.eq_zero_or_pos k with rfl | hkp
          · have HP1 := Lib.hid (show Go.Sort.heapPop ltU a 0 (Go.Sort.siftDown ltU 0 a 0 (Go.Sort.swp d2 a a)) = R from HP.out)
            clear HP
            have han : a < n := by omega
            have SW := Lib.hid ((HA.out.drew).swap (show a < n by omega) (show a < n by omega))
            have SK := Lib.hid (((HK.out.drew).setCell ⟨g, a, none⟩ (.int .u64 (d2[a]! : Int)) (.inl (by simp))).setCell ⟨g, a, none⟩ (.int .u64 (d2[a]! : Int)) (.inl (by simp)))
            have c1 : wr.cell? ⟨g, a, none⟩ = some (.int .u64 (d2[a]! : Int)) := HA.out.cell (by omega)
            have c2 : wr.cell? ⟨g, a, none⟩ = some (.int .u64 (d2[a]! : Int)) := HA.out.cell (by omega)
            have f1 := HA.out.frozen a
            have f2 := HA.out.frozen a
            have hgl := HA.out.lt.2
            obtain ⟨y1, hy1⟩ : ∃ y1, d2[a]! = y1 := ⟨_, rfl⟩
            obtain ⟨y2, hy2⟩ : ∃ y2, d2[a]! = y2 := ⟨_, rfl⟩
            rw [hy1] at c1
            rw [hy2] at c2
            obtain rfl : y1 = y2 := by rw [← hy1, hy2]
            rw [hy1] at SK SW
            clear hy1 hy2 HA HK
            go_wp2_with (fail)
            go_region
            go_wp2_with (fail)
            refine (sift_any64 lo g n c 0 0 a _ _ SW.out (by omega) (by omega) hn).mono ?_
            rintro e w1 ⟨rfl, ha1, hk1⟩
            have HA1 := Lib.hid ha1
            have HK1 := Lib.hid (SK.out.trans hk1 (Grows.refl _ _))
            clear ha1 hk1 SW SK
            go_wp2
            go_roundw
            case rel => exact ⟨0, _, _, rfl, by omega, by omega, HP1.out, HA1.out, HK1.out⟩
            case measure => simp [intOf]
          · obtain ⟨p, hp⟩ : ∃ p, a + k = p := ⟨_, rfl⟩
            have HP1 := Lib.hid (show Go.Sort.heapPop ltU a k (Go.Sort.siftDown ltU k a 0 (Go.Sort.swp d2 a p)) = R from by rw [← hp]; exact HP.out)
            have hpI : (a : Int) + (k : Int) = (p : Int) := by omega
            have hpn : p < n := by omega
            have han : a < n := by omega
            have hap : ¬ a = p := by omega
            have hpa : ¬ p = a := by omega
            clear HP hp
            have SW := Lib.hid ((HA.out.drew).swap (show a < n by omega) (show p < n by omega))
            have SK := Lib.hid (((HK.out.drew).setCell ⟨g, a, none⟩ (.int .u64 (d2[p]! : Int)) (.inl (by simp))).setCell ⟨g, p, none⟩ (.int .u64 (d2[a]! : Int)) (.inl (by simp)))
            have c1 : wr.cell? ⟨g, a, none⟩ = some (.int .u64 (d2[a]! : Int)) := HA.out.cell (by omega)
            have c2 : wr.cell? ⟨g, p, none⟩ = some (.int .u64 (d2[p]! : Int)) := HA.out.cell (by omega)
            have f1 := HA.out.frozen a
            have f2 := HA.out.frozen p
            have hgl := HA.out.lt.2
            obtain ⟨y1, hy1⟩ : ∃ y1, d2[a]! = y1 := ⟨_, rfl⟩
            obtain ⟨y2, hy2⟩ : ∃ y2, d2[p]! = y2 := ⟨_, rfl⟩
            rw [hy1] at c1
            rw [hy2] at c2
            rw [hy1] at SK SW
            rw [hy2] at SK SW
            clear hy1 hy2 HA HK
            go_wp2_with (fail)
            go_region
            go_wp2_with (fail)
            refine (sift_any64 lo g n c 0 k a _ _ SW.out (by omega) (by omega) hn).mono ?_
            rintro e w1 ⟨rfl, ha1, hk1⟩
            have HA1 := Lib.hid ha1
            have HK1 := Lib.hid (SK.out.trans hk1 (Grows.refl _ _))
            clear ha1 hk1 SW SK
            go_wp2
            go_roundw
            case rel => exact ⟨k, _, _, rfl, by omega, by omega, HP1.out, HA1.out, HK1.out⟩
            case measure => simp [intOf]

theorem up_go {p : Nat → Bool} {d : Array Nat} {i j : Nat} (h : (decide (i ≤ j) && p d[i]!) = true) : Go.Sort.scanUp p d j i = Go.Sort.scanUp p d j (i + 1) := by
  rw [Go.Sort.scanUp, if_pos h]
theorem up_stop {p : Nat → Bool} {d : Array Nat} {i j : Nat} (h : (decide (i ≤ j) && p d[i]!) = false) : Go.Sort.scanUp p d j i = i := by
  rw [Go.Sort.scanUp, if_neg (by simp [h])]
theorem down_go {p : Nat → Bool} {d : Array Nat} {i j : Nat} (_ : 1 ≤ i) (h : (decide (i ≤ j) && p d[j]!) = true) : Go.Sort.scanDown p d i j = Go.Sort.scanDown p d i (j - 1) := by
  cases j with
  | zero => rw [decide_eq_false (show ¬ i ≤ 0 by omega), Bool.false_and] at h
  | succ j => rw [Go.Sort.scanDown, if_pos h, Nat.add_sub_cancel]
theorem down_stop {p : Nat → Bool} {d : Array Nat} {i j : Nat} (h : (decide (i ≤ j) && p d[j]!) = false) : Go.Sort.scanDown p d i j = j := by
  cases j with
  | zero => rw [Go.Sort.scanDown]
  | succ j => rw [Go.Sort.scanDown, if_neg (by simp [h])]
theorem and_le {i j : Nat} {b : Bool} (h : (decide (i ≤ j) && b) = true) : i ≤ j := by
  rw [Bool.and_eq_true, decide_eq_true_eq] at h
  exact h.1
theorem stops_ne {p q : Nat → Bool} {d : Array Nat} {I J J0 : Nat} (hq : ∀ x, q x = !p x) (h1 : (decide (I ≤ J0) && p d[I]!) = false) (h2 : (decide (I ≤ J) && q d[J]!) = false) (hJ : J ≤ J0) (hIJ : I ≤ J) : I < J := by
  rcases Nat.lt_or_ge I J with h | h
  · exact h
  · obtain rfl : I = J := by omega
    rw [decide_eq_true (show I ≤ J0 by omega), Bool.true_and] at h1
    rw [decide_eq_true (Nat.le_refl _), Bool.true_and, hq, h1] at h2
    cases h2
theorem part_eq {d D : Array Nat} {a b pivot I J b1 a1 : Nat} (ha : a + 1 = a1) (hb : b - 1 = b1) (hD : Go.Sort.swp d a pivot = D) (hI : Go.Sort.scanUp (fun x => ltU x D[a]!) D b1 a1 = I) (hJ : Go.Sort.scanDown (fun x => !ltU x D[a]!) D I b1 = J) :
    Go.Sort.partition ltU d a b pivot = if I > J then (J, true, Go.Sort.swp D J a) else ((Go.Sort.partLoop ltU a (I + 1) (J - 1) (Go.Sort.swp D I J)).1, false, Go.Sort.swp (Go.Sort.partLoop ltU a (I + 1) (J - 1) (Go.Sort.swp D I J)).2 (Go.Sort.partLoop ltU a (I + 1) (J - 1) (Go.Sort.swp D I J)).1 a) := by
  subst ha hb hD hI hJ
  rfl
theorem loop_out {d : Array Nat} {a i j I J : Nat} (hI : Go.Sort.scanUp (fun x => ltU x d[a]!) d j i = I) (hJ : Go.Sort.scanDown (fun x => !ltU x d[a]!) d I j = J) (h : J < I) : Go.Sort.partLoop ltU a i j d = (J, d) := by
  rw [Go.Sort.partLoop_eq, hI, hJ, if_pos h]
theorem loop_on {d : Array Nat} {a i j I J : Nat} (hI : Go.Sort.scanUp (fun x => ltU x d[a]!) d j i = I) (hJ : Go.Sort.scanDown (fun x => !ltU x d[a]!) d I j = J) (h : ¬ J < I) : Go.Sort.partLoop ltU a i j d = Go.Sort.partLoop ltU a (I + 1) (J - 1) (Go.Sort.swp d I J) := by
  rw [Go.Sort.partLoop_eq, hI, hJ, if_neg h]
theorem eq_out {d : Array Nat} {a i j I J : Nat} (hI : Go.Sort.scanUp (fun x => !ltU d[a]! x) d j i = I) (hJ : Go.Sort.scanDown (fun x => ltU d[a]! x) d I j = J) (h : J < I) : Go.Sort.partEqLoop ltU a i j d = (I, d) := by
  rw [Go.Sort.partEqLoop_eq, hI, hJ, if_pos h]
theorem eq_on {d : Array Nat} {a i j I J : Nat} (hI : Go.Sort.scanUp (fun x => !ltU d[a]! x) d j i = I) (hJ : Go.Sort.scanDown (fun x => ltU d[a]! x) d I j = J) (h : ¬ J < I) : Go.Sort.partEqLoop ltU a i j d = Go.Sort.partEqLoop ltU a (I + 1) (J - 1) (Go.Sort.swp d I J) := by
  rw [Go.Sort.partEqLoop_eq, hI, hJ, if_neg h]
set_option maxRecDepth 100000 in
set_option maxHeartbeats 12800000 in
theorem part_any64 (lo g n c a b pivot : Nat) (w : World) (d : Array Nat) (h : ArrAt lo w g n c d) (hap : a ≤ pivot) (hpb : pivot < b) (hb : b ≤ n) (hn : n ≤ 4294967296) :
    Calls Tryz.prog 154 #[.slice (some ⟨g, 0, none⟩) n c, .int .i64 (a : Int), .int .i64 (b : Int), .int .i64 (pivot : Int)] w fun e w' => e = .returned (.tuple #[.int .i64 ((Go.Sort.partition ltU d a b pivot).1 : Int), .bool (Go.Sort.partition ltU d a b pivot).2.1]) ∧ ArrAt lo w' g n c (Go.Sort.partition ltU d a b pivot).2.2 ∧ Kept [g] w w' := by
  obtain ⟨R, hR⟩ : ∃ R, Go.Sort.partition ltU d a b pivot = R := ⟨_, rfl⟩
  rw [hR]
  obtain ⟨D, hD⟩ : ∃ D, Go.Sort.swp d a pivot = D := ⟨_, rfl⟩
  obtain ⟨a1, ha1⟩ : ∃ a1, a + 1 = a1 := ⟨_, rfl⟩
  obtain ⟨b1, hb1⟩ : ∃ b1, b - 1 = b1 := ⟨_, rfl⟩
  have ha1I : (a : Int) + 1 = (a1 : Int) := by omega
  have hb1I : (b : Int) - 1 = (b1 : Int) := by omega
  have hlt : a < a1 ∧ a < n ∧ b1 < n ∧ pivot < n ∧ a ≤ b1 ∧ a1 ≤ n := by omega
  obtain ⟨haa, han, hbn, hpn, hab1, ha1n⟩ := hlt
  have hcn : n ≤ c := by
    obtain ⟨_, _, _, _, _, h5, _⟩ := h.blk
    exact h5
  obtain ⟨I, hI⟩ : ∃ I, Go.Sort.scanUp (fun x => ltU x D[a]!) D b1 a1 = I := ⟨_, rfl⟩
  obtain ⟨J, hJ⟩ : ∃ J, Go.Sort.scanDown (fun x => !ltU x D[a]!) D I b1 = J := ⟨_, rfl⟩
  have HPE := Lib.hid (hR.symm.trans (part_eq ha1 hb1 hD hI hJ))
  have HI0 := Lib.hid hI
  have HJ0 := Lib.hid hJ
  have HD := Lib.hid hD
  have H0 := Lib.hid h
  have K0 := Lib.hid (Kept.refl [g] w)
  clear h hR hI hJ hD ha1 hb1
  go_enter Tryz.func154, Tryz.ntmps154
  go_upto_region 1 with fail
  go_cut [] from 12 to 25 (fun wx => Hid (ArrAt lo wx g n c D) ∧ Hid (Kept [g] w wx))
  case first =>
    by_cases hpa : a = pivot
    · subst hpa
      have SW := Lib.hid ((H0.out.drew).swap (show a < n by omega) (show a < n by omega))
      have SK := Lib.hid (((K0.out.drew).setCell ⟨g, a, none⟩ (.int .u64 (d[a]! : Int)) (.inl (by simp))).setCell ⟨g, a, none⟩ (.int .u64 (d[a]! : Int)) (.inl (by simp)))
      have c1 : w.cell? ⟨g, a, none⟩ = some (.int .u64 (d[a]! : Int)) := H0.out.cell (by omega)
      have c2 : w.cell? ⟨g, a, none⟩ = some (.int .u64 (d[a]! : Int)) := H0.out.cell (by omega)
      have f1 := H0.out.frozen a
      have f2 := H0.out.frozen a
      have hgl := H0.out.lt.2
      obtain ⟨y1, hy1⟩ : ∃ y1, d[a]! = y1 := ⟨_, rfl⟩
      obtain ⟨y2, hy2⟩ : ∃ y2, d[a]! = y2 := ⟨_, rfl⟩
      rw [hy1] at c1
      rw [hy2] at c2
      obtain rfl : y1 = y2 := by rw [← hy1, hy2]
      rw [hy1] at SK SW
      clear hy1 hy2 H0 K0
      go_wp2_with (fail)
      go_region
      all_goals go_wp2
      go_meet
      exact ⟨by rw [← HD.out]; exact SW.out, SK.out⟩
    · have hpa2 : ¬ pivot = a := fun e => hpa e.symm
      have SW := Lib.hid ((H0.out.drew).swap (show a < n by omega) (show pivot < n by omega))
      have SK := Lib.hid (((K0.out.drew).setCell ⟨g, a, none⟩ (.int .u64 (d[pivot]! : Int)) (.inl (by simp))).setCell ⟨g, pivot, none⟩ (.int .u64 (d[a]! : Int)) (.inl (by simp)))
      have c1 : w.cell? ⟨g, a, none⟩ = some (.int .u64 (d[a]! : Int)) := H0.out.cell (by omega)
      have c2 : w.cell? ⟨g, pivot, none⟩ = some (.int .u64 (d[pivot]! : Int)) := H0.out.cell (by omega)
      have f1 := H0.out.frozen a
      have f2 := H0.out.frozen pivot
      have hgl := H0.out.lt.2
      obtain ⟨y1, hy1⟩ : ∃ y1, d[a]! = y1 := ⟨_, rfl⟩
      obtain ⟨y2, hy2⟩ : ∃ y2, d[pivot]! = y2 := ⟨_, rfl⟩
      rw [hy1] at c1
      rw [hy2] at c2
      rw [hy1] at SK SW
      rw [hy2] at SK SW
      clear hy1 hy2 H0 K0
      go_wp2_with (fail)
      go_region
      all_goals go_wp2
      go_meet
      exact ⟨by rw [← HD.out]; exact SW.out, SK.out⟩
  case rest =>
    clear H0 K0
    obtain ⟨HA0, HK0⟩ := hcut
    have HI1 := HI0.out
    go_wp2_with (fail)
    go_loopw [10] (fun s wr => ∃ (i : Nat), s = .int .i64 i ∧ a1 ≤ i ∧ i ≤ n + 1 ∧ Hid (Go.Sort.scanUp (fun x => ltU x D[a]!) D b1 i = I) ∧ Hid (ArrAt lo wr g n c D) ∧ Hid (Kept [g] w wr)) (fun s _ => n + 2 - (intOf s).toNat)
    case atStart => exact ⟨a1, by go_num, by omega, by omega, HI1, HA0.out, HK0.out⟩
    case round =>
      clear HA0 HK0
      obtain ⟨i, rfl, hi1, hi2, HI, HA, HK⟩ := hrel
      go_upto_region 3 with fail
      go_cut [43] from 30 to 45 (fun s wx => ∃ z : Bool, s = .bool z ∧ Hid (z = (decide (i ≤ b1) && (fun x => ltU x D[a]!) D[i]!)) ∧ Hid (ArrAt lo wx g n c D) ∧ Hid (Kept [g] w wx))
      case first =>
        by_cases hij : i ≤ b1
        · have hijI : (i : Int) ≤ (b1 : Int) := by omega
          have c1 : wr.cell? ⟨g, i, none⟩ = some (.int .u64 (D[i]! : Int)) := HA.out.cell (by omega)
          have c2 : wr.cell? ⟨g, a, none⟩ = some (.int .u64 (D[a]! : Int)) := HA.out.cell (by omega)
          have f1 := HA.out.frozen i
          have f2 := HA.out.frozen a
          have hgl := HA.out.lt.2
          obtain ⟨y1, hy1⟩ : ∃ y1, D[i]! = y1 := ⟨_, rfl⟩
          obtain ⟨y2, hy2⟩ : ∃ y2, D[a]! = y2 := ⟨_, rfl⟩
          rw [hy1] at c1
          rw [hy2] at c2
          have Z := Lib.hid (show (decide (y1 < y2)) = (decide (i ≤ b1) && (fun x => ltU x D[a]!) D[i]!) from by
            show _ = (decide _ && _)
            rw [decide_eq_true hij, Bool.true_and, ← hy1, ← hy2]
            rfl)
          clear hy1 hy2
          go_quiet (first | (go_at_call 121; refine Calls.quiet_of_same (less64 y1 y2 _)))
          go_wp2
          go_meet
          exact ⟨_, rfl, Z.out, HA.out.drewN _, HK.out.drewN _⟩
        · have hijI : decide ((i : Int) ≤ (b1 : Int)) = false := decide_eq_false (by omega)
          have Z := Lib.hid (show false = (decide (i ≤ b1) && (fun x => ltU x D[a]!) D[i]!) from by
            show _ = (decide _ && _)
            rw [decide_eq_false hij, Bool.false_and])
          obtain ⟨y1, hy1⟩ : ∃ y1 : Nat, 0 = y1 := ⟨_, rfl⟩
          obtain ⟨y2, hy2⟩ : ∃ y2 : Nat, 0 = y2 := ⟨_, rfl⟩
          clear hy1 hy2
          go_quiet (first | (go_at_call 121; refine Calls.quiet_of_same (less64 y1 y2 _)))
          go_wp2
          go_meet
          exact ⟨_, rfl, Z.out, HA.out.drewN _, HK.out.drewN _⟩
      case rest =>
        obtain ⟨z, rfl, HZ, HA2, HK2⟩ := hcut
        clear HA HK
        cases z
        rotate_left
        · have hle : i ≤ b1 := and_le HZ.out.symm
          have HI2 := Lib.hid (show Go.Sort.scanUp (fun x => ltU x D[a]!) D b1 (i + 1) = I from by rw [← HI.out]; exact (up_go HZ.out.symm).symm)
          clear HI HZ
          go_wp2
          go_roundw
          case rel => exact ⟨i + 1, by go_num, by omega, by omega, HI2.out, HA2.out, HK2.out⟩
          case measure => simp [intOf]; omega
        · obtain rfl : i = I := by rw [← HI.out]; exact (up_stop HZ.out.symm).symm
          have EI := Lib.hid (show (decide (i ≤ b1) && (fun x => ltU x D[a]!) D[i]!) = false from HZ.out.symm)
          clear HI HZ
          clear HI1
          have hJ1 := HJ0.out
          go_wp2_with (fail)
          go_loopw [11] (fun s wr => ∃ (j : Nat), s = .int .i64 j ∧ a ≤ j ∧ j ≤ b1 ∧ Hid (Go.Sort.scanDown (fun x => !ltU x D[a]!) D i j = J) ∧ Hid (ArrAt lo wr g n c D) ∧ Hid (Kept [g] w wr)) (fun s _ => (intOf s).toNat)
          case atStart => exact ⟨b1, by go_num, by omega, by omega, hJ1, HA2.out, HK2.out⟩
          case round =>
            clear HA2 HK2
            obtain ⟨j, rfl, hj1, hj2, HI, HA, HK⟩ := hrel
            go_upto_region 5 with fail
            go_cut [60] from 46 to 62 (fun s wx => ∃ z : Bool, s = .bool z ∧ Hid (z = (decide (i ≤ j) && (fun x => !ltU x D[a]!) D[j]!)) ∧ Hid (ArrAt lo wx g n c D) ∧ Hid (Kept [g] w wx))
            case first =>
              by_cases hij : i ≤ j
              · have hijI : (i : Int) ≤ (j : Int) := by omega
                have c1 : wr.cell? ⟨g, j, none⟩ = some (.int .u64 (D[j]! : Int)) := HA.out.cell (by omega)
                have c2 : wr.cell? ⟨g, a, none⟩ = some (.int .u64 (D[a]! : Int)) := HA.out.cell (by omega)
                have f1 := HA.out.frozen j
                have f2 := HA.out.frozen a
                have hgl := HA.out.lt.2
                obtain ⟨y1, hy1⟩ : ∃ y1, D[j]! = y1 := ⟨_, rfl⟩
                obtain ⟨y2, hy2⟩ : ∃ y2, D[a]! = y2 := ⟨_, rfl⟩
                rw [hy1] at c1
                rw [hy2] at c2
                have Z := Lib.hid (show (!decide (y1 < y2)) = (decide (i ≤ j) && (fun x => !ltU x D[a]!) D[j]!) from by
                  show _ = (decide _ && _)
                  rw [decide_eq_true hij, Bool.true_and, ← hy1, ← hy2]
                  rfl)
                clear hy1 hy2
                go_quiet (first | (go_at_call 121; refine Calls.quiet_of_same (less64 y1 y2 _)))
                go_wp2
                go_meet
                exact ⟨_, rfl, Z.out, HA.out.drewN _, HK.out.drewN _⟩
              · have hijI : decide ((i : Int) ≤ (j : Int)) = false := decide_eq_false (by omega)
                have Z := Lib.hid (show false = (decide (i ≤ j) && (fun x => !ltU x D[a]!) D[j]!) from by
                  show _ = (decide _ && _)
                  rw [decide_eq_false hij, Bool.false_and])
                obtain ⟨y1, hy1⟩ : ∃ y1 : Nat, 0 = y1 := ⟨_, rfl⟩
                obtain ⟨y2, hy2⟩ : ∃ y2 : Nat, 0 = y2 := ⟨_, rfl⟩
                clear hy1 hy2
                go_quiet (first | (go_at_call 121; refine Calls.quiet_of_same (less64 y1 y2 _)))
                go_wp2
                go_meet
                exact ⟨_, rfl, Z.out, HA.out.drewN _, HK.out.drewN _⟩
            case rest =>
              obtain ⟨z, rfl, HZ, HA2, HK2⟩ := hcut
              clear HA HK
              cases z
              rotate_left
              · have hle : i ≤ j := and_le HZ.out.symm
                obtain ⟨j1, hj1⟩ : ∃ j1, j - 1 = j1 := ⟨_, rfl⟩
                have hj1I : (j : Int) - 1 = (j1 : Int) := by omega
                have HI2 := Lib.hid (show Go.Sort.scanDown (fun x => !ltU x D[a]!) D i j1 = J from by rw [← HI.out, ← hj1]; exact (down_go (by omega) HZ.out.symm).symm)
                clear HI HZ
                go_wp2
                go_roundw
                case rel => exact ⟨j1, by go_num, by omega, by omega, HI2.out, HA2.out, HK2.out⟩
                case measure => simp [intOf]; omega
              · obtain rfl : j = J := by rw [← HI.out]; exact (down_stop HZ.out.symm).symm
                have EJ := Lib.hid (show (decide (i ≤ j) && (fun x => !ltU x D[a]!) D[j]!) = false from HZ.out.symm)
                clear HI HZ
                by_cases hgt : j < i
                · have hgtI : (j : Int) < (i : Int) := by omega
                  have HQ := Lib.hid (show R = (j, true, Go.Sort.swp D j a) from by rw [HPE.out, if_pos hgt])
                  clear HPE
                  go_wp2_with (fail)
                  by_cases hja : a = j
                  · subst hja
                    have SW := Lib.hid ((HA2.out.drew).swap (show a < n by omega) (show a < n by omega))
                    have SK := Lib.hid (((HK2.out.drew).setCell ⟨g, a, none⟩ (.int .u64 (D[a]! : Int)) (.inl (by simp))).setCell ⟨g, a, none⟩ (.int .u64 (D[a]! : Int)) (.inl (by simp)))
                    have c1 : wc.cell? ⟨g, a, none⟩ = some (.int .u64 (D[a]! : Int)) := HA2.out.cell (by omega)
                    have c2 : wc.cell? ⟨g, a, none⟩ = some (.int .u64 (D[a]! : Int)) := HA2.out.cell (by omega)
                    have f1 := HA2.out.frozen a
                    have f2 := HA2.out.frozen a
                    have hgl := HA2.out.lt.2
                    obtain ⟨y1, hy1⟩ : ∃ y1, D[a]! = y1 := ⟨_, rfl⟩
                    obtain ⟨y2, hy2⟩ : ∃ y2, D[a]! = y2 := ⟨_, rfl⟩
                    rw [hy1] at c1
                    rw [hy2] at c2
                    obtain rfl : y1 = y2 := by rw [← hy1, hy2]
                    rw [hy1] at SK SW
                    clear hy1 hy2 HA2 HK2
                    go_wp2_with (fail)
                    go_region
                    all_goals go_wp2
                    (try simp only [Exit.inBlock, Exit.then]); refine bodyPost_ret (results_tmp2 rfl _ _ _) rfl ?_
                    rw [HQ.out]
                    exact ⟨rfl, SW.out, SK.out⟩
                  · have hja2 : ¬ j = a := fun e => hja e.symm
                    have SW := Lib.hid ((HA2.out.drew).swap (show j < n by omega) (show a < n by omega))
                    have SK := Lib.hid (((HK2.out.drew).setCell ⟨g, j, none⟩ (.int .u64 (D[a]! : Int)) (.inl (by simp))).setCell ⟨g, a, none⟩ (.int .u64 (D[j]! : Int)) (.inl (by simp)))
                    have c1 : wc.cell? ⟨g, j, none⟩ = some (.int .u64 (D[j]! : Int)) := HA2.out.cell (by omega)
                    have c2 : wc.cell? ⟨g, a, none⟩ = some (.int .u64 (D[a]! : Int)) := HA2.out.cell (by omega)
                    have f1 := HA2.out.frozen j
                    have f2 := HA2.out.frozen a
                    have hgl := HA2.out.lt.2
                    obtain ⟨y1, hy1⟩ : ∃ y1, D[j]! = y1 := ⟨_, rfl⟩
                    obtain ⟨y2, hy2⟩ : ∃ y2, D[a]! = y2 := ⟨_, rfl⟩
                    rw [hy1] at c1
                    rw [hy2] at c2
                    rw [hy1] at SK SW
                    rw [hy2] at SK SW
                    clear hy1 hy2 HA2 HK2
                    go_wp2_with (fail)
                    go_region
                    all_goals go_wp2
                    (try simp only [Exit.inBlock, Exit.then]); refine bodyPost_ret (results_tmp2 rfl _ _ _) rfl ?_
                    rw [HQ.out]
                    exact ⟨rfl, SW.out, SK.out⟩
                · have hlt2 : i < j := stops_ne (p := fun x => ltU x D[a]!) (q := fun x => !ltU x D[a]!) (fun _ => rfl) EI.out EJ.out hj2 (by omega)
                  have hgtI : decide ((j : Int) < (i : Int)) = false := decide_eq_false (by omega)
                  have hgtJ : decide ((i : Int) > (j : Int)) = false := decide_eq_false (by omega)
                  obtain ⟨i1, hi1e⟩ : ∃ i1, i + 1 = i1 := ⟨_, rfl⟩
                  obtain ⟨j1, hj1e⟩ : ∃ j1, j - 1 = j1 := ⟨_, rfl⟩
                  obtain ⟨D2, hD2⟩ : ∃ D2, Go.Sort.swp D i j = D2 := ⟨_, rfl⟩
                  obtain ⟨PL, hPL⟩ : ∃ PL, Go.Sort.partLoop ltU a i1 j1 D2 = PL := ⟨_, rfl⟩
                  have HQ := Lib.hid (show R = (PL.1, false, Go.Sort.swp PL.2 PL.1 a) from by rw [HPE.out, if_neg hgt, hi1e, hj1e, hD2, hPL])
                  have hi1I : (i : Int) + 1 = (i1 : Int) := by omega
                  have hj1I : (j : Int) - 1 = (j1 : Int) := by omega
                  have hij2 : ¬ i = j := by omega
                  have hji2 : ¬ j = i := by omega
                  have HPL0 := Lib.hid hPL
                  have HD2 := Lib.hid hD2
                  have hbnds : a < i1 ∧ a ≤ j1 ∧ j1 < n ∧ i1 ≤ n := by omega
                  obtain ⟨hb1', hb2', hb3', hb4'⟩ := hbnds
                  clear HPE EI EJ hi1e hj1e hPL hD2 HI0 HJ0 HD
                  go_upto_region 10 with fail
                  go_cut [] from 81 to 94 (fun wx => Hid (ArrAt lo wx g n c D2) ∧ Hid (Kept [g] w wx))
                  case first =>
                    have SW := Lib.hid ((HA2.out.drew).swap (show i < n by omega) (show j < n by omega))
                    have SK := Lib.hid (((HK2.out.drew).setCell ⟨g, i, none⟩ (.int .u64 (D[j]! : Int)) (.inl (by simp))).setCell ⟨g, j, none⟩ (.int .u64 (D[i]! : Int)) (.inl (by simp)))
                    have c1 : wc.cell? ⟨g, i, none⟩ = some (.int .u64 (D[i]! : Int)) := HA2.out.cell (by omega)
                    have c2 : wc.cell? ⟨g, j, none⟩ = some (.int .u64 (D[j]! : Int)) := HA2.out.cell (by omega)
                    have f1 := HA2.out.frozen i
                    have f2 := HA2.out.frozen j
                    have hgl := HA2.out.lt.2
                    obtain ⟨y1, hy1⟩ : ∃ y1, D[i]! = y1 := ⟨_, rfl⟩
                    obtain ⟨y2, hy2⟩ : ∃ y2, D[j]! = y2 := ⟨_, rfl⟩
                    rw [hy1] at c1
                    rw [hy2] at c2
                    rw [hy1] at SK SW
                    rw [hy2] at SK SW
                    clear hy1 hy2 HA2 HK2
                    go_wp2_with (fail)
                    go_region
                    all_goals go_wp2
                    go_meet
                    exact ⟨by rw [← HD2.out]; exact SW.out, SK.out⟩
                  case rest =>
                    clear HA2 HK2
                    obtain ⟨HA3, HK3⟩ := hcut
                    clear HD2
                    go_wp2_with (fail)
                    go_loopw [10, 11] (fun s10 s11 wr => ∃ (i j : Nat) (d2 : Array Nat), s10 = .int .i64 i ∧ s11 = .int .i64 j ∧ a < i ∧ i ≤ n + 1 ∧ a ≤ j ∧ j < n ∧ Hid (Go.Sort.partLoop ltU a i j d2 = PL) ∧ Hid (ArrAt lo wr g n c d2) ∧ Hid (Kept [g] w wr)) (fun s10 s11 _ => (intOf s11).toNat + 1 - (intOf s10).toNat)
                    case atStart => exact ⟨i1, j1, D2, rfl, rfl, by omega, by omega, by omega, by omega, HPL0.out, HA3.out, HK3.out⟩
                    case round =>
                      clear HA3 HK3 HPL0
                      obtain ⟨i0, j0, d2, rfl, rfl, hi0, hi0n, hj0, hj0n, HPL, HA5, HK5⟩ := hrel
                      obtain ⟨I2, hI2⟩ : ∃ I2, Go.Sort.scanUp (fun x => ltU x d2[a]!) d2 j0 i0 = I2 := ⟨_, rfl⟩
                      obtain ⟨J2, hJ2⟩ : ∃ J2, Go.Sort.scanDown (fun x => !ltU x d2[a]!) d2 I2 j0 = J2 := ⟨_, rfl⟩
                      have HI2' := Lib.hid hI2
                      have HJ2' := Lib.hid hJ2
                      clear hJ2
                      go_wp2_with (fail)
                      go_loopw [10] (fun s wr => ∃ (i : Nat), s = .int .i64 i ∧ i0 ≤ i ∧ i ≤ n + 1 ∧ Hid (Go.Sort.scanUp (fun x => ltU x d2[a]!) d2 j0 i = I2) ∧ Hid (ArrAt lo wr g n c d2) ∧ Hid (Kept [g] w wr)) (fun s _ => n + 2 - (intOf s).toNat)
                      case atStart => exact ⟨i0, by go_num, by omega, by omega, by assumption, HA5.out, HK5.out⟩
                      case round =>
                        clear HA5 HK5
                        obtain ⟨i, rfl, hi1, hi2, HI, HA, HK⟩ := hrel
                        go_upto_region 13 with fail
                        go_cut [112] from 99 to 114 (fun s wx => ∃ z : Bool, s = .bool z ∧ Hid (z = (decide (i ≤ j0) && (fun x => ltU x d2[a]!) d2[i]!)) ∧ Hid (ArrAt lo wx g n c d2) ∧ Hid (Kept [g] w wx))
                        case first =>
                          by_cases hij : i ≤ j0
                          · have hijI : (i : Int) ≤ (j0 : Int) := by omega
                            have c1 : wr.cell? ⟨g, i, none⟩ = some (.int .u64 (d2[i]! : Int)) := HA.out.cell (by omega)
                            have c2 : wr.cell? ⟨g, a, none⟩ = some (.int .u64 (d2[a]! : Int)) := HA.out.cell (by omega)
                            have f1 := HA.out.frozen i
                            have f2 := HA.out.frozen a
                            have hgl := HA.out.lt.2
                            obtain ⟨y1, hy1⟩ : ∃ y1, d2[i]! = y1 := ⟨_, rfl⟩
                            obtain ⟨y2, hy2⟩ : ∃ y2, d2[a]! = y2 := ⟨_, rfl⟩
                            rw [hy1] at c1
                            rw [hy2] at c2
                            have Z := Lib.hid (show (decide (y1 < y2)) = (decide (i ≤ j0) && (fun x => ltU x d2[a]!) d2[i]!) from by
                              show _ = (decide _ && _)
                              rw [decide_eq_true hij, Bool.true_and, ← hy1, ← hy2]
                              rfl)
                            clear hy1 hy2
                            go_quiet (first | (go_at_call 121; refine Calls.quiet_of_same (less64 y1 y2 _)))
                            go_wp2
                            go_meet
                            exact ⟨_, rfl, Z.out, HA.out.drewN _, HK.out.drewN _⟩
                          · have hijI : decide ((i : Int) ≤ (j0 : Int)) = false := decide_eq_false (by omega)
                            have Z := Lib.hid (show false = (decide (i ≤ j0) && (fun x => ltU x d2[a]!) d2[i]!) from by
                              show _ = (decide _ && _)
                              rw [decide_eq_false hij, Bool.false_and])
                            obtain ⟨y1, hy1⟩ : ∃ y1 : Nat, 0 = y1 := ⟨_, rfl⟩
                            obtain ⟨y2, hy2⟩ : ∃ y2 : Nat, 0 = y2 := ⟨_, rfl⟩
                            clear hy1 hy2
                            go_quiet (first | (go_at_call 121; refine Calls.quiet_of_same (less64 y1 y2 _)))
                            go_wp2
                            go_meet
                            exact ⟨_, rfl, Z.out, HA.out.drewN _, HK.out.drewN _⟩
                        case rest =>
                          obtain ⟨z, rfl, HZ, HA2, HK2⟩ := hcut
                          clear HA HK
                          cases z
                          rotate_left
                          · have hle : i ≤ j0 := and_le HZ.out.symm
                            have HI2 := Lib.hid (show Go.Sort.scanUp (fun x => ltU x d2[a]!) d2 j0 (i + 1) = I2 from by rw [← HI.out]; exact (up_go HZ.out.symm).symm)
                            clear HI HZ
                            go_wp2
                            go_roundw
                            case rel => exact ⟨i + 1, by go_num, by omega, by omega, HI2.out, HA2.out, HK2.out⟩
                            case measure => simp [intOf]; omega
                          · obtain rfl : i = I2 := by rw [← HI.out]; exact (up_stop HZ.out.symm).symm
                            have EI := Lib.hid (show (decide (i ≤ j0) && (fun x => ltU x d2[a]!) d2[i]!) = false from HZ.out.symm)
                            clear HI HZ
                            have hJ3 := HJ2'.out
                            clear hI2
                            go_wp2_with (fail)
                            go_loopw [11] (fun s wr => ∃ (j : Nat), s = .int .i64 j ∧ a ≤ j ∧ j ≤ j0 ∧ Hid (Go.Sort.scanDown (fun x => !ltU x d2[a]!) d2 i j = J2) ∧ Hid (ArrAt lo wr g n c d2) ∧ Hid (Kept [g] w wr)) (fun s _ => (intOf s).toNat)
                            case atStart => exact ⟨j0, by go_num, by omega, by omega, hJ3, HA2.out, HK2.out⟩
                            case round =>
                              clear HA2 HK2
                              obtain ⟨j, rfl, hj1, hj2, HI, HA, HK⟩ := hrel
                              go_upto_region 15 with fail
                              go_cut [129] from 115 to 131 (fun s wx => ∃ z : Bool, s = .bool z ∧ Hid (z = (decide (i ≤ j) && (fun x => !ltU x d2[a]!) d2[j]!)) ∧ Hid (ArrAt lo wx g n c d2) ∧ Hid (Kept [g] w wx))
                              case first =>
                                by_cases hij : i ≤ j
                                · have hijI : (i : Int) ≤ (j : Int) := by omega
                                  have c1 : wr.cell? ⟨g, j, none⟩ = some (.int .u64 (d2[j]! : Int)) := HA.out.cell (by omega)
                                  have c2 : wr.cell? ⟨g, a, none⟩ = some (.int .u64 (d2[a]! : Int)) := HA.out.cell (by omega)
                                  have f1 := HA.out.frozen j
                                  have f2 := HA.out.frozen a
                                  have hgl := HA.out.lt.2
                                  obtain ⟨y1, hy1⟩ : ∃ y1, d2[j]! = y1 := ⟨_, rfl⟩
                                  obtain ⟨y2, hy2⟩ : ∃ y2, d2[a]! = y2 := ⟨_, rfl⟩
                                  rw [hy1] at c1
                                  rw [hy2] at c2
                                  have Z := Lib.hid (show (!decide (y1 < y2)) = (decide (i ≤ j) && (fun x => !ltU x d2[a]!) d2[j]!) from by
                                    show _ = (decide _ && _)
                                    rw [decide_eq_true hij, Bool.true_and, ← hy1, ← hy2]
                                    rfl)
                                  clear hy1 hy2
                                  go_quiet (first | (go_at_call 121; refine Calls.quiet_of_same (less64 y1 y2 _)))
                                  go_wp2
                                  go_meet
                                  exact ⟨_, rfl, Z.out, HA.out.drewN _, HK.out.drewN _⟩
                                · have hijI : decide ((i : Int) ≤ (j : Int)) = false := decide_eq_false (by omega)
                                  have Z := Lib.hid (show false = (decide (i ≤ j) && (fun x => !ltU x d2[a]!) d2[j]!) from by
                                    show _ = (decide _ && _)
                                    rw [decide_eq_false hij, Bool.false_and])
                                  obtain ⟨y1, hy1⟩ : ∃ y1 : Nat, 0 = y1 := ⟨_, rfl⟩
                                  obtain ⟨y2, hy2⟩ : ∃ y2 : Nat, 0 = y2 := ⟨_, rfl⟩
                                  clear hy1 hy2
                                  go_quiet (first | (go_at_call 121; refine Calls.quiet_of_same (less64 y1 y2 _)))
                                  go_wp2
                                  go_meet
                                  exact ⟨_, rfl, Z.out, HA.out.drewN _, HK.out.drewN _⟩
                              case rest =>
                                obtain ⟨z, rfl, HZ, HA2, HK2⟩ := hcut
                                clear HA HK
                                cases z
                                rotate_left
                                · have hle : i ≤ j := and_le HZ.out.symm
                                  obtain ⟨j1, hj1⟩ : ∃ j1, j - 1 = j1 := ⟨_, rfl⟩
                                  have hj1I : (j : Int) - 1 = (j1 : Int) := by omega
                                  have HI2 := Lib.hid (show Go.Sort.scanDown (fun x => !ltU x d2[a]!) d2 i j1 = J2 from by rw [← HI.out, ← hj1]; exact (down_go (by omega) HZ.out.symm).symm)
                                  clear HI HZ
                                  go_wp2
                                  go_roundw
                                  case rel => exact ⟨j1, by go_num, by omega, by omega, HI2.out, HA2.out, HK2.out⟩
                                  case measure => simp [intOf]; omega
                                · obtain rfl : j = J2 := by rw [← HI.out]; exact (down_stop HZ.out.symm).symm
                                  have EJ := Lib.hid (show (decide (i ≤ j) && (fun x => !ltU x d2[a]!) d2[j]!) = false from HZ.out.symm)
                                  clear HI HZ
                                  by_cases hgt : j < i
                                  · have hgtI : (j : Int) < (i : Int) := by omega
                                    have HQ2 := Lib.hid (show PL = (j, d2) from by rw [← HPL.out]; exact loop_out HI2'.out HJ2'.out hgt)
                                    have HQ3 := Lib.hid (show R = (j, false, Go.Sort.swp d2 j a) from by rw [HQ.out, HQ2.out])
                                    clear HQ HQ2 HPL HI2' HJ2' EI EJ
                                    go_wp2_with (fail)
                                    by_cases hja : a = j
                                    · subst hja
                                      have SW := Lib.hid ((HA2.out.drew).swap (show a < n by omega) (show a < n by omega))
                                      have SK := Lib.hid (((HK2.out.drew).setCell ⟨g, a, none⟩ (.int .u64 (d2[a]! : Int)) (.inl (by simp))).setCell ⟨g, a, none⟩ (.int .u64 (d2[a]! : Int)) (.inl (by simp)))
                                      have c1 : wc.cell? ⟨g, a, none⟩ = some (.int .u64 (d2[a]! : Int)) := HA2.out.cell (by omega)
                                      have c2 : wc.cell? ⟨g, a, none⟩ = some (.int .u64 (d2[a]! : Int)) := HA2.out.cell (by omega)
                                      have f1 := HA2.out.frozen a
                                      have f2 := HA2.out.frozen a
                                      have hgl := HA2.out.lt.2
                                      obtain ⟨y1, hy1⟩ : ∃ y1, d2[a]! = y1 := ⟨_, rfl⟩
                                      obtain ⟨y2, hy2⟩ : ∃ y2, d2[a]! = y2 := ⟨_, rfl⟩
                                      rw [hy1] at c1
                                      rw [hy2] at c2
                                      obtain rfl : y1 = y2 := by rw [← hy1, hy2]
                                      rw [hy1] at SK SW
                                      clear hy1 hy2 HA2 HK2
                                      go_wp2_with (fail)
                                      go_region
                                      all_goals go_wp2
                                      (try simp only [Exit.inBlock, Exit.then]); refine bodyPost_ret (results_tmp2 rfl _ _ _) rfl ?_
                                      rw [HQ3.out]
                                      exact ⟨rfl, SW.out, SK.out⟩
                                    · have hja2 : ¬ j = a := fun e => hja e.symm
                                      have SW := Lib.hid ((HA2.out.drew).swap (show j < n by omega) (show a < n by omega))
                                      have SK := Lib.hid (((HK2.out.drew).setCell ⟨g, j, none⟩ (.int .u64 (d2[a]! : Int)) (.inl (by simp))).setCell ⟨g, a, none⟩ (.int .u64 (d2[j]! : Int)) (.inl (by simp)))
                                      have c1 : wc.cell? ⟨g, j, none⟩ = some (.int .u64 (d2[j]! : Int)) := HA2.out.cell (by omega)
                                      have c2 : wc.cell? ⟨g, a, none⟩ = some (.int .u64 (d2[a]! : Int)) := HA2.out.cell (by omega)
                                      have f1 := HA2.out.frozen j
                                      have f2 := HA2.out.frozen a
                                      have hgl := HA2.out.lt.2
                                      obtain ⟨y1, hy1⟩ : ∃ y1, d2[j]! = y1 := ⟨_, rfl⟩
                                      obtain ⟨y2, hy2⟩ : ∃ y2, d2[a]! = y2 := ⟨_, rfl⟩
                                      rw [hy1] at c1
                                      rw [hy2] at c2
                                      rw [hy1] at SK SW
                                      rw [hy2] at SK SW
                                      clear hy1 hy2 HA2 HK2
                                      go_wp2_with (fail)
                                      go_region
                                      all_goals go_wp2
                                      (try simp only [Exit.inBlock, Exit.then]); refine bodyPost_ret (results_tmp2 rfl _ _ _) rfl ?_
                                      rw [HQ3.out]
                                      exact ⟨rfl, SW.out, SK.out⟩
                                  · have hlt2 : i < j := stops_ne (p := fun x => ltU x d2[a]!) (q := fun x => !ltU x d2[a]!) (fun _ => rfl) EI.out EJ.out hj2 (by omega)
                                    have hgtI : decide ((j : Int) < (i : Int)) = false := decide_eq_false (by omega)
                                    have hgtJ : decide ((i : Int) > (j : Int)) = false := decide_eq_false (by omega)
                                    obtain ⟨i1', hi1e⟩ : ∃ i1', i + 1 = i1' := ⟨_, rfl⟩
                                    obtain ⟨j1', hj1e⟩ : ∃ j1', j - 1 = j1' := ⟨_, rfl⟩
                                    have HP2 := Lib.hid (show Go.Sort.partLoop ltU a i1' j1' (Go.Sort.swp d2 i j) = PL from by rw [← HPL.out, loop_on HI2'.out HJ2'.out hgt, hi1e, hj1e])
                                    have hi1I' : (i : Int) + 1 = (i1' : Int) := by omega
                                    have hj1I' : (j : Int) - 1 = (j1' : Int) := by omega
                                    have hij2 : ¬ i = j := by omega
                                    have hji2 : ¬ j = i := by omega
                                    clear HPL HI2' HJ2' EI EJ
                                    have SW := Lib.hid ((HA2.out.drew).swap (show i < n by omega) (show j < n by omega))
                                    have SK := Lib.hid (((HK2.out.drew).setCell ⟨g, i, none⟩ (.int .u64 (d2[j]! : Int)) (.inl (by simp))).setCell ⟨g, j, none⟩ (.int .u64 (d2[i]! : Int)) (.inl (by simp)))
                                    have c1 : wc.cell? ⟨g, i, none⟩ = some (.int .u64 (d2[i]! : Int)) := HA2.out.cell (by omega)
                                    have c2 : wc.cell? ⟨g, j, none⟩ = some (.int .u64 (d2[j]! : Int)) := HA2.out.cell (by omega)
                                    have f1 := HA2.out.frozen i
                                    have f2 := HA2.out.frozen j
                                    have hgl := HA2.out.lt.2
                                    obtain ⟨y1, hy1⟩ : ∃ y1, d2[i]! = y1 := ⟨_, rfl⟩
                                    obtain ⟨y2, hy2⟩ : ∃ y2, d2[j]! = y2 := ⟨_, rfl⟩
                                    rw [hy1] at c1
                                    rw [hy2] at c2
                                    rw [hy1] at SK SW
                                    rw [hy2] at SK SW
                                    clear hy1 hy2 HA2 HK2
                                    go_wp2_with (fail)
                                    go_region
                                    all_goals go_wp2
                                    exact ⟨⟨i1', j1', _, rfl, rfl, by omega, by omega, by omega, by omega, HP2.out, SW.out, SK.out⟩, by simp [intOf]; omega⟩

set_option maxRecDepth 100000 in
set_option maxHeartbeats 12800000 in
theorem parteq_any64 (lo g n c a b pivot : Nat) (w : World) (d : Array Nat) (h : ArrAt lo w g n c d) (hap : a ≤ pivot) (hpb : pivot < b) (hb : b ≤ n) (hn : n ≤ 4294967296) :
    Calls Tryz.prog 153 #[.slice (some ⟨g, 0, none⟩) n c, .int .i64 (a : Int), .int .i64 (b : Int), .int .i64 (pivot : Int)] w fun e w' => e = .returned (.int .i64 ((Go.Sort.partitionEqual ltU d a b pivot).1 : Int)) ∧ ArrAt lo w' g n c (Go.Sort.partitionEqual ltU d a b pivot).2 ∧ Kept [g] w w' := by
  obtain ⟨R, hR⟩ : ∃ R, Go.Sort.partitionEqual ltU d a b pivot = R := ⟨_, rfl⟩
  rw [hR]
  obtain ⟨D, hD⟩ : ∃ D, Go.Sort.swp d a pivot = D := ⟨_, rfl⟩
  obtain ⟨a1, ha1⟩ : ∃ a1, a + 1 = a1 := ⟨_, rfl⟩
  obtain ⟨b1, hb1⟩ : ∃ b1, b - 1 = b1 := ⟨_, rfl⟩
  have ha1I : (a : Int) + 1 = (a1 : Int) := by omega
  have hb1I : (b : Int) - 1 = (b1 : Int) := by omega
  have hlt : a < a1 ∧ a < n ∧ b1 < n ∧ pivot < n ∧ a ≤ b1 ∧ a1 ≤ n := by omega
  obtain ⟨haa, han, hbn, hpn, hab1, ha1n⟩ := hlt
  have hcn : n ≤ c := by
    obtain ⟨_, _, _, _, _, h5, _⟩ := h.blk
    exact h5
  have HPE := Lib.hid (show Go.Sort.partEqLoop ltU a a1 b1 D = R from by rw [← hR, ← ha1, ← hb1, ← hD]; rfl)
  have HD := Lib.hid hD
  have H0 := Lib.hid h
  have K0 := Lib.hid (Kept.refl [g] w)
  clear h hR hD ha1 hb1
  go_enter Tryz.func153, Tryz.ntmps153
  go_upto_region 1 with fail
  go_cut [] from 11 to 24 (fun wx => Hid (ArrAt lo wx g n c D) ∧ Hid (Kept [g] w wx))
  case first =>
    by_cases hpa : a = pivot
    · subst hpa
      have SW := Lib.hid ((H0.out.drew).swap (show a < n by omega) (show a < n by omega))
      have SK := Lib.hid (((K0.out.drew).setCell ⟨g, a, none⟩ (.int .u64 (d[a]! : Int)) (.inl (by simp))).setCell ⟨g, a, none⟩ (.int .u64 (d[a]! : Int)) (.inl (by simp)))
      have c1 : w.cell? ⟨g, a, none⟩ = some (.int .u64 (d[a]! : Int)) := H0.out.cell (by omega)
      have c2 : w.cell? ⟨g, a, none⟩ = some (.int .u64 (d[a]! : Int)) := H0.out.cell (by omega)
      have f1 := H0.out.frozen a
      have f2 := H0.out.frozen a
      have hgl := H0.out.lt.2
      obtain ⟨y1, hy1⟩ : ∃ y1, d[a]! = y1 := ⟨_, rfl⟩
      obtain ⟨y2, hy2⟩ : ∃ y2, d[a]! = y2 := ⟨_, rfl⟩
      rw [hy1] at c1
      rw [hy2] at c2
      obtain rfl : y1 = y2 := by rw [← hy1, hy2]
      rw [hy1] at SK SW
      clear hy1 hy2 H0 K0
      go_wp2_with (fail)
      go_region
      all_goals go_wp2
      go_meet
      exact ⟨by rw [← HD.out]; exact SW.out, SK.out⟩
    · have hpa2 : ¬ pivot = a := fun e => hpa e.symm
      have SW := Lib.hid ((H0.out.drew).swap (show a < n by omega) (show pivot < n by omega))
      have SK := Lib.hid (((K0.out.drew).setCell ⟨g, a, none⟩ (.int .u64 (d[pivot]! : Int)) (.inl (by simp))).setCell ⟨g, pivot, none⟩ (.int .u64 (d[a]! : Int)) (.inl (by simp)))
      have c1 : w.cell? ⟨g, a, none⟩ = some (.int .u64 (d[a]! : Int)) := H0.out.cell (by omega)
      have c2 : w.cell? ⟨g, pivot, none⟩ = some (.int .u64 (d[pivot]! : Int)) := H0.out.cell (by omega)
      have f1 := H0.out.frozen a
      have f2 := H0.out.frozen pivot
      have hgl := H0.out.lt.2
      obtain ⟨y1, hy1⟩ : ∃ y1, d[a]! = y1 := ⟨_, rfl⟩
      obtain ⟨y2, hy2⟩ : ∃ y2, d[pivot]! = y2 := ⟨_, rfl⟩
      rw [hy1] at c1
      rw [hy2] at c2
      rw [hy1] at SK SW
      rw [hy2] at SK SW
      clear hy1 hy2 H0 K0
      go_wp2_with (fail)
      go_region
      all_goals go_wp2
      go_meet
      exact ⟨by rw [← HD.out]; exact SW.out, SK.out⟩
  case rest =>
    clear H0 K0
    obtain ⟨HA0, HK0⟩ := hcut
    clear HD
    go_wp2_with (fail)
    go_loopw [9, 10] (fun s9 s10 wr => ∃ (i j : Nat) (d2 : Array Nat), s9 = .int .i64 i ∧ s10 = .int .i64 j ∧ a < i ∧ i ≤ n + 1 ∧ a ≤ j ∧ j < n ∧ Hid (Go.Sort.partEqLoop ltU a i j d2 = R) ∧ Hid (ArrAt lo wr g n c d2) ∧ Hid (Kept [g] w wr)) (fun s9 s10 _ => (intOf s10).toNat + 1 - (intOf s9).toNat)
    case atStart => exact ⟨a1, b1, D, rfl, rfl, by omega, by omega, by omega, by omega, HPE.out, HA0.out, HK0.out⟩
    case round =>
      clear HA0 HK0 HPE
      obtain ⟨i0, j0, d2, rfl, rfl, hi0, hi0n, hj0, hj0n, HPL, HA5, HK5⟩ := hrel
      obtain ⟨I2, hI2⟩ : ∃ I2, Go.Sort.scanUp (fun x => !ltU d2[a]! x) d2 j0 i0 = I2 := ⟨_, rfl⟩
      obtain ⟨J2, hJ2⟩ : ∃ J2, Go.Sort.scanDown (fun x => ltU d2[a]! x) d2 I2 j0 = J2 := ⟨_, rfl⟩
      have HI2' := Lib.hid hI2
      have HJ2' := Lib.hid hJ2
      clear hJ2
      go_wp2_with (fail)
      go_loopw [9] (fun s wr => ∃ (i : Nat), s = .int .i64 i ∧ i0 ≤ i ∧ i ≤ n + 1 ∧ Hid (Go.Sort.scanUp (fun x => !ltU d2[a]! x) d2 j0 i = I2) ∧ Hid (ArrAt lo wr g n c d2) ∧ Hid (Kept [g] w wr)) (fun s _ => n + 2 - (intOf s).toNat)
      case atStart => exact ⟨i0, by go_num, by omega, by omega, by assumption, HA5.out, HK5.out⟩
      case round =>
        clear HA5 HK5
        obtain ⟨i, rfl, hi1, hi2, HI, HA, HK⟩ := hrel
        go_upto_region 3 with fail
        go_cut [43] from 29 to 45 (fun s wx => ∃ z : Bool, s = .bool z ∧ Hid (z = (decide (i ≤ j0) && (fun x => !ltU d2[a]! x) d2[i]!)) ∧ Hid (ArrAt lo wx g n c d2) ∧ Hid (Kept [g] w wx))
        case first =>
          by_cases hij : i ≤ j0
          · have hijI : (i : Int) ≤ (j0 : Int) := by omega
            have c1 : wr.cell? ⟨g, a, none⟩ = some (.int .u64 (d2[a]! : Int)) := HA.out.cell (by omega)
            have c2 : wr.cell? ⟨g, i, none⟩ = some (.int .u64 (d2[i]! : Int)) := HA.out.cell (by omega)
            have f1 := HA.out.frozen a
            have f2 := HA.out.frozen i
            have hgl := HA.out.lt.2
            obtain ⟨y1, hy1⟩ : ∃ y1, d2[a]! = y1 := ⟨_, rfl⟩
            obtain ⟨y2, hy2⟩ : ∃ y2, d2[i]! = y2 := ⟨_, rfl⟩
            rw [hy1] at c1
            rw [hy2] at c2
            have Z := Lib.hid (show (!decide (y1 < y2)) = (decide (i ≤ j0) && (fun x => !ltU d2[a]! x) d2[i]!) from by
              show _ = (decide _ && _)
              rw [decide_eq_true hij, Bool.true_and, ← hy1, ← hy2]
              rfl)
            clear hy1 hy2
            go_quiet (first | (go_at_call 121; refine Calls.quiet_of_same (less64 y1 y2 _)))
            go_wp2
            go_meet
            exact ⟨_, rfl, Z.out, HA.out.drewN _, HK.out.drewN _⟩
          · have hijI : decide ((i : Int) ≤ (j0 : Int)) = false := decide_eq_false (by omega)
            have Z := Lib.hid (show false = (decide (i ≤ j0) && (fun x => !ltU d2[a]! x) d2[i]!) from by
              show _ = (decide _ && _)
              rw [decide_eq_false hij, Bool.false_and])
            obtain ⟨y1, hy1⟩ : ∃ y1 : Nat, 0 = y1 := ⟨_, rfl⟩
            obtain ⟨y2, hy2⟩ : ∃ y2 : Nat, 0 = y2 := ⟨_, rfl⟩
            clear hy1 hy2
            go_quiet (first | (go_at_call 121; refine Calls.quiet_of_same (less64 y1 y2 _)))
            go_wp2
            go_meet
            exact ⟨_, rfl, Z.out, HA.out.drewN _, HK.out.drewN _⟩
        case rest =>
          obtain ⟨z, rfl, HZ, HA2, HK2⟩ := hcut
          clear HA HK
          cases z
          rotate_left
          · have hle : i ≤ j0 := and_le HZ.out.symm
            have HI2 := Lib.hid (show Go.Sort.scanUp (fun x => !ltU d2[a]! x) d2 j0 (i + 1) = I2 from by rw [← HI.out]; exact (up_go HZ.out.symm).symm)
            clear HI HZ
            go_wp2
            go_roundw
            case rel => exact ⟨i + 1, by go_num, by omega, by omega, HI2.out, HA2.out, HK2.out⟩
            case measure => simp [intOf]; omega
          · obtain rfl : i = I2 := by rw [← HI.out]; exact (up_stop HZ.out.symm).symm
            have EI := Lib.hid (show (decide (i ≤ j0) && (fun x => !ltU d2[a]! x) d2[i]!) = false from HZ.out.symm)
            clear HI HZ
            have hJ3 := HJ2'.out
            clear hI2
            go_wp2_with (fail)
            go_loopw [10] (fun s wr => ∃ (j : Nat), s = .int .i64 j ∧ a ≤ j ∧ j ≤ j0 ∧ Hid (Go.Sort.scanDown (fun x => ltU d2[a]! x) d2 i j = J2) ∧ Hid (ArrAt lo wr g n c d2) ∧ Hid (Kept [g] w wr)) (fun s _ => (intOf s).toNat)
            case atStart => exact ⟨j0, by go_num, by omega, by omega, hJ3, HA2.out, HK2.out⟩
            case round =>
              clear HA2 HK2
              obtain ⟨j, rfl, hj1, hj2, HI, HA, HK⟩ := hrel
              go_upto_region 5 with fail
              go_cut [59] from 46 to 61 (fun s wx => ∃ z : Bool, s = .bool z ∧ Hid (z = (decide (i ≤ j) && (fun x => ltU d2[a]! x) d2[j]!)) ∧ Hid (ArrAt lo wx g n c d2) ∧ Hid (Kept [g] w wx))
              case first =>
                by_cases hij : i ≤ j
                · have hijI : (i : Int) ≤ (j : Int) := by omega
                  have c1 : wr.cell? ⟨g, a, none⟩ = some (.int .u64 (d2[a]! : Int)) := HA.out.cell (by omega)
                  have c2 : wr.cell? ⟨g, j, none⟩ = some (.int .u64 (d2[j]! : Int)) := HA.out.cell (by omega)
                  have f1 := HA.out.frozen a
                  have f2 := HA.out.frozen j
                  have hgl := HA.out.lt.2
                  obtain ⟨y1, hy1⟩ : ∃ y1, d2[a]! = y1 := ⟨_, rfl⟩
                  obtain ⟨y2, hy2⟩ : ∃ y2, d2[j]! = y2 := ⟨_, rfl⟩
                  rw [hy1] at c1
                  rw [hy2] at c2
                  have Z := Lib.hid (show (decide (y1 < y2)) = (decide (i ≤ j) && (fun x => ltU d2[a]! x) d2[j]!) from by
                    show _ = (decide _ && _)
                    rw [decide_eq_true hij, Bool.true_and, ← hy1, ← hy2]
                    rfl)
                  clear hy1 hy2
                  go_quiet (first | (go_at_call 121; refine Calls.quiet_of_same (less64 y1 y2 _)))
                  go_wp2
                  go_meet
                  exact ⟨_, rfl, Z.out, HA.out.drewN _, HK.out.drewN _⟩
                · have hijI : decide ((i : Int) ≤ (j : Int)) = false := decide_eq_false (by omega)
                  have Z := Lib.hid (show false = (decide (i ≤ j) && (fun x => ltU d2[a]! x) d2[j]!) from by
                    show _ = (decide _ && _)
                    rw [decide_eq_false hij, Bool.false_and])
                  obtain ⟨y1, hy1⟩ : ∃ y1 : Nat, 0 = y1 := ⟨_, rfl⟩
                  obtain ⟨y2, hy2⟩ : ∃ y2 : Nat, 0 = y2 := ⟨_, rfl⟩
                  clear hy1 hy2
                  go_quiet (first | (go_at_call 121; refine Calls.quiet_of_same (less64 y1 y2 _)))
                  go_wp2
                  go_meet
                  exact ⟨_, rfl, Z.out, HA.out.drewN _, HK.out.drewN _⟩
              case rest =>
                obtain ⟨z, rfl, HZ, HA2, HK2⟩ := hcut
                clear HA HK
                cases z
                rotate_left
                · have hle : i ≤ j := and_le HZ.out.symm
                  obtain ⟨j1, hj1⟩ : ∃ j1, j - 1 = j1 := ⟨_, rfl⟩
                  have hj1I : (j : Int) - 1 = (j1 : Int) := by omega
                  have HI2 := Lib.hid (show Go.Sort.scanDown (fun x => ltU d2[a]! x) d2 i j1 = J2 from by rw [← HI.out, ← hj1]; exact (down_go (by omega) HZ.out.symm).symm)
                  clear HI HZ
                  go_wp2
                  go_roundw
                  case rel => exact ⟨j1, by go_num, by omega, by omega, HI2.out, HA2.out, HK2.out⟩
                  case measure => simp [intOf]; omega
                · obtain rfl : j = J2 := by rw [← HI.out]; exact (down_stop HZ.out.symm).symm
                  have EJ := Lib.hid (show (decide (i ≤ j) && (fun x => ltU d2[a]! x) d2[j]!) = false from HZ.out.symm)
                  clear HI HZ
                  by_cases hgt : j < i
                  · have hgtI : (j : Int) < (i : Int) := by omega
                    have HQ := Lib.hid (show R = (i, d2) from by rw [← HPL.out]; exact eq_out HI2'.out HJ2'.out hgt)
                    clear HPL HI2' HJ2' EI EJ
                    go_wp2
                    (try simp only [Exit.inBlock, Exit.then]); refine bodyPost_ret (results_tmp rfl _ _ _) rfl ?_
                    rw [HQ.out]
                    exact ⟨rfl, HA2.out, HK2.out⟩
                  · have hlt2 : i < j := stops_ne (p := fun x => !ltU d2[a]! x) (q := fun x => ltU d2[a]! x) (fun x => (Bool.not_not _).symm) EI.out EJ.out hj2 (by omega)
                    have hgtI : decide ((j : Int) < (i : Int)) = false := decide_eq_false (by omega)
                    have hgtJ : decide ((i : Int) > (j : Int)) = false := decide_eq_false (by omega)
                    obtain ⟨i1', hi1e⟩ : ∃ i1', i + 1 = i1' := ⟨_, rfl⟩
                    obtain ⟨j1', hj1e⟩ : ∃ j1', j - 1 = j1' := ⟨_, rfl⟩
                    have HP2 := Lib.hid (show Go.Sort.partEqLoop ltU a i1' j1' (Go.Sort.swp d2 i j) = R from by rw [← HPL.out, eq_on HI2'.out HJ2'.out hgt, hi1e, hj1e])
                    have hi1I' : (i : Int) + 1 = (i1' : Int) := by omega
                    have hj1I' : (j : Int) - 1 = (j1' : Int) := by omega
                    have hij2 : ¬ i = j := by omega
                    have hji2 : ¬ j = i := by omega
                    clear HPL HI2' HJ2' EI EJ
                    have SW := Lib.hid ((HA2.out.drew).swap (show i < n by omega) (show j < n by omega))
                    have SK := Lib.hid (((HK2.out.drew).setCell ⟨g, i, none⟩ (.int .u64 (d2[j]! : Int)) (.inl (by simp))).setCell ⟨g, j, none⟩ (.int .u64 (d2[i]! : Int)) (.inl (by simp)))
                    have c1 : wc.cell? ⟨g, i, none⟩ = some (.int .u64 (d2[i]! : Int)) := HA2.out.cell (by omega)
                    have c2 : wc.cell? ⟨g, j, none⟩ = some (.int .u64 (d2[j]! : Int)) := HA2.out.cell (by omega)
                    have f1 := HA2.out.frozen i
                    have f2 := HA2.out.frozen j
                    have hgl := HA2.out.lt.2
                    obtain ⟨y1, hy1⟩ : ∃ y1, d2[i]! = y1 := ⟨_, rfl⟩
                    obtain ⟨y2, hy2⟩ : ∃ y2, d2[j]! = y2 := ⟨_, rfl⟩
                    rw [hy1] at c1
                    rw [hy2] at c2
                    rw [hy1] at SK SW
                    rw [hy2] at SK SW
                    clear hy1 hy2 HA2 HK2
                    go_wp2_with (fail)
                    go_region
                    all_goals go_wp2
                    exact ⟨⟨i1', j1', _, rfl, rfl, by omega, by omega, by omega, by omega, HP2.out, SW.out, SK.out⟩, by simp [intOf]; omega⟩
/-- A hint as the Go text has it. -/
def hintN : Go.Sort.Hint → Nat
  | .unknown => 0
  | .increasing => 1
  | .decreasing => 2
theorem hint_of (s : Nat) : hintN (if s = 0 then .increasing else if s = 12 then .decreasing else .unknown) = if s = 0 then 1 else if s = 12 then 2 else 0 := by
  split
  · rfl
  · split <;> rfl
theorem medadj_lt {d : Array Nat} {n a k : Nat} (h1 : 1 ≤ a) (ha : a + 1 < n) : (Go.Sort.medianAdjacent ltU d a k).1 < n ∧ (Go.Sort.medianAdjacent ltU d a k).2 ≤ k + 3 := median_lt (by omega) (by omega) ha
set_option maxRecDepth 100000 in
set_option maxHeartbeats 6400000 in
theorem pivot_any64 (lo g n c a b : Nat) (w : World) (d : Array Nat) (h : ArrAt lo w g n c d) (hab : a + 8 ≤ b) (hb : b ≤ n) (hn : n ≤ 4294967296) :
    Calls Tryz.prog 150 #[.slice (some ⟨g, 0, none⟩) n c, .int .i64 (a : Int), .int .i64 (b : Int)] w fun e w' => e = .returned (.tuple #[.int .i64 ((Go.Sort.choosePivot ltU d a b).1 : Int), .int .i64 ((hintN (Go.Sort.choosePivot ltU d a b).2 : Nat) : Int)]) ∧ Kept [] w w' := by
  obtain ⟨l, hl⟩ : ∃ l, b - a = l := ⟨_, rfl⟩
  have hlI : (b : Int) - (a : Int) = (l : Int) := by omega
  obtain ⟨l4, hl4⟩ : ∃ l4, l / 4 = l4 := ⟨_, rfl⟩
  have hl4I : (l : Int).tdiv 4 = (l4 : Int) := by rw [Int.tdiv_eq_ediv_of_nonneg (by omega)]; omega
  have hl4J : (l : Int) / 4 = (l4 : Int) := by omega
  obtain ⟨i, hi⟩ : ∃ i, a + l4 * 1 = i := ⟨_, rfl⟩
  obtain ⟨j, hj⟩ : ∃ j, a + l4 * 2 = j := ⟨_, rfl⟩
  obtain ⟨k, hk⟩ : ∃ k, a + l4 * 3 = k := ⟨_, rfl⟩
  have hiI : (a : Int) + (l4 : Int) = (i : Int) := by omega
  have hiJ : (a : Int) + (l4 : Int) * 1 = (i : Int) := by omega
  have hjI : (a : Int) + (l4 : Int) * 2 = (j : Int) := by omega
  have hkI : (a : Int) + (l4 : Int) * 3 = (k : Int) := by omega
  have hcn : n ≤ c := by
    obtain ⟨_, _, _, _, _, h5, _⟩ := h.blk
    exact h5
  have hgw := h.lt.2
  obtain ⟨C, hC⟩ : ∃ C, Go.Sort.choosePivot ltU d a b = C := ⟨_, rfl⟩
  rw [hC]
  obtain ⟨M, hM⟩ : ∃ M : Nat × Nat, (if l ≥ 50 then Go.Sort.median ltU d (Go.Sort.medianAdjacent ltU d i 0).1 (Go.Sort.medianAdjacent ltU d j (Go.Sort.medianAdjacent ltU d i 0).2).1 (Go.Sort.medianAdjacent ltU d k (Go.Sort.medianAdjacent ltU d j (Go.Sort.medianAdjacent ltU d i 0).2).2).1 (Go.Sort.medianAdjacent ltU d k (Go.Sort.medianAdjacent ltU d j (Go.Sort.medianAdjacent ltU d i 0).2).2).2 else Go.Sort.median ltU d i j k 0) = M := ⟨_, rfl⟩
  have hC1 : C.1 = M.1 ∧ hintN C.2 = if M.2 = 0 then 1 else if M.2 = 12 then 2 else 0 := by
    rw [← hC, ← hM, ← hint_of]
    unfold Go.Sort.choosePivot
    simp only [hl, hl4, hi, hj, hk, show l ≥ 8 from by omega, if_true]
    exact ⟨trivial, trivial⟩
  have HC := Lib.hid hC1
  have HM := Lib.hid hM
  have hbnd : 1 ≤ i ∧ i + 1 < n ∧ 1 ≤ j ∧ j + 1 < n ∧ 1 ≤ k ∧ k + 1 < n := by omega
  have hl8 : (8 : Int) ≤ (l : Int) := by omega
  have HB := Lib.hid hbnd
  have H0 := Lib.hid h
  clear h hC hC1 hM hbnd hl hl4 hi hj hk
  go_enter Tryz.func150, Tryz.ntmps150
  go_upto_region 7 with fail
  obtain ⟨W1, hW1⟩ : ∃ W1, w.alloc (.cells #[.int .i64 0] 3) = W1 := ⟨_, rfl⟩
  have S1 := Lib.hid (show Blk W1 w.heap.size 3 [.int .i64 ((0 : Nat) : Int)] from by rw [← hW1]; exact Blk.new w _ _)
  have K1 := Lib.hid (show Kept [w.heap.size] w W1 from by rw [← hW1]; exact (Kept.refl _ w).alloc _)
  have A1 := Lib.hid (H0.out.kept K1.out (by simp; omega))
  have hgs : g ≠ w.heap.size := by omega
  by_cases h50 : l ≥ 50
  · have h50I : (50 : Int) ≤ (l : Int) := by omega
    have HM2 := Lib.hid (show _ = M from (if_pos h50).symm.trans HM.out)
    clear HM
    obtain ⟨b1, b2, b3, b4, b5, b6⟩ := HB.out
    have l1 := medadj_lt (d := d) (k := 0) b1 b2
    obtain ⟨x1, z1, e1⟩ : ∃ x1 z1, Go.Sort.medianAdjacent ltU d i 0 = (x1, z1) := ⟨_, _, rfl⟩
    rw [e1] at l1
    have HM3 := Lib.hid HM2.out
    rw [e1] at HM3
    simp only at l1 HM3
    have l2 := medadj_lt (d := d) (k := z1) b3 b4
    obtain ⟨x2, z2, e2⟩ : ∃ x2 z2, Go.Sort.medianAdjacent ltU d j z1 = (x2, z2) := ⟨_, _, rfl⟩
    rw [e2] at l2 HM3
    simp only at l2 HM3
    have l3 := medadj_lt (d := d) (k := z2) b5 b6
    obtain ⟨x3, z3, e3⟩ : ∃ x3 z3, Go.Sort.medianAdjacent ltU d k z2 = (x3, z3) := ⟨_, _, rfl⟩
    rw [e3] at l3 HM3
    simp only at l3 HM3
    have E1 := Lib.hid e1
    have E2 := Lib.hid e2
    have E3 := Lib.hid e3
    clear HM2 e1 e2 e3
    go_wp2_with (fail)
    refine (medadj_any64 lo g n c i w.heap.size 0 W1 d A1.out b1 b2 hn S1.out (by omega) hgs).mono ?_
    rintro r w2 ⟨rfl, hs2, hk2⟩
    rw [E1.out] at hs2 ⊢
    simp only at hs2 ⊢
    have S2 := Lib.hid hs2
    have K2 := Lib.hid (K1.out.trans hk2 (Grows.refl _ _))
    have A2 := Lib.hid (H0.out.kept K2.out (by simp; omega))
    clear hs2 hk2 S1 K1 A1
    go_wp2_with (fail)
    refine (medadj_any64 lo g n c j w.heap.size z1 w2 d A2.out b3 b4 hn S2.out (by omega) hgs).mono ?_
    rintro r w3 ⟨rfl, hs3, hk3⟩
    rw [E2.out] at hs3 ⊢
    simp only at hs3 ⊢
    have S3 := Lib.hid hs3
    have K3 := Lib.hid (K2.out.trans hk3 (Grows.refl _ _))
    have A3 := Lib.hid (H0.out.kept K3.out (by simp; omega))
    clear hs3 hk3 S2 K2 A2
    go_wp2_with (fail)
    refine (medadj_any64 lo g n c k w.heap.size z2 w3 d A3.out b5 b6 hn S3.out (by omega) hgs).mono ?_
    rintro r w4 ⟨rfl, hs4, hk4⟩
    rw [E3.out] at hs4 ⊢
    simp only at hs4 ⊢
    have S4 := Lib.hid hs4
    have K4 := Lib.hid (K3.out.trans hk4 (Grows.refl _ _))
    have A4 := Lib.hid (H0.out.kept K4.out (by simp; omega))
    clear hs4 hk4 S3 K3 A3
    go_wp2_with (fail)
    refine (median_any64 lo g n c x1 x2 x3 w.heap.size z3 w4 d A4.out l1.1 l2.1 l3.1 S4.out (by omega) hgs).mono ?_
    rintro r w5 ⟨rfl, hs5, hk5⟩
    rw [HM3.out] at hs5 ⊢
    obtain ⟨m, s⟩ := M
    simp only at hs5 ⊢
    have K5 := Lib.hid (K4.out.trans hk5 (Grows.refl _ _))
    have ks : w5.cell? ⟨w.heap.size, 0, none⟩ = some (.int .i64 (s : Int)) := hs5.cell 0
    have fs := hs5.frozen 0
    obtain ⟨hc1, hc2⟩ := HC.out
    simp only at hc1 hc2
    have H1 := Lib.hid hc1
    have H2 := Lib.hid hc2
    have KE := Lib.hid (show Kept [] w w5 from ⟨K5.out.os, K5.out.tape, K5.out.output, K5.out.size, fun k hk _ => K5.out.block k hk (by simp; omega)⟩)
    clear hs5 hk5 HC hc1 hc2 HM3
    by_cases hs0 : s = 0
    · have HH := Lib.hid (show hintN C.2 = 1 from by rw [H2.out, if_pos hs0])
      clear H2
      subst hs0
      go_wp2
      (try simp only [Exit.inBlock, Exit.then]); refine bodyPost_ret (results_tmp2 rfl _ _ _) rfl ?_
      rw [H1.out, HH.out]
      exact ⟨rfl, KE.out⟩
    · have hb0 : decide ((s : Int) = 0) = false := decide_eq_false (by omega)
      have hb1 : ((s : Int) == 0) = false := by rw [Bool.eq_false_iff]; intro h; rw [beq_iff_eq] at h; omega
      by_cases hs1 : s = 12
      · have HH := Lib.hid (show hintN C.2 = 2 from by rw [H2.out, if_neg hs0, if_pos hs1])
        clear H2
        subst hs1
        go_wp2
        (try simp only [Exit.inBlock, Exit.then]); refine bodyPost_ret (results_tmp2 rfl _ _ _) rfl ?_
        rw [H1.out, HH.out]
        exact ⟨rfl, KE.out⟩
      · have HH := Lib.hid (show hintN C.2 = 0 from by rw [H2.out, if_neg hs0, if_neg hs1])
        have hb2 : decide ((s : Int) = 12) = false := decide_eq_false (by omega)
        have hb3 : ((s : Int) == 12) = false := by rw [Bool.eq_false_iff]; intro h; rw [beq_iff_eq] at h; omega
        clear H2
        go_wp2
        (try simp only [Exit.inBlock, Exit.then]); refine bodyPost_ret (results_tmp2 rfl _ _ _) rfl ?_
        rw [H1.out, HH.out]
        exact ⟨rfl, KE.out⟩
  · have h50I : decide ((l : Int) ≥ 50) = false := decide_eq_false (by omega)
    have h50J : decide ((50 : Int) ≤ (l : Int)) = false := decide_eq_false (by omega)
    have HM3 := Lib.hid (show Go.Sort.median ltU d i j k 0 = M from (if_neg h50).symm.trans HM.out)
    clear HM
    obtain ⟨b1, b2, b3, b4, b5, b6⟩ := HB.out
    go_wp2_with (fail)
    refine (median_any64 lo g n c i j k w.heap.size 0 W1 d A1.out (by omega) (by omega) (by omega) S1.out (by omega) hgs).mono ?_
    rintro r w5 ⟨rfl, hs5, hk5⟩
    rw [HM3.out] at hs5 ⊢
    obtain ⟨m, s⟩ := M
    simp only at hs5 ⊢
    have K5 := Lib.hid (K1.out.trans hk5 (Grows.refl _ _))
    have ks : w5.cell? ⟨w.heap.size, 0, none⟩ = some (.int .i64 (s : Int)) := hs5.cell 0
    have fs := hs5.frozen 0
    obtain ⟨hc1, hc2⟩ := HC.out
    simp only at hc1 hc2
    have H1 := Lib.hid hc1
    have H2 := Lib.hid hc2
    have KE := Lib.hid (show Kept [] w w5 from ⟨K5.out.os, K5.out.tape, K5.out.output, K5.out.size, fun k hk _ => K5.out.block k hk (by simp; omega)⟩)
    clear hs5 hk5 HC hc1 hc2 HM3
    by_cases hs0 : s = 0
    · have HH := Lib.hid (show hintN C.2 = 1 from by rw [H2.out, if_pos hs0])
      clear H2
      subst hs0
      go_wp2
      (try simp only [Exit.inBlock, Exit.then]); refine bodyPost_ret (results_tmp2 rfl _ _ _) rfl ?_
      rw [H1.out, HH.out]
      exact ⟨rfl, KE.out⟩
    · have hb0 : decide ((s : Int) = 0) = false := decide_eq_false (by omega)
      have hb1 : ((s : Int) == 0) = false := by rw [Bool.eq_false_iff]; intro h; rw [beq_iff_eq] at h; omega
      by_cases hs1 : s = 12
      · have HH := Lib.hid (show hintN C.2 = 2 from by rw [H2.out, if_neg hs0, if_pos hs1])
        clear H2
        subst hs1
        go_wp2
        (try simp only [Exit.inBlock, Exit.then]); refine bodyPost_ret (results_tmp2 rfl _ _ _) rfl ?_
        rw [H1.out, HH.out]
        exact ⟨rfl, KE.out⟩
      · have HH := Lib.hid (show hintN C.2 = 0 from by rw [H2.out, if_neg hs0, if_neg hs1])
        have hb2 : decide ((s : Int) = 12) = false := decide_eq_false (by omega)
        have hb3 : ((s : Int) == 12) = false := by rw [Bool.eq_false_iff]; intro h; rw [beq_iff_eq] at h; omega
        clear H2
        go_wp2
        (try simp only [Exit.inBlock, Exit.then]); refine bodyPost_ret (results_tmp2 rfl _ _ _) rfl ?_
        rw [H1.out, HH.out]
        exact ⟨rfl, KE.out⟩

theorem ss_go {d : Array Nat} {b i k : Nat} (hk : i - 1 = k) (h : (decide (i < b) && !ltU d[i]! d[k]!) = true) : Go.Sort.scanSorted ltU d b i = Go.Sort.scanSorted ltU d b (i + 1) := by
  subst hk
  rw [Go.Sort.scanSorted, if_pos h]
theorem ss_stop {d : Array Nat} {b i k : Nat} (hk : i - 1 = k) (h : (decide (i < b) && !ltU d[i]! d[k]!) = false) : Go.Sort.scanSorted ltU d b i = i := by
  subst hk
  rw [Go.Sort.scanSorted, if_neg (by simp [h])]
theorem and_lt {i j : Nat} {b : Bool} (h : (decide (i < j) && b) = true) : i < j := by
  rw [Bool.and_eq_true, decide_eq_true_eq] at h
  exact h.1
theorem sdn_zero (d : Array Nat) : Go.Sort.shiftDown ltU 0 d = d := by rw [Go.Sort.shiftDown]
theorem sdn_stop {d : Array Nat} {j k : Nat} (hk : j = k + 1) (h : (!ltU d[j]! d[k]!) = true) : Go.Sort.shiftDown ltU j d = d := by
  subst hk
  rw [Go.Sort.shiftDown, if_pos h]
theorem sdn_go {d : Array Nat} {j k : Nat} (hk : j = k + 1) (h : (!ltU d[j]! d[k]!) = false) : Go.Sort.shiftDown ltU j d = Go.Sort.shiftDown ltU k (Go.Sort.swp d j k) := by
  subst hk
  rw [Go.Sort.shiftDown, if_neg (by simp [h])]
theorem sup_end {d : Array Nat} {b j : Nat} (h : ¬ j < b) : Go.Sort.shiftUp ltU b j d = d := by rw [Go.Sort.shiftUp, if_neg h]
theorem sup_stop {d : Array Nat} {b j k : Nat} (hk : j - 1 = k) (h : (!ltU d[j]! d[k]!) = true) : Go.Sort.shiftUp ltU b j d = d := by
  subst hk
  rw [Go.Sort.shiftUp]
  by_cases hb : j < b
  · rw [if_pos hb, if_pos h]
  · rw [if_neg hb]
theorem sup_go {d : Array Nat} {b j k : Nat} (hk : j - 1 = k) (hb : j < b) (h : (!ltU d[j]! d[k]!) = false) : Go.Sort.shiftUp ltU b j d = Go.Sort.shiftUp ltU b (j + 1) (Go.Sort.swp d j k) := by
  subst hk
  rw [Go.Sort.shiftUp, if_pos hb, if_neg (by simp [h])]
theorem pins_zero (a b i : Nat) (d : Array Nat) : Go.Sort.partialIns ltU a b 0 i d = (d, false) := by rw [Go.Sort.partialIns]
theorem pins_succ {a b s i I k i1 : Nat} {d D1 D2 D3 : Array Nat} (hI : Go.Sort.scanSorted ltU d b i = I) (hk : I - 1 = k) (hi1 : I + 1 = i1) (h1 : Go.Sort.swp d I k = D1) (h2 : (if I - a ≥ 2 then Go.Sort.shiftDown ltU k D1 else D1) = D2) (h3 : (if b - I ≥ 2 then Go.Sort.shiftUp ltU b i1 D2 else D2) = D3) :
    Go.Sort.partialIns ltU a b (s + 1) i d = if I = b then (d, true) else if b - a < 50 then (d, false) else Go.Sort.partialIns ltU a b s I D3 := by
  subst hI hk hi1 h1 h2 h3
  rw [Go.Sort.partialIns]
set_option maxRecDepth 100000 in
set_option maxHeartbeats 12800000 in
theorem pins_any64 (lo g n c a b : Nat) (w : World) (d : Array Nat) (h : ArrAt lo w g n c d) (hab : a < b) (hb : b ≤ n) (hn : n ≤ 4294967296) :
    Calls Tryz.prog 152 #[.slice (some ⟨g, 0, none⟩) n c, .int .i64 (a : Int), .int .i64 (b : Int)] w fun e w' => e = .returned (.bool (Go.Sort.partialInsertionSort ltU d a b).2) ∧ ArrAt lo w' g n c (Go.Sort.partialInsertionSort ltU d a b).1 ∧ Kept [g] w w' := by
  obtain ⟨R, hR⟩ : ∃ R, Go.Sort.partialInsertionSort ltU d a b = R := ⟨_, rfl⟩
  rw [hR]
  obtain ⟨a1, ha1⟩ : ∃ a1, a + 1 = a1 := ⟨_, rfl⟩
  have ha1I : (a : Int) + 1 = (a1 : Int) := by omega
  have HP0 := Lib.hid (show Go.Sort.partialIns ltU a b 5 a1 d = R from by rw [← hR, ← ha1]; rfl)
  obtain ⟨l, hl⟩ : ∃ l, b - a = l := ⟨_, rfl⟩
  have hlI : (b : Int) - (a : Int) = (l : Int) := by omega
  have hcn : n ≤ c := by
    obtain ⟨_, _, _, _, _, h5, _⟩ := h.blk
    exact h5
  have haa : a < a1 ∧ a1 ≤ b := by omega
  obtain ⟨haa1, ha1b⟩ := haa
  have H0 := Lib.hid h
  have hl := Lib.hid hl
  clear h hR ha1
  go_enter Tryz.func152, Tryz.ntmps152
  go_wp2_with (fail)
  go_loopw [7, 8, 9, 10] (fun s7 s8 s9 s10 wr => ∃ (i s J : Nat) (d1 : Array Nat) (u9 u10 : Value), s7 = .int .i64 i ∧ s8 = .int .i64 J ∧ u9 = s9 ∧ u10 = s10 ∧ J + s = 5 ∧ a < i ∧ i ≤ b ∧ Hid (Go.Sort.partialIns ltU a b s i d1 = R) ∧ Hid (ArrAt lo wr g n c d1) ∧ Hid (Kept [g] w wr)) (fun _ s8 _ _ _ => 5 - (intOf s8).toNat)
  case atStart => exact ⟨a1, 5, 0, d, _, _, rfl, rfl, rfl, rfl, rfl, haa1, ha1b, HP0.out, H0.out, Kept.refl _ _⟩
  case round =>
    clear H0 HP0
    obtain ⟨i0, s, J, d1, u9, u10, rfl, rfl, rfl, rfl, hJ, hi0, hi0b, HP, HA0, HK0⟩ := hrel
    cases s with
    | zero =>
      have hJI : decide ((J : Int) < 5) = false := decide_eq_false (by omega)
      have HQ := Lib.hid (show R = (d1, false) from by rw [← HP.out, pins_zero])
      clear HP
      go_wp2
      (try simp only [Exit.inBlock, Exit.then]); refine bodyPost_ret (results_tmp rfl _ _ _) rfl ?_
      rw [HQ.out]
      exact ⟨rfl, HA0.out, HK0.out⟩
    | succ s =>
      have hJI : (J : Int) < 5 := by omega
      obtain ⟨I, hI⟩ : ∃ I, Go.Sort.scanSorted ltU d1 b i0 = I := ⟨_, rfl⟩
      have HI1 := Lib.hid hI
      go_wp2_with (fail)
      go_loopw [7] (fun s wr => ∃ (i : Nat), s = .int .i64 i ∧ i0 ≤ i ∧ i ≤ b ∧ Hid (Go.Sort.scanSorted ltU d1 b i = I) ∧ Hid (ArrAt lo wr g n c d1) ∧ Hid (Kept [g] w wr)) (fun s _ => b - (intOf s).toNat)
      case atStart => exact ⟨i0, rfl, Nat.le_refl _, by omega, hI, HA0.out, HK0.out⟩
      case round =>
        clear HA0 HK0 hI
        obtain ⟨i, rfl, hi1, hi2, HI, HA, HK⟩ := hrel
        obtain ⟨k, hk⟩ : ∃ k, i - 1 = k := ⟨_, rfl⟩
        have hkI : (i : Int) - 1 = (k : Int) := by omega
        have hkn : k < n := by omega
        go_upto_region 5 with fail
        go_cut [32] from 17 to 34 (fun s wx => ∃ z : Bool, s = .bool z ∧ Hid (z = (decide (i < b) && !ltU d1[i]! d1[k]!)) ∧ Hid (ArrAt lo wx g n c d1) ∧ Hid (Kept [g] w wx))
        case first =>
          by_cases hij : i < b
          · have hijI : (i : Int) < (b : Int) := by omega
            have hin : i < n := by omega
            have c1 : wr.cell? ⟨g, i, none⟩ = some (.int .u64 (d1[i]! : Int)) := HA.out.cell (by omega)
            have c2 : wr.cell? ⟨g, k, none⟩ = some (.int .u64 (d1[k]! : Int)) := HA.out.cell (by omega)
            have f1 := HA.out.frozen i
            have f2 := HA.out.frozen k
            have hgl := HA.out.lt.2
            obtain ⟨y1, hy1⟩ : ∃ y1, d1[i]! = y1 := ⟨_, rfl⟩
            obtain ⟨y2, hy2⟩ : ∃ y2, d1[k]! = y2 := ⟨_, rfl⟩
            rw [hy1] at c1
            rw [hy2] at c2
            have Z := Lib.hid (show (!decide (y1 < y2)) = (decide (i < b) && !ltU d1[i]! d1[k]!) from by rw [decide_eq_true hij, Bool.true_and, hy1, hy2]; rfl)
            clear hy1 hy2 hk
            go_quiet (first | (go_at_call 121; refine Calls.quiet_of_same (less64 y1 y2 _)))
            go_wp2
            go_meet
            exact ⟨_, rfl, Z.out, HA.out.drewN _, HK.out.drewN _⟩
          · have hijI : decide ((i : Int) < (b : Int)) = false := decide_eq_false (by omega)
            have Z := Lib.hid (show false = (decide (i < b) && !ltU d1[i]! d1[k]!) from by rw [decide_eq_false hij, Bool.false_and])
            obtain ⟨y1, hy1⟩ : ∃ y1 : Nat, 0 = y1 := ⟨_, rfl⟩
            obtain ⟨y2, hy2⟩ : ∃ y2 : Nat, 0 = y2 := ⟨_, rfl⟩
            clear hy1 hy2 hk
            go_quiet (first | (go_at_call 121; refine Calls.quiet_of_same (less64 y1 y2 _)))
            go_wp2
            go_meet
            exact ⟨_, rfl, Z.out, HA.out.drewN _, HK.out.drewN _⟩
        case rest =>
          obtain ⟨z, rfl, HZ, HA2, HK2⟩ := hcut
          clear HA HK
          have hk := Lib.hid hk
          cases z
          rotate_left
          · have hle : i < b := and_lt HZ.out.symm
            have HI2 := Lib.hid (show Go.Sort.scanSorted ltU d1 b (i + 1) = I from by rw [← HI.out]; exact (ss_go hk.out HZ.out.symm).symm)
            clear HI HZ
            go_wp2
            go_roundw
            case rel => exact ⟨i + 1, by go_num, by omega, by omega, HI2.out, HA2.out, HK2.out⟩
            case measure => simp [intOf]; omega
          · obtain rfl : i = I := by rw [← HI.out]; exact (ss_stop hk.out HZ.out.symm).symm
            clear HI HZ
            obtain ⟨i1, hi1e⟩ : ∃ i1, i + 1 = i1 := ⟨_, rfl⟩
            obtain ⟨D1, hD1⟩ : ∃ D1, Go.Sort.swp d1 i k = D1 := ⟨_, rfl⟩
            obtain ⟨D2, hD2⟩ : ∃ D2, (if i - a ≥ 2 then Go.Sort.shiftDown ltU k D1 else D1) = D2 := ⟨_, rfl⟩
            obtain ⟨D3, hD3⟩ : ∃ D3, (if b - i ≥ 2 then Go.Sort.shiftUp ltU b i1 D2 else D2) = D3 := ⟨_, rfl⟩
            have HPS := Lib.hid (HP.out.symm.trans (pins_succ (a := a) (s := s) HI1.out hk.out hi1e hD1 hD2 hD3))
            have hi1I : (i : Int) + 1 = (i1 : Int) := by omega
            have HD1 := Lib.hid hD1
            have HD2 := Lib.hid hD2
            have HD3 := Lib.hid hD3
            have hi1e := Lib.hid hi1e
            clear HP hD1 hD2 hD3 HI1
            by_cases hib : i = b
            · subst hib
              have HQ := Lib.hid (show R = (d1, true) from by rw [HPS.out, if_pos rfl])
              clear HPS
              go_wp2
              (try simp only [Exit.inBlock, Exit.then]); refine bodyPost_ret (results_tmp rfl _ _ _) rfl ?_
              rw [HQ.out]
              exact ⟨rfl, HA2.out, HK2.out⟩
            · have hibI : decide ((i : Int) = (b : Int)) = false := decide_eq_false (by omega)
              have hibJ : ((i : Int) == (b : Int)) = false := by rw [Bool.eq_false_iff]; intro h; rw [beq_iff_eq] at h; omega
              by_cases h50 : l < 50
              · have h50I : (l : Int) < 50 := by omega
                have HQ := Lib.hid (show R = (d1, false) from by rw [HPS.out, if_neg hib, hl.out, if_pos h50])
                clear HPS
                go_wp2
                (try simp only [Exit.inBlock, Exit.then]); refine bodyPost_ret (results_tmp rfl _ _ _) rfl ?_
                rw [HQ.out]
                exact ⟨rfl, HA2.out, HK2.out⟩
              · have h50I : decide ((l : Int) < 50) = false := decide_eq_false (by omega)
                have HQ := Lib.hid (show Go.Sort.partialIns ltU a b s i D3 = R from by rw [HPS.out, if_neg hib, hl.out, if_neg h50])
                have hin : i < n := by omega
                have hik : ¬ i = k := by omega
                have hki : ¬ k = i := by omega
                clear HPS
                go_upto_region 11 with fail
                go_cut [] from 42 to 57 (fun wx => Hid (ArrAt lo wx g n c D1) ∧ Hid (Kept [g] w wx))
                case first =>
                  have SW := Lib.hid ((HA2.out.drew).swap (show i < n by omega) (show k < n by omega))
                  have SK := Lib.hid (((HK2.out.drew).setCell ⟨g, i, none⟩ (.int .u64 (d1[k]! : Int)) (.inl (by simp))).setCell ⟨g, k, none⟩ (.int .u64 (d1[i]! : Int)) (.inl (by simp)))
                  have c1 : wc.cell? ⟨g, i, none⟩ = some (.int .u64 (d1[i]! : Int)) := HA2.out.cell (by omega)
                  have c2 : wc.cell? ⟨g, k, none⟩ = some (.int .u64 (d1[k]! : Int)) := HA2.out.cell (by omega)
                  have f1 := HA2.out.frozen i
                  have f2 := HA2.out.frozen k
                  have hgl := HA2.out.lt.2
                  obtain ⟨y1, hy1⟩ : ∃ y1, d1[i]! = y1 := ⟨_, rfl⟩
                  obtain ⟨y2, hy2⟩ : ∃ y2, d1[k]! = y2 := ⟨_, rfl⟩
                  rw [hy1] at c1
                  rw [hy2] at c2
                  rw [hy1] at SK SW
                  rw [hy2] at SK SW
                  clear hy1 hy2 HA2 HK2
                  go_wp2_with (fail)
                  go_region
                  all_goals go_wp2
                  go_meet
                  exact ⟨by rw [← HD1.out]; exact SW.out, SK.out⟩
                case rest =>
                  clear HA2 HK2
                  obtain ⟨HA3, HK3⟩ := hcut
                  clear HD1
                  go_upto_if 61 with fail
                  go_cut [9] from 62 to 94 (fun s9 wx => ∃ v : Value, v = s9 ∧ Hid (ArrAt lo wx g n c D2) ∧ Hid (Kept [g] w wx))
                  case first =>
                    by_cases h2 : i - a ≥ 2
                    · have h2I : (2 : Int) ≤ (i : Int) - (a : Int) := by omega
                      have HS := Lib.hid (show Go.Sort.shiftDown ltU k D1 = D2 from by rw [← HD2.out, if_pos h2])
                      clear HD2
                      go_wp2_with (fail)
                      go_loopw [9] (fun s wr => ∃ (j : Nat) (dj : Array Nat), s = .int .i64 j ∧ j ≤ k ∧ Hid (Go.Sort.shiftDown ltU j dj = D2) ∧ Hid (ArrAt lo wr g n c dj) ∧ Hid (Kept [g] w wr)) (fun s _ => (intOf s).toNat)
                      case atStart => exact ⟨k, D1, by go_num, Nat.le_refl _, HS.out, HA3.out, HK3.out⟩
                      case round =>
                        clear HA3 HK3 HS
                        obtain ⟨j, dj, rfl, hj, HS, HA, HK⟩ := hrel
                        cases j with
                        | zero =>
                          have HF := Lib.hid (show dj = D2 from by rw [← HS.out, sdn_zero])
                          rw [HF.out] at HA
                          clear HS
                          go_wp2
                          go_meet
                          exact ⟨_, rfl, HA.out, HK.out⟩
                        | succ m =>
                          obtain ⟨j, hjm⟩ : ∃ j, m + 1 = j := ⟨_, rfl⟩
                          rw [hjm] at hj HS ⊢
                          have hmI : (j : Int) - 1 = (m : Int) := by omega
                          have hj1I : (1 : Int) ≤ (j : Int) := by omega
                          have hjn : j < n := by omega
                          have hmn : m < n := by omega
                          have hjm' := Lib.hid hjm.symm
                          have hnjm : ¬ j = m := by omega
                          have hnmj : ¬ m = j := by omega
                          clear hjm
                          go_upto_region 16 with fail
                          go_cut [78] from 64 to 94 (fun s wx => ∃ z : Bool, s = .bool z ∧ Hid (z = !ltU dj[j]! dj[m]!) ∧ Hid (ArrAt lo wx g n c dj) ∧ Hid (Kept [g] w wx))
                          case first =>
                            have c1 : wr.cell? ⟨g, j, none⟩ = some (.int .u64 (dj[j]! : Int)) := HA.out.cell (by omega)
                            have c2 : wr.cell? ⟨g, m, none⟩ = some (.int .u64 (dj[m]! : Int)) := HA.out.cell (by omega)
                            have f1 := HA.out.frozen j
                            have f2 := HA.out.frozen m
                            have hgl := HA.out.lt.2
                            obtain ⟨y1, hy1⟩ : ∃ y1, dj[j]! = y1 := ⟨_, rfl⟩
                            obtain ⟨y2, hy2⟩ : ∃ y2, dj[m]! = y2 := ⟨_, rfl⟩
                            rw [hy1] at c1
                            rw [hy2] at c2
                            have Z := Lib.hid (show (!decide (y1 < y2)) = !ltU dj[j]! dj[m]! from by rw [hy1, hy2]; rfl)
                            clear hy1 hy2
                            go_quiet (first | (go_at_call 121; refine Calls.quiet_of_same (less64 y1 y2 _)))
                            go_wp2
                            go_meet
                            exact ⟨_, rfl, Z.out, HA.out.drewN _, HK.out.drewN _⟩
                          case rest =>
                            obtain ⟨z, rfl, HZ, HA2, HK2⟩ := hcut
                            clear HA HK
                            cases z
                            · have HS2 := Lib.hid (show Go.Sort.shiftDown ltU m (Go.Sort.swp dj j m) = D2 from by rw [← HS.out]; exact (sdn_go hjm'.out HZ.out.symm).symm)
                              clear HS HZ
                              have SW := Lib.hid ((HA2.out.drew).swap (show j < n by omega) (show m < n by omega))
                              have SK := Lib.hid (((HK2.out.drew).setCell ⟨g, j, none⟩ (.int .u64 (dj[m]! : Int)) (.inl (by simp))).setCell ⟨g, m, none⟩ (.int .u64 (dj[j]! : Int)) (.inl (by simp)))
                              have c1 : wc.cell? ⟨g, j, none⟩ = some (.int .u64 (dj[j]! : Int)) := HA2.out.cell (by omega)
                              have c2 : wc.cell? ⟨g, m, none⟩ = some (.int .u64 (dj[m]! : Int)) := HA2.out.cell (by omega)
                              have f1 := HA2.out.frozen j
                              have f2 := HA2.out.frozen m
                              have hgl := HA2.out.lt.2
                              obtain ⟨y1, hy1⟩ : ∃ y1, dj[j]! = y1 := ⟨_, rfl⟩
                              obtain ⟨y2, hy2⟩ : ∃ y2, dj[m]! = y2 := ⟨_, rfl⟩
                              rw [hy1] at c1
                              rw [hy2] at c2
                              rw [hy1] at SK SW
                              rw [hy2] at SK SW
                              clear hy1 hy2 HA2 HK2
                              go_wp2_with (fail)
                              go_region
                              all_goals go_wp2
                              go_roundw
                              case rel => exact ⟨m, _, by go_num, by omega, HS2.out, SW.out, SK.out⟩
                              case measure => simp [intOf]; omega
                            · have HF := Lib.hid (show dj = D2 from by rw [← HS.out]; exact (sdn_stop hjm'.out HZ.out.symm).symm)
                              rw [HF.out] at HA2
                              clear HS HZ
                              go_wp2
                              go_meet
                              exact ⟨_, rfl, HA2.out, HK2.out⟩
                    · have h2I : decide ((2 : Int) ≤ (i : Int) - (a : Int)) = false := decide_eq_false (by omega)
                      have h2J : decide ((i : Int) - (a : Int) ≥ 2) = false := decide_eq_false (by omega)
                      have HF := Lib.hid (show D1 = D2 from by rw [← HD2.out, if_neg h2])
                      rw [HF.out] at HA3
                      clear HD2
                      go_wp2
                      go_meet
                      exact ⟨_, rfl, HA3.out, HK3.out⟩
                  case rest =>
                    clear HA3 HK3 HD2
                    obtain ⟨v9, rfl, HA4, HK4⟩ := hcut
                    go_upto_if 98 with fail
                    by_cases h2 : b - i ≥ 2
                    · have h2I : (2 : Int) ≤ (b : Int) - (i : Int) := by omega
                      have HS := Lib.hid (show Go.Sort.shiftUp ltU b i1 D2 = D3 from by rw [← HD3.out, if_pos h2])
                      have hi1b : 1 ≤ i1 ∧ i1 ≤ b := by omega
                      obtain ⟨hi1b, hi1c⟩ := hi1b
                      clear HD3
                      go_wp2_with (fail)
                      go_loopw [10] (fun s wr => ∃ (j : Nat) (dj : Array Nat), s = .int .i64 j ∧ 1 ≤ j ∧ j ≤ b ∧ Hid (Go.Sort.shiftUp ltU b j dj = D3) ∧ Hid (ArrAt lo wr g n c dj) ∧ Hid (Kept [g] w wr)) (fun s _ => b - (intOf s).toNat)
                      case atStart => exact ⟨i1, D2, by go_num, hi1b, hi1c, HS.out, HA4.out, HK4.out⟩
                      case round =>
                        clear HA4 HK4 HS
                        obtain ⟨j, dj, rfl, hj1, hj, HS, HA, HK⟩ := hrel
                        by_cases hjb : j < b
                        · obtain ⟨m, hm⟩ : ∃ m, j - 1 = m := ⟨_, rfl⟩
                          have hmI : (j : Int) - 1 = (m : Int) := by omega
                          have hjbI : (j : Int) < (b : Int) := by omega
                          have hjn : j < n := by omega
                          have hmn : m < n := by omega
                          have hnjm : ¬ j = m := by omega
                          have hnmj : ¬ m = j := by omega
                          have hm := Lib.hid hm
                          go_upto_region 22 with fail
                          go_cut [116] from 101 to 132 (fun s wx => ∃ z : Bool, s = .bool z ∧ Hid (z = !ltU dj[j]! dj[m]!) ∧ Hid (ArrAt lo wx g n c dj) ∧ Hid (Kept [g] w wx))
                          case first =>
                            have c1 : wr.cell? ⟨g, j, none⟩ = some (.int .u64 (dj[j]! : Int)) := HA.out.cell (by omega)
                            have c2 : wr.cell? ⟨g, m, none⟩ = some (.int .u64 (dj[m]! : Int)) := HA.out.cell (by omega)
                            have f1 := HA.out.frozen j
                            have f2 := HA.out.frozen m
                            have hgl := HA.out.lt.2
                            obtain ⟨y1, hy1⟩ : ∃ y1, dj[j]! = y1 := ⟨_, rfl⟩
                            obtain ⟨y2, hy2⟩ : ∃ y2, dj[m]! = y2 := ⟨_, rfl⟩
                            rw [hy1] at c1
                            rw [hy2] at c2
                            have Z := Lib.hid (show (!decide (y1 < y2)) = !ltU dj[j]! dj[m]! from by rw [hy1, hy2]; rfl)
                            clear hy1 hy2
                            go_quiet (first | (go_at_call 121; refine Calls.quiet_of_same (less64 y1 y2 _)))
                            go_wp2
                            go_meet
                            exact ⟨_, rfl, Z.out, HA.out.drewN _, HK.out.drewN _⟩
                          case rest =>
                            obtain ⟨z, rfl, HZ, HA2, HK2⟩ := hcut
                            clear HA HK
                            cases z
                            · have HS2 := Lib.hid (show Go.Sort.shiftUp ltU b (j + 1) (Go.Sort.swp dj j m) = D3 from by rw [← HS.out]; exact (sup_go hm.out hjb HZ.out.symm).symm)
                              clear HS HZ
                              have SW := Lib.hid ((HA2.out.drew).swap (show j < n by omega) (show m < n by omega))
                              have SK := Lib.hid (((HK2.out.drew).setCell ⟨g, j, none⟩ (.int .u64 (dj[m]! : Int)) (.inl (by simp))).setCell ⟨g, m, none⟩ (.int .u64 (dj[j]! : Int)) (.inl (by simp)))
                              have c1 : wc.cell? ⟨g, j, none⟩ = some (.int .u64 (dj[j]! : Int)) := HA2.out.cell (by omega)
                              have c2 : wc.cell? ⟨g, m, none⟩ = some (.int .u64 (dj[m]! : Int)) := HA2.out.cell (by omega)
                              have f1 := HA2.out.frozen j
                              have f2 := HA2.out.frozen m
                              have hgl := HA2.out.lt.2
                              obtain ⟨y1, hy1⟩ : ∃ y1, dj[j]! = y1 := ⟨_, rfl⟩
                              obtain ⟨y2, hy2⟩ : ∃ y2, dj[m]! = y2 := ⟨_, rfl⟩
                              rw [hy1] at c1
                              rw [hy2] at c2
                              rw [hy1] at SK SW
                              rw [hy2] at SK SW
                              clear hy1 hy2 HA2 HK2
                              go_wp2_with (fail)
                              go_region
                              all_goals go_wp2
                              go_roundw
                              case rel => exact ⟨j + 1, _, by go_num, by omega, by omega, HS2.out, SW.out, SK.out⟩
                              case measure => simp [intOf]; omega
                            · have HF := Lib.hid (show dj = D3 from by rw [← HS.out]; exact (sup_stop hm.out HZ.out.symm).symm)
                              rw [HF.out] at HA2
                              clear HS HZ
                              go_wp2
                              exact ⟨⟨i, s, J + 1, D3, _, _, rfl, by go_num, rfl, rfl, by omega, by omega, by omega, HQ.out, HA2.out, HK2.out⟩, by simp [intOf]; omega⟩
                        · have HF := Lib.hid (show dj = D3 from by rw [← HS.out, sup_end hjb])
                          have hjbI : decide ((j : Int) < (b : Int)) = false := decide_eq_false (by omega)
                          rw [HF.out] at HA
                          clear HS
                          go_wp2
                          exact ⟨⟨i, s, J + 1, D3, _, _, rfl, by go_num, rfl, rfl, by omega, by omega, by omega, HQ.out, HA.out, HK.out⟩, by simp [intOf]; omega⟩
                    · have h2I : decide ((2 : Int) ≤ (b : Int) - (i : Int)) = false := decide_eq_false (by omega)
                      have h2J : decide ((b : Int) - (i : Int) ≥ 2) = false := decide_eq_false (by omega)
                      have HF := Lib.hid (show D2 = D3 from by rw [← HD3.out, if_neg h2])
                      rw [HF.out] at HA4
                      clear HD3
                      go_wp2
                      exact ⟨⟨i, s, J + 1, D3, _, _, rfl, by go_num, rfl, rfl, by omega, by omega, by omega, HQ.out, HA4.out, HK4.out⟩, by simp [intOf]; omega⟩

def nextLayRen : Go.Shelf.Ren := ⟨fun | 48 => 139 | n => n, fun | 76 => 227 | 55 => 27 | 0 => 0 | 66 => 215 | 39 => 174 | n => n, fun | n => n⟩
theorem nextLay : Go.Proofs.SlLaysF0.n48 Tryz.prog nextLayRen := {
  mixed := by kernel_rfl
  f48 := Tryz.func139.trans (congrArg some (by kernel_rfl))
  t0 := Tryz.underlying0
  a0 := Tryz.isAgg0
  z0 := Tryz.sizeOf0
  v0 := Tryz.zeroValue0
  t39 := Tryz.underlying174
  a39 := Tryz.isAgg174
  z39 := Tryz.sizeOf174
  v39 := Tryz.zeroValue174
  t55 := Tryz.underlying27
  a55 := Tryz.isAgg27
  z55 := Tryz.sizeOf27
  v55 := Tryz.zeroValue27
  t66 := Tryz.underlying215
  a66 := Tryz.isAgg215
  z66 := Tryz.sizeOf215
  v66 := Tryz.zeroValue215
  t76 := Tryz.underlying227
  a76 := Tryz.isAgg227
  z76 := Tryz.sizeOf227
  v76 := Tryz.zeroValue227 }

def powLayRen : Go.Shelf.Ren := ⟨fun | 47 => 138 | 15 => 91 | 28 => 117 | 29 => 118 | n => n, fun | 3 => 3 | 39 => 174 | 53 => 38 | 55 => 27 | 4 => 4 | 5 => 5 | 9 => 9 | n => n, fun | n => n⟩
theorem powLay : Go.Proofs.SlLaysF0.n47 Tryz.prog powLayRen := {
  mixed := by kernel_rfl
  f15 := Tryz.func91.trans (congrArg some (by kernel_rfl))
  f28 := Tryz.func117.trans (congrArg some (by kernel_rfl))
  f29 := Tryz.func118.trans (congrArg some (by kernel_rfl))
  f47 := Tryz.func138.trans (congrArg some (by kernel_rfl))
  t3 := Tryz.underlying3
  a3 := Tryz.isAgg3
  z3 := Tryz.sizeOf3
  v3 := Tryz.zeroValue3
  t4 := Tryz.underlying4
  a4 := Tryz.isAgg4
  z4 := Tryz.sizeOf4
  v4 := Tryz.zeroValue4
  t5 := Tryz.underlying5
  a5 := Tryz.isAgg5
  z5 := Tryz.sizeOf5
  v5 := Tryz.zeroValue5
  t9 := Tryz.underlying9
  a9 := Tryz.isAgg9
  z9 := Tryz.sizeOf9
  v9 := Tryz.zeroValue9
  t39 := Tryz.underlying174
  a39 := Tryz.isAgg174
  z39 := Tryz.sizeOf174
  v39 := Tryz.zeroValue174
  t53 := Tryz.underlying38
  a53 := Tryz.isAgg38
  z53 := Tryz.sizeOf38
  v53 := Tryz.zeroValue38
  t55 := Tryz.underlying27
  a55 := Tryz.isAgg27
  z55 := Tryz.sizeOf27
  v55 := Tryz.zeroValue27 }


/-- So many rounds of breakPatterns. -/
def bpR (a L M : Nat) : Nat → Nat → UInt64 × Array Nat → Array Nat
  | 0, _, st => st.2
  | k + 1, i, st => bpR a L M k (i + 1) (Go.Sort.breakStep a L M st i)
theorem bp_eq {d : Array Nat} {a b L M i0 : Nat} (hL : b - a = L) (hM : 1 <<< Go.Sort.bitsLen L = M) (hi : a + L / 4 * 2 - 1 = i0) (h8 : L ≥ 8) : Go.Sort.breakPatterns d a b = bpR a L M 3 i0 (UInt64.ofNat L, d) := by
  subst hL hM hi
  rw [Go.Sort.breakPatterns]
  simp only
  rw [if_pos h8]
  rfl
theorem bp_step (a L M k i : Nat) (r : UInt64) (d : Array Nat) (X : Nat) (hX : Go.Sort.xorNextN r.toNat = X) (o p : Nat) (ho : (if X &&& (M - 1) ≥ L then (X &&& (M - 1)) - L else X &&& (M - 1)) = o) (hp : a + o = p) : bpR a L M (k + 1) i (r, d) = bpR a L M k (i + 1) (Go.Sort.xorNext r, Go.Sort.swp d i p) := by
  rw [bpR, Go.Sort.breakStep]
  simp only [Go.Sort.xorNext_toNat, hX, ho, hp]
set_option maxRecDepth 100000 in
set_option maxHeartbeats 12800000 in
theorem break_any64 (lo g n c a b : Nat) (w : World) (d : Array Nat) (h : ArrAt lo w g n c d) (hab : a + 8 ≤ b) (hb : b ≤ n) (hn : n ≤ 4294967296) :
    Calls Tryz.prog 149 #[.slice (some ⟨g, 0, none⟩) n c, .int .i64 (a : Int), .int .i64 (b : Int)] w fun e w' => e = .returned (.tuple #[]) ∧ ArrAt lo w' g n c (Go.Sort.breakPatterns d a b) ∧ Kept [g] w w' := by
  obtain ⟨L, hL⟩ : ∃ L, b - a = L := ⟨_, rfl⟩
  obtain ⟨M, hM⟩ : ∃ M, 1 <<< Go.Sort.bitsLen L = M := ⟨_, rfl⟩
  obtain ⟨i0, hi0⟩ : ∃ i0, a + L / 4 * 2 - 1 = i0 := ⟨_, rfl⟩
  obtain ⟨R, hR⟩ : ∃ R, Go.Sort.breakPatterns d a b = R := ⟨_, rfl⟩
  rw [hR]
  have HB := Lib.hid (show bpR a L M 3 i0 (UInt64.ofNat L, d) = R from by rw [← hR, bp_eq hL hM hi0 (by omega)])
  have hLI : (b : Int) - (a : Int) = (L : Int) := by omega
  have hL8 : (8 : Int) ≤ (L : Int) := by omega
  have hM1 : 1 ≤ M := by rw [← hM, Nat.one_shiftLeft]; exact Nat.two_pow_pos _
  have hM2 : M ≤ 2 * L := by rw [← hM, Nat.one_shiftLeft]; exact Go.Sort.two_pow_bitsLen_le (by omega)
  obtain ⟨M1, hM1e⟩ : ∃ M1, M - 1 = M1 := ⟨_, rfl⟩
  have hM1I : (M : Int) - 1 = (M1 : Int) := by omega
  obtain ⟨q4, hq4⟩ : ∃ q4, L / 4 * 2 = q4 := ⟨_, rfl⟩
  obtain ⟨l4, hl4⟩ : ∃ l4, L / 4 = l4 := ⟨_, rfl⟩
  have hl4I : (L : Int).tdiv 4 = (l4 : Int) := by rw [Int.tdiv_eq_ediv_of_nonneg (by omega)]; omega
  have hl4J : (L : Int) / 4 = (l4 : Int) := by omega
  have hq4I : (l4 : Int) * 2 = (q4 : Int) := by omega
  obtain ⟨aq, haq⟩ : ∃ aq, a + q4 = aq := ⟨_, rfl⟩
  have haqI : (a : Int) + (q4 : Int) = (aq : Int) := by omega
  have hi0I : (aq : Int) - 1 = (i0 : Int) := by omega
  obtain ⟨i2, hi2⟩ : ∃ i2, aq + 1 = i2 := ⟨_, rfl⟩
  have hi2I : (aq : Int) + 1 = (i2 : Int) := by omega
  have hr : a ≤ i0 ∧ i0 + 2 = i2 ∧ i2 < b ∧ M1 < 2 * L ∧ a + L = b ∧ L ≤ n := by omega
  obtain ⟨r1, r2, r3, r4, r5, r6⟩ := hr
  have hcn : n ≤ c := by
    obtain ⟨_, _, _, _, _, h5, _⟩ := h.blk
    exact h5
  have hgw := h.lt.2
  have hNP : ∀ w, Calls Tryz.prog 138 #[.int .i64 (L : Int)] w fun e w' => e = .returned (.int .u64 (M : Int)) ∧ w' = w := by
    rw [← hM]
    exact fun w => AnyF.nextPowerOfTwo powLay L (by omega) w
  have hwl : IntKind.u64.wrap (L : Int) = (L : Int) := by rw [IntKind.wrap_u64]; omega
  have HNP := Lib.hid hNP
  obtain ⟨W1, hW1⟩ : ∃ W1, w.alloc (.cells #[.int .u64 (L : Int)] 215) = W1 := ⟨_, rfl⟩
  have hUL : (UInt64.ofNat L).toNat = L := by simp; omega
  have S1 := Lib.hid (show Blk W1 w.heap.size 215 [.int .u64 ((UInt64.ofNat L).toNat : Int)] from by rw [← hW1, hUL]; exact Blk.new w _ _)
  have K1 := Lib.hid (show Kept [g] w W1 from by rw [← hW1]; exact (Kept.refl _ w).alloc _)
  have A1 := Lib.hid (h.kept (show Kept [] w W1 from by rw [← hW1]; exact (Kept.refl _ w).alloc _) (by simp))
  have hgs : ¬ g = w.heap.size := by omega
  have hsg : ¬ w.heap.size = g := by omega
  have hM1e := Lib.hid hM1e
  clear h hR hM hi0 hL hl4 hq4 haq hi2 hNP hUL hM1
  go_enter Tryz.func149, Tryz.ntmps149
  go_wp2_with (fail)
  refine (HNP.out _).mono ?_
  rintro e w' ⟨rfl, hw'⟩
  subst hw'
  clear HNP
  go_wp2_with (fail)
  go_loopw [9, 10] (fun s9 s10 wr => ∃ (k i : Nat) (r : UInt64) (d1 : Array Nat) (u10 : Value), s9 = .int .i64 i ∧ u10 = s10 ∧ k ≤ 3 ∧ i + k = i2 + 1 ∧ Hid (bpR a L M k i (r, d1) = R) ∧ Hid (Blk wr w.heap.size 215 [.int .u64 (r.toNat : Int)]) ∧ Hid (ArrAt lo wr g n c d1) ∧ Hid (Kept [g] w wr)) (fun s9 _ _ => i2 + 1 - (intOf s9).toNat)
  case atStart => exact ⟨3, i0, _, d, _, rfl, rfl, by omega, by omega, HB.out, S1.out, A1.out, K1.out⟩
  case round =>
    clear HB S1 A1 K1 hW1
    obtain ⟨k, i, r, d1, u10, rfl, rfl, hk, hik, HR, HS, HA, HK⟩ := hrel
    cases k with
    | zero =>
      have hF : d1 = R := HR.out
      have HF := Lib.hid hF
      rw [HF.out] at HA
      have hiI : decide ((i : Int) ≤ (i2 : Int)) = false := decide_eq_false (by omega)
      clear hF HR
      go_wp2
      go_end0
      exact ⟨rfl, HA.out, HK.out⟩
    | succ k =>
      have hiI : (i : Int) ≤ (i2 : Int) := by omega
      obtain ⟨X, hX⟩ : ∃ X, Go.Sort.xorNextN r.toNat = X := ⟨_, rfl⟩
      have hX64 : X < 18446744073709551616 := by rw [← hX]; exact Go.Sort.xorNextN_lt _ r.toNat_lt
      obtain ⟨O, hO⟩ : ∃ O, X &&& M1 = O := ⟨_, rfl⟩
      have hOM : O ≤ M1 := by rw [← hO]; exact Nat.and_le_right
      have hand : bits .and .u64 (X : Int) (M1 : Int) = (O : Int) := by rw [bits_and_u64_nat _ _ hX64 (by omega), hO]
      have hwm : IntKind.u64.wrap (M1 : Int) = (M1 : Int) := by rw [IntKind.wrap_u64]; omega
      have hwo : IntKind.i64.wrap (O : Int) = (O : Int) := by rw [IntKind.wrap_i64]; omega
      have hX64' := Lib.hid hX64
      clear hX64
      obtain ⟨W2, hW2⟩ : ∃ W2, (wr.setCell ⟨w.heap.size, 0, none⟩ (.int .u64 (X : Int))).drewN 3 = W2 := ⟨_, rfl⟩
      have S2 := Lib.hid (show Blk W2 w.heap.size 215 [.int .u64 ((Go.Sort.xorNext r).toNat : Int)] from by
        rw [← hW2, Go.Sort.xorNext_toNat, hX]
        exact HS.out.set 0 _)
      have KK := ((Kept.refl [w.heap.size] wr).setCell ⟨w.heap.size, 0, none⟩ (.int .u64 (X : Int)) (.inl (by simp))).drewN 3
      rw [hW2] at KK
      have A2 := Lib.hid (HA.out.kept KK (by simpa using hgs))
      have K2 := Lib.hid (show Kept [g] w W2 from by
        have := (HK.out.setCell ⟨w.heap.size, 0, none⟩ (.int .u64 (X : Int)) (.inr (Nat.le_refl _))).drewN 3
        rwa [hW2] at this)
      have CT := Lib.hid (show Calls Tryz.prog 139 #[.pointer (some ⟨w.heap.size, 0, none⟩)] wr fun e w' => e = .returned (.int .u64 (X : Int)) ∧ w' = W2 from by
        have h9 := AnyF.xorshift_Next nextLay w.heap.size 0 r.toNat r.toNat_lt wr (HS.out.cell 0) (HS.out.frozen 0)
        rw [hX, hW2] at h9
        exact h9)
      clear HS HA HK KK hW2
      have hX := Lib.hid hX
      have hO := Lib.hid hO
      go_wp2_with (fail)
      refine CT.out.mono ?_
      rintro e w3 ⟨rfl, hw3⟩
      subst hw3
      clear CT
      by_cases hLO : L ≤ O
      · have hLOI : (L : Int) ≤ (O : Int) := by omega
        obtain ⟨o2, ho2⟩ : ∃ o2, O - L = o2 := ⟨_, rfl⟩
        have ho2I : (O : Int) - (L : Int) = (o2 : Int) := by omega
        obtain ⟨p, hp⟩ : ∃ p, a + o2 = p := ⟨_, rfl⟩
        have hpI : (a : Int) + (o2 : Int) = (p : Int) := by omega
        have hin : i < n := by omega
        have hpn : p < n := by omega
        have HR2 := Lib.hid (show bpR a L M k (i + 1) (Go.Sort.xorNext r, Go.Sort.swp d1 i p) = R from by rw [← HR.out]; exact (bp_step a L M k i r d1 X hX.out o2 p (by rw [hM1e.out, hO.out, if_pos hLO]; exact ho2) hp).symm)
        clear HR hp
        by_cases hip : i = p
        · subst hip
          have SW := Lib.hid ((A2.out.drew).swap (show i < n by omega) (show i < n by omega))
          have SK := Lib.hid (((K2.out.drew).setCell ⟨g, i, none⟩ (.int .u64 (d1[i]! : Int)) (.inl (by simp))).setCell ⟨g, i, none⟩ (.int .u64 (d1[i]! : Int)) (.inl (by simp)))
          have c1 : w3.cell? ⟨g, i, none⟩ = some (.int .u64 (d1[i]! : Int)) := A2.out.cell (by omega)
          have c2 : w3.cell? ⟨g, i, none⟩ = some (.int .u64 (d1[i]! : Int)) := A2.out.cell (by omega)
          have f1 := A2.out.frozen i
          have f2 := A2.out.frozen i
          have hgl := A2.out.lt.2
          obtain ⟨y1, hy1⟩ : ∃ y1, d1[i]! = y1 := ⟨_, rfl⟩
          obtain ⟨y2, hy2⟩ : ∃ y2, d1[i]! = y2 := ⟨_, rfl⟩
          rw [hy1] at c1
          rw [hy2] at c2
          obtain rfl : y1 = y2 := by rw [← hy1, hy2]
          rw [hy1] at SK SW
          clear hy1 hy2 A2 K2
          have BL := Lib.hid (((S2.out.drew).far (p := ⟨g, i, none⟩) hsg (.int .u64 (y1 : Int))).far (p := ⟨g, i, none⟩) hsg (.int .u64 (y1 : Int)))
          clear S2
          go_wp2_with (fail)
          go_region
          all_goals go_wp2
          go_roundw
          case rel => exact ⟨k, i + 1, Go.Sort.xorNext r, _, _, by go_num, rfl, by omega, by omega, HR2.out, BL.out, SW.out, SK.out⟩
          case measure => simp [intOf]; omega
        · have hpi : ¬ p = i := fun e => hip e.symm
          have SW := Lib.hid ((A2.out.drew).swap (show i < n by omega) (show p < n by omega))
          have SK := Lib.hid (((K2.out.drew).setCell ⟨g, i, none⟩ (.int .u64 (d1[p]! : Int)) (.inl (by simp))).setCell ⟨g, p, none⟩ (.int .u64 (d1[i]! : Int)) (.inl (by simp)))
          have c1 : w3.cell? ⟨g, i, none⟩ = some (.int .u64 (d1[i]! : Int)) := A2.out.cell (by omega)
          have c2 : w3.cell? ⟨g, p, none⟩ = some (.int .u64 (d1[p]! : Int)) := A2.out.cell (by omega)
          have f1 := A2.out.frozen i
          have f2 := A2.out.frozen p
          have hgl := A2.out.lt.2
          obtain ⟨y1, hy1⟩ : ∃ y1, d1[i]! = y1 := ⟨_, rfl⟩
          obtain ⟨y2, hy2⟩ : ∃ y2, d1[p]! = y2 := ⟨_, rfl⟩
          rw [hy1] at c1
          rw [hy2] at c2
          rw [hy1] at SK SW
          rw [hy2] at SK SW
          clear hy1 hy2 A2 K2
          have BL := Lib.hid (((S2.out.drew).far (p := ⟨g, i, none⟩) hsg (.int .u64 (y2 : Int))).far (p := ⟨g, p, none⟩) hsg (.int .u64 (y1 : Int)))
          clear S2
          go_wp2_with (fail)
          go_region
          all_goals go_wp2
          go_roundw
          case rel => exact ⟨k, i + 1, Go.Sort.xorNext r, _, _, by go_num, rfl, by omega, by omega, HR2.out, BL.out, SW.out, SK.out⟩
          case measure => simp [intOf]; omega
      · have hLOI : decide ((L : Int) ≤ (O : Int)) = false := decide_eq_false (by omega)
        have hLOJ : decide ((O : Int) ≥ (L : Int)) = false := decide_eq_false (by omega)
        obtain ⟨p, hp⟩ : ∃ p, a + O = p := ⟨_, rfl⟩
        have hpI : (a : Int) + (O : Int) = (p : Int) := by omega
        have hin : i < n := by omega
        have hpn : p < n := by omega
        have HR2 := Lib.hid (show bpR a L M k (i + 1) (Go.Sort.xorNext r, Go.Sort.swp d1 i p) = R from by rw [← HR.out]; exact (bp_step a L M k i r d1 X hX.out O p (by rw [hM1e.out, hO.out, if_neg hLO]) hp).symm)
        clear HR hp
        by_cases hip : i = p
        · subst hip
          have SW := Lib.hid ((A2.out.drew).swap (show i < n by omega) (show i < n by omega))
          have SK := Lib.hid (((K2.out.drew).setCell ⟨g, i, none⟩ (.int .u64 (d1[i]! : Int)) (.inl (by simp))).setCell ⟨g, i, none⟩ (.int .u64 (d1[i]! : Int)) (.inl (by simp)))
          have c1 : w3.cell? ⟨g, i, none⟩ = some (.int .u64 (d1[i]! : Int)) := A2.out.cell (by omega)
          have c2 : w3.cell? ⟨g, i, none⟩ = some (.int .u64 (d1[i]! : Int)) := A2.out.cell (by omega)
          have f1 := A2.out.frozen i
          have f2 := A2.out.frozen i
          have hgl := A2.out.lt.2
          obtain ⟨y1, hy1⟩ : ∃ y1, d1[i]! = y1 := ⟨_, rfl⟩
          obtain ⟨y2, hy2⟩ : ∃ y2, d1[i]! = y2 := ⟨_, rfl⟩
          rw [hy1] at c1
          rw [hy2] at c2
          obtain rfl : y1 = y2 := by rw [← hy1, hy2]
          rw [hy1] at SK SW
          clear hy1 hy2 A2 K2
          have BL := Lib.hid (((S2.out.drew).far (p := ⟨g, i, none⟩) hsg (.int .u64 (y1 : Int))).far (p := ⟨g, i, none⟩) hsg (.int .u64 (y1 : Int)))
          clear S2
          go_wp2_with (fail)
          go_region
          all_goals go_wp2
          go_roundw
          case rel => exact ⟨k, i + 1, Go.Sort.xorNext r, _, _, by go_num, rfl, by omega, by omega, HR2.out, BL.out, SW.out, SK.out⟩
          case measure => simp [intOf]; omega
        · have hpi : ¬ p = i := fun e => hip e.symm
          have SW := Lib.hid ((A2.out.drew).swap (show i < n by omega) (show p < n by omega))
          have SK := Lib.hid (((K2.out.drew).setCell ⟨g, i, none⟩ (.int .u64 (d1[p]! : Int)) (.inl (by simp))).setCell ⟨g, p, none⟩ (.int .u64 (d1[i]! : Int)) (.inl (by simp)))
          have c1 : w3.cell? ⟨g, i, none⟩ = some (.int .u64 (d1[i]! : Int)) := A2.out.cell (by omega)
          have c2 : w3.cell? ⟨g, p, none⟩ = some (.int .u64 (d1[p]! : Int)) := A2.out.cell (by omega)
          have f1 := A2.out.frozen i
          have f2 := A2.out.frozen p
          have hgl := A2.out.lt.2
          obtain ⟨y1, hy1⟩ : ∃ y1, d1[i]! = y1 := ⟨_, rfl⟩
          obtain ⟨y2, hy2⟩ : ∃ y2, d1[p]! = y2 := ⟨_, rfl⟩
          rw [hy1] at c1
          rw [hy2] at c2
          rw [hy1] at SK SW
          rw [hy2] at SK SW
          clear hy1 hy2 A2 K2
          have BL := Lib.hid (((S2.out.drew).far (p := ⟨g, i, none⟩) hsg (.int .u64 (y2 : Int))).far (p := ⟨g, p, none⟩) hsg (.int .u64 (y1 : Int)))
          clear S2
          go_wp2_with (fail)
          go_region
          all_goals go_wp2
          go_roundw
          case rel => exact ⟨k, i + 1, Go.Sort.xorNext r, _, _, by go_num, rfl, by omega, by omega, HR2.out, BL.out, SW.out, SK.out⟩
          case measure => simp [intOf]; omega

theorem pdq_small12 {d : Array Nat} {a b lim : Nat} {wb wp : Bool} (h : b - a ≤ 12) : Go.Sort.pdq ltU d a b lim wb wp = Go.Sort.insertionSort ltU d a b := by rw [Go.Sort.pdq, if_pos h]
theorem pdq_heap {d : Array Nat} {a b : Nat} {wb wp : Bool} (h : ¬ b - a ≤ 12) : Go.Sort.pdq ltU d a b 0 wb wp = Go.Sort.heapSort ltU d a b := by rw [Go.Sort.pdq, if_neg h, if_pos rfl]
theorem pdq_big {d D1 D2 : Array Nat} {a b lim L1 P : Nat} {wb wp : Bool} {C : Nat × Go.Sort.Hint} {H : Go.Sort.Hint} {PI : Array Nat × Bool} (h : ¬ b - a ≤ 12) (hl : ¬ lim = 0)
    (h1 : (if (!wb) = true then Go.Sort.breakPatterns d a b else d) = D1) (h2 : (if (!wb) = true then lim - 1 else lim) = L1) (h3 : Go.Sort.choosePivot ltU D1 a b = C)
    (h4 : (if C.2 = .decreasing then Go.Sort.reverseRange D1 a b else D1) = D2) (h5 : (if C.2 = .decreasing then b - 1 - (C.1 - a) else C.1) = P) (h6 : (if C.2 = .decreasing then Go.Sort.Hint.increasing else C.2) = H)
    (h7 : (if (wb && wp && decide (H = .increasing)) = true then Go.Sort.partialInsertionSort ltU D2 a b else (D2, false)) = PI) :
    Go.Sort.pdq ltU d a b lim wb wp = if PI.2 = true then PI.1 else if (decide (a > 0) && !ltU PI.1[a - 1]! PI.1[P]!) = true then
        (if a < (Go.Sort.partitionEqual ltU PI.1 a b P).1 ∧ (Go.Sort.partitionEqual ltU PI.1 a b P).1 ≤ b then Go.Sort.pdq ltU (Go.Sort.partitionEqual ltU PI.1 a b P).2 (Go.Sort.partitionEqual ltU PI.1 a b P).1 b L1 wb wp else (Go.Sort.partitionEqual ltU PI.1 a b P).2)
      else
        (if a ≤ (Go.Sort.partition ltU PI.1 a b P).1 ∧ (Go.Sort.partition ltU PI.1 a b P).1 < b then
          (if (Go.Sort.partition ltU PI.1 a b P).1 - a < b - (Go.Sort.partition ltU PI.1 a b P).1 then
            Go.Sort.pdq ltU (Go.Sort.pdq ltU (Go.Sort.partition ltU PI.1 a b P).2.2 a (Go.Sort.partition ltU PI.1 a b P).1 L1 true true) ((Go.Sort.partition ltU PI.1 a b P).1 + 1) b L1 (decide ((Go.Sort.partition ltU PI.1 a b P).1 - a ≥ (b - a) / 8)) (Go.Sort.partition ltU PI.1 a b P).2.1
          else
            Go.Sort.pdq ltU (Go.Sort.pdq ltU (Go.Sort.partition ltU PI.1 a b P).2.2 ((Go.Sort.partition ltU PI.1 a b P).1 + 1) b L1 true true) a (Go.Sort.partition ltU PI.1 a b P).1 L1 (decide (b - (Go.Sort.partition ltU PI.1 a b P).1 ≥ (b - a) / 8)) (Go.Sort.partition ltU PI.1 a b P).2.1)
        else (Go.Sort.partition ltU PI.1 a b P).2.2) := by
  subst h1 h2 h3 h4 h5 h6 h7
  rw [Go.Sort.pdq, if_neg h, if_neg hl]
  rfl
theorem parteq_rng {d : Array Nat} {a b p : Nat} (h1 : a ≤ p) (h2 : p < b) (h3 : b ≤ d.size) : a < (Go.Sort.partitionEqual ltU d a b p).1 ∧ (Go.Sort.partitionEqual ltU d a b p).1 ≤ b := by
  obtain ⟨r1, r2, _⟩ := Go.Sort.partEqLoop_spec ltU a b _ (a + 1) (b - 1) (Go.Sort.swp d a p) (Nat.le_refl _) (Nat.lt_succ_self a) (by omega) (by omega) (by rw [Go.Sort.swp_size]; exact h3) (fun t h1 h2 => by omega) (fun t h1 h2 => by omega)
  exact ⟨r1, r2⟩
theorem part_rng {d : Array Nat} {a b p : Nat} (h1 : a ≤ p) (h2 : p < b) (h3 : b ≤ d.size) : a ≤ (Go.Sort.partition ltU d a b p).1 ∧ (Go.Sort.partition ltU d a b p).1 < b := by
  obtain ⟨r1, r2, _⟩ := Go.Sort.partition_holds ltU swo_ltU d a b p h1 h2 h3
  exact ⟨r1, r2⟩
theorem hintN_dec {h : Go.Sort.Hint} : hintN h = 2 ↔ h = .decreasing := by cases h <;> simp [hintN]
theorem hintN_inc {h : Go.Sort.Hint} : hintN h = 1 ↔ h = .increasing := by cases h <;> simp [hintN]
/-- A sort's call. -/
def SortsTo (lo g n c : Nat) (R : Array Nat) (w : World) (e : Ending) (w' : World) : Prop := e = .returned (.tuple #[]) ∧ ArrAt lo w' g n c R ∧ Kept [g] w w'
set_option maxRecDepth 100000 in
set_option maxHeartbeats 25600000 in
theorem pdq_any64 (lo g n c : Nat) (hn : n ≤ 4294967296) (N : Nat) : ∀ (a b lim : Nat) (w : World) (d : Array Nat), b - a = N → ArrAt lo w g n c d → a ≤ b → b ≤ n → lim ≤ 1000 →
    Calls Tryz.prog 136 #[.slice (some ⟨g, 0, none⟩) n c, .int .i64 (a : Int), .int .i64 (b : Int), .int .i64 (lim : Int)] w (SortsTo lo g n c (Go.Sort.pdq ltU d a b lim true true) w) := by
  induction N using Nat.strongRecOn with
  | _ N IH =>
    intro a b lim w d hN h hab hb hlim
    obtain ⟨R, hR⟩ : ∃ R, Go.Sort.pdq ltU d a b lim true true = R := ⟨_, rfl⟩
    rw [hR]
    unfold SortsTo
    have IH := Lib.hid IH
    have HR0 := Lib.hid hR
    have H0 := Lib.hid h
    have hcn : n ≤ c := by
      obtain ⟨_, _, _, _, _, h5, _⟩ := h.blk
      exact h5
    have hN0 := Lib.hid hN
    clear h hR hN
    go_enter Tryz.func136, Tryz.ntmps136
    go_wp2_with (fail)
    go_loopw [1, 2, 3, 8, 9, 10, 11, 12, 13, 14, 15, 16, 17, 18] (fun s1 s2 s3 s8 s9 s10 s11 s12 s13 s14 s15 s16 s17 s18 wr => ∃ (a1 b1 l1 : Nat) (wb wp : Bool) (d1 : Array Nat) (u10 u11 u12 u13 u14 u15 u16 u17 u18 : Value), s1 = .int .i64 a1 ∧ s2 = .int .i64 b1 ∧ s3 = .int .i64 l1 ∧ s8 = .bool wb ∧ s9 = .bool wp ∧ u10 = s10 ∧ u11 = s11 ∧ u12 = s12 ∧ u13 = s13 ∧ u14 = s14 ∧ u15 = s15 ∧ u16 = s16 ∧ u17 = s17 ∧ u18 = s18 ∧
      a1 ≤ b1 ∧ b1 ≤ n ∧ l1 ≤ 1000 ∧ Hid (b1 - a1 ≤ N) ∧ Hid (Go.Sort.pdq ltU d1 a1 b1 l1 wb wp = R) ∧ Hid (ArrAt lo wr g n c d1) ∧ Hid (Kept [g] w wr)) (fun s1 s2 _ _ _ _ _ _ _ _ _ _ _ _ _ => (intOf s2).toNat - (intOf s1).toNat)
    case atStart => exact ⟨a, b, lim, true, true, d, _, _, _, _, _, _, _, _, _, rfl, rfl, rfl, rfl, rfl, rfl, rfl, rfl, rfl, rfl, rfl, rfl, rfl, rfl, hab, hb, hlim, Nat.le_of_eq hN0.out, HR0.out, H0.out, Kept.refl _ _⟩
    case round =>
      clear H0 HR0 hN0 hab hb hlim
      obtain ⟨a1, b1, l1, wb, wp, d1, u10, u11, u12, u13, u14, u15, u16, u17, u18, rfl, rfl, rfl, rfl, rfl, rfl, rfl, rfl, rfl, rfl, rfl, rfl, rfl, rfl, hab, hb, hlim, hN, HR, HA, HK⟩ := hrel
      obtain ⟨L, hL⟩ : ∃ L, b1 - a1 = L := ⟨_, rfl⟩
      have hLI : (b1 : Int) - (a1 : Int) = (L : Int) := by omega
      by_cases h12 : L ≤ 12
      · have h12I : (L : Int) ≤ 12 := by omega
        have HF := Lib.hid (show Go.Sort.insertionSort ltU d1 a1 b1 = R from by rw [← HR.out, pdq_small12 (by omega)])
        clear HR
        go_wp2_with (fail)
        refine (ins_any64 lo g n c a1 b1 _ d1 HA.out hab hb hn).mono ?_
        rintro e w1 ⟨rfl, ha1, hk1⟩
        rw [HF.out] at ha1
        have HA1 := Lib.hid ha1
        have HK1 := Lib.hid (HK.out.trans hk1 (Grows.refl _ _))
        clear ha1 hk1 HA HK
        go_wp2
        (try simp only [Exit.inBlock, Exit.then]); refine bodyPost_ret (results_none rfl _ _ _) rfl ?_
        exact ⟨rfl, HA1.out, HK1.out⟩
      · have h12I : decide ((L : Int) ≤ 12) = false := decide_eq_false (by omega)
        by_cases hl0 : l1 = 0
        · have hl0I : decide ((l1 : Int) = 0) = true := decide_eq_true (by omega)
          have hl0J : ((l1 : Int) == 0) = true := by rw [beq_iff_eq]; omega
          have HF := Lib.hid (show Go.Sort.heapSort ltU d1 a1 b1 = R from by rw [← HR.out, hl0, pdq_heap (by omega)])
          clear HR
          go_wp2_with (fail)
          refine (heap_any64 lo g n c a1 b1 _ d1 HA.out hab hb hn).mono ?_
          rintro e w1 ⟨rfl, ha1, hk1⟩
          rw [HF.out] at ha1
          have HA1 := Lib.hid ha1
          have HK1 := Lib.hid (HK.out.trans hk1 (Grows.refl _ _))
          clear ha1 hk1 HA HK
          go_wp2
          (try simp only [Exit.inBlock, Exit.then]); refine bodyPost_ret (results_none rfl _ _ _) rfl ?_
          exact ⟨rfl, HA1.out, HK1.out⟩
        · have hl0I : decide ((l1 : Int) = 0) = false := decide_eq_false (by omega)
          have hl0J : ((l1 : Int) == 0) = false := by rw [Bool.eq_false_iff]; intro h; rw [beq_iff_eq] at h; omega
          obtain ⟨D1, hD1⟩ : ∃ D1, (if (!wb) = true then Go.Sort.breakPatterns d1 a1 b1 else d1) = D1 := ⟨_, rfl⟩
          obtain ⟨L1, hL1⟩ : ∃ L1, (if (!wb) = true then l1 - 1 else l1) = L1 := ⟨_, rfl⟩
          obtain ⟨C, hC⟩ : ∃ C, Go.Sort.choosePivot ltU D1 a1 b1 = C := ⟨_, rfl⟩
          obtain ⟨D2, hD2⟩ : ∃ D2, (if C.2 = .decreasing then Go.Sort.reverseRange D1 a1 b1 else D1) = D2 := ⟨_, rfl⟩
          obtain ⟨P, hP⟩ : ∃ P, (if C.2 = .decreasing then b1 - 1 - (C.1 - a1) else C.1) = P := ⟨_, rfl⟩
          obtain ⟨H, hH⟩ : ∃ H, (if C.2 = .decreasing then Go.Sort.Hint.increasing else C.2) = H := ⟨_, rfl⟩
          obtain ⟨PI, hPI⟩ : ∃ PI, (if (wb && wp && decide (H = .increasing)) = true then Go.Sort.partialInsertionSort ltU D2 a1 b1 else (D2, false)) = PI := ⟨_, rfl⟩
          have HQ := Lib.hid (HR.out.symm.trans (pdq_big (by omega) hl0 hD1 hL1 hC hD2 hP hH hPI))
          have hCr : a1 ≤ C.1 ∧ C.1 < b1 := by rw [← hC]; exact Go.Sort.choosePivot_holds ltU D1 a1 b1 (by omega)
          have hPr : a1 ≤ P ∧ P < b1 := by rw [← hP]; split <;> omega
          have hL1r : L1 ≤ 1000 := by rw [← hL1]; split <;> omega
          obtain ⟨hC1, hC2⟩ := hCr
          obtain ⟨hP1, hP2⟩ := hPr
          have HD1 := Lib.hid hD1
          have HL1 := Lib.hid hL1
          have HC := Lib.hid hC
          have HD2 := Lib.hid hD2
          have HPP := Lib.hid hP
          have HH := Lib.hid hH
          have HPI := Lib.hid hPI
          have hl1p : 1 ≤ l1 := by omega
          clear hD1 hL1 hC hD2 hP hH hPI HR
          go_upto_region 7 with fail
          go_cut [35] from 19 to 133 (fun s wx => s = .bool (!wb) ∧ wx = wr)
          case first =>
            cases wb
            · go_wp2
              go_meet
              exact ⟨rfl, rfl⟩
            · go_wp2
              go_meet
              exact ⟨rfl, rfl⟩
          case rest =>
            obtain ⟨rfl, rfl⟩ := hcut
            go_upto_if 35 with fail
            go_cut [3] from 19 to 133 (fun s3 wx => s3 = .int .i64 (L1 : Int) ∧ Hid (ArrAt lo wx g n c D1) ∧ Hid (Kept [g] w wx))
            case first =>
              cases wb
              · have HF := Lib.hid (show Go.Sort.breakPatterns d1 a1 b1 = D1 from HD1.out)
                have HG := HL1.out
                rw [if_pos (by rfl)] at HG
                have hGI : (l1 : Int) - 1 = (L1 : Int) := by omega
                have h8 : a1 + 8 ≤ b1 := by omega
                clear HG
                go_wp2_with (fail)
                refine (break_any64 lo g n c a1 b1 _ d1 HA.out h8 hb hn).mono ?_
                rintro e w1 ⟨rfl, ha1, hk1⟩
                rw [HF.out] at ha1
                have HA1 := Lib.hid ha1
                have HK1 := Lib.hid (HK.out.trans hk1 (Grows.refl _ _))
                clear ha1 hk1 HA HK
                go_wp2
                go_meet
                exact ⟨by go_num, HA1.out, HK1.out⟩
              · obtain rfl : d1 = D1 := HD1.out
                obtain rfl : l1 = L1 := HL1.out
                go_wp2
                go_meet
                exact ⟨rfl, HA.out, HK.out⟩
            case rest =>
              clear HA HK
              obtain ⟨rfl, HA, HK⟩ := hcut
              clear HD1 HL1
              go_wp2_with (fail)
              refine (pivot_any64 lo g n c a1 b1 _ D1 HA.out (by omega) hb hn).mono ?_
              rintro e w2 ⟨rfl, hk2⟩
              rw [HC.out]
              have HA2 := Lib.hid (HA.out.kept hk2 (by simp))
              have HK2 := Lib.hid (HK.out.trans (hk2.mono (G := [g]) (by simp)) (Grows.refl _ _))
              obtain ⟨hn1, hhn⟩ : ∃ hn1, hintN C.2 = hn1 := ⟨_, rfl⟩
              obtain ⟨c1, hc1⟩ : ∃ c1, C.1 = c1 := ⟨_, rfl⟩
              rw [hhn, hc1]
              rw [hc1] at hC1 hC2
              have Hhn := Lib.hid hhn
              have Hc1 := Lib.hid hc1
              clear HA HK hk2 hhn hc1 HC
              go_upto_if 50 with fail
              obtain ⟨h2n, hh2⟩ : ∃ h2n, hintN H = h2n := ⟨_, rfl⟩
              have Hh2 := Lib.hid hh2
              clear hh2
              go_cut [11, 12] from 19 to 133 (fun s11 s12 wx => s11 = .int .i64 (P : Int) ∧ s12 = .int .i64 (h2n : Int) ∧ Hid (ArrAt lo wx g n c D2) ∧ Hid (Kept [g] w wx))
              case first =>
                by_cases hdec : hn1 = 2
                · have hde := hintN_dec.1 (Hhn.out.trans hdec)
                  have hdI : decide ((hn1 : Int) = 2) = true := decide_eq_true (by omega)
                  have hdJ : ((hn1 : Int) == 2) = true := by rw [beq_iff_eq]; omega
                  have HF := Lib.hid (show Go.Sort.reverseRange D1 a1 b1 = D2 from by rw [← HD2.out, if_pos hde])
                  have hPP := HPP.out
                  rw [if_pos hde, Hc1.out] at hPP
                  have hPI1 : (b1 : Int) - 1 - ((c1 : Int) - (a1 : Int)) = (P : Int) := by omega
                  have hh2e := Hh2.out
                  rw [← HH.out, if_pos hde] at hh2e
                  have Hh3 := Lib.hid (show h2n = 1 from hh2e.symm)
                  have hab2 : a1 < b1 := by omega
                  clear hPP hde hh2e
                  go_wp2_with (fail)
                  refine (rev_any64 lo g n c a1 b1 _ D1 HA2.out hab2 hb hn).mono ?_
                  rintro e w3 ⟨rfl, ha3, hk3⟩
                  rw [HF.out] at ha3
                  have HA3 := Lib.hid ha3
                  have HK3 := Lib.hid (HK2.out.trans hk3 (Grows.refl _ _))
                  clear ha3 hk3
                  go_wp2
                  go_meet
                  exact ⟨by go_num, by rw [Hh3.out]; rfl, HA3.out, HK3.out⟩
                · have hde : ¬ C.2 = .decreasing := fun e => hdec (Hhn.out.symm.trans (hintN_dec.2 e))
                  have hdI : decide ((hn1 : Int) = 2) = false := decide_eq_false (by omega)
                  have hdJ : ((hn1 : Int) == 2) = false := by rw [Bool.eq_false_iff]; intro h; rw [beq_iff_eq] at h; omega
                  have HF := Lib.hid (show D1 = D2 from by rw [← HD2.out, if_neg hde])
                  have HG := Lib.hid (show c1 = P from by rw [← HPP.out, if_neg hde, Hc1.out])
                  have HJ := Lib.hid (show hn1 = h2n from by rw [← Hh2.out, ← HH.out, if_neg hde, Hhn.out])
                  rw [HF.out] at HA2
                  clear hde
                  go_wp2
                  go_meet
                  exact ⟨by rw [HG.out], by rw [HJ.out], HA2.out, HK2.out⟩
              case rest =>
                clear HA2 HK2
                obtain ⟨rfl, rfl, HA2, HK2⟩ := hcut
                clear HD2 HPP HH Hhn Hc1
                go_upto_region 15 with fail
                obtain ⟨T, hT⟩ : ∃ T, (wb && wp && decide (H = .increasing)) = T := ⟨_, rfl⟩
                have HT := Lib.hid hT
                clear hT
                obtain ⟨w4, hw4⟩ : ∃ w4, w4 = wc := ⟨_, rfl⟩
                go_cut [68] from 19 to 133 (fun s wx => s = .bool T ∧ wx = wc)
                case first =>
                  by_cases h1 : h2n = 1
                  · have hinc := hintN_inc.1 (Hh2.out.trans h1)
                    have h1I : decide ((h2n : Int) = 1) = true := decide_eq_true (by omega)
                    have h1J : ((h2n : Int) == 1) = true := by rw [beq_iff_eq]; omega
                    have HT2 := Lib.hid (show (wb && wp) = T from by rw [← HT.out, decide_eq_true hinc, Bool.and_true])
                    clear HT hinc
                    cases wb
                    · go_wp2
                      go_meet
                      exact ⟨by rw [← HT2.out]; rfl, rfl⟩
                    · cases wp
                      · go_wp2
                        go_meet
                        exact ⟨by rw [← HT2.out]; rfl, rfl⟩
                      · go_wp2
                        go_meet
                        exact ⟨by rw [← HT2.out]; rfl, rfl⟩
                  · have hinc : ¬ H = .increasing := fun e => h1 (Hh2.out.symm.trans (hintN_inc.2 e))
                    have h1I : decide ((h2n : Int) = 1) = false := decide_eq_false (by omega)
                    have h1J : ((h2n : Int) == 1) = false := by rw [Bool.eq_false_iff]; intro h; rw [beq_iff_eq] at h; omega
                    have HT2 := Lib.hid (show false = T from by rw [← HT.out, decide_eq_false hinc, Bool.and_false])
                    clear HT hinc
                    cases wb
                    · go_wp2
                      go_meet
                      exact ⟨by rw [← HT2.out], rfl⟩
                    · cases wp
                      · go_wp2
                        go_meet
                        exact ⟨by rw [← HT2.out], rfl⟩
                      · go_wp2
                        go_meet
                        exact ⟨by rw [← HT2.out], rfl⟩
                case rest =>
                  obtain ⟨rfl, rfl⟩ := hcut
                  have HPI2 := Lib.hid (show (if T = true then Go.Sort.partialInsertionSort ltU D2 a1 b1 else (D2, false)) = PI from by rw [← HPI.out, HT.out])
                  clear HPI HT hw4
                  go_upto_if 68 with fail
                  go_cut [] from 19 to 133 (fun wx => Hid (PI.2 = false) ∧ Hid (ArrAt lo wx g n c PI.1) ∧ Hid (Kept [g] w wx))
                  case first =>
                    cases T
                    · obtain rfl : (D2, false) = PI := HPI2.out
                      go_wp2
                      go_meet
                      exact ⟨by first | rfl | exact trivial, HA2.out, HK2.out⟩
                    · have HF := Lib.hid (show Go.Sort.partialInsertionSort ltU D2 a1 b1 = PI from HPI2.out)
                      have hab2 : a1 < b1 := by omega
                      go_wp2_with (fail)
                      refine (pins_any64 lo g n c a1 b1 _ D2 HA2.out hab2 hb hn).mono ?_
                      rintro e w5 ⟨rfl, ha5, hk5⟩
                      rw [HF.out] at ha5 ⊢
                      have HA5 := Lib.hid ha5
                      have HK5 := Lib.hid (HK2.out.trans hk5 (Grows.refl _ _))
                      clear ha5 hk5 HA2 HK2 HF HPI2
                      obtain ⟨pi1, pi2⟩ := PI
                      cases pi2
                      · go_wp2
                        go_meet
                        exact ⟨by first | rfl | exact trivial, HA5.out, HK5.out⟩
                      · have HF := Lib.hid (show R = pi1 from HQ.out)
                        clear HQ
                        go_wp2
                        (try simp only [Exit.inBlock, Exit.then]); refine bodyPost_ret (results_none rfl _ _ _) rfl ?_
                        exact ⟨rfl, by rw [HF.out]; exact HA5.out, HK5.out⟩
                  case rest =>
                    clear HA2 HK2 HPI2
                    obtain ⟨HP2, HA2, HK2⟩ := hcut
                    have HQ2 := Lib.hid (HQ.out.trans (if_neg (by rw [HP2.out]; decide)))
                    clear HQ HP2
                    obtain ⟨D3, hD3⟩ : ∃ D3, PI.1 = D3 := ⟨_, rfl⟩
                    rw [hD3] at HQ2 HA2
                    clear hD3
                    obtain ⟨am, ham⟩ : ∃ am, a1 - 1 = am := ⟨_, rfl⟩
                    rw [ham] at HQ2
                    go_upto_region 17 with fail
                    go_cut [87] from 19 to 133 (fun s wx => ∃ z : Bool, s = .bool z ∧ Hid (z = (decide (a1 > 0) && !ltU D3[am]! D3[P]!)) ∧ Hid (ArrAt lo wx g n c D3) ∧ Hid (Kept [g] w wx))
                    case first =>
                      by_cases ha0 : a1 > 0
                      · have ha0I : (0 : Int) < (a1 : Int) := by omega
                        have hamI : (a1 : Int) - 1 = (am : Int) := by omega
                        have hamn : am < n := by omega
                        have hPn : P < n := by omega
                        have c1 : wc.cell? ⟨g, am, none⟩ = some (.int .u64 (D3[am]! : Int)) := HA2.out.cell (by omega)
                        have c2 : wc.cell? ⟨g, P, none⟩ = some (.int .u64 (D3[P]! : Int)) := HA2.out.cell (by omega)
                        have f1 := HA2.out.frozen am
                        have f2 := HA2.out.frozen P
                        have hgl := HA2.out.lt.2
                        obtain ⟨y1, hy1⟩ : ∃ y1, D3[am]! = y1 := ⟨_, rfl⟩
                        obtain ⟨y2, hy2⟩ : ∃ y2, D3[P]! = y2 := ⟨_, rfl⟩
                        rw [hy1] at c1
                        rw [hy2] at c2
                        have Z := Lib.hid (show (!decide (y1 < y2)) = (decide (a1 > 0) && !ltU D3[am]! D3[P]!) from by rw [decide_eq_true ha0, Bool.true_and, hy1, hy2]; rfl)
                        clear hy1 hy2 ham
                        go_quiet (first | (go_at_call 121; refine Calls.quiet_of_same (less64 y1 y2 _)))
                        go_wp2
                        go_meet
                        exact ⟨_, rfl, Z.out, HA2.out.drewN _, HK2.out.drewN _⟩
                      · have ha0I : decide ((0 : Int) < (a1 : Int)) = false := decide_eq_false (by omega)
                        have ha0J : decide ((a1 : Int) > 0) = false := decide_eq_false (by omega)
                        have Z := Lib.hid (show false = (decide (a1 > 0) && !ltU D3[am]! D3[P]!) from by rw [decide_eq_false ha0, Bool.false_and])
                        obtain ⟨y1, hy1⟩ : ∃ y1 : Nat, 0 = y1 := ⟨_, rfl⟩
                        obtain ⟨y2, hy2⟩ : ∃ y2 : Nat, 0 = y2 := ⟨_, rfl⟩
                        clear hy1 hy2 ham
                        go_quiet (first | (go_at_call 121; refine Calls.quiet_of_same (less64 y1 y2 _)))
                        go_wp2
                        go_meet
                        exact ⟨_, rfl, Z.out, HA2.out.drewN _, HK2.out.drewN _⟩
                    case rest =>
                      clear HA2 HK2 ham
                      obtain ⟨z, rfl, HZ, HA2, HK2⟩ := hcut
                      rw [← HZ.out] at HQ2
                      clear HZ
                      have hsz : b1 ≤ D3.size := by rw [HA2.out.size]; exact hb
                      cases z
                      rotate_left
                      · have hrg := parteq_rng hP1 hP2 hsz
                        have HQ3 := Lib.hid (HQ2.out.trans ((if_pos rfl).trans (if_pos hrg)))
                        clear HQ2 hsz
                        obtain ⟨E, hE⟩ : ∃ E, Go.Sort.partitionEqual ltU D3 a1 b1 P = E := ⟨_, rfl⟩
                        rw [hE] at HQ3 hrg
                        have HE := Lib.hid hE
                        clear hE
                        obtain ⟨m, D4⟩ := E
                        simp only at HQ3 hrg
                        obtain ⟨hm1, hm2⟩ := hrg
                        go_wp2_with (fail)
                        refine (parteq_any64 lo g n c a1 b1 P _ D3 HA2.out hP1 hP2 hb hn).mono ?_
                        rintro e w6 ⟨rfl, ha6, hk6⟩
                        rw [HE.out] at ha6 ⊢
                        simp only at ha6 ⊢
                        have HA6 := Lib.hid ha6
                        have HK6 := Lib.hid (HK2.out.trans hk6 (Grows.refl _ _))
                        have hN2 := Lib.hid (show b1 - m ≤ N from by have := hN.out; omega)
                        clear ha6 hk6 HA2 HK2 HE
                        go_wp2
                        exact ⟨⟨m, b1, L1, wb, wp, D4, _, _, _, _, _, _, _, _, _, rfl, rfl, rfl, rfl, rfl, rfl, rfl, rfl, rfl, rfl, rfl, rfl, rfl, rfl, hm2, hb, hL1r, hN2.out, HQ3.out.symm, HA6.out, HK6.out⟩, by simp [intOf]; omega⟩
                      · have hrg := part_rng hP1 hP2 hsz
                        have HQ3 := Lib.hid (HQ2.out.trans ((if_neg (by decide)).trans (if_pos hrg)))
                        clear HQ2 hsz
                        obtain ⟨E, hE⟩ : ∃ E, Go.Sort.partition ltU D3 a1 b1 P = E := ⟨_, rfl⟩
                        rw [hE] at HQ3 hrg
                        have HE := Lib.hid hE
                        clear hE
                        obtain ⟨m, al, D4⟩ := E
                        simp only at HQ3 hrg
                        obtain ⟨hm1, hm2⟩ := hrg
                        go_wp2_with (fail)
                        refine (part_any64 lo g n c a1 b1 P _ D3 HA2.out hP1 hP2 hb hn).mono ?_
                        rintro e w6 ⟨rfl, ha6, hk6⟩
                        rw [HE.out] at ha6 ⊢
                        simp only at ha6 ⊢
                        have HA6 := Lib.hid ha6
                        have HK6 := Lib.hid (HK2.out.trans hk6 (Grows.refl _ _))
                        clear ha6 hk6 HA2 HK2 HE
                        obtain ⟨ll, hll⟩ : ∃ ll, m - a1 = ll := ⟨_, rfl⟩
                        obtain ⟨rl, hrl⟩ : ∃ rl, b1 - m = rl := ⟨_, rfl⟩
                        obtain ⟨th, hth⟩ : ∃ th, L / 8 = th := ⟨_, rfl⟩
                        have hllI : (m : Int) - (a1 : Int) = (ll : Int) := by omega
                        have hrlI : (b1 : Int) - (m : Int) = (rl : Int) := by omega
                        have hthI : (L : Int).tdiv 8 = (th : Int) := by rw [Int.tdiv_eq_ediv_of_nonneg (by omega)]; omega
                        have hthJ : (L : Int) / 8 = (th : Int) := by omega
                        obtain ⟨m1, hm1e⟩ : ∃ m1, m + 1 = m1 := ⟨_, rfl⟩
                        have hm1I : (m : Int) + 1 = (m1 : Int) := by omega
                        rw [hll, hrl, hm1e, hL, hth] at HQ3
                        by_cases hlr : ll < rl
                        · have hlrI : (ll : Int) < (rl : Int) := by omega
                          have HQ4 := Lib.hid (HQ3.out.trans (if_pos hlr))
                          have hlt : m - a1 < N := by have := hN.out; omega
                          have hm1b : m1 ≤ b1 := by omega
                          have hmn : m ≤ n := by omega
                          have hN2 := Lib.hid (show b1 - m1 ≤ N from by have := hN.out; omega)
                          have CT := Lib.hid (IH.out (m - a1) hlt a1 m L1 w6 D4 rfl HA6.out hm1 hmn hL1r)
                          have HL := Lib.hid (show b1 - m1 < b1 - a1 from by omega)
                          clear HQ3 hll hrl hth hm1e hlt
                          go_wp2_with (fail)
                          refine CT.out.mono ?_
                          rintro e w7 ⟨rfl, ha7, hk7⟩
                          have HA7 := Lib.hid ha7
                          have HK7 := Lib.hid (HK6.out.trans hk7 (Grows.refl _ _))
                          clear ha7 hk7 HA6 HK6 CT
                          go_wp2
                          exact ⟨⟨m1, b1, L1, _, al, _, _, _, _, _, _, _, _, _, _, by go_num, rfl, rfl, rfl, rfl, rfl, rfl, rfl, rfl, rfl, rfl, rfl, rfl, rfl, hm1b, hb, hL1r, hN2.out, HQ4.out.symm, HA7.out, HK7.out⟩, by have := HL.out; simp [intOf]; omega⟩
                        · have hlrI : decide ((ll : Int) < (rl : Int)) = false := decide_eq_false (by omega)
                          have HQ4 := Lib.hid (HQ3.out.trans (if_neg hlr))
                          have hlt : b1 - m1 < N := by have := hN.out; omega
                          have hm1b : m1 ≤ b1 := by omega
                          have hmn : m ≤ n := by omega
                          have hN2 := Lib.hid (show m - a1 ≤ N from by have := hN.out; omega)
                          have CT := Lib.hid (IH.out (b1 - m1) hlt m1 b1 L1 w6 D4 rfl HA6.out hm1b hb hL1r)
                          have HL := Lib.hid (show m - a1 < b1 - a1 from by omega)
                          clear HQ3 hll hrl hth hm1e hlt
                          go_wp2_with (fail)
                          refine CT.out.mono ?_
                          rintro e w7 ⟨rfl, ha7, hk7⟩
                          have HA7 := Lib.hid ha7
                          have HK7 := Lib.hid (HK6.out.trans hk7 (Grows.refl _ _))
                          clear ha7 hk7 HA6 HK6 CT
                          go_wp2
                          exact ⟨⟨a1, m, L1, _, al, _, _, _, _, _, _, _, _, _, _, rfl, rfl, rfl, rfl, rfl, rfl, rfl, rfl, rfl, rfl, rfl, rfl, rfl, rfl, hm1, hmn, hL1r, hN2.out, HQ4.out.symm, HA7.out, HK7.out⟩, by have := HL.out; simp [intOf]; omega⟩

theorem lookAt_range {α : Type} [Inhabited α] (l : List α) : (List.range l.length).map (fun i => l.toArray[i]!) = l := by
  apply List.ext_getElem (by simp)
  intro i h1 h2
  simp at h1
  simp [h1]
/-- The one slice of a row of more than none. -/
theorem VersAt.some_of {lo : Nat} {w : World} {v : Value} {xs : List Nat} (h : VersAt lo w v xs) (hx : 0 < xs.length) : ∃ g c, v = .slice (some ⟨g, 0, none⟩) xs.length c := by
  obtain ⟨x, hx0⟩ : ∃ x, xs[0]? = some x := ⟨_, List.getElem?_eq_getElem hx⟩
  obtain ⟨g, c, rfl, _⟩ := h.at 0 x hx0
  exact ⟨g, c, rfl⟩
set_option maxHeartbeats 1600000 in
theorem sort_any64 : SortU 100000 := by
  intro lo w v xs h hl hlt
  by_cases h1 : xs.length ≤ 1
  · exact sort_small lo w v xs h h1 hlt
  · obtain ⟨g, c, rfl⟩ := h.some_of (by omega)
    obtain ⟨n, hn⟩ : ∃ n, xs.length = n := ⟨_, rfl⟩
    rw [hn] at h hl h1 ⊢
    have A0 : ArrAt lo w g n c xs.toArray := ⟨h, by simpa using hn, fun x hx => hlt x (by simpa using hx)⟩
    obtain ⟨l, hl0⟩ : ∃ l, Lib.bitLen n = l := ⟨_, rfl⟩
    have hl62 : l ≤ 62 := by
      rw [← hl0, bitLen_eq _ (by omega)]
      exact (bitsLen_le_iff n 62).2 (by omega)
    obtain ⟨hp, hs⟩ := pdq_sorts ltU swo_ltU xs.toArray 0 n l true true (Nat.zero_le _) (by simp [hn]) (.inl rfl)
    have PD := Lib.hid (pdq_any64 lo g n c (by omega) (n - 0) 0 n l w xs.toArray rfl A0 (Nat.zero_le _) (Nat.le_refl _) (by omega))
    have HB := Lib.hid (fun W => Any.bits_Len lays125 (n : Int) W (by omega) (by omega))
    have R := Lib.hid (show ∀ e w', SortsTo lo g n c (Go.Sort.pdq ltU xs.toArray 0 n l true true) w e w' → SortPost lo (.slice (some ⟨g, 0, none⟩) n c) xs w (.returned (.tuple #[])) w' from by
      rintro e w' ⟨_, ha, hk⟩
      obtain ⟨D, hD⟩ : ∃ D, Go.Sort.pdq ltU xs.toArray 0 n l true true = D := ⟨_, rfl⟩
      rw [hD] at ha hp hs
      refine ⟨rfl, D.toList, ?_, ?_, ha.row, hk⟩
      · have h3 := hp.2.2
        rw [show n = D.size from ha.size.symm, Array.extract_size] at h3
        rw [ha.size, show n = xs.toArray.size by simp [hn], Array.extract_size] at h3
        simpa using h3
      · rw [List.pairwise_iff_getElem]
        intro i j hi hj hij
        have hDs := ha.size
        have h4 := hs i j (Nat.zero_le _) hij (by simpa [hDs] using hj)
        rw [getElem!_pos D i (by simpa using hi), getElem!_pos D j (by simpa using hj)] at h4
        simp only [ltU, decide_eq_false_iff_not] at h4
        simp only [Array.getElem_toList]
        omega)
    have hcv : IntKind.u64.wrap (n : Int) = (n : Int) := by rw [IntKind.wrap_u64]; omega
    have hnn : ((n : Int)).toNat = n := Int.toNat_natCast n
    have hl0 := Lib.hid hl0
    clear h A0 hp hs
    go_enter Tryz.func106, Tryz.ntmps106
    go_wp2_with (fail)
    refine (HB.out _).mono ?_
    rintro e w' ⟨rfl, hw'⟩
    have hw'' := hw'.symm
    subst hw''
    clear hw'
    rw [hnn, hl0.out]
    go_wp2_with (fail)
    refine PD.out.mono ?_
    rintro e w' h9
    have R9 := Lib.hid (R.out _ _ h9)
    obtain ⟨rfl, _, _⟩ := h9
    go_wp2
    go_end0
    exact R9.out
end Go.Proofs.YtdmnflncgmnghaaGreat
