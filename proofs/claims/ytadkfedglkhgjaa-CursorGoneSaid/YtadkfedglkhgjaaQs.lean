/-
  Sorting uint32s, twelve at most: the library's slices.Sort, by walks over its text. (Made by tools/mk32.py out of the texts at uint64.)
-/
import Derived.Test.YtadkfedglkhgjaaEm
import Derived.Test.YtadkfedglkhgjaaVs
import Derived.Test.YtadkfedglkhgjaaProg
import Derived.Shelf.Small.Bits
import Derived.Lib.OwnBridge
import Derived.Sort.AssemblyPlain
import Derived.Deep.QuietTactic
import Derived.Deep.RegionLaw
import Derived.Deep.DeepCutAuto
import Derived.BigQuiet
import Derived.BigRegion
import Derived.Deep.CutRange
import Derived.Sort.LotD5
namespace Go.Proofs.Ytadkfedglkhgjaa
open Go.RowKit Go.Shelf Go.Sort

def lays125WRen : Go.Shelf.Ren := ⟨fun | 125 => 54 | 128 => 64 | 129 => 65 | n => n, fun | 46 => 115 | 3 => 3 | 51 => 22 | 53 => 42 | 4 => 4 | 5 => 5 | 9 => 9 | n => n, fun | n => n⟩
theorem lays125W : Go.Proofs.Lays.n125 Try.prog lays125WRen := {
  mixed := by kernel_rfl
  f125 := Try.func54.trans (congrArg some (by kernel_rfl))
  f128 := Try.func64.trans (congrArg some (by kernel_rfl))
  f129 := Try.func65.trans (congrArg some (by kernel_rfl))
  t3 := Try.underlying3
  a3 := Try.isAgg3
  z3 := Try.sizeOf3
  v3 := Try.zeroValue3
  t4 := Try.underlying4
  a4 := Try.isAgg4
  z4 := Try.sizeOf4
  v4 := Try.zeroValue4
  t5 := Try.underlying5
  a5 := Try.isAgg5
  z5 := Try.sizeOf5
  v5 := Try.zeroValue5
  t9 := Try.underlying9
  a9 := Try.isAgg9
  z9 := Try.sizeOf9
  v9 := Try.zeroValue9
  t46 := Try.underlying115
  a46 := Try.isAgg115
  z46 := Try.sizeOf115
  v46 := Try.zeroValue115
  t51 := Try.underlying22
  a51 := Try.isAgg22
  z51 := Try.sizeOf22
  v51 := Try.zeroValue22
  t53 := Try.underlying42
  a53 := Try.isAgg42
  z53 := Try.sizeOf42
  v53 := Try.zeroValue42 }
def keptW (l : List Nat) : List (List Value) := l.map fun (k : Nat) => [.int .u32 (k : Int)]
/-- A row of versions. -/
def VersW (lo : Nat) (w : World) (v : Value) (xs : List Nat) : Prop := RowC lo w 22 1 v (keptW xs)
theorem VersW.at {lo : Nat} {w : World} {v : Value} {xs : List Nat} (h : VersW lo w v xs) (i x : Nat) (hx : xs[i]? = some x) : ∃ g c, v = .slice (some ⟨g, 0, none⟩) xs.length c ∧ w.cell? ⟨g, i, none⟩ = some (.int .u32 (x : Int)) := by
  obtain ⟨g, c, e, _, _, hrg⟩ := RowC.at h i [.int .u32 (x : Int)] (by rw [keptW, List.getElem?_map, hx]; rfl)
  rw [keptW, List.length_map] at e
  have h0 := hrg 0 _ rfl
  rw [Nat.mul_one] at h0
  exact ⟨g, c, e, h0⟩
theorem VersW.form {lo : Nat} {w : World} {v : Value} {xs : List Nat} (h : VersW lo w v xs) : ∃ a c, v = .slice a xs.length c ∧ xs.length ≤ c := by
  obtain ⟨a, c, e, h2⟩ := RowC.form h
  rw [keptW, List.length_map] at e h2
  exact ⟨a, c, e, h2⟩
set_option maxHeartbeats 800000 in
theorem less32 (x y : Nat) (w : World) : Calls Try.prog 61 #[.int .u32 (x : Int), .int .u32 (y : Int)] w fun e w' => e = .returned (.bool (decide (x < y))) ∧ w' = w := by
  by_cases h : x < y
  · have hb : decide ((x : Int) < (y : Int)) = true := decide_eq_true (by omega)
    have hr := Lib.hid (show decide (x < y) = true from decide_eq_true h)
    clear h
    go_enter Try.func61, Try.ntmps61
    go_wp2
    go_ret
    exact ⟨by rw [hr.out]; rfl, rfl⟩
  · have hb : decide ((x : Int) < (y : Int)) = false := decide_eq_false (by omega)
    have hr := Lib.hid (show decide (x < y) = false from decide_eq_false h)
    clear h
    go_enter Try.func61, Try.ntmps61
    go_wp2
    go_ret
    exact ⟨by rw [hr.out]; rfl, rfl⟩
/-- What Sort leaves of a row of versions. -/
def SortPostW (lo : Nat) (v : Value) (xs : List Nat) (w : World) (e : Ending) (w' : World) : Prop := e = .returned (.tuple #[]) ∧ ∃ ys : List Nat, ys.Perm xs ∧ ys.Pairwise (· ≤ ·) ∧ VersW lo w' v ys ∧ Kept (ownB v) w w'
/-- Sort is right for so many at most. -/
def SortW (n : Nat) : Prop := ∀ (lo : Nat) (w : World) (v : Value) (xs : List Nat), VersW lo w v xs → xs.length ≤ n → (∀ x ∈ xs, x < 4294967296) → Calls Try.prog 49 #[v] w fun e w' => SortPostW lo v xs w e w'
def zsW (xs : List Nat) : List Int := xs.map fun n : Nat => (n : Int)
theorem keptW_flat (xs : List Nat) : (keptW xs).flatten = (zsW xs).map (Value.int .u32) := by
  induction xs with
  | nil => rfl
  | cons x xs ih =>
    show [.int .u32 (x : Int)] ++ (keptW xs).flatten = _
    rw [ih]
    rfl
theorem versW_of {lo : Nat} {w : World} {v : Value} {xs : List Nat} (h : w.ownsRow lo 22 1 v xs.length ((zsW xs).map (Value.int .u32))) : VersW lo w v xs := by
  refine ⟨fun cs hcs => ?_, ?_⟩
  · obtain ⟨x, _, rfl⟩ := List.mem_map.1 hcs
    rfl
  · rw [keptW_flat, keptW, List.length_map]
    exact h
def ltW (x y : Nat) : Bool := decide (x < y)
theorem swo_ltW : Go.Sort.SWO ltW where
  irrefl := fun x => by simp [ltW]
  trans := fun x y z => by simp only [ltW, decide_eq_true_eq]; omega
  ntrans := fun x y z => by simp only [ltW, decide_eq_false_iff_not]; omega
/-- A row of uint32 as an array. -/
structure ArrW (lo : Nat) (w : World) (g n c : Nat) (d : Array Nat) : Prop where
  row : VersW lo w (.slice (some ⟨g, 0, none⟩) n c) d.toList
  size : d.size = n
  lt64 : ∀ x ∈ d, x < 4294967296
theorem keptW_flatU (l : List Nat) : (keptW l).flatten = l.map fun (x : Nat) => Value.int .u32 (x : Int) := by
  induction l with
  | nil => rfl
  | cons x l ih =>
    rw [keptW] at ih ⊢
    simp only [List.map_cons, List.flatten_cons, ih]
    rfl
section
variable {lo g n c : Nat} {w w' : World} {d : Array Nat}
theorem ArrW.blk (h : ArrW lo w g n c d) : ∃ cur, Blk w g 22 cur ∧ lo ≤ g ∧ cur.take n = d.toList.map (fun (x : Nat) => Value.int .u32 (x : Int)) ∧ cur.length = c ∧ n ≤ c ∧ c ≤ maxLen := by
  obtain ⟨h1, h2⟩ := h.row
  rw [keptW_flatU] at h2
  rcases h2.2 with ⟨e, _⟩ | ⟨g', cap, cur, e, hb, hh, k1, k2, k3, k4⟩
  · cases e
  · simp only [Value.slice.injEq, Option.some.injEq, Addr.mk.injEq] at e
    obtain ⟨⟨rfl, -⟩, e2, rfl⟩ := e
    refine ⟨cur.toList, by simpa [Blk] using hh, hb, ?_, by simpa using k3, by rw [e2]; exact k1, k2⟩
    rw [e2, ← k4, Nat.mul_one]
theorem ArrW.cell (h : ArrW lo w g n c d) {i : Nat} (hi : i < n) : w.cell? ⟨g, i, none⟩ = some (.int .u32 (d[i]! : Int)) := by
  obtain ⟨cur, h1, h2, h3, h4, h5, h6⟩ := h.blk
  have hs := h.size
  rw [h1.cell i, ← List.getElem?_take_of_lt hi, h3, List.getElem?_map, List.getElem?_eq_getElem (by simpa using by omega)]
  simp [show i < d.size by omega]
theorem ArrW.frozen (h : ArrW lo w g n c d) (i : Nat) : w.frozen? ⟨g, i, none⟩ = false := by
  obtain ⟨cur, h1, _⟩ := h.blk
  exact h1.frozen i
theorem ArrW.lt (h : ArrW lo w g n c d) : lo ≤ g ∧ g < w.heap.size := by
  obtain ⟨cur, h1, h2, _⟩ := h.blk
  exact ⟨h2, h1.lt⟩
theorem ArrW.of_blk {cur : List Value} (h1 : Blk w g 22 cur) (h2 : lo ≤ g) (h3 : cur.take n = d.toList.map (fun (x : Nat) => Value.int .u32 (x : Int))) (h4 : cur.length = c) (h5 : n ≤ c) (h6 : c ≤ maxLen) (hs : d.size = n) (hx : ∀ x ∈ d, x < 4294967296) : ArrW lo w g n c d := by
  refine ⟨⟨fun cs hc => ?_, ?_⟩, hs, hx⟩
  · obtain ⟨x, _, rfl⟩ := List.mem_map.1 hc
    rfl
  · rw [keptW_flatU]
    have hl : (keptW d.toList).length = n := by simp [keptW, hs]
    rw [hl]
    exact ⟨by simp [hs], .inr ⟨g, c, cur.toArray, rfl, h2, h1, h5, h6, by simp [h4], by simpa using h3⟩⟩
theorem ArrW.set (h : ArrW lo w g n c d) {i x : Nat} (_ : i < n) (hx : x < 4294967296) : ArrW lo (w.setCell ⟨g, i, none⟩ (.int .u32 (x : Int))) g n c (d.setIfInBounds i x) := by
  obtain ⟨cur, h1, h2, h3, h4, h5, h6⟩ := h.blk
  refine ArrW.of_blk (h1.set i _) h2 ?_ (by simp [h4]) h5 h6 (by simp [h.size]) (fun y hy => ?_)
  · rw [List.take_set, h3]
    simp [List.map_set]
  · rcases Array.mem_or_eq_of_mem_setIfInBounds hy with hy | rfl
    · exact h.lt64 y hy
    · exact hx
theorem ArrW.kept {F : List Nat} (h : ArrW lo w g n c d) (hk : Kept F w w') (hF : g ∉ F) : ArrW lo w' g n c d := by
  obtain ⟨cur, h1, h2, h3, h4, h5, h6⟩ := h.blk
  exact ArrW.of_blk (hk.blk h1 hF) h2 h3 h4 h5 h6 h.size h.lt64
theorem ArrW.drew (h : ArrW lo w g n c d) : ArrW lo w.drew g n c d := h.kept ((Kept.refl [] w).drew) (by simp)
theorem ArrW.at64 (h : ArrW lo w g n c d) {i : Nat} (hi : i < n) : d[i]! < 4294967296 := by
  have hs := h.size
  rw [getElem!_pos d i (by omega)]
  exact h.lt64 _ (Array.getElem_mem _)
/-- Two elements change places. -/
theorem ArrW.swap (h : ArrW lo w g n c d) {i j : Nat} (hi : i < n) (hj : j < n) : ArrW lo ((w.setCell ⟨g, i, none⟩ (.int .u32 (d[j]! : Int))).setCell ⟨g, j, none⟩ (.int .u32 (d[i]! : Int))) g n c (Go.Sort.swp d i j) := (h.set hi (h.at64 hj)).set hj (h.at64 hi)
end
theorem ins_stopW {a j : Nat} {d : Array Nat} (h : (decide (a < j) && ltW d[j]! d[j - 1]!) = false) : Go.Sort.insInner ltW a j d = d := by
  cases j with
  | zero => rfl
  | succ j =>
    rw [Go.Sort.insInner, if_neg]
    intro hh
    rw [Nat.add_sub_cancel] at h
    have : (decide (a < j + 1) && ltW d[j + 1]! d[j]!) = true := by simpa using hh
    rw [h] at this
    cases this
theorem ins_goW {a j : Nat} {d : Array Nat} (h : (decide (a < j) && ltW d[j]! d[j - 1]!) = true) : a < j ∧ ltW d[j]! d[j - 1]! = true := by
  rw [Bool.and_eq_true, decide_eq_true_eq] at h
  exact h
theorem ins_stepW {a j : Nat} {d : Array Nat} (h1 : a < j) (h2 : ltW d[j]! d[j - 1]! = true) : Go.Sort.insInner ltW a j d = Go.Sort.insInner ltW a (j - 1) (Go.Sort.swp d j (j - 1)) := by
  cases j with
  | zero => omega
  | succ j =>
    rw [Nat.add_sub_cancel] at h2 ⊢
    rw [Go.Sort.insInner, if_pos]
    simp [h2]
    omega
/-- A region that draws, of which no way panics. -/
theorem region_calmW {id : Nat} {ops : Array Oper} {Q : Exit → Act → World → Prop} {a : Act} {w : World} (h : wpAny Try.prog .any ops (fun e a w => match e with | .normal => Q .normal a w | _ => False) ops.size (Array.replicate ops.size false) a w.drew) : (Code.region id ops true).wp Try.prog Q a w :=
  wp_mono (wp_region_any (by kernel_rfl) h) (fun e a w => by
    cases e
    · exact fun h => h
    all_goals exact False.elim)
set_option maxRecDepth 100000 in
set_option maxHeartbeats 6400000 in
theorem ins_any32 (lo g n c a b : Nat) (w : World) (d : Array Nat) (h : ArrW lo w g n c d) (hab : a ≤ b) (hb : b ≤ n) (hn : n ≤ 4294967296) :
    Calls Try.prog 55 #[.slice (some ⟨g, 0, none⟩) n c, .int .i64 (a : Int), .int .i64 (b : Int)] w fun e w' => e = .returned (.tuple #[]) ∧ ArrW lo w' g n c (Go.Sort.insertionSort ltW d a b) ∧ Kept [g] w w' := by
  obtain ⟨R, hR⟩ : ∃ R, Go.Sort.insertionSort ltW d a b = R := ⟨_, rfl⟩
  rw [hR]
  have H0 := Lib.hid h
  have HR := Lib.hid (show Go.Sort.insOuter ltW a b (a + 1) d = R from hR)
  have hcn : n ≤ c := by
    obtain ⟨_, _, _, _, _, h5, _⟩ := h.blk
    exact h5
  clear h hR
  go_enter Try.func55, Try.ntmps55
  go_wp2_with (fail)
  go_loopw [6] (fun s6 wr => ∃ (i : Nat) (d1 : Array Nat), s6 = .int .i64 i ∧ a + 1 ≤ i ∧ i ≤ n + 1 ∧ Hid (Go.Sort.insOuter ltW a b i d1 = R) ∧ Hid (ArrW lo wr g n c d1) ∧ Hid (Kept [g] w wr)) (fun s6 _ => n + 1 - (intOf s6).toNat)
  case atStart => exact ⟨a + 1, d, by go_num, by omega, by omega, HR.out, H0.out, Kept.refl _ _⟩
  case round =>
    clear H0 HR
    obtain ⟨i, d1, rfl, hi1, hi2, HR, HA, HK⟩ := hrel
    by_cases hib : i < b
    · obtain ⟨D1, hD1⟩ : ∃ D1, Go.Sort.insInner ltW a i d1 = D1 := ⟨_, rfl⟩
      have HR1 := Lib.hid (show Go.Sort.insOuter ltW a b (i + 1) D1 = R from by
        have := HR.out
        rw [Go.Sort.insOuter, if_pos hib, hD1] at this
        exact this)
      have HD := Lib.hid hD1
      clear hD1 HR
      go_wp2_with (fail)
      go_loopw [7] (fun s7 wr => ∃ (j : Nat) (d2 : Array Nat), s7 = .int .i64 j ∧ j ≤ i ∧ Hid (Go.Sort.insInner ltW a j d2 = D1) ∧ Hid (ArrW lo wr g n c d2) ∧ Hid (Kept [g] w wr)) (fun s7 _ => (intOf s7).toNat)
      case atStart => exact ⟨i, d1, rfl, Nat.le_refl _, HD.out, HA.out, HK.out⟩
      case round =>
        clear HA HK HD
        obtain ⟨j, d2, rfl, hj, HD, HA, HK⟩ := hrel
        go_upto_region 4 with fail
        go_cut [30] (fun s30 wx => ∃ z : Bool, s30 = .bool z ∧ Hid (z = (decide (a < j) && ltW d2[j]! d2[j - 1]!)) ∧ Hid (ArrW lo wx g n c d2) ∧ Hid (Kept [g] w wx))
        case first J K' hJ hKK =>
          by_cases haj : a < j
          · obtain ⟨k, hk⟩ : ∃ k, j - 1 = k := ⟨_, rfl⟩
            have c1 : wr.cell? ⟨g, j, none⟩ = some (.int .u32 (d2[j]! : Int)) := HA.out.cell (by omega)
            have c2 : wr.cell? ⟨g, k, none⟩ = some (.int .u32 (d2[k]! : Int)) := HA.out.cell (by omega)
            obtain ⟨y1, hy1⟩ : ∃ y1, d2[j]! = y1 := ⟨_, rfl⟩
            obtain ⟨y2, hy2⟩ : ∃ y2, d2[k]! = y2 := ⟨_, rfl⟩
            rw [hy1] at c1
            rw [hy2] at c2
            have Z := Lib.hid (show decide (y1 < y2) = (decide (a < j) && ltW d2[j]! d2[j - 1]!) from by rw [hk, hy1, hy2, decide_eq_true haj, Bool.true_and]; rfl)
            have hsub : (j : Int) - 1 = (k : Int) := by omega
            have hkn : k < n := by omega
            have hwk : IntKind.i64.wrap (k : Int) = (k : Int) := by rw [IntKind.wrap_i64]; omega
            have hjn : j < n := by omega
            have hd1 : decide ((a : Int) < (j : Int)) = true := decide_eq_true (by omega)
            have hd2 : decide ((j : Int) > (a : Int)) = true := decide_eq_true (by omega)
            have hgl := HA.out.lt.2
            clear hy1 hy2
            refine region_calmW ?_
            refine wpAny_take (i := 0) (v := ?v0) rfl (by kernel_rfl) (by kernel_rfl) (by kernel_rfl) (fun _ _ _ h => h) (Or.inl ⟨by rfl, ?y0⟩) ?_
            case y0 => (intro w; go_simp) <;> with_reducible rfl
            go_simp
            refine wpAny_take (i := 1) (v := ?v1) rfl (by kernel_rfl) (by kernel_rfl) (by kernel_rfl) (fun _ _ _ h => h) (Or.inl ⟨by rfl, ?y1⟩) ?_
            case y1 => (intro w; go_simp) <;> with_reducible rfl
            go_simp
            refine wpAny_take (i := 2) (v := ?v2) rfl (by kernel_rfl) (by kernel_rfl) (by kernel_rfl) (fun _ _ _ h => h) (Or.inl ⟨by rfl, ?y2⟩) ?_
            case y2 => (intro w; go_simp) <;> with_reducible rfl
            go_simp
            refine wpAny_take (i := 3) (v := ?v3) rfl (by kernel_rfl) (by kernel_rfl) (by kernel_rfl) (fun _ _ _ h => h) (Or.inl ⟨by rfl, ?y3⟩) ?_
            case y3 => (intro w; go_simp) <;> with_reducible rfl
            go_simp
            refine wpAny_take (i := 4) (v := ?v4) rfl (by kernel_rfl) (by kernel_rfl) (by kernel_rfl) (fun _ _ _ h => h) (Or.inl ⟨by rfl, ?y4⟩) ?_
            case y4 => (intro w; go_simp) <;> with_reducible rfl
            go_simp
            refine wpAny_take (i := 5) (v := ?v5) rfl (by kernel_rfl) (by kernel_rfl) (by kernel_rfl) (fun _ _ _ h => h) (Or.inl ⟨by rfl, ?y5⟩) ?_
            case y5 => (intro w; go_simp) <;> with_reducible rfl
            go_simp
            refine wpAny_take (i := 6) (v := ?v6) rfl (by kernel_rfl) (by kernel_rfl) (by kernel_rfl) (fun _ _ _ h => h) (Or.inl ⟨by rfl, ?y6⟩) ?_
            case y6 => (intro w; go_simp) <;> with_reducible rfl
            go_simp
            refine wpAny_take (i := 8) (v := ?v8) rfl (by kernel_rfl) (by kernel_rfl) (by kernel_rfl) (fun _ _ _ h => h) (Or.inl ⟨by rfl, ?y8⟩) ?_
            case y8 => (intro w; go_simp) <;> with_reducible rfl
            go_simp
            refine wpAny_take (i := 9) (v := ?v9) rfl (by kernel_rfl) (by kernel_rfl) (by kernel_rfl) (fun _ _ _ h => h) (Or.inl ⟨by rfl, ?y9⟩) ?_
            case y9 => (intro w; go_simp) <;> with_reducible rfl
            go_simp
            refine wpAny_take (i := 10) (v := ?v10) rfl (by kernel_rfl) (by kernel_rfl) (by kernel_rfl) (fun _ _ _ h => h) (Or.inl ⟨by rfl, ?y10⟩) ?_
            case y10 => (intro w; go_simp) <;> with_reducible rfl
            go_simp
            refine wpAny_take (i := 11) (v := ?v11) rfl (by kernel_rfl) (by kernel_rfl) (by kernel_rfl) (fun _ _ _ h => h) (Or.inl ⟨by rfl, ?y11⟩) ?_
            case y11 => (intro w; go_simp) <;> with_reducible rfl
            go_simp
            refine wpAny_ready (rs := [7, 12]) (by kernel_rfl) (by simp) ?_
            refine AllReady.cons rfl (fun K hK => ?_) (AllReady.cons rfl (fun K hK => ?_) AllReady.nil)
            · (rw [if_pos (by rfl)]; go_simp; refine hK _ _ ?_; clear hK K)
              refine wpAny_ready (rs := [12]) (by kernel_rfl) (by simp) ?_
              refine AllReady.cons rfl (fun K hK => ?_) AllReady.nil
              (rw [if_pos (by rfl)]; go_simp; refine hK _ _ ?_; clear hK K)
              refine wpAny_ready (rs := [13]) (by kernel_rfl) (by simp) ?_
              refine AllReady.cons rfl (fun K hK => ?_) AllReady.nil
              (rw [if_pos (by rfl)]; go_simp; go_at_call 61; refine (less32 y1 y2 _).mono ?_; rintro e w' ⟨rfl, hw'⟩; have hw'' := hw'.symm; subst hw''; clear hw'; go_simp; refine hK _ _ ?_; clear hK K)
              refine wpAny_take (i := 14) (v := ?v14) rfl (by kernel_rfl) (by kernel_rfl) (by kernel_rfl) (fun _ _ _ h => h) (Or.inl ⟨by rfl, ?y14⟩) ?_
              case y14 => (intro w; go_simp) <;> with_reducible rfl
              go_simp
              refine wpAny_done (by kernel_rfl) ?_ _
              refine hKK _ _ (Met.intro (hJ _ _ ?_))
              (repeat apply Exists.intro)
              refine ⟨?_, rfl⟩
              exact ⟨_, rfl, Z.out, HA.out.drew, HK.out.drew⟩
            · (rw [if_pos (by rfl)]; go_simp; refine hK _ _ ?_; clear hK K)
              refine wpAny_ready (rs := [7]) (by kernel_rfl) (by simp) ?_
              refine AllReady.cons rfl (fun K hK => ?_) AllReady.nil
              (rw [if_pos (by rfl)]; go_simp; refine hK _ _ ?_; clear hK K)
              refine wpAny_ready (rs := [13]) (by kernel_rfl) (by simp) ?_
              refine AllReady.cons rfl (fun K hK => ?_) AllReady.nil
              (rw [if_pos (by rfl)]; go_simp; go_at_call 61; refine (less32 y1 y2 _).mono ?_; rintro e w' ⟨rfl, hw'⟩; have hw'' := hw'.symm; subst hw''; clear hw'; go_simp; refine hK _ _ ?_; clear hK K)
              refine wpAny_take (i := 14) (v := ?v14) rfl (by kernel_rfl) (by kernel_rfl) (by kernel_rfl) (fun _ _ _ h => h) (Or.inl ⟨by rfl, ?y14⟩) ?_
              case y14 => (intro w; go_simp) <;> with_reducible rfl
              go_simp
              refine wpAny_done (by kernel_rfl) ?_ _
              refine hKK _ _ (Met.intro (hJ _ _ ?_))
              (repeat apply Exists.intro)
              refine ⟨?_, rfl⟩
              exact ⟨_, rfl, Z.out, HA.out.drew, HK.out.drew⟩
          · have hd1 : decide ((a : Int) < (j : Int)) = false := decide_eq_false (by omega)
            have hle : j ≤ a := by omega
            have Z := Lib.hid (show false = (decide (a < j) && ltW d2[j]! d2[j - 1]!) from by rw [decide_eq_false haj, Bool.false_and])
            refine region_calmW ?_
            refine wpAny_take (i := 0) (v := ?v0) rfl (by kernel_rfl) (by kernel_rfl) (by kernel_rfl) (fun _ _ _ h => h) (Or.inl ⟨by rfl, ?y0⟩) ?_
            case y0 => (intro w; go_simp) <;> with_reducible rfl
            go_simp
            refine wpAny_take (i := 1) (v := ?v1) rfl (by kernel_rfl) (by kernel_rfl) (by kernel_rfl) (fun _ _ _ h => h) (Or.inl ⟨by rfl, ?y1⟩) ?_
            case y1 => (intro w; go_simp) <;> with_reducible rfl
            go_simp
            refine wpAny_take (i := 2) (v := .bool false) rfl (by kernel_rfl) (by kernel_rfl) (by kernel_rfl) (fun _ _ _ h => h) (Or.inl ⟨by rfl, ?y2⟩) ?_
            case y2 => (intro w; go_simp; try (first | done | omega | (simp; omega)))
            go_simp
            refine wpAny_take (i := 3) (v := .bool false) rfl (by kernel_rfl) (by kernel_rfl) (by kernel_rfl) (fun _ _ _ h => h) (Or.inl ⟨by rfl, ?y3⟩) ?_
            case y3 => (intro w; go_simp)
            go_simp
            refine wpAny_take (i := 4) (v := undef) rfl (by kernel_rfl) (by kernel_rfl) (by kernel_rfl) (fun _ _ _ h => h) (Or.inr ⟨by rfl, rfl⟩) ?_
            go_simp
            refine wpAny_take (i := 5) (v := undef) rfl (by kernel_rfl) (by kernel_rfl) (by kernel_rfl) (fun _ _ _ h => h) (Or.inr ⟨by rfl, rfl⟩) ?_
            go_simp
            refine wpAny_take (i := 6) (v := undef) rfl (by kernel_rfl) (by kernel_rfl) (by kernel_rfl) (fun _ _ _ h => h) (Or.inr ⟨by rfl, rfl⟩) ?_
            go_simp
            refine wpAny_take (i := 7) (v := undef) rfl (by kernel_rfl) (by kernel_rfl) (by kernel_rfl) (fun _ _ _ h => h) (Or.inr ⟨by rfl, rfl⟩) ?_
            go_simp
            refine wpAny_take (i := 8) (v := undef) rfl (by kernel_rfl) (by kernel_rfl) (by kernel_rfl) (fun _ _ _ h => h) (Or.inr ⟨by rfl, rfl⟩) ?_
            go_simp
            refine wpAny_take (i := 9) (v := undef) rfl (by kernel_rfl) (by kernel_rfl) (by kernel_rfl) (fun _ _ _ h => h) (Or.inr ⟨by rfl, rfl⟩) ?_
            go_simp
            refine wpAny_take (i := 10) (v := undef) rfl (by kernel_rfl) (by kernel_rfl) (by kernel_rfl) (fun _ _ _ h => h) (Or.inr ⟨by rfl, rfl⟩) ?_
            go_simp
            refine wpAny_take (i := 11) (v := undef) rfl (by kernel_rfl) (by kernel_rfl) (by kernel_rfl) (fun _ _ _ h => h) (Or.inr ⟨by rfl, rfl⟩) ?_
            go_simp
            refine wpAny_take (i := 12) (v := undef) rfl (by kernel_rfl) (by kernel_rfl) (by kernel_rfl) (fun _ _ _ h => h) (Or.inr ⟨by rfl, rfl⟩) ?_
            go_simp
            refine wpAny_take (i := 13) (v := undef) rfl (by kernel_rfl) (by kernel_rfl) (by kernel_rfl) (fun _ _ _ h => h) (Or.inr ⟨by rfl, rfl⟩) ?_
            go_simp
            refine wpAny_take (i := 14) (v := .bool false) rfl (by kernel_rfl) (by kernel_rfl) (by kernel_rfl) (fun _ _ _ h => h) (Or.inl ⟨by rfl, ?y14⟩) ?_
            case y14 => (intro w; go_simp)
            go_simp
            refine wpAny_done (by kernel_rfl) ?_ _
            refine hKK _ _ (Met.intro (hJ _ _ ?_))
            (repeat apply Exists.intro)
            refine ⟨?_, rfl⟩
            exact ⟨_, rfl, Z.out, HA.out.drew, HK.out.drew⟩
        case rest =>
          obtain ⟨z, rfl, HZ, HA2, HK2⟩ := hcut
          clear HA HK
          cases z
          · have HD2 := Lib.hid (show d2 = D1 from by rw [← HD.out, ins_stopW HZ.out.symm])
            rw [HD2.out] at HA2
            go_wp2
            exact ⟨⟨i + 1, D1, by go_num, by omega, by omega, HR1.out, HA2.out, HK2.out⟩, by simp [intOf]; omega⟩
          · obtain ⟨haj, hlt⟩ := ins_goW HZ.out.symm
            obtain ⟨k, hk⟩ : ∃ k, j - 1 = k := ⟨_, rfl⟩
            have HS := Lib.hid (show Go.Sort.insInner ltW a k (Go.Sort.swp d2 j k) = D1 from by rw [← HD.out, ins_stepW haj hlt, hk])
            have SW := Lib.hid ((HA2.out.drew).swap (show j < n by omega) (show k < n by omega))
            have SK := Lib.hid (((HK2.out.drew).setCell ⟨g, j, none⟩ (.int .u32 (d2[k]! : Int)) (.inl (by simp))).setCell ⟨g, k, none⟩ (.int .u32 (d2[j]! : Int)) (.inl (by simp)))
            have c1 : wc.cell? ⟨g, j, none⟩ = some (.int .u32 (d2[j]! : Int)) := HA2.out.cell (by omega)
            have c2 : wc.cell? ⟨g, k, none⟩ = some (.int .u32 (d2[k]! : Int)) := HA2.out.cell (by omega)
            have f1 := HA2.out.frozen j
            have f2 := HA2.out.frozen k
            obtain ⟨y1, hy1⟩ : ∃ y1, d2[j]! = y1 := ⟨_, rfl⟩
            obtain ⟨y2, hy2⟩ : ∃ y2, d2[k]! = y2 := ⟨_, rfl⟩
            rw [hy1] at c1 SK SW
            rw [hy2] at c2 SK SW
            have hsub : (j : Int) - 1 = (k : Int) := by omega
            have hkn : k < n := by omega
            have hwk : IntKind.i64.wrap (k : Int) = (k : Int) := by rw [IntKind.wrap_i64]; omega
            have hjn : j < n := by omega
            have hjk : ¬ j = k := by omega
            have hkj : ¬ k = j := by omega
            have hgl := HA2.out.lt.2
            clear hy1 hy2 hlt
            go_wp2_with (fail)
            refine region_calmW ?_
            refine wpAny_take (i := 0) (v := ?ss0) rfl (by kernel_rfl) (by kernel_rfl) (by kernel_rfl) (fun _ _ _ h => h) (Or.inl ⟨by rfl, ?zz0⟩) ?_
            case zz0 => (intro w; go_simp) <;> with_reducible rfl
            go_simp
            refine wpAny_take (i := 1) (v := ?ss1) rfl (by kernel_rfl) (by kernel_rfl) (by kernel_rfl) (fun _ _ _ h => h) (Or.inl ⟨by rfl, ?zz1⟩) ?_
            case zz1 => (intro w; go_simp) <;> with_reducible rfl
            go_simp
            refine wpAny_take (i := 2) (v := ?ss2) rfl (by kernel_rfl) (by kernel_rfl) (by kernel_rfl) (fun _ _ _ h => h) (Or.inl ⟨by rfl, ?zz2⟩) ?_
            case zz2 => (intro w; go_simp) <;> with_reducible rfl
            go_simp
            refine wpAny_take (i := 3) (v := ?ss3) rfl (by kernel_rfl) (by kernel_rfl) (by kernel_rfl) (fun _ _ _ h => h) (Or.inl ⟨by rfl, ?zz3⟩) ?_
            case zz3 => (intro w; go_simp) <;> with_reducible rfl
            go_simp
            refine wpAny_take (i := 4) (v := ?ss4) rfl (by kernel_rfl) (by kernel_rfl) (by kernel_rfl) (fun _ _ _ h => h) (Or.inl ⟨by rfl, ?zz4⟩) ?_
            case zz4 => (intro w; go_simp) <;> with_reducible rfl
            go_simp
            refine wpAny_take (i := 5) (v := ?ss5) rfl (by kernel_rfl) (by kernel_rfl) (by kernel_rfl) (fun _ _ _ h => h) (Or.inl ⟨by rfl, ?zz5⟩) ?_
            case zz5 => (intro w; go_simp) <;> with_reducible rfl
            go_simp
            refine wpAny_take (i := 6) (v := ?ss6) rfl (by kernel_rfl) (by kernel_rfl) (by kernel_rfl) (fun _ _ _ h => h) (Or.inl ⟨by rfl, ?zz6⟩) ?_
            case zz6 => (intro w; go_simp) <;> with_reducible rfl
            go_simp
            refine wpAny_take (i := 7) (v := ?ss7) rfl (by kernel_rfl) (by kernel_rfl) (by kernel_rfl) (fun _ _ _ h => h) (Or.inl ⟨by rfl, ?zz7⟩) ?_
            case zz7 => (intro w; go_simp) <;> with_reducible rfl
            go_simp
            refine wpAny_take (i := 8) (v := ?ss8) rfl (by kernel_rfl) (by kernel_rfl) (by kernel_rfl) (fun _ _ _ h => h) (Or.inl ⟨by rfl, ?zz8⟩) ?_
            case zz8 => (intro w; go_simp) <;> with_reducible rfl
            go_simp
            refine wpAny_take (i := 10) (v := ?ss10) rfl (by kernel_rfl) (by kernel_rfl) (by kernel_rfl) (fun _ _ _ h => h) (Or.inl ⟨by rfl, ?zz10⟩) ?_
            case zz10 => (intro w; go_simp) <;> with_reducible rfl
            go_simp
            refine wpAny_take (i := 11) (v := ?ss11) rfl (by kernel_rfl) (by kernel_rfl) (by kernel_rfl) (fun _ _ _ h => h) (Or.inl ⟨by rfl, ?zz11⟩) ?_
            case zz11 => (intro w; go_simp) <;> with_reducible rfl
            go_simp
            refine wpAny_take (i := 12) (v := ?ss12) rfl (by kernel_rfl) (by kernel_rfl) (by kernel_rfl) (fun _ _ _ h => h) (Or.inl ⟨by rfl, ?zz12⟩) ?_
            case zz12 => (intro w; go_simp) <;> with_reducible rfl
            go_simp
            refine wpAny_ready (rs := [9, 13]) (by kernel_rfl) (by simp) ?_
            refine AllReady.cons rfl (fun K hK => ?_) (AllReady.cons rfl (fun K hK => ?_) AllReady.nil)
            · (rw [if_pos (by rfl)]; go_simp; refine hK _ _ ?_; clear hK K)
              refine wpAny_ready (rs := [13]) (by kernel_rfl) (by simp) ?_
              refine AllReady.cons rfl (fun K hK => ?_) AllReady.nil
              (rw [if_pos (by rfl)]; go_simp; refine hK _ _ ?_; clear hK K)
              refine wpAny_take (i := 14) (v := ?ss14a) rfl (by kernel_rfl) (by kernel_rfl) (by kernel_rfl) (fun _ _ _ h => h) (Or.inl ⟨by rfl, ?zz14a⟩) ?_
              case zz14a => (intro w; go_simp) <;> with_reducible rfl
              go_simp
              refine wpAny_ready (rs := [15]) (by kernel_rfl) (by simp) ?_
              refine AllReady.cons rfl (fun K hK => ?_) AllReady.nil
              (rw [if_pos (by rfl)]; go_simp; refine hK _ _ ?_; clear hK K)
              refine wpAny_take (i := 16) (v := ?ss16a) rfl (by kernel_rfl) (by kernel_rfl) (by kernel_rfl) (fun _ _ _ h => h) (Or.inl ⟨by rfl, ?zz16a⟩) ?_
              case zz16a => (intro w; go_simp) <;> with_reducible rfl
              go_simp
              refine wpAny_ready (rs := [17]) (by kernel_rfl) (by simp) ?_
              refine AllReady.cons rfl (fun K hK => ?_) AllReady.nil
              (rw [if_pos (by rfl)]; go_simp; refine hK _ _ ?_; clear hK K)
              refine wpAny_done (by kernel_rfl) ?_ _
              go_wp2
              go_roundw
              case rel => exact ⟨k, _, by go_num, by omega, HS.out, SW.out, SK.out⟩
              case measure => simp [intOf]; omega
            · (rw [if_pos (by rfl)]; go_simp; refine hK _ _ ?_; clear hK K)
              refine wpAny_ready (rs := [9]) (by kernel_rfl) (by simp) ?_
              refine AllReady.cons rfl (fun K hK => ?_) AllReady.nil
              (rw [if_pos (by rfl)]; go_simp; refine hK _ _ ?_; clear hK K)
              refine wpAny_take (i := 14) (v := ?ss14b) rfl (by kernel_rfl) (by kernel_rfl) (by kernel_rfl) (fun _ _ _ h => h) (Or.inl ⟨by rfl, ?zz14b⟩) ?_
              case zz14b => (intro w; go_simp) <;> with_reducible rfl
              go_simp
              refine wpAny_ready (rs := [15]) (by kernel_rfl) (by simp) ?_
              refine AllReady.cons rfl (fun K hK => ?_) AllReady.nil
              (rw [if_pos (by rfl)]; go_simp; refine hK _ _ ?_; clear hK K)
              refine wpAny_take (i := 16) (v := ?ss16b) rfl (by kernel_rfl) (by kernel_rfl) (by kernel_rfl) (fun _ _ _ h => h) (Or.inl ⟨by rfl, ?zz16b⟩) ?_
              case zz16b => (intro w; go_simp) <;> with_reducible rfl
              go_simp
              refine wpAny_ready (rs := [17]) (by kernel_rfl) (by simp) ?_
              refine AllReady.cons rfl (fun K hK => ?_) AllReady.nil
              (rw [if_pos (by rfl)]; go_simp; refine hK _ _ ?_; clear hK K)
              refine wpAny_done (by kernel_rfl) ?_ _
              go_wp2
              go_roundw
              case rel => exact ⟨k, _, by go_num, by omega, HS.out, SW.out, SK.out⟩
              case measure => simp [intOf]; omega
    · have HF := Lib.hid (show d1 = R from by
        have := HR.out
        rw [Go.Sort.insOuter, if_neg hib] at this
        exact this)
      rw [HF.out] at HA
      have HA9 := Lib.hid HA.out
      clear HR HA
      go_wp2
      go_end0
      exact ⟨rfl, HA9.out, HK.out⟩
theorem pdq_smallW {d : Array Nat} {a b lim : Nat} {wb wp : Bool} (h : b - a ≤ 12) : Go.Sort.pdq ltW d a b lim wb wp = Go.Sort.insertionSort ltW d a b := by rw [Go.Sort.pdq, if_pos h]
/-- The one slice of a row of more than none. -/
theorem VersW.some_of {lo : Nat} {w : World} {v : Value} {xs : List Nat} (h : VersW lo w v xs) (hx : 0 < xs.length) : ∃ g c, v = .slice (some ⟨g, 0, none⟩) xs.length c := by
  obtain ⟨x, hx0⟩ : ∃ x, xs[0]? = some x := ⟨_, List.getElem?_eq_getElem hx⟩
  obtain ⟨g, c, rfl, _⟩ := h.at 0 x hx0
  exact ⟨g, c, rfl⟩
set_option maxHeartbeats 800000 in
theorem ins_nil32 (a : Option Addr) (c : Nat) (w : World) : Calls Try.prog 55 #[.slice a 0 c, .int .i64 0, .int .i64 0] w fun e w' => e = .returned (.tuple #[]) ∧ w' = w := by
  go_enter Try.func55, Try.ntmps55
  go_wp2_with (fail)
  go_loop [6] (fun s6 => s6 = .int .i64 1) (fun _ => 0)
  case atStart => rfl
  case round =>
    subst hrel
    go_wp2
    go_end0
    exact ⟨rfl, rfl⟩
set_option maxHeartbeats 1600000 in
theorem pdq_nil32 (a : Option Addr) (c : Nat) (w : World) (l : Int) : Calls Try.prog 53 #[.slice a 0 c, .int .i64 0, .int .i64 0, .int .i64 l] w fun e w' => e = .returned (.tuple #[]) ∧ w' = w := by
  go_enter Try.func53, Try.ntmps53
  go_wp2_with (fail)
  go_loop [1, 2] (fun s1 s2 => s1 = .int .i64 0 ∧ s2 = .int .i64 0) (fun _ _ => 0)
  case atStart => exact ⟨rfl, rfl⟩
  case round =>
    obtain ⟨rfl, rfl⟩ := hrel
    go_wp2_with (fail)
    refine (ins_nil32 a c w).mono ?_
    rintro e w' ⟨rfl, hw'⟩
    have hw'' := hw'.symm
    subst hw''
    clear hw'
    go_wp2
    refine bodyPost_ret (v := .tuple #[]) (results_none rfl _ _ _) rfl ?_
    exact ⟨rfl, rfl⟩

set_option maxHeartbeats 1600000 in
theorem pdq_ins32 (lo g n c lim : Nat) (w : World) (d : Array Nat) (h : ArrW lo w g n c d) (hn : n ≤ 12) :
    Calls Try.prog 53 #[.slice (some ⟨g, 0, none⟩) n c, .int .i64 0, .int .i64 (n : Int), .int .i64 (lim : Int)] w fun e w' => e = .returned (.tuple #[]) ∧ ArrW lo w' g n c (Go.Sort.insertionSort ltW d 0 n) ∧ Kept [g] w w' := by
  have PI := Lib.hid (ins_any32 lo g n c 0 n w d h (Nat.zero_le _) (Nat.le_refl _) (by omega))
  clear h
  go_enter Try.func53, Try.ntmps53
  go_wp2_with (fail)
  go_loop [1, 2] (fun s1 s2 => s1 = .int .i64 0 ∧ s2 = .int .i64 (n : Int)) (fun _ _ => 0)
  case atStart => exact ⟨rfl, rfl⟩
  case round =>
    obtain ⟨rfl, rfl⟩ := hrel
    go_wp2_with (fail)
    refine PI.out.mono ?_
    rintro e w' ⟨rfl, hA, hK⟩
    have HA := Lib.hid (And.intro hA hK)
    clear hA hK
    go_wp2
    refine bodyPost_ret (v := .tuple #[]) (results_none rfl _ _ _) rfl ?_
    exact ⟨rfl, HA.out⟩
set_option maxHeartbeats 1600000 in
theorem sort_few32 : SortW 12 := by
  intro lo w v xs h hl hlt
  by_cases h1 : xs.length = 0
  · obtain ⟨a, c, rfl, hnc⟩ := h.form
    obtain rfl : xs = [] := List.eq_nil_of_length_eq_zero h1
    have R := Lib.hid (show SortPostW lo (.slice a 0 c) [] w (.returned (.tuple #[])) w from ⟨rfl, [], .refl _, List.Pairwise.nil, h, Kept.refl _ _⟩)
    have HB := Lib.hid (fun W => Any.bits_Len lays125W 0 W (by omega) (by omega))
    clear h
    show Calls _ _ #[.slice a 0 c] _ _
    go_enter Try.func49, Try.ntmps49
    go_wp2_with (first
      | (go_at_call 54; refine (HB.out _).mono ?_; rintro e w' ⟨rfl, hw'⟩; have hw'' := hw'.symm; subst hw''; clear hw')
      | (go_at_call 53; refine (pdq_nil32 a c _ _).mono ?_; rintro e w' ⟨rfl, hw'⟩; have hw'' := hw'.symm; subst hw''; clear hw'))
    go_end0
    exact R.out
  · obtain ⟨g, c, rfl⟩ := h.some_of (by omega)
    obtain ⟨n, hn⟩ : ∃ n, xs.length = n := ⟨_, rfl⟩
    rw [hn] at h hl h1 ⊢
    have A0 : ArrW lo w g n c xs.toArray := ⟨h, by simpa using hn, fun x hx => hlt x (by simpa using hx)⟩
    obtain ⟨l, hl0⟩ : ∃ l, Lib.bitLen n = l := ⟨_, rfl⟩
    obtain ⟨hp, hs⟩ := pdq_sorts ltW swo_ltW xs.toArray 0 n l true true (Nat.zero_le _) (by simp [hn]) (.inl rfl)
    rw [pdq_smallW (by omega)] at hp hs
    have PD := Lib.hid (pdq_ins32 lo g n c l w xs.toArray A0 hl)
    have HB := Lib.hid (fun W => Any.bits_Len lays125W (n : Int) W (by omega) (by omega))
    have R := Lib.hid (show ∀ w', ArrW lo w' g n c (Go.Sort.insertionSort ltW xs.toArray 0 n) → Kept [g] w w' → SortPostW lo (.slice (some ⟨g, 0, none⟩) n c) xs w (.returned (.tuple #[])) w' from by
      intro w' ha hk
      obtain ⟨D, hD⟩ : ∃ D, Go.Sort.insertionSort ltW xs.toArray 0 n = D := ⟨_, rfl⟩
      rw [hD] at ha hp hs
      refine ⟨rfl, D.toList, ?_, ?_, ha.row, hk⟩
      · have h3 := hp.2.2
        rw [show n = D.size from ha.size.symm, Array.extract_size] at h3
        rw [ha.size, show n = xs.toArray.size by simp [hn], Array.extract_size] at h3
        simpa using h3
      · rw [List.pairwise_iff_getElem]
        intro i j hi hj hij
        have hDs := ha.size
        have h4 := hs i j (Nat.zero_le _) hij (by simpa [hDs] using hj)
        rw [getElem!_pos D i (by simpa using hi), getElem!_pos D j (by simpa using hj)] at h4
        simp only [ltW, decide_eq_false_iff_not] at h4
        simp only [Array.getElem_toList]
        omega)
    have hcv : IntKind.u64.wrap (n : Int) = (n : Int) := by rw [IntKind.wrap_u64]; omega
    have hnn : ((n : Int)).toNat = n := Int.toNat_natCast n
    have hl0 := Lib.hid hl0
    clear h A0 hp hs
    go_enter Try.func49, Try.ntmps49
    go_wp2_with (fail)
    refine (HB.out _).mono ?_
    rintro e w' ⟨rfl, hw'⟩
    have hw'' := hw'.symm
    subst hw''
    clear hw'
    rw [hnn, hl0.out]
    go_wp2_with (fail)
    refine PD.out.mono ?_
    rintro e w' ⟨rfl, ha, hk⟩
    have R9 := Lib.hid (R.out _ ha hk)
    clear ha hk
    go_wp2
    go_end0
    exact R9.out
end Go.Proofs.Ytadkfedglkhgjaa
