/-
  The library's SortFunc laid over this program, and what it makes of a row of items: the same items by rising ids.
-/
import Derived.Shelf.SlSortCmp.NoneTotal
import Derived.Test.YtdmnflncgmnghaaGreatCc
namespace Go.Proofs.YtdmnflncgmnghaaGreat
open Go.RowKit Go.Shelf Go.Sort Go.Lib

def sortItemsRen : Go.Shelf.Ren := ⟨fun | 6 => 79 | 15 => 91 | 14 => 100 | 28 => 117 | 29 => 118 | 20 => 123 | 21 => 124 | 22 => 125 | 23 => 126 | 24 => 127 | 25 => 128 | 26 => 129 | 27 => 130 | 46 => 144 | 47 => 138 | 48 => 139 | 49 => 145 | 50 => 146 | 57 => 156 | n => n, fun | 22 => 45 | 24 => 73 | 25 => 161 | 3 => 3 | 39 => 174 | 0 => 0 | 53 => 38 | 55 => 27 | 4 => 4 | 46 => 193 | 45 => 192 | 50 => 179 | 5 => 5 | 9 => 9 | 66 => 215 | 70 => 218 | 76 => 227 | 77 => 228 | n => n, fun | n => n⟩
theorem sortItems : Go.Proofs.SlLaysF0.n6 Tryz.prog sortItemsRen := {
  mixed := by kernel_rfl
  f6 := ⟨Tryz.f79.name, by decide, Tryz.func79.trans (congrArg some (by kernel_rfl))⟩
  f14 := ⟨Tryz.f100.name, by decide, Tryz.func100.trans (congrArg some (by kernel_rfl))⟩
  f15 := Tryz.func91.trans (congrArg some (by kernel_rfl))
  f20 := ⟨Tryz.f123.name, by decide, Tryz.func123.trans (congrArg some (by kernel_rfl))⟩
  f21 := ⟨Tryz.f124.name, by decide, Tryz.func124.trans (congrArg some (by kernel_rfl))⟩
  f22 := ⟨Tryz.f125.name, by decide, Tryz.func125.trans (congrArg some (by kernel_rfl))⟩
  f23 := ⟨Tryz.f126.name, by decide, Tryz.func126.trans (congrArg some (by kernel_rfl))⟩
  f24 := ⟨Tryz.f127.name, by decide, Tryz.func127.trans (congrArg some (by kernel_rfl))⟩
  f25 := ⟨Tryz.f128.name, by decide, Tryz.func128.trans (congrArg some (by kernel_rfl))⟩
  f26 := ⟨Tryz.f129.name, by decide, Tryz.func129.trans (congrArg some (by kernel_rfl))⟩
  f27 := ⟨Tryz.f130.name, by decide, Tryz.func130.trans (congrArg some (by kernel_rfl))⟩
  f28 := Tryz.func117.trans (congrArg some (by kernel_rfl))
  f29 := Tryz.func118.trans (congrArg some (by kernel_rfl))
  f46 := ⟨Tryz.f144.name, by decide, Tryz.func144.trans (congrArg some (by kernel_rfl))⟩
  f47 := Tryz.func138.trans (congrArg some (by kernel_rfl))
  f48 := Tryz.func139.trans (congrArg some (by kernel_rfl))
  f49 := ⟨Tryz.f145.name, by decide, Tryz.func145.trans (congrArg some (by kernel_rfl))⟩
  f50 := ⟨Tryz.f146.name, by decide, Tryz.func146.trans (congrArg some (by kernel_rfl))⟩
  f57 := ⟨Tryz.f156.name, by decide, Tryz.func156.trans (congrArg some (by kernel_rfl))⟩
  t0 := Tryz.underlying0
  a0 := Tryz.isAgg0
  z0 := Tryz.sizeOf0
  v0 := Tryz.zeroValue0
  t3 := Tryz.underlying3
  a3 := Tryz.isAgg3
  z3 := Tryz.sizeOf3
  v3 := Tryz.zeroValue3
  t4 := Tryz.underlying4
  a4 := Tryz.isAgg4
  z4 := Tryz.sizeOf4
  v4 := Tryz.zeroValue4
  t5 := Tryz.underlying5
  a5 := Tryz.isAgg5
  z5 := Tryz.sizeOf5
  v5 := Tryz.zeroValue5
  t9 := Tryz.underlying9
  a9 := Tryz.isAgg9
  z9 := Tryz.sizeOf9
  v9 := Tryz.zeroValue9
  t22 := Tryz.underlying45
  a22 := Tryz.isAgg45
  z22 := Tryz.sizeOf45
  v22 := Tryz.zeroValue45
  t25 := Tryz.underlying161
  a25 := Tryz.isAgg161
  z25 := Tryz.sizeOf161
  v25 := Tryz.zeroValue161
  t39 := Tryz.underlying174
  a39 := Tryz.isAgg174
  z39 := Tryz.sizeOf174
  v39 := Tryz.zeroValue174
  t45 := Tryz.underlying192
  a45 := Tryz.isAgg192
  z45 := Tryz.sizeOf192
  v45 := Tryz.zeroValue192
  t46 := Tryz.underlying193
  a46 := Tryz.isAgg193
  z46 := Tryz.sizeOf193
  v46 := Tryz.zeroValue193
  t50 := Tryz.underlying179
  a50 := Tryz.isAgg179
  z50 := Tryz.sizeOf179
  v50 := Tryz.zeroValue179
  t53 := Tryz.underlying38
  a53 := Tryz.isAgg38
  z53 := Tryz.sizeOf38
  v53 := Tryz.zeroValue38
  t55 := Tryz.underlying27
  a55 := Tryz.isAgg27
  z55 := Tryz.sizeOf27
  v55 := Tryz.zeroValue27
  t66 := Tryz.underlying215
  a66 := Tryz.isAgg215
  z66 := Tryz.sizeOf215
  v66 := Tryz.zeroValue215
  t70 := Tryz.underlying218
  a70 := Tryz.isAgg218
  z70 := Tryz.sizeOf218
  v70 := Tryz.zeroValue218
  t76 := Tryz.underlying227
  a76 := Tryz.isAgg227
  z76 := Tryz.sizeOf227
  v76 := Tryz.zeroValue227
  t77 := Tryz.underlying228
  a77 := Tryz.isAgg228
  z77 := Tryz.sizeOf228
  v77 := Tryz.zeroValue228 }

def ItL.zeroI : ItL := ⟨0, (none, 0, 0), (none, 0, 0), [], []⟩
instance : Inhabited ItL := ⟨ItL.zeroI⟩
set_option maxHeartbeats 800000 in
theorem cmp32 (x y : Nat) (w : World) : Calls Tryz.prog 101 #[.int .u32 (x : Int), .int .u32 (y : Int)] w fun e w' => e = .returned (.int .i64 (Lib.compareInt (x : Int) (y : Int))) ∧ w' = w := by
  by_cases h1 : x < y
  · have E := Lib.hid (show Lib.compareInt (x : Int) (y : Int) = -1 from by unfold Lib.compareInt; rw [if_pos (by omega)])
    rw [E.out]
    go_enter Tryz.func101, Tryz.ntmps101
    go_wp2
    go_ret
    exact ⟨rfl, rfl⟩
  · by_cases h2 : y < x
    · have E := Lib.hid (show Lib.compareInt (x : Int) (y : Int) = 1 from by unfold Lib.compareInt; rw [if_neg (by omega), if_pos (by omega)])
      rw [E.out]
      go_enter Tryz.func101, Tryz.ntmps101
      go_wp2
      go_ret
      exact ⟨rfl, rfl⟩
    · have E := Lib.hid (show Lib.compareInt (x : Int) (y : Int) = 0 from by unfold Lib.compareInt; rw [if_neg (by omega), if_neg (by omega)])
      rw [E.out]
      go_enter Tryz.func101, Tryz.ntmps101
      go_wp2
      go_ret
      exact ⟨rfl, rfl⟩
def cfI (x y : ItL) : Int := Lib.compareInt (x.id : Int) (y.id : Int)
set_option maxHeartbeats 1600000 in
theorem byId_any (x y : ItL) (W : World) : Calls Tryz.prog 80 #[.agg x.cells.toArray, .agg y.cells.toArray] W fun e w' => e = .returned (.int .i64 (cfI x y)) ∧ ∃ q os', w' = grow (W.drewN q) os' := by
  have hcon := fun W' => cmp32 x.id y.id W'
  unfold cfI
  generalize Lib.compareInt (x.id : Int) (y.id : Int) = r at hcon ⊢
  show Calls _ _ #[.agg #[.int .u32 (x.id : Int), .slice x.pv.1 x.pv.2.1 x.pv.2.2, .slice x.pt.1 x.pt.2.1 x.pt.2.2], .agg #[.int .u32 (y.id : Int), .slice y.pv.1 y.pv.2.1 y.pv.2.2, .slice y.pt.1 y.pt.2.1 y.pt.2.2]] _ _
  go_enter Tryz.func80, Tryz.ntmps80
  go_wp2_with (go_at_call 101; refine (hcon _).mono ?_; rintro e w' ⟨rfl, rfl⟩)
  go_ret
  exact ⟨rfl, 0, _, by rw [alloc_eq_grow, alloc_eq_grow, grow_grow]; rfl⟩
theorem ltI (x y : ItL) : ltOf cfI x y = decide (x.id < y.id) := by
  unfold ltOf cfI Lib.compareInt
  by_cases h1 : x.id < y.id
  · simp [h1]
  · by_cases h2 : y.id < x.id <;> simp [h1, h2]
theorem swoI : SWO (ltOf cfI) where
  irrefl x := by rw [ltI]; simp
  trans x y z h1 h2 := by rw [ltI] at *; simp at *; omega
  ntrans x y z h1 h2 := by rw [ltI] at *; simp at *; omega
theorem bang_at {α : Type} [Inhabited α] (xs : List α) (i : Nat) (x : α) (h : xs[i]? = some x) : (xs.toArray)[i]! = x := by
  obtain ⟨hl, rfl⟩ := List.getElem?_eq_some_iff.1 h
  simp [hl]
/-- SortFunc over a row of items. -/
theorem sort_items (lo : Nat) (w : World) (v : Value) (xs : List ItL) (h : ItsAt lo w v xs) (hl : xs.length ≤ 1000000) :
    Calls Tryz.prog 79 #[v, .func (.func 80) #[] #[]] w fun e w' => e = .returned (.tuple #[]) ∧ ∃ ys : List ItL, ys.Perm xs ∧ ys.Pairwise (fun a b => a.id ≤ b.id) ∧ ItsAt lo w' v ys ∧ Kept (ownB v) w w' := by
  rcases h.2.2 with ⟨rfl, h0⟩ | ⟨g, cap, cur, hv, hg, hh, hn, hcap, hsz, htake⟩
  · obtain rfl : xs = [] := by simpa using h0
    refine (AnyF.slices_SortFunc_none sortItems none 0 _ w).mono ?_
    rintro e w' ⟨rfl, rfl⟩
    exact ⟨rfl, [], .refl _, List.Pairwise.nil, RowC.nil _ _ _ _, Kept.refl _ _⟩
  · rw [List.length_map] at hv hn htake
    subst hv
    have hlt : g < w.heap.size := (Array.getElem?_eq_some_iff.1 hh).1
    have eg : ∀ args w, (callFunc 80 args).run Tryz.prog w = .ok (.enter 80 args) w := enters_of Tryz.func80 (by kernel_rfl) rfl
    have hH : HoldsK ItL.cells 3 w g 0 xs.toArray := by
      intro t ht
      rw [size_flatK] at ht
      have ht' : t < xs.length * 3 := by simpa using ht
      have hi : t / 3 < xs.length := by omega
      obtain ⟨x, hx⟩ : ∃ x, xs[t / 3]? = some x := ⟨_, List.getElem?_eq_getElem hi⟩
      obtain ⟨g', c', e', _, _, hr⟩ := RowC.at h (t / 3) x.cells (by rw [List.getElem?_map, hx]; rfl)
      simp only [Value.slice.injEq, Option.some.injEq, Addr.mk.injEq, and_true] at e'
      obtain ⟨rfl, -⟩ := e'
      refine ⟨?_, by simp [World.frozen?, hh]⟩
      rw [get_flatK _ _ _ _ ht, bang_at xs _ x hx, Nat.zero_add]
      have hm : t % 3 < 3 := Nat.mod_lt _ (by decide)
      have h3 : x.cells[t % 3]? = some x.cells[t % 3]! := by
        have : t % 3 < x.cells.length := hm
        simp [this]
      have := hr (t % 3) _ h3
      rw [show t / 3 * 3 + t % 3 = t by omega] at this
      exact this
    have hc := AnyQ.slices_SortFunc sortItems 3 Tryz.isAgg73 Tryz.sizeOf73 ItL.cells (fun _ => rfl) (fun x v hv => by
      simp [ItL.cells] at hv
      rcases hv with rfl | rfl | rfl <;> rfl) cfI swoI 80 #[] g 0 cap xs.toArray w eg (fun _ _ _ _ x y => byId_any x y _) hH hlt (by simp; omega)
    rw [show xs.toArray.size = xs.length by simp] at hc
    refine hc.mono ?_
    rintro e w' ⟨rfl, d', n, os, hp, hs, rfl⟩
    have hds : d'.size = xs.length := by simpa using hp.1
    have hperm : d'.toList.Perm xs := by
      have h1 := hp.2.2
      rw [show xs.length = d'.size from hds.symm] at h1
      have e1 : (d'.extract 0 d'.size).toList = d'.toList := by simp
      have e2 : (xs.toArray.extract 0 d'.size).toList = xs := by simp [hds]
      rw [e1, e2] at h1
      exact h1
    refine ⟨rfl, d'.toList, hperm, ?_, ?_, ?_⟩
    · rw [List.pairwise_iff_getElem]
      intro i j hi hj hij
      have h1 := hs i j (Nat.zero_le _) hij (by simpa [hds] using hj)
      rw [ltI, decide_eq_false_iff_not] at h1
      have hi' : i < d'.size := by simpa using hi
      have hj' : j < d'.size := by simpa using hj
      rw [getElem!_pos d' i hi', getElem!_pos d' j hj'] at h1
      simpa using h1
    · have hb : (sortWorldK ItL.cells 3 w g 0 n d' os).heap[g]? = some (.cells (putCells id 0 (flatK ItL.cells 3 d') cur) 73 (0, 0)) := by
        unfold sortWorldK putRowK putRow mapBlock grow
        rw [show (({ Sort.ahead w n with heap := (Sort.ahead w n).heap.modify g (onCells (putCells id 0 (flatK ItL.cells 3 d'))) } : World).heap ++ os)[g]? = ((Sort.ahead w n).heap.modify g (onCells (putCells id 0 (flatK ItL.cells 3 d'))))[g]? from Array.getElem?_append_left (by simpa using hlt)]
        rw [Array.getElem?_modify, if_pos rfl, heap_ahead, hh]
        rfl
      have hfl : ∀ cs ∈ d'.toList.map ItL.cells, cs.length = 3 := fun cs hcs => by
        obtain ⟨x, _, rfl⟩ := List.mem_map.1 hcs
        rfl
      have hml : (d'.toList.map ItL.cells).length = xs.length := by simp [hds]
      have hfln : (d'.toList.map ItL.cells).flatten.length = xs.length * 3 := by rw [flatten_len _ 3 hfl, hml]
      refine ⟨hfl, ?_, .inr ⟨g, cap, _, ?_, hg, hb, ?_, hcap, by simpa [putCells] using hsz, ?_⟩⟩
      · rw [hfln, hml]
      · rw [hml]
      · rw [hml]
        exact hn
      · rw [hml]
        apply List.ext_getElem?
        intro j
        rw [List.getElem?_take, Array.getElem?_toList]
        by_cases hj : j < xs.length * 3
        · have hjc : j < cur.size := by
            have := Nat.mul_le_mul_right 3 hn
            omega
          rw [if_pos hj]
          simp only [putCells, Array.getElem?_mapIdx, Array.getElem?_eq_getElem hjc, Option.map_some]
          rw [if_pos (by rw [size_flatK, hds]; omega), Nat.sub_zero, get_flatK _ _ _ _ (by rw [hds]; exact hj)]
          have hi : j / 3 < d'.size := by rw [hds]; omega
          have hm : j % 3 < 3 := Nat.mod_lt _ (by decide)
          have h5 := flatten_at (d'.toList.map ItL.cells) 3 hfl (j / 3) (d'[j / 3]!).cells (by
            rw [List.getElem?_map, Array.getElem?_toList, Array.getElem?_eq_getElem hi, getElem!_pos d' _ hi]
            rfl) (j % 3) hm
          rw [show j / 3 * 3 + j % 3 = j by omega] at h5
          rw [h5]
          have h6 : j % 3 < (d'[j / 3]!).cells.length := hm
          rw [List.getElem?_eq_getElem h6, getElem!_pos (d'[j / 3]!).cells (j % 3) h6]
          rfl
        · rw [if_neg hj, List.getElem?_eq_none (by omega)]
    · refine ⟨rfl, rfl, rfl, ?_, fun k hk hF => ?_⟩
      · unfold sortWorldK putRowK putRow mapBlock grow
        simp
      · have hkg : ¬ g = k := by
          intro hh
          exact hF (by rw [← hh]; exact mem_ownB.2 rfl)
        unfold sortWorldK putRowK putRow mapBlock grow
        rw [show (({ Sort.ahead w n with heap := (Sort.ahead w n).heap.modify g (onCells (putCells id 0 (flatK ItL.cells 3 d'))) } : World).heap ++ os)[k]? = ((Sort.ahead w n).heap.modify g (onCells (putCells id 0 (flatK ItL.cells 3 d'))))[k]? from Array.getElem?_append_left (by simpa using hk)]
        rw [Array.getElem?_modify, if_neg hkg, heap_ahead]
end Go.Proofs.YtdmnflncgmnghaaGreat
