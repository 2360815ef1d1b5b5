/-
  The library's SortFunc laid over this program, and what it makes of a row of items: the same items by rising ids.
-/
import Derived.Shelf.SlSortCmp.NoneTotal
import Derived.Test.YtdmnflncgmnghaaCc
namespace Go.Proofs.Ytdmnflncgmnghaa
open Go.RowKit Go.Shelf Go.Sort Go.Lib

def sortItemsRen : Go.Shelf.Ren := ⟨fun | 6 => 37 | 15 => 49 | 14 => 48 | 28 => 62 | 29 => 63 | 20 => 54 | 21 => 55 | 22 => 56 | 23 => 57 | 24 => 58 | 25 => 59 | 26 => 60 | 27 => 61 | 46 => 74 | 47 => 75 | 48 => 76 | 49 => 77 | 50 => 78 | 57 => 82 | n => n, fun | 22 => 54 | 24 => 37 | 25 => 92 | 3 => 3 | 39 => 105 | 0 => 0 | 53 => 33 | 55 => 28 | 4 => 4 | 46 => 111 | 45 => 110 | 50 => 98 | 5 => 5 | 9 => 9 | 66 => 124 | 70 => 127 | 76 => 131 | 77 => 132 | n => n, fun | n => n⟩
theorem sortItems : Go.Proofs.SlLaysF0.n6 Try.prog sortItemsRen := {
  mixed := by kernel_rfl
  f6 := ⟨Try.f37.name, by decide, Try.func37.trans (congrArg some (by kernel_rfl))⟩
  f14 := ⟨Try.f48.name, by decide, Try.func48.trans (congrArg some (by kernel_rfl))⟩
  f15 := Try.func49.trans (congrArg some (by kernel_rfl))
  f20 := ⟨Try.f54.name, by decide, Try.func54.trans (congrArg some (by kernel_rfl))⟩
  f21 := ⟨Try.f55.name, by decide, Try.func55.trans (congrArg some (by kernel_rfl))⟩
  f22 := ⟨Try.f56.name, by decide, Try.func56.trans (congrArg some (by kernel_rfl))⟩
  f23 := ⟨Try.f57.name, by decide, Try.func57.trans (congrArg some (by kernel_rfl))⟩
  f24 := ⟨Try.f58.name, by decide, Try.func58.trans (congrArg some (by kernel_rfl))⟩
  f25 := ⟨Try.f59.name, by decide, Try.func59.trans (congrArg some (by kernel_rfl))⟩
  f26 := ⟨Try.f60.name, by decide, Try.func60.trans (congrArg some (by kernel_rfl))⟩
  f27 := ⟨Try.f61.name, by decide, Try.func61.trans (congrArg some (by kernel_rfl))⟩
  f28 := Try.func62.trans (congrArg some (by kernel_rfl))
  f29 := Try.func63.trans (congrArg some (by kernel_rfl))
  f46 := ⟨Try.f74.name, by decide, Try.func74.trans (congrArg some (by kernel_rfl))⟩
  f47 := Try.func75.trans (congrArg some (by kernel_rfl))
  f48 := Try.func76.trans (congrArg some (by kernel_rfl))
  f49 := ⟨Try.f77.name, by decide, Try.func77.trans (congrArg some (by kernel_rfl))⟩
  f50 := ⟨Try.f78.name, by decide, Try.func78.trans (congrArg some (by kernel_rfl))⟩
  f57 := ⟨Try.f82.name, by decide, Try.func82.trans (congrArg some (by kernel_rfl))⟩
  t0 := Try.underlying0
  a0 := Try.isAgg0
  z0 := Try.sizeOf0
  v0 := Try.zeroValue0
  t3 := Try.underlying3
  a3 := Try.isAgg3
  z3 := Try.sizeOf3
  v3 := Try.zeroValue3
  t4 := Try.underlying4
  a4 := Try.isAgg4
  z4 := Try.sizeOf4
  v4 := Try.zeroValue4
  t5 := Try.underlying5
  a5 := Try.isAgg5
  z5 := Try.sizeOf5
  v5 := Try.zeroValue5
  t9 := Try.underlying9
  a9 := Try.isAgg9
  z9 := Try.sizeOf9
  v9 := Try.zeroValue9
  t22 := Try.underlying54
  a22 := Try.isAgg54
  z22 := Try.sizeOf54
  v22 := Try.zeroValue54
  t25 := Try.underlying92
  a25 := Try.isAgg92
  z25 := Try.sizeOf92
  v25 := Try.zeroValue92
  t39 := Try.underlying105
  a39 := Try.isAgg105
  z39 := Try.sizeOf105
  v39 := Try.zeroValue105
  t45 := Try.underlying110
  a45 := Try.isAgg110
  z45 := Try.sizeOf110
  v45 := Try.zeroValue110
  t46 := Try.underlying111
  a46 := Try.isAgg111
  z46 := Try.sizeOf111
  v46 := Try.zeroValue111
  t50 := Try.underlying98
  a50 := Try.isAgg98
  z50 := Try.sizeOf98
  v50 := Try.zeroValue98
  t53 := Try.underlying33
  a53 := Try.isAgg33
  z53 := Try.sizeOf33
  v53 := Try.zeroValue33
  t55 := Try.underlying28
  a55 := Try.isAgg28
  z55 := Try.sizeOf28
  v55 := Try.zeroValue28
  t66 := Try.underlying124
  a66 := Try.isAgg124
  z66 := Try.sizeOf124
  v66 := Try.zeroValue124
  t70 := Try.underlying127
  a70 := Try.isAgg127
  z70 := Try.sizeOf127
  v70 := Try.zeroValue127
  t76 := Try.underlying131
  a76 := Try.isAgg131
  z76 := Try.sizeOf131
  v76 := Try.zeroValue131
  t77 := Try.underlying132
  a77 := Try.isAgg132
  z77 := Try.sizeOf132
  v77 := Try.zeroValue132 }

def ItL.zeroI : ItL := ⟨0, (none, 0, 0), (none, 0, 0), [], []⟩
instance : Inhabited ItL := ⟨ItL.zeroI⟩
set_option maxHeartbeats 800000 in
theorem cmp32 (x y : Nat) (w : World) : Calls Try.prog 50 #[.int .u32 (x : Int), .int .u32 (y : Int)] w fun e w' => e = .returned (.int .i64 (Lib.compareInt (x : Int) (y : Int))) ∧ w' = w := by
  by_cases h1 : x < y
  · have E := Lib.hid (show Lib.compareInt (x : Int) (y : Int) = -1 from by unfold Lib.compareInt; rw [if_pos (by omega)])
    rw [E.out]
    go_enter Try.func50, Try.ntmps50
    go_wp2
    go_ret
    exact ⟨rfl, rfl⟩
  · by_cases h2 : y < x
    · have E := Lib.hid (show Lib.compareInt (x : Int) (y : Int) = 1 from by unfold Lib.compareInt; rw [if_neg (by omega), if_pos (by omega)])
      rw [E.out]
      go_enter Try.func50, Try.ntmps50
      go_wp2
      go_ret
      exact ⟨rfl, rfl⟩
    · have E := Lib.hid (show Lib.compareInt (x : Int) (y : Int) = 0 from by unfold Lib.compareInt; rw [if_neg (by omega), if_neg (by omega)])
      rw [E.out]
      go_enter Try.func50, Try.ntmps50
      go_wp2
      go_ret
      exact ⟨rfl, rfl⟩
def cfI (x y : ItL) : Int := Lib.compareInt (x.id : Int) (y.id : Int)
set_option maxHeartbeats 1600000 in
theorem byId_any (x y : ItL) (W : World) : Calls Try.prog 38 #[.agg x.cells.toArray, .agg y.cells.toArray] W fun e w' => e = .returned (.int .i64 (cfI x y)) ∧ ∃ q os', w' = grow (W.drewN q) os' := by
  have hcon := fun W' => cmp32 x.id y.id W'
  unfold cfI
  generalize Lib.compareInt (x.id : Int) (y.id : Int) = r at hcon ⊢
  show Calls _ _ #[.agg #[.int .u32 (x.id : Int), .slice x.pv.1 x.pv.2.1 x.pv.2.2, .slice x.pt.1 x.pt.2.1 x.pt.2.2], .agg #[.int .u32 (y.id : Int), .slice y.pv.1 y.pv.2.1 y.pv.2.2, .slice y.pt.1 y.pt.2.1 y.pt.2.2]] _ _
  go_enter Try.func38, Try.ntmps38
  go_wp2_with (go_at_call 50; refine (hcon _).mono ?_; rintro e w' ⟨rfl, rfl⟩)
  go_ret
  exact ⟨rfl, 0, _, by rw [alloc_eq_grow, alloc_eq_grow, grow_grow]; rfl⟩
theorem ltI (x y : ItL) : ltOf cfI x y = decide (x.id < y.id) := by
  unfold ltOf cfI Lib.compareInt
  by_cases h1 : x.id < y.id
  · simp [h1]
  · by_cases h2 : y.id < x.id <;> simp [h1, h2]
theorem swoI : SWO (ltOf cfI) where
  irrefl x := by rw [ltI]; simp
  trans x y z h1 h2 := by rw [ltI] at *; simp at *; omega
  ntrans x y z h1 h2 := by rw [ltI] at *; simp at *; omega
theorem bang_at {α : Type} [Inhabited α] (xs : List α) (i : Nat) (x : α) (h : xs[i]? = some x) : (xs.toArray)[i]! = x := by
  obtain ⟨hl, rfl⟩ := List.getElem?_eq_some_iff.1 h
  simp [hl]
/-- SortFunc over a row of items. -/
theorem sort_items (lo : Nat) (w : World) (v : Value) (xs : List ItL) (h : ItsAt lo w v xs) (hl : xs.length ≤ 1000000) :
    Calls Try.prog 37 #[v, .func (.func 38) #[] #[]] w fun e w' => e = .returned (.tuple #[]) ∧ ∃ ys : List ItL, ys.Perm xs ∧ ys.Pairwise (fun a b => a.id ≤ b.id) ∧ ItsAt lo w' v ys ∧ Kept (ownB v) w w' := by
  rcases h.2.2 with ⟨rfl, h0⟩ | ⟨g, cap, cur, hv, hg, hh, hn, hcap, hsz, htake⟩
  · obtain rfl : xs = [] := by simpa using h0
    refine (AnyF.slices_SortFunc_none sortItems none 0 _ w).mono ?_
    rintro e w' ⟨rfl, rfl⟩
    exact ⟨rfl, [], .refl _, List.Pairwise.nil, RowC.nil _ _ _ _, Kept.refl _ _⟩
  · rw [List.length_map] at hv hn htake
    subst hv
    have hlt : g < w.heap.size := (Array.getElem?_eq_some_iff.1 hh).1
    have eg : ∀ args w, (callFunc 38 args).run Try.prog w = .ok (.enter 38 args) w := enters_of Try.func38 (by kernel_rfl) rfl
    have hH : HoldsK ItL.cells 3 w g 0 xs.toArray := by
      intro t ht
      rw [size_flatK] at ht
      have ht' : t < xs.length * 3 := by simpa using ht
      have hi : t / 3 < xs.length := by omega
      obtain ⟨x, hx⟩ : ∃ x, xs[t / 3]? = some x := ⟨_, List.getElem?_eq_getElem hi⟩
      obtain ⟨g', c', e', _, _, hr⟩ := RowC.at h (t / 3) x.cells (by rw [List.getElem?_map, hx]; rfl)
      simp only [Value.slice.injEq, Option.some.injEq, Addr.mk.injEq, and_true] at e'
      obtain ⟨rfl, -⟩ := e'
      refine ⟨?_, by simp [World.frozen?, hh]⟩
      rw [get_flatK _ _ _ _ ht, bang_at xs _ x hx, Nat.zero_add]
      have hm : t % 3 < 3 := Nat.mod_lt _ (by decide)
      have h3 : x.cells[t % 3]? = some x.cells[t % 3]! := by
        have : t % 3 < x.cells.length := hm
        simp [this]
      have := hr (t % 3) _ h3
      rw [show t / 3 * 3 + t % 3 = t by omega] at this
      exact this
    have hc := AnyQ.slices_SortFunc sortItems 3 Try.isAgg37 Try.sizeOf37 ItL.cells (fun _ => rfl) (fun x v hv => by
      simp [ItL.cells] at hv
      rcases hv with rfl | rfl | rfl <;> rfl) cfI swoI 38 #[] g 0 cap xs.toArray w eg (fun _ _ _ _ x y => byId_any x y _) hH hlt (by simp; omega)
    rw [show xs.toArray.size = xs.length by simp] at hc
    refine hc.mono ?_
    rintro e w' ⟨rfl, d', n, os, hp, hs, rfl⟩
    have hds : d'.size = xs.length := by simpa using hp.1
    have hperm : d'.toList.Perm xs := by
      have h1 := hp.2.2
      rw [show xs.length = d'.size from hds.symm] at h1
      have e1 : (d'.extract 0 d'.size).toList = d'.toList := by simp
      have e2 : (xs.toArray.extract 0 d'.size).toList = xs := by simp [hds]
      rw [e1, e2] at h1
      exact h1
    refine ⟨rfl, d'.toList, hperm, ?_, ?_, ?_⟩
    · rw [List.pairwise_iff_getElem]
      intro i j hi hj hij
      have h1 := hs i j (Nat.zero_le _) hij (by simpa [hds] using hj)
      rw [ltI, decide_eq_false_iff_not] at h1
      have hi' : i < d'.size := by simpa using hi
      have hj' : j < d'.size := by simpa using hj
      rw [getElem!_pos d' i hi', getElem!_pos d' j hj'] at h1
      simpa using h1
    · have hb : (sortWorldK ItL.cells 3 w g 0 n d' os).heap[g]? = some (.cells (putCells id 0 (flatK ItL.cells 3 d') cur) 37 (0, 0)) := by
        unfold sortWorldK putRowK putRow mapBlock grow
        rw [show (({ Sort.ahead w n with heap := (Sort.ahead w n).heap.modify g (onCells (putCells id 0 (flatK ItL.cells 3 d'))) } : World).heap ++ os)[g]? = ((Sort.ahead w n).heap.modify g (onCells (putCells id 0 (flatK ItL.cells 3 d'))))[g]? from Array.getElem?_append_left (by simpa using hlt)]
        rw [Array.getElem?_modify, if_pos rfl, heap_ahead, hh]
        rfl
      have hfl : ∀ cs ∈ d'.toList.map ItL.cells, cs.length = 3 := fun cs hcs => by
        obtain ⟨x, _, rfl⟩ := List.mem_map.1 hcs
        rfl
      have hml : (d'.toList.map ItL.cells).length = xs.length := by simp [hds]
      have hfln : (d'.toList.map ItL.cells).flatten.length = xs.length * 3 := by rw [flatten_len _ 3 hfl, hml]
      refine ⟨hfl, ?_, .inr ⟨g, cap, _, ?_, hg, hb, ?_, hcap, by simpa [putCells] using hsz, ?_⟩⟩
      · rw [hfln, hml]
      · rw [hml]
      · rw [hml]
        exact hn
      · rw [hml]
        apply List.ext_getElem?
        intro j
        rw [List.getElem?_take, Array.getElem?_toList]
        by_cases hj : j < xs.length * 3
        · have hjc : j < cur.size := by
            have := Nat.mul_le_mul_right 3 hn
            omega
          rw [if_pos hj]
          simp only [putCells, Array.getElem?_mapIdx, Array.getElem?_eq_getElem hjc, Option.map_some]
          rw [if_pos (by rw [size_flatK, hds]; omega), Nat.sub_zero, get_flatK _ _ _ _ (by rw [hds]; exact hj)]
          have hi : j / 3 < d'.size := by rw [hds]; omega
          have hm : j % 3 < 3 := Nat.mod_lt _ (by decide)
          have h5 := flatten_at (d'.toList.map ItL.cells) 3 hfl (j / 3) (d'[j / 3]!).cells (by
            rw [List.getElem?_map, Array.getElem?_toList, Array.getElem?_eq_getElem hi, getElem!_pos d' _ hi]
            rfl) (j % 3) hm
          rw [show j / 3 * 3 + j % 3 = j by omega] at h5
          rw [h5]
          have h6 : j % 3 < (d'[j / 3]!).cells.length := hm
          rw [List.getElem?_eq_getElem h6, getElem!_pos (d'[j / 3]!).cells (j % 3) h6]
          rfl
        · rw [if_neg hj, List.getElem?_eq_none (by omega)]
    · refine ⟨rfl, rfl, rfl, ?_, fun k hk hF => ?_⟩
      · unfold sortWorldK putRowK putRow mapBlock grow
        simp
      · have hkg : ¬ g = k := by
          intro hh
          exact hF (by rw [← hh]; exact mem_ownB.2 rfl)
        unfold sortWorldK putRowK putRow mapBlock grow
        rw [show (({ Sort.ahead w n with heap := (Sort.ahead w n).heap.modify g (onCells (putCells id 0 (flatK ItL.cells 3 d'))) } : World).heap ++ os)[k]? = ((Sort.ahead w n).heap.modify g (onCells (putCells id 0 (flatK ItL.cells 3 d'))))[k]? from Array.getElem?_append_left (by simpa using hk)]
        rw [Array.getElem?_modify, if_neg hkg, heap_ahead]
end Go.Proofs.Ytdmnflncgmnghaa
