/-
  The library's Contains, Clone, Sort and Compact at this program, by the library's own contracts; and what they make of slices of strings that read or are a call's own.
-/
import Derived.Test.YtpaehifgccfpoaaGa
import Derived.Shelf.Sort.Plain
import Derived.Shelf.Slices.Turned
import Derived.Shelf.Slices.Clone
import Derived.Shelf.Slices.CompactS
import Derived.Shelf.Slices.In.SortNone
import Derived.Sort.OwnSorted
import Derived.Lib.OwnBridge
namespace Go.Proofs.Ytpaehifgccfpoaa
open Go.RowKit Go.Shelf Go.Sort

def lays190Ren : Go.Shelf.Ren := ⟨fun | 190 => 26 | 125 => 31 | 258 => 30 | 128 => 41 | 129 => 42 | 302 => 32 | 303 => 33 | 304 => 34 | 305 => 35 | 306 => 36 | 307 => 37 | 308 => 38 | 309 => 39 | 310 => 40 | 333 => 43 | 329 => 44 | 330 => 45 | 334 => 46 | 335 => 47 | 336 => 48 | 344 => 49 | n => n, fun | 31 => 22 | 9 => 9 | 3 => 3 | 46 => 48 | 0 => 0 | 51 => 59 | 53 => 61 | 4 => 4 | 183 => 51 | 182 => 50 | 131 => 56 | 5 => 5 | 218 => 62 | 222 => 66 | 228 => 68 | 229 => 69 | n => n, fun | n => n⟩
theorem lays190 : Go.Proofs.Lays.n190 Try.prog lays190Ren := {
  mixed := by kernel_rfl
  f125 := Try.func31.trans (congrArg some (by kernel_rfl))
  f128 := Try.func41.trans (congrArg some (by kernel_rfl))
  f129 := Try.func42.trans (congrArg some (by kernel_rfl))
  f190 := Try.func26.trans (congrArg some (by kernel_rfl))
  f258 := Try.func30.trans (congrArg some (by kernel_rfl))
  f302 := Try.func32.trans (congrArg some (by kernel_rfl))
  f303 := Try.func33.trans (congrArg some (by kernel_rfl))
  f304 := Try.func34.trans (congrArg some (by kernel_rfl))
  f305 := Try.func35.trans (congrArg some (by kernel_rfl))
  f306 := Try.func36.trans (congrArg some (by kernel_rfl))
  f307 := Try.func37.trans (congrArg some (by kernel_rfl))
  f308 := Try.func38.trans (congrArg some (by kernel_rfl))
  f309 := Try.func39.trans (congrArg some (by kernel_rfl))
  f310 := Try.func40.trans (congrArg some (by kernel_rfl))
  f329 := Try.func44.trans (congrArg some (by kernel_rfl))
  f330 := Try.func45.trans (congrArg some (by kernel_rfl))
  f333 := Try.func43.trans (congrArg some (by kernel_rfl))
  f334 := Try.func46.trans (congrArg some (by kernel_rfl))
  f335 := Try.func47.trans (congrArg some (by kernel_rfl))
  f336 := Try.func48.trans (congrArg some (by kernel_rfl))
  f344 := Try.func49.trans (congrArg some (by kernel_rfl))
  t0 := Try.underlying0
  a0 := Try.isAgg0
  z0 := Try.sizeOf0
  v0 := Try.zeroValue0
  t3 := Try.underlying3
  a3 := Try.isAgg3
  z3 := Try.sizeOf3
  v3 := Try.zeroValue3
  t4 := Try.underlying4
  a4 := Try.isAgg4
  z4 := Try.sizeOf4
  v4 := Try.zeroValue4
  t5 := Try.underlying5
  a5 := Try.isAgg5
  z5 := Try.sizeOf5
  v5 := Try.zeroValue5
  t9 := Try.underlying9
  a9 := Try.isAgg9
  z9 := Try.sizeOf9
  v9 := Try.zeroValue9
  t31 := Try.underlying22
  a31 := Try.isAgg22
  z31 := Try.sizeOf22
  v31 := Try.zeroValue22
  t46 := Try.underlying48
  a46 := Try.isAgg48
  z46 := Try.sizeOf48
  v46 := Try.zeroValue48
  t51 := Try.underlying59
  a51 := Try.isAgg59
  z51 := Try.sizeOf59
  v51 := Try.zeroValue59
  t53 := Try.underlying61
  a53 := Try.isAgg61
  z53 := Try.sizeOf61
  v53 := Try.zeroValue61
  t131 := Try.underlying56
  a131 := Try.isAgg56
  z131 := Try.sizeOf56
  v131 := Try.zeroValue56
  t182 := Try.underlying50
  a182 := Try.isAgg50
  z182 := Try.sizeOf50
  v182 := Try.zeroValue50
  t183 := Try.underlying51
  a183 := Try.isAgg51
  z183 := Try.sizeOf51
  v183 := Try.zeroValue51
  t218 := Try.underlying62
  a218 := Try.isAgg62
  z218 := Try.sizeOf62
  v218 := Try.zeroValue62
  t222 := Try.underlying66
  a222 := Try.isAgg66
  z222 := Try.sizeOf66
  v222 := Try.zeroValue66
  t228 := Try.underlying68
  a228 := Try.isAgg68
  z228 := Try.sizeOf68
  v228 := Try.zeroValue68
  t229 := Try.underlying69
  a229 := Try.isAgg69
  z229 := Try.sizeOf69
  v229 := Try.zeroValue69 }

def lays110Ren : Go.Shelf.Ren := ⟨fun | 110 => 21 | 109 => 28 | n => n, fun | 31 => 22 | 9 => 9 | 4 => 4 | 3 => 3 | 0 => 0 | n => n, fun | n => n⟩
theorem lays110 : Go.Proofs.Lays.n110 Try.prog lays110Ren := {
  mixed := by kernel_rfl
  f109 := Try.func28.trans (congrArg some (by kernel_rfl))
  f110 := Try.func21.trans (congrArg some (by kernel_rfl))
  t0 := Try.underlying0
  a0 := Try.isAgg0
  z0 := Try.sizeOf0
  v0 := Try.zeroValue0
  t3 := Try.underlying3
  a3 := Try.isAgg3
  z3 := Try.sizeOf3
  v3 := Try.zeroValue3
  t4 := Try.underlying4
  a4 := Try.isAgg4
  z4 := Try.sizeOf4
  v4 := Try.zeroValue4
  t9 := Try.underlying9
  a9 := Try.isAgg9
  z9 := Try.sizeOf9
  v9 := Try.zeroValue9
  t31 := Try.underlying22
  a31 := Try.isAgg22
  z31 := Try.sizeOf22
  v31 := Try.zeroValue22 }

def laysNm216Ren : Go.Shelf.Ren := ⟨fun | 16 => 25 | n => n, fun | 24 => 22 | 9 => 9 | 4 => 4 | n => n, fun | n => n⟩
theorem laysNm216 : Go.Proofs.Lays2.n16 Try.prog laysNm216Ren := {
  mixed := by kernel_rfl
  f16 := Try.func25.trans (congrArg some (by kernel_rfl))
  t4 := Try.underlying4
  a4 := Try.isAgg4
  z4 := Try.sizeOf4
  v4 := Try.zeroValue4
  t9 := Try.underlying9
  a9 := Try.isAgg9
  z9 := Try.sizeOf9
  v9 := Try.zeroValue9
  t24 := Try.underlying22
  a24 := Try.isAgg22
  z24 := Try.sizeOf22
  v24 := Try.zeroValue22
  i9 := by kernel_rfl }

def lays194Ren : Go.Shelf.Ren := ⟨fun | 194 => 27 | n => n, fun | 31 => 22 | 9 => 9 | 3 => 3 | 4 => 4 | 0 => 0 | n => n, fun | n => n⟩
theorem lays194 : Go.Proofs.Lays.n194 Try.prog lays194Ren := {
  mixed := by kernel_rfl
  f194 := Try.func27.trans (congrArg some (by kernel_rfl))
  t0 := Try.underlying0
  a0 := Try.isAgg0
  z0 := Try.sizeOf0
  v0 := Try.zeroValue0
  t3 := Try.underlying3
  a3 := Try.isAgg3
  z3 := Try.sizeOf3
  v3 := Try.zeroValue3
  t4 := Try.underlying4
  a4 := Try.isAgg4
  z4 := Try.sizeOf4
  v4 := Try.zeroValue4
  t9 := Try.underlying9
  a9 := Try.isAgg9
  z9 := Try.sizeOf9
  v9 := Try.zeroValue9
  t31 := Try.underlying22
  a31 := Try.isAgg22
  z31 := Try.sizeOf22
  v31 := Try.zeroValue22 }

theorem contains_reads (a : Option Addr) (n c : Nat) (ss : List ByteArray) (x : ByteArray) (w : World) (h : SReads w a n c ss) :
    Calls Try.prog 21 #[.slice a n c, .string x] w fun e w' => e = .returned (.bool (Lib.containsS ss x)) ∧ w' = w := by
  have hl := h.len
  have hs := h.small
  rcases h.cells with h0 | ⟨b, off, rfl, _, hc⟩
  · subst h0
    have : ss = [] := List.eq_nil_of_length_eq_zero hl
    subst this
    exact Any.slices_Contains_string_empty lays110 a c x w
  · have := Any.slices_Contains_string lays110 b off n c ss x w (by omega) (by omega) (fun j hj => hc j (by omega))
    rwa [List.take_of_length_le (by omega)] at this

theorem clone_reads (a : Option Addr) (n c : Nat) (ss : List ByteArray) (w : World) (h : SReads w a n c ss) :
    Calls Try.prog 25 #[.slice a n c] w fun e w' => ∃ v', e = .returned v' ∧ OwnS w' w.heap.size 9 v' ss ∧ Below w.heap.size w w' := by
  have hl := h.len
  have hs := h.small
  cases a with
  | none =>
    obtain ⟨rfl, rfl⟩ := h.nilOk rfl
    have : ss = [] := List.eq_nil_of_length_eq_zero hl
    subst this
    refine (Any.slices_Clone_string_nil laysNm216 0 0 w).mono ?_
    rintro e w' ⟨rfl, rfl⟩
    exact ⟨_, rfl, OwnS.nil _ _ _, Below.refl _ _⟩
  | some ad =>
    rcases h.cells with h0 | ⟨b, off, e, _, hc⟩
    · subst h0
      have : ss = [] := List.eq_nil_of_length_eq_zero hl
      subst this
      refine (Any.slices_Clone_string_zero laysNm216 ad c w).mono ?_
      rintro e w' ⟨v', rfl, ho, _, hb⟩
      exact ⟨v', rfl, ho, hb⟩
    · obtain rfl := Option.some.inj e
      refine (Any.slices_Clone_string laysNm216 b off n c ss w (by omega) (by omega) (fun j hj => hc j (by omega))).mono ?_
      rintro e w' ⟨v', rfl, ho, _, hb⟩
      rw [List.take_of_length_le (by omega), ← hl] at ho
      exact ⟨v', rfl, ho, hb⟩

/-- The strings of a list, sorted. -/
def srt (ss : List ByteArray) : List (List UInt8) := (ss.map (·.data.toList)).mergeSort fun x y => decide (x ≤ y)
theorem srt_len (ss : List ByteArray) : (srt ss).length = ss.length := by rw [srt, List.length_mergeSort, List.length_map]

theorem sort_own (B : Nat) (v : Value) (ss : List ByteArray) (w : World) (h : OwnS w B 9 v ss) (hs : ss.length ≤ 10000000000000) :
    Calls Try.prog 26 #[v] w fun e w' => e = .returned (.tuple #[]) ∧ w'.ownsRow B 9 1 v ss.length ((srt ss).map encStr) ∧ Below B w w' := by
  by_cases hv : v = .slice none 0 0
  · subst hv
    have hss : ss = [] := by
      rcases h.form with ⟨_, h⟩ | ⟨_, _, _, h, _⟩
      · exact h
      · cases h
    subst hss
    refine (Any.slices_Sort_string_none lays190 none 0 w).mono ?_
    rintro e w' ⟨rfl, rfl⟩
    have e : srt [] = [] := List.eq_nil_of_length_eq_zero (srt_len [])
    refine ⟨rfl, ?_, Below.refl _ _⟩
    rw [e]
    exact OwnS.nil _ _ _
  · have h' : w.ownsRow B 9 1 v ss.length ((ss.map (·.data.toList)).map encStr) := by rw [Lib.map_encStr]; exact h
    obtain ⟨g, cap, rfl, hbg, hgl, hncap, hcm, hlen, hH⟩ := Lib.holds_of_ownsRow h' hv
    have hc := Any.slices_Sort_string lays190 g 0 cap (ss.map (·.data.toList)) w hH hgl (by rw [hlen]; omega)
    rw [hlen] at hc
    refine hc.mono ?_
    rintro e w' ⟨rfl, n, os, rfl⟩
    rcases h'.2 with ⟨h0, _⟩ | ⟨g', cap', cur, hv', hbase, hb, h1, h2, h3, h4⟩
    · cases h0
    cases hv'
    refine ⟨rfl, ?_, Below.grown (Below.refl _ w) (grownBy_sorted _) (Nat.le_of_lt (Nat.lt_of_le_of_lt hbg hgl)) (fun j hj => by cases hj; exact hbg)⟩
    have := ownsRow_sorted (n := n) (os := os) (ts := srt ss) (ss := ss.map (·.data.toList)) (by rw [srt_len, List.length_map]) hbase hb (by rw [hlen]; exact h1) h2 h3
    rw [hlen] at this
    exact this

theorem compact_own (B : Nat) (v : Value) (ss : List ByteArray) (w : World) (h : w.ownsRow B 9 1 v ss.length ((srt ss).map encStr)) (hs : ss.length ≤ 10000000000000) :
    Calls Try.prog 27 #[v] w fun e w' => ∃ v', e = .returned v' ∧ OwnS w' B 9 v' (sortU ss) ∧ Below B w w' := by
  by_cases hv : v = .slice none 0 0
  · subst hv
    have hss : ss = [] := by
      have := h.1
      rcases h.2 with ⟨_, h⟩ | ⟨_, _, _, h, _⟩
      · exact List.eq_nil_of_length_eq_zero (by simpa using h)
      · cases h
    subst hss
    refine (Any.slices_Compact_string_empty lays194 none 0 w).mono ?_
    rintro e w' ⟨rfl, rfl⟩
    exact ⟨_, rfl, OwnS.nil _ _ _, Below.refl _ _⟩
  · obtain ⟨g, cap, rfl, hbg, hgl, hncap, hcm, hlen, hH⟩ := Lib.holds_of_ownsRow h hv
    have hc := Any.slices_Compact_string lays194 g 0 cap (srt ss) w hH (by omega) (by omega)
    rw [hlen] at hc
    refine hc.mono ?_
    rintro e w' ⟨rfl, q, rfl⟩
    have hle := Lib.compact_length_le (srt ss)
    have ho := Lib.ownsRow_putRow (q := q) (k := (Lib.compact (srt ss)).length) (ys := Lib.compact (srt ss) ++ List.replicate (ss.length - (Lib.compact (srt ss)).length) []) h (by simp; omega) (by omega)
    rw [List.take_left] at ho
    have e : Lib.compact (srt ss) = (sortU ss).map (·.data.toList) := sorted_compact ss
    refine ⟨_, rfl, ?_, Lib.below_putRow (Below.refl _ w) hbg⟩
    rw [e, Lib.map_encStr, List.length_map] at ho
    unfold OwnS
    rw [e, List.length_map]
    exact ho
end Go.Proofs.Ytpaehifgccfpoaa
