/-
  The document's past: its state in memory; At, Known, by walks over their texts.
-/
import Derived.Test.YtdmnflncgmnghaaGreatJm
import Derived.Test.YtdmnflncgmnghaaGreatEm
import Derived.Test.YtdmnflncgmnghaaGreatMg
import Derived.Test.YtdmnflncgmnghaaGreatGs
namespace Go.Proofs.YtdmnflncgmnghaaGreat
open Go.RowKit

/-- A row's letters. -/
structure RowL where
  v : Nat
  gone : Bool
  id : Nat
  pv : Option Addr × Nat × Nat
  pt : Option Addr × Nat × Nat
  vec : List Int
  tags : List ByteArray
def RowL.cells (r : RowL) : List Value := [.int .u64 (r.v : Int), .bool r.gone, .int .u32 (r.id : Int), .slice r.pv.1 r.pv.2.1 r.pv.2.2, .slice r.pt.1 r.pt.2.1 r.pt.2.2]
def RowL.item (r : RowL) : ItemV := ⟨r.id, r.vec, toTags r.tags⟩
def RowL.toR (r : RowL) : RowV := ⟨r.v, r.gone, r.item⟩
structure RowL.In (ok : Nat → Prop) (w : World) (r : RowL) : Prop where
  hv : r.v < 18446744073709551616
  hid : r.id < 4294967296
  hvec : Rd ok w shVec [.slice r.pv.1 r.pv.2.1 r.pv.2.2] r.vec
  htags : Rd ok w shTags [.slice r.pt.1 r.pt.2.1 r.pt.2.2] r.tags
theorem RowL.In.stay {ok ok' : Nat → Prop} {w w' : World} {r : RowL} (h : r.In ok w) (hs : w.heap.size ≤ w'.heap.size) (hb : ∀ k, ok k → k < w.heap.size → w'.heap[k]? = w.heap[k]?) (hok : ∀ k, ok k → k < w.heap.size → ok' k) : r.In ok' w' :=
  ⟨h.hv, h.hid, h.hvec.stay hs hb hok, h.htags.stay hs hb hok⟩
theorem RowL.In.under {B : Nat} {w w' : World} {r : RowL} (h : r.In (· < B) w) (hb : Below B w w') : r.In (· < B) w' := h.stay hb.size (fun k hk _ => hb.block k hk) (fun _ h _ => h)
def keptC (l : List Nat) : List (List Value) := l.map fun (k : Nat) => [.int .u64 (k : Int)]
/-- The document's past in block g: rows and versions in rows of the call's own from lo on, items in blocks below B. -/
structure PastR (w : World) (B lo g : Nat) (u k : Value) (L : List RowL) (last floor : Nat) (kept : List Nat) : Prop where
  blk : Blk w g 49 [u, .int .u64 (last : Int), .int .u64 (floor : Int), k]
  rows : RowC lo w 131 5 u (L.map RowL.cells)
  each : ∀ r ∈ L, r.In (· < B) w
  vers : RowC lo w 27 1 k (keptC kept)
  hlast : last < 18446744073709551616
  hfloor : floor < 18446744073709551616
  hkept : ∀ x ∈ kept, x < 18446744073709551616
  hL : L.length ≤ 1024
  hK : kept.length ≤ 100000
  glo : lo ≤ g
  hB : B ≤ lo
section
variable {w : World} {B lo g last floor : Nat} {u k : Value} {L : List RowL} {kept : List Nat}
def rowsV (L : List RowL) : List RowV := L.map RowL.toR
theorem rowsV_len (L : List RowL) : (rowsV L).length = L.length := by simp [rowsV]
theorem PastR.rowAt (h : PastR w B lo g u k L last floor kept) (i : Nat) (hi : i < L.length) : ∃ (r : RowL) (gu c : Nat), L[i]? = some r ∧ r ∈ L ∧ u = .slice (some ⟨gu, 0, none⟩) L.length c ∧ gu < w.heap.size ∧
    w.cell? ⟨gu, i * 5, none⟩ = some (.int .u64 (r.v : Int)) ∧ w.cell? ⟨gu, i * 5 + 1, none⟩ = some (.bool r.gone) ∧ w.cell? ⟨gu, i * 5 + 2, none⟩ = some (.int .u32 (r.id : Int)) ∧ w.rangeAt gu (i * 5) r.cells := by
  obtain ⟨r, hr⟩ : ∃ r, L[i]? = some r := ⟨_, List.getElem?_eq_getElem hi⟩
  obtain ⟨gu, c, e, _, hlt, hrg⟩ := h.rows.at i r.cells (by rw [List.getElem?_map, hr]; rfl)
  rw [List.length_map] at e
  exact ⟨r, gu, c, hr, List.mem_of_getElem? hr, e, hlt, hrg 0 _ rfl, hrg 1 _ rfl, hrg 2 _ rfl, hrg⟩
theorem PastR.u_form (h : PastR w B lo g u k L last floor kept) : ∃ a c, u = .slice a L.length c ∧ L.length ≤ c := by
  obtain ⟨a, c, e, h2⟩ := h.rows.form
  rw [List.length_map] at e h2
  exact ⟨a, c, e, h2⟩
theorem PastR.k_form (h : PastR w B lo g u k L last floor kept) : ∃ a c, k = .slice a kept.length c ∧ kept.length ≤ c := by
  obtain ⟨a, c, e, h2⟩ := h.vers.form
  rw [keptC, List.length_map] at e h2
  exact ⟨a, c, e, h2⟩
theorem PastR.verAt (h : PastR w B lo g u k L last floor kept) (i : Nat) (hi : i < kept.length) : ∃ (x gk c : Nat), kept[i]? = some x ∧ x < 18446744073709551616 ∧ k = .slice (some ⟨gk, 0, none⟩) kept.length c ∧ w.cell? ⟨gk, i, none⟩ = some (.int .u64 (x : Int)) := by
  obtain ⟨x, hx⟩ : ∃ x, kept[i]? = some x := ⟨_, List.getElem?_eq_getElem hi⟩
  obtain ⟨gk, c, e, _, _, hrg⟩ := h.vers.at i [.int .u64 (x : Int)] (by rw [keptC, List.getElem?_map, hx]; rfl)
  rw [keptC, List.length_map] at e
  have := hrg 0 _ rfl
  rw [Nat.mul_one] at this
  exact ⟨x, gk, c, hx, h.hkept x (List.mem_of_getElem? hx), e, this⟩
end

set_option maxRecDepth 100000 in
set_option maxHeartbeats 3200000 in
theorem rat_any (w : World) (B lo g : Nat) (u k : Value) (L : List RowL) (last floor : Nat) (kept : List Nat) (id v : Nat) (hv : v < 18446744073709551616) (h : PastR w B lo g u k L last floor kept) :
    Calls Tryz.prog 87 #[.pointer (some ⟨g, 0, none⟩), .int .u32 (id : Int), .int .u64 (v : Int)] w fun e w' => e = .returned (.int .i64 (atP (rowsV L) id v)) ∧ w' = w := by
  have HP := Lib.hid h
  obtain ⟨a, c, rfl, hnc⟩ := h.u_form
  obtain ⟨n, hn⟩ : ∃ n, L.length = n := ⟨_, rfl⟩
  have hL := h.hL
  have c0 := h.blk.cell 0
  have HN := Lib.hid hn
  have hv2 := Lib.hid hv
  rw [hn] at HP hnc hL c0
  simp only [List.getElem?_cons_zero] at c0
  clear h hn hv
  go_enter Tryz.func87, Tryz.ntmps87
  go_wp2_with (fail)
  go_loop [7, 8] (fun s7 s8 => ∃ (i : Nat) (p : Int), s7 = .int .i64 p ∧ s8 = .int .i64 i ∧ i ≤ n ∧ Hid (atP ((rowsV L).take i) id v = p)) (fun _ s8 => n - (intOf s8).toNat)
  case atStart => exact ⟨0, -1, rfl, rfl, by omega, rfl⟩
  case round =>
    obtain ⟨i, p, rfl, rfl, hi, HA⟩ := hrel
    by_cases hin : i < n
    · obtain ⟨r, gu, c', hr, hmem, e, _, k0, _, k2, _⟩ := HP.out.rowAt i (by rw [HN.out]; exact hin)
      simp only [Value.slice.injEq] at e
      obtain ⟨rfl, -, rfl⟩ := e
      have hrv : (rowsV L)[i]? = some r.toR := by rw [rowsV, List.getElem?_map, hr]; rfl
      have NX := Lib.hid (atP_next hrv id v)
      have hri := (HP.out.each r hmem).hid
      have HRV := Lib.hid (HP.out.each r hmem).hv
      clear hr hmem hrv
      by_cases h1 : r.id = id
      · have h1b : ((r.id : Int) == (id : Int)) = true := by simp [h1]
        by_cases h2 : r.v ≤ v
        · have h2b : decide ((r.v : Int) ≤ (v : Int)) = true := decide_eq_true (by omega)
          have N2 := Lib.hid (show atP ((rowsV L).take (i + 1)) id v = (i : Int) from by rw [NX.out, if_pos (by simp [RowV.hit, RowL.toR, RowL.item, h1, h2])])
          clear NX h1
          go_wp2
          go_round
          case rel => exact ⟨i + 1, i, rfl, by go_num, by omega, N2.out⟩
          case measure => simp [intOf]; omega
        · have h2b : decide ((r.v : Int) ≤ (v : Int)) = false := decide_eq_false (by omega)
          have N2 := Lib.hid (show atP ((rowsV L).take (i + 1)) id v = p from by rw [NX.out, if_neg (by simp [RowV.hit, RowL.toR, RowL.item, h1]; omega), HA.out])
          clear NX h1
          go_wp2
          go_round
          case rel => exact ⟨i + 1, p, rfl, by go_num, by omega, N2.out⟩
          case measure => simp [intOf]; omega
      · have h1b : ((r.id : Int) == (id : Int)) = false := by simp; omega
        have N2 := Lib.hid (show atP ((rowsV L).take (i + 1)) id v = p from by rw [NX.out, if_neg (by simp [RowV.hit, RowL.toR, RowL.item, h1]), HA.out])
        clear NX h1
        go_wp2
        go_round
        case rel => exact ⟨i + 1, p, rfl, by go_num, by omega, N2.out⟩
        case measure => simp [intOf]; omega
    · obtain rfl : i = n := by omega
      have E := Lib.hid (show atP (rowsV L) id v = p from by rw [← HA.out, List.take_of_length_le (by rw [rowsV_len, HN.out]; omega)])
      go_wp2
      go_ret
      exact ⟨by rw [E.out]; rfl, rfl⟩

def PastR.st (L : List RowL) (last floor : Nat) (kept : List Nat) : PastV := ⟨rowsV L, last, floor, kept⟩
theorem not_take {l : List Nat} {i x v : Nat} (h : v ∉ l.take i) (hx : l[i]? = some x) (hn : x ≠ v) : v ∉ l.take (i + 1) := by
  rw [List.take_add_one, hx]
  intro hm
  rcases List.mem_append.1 hm with hm | hm
  · exact h hm
  · simp at hm
    exact hn hm.symm
set_option maxRecDepth 100000 in
set_option maxHeartbeats 3200000 in
theorem rknown_any (w : World) (B lo g : Nat) (u k : Value) (L : List RowL) (last floor : Nat) (kept : List Nat) (v : Nat) (hv : v < 18446744073709551616) (h : PastR w B lo g u k L last floor kept) :
    Calls Tryz.prog 86 #[.pointer (some ⟨g, 0, none⟩), .int .u64 (v : Int)] w fun e w' => e = .returned (.bool ((PastR.st L last floor kept).known v)) ∧ w' = w := by
  have HP := Lib.hid h
  obtain ⟨a, c, rfl, hnc⟩ := h.k_form
  obtain ⟨n, hn⟩ : ∃ n, kept.length = n := ⟨_, rfl⟩
  have hL := h.hK
  have c3 := h.blk.cell 3
  have c2 := h.blk.cell 2
  have HN := Lib.hid hn
  have hv2 := Lib.hid hv
  have hf2 := Lib.hid h.hfloor
  rw [hn] at HP hnc hL c3
  simp only [List.getElem?_cons_succ, List.getElem?_cons_zero] at c3 c2
  clear h hn hv
  go_enter Tryz.func86, Tryz.ntmps86
  go_wp2_with (fail)
  go_loop [5] (fun s5 => ∃ i : Nat, s5 = .int .i64 i ∧ i ≤ n ∧ Hid (v ∉ kept.take i)) (fun s5 => n - (intOf s5).toNat)
  case atStart => exact ⟨0, rfl, by omega, by simp [Hid]⟩
  case round =>
    obtain ⟨i, rfl, hi, HA⟩ := hrel
    by_cases hin : i < n
    · obtain ⟨x, gk, c', hx, hx2, e, k0⟩ := HP.out.verAt i (by rw [HN.out]; exact hin)
      rw [HN.out] at e
      simp only [Value.slice.injEq] at e
      obtain ⟨rfl, -, rfl⟩ := e
      have HX := Lib.hid hx
      have HX2 := Lib.hid hx2
      clear hx hx2
      by_cases h1 : x = v
      · have h1b : ((x : Int) == (v : Int)) = true := by simp [h1]
        have K := Lib.hid (show (PastR.st L last floor kept).known v = true from by
          have : v ∈ kept := by rw [← h1]; exact List.mem_of_getElem? HX.out
          simp [PastV.known, PastR.st, this])
        clear h1
        go_wp2
        go_ret
        exact ⟨by rw [K.out]; rfl, rfl⟩
      · have h1b : ((x : Int) == (v : Int)) = false := by simp; omega
        have N2 := Lib.hid (not_take HA.out HX.out h1)
        clear h1
        go_wp2
        go_round
        case rel => exact ⟨i + 1, by go_num, by omega, N2.out⟩
        case measure => simp [intOf]; omega
    · have E := Lib.hid (show v ∉ kept from by
        have := HA.out
        rw [List.take_of_length_le (by rw [HN.out]; omega)] at this
        exact this)
      by_cases h2 : floor ≤ v
      · have K := Lib.hid (show (PastR.st L last floor kept).known v = true from by simp [PastV.known, PastR.st, h2])
        have h2b : decide ((floor : Int) ≤ (v : Int)) = true := decide_eq_true (by omega)
        go_wp2
        go_ret
        exact ⟨by rw [K.out]; simp, rfl⟩
      · have K := Lib.hid (show (PastR.st L last floor kept).known v = false from by simp [PastV.known, PastR.st, h2, E.out])
        have h2b : decide ((floor : Int) ≤ (v : Int)) = false := decide_eq_false (by omega)
        go_wp2
        go_ret
        exact ⟨by rw [K.out]; simp, rfl⟩
end Go.Proofs.YtdmnflncgmnghaaGreat
