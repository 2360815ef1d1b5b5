/-
  Lists of numbers, nearer, Choose; writes in a graph; New, Until, Link's refusals. (Ii, If, Iu, Iv, Il merged.)
-/
import Derived.Test.YtadkfedglkhgjaaGreatIM4
import Derived.Test.YtadkfedglkhgjaaGreatIM3
import Derived.Test.YtadkfedglkhgjaaGreatRg
namespace Go.Proofs.YtadkfedglkhgjaaGreat
open Go.RowKit

def natsI (l : List Nat) : List Int := l.map fun (j : Nat) => (j : Int)
theorem natsI_getD {l : List Nat} {k j : Nat} (h : l[k]? = some j) : (natsI l).getD k 0 = (j : Int) := by
  unfold natsI
  rw [List.getD_eq_getElem?_getD, List.getElem?_map, h]
  rfl
theorem natsI_len (l : List Nat) : (natsI l).length = l.length := by simp [natsI]
/-- A row of the call's own of places. -/
def IntsAt (lo : Nat) (w : World) (v : Value) (l : List Nat) : Prop := RowC lo w 3 1 v (l.map fun (j : Nat) => [.int .i64 (j : Int)])
theorem flat_ints (l : List Nat) : (l.map fun (j : Nat) => [Value.int .i64 (j : Int)]).flatten = intsC l := by
  induction l with
  | nil => rfl
  | cons j l ih => simp [ih]
theorem IntsAt.own {lo : Nat} {w : World} {v : Value} {l : List Nat} (h : IntsAt lo w v l) : w.ownsRow lo 3 1 v l.length (intsC l) := by
  have := h.2
  rw [flat_ints, List.length_map] at this
  exact this
theorem IntsAt.mk {lo : Nat} {w : World} {v : Value} {l : List Nat} (h : w.ownsRow lo 3 1 v l.length (intsC l)) : IntsAt lo w v l := by
  refine ⟨by simp, ?_⟩
  rw [flat_ints, List.length_map]
  exact h
theorem IntsAt.form {lo : Nat} {w : World} {v : Value} {l : List Nat} (h : IntsAt lo w v l) : ∃ a c, v = .slice a l.length c ∧ l.length ≤ c := by
  obtain ⟨a, c, e, h2⟩ := RowC.form h
  rw [List.length_map] at e h2
  exact ⟨a, c, e, h2⟩
theorem IntsAt.parts {lo : Nat} {w : World} {v : Value} {l : List Nat} (h : IntsAt lo w v l) : ∃ a n c, v = .slice a n c ∧ Hid (l.length = n) := by
  obtain ⟨a, c, e, _⟩ := h.form
  exact ⟨a, _, c, e, rfl⟩
theorem int_info11 : (Tryz.prog.info? 3).map (fun i => (i.zero, i.size, i.bytes)) = some (some (.int .i64 0), 1, 8) := by kernel_rfl
/-- Such a row reads as a list of whole numbers. -/
theorem IntsAt.reads {lo : Nat} {w : World} {a : Option Addr} {n c : Nat} {l : List Nat} (h : IntsAt lo w (.slice a n c) l) (hs : l.length ≤ 1000000) (hj : ∀ j ∈ l, j ≤ 1000000) : Reads .i64 w a n (natsI l) := by
  obtain ⟨a', c', e, _⟩ := h.form
  simp only [Value.slice.injEq] at e
  obtain ⟨rfl, rfl, rfl⟩ := e
  refine ⟨natsI_len l, by omega, by simp only [kbytes]; omega, fun x hx => ?_, ?_⟩
  · obtain ⟨j, hj2, rfl⟩ := List.mem_map.1 hx
    exact i64_lit (by have := hj j hj2; omega)
  · rcases own_cells1 (show w.ownsRow lo 3 1 _ (intsC l).length (intsC l) from by rw [List.length_map]; exact h.own) with ⟨h1, h2⟩ | ⟨g, c2, h1, _, _, h4, h5⟩
    · left
      have := congrArg List.length h2
      simpa using this
    · right
      simp only [Value.slice.injEq] at h1
      obtain ⟨rfl, -, -⟩ := h1
      refine ⟨g, 0, rfl, h4, fun i hi => ?_⟩
      rw [Nat.zero_add, h5 i (by simpa using hi), List.getElem?_map]
      obtain ⟨j, hj⟩ : ∃ j, l[i]? = some j := ⟨_, List.getElem?_eq_getElem hi⟩
      rw [hj, natsI_getD hj]
      rfl
/-- append(v, j). -/
theorem app_int {ops : Array Oper} {rest : List Oper} {o : Oper} {act : Act} {Q : Exit → Act → World → Prop} (w : World) (hg : o.guard = none) (s y : Operand)
    (hop : o.op = .call { callee := .builtin .append, args := #[s, y], argTypes := #[62, 62] }) (lo : Nat) (v : Value) (l : List Nat) (j : Nat) (hs : act.eval s = v) (hy : act.eval y = .slice (some ⟨w.heap.size, 0, none⟩) 1 1)
    (hown : IntsAt lo w v l) (hlo : lo ≤ w.heap.size) (hl : l.length ≤ 1000000)
    (K : ∀ v' w', IntsAt lo w' v' (l ++ [j]) → Kept (ownB v) w w' → Grows w (ownB v) (ownB v') → wpList Tryz.prog ops Q rest (act.put o.dst v') w') : wpList Tryz.prog ops Q (o :: rest) act (w.alloc (.cells #[.int .i64 (j : Int)] 3)) := by
  refine app_c (cs := [.int .i64 (j : Int)]) w hg s y 62 hop Tryz.underlying62 (.int .i64 0) 8 int_info11 rfl (by omega) hs hy hown rfl (by simp [Value.oneCell']) hlo (by rw [List.length_map]; omega) (by rw [List.length_map]; omega) ?_
  intro v' w' h1 h2 h3
  exact K v' w' (by unfold IntsAt; rw [List.map_append]; exact h1) h2 h3

theorem idx_any {P : Nat → Bool} {l : List Nat} {i j : Nat} (hj : l[i]? = some j) (h : P j = true) : l.any P = true := by
  rw [List.any_eq_true]
  exact ⟨j, List.mem_of_getElem? hj, h⟩
theorem idx_none {P : Nat → Bool} {l : List Nat} (h : ∀ (i j : Nat), l[i]? = some j → P j = false) : l.any P = false := by
  rw [List.any_eq_false]
  intro x hx
  obtain ⟨i, hi⟩ := List.getElem?_of_mem hx
  simp [h i x hi]
/-- What Index and IndexFunc tell. -/
def Found11 (b : Bool) (e : Ending) : Prop := ∃ r : Int, e = .returned (.int .i64 r) ∧ decide (0 ≤ r) = b

set_option maxRecDepth 100000 in
set_option maxHeartbeats 1600000 in
theorem index_any (w : World) (a : Option Addr) (n c : Nat) (l : List Nat) (h : Reads .i64 w a n (natsI l)) (x : Nat) :
    Calls Tryz.prog 143 #[.slice a n c, .int .i64 (x : Int)] w fun e w' => Found11 (decide (x ∈ l)) e ∧ w' = w := by
  have HC := Lib.hid h.cells
  have HL := Lib.hid (show l.length = n from by rw [← natsI_len]; exact h.len)
  have hsm := h.small
  clear h
  go_enter Tryz.func143, Tryz.ntmps143
  go_wp2
  go_loop [8] (fun s8 => ∃ i : Nat, s8 = .int .i64 i ∧ i ≤ n ∧ Hid (∀ k j, k < i → l[k]? = some j → j ≠ x)) (fun s8 => n - (intOf s8).toNat)
  case atStart => exact ⟨0, rfl, Nat.zero_le _, fun k j hk => by omega⟩
  case round =>
    obtain ⟨i, rfl, hi, HN⟩ := hrel
    by_cases hc : i < n
    · rcases HC.out with h0 | ⟨bb, off, rfl, hlt, hcl⟩
      · omega
      obtain ⟨y, hy⟩ : ∃ y, l[i]? = some y := ⟨_, List.getElem?_eq_getElem (by rw [HL.out]; exact hc)⟩
      have hcc := hcl i hc
      rw [natsI_getD hy] at hcc
      have HY := Lib.hid hy
      clear hy hcl
      by_cases hxy : x = y
      · subst hxy
        go_wp2
        go_ret
        exact ⟨⟨_, rfl, by rw [decide_eq_true (List.mem_of_getElem? HY.out)]; exact decide_eq_true (by omega)⟩, rfl⟩
      · have d0 : decide ((x : Int) = (y : Int)) = false := decide_eq_false (by omega)
        go_wp2
        go_round
        case rel => exact ⟨i + 1, by go_num, by omega, fun k j hk hj => by
          rcases Nat.lt_succ_iff_lt_or_eq.1 hk with h1 | h1
          · exact HN.out k j h1 hj
          · subst h1
            rw [HY.out] at hj
            cases hj
            omega⟩
        case measure => simp [intOf]; omega
    · obtain rfl : i = n := by omega
      go_wp2
      go_ret
      refine ⟨⟨_, rfl, ?_⟩, rfl⟩
      rw [decide_eq_false (show ¬ x ∈ l from fun hm => ?_)]
      · rfl
      · obtain ⟨k, hk⟩ := List.getElem?_of_mem hm
        exact HN.out k x (by have := (List.getElem?_eq_some_iff.1 hk).1; rw [HL.out] at this; exact this) hk rfl

set_option maxHeartbeats 800000 in
theorem contains_any (w : World) (a : Option Addr) (n c : Nat) (l : List Nat) (h : Reads .i64 w a n (natsI l)) (x : Nat) (z : Bool) (hz : decide (x ∈ l) = z) :
    Calls Tryz.prog 129 #[.slice a n c, .int .i64 (x : Int)] w fun e w' => e = .returned (.bool z) ∧ w' = w := by
  have CI := Lib.hid (index_any w a n c l h x)
  rw [hz] at CI
  clear h hz
  go_enter Tryz.func129, Tryz.ntmps129
  go_wp2_with (fail)
  refine CI.out.mono ?_
  rintro e w1 ⟨⟨r, rfl, hr⟩, h3⟩
  have h4 := h3.symm
  subst h4
  clear h3 CI
  cases z with
  | true =>
    have hr2 : (0 : Int) ≤ r := of_decide_eq_true hr
    go_wp2
    go_ret
    exact ⟨rfl, rfl⟩
  | false =>
    have hr2 := of_decide_eq_false hr
    go_wp2
    go_ret
    exact ⟨rfl, rfl⟩

theorem run_dist (x y : Value) (w : World) : (Instr.field 51 (.agg #[x, y]) 0).run Tryz.prog w = .ok x w := by
  simp [Instr.field, run_underlying Tryz.underlying51, part, asAgg, sizeOf, typeInfo, go_sem]
section
variable {okI : Nat → Prop} {w : World} {lo g m : Nat} {u : Value} {L : List NodeL}
set_option maxRecDepth 100000 in
set_option maxHeartbeats 1600000 in
/-- Is one of these less far from there? -/
theorem near1_any (h : GrM okI w lo g m u L) (hm : m < 256) (qa : Option Addr) (qn qc : Nat) (q : List Int) (hq : Reads .i32 w qa qn q) (Bf Bd : Nat) (d : Int)
    (hf : Blk w Bf 125 [.func (.func 132) #[.agg #[.pointer (some ⟨g, 0, none⟩), .slice qa qn qc]] #[]]) (hd : Blk w Bd 2 [.int .i64 d]) (i : Nat) (hi : i < L.length) (z : Bool) (hz : decide (((graphV m L).hit q i).1 < d) = z) :
    Calls Tryz.prog 140 #[.int .i64 (i : Int), .pointer (some ⟨Bf, 0, none⟩), .pointer (some ⟨Bd, 0, none⟩)] w fun e w' => e = .returned (.bool z) ∧ Below w.heap.size w w' := by
  obtain ⟨y, hy⟩ : ∃ y, ((graphV m L).hit q i).1 = y := ⟨_, rfl⟩
  rw [hy] at hz
  have CH := Lib.hid (fun (W : World) (hb : Below w.heap.size w W) => hit_any (h.on hb) hm qa qn qc q (hq.below (Nat.le_refl _) hb) i hi y hy)
  have HS := Lib.hid (fun (W : World) (hb : Below w.heap.size w W) => show W.cell? ⟨Bf, 0, none⟩ = some (.func (.func 132) #[.agg #[.pointer (some ⟨g, 0, none⟩), .slice qa qn qc]] #[]) ∧ W.cell? ⟨Bd, 0, none⟩ = some (.int .i64 d) ∧ Bf < W.heap.size ∧ Bd < W.heap.size ∧ Below w.heap.size w W from
    have hk := Kept.of_below (F := []) hb (Nat.le_refl _)
    have h1 := hk.blk hf (by simp)
    have h2 := hk.blk hd (by simp)
    ⟨h1.cell 0, h2.cell 0, h1.lt, h2.lt, hb⟩)
  obtain ⟨s1, s2, s3, s4, s5⟩ := HS.out w (Below.refl _ _)
  have hrf := fun (W : World) => run_dist (.int .i64 y) (.int .u32 (i : Int)) W
  clear h hm hq hf hd hi hy
  go_enter Tryz.func140, Tryz.ntmps140
  go_wp2
  go_region_held3 (fun W => W.cell? ⟨Bf, 0, none⟩ = some (.func (.func 132) #[.agg #[.pointer (some ⟨g, 0, none⟩), .slice qa qn qc]] #[]) ∧ W.cell? ⟨Bd, 0, none⟩ = some (.int .i64 d) ∧ Bf < W.heap.size ∧ Bd < W.heap.size ∧ Below w.heap.size w W)
    (first
      | (go_keep; done)
      | exact HS.out _ (Below.refl _ _)
      | exact HS.out _ (Below.refl _ _).drew
      | (go_split_ands; exact HS.out _ (below_on (by assumption) hbel)))
    (first
      | (go_at_call 132; go_split_ands; refine (CH.out _ (by assumption)).mono ?_; rintro e w' ⟨rfl, hbel⟩))
  rename_i hH
  have hB := hH.2.2.2.2
  clear s1 s2 s3 s4 s5 hH hbel HS
  cases z with
  | true =>
    have hz2 : y < d := of_decide_eq_true hz
    go_wp2
    go_ret
    exact ⟨rfl, hB⟩
  | false =>
    have hz2 := of_decide_eq_false hz
    go_wp2
    go_ret
    exact ⟨rfl, hB⟩

set_option maxRecDepth 100000 in
set_option maxHeartbeats 1600000 in
theorem indexNear_any (h : GrM okI w lo g m u L) (hm : m < 256) (qa : Option Addr) (qn qc : Nat) (q : List Int) (hq : Reads .i32 w qa qn q) (Bf Bd : Nat) (d : Int)
    (hf : Blk w Bf 125 [.func (.func 132) #[.agg #[.pointer (some ⟨g, 0, none⟩), .slice qa qn qc]] #[]]) (hd : Blk w Bd 2 [.int .i64 d]) (a : Option Addr) (n c : Nat) (l : List Nat) (hl : Reads .i64 w a n (natsI l)) (hn : n ≤ 1000000) (hlt : ∀ j ∈ l, j < L.length) :
    Calls Tryz.prog 146 #[.slice a n c, .func (.func 140) #[] #[.pointer (some ⟨Bf, 0, none⟩), .pointer (some ⟨Bd, 0, none⟩)]] w fun e w' => Found11 (l.any fun one => decide (((graphV m L).hit q one).1 < d)) e ∧ Below w.heap.size w w' := by
  obtain ⟨P, hP⟩ : ∃ P : Nat → Bool, P = fun one => decide (((graphV m L).hit q one).1 < d) := ⟨_, rfl⟩
  have C1 := Lib.hid (fun (W : World) (hb : Below w.heap.size w W) (i : Nat) (hi : i ∈ l) (z : Bool) (hz : P i = z) => near1_any (h.on hb) hm qa qn qc q (hq.below (Nat.le_refl _) hb) Bf Bd d ((Kept.of_below (F := []) hb (Nat.le_refl _)).blk hf (by simp)) ((Kept.of_below (F := []) hb (Nat.le_refl _)).blk hd (by simp)) i (hlt i hi) z (by rw [hP] at hz; exact hz))
  rw [← hP]
  have HC := Lib.hid hl.cells
  have HL := Lib.hid (show l.length = n from by rw [← natsI_len]; exact hl.len)
  clear h hm hq hf hd hlt hl hP
  go_enter Tryz.func146, Tryz.ntmps146
  go_wp2
  go_loopw [8] (fun s8 wr => ∃ i : Nat, s8 = .int .i64 i ∧ i ≤ n ∧ Hid (∀ k j, k < i → l[k]? = some j → P j = false) ∧ Hid (Below w.heap.size w wr)) (fun s8 _ => n - (intOf s8).toNat)
  case atStart => exact ⟨0, rfl, Nat.zero_le _, fun k j hk => by omega, Below.refl _ _⟩
  case round =>
    obtain ⟨i, rfl, hi, HN, HB⟩ := hrel
    by_cases hc : i < n
    · rcases HC.out with h0 | ⟨bb, off, rfl, hlt, hcl⟩
      · omega
      obtain ⟨y, hy⟩ : ∃ y, l[i]? = some y := ⟨_, List.getElem?_eq_getElem (by rw [HL.out]; exact hc)⟩
      have hcc := hcl i hc
      rw [natsI_getD hy] at hcc
      have r0 := (HB.out.cell (p := ⟨bb, off + i, none⟩) hlt).trans hcc
      have HY := Lib.hid hy
      clear hy hcl hcc
      cases hz : P y with
      | true =>
        have C2 := Lib.hid (C1.out wr HB.out y (List.mem_of_getElem? HY.out) true hz)
        have HZ := Lib.hid hz
        clear hz
        go_wp2_with (go_at_call 140; refine C2.out.mono ?_; rintro e w2 ⟨rfl, hb2⟩; have B2 := Lib.hid (HB.out.trans (hb2.mono HB.out.size)); clear hb2)
        go_ret
        exact ⟨⟨_, rfl, by rw [idx_any HY.out HZ.out]; exact decide_eq_true (by omega)⟩, B2.out⟩
      | false =>
        have C2 := Lib.hid (C1.out wr HB.out y (List.mem_of_getElem? HY.out) false hz)
        have HZ := Lib.hid hz
        clear hz
        go_wp2_with (go_at_call 140; refine C2.out.mono ?_; rintro e w2 ⟨rfl, hb2⟩; have B2 := Lib.hid (HB.out.trans (hb2.mono HB.out.size)); clear hb2)
        go_roundw
        case rel => exact ⟨i + 1, by go_num, by omega, fun k j hk hj => by
          rcases Nat.lt_succ_iff_lt_or_eq.1 hk with h1 | h1
          · exact HN.out k j h1 hj
          · subst h1
            rw [HY.out] at hj
            cases hj
            exact HZ.out, B2.out⟩
        case measure => simp [intOf]; omega
    · obtain rfl : i = n := by omega
      go_wp2
      go_ret
      refine ⟨⟨_, rfl, ?_⟩, HB.out⟩
      rw [idx_none fun k j hk => HN.out k j (by have := (List.getElem?_eq_some_iff.1 hk).1; rw [HL.out] at this; exact this) hk]
      rfl

set_option maxHeartbeats 1600000 in
theorem containsNear_any (h : GrM okI w lo g m u L) (hm : m < 256) (qa : Option Addr) (qn qc : Nat) (q : List Int) (hq : Reads .i32 w qa qn q) (Bf Bd : Nat) (d : Int)
    (hf : Blk w Bf 125 [.func (.func 132) #[.agg #[.pointer (some ⟨g, 0, none⟩), .slice qa qn qc]] #[]]) (hd : Blk w Bd 2 [.int .i64 d]) (a : Option Addr) (n c : Nat) (l : List Nat) (hl : Reads .i64 w a n (natsI l)) (hn : n ≤ 1000000) (hlt : ∀ j ∈ l, j < L.length) (z : Bool) (hz : (l.any fun one => decide (((graphV m L).hit q one).1 < d)) = z) :
    Calls Tryz.prog 139 #[.slice a n c, .func (.func 140) #[] #[.pointer (some ⟨Bf, 0, none⟩), .pointer (some ⟨Bd, 0, none⟩)]] w fun e w' => e = .returned (.bool z) ∧ Below w.heap.size w w' := by
  have CI := Lib.hid (indexNear_any h hm qa qn qc q hq Bf Bd d hf hd a n c l hl hn hlt)
  rw [hz] at CI
  clear h hm hq hf hd hlt hl hz
  go_enter Tryz.func139, Tryz.ntmps139
  go_wp2_with (fail)
  refine CI.out.mono ?_
  rintro e w1 ⟨⟨r, rfl, hr⟩, hb1⟩
  have B1 := Lib.hid hb1
  clear hb1 CI
  cases z with
  | true =>
    have hr2 : (0 : Int) ≤ r := of_decide_eq_true hr
    go_wp2
    go_ret
    exact ⟨rfl, B1.out⟩
  | false =>
    have hr2 := of_decide_eq_false hr
    go_wp2
    go_ret
    exact ⟨rfl, B1.out⟩

set_option maxRecDepth 100000 in
set_option maxHeartbeats 1600000 in
/-- nearerToOneOf(l, i, d). -/
theorem nearer_any (h : GrM okI w lo g m u L) (hm : m < 256) (a : Option Addr) (n c : Nat) (l : List Nat) (hl : Reads .i64 w a n (natsI l)) (hn : n ≤ 1000000) (hlt : ∀ j ∈ l, j < L.length) (i : Nat) (hi : i < L.length) (d : Int) (z : Bool) (hz : (graphV m L).nearer l i d = z) :
    Calls Tryz.prog 126 #[.pointer (some ⟨g, 0, none⟩), .slice a n c, .int .i64 (i : Int), .int .i64 d] w fun e w' => e = .returned (.bool z) ∧ Below w.heap.size w w' := by
  obtain ⟨x, gu, cu, hx, hmem, rfl, hgu, hrg⟩ := h.nodeAt i hi
  unfold GraphV.nearer at hz
  rw [graphV_vec hx] at hz
  have hrv := Rd.ints (h.item x hmem).hvec rfl
  obtain ⟨va, vn, vc, vec, ep⟩ : ∃ va vn vc vec, (x.it.pv = (va, vn, vc)) ∧ x.it.vec = vec := ⟨_, _, _, _, rfl, rfl⟩
  obtain ⟨ep, ev⟩ := ep
  have x1 : w.cell? ⟨gu, i * 6 + 1, none⟩ = some (.slice va vn vc) := by
    have := hrg 1 (.slice x.it.pv.1 x.it.pv.2.1 x.it.pv.2.2) rfl
    rw [ep] at this
    exact this
  rw [ep] at hrv
  rw [ev] at hrv hz
  have b1 : Below w.heap.size w (w.alloc (.cells #[.int .i64 d] 2)) := (Below.refl _ w).alloc (Nat.le_refl _) _
  obtain ⟨w1, hw1⟩ : ∃ w1, w.alloc (.cells #[.int .i64 d] 2) = w1 := ⟨_, rfl⟩
  have D1 : Blk w1 w.heap.size 2 [.int .i64 d] := by rw [← hw1]; exact Blk.new _ _ _
  rw [hw1] at b1
  have h1 := h.on b1
  have g1 : w1.cell? ⟨g, 1, none⟩ = some (.slice (some ⟨gu, 0, none⟩) L.length cu) := h1.blk.cell 1
  have x2 : w1.cell? ⟨gu, i * 6 + 1, none⟩ = some (.slice va vn vc) := by rw [World.cell?_of_block (w := w) (a := ⟨gu, i * 6 + 1, none⟩) (b1.block gu hgu)]; exact x1
  obtain ⟨N, hN⟩ : ∃ N, L.length = N := ⟨_, rfl⟩
  have CC := Lib.hid (fun (W : World) (hb : Below w1.heap.size w1 W) (hf : Blk W w1.heap.size 125 [.func (.func 132) #[.agg #[.pointer (some ⟨g, 0, none⟩), .slice va vn vc]] #[]]) =>
    containsNear_any (h1.on hb) hm va vn vc vec ((hrv.below (Nat.le_refl _) b1).below (Nat.le_refl _) hb) w1.heap.size w.heap.size d hf ((Kept.of_below (F := []) hb (Nat.le_refl _)).blk D1 (by simp)) a n c l ((hl.below (Nat.le_refl _) b1).below (Nat.le_refl _) hb) hn hlt z hz)
  rw [hN] at g1 hi
  have hs1 : w1.heap.size = w.heap.size + 1 := by rw [← hw1]; simp
  have HS1 := Lib.hid hs1
  have B1 := Lib.hid b1
  have HF := Lib.hid (Blk.new w1 125 #[.func (.func 132) #[.agg #[.pointer (some ⟨g, 0, none⟩), .slice va vn vc]] #[]])
  have HB2 := Lib.hid ((Below.refl w1.heap.size w1).alloc (Nat.le_refl _) (.cells #[.func (.func 132) #[.agg #[.pointer (some ⟨g, 0, none⟩), .slice va vn vc]] #[]] 125))
  clear h h1 hm hl hlt hx hmem hgu hrg hz hrv ep ev x1 D1 b1 hs1 hN
  go_enter Tryz.func126, Tryz.ntmps126
  go_upto_region 1 with fail
  try rw [hw1]
  clear hw1
  go_wp2_with (first
    | (go_at_call 112; refine (hitsFor_any w1 g va vn vc).mono ?_; rintro e w' ⟨rfl, h3⟩; have h4 := h3.symm; subst h4; clear h3)
    | (go_at_call 139; refine (CC.out _ HB2.out HF.out).mono ?_; rintro e w3 ⟨rfl, hb3⟩; have B3 := Lib.hid hb3; clear hb3))
  go_ret
  exact ⟨rfl, B1.out.trans ((HB2.out.trans (B3.out.mono HB2.out.size)).mono B1.out.size)⟩
end

/-- What a call that tells places leaves. -/
def PlacesPost (l : List Nat) (w : World) (e : Ending) (w' : World) : Prop := ∃ v, e = .returned v ∧ IntsAt w.heap.size w' v l ∧ Below w.heap.size w w'
theorem choose_zero (g : GraphV) (q l : List Int) : g.choose q l 0 = [] := by
  have := (g.choose_is q l 0).2.1
  exact List.eq_nil_of_length_eq_zero (by omega)
theorem choose_at {g : GraphV} {q l : List Int} {M k : Nat} (h : (g.chooseF M ((g.near q l).take k)).1.length = M) : g.choose q l M = (g.chooseF M ((g.near q l).take k)).1 := by
  have e := g.choose_full M ((g.near q l).take k) ((g.near q l).drop k) h
  rw [List.take_append_drop] at e
  unfold GraphV.choose
  rw [e, h]
  simp
theorem take_hit {l : List Hit} {k : Nat} (h : k < l.length) {x : Hit} (hx : l.getD k (0, 0) = x) : l.take (k + 1) = l.take k ++ [x] := by
  rw [List.take_succ_eq_append_getElem h, ← hx]
  simp [List.getD, h]

theorem ints_one (l : List Nat) : ∀ u ∈ intsC l, u.oneCell' = true := fun u hu => by
  obtain ⟨j, _, rfl⟩ := List.mem_map.1 hu
  rfl
theorem IntsAt.src {lo : Nat} {w : World} {a : Option Addr} {n c : Nat} {l : List Nat} (h : IntsAt lo w (.slice a n c) l) :
    (a = none → n = 0 ∧ c = 0) ∧ ∀ K, K ≤ l.length → K = 0 ∨ ∃ b off, a = some ⟨b, off, none⟩ ∧ ∀ i, i < K → w.cell? ⟨b, off + i, none⟩ = (intsC (l.take K))[i]? := by
  rcases own_cells1 (show w.ownsRow lo 3 1 _ (intsC l).length (intsC l) from by rw [List.length_map]; exact h.own) with ⟨h1, h2⟩ | ⟨g, c2, h1, _, _, h4, h5⟩
  · simp only [Value.slice.injEq] at h1
    refine ⟨fun _ => h1.2, fun K hK => .inl ?_⟩
    have := congrArg List.length h2
    simp at this
    rw [this] at hK
    simpa using hK
  · simp only [Value.slice.injEq] at h1
    obtain ⟨rfl, -, -⟩ := h1
    refine ⟨fun h => (by cases h), fun K hK => .inr ⟨g, 0, rfl, fun i hi => ?_⟩⟩
    rw [Nat.zero_add, h5 i (by simp; omega), List.getElem?_map, List.getElem?_map, List.getElem?_take_of_lt hi]
section
variable {okI : Nat → Prop} {w : World} {lo g m : Nat} {u : Value} {L : List NodeL}
set_option maxRecDepth 100000 in
set_option maxHeartbeats 3200000 in
theorem choose_any (h : GrM okI w lo g m u L) (hr : (graphV m L).Right) (hm : m < 256) (qa : Option Addr) (qn qc : Nat) (q : List Int) (hq : Reads .i32 w qa qn q) (la : Option Addr) (ln lc : Nat) (l : List Int) (hl : Reads .i64 w la ln l) (hln : ln ≤ 100000) (most : Int) (hmost : Hid (most ≤ 9223372036854775807)) :
    Calls Tryz.prog 101 #[.pointer (some ⟨g, 0, none⟩), .slice qa qn qc, .slice la ln lc, .int .i64 most] w (PlacesPost ((graphV m L).choose q l most.toNat) w) := by
  by_cases h1 : most < 1
  · have e0 : (graphV m L).choose q l most.toNat = [] := by
      rw [show most.toNat = 0 by omega]
      exact choose_zero _ _ _
    rw [e0]
    have d0 : decide (most < 1) = true := decide_eq_true h1
    clear h hr hm hq hl hmost e0
    go_enter Tryz.func101, Tryz.ntmps101
    go_wp2
    go_ret
    exact ⟨_, rfl, RowC.nil _ _ _ _, Below.refl _ _⟩
  obtain ⟨M, rfl⟩ : ∃ M : Nat, most = (M : Int) := ⟨most.toNat, by omega⟩
  have d0 : decide ((M : Int) < 1) = false := decide_eq_false h1
  have hM1 : 1 ≤ M := by omega
  rw [Int.toNat_natCast]
  have hfew := h.few
  obtain ⟨N, hN⟩ : ∃ N, L.length = N := ⟨_, rfl⟩
  rw [hN] at hfew
  obtain ⟨G, hG⟩ : ∃ G, graphV m L = G := ⟨_, rfl⟩
  have CN := Lib.hid (near_any h hr hm qa qn qc q hq la ln lc l hl hln)
  have CT := Lib.hid (fun (W : World) (hb : Below w.heap.size w W) (a : Option Addr) (n c : Nat) (t : List Nat) (ht : Reads .i64 W a n (natsI t)) (hn : n ≤ 1000000) (hlt : ∀ j ∈ t, j < L.length) (i : Nat) (hi : i < L.length) (d : Int) (z : Bool) (hz : (graphV m L).nearer t i d = z) => nearer_any (h.on hb) hm a n c t ht hn hlt i hi d z hz)
  have HLT := Lib.hid (fun (x : Hit) (hx : x ∈ (graphV m L).near q l) => show x.2.toNat < L.length ∧ x.2 = (x.2.toNat : Int) from by
    obtain ⟨j, rfl, h1, _⟩ := GraphV.near_mem hx
    have := GraphV.lv_lt h1
    rw [graphV_len] at this
    exact ⟨this, rfl⟩)
  have HLN := Lib.hid (show ((graphV m L).near q l).length ≤ 100000 from by
    have := (graphV m L).near_len q l
    have := hl.len
    omega)
  rw [hN] at CT HLT
  rw [hG] at CN CT HLT HLN ⊢
  obtain ⟨near, hnear⟩ : ∃ near, G.near q l = near := ⟨_, rfl⟩
  have HNEAR := Lib.hid hnear
  rw [hnear] at CN HLT HLN
  have HMOST := hmost
  clear h hr hm hq hl hN hG hnear hmost h1
  go_enter Tryz.func101, Tryz.ntmps101
  go_wp2_with (fail)
  refine CN.out.mono ?_
  rintro e w1 ⟨gn, nn, rfl, hon, hb1, hgn⟩
  obtain ⟨rest, hnn, hbk, -, -, -⟩ := hon.blk
  have HNN := Lib.hid hnn
  have HBK := Lib.hid (show ∀ (k : Nat), k < near.length → w1.cell? ⟨gn, k * 2, none⟩ = some (.int .i64 (near.getD k (0, 0)).1) ∧ w1.cell? ⟨gn, k * 2 + 1, none⟩ = some (.int .u32 (near.getD k (0, 0)).2) from fun k hk => by
    have := flat_len near
    rw [hbk.cell, hbk.cell, List.getElem?_append_left (by omega), List.getElem?_append_left (by omega)]
    exact ⟨flat_fst near k hk, flat_snd near k hk⟩)
  have hglt := hbk.lt
  have B1 := Lib.hid hb1
  have hnl : nn ≤ 100000 := by rw [hnn]; exact HLN.out
  clear hon hbk hb1 hgn hnn CN
  go_wp2_with (fail)
  go_loopw [9, 10, 22] (fun s9 s10 s22 wr => ∃ (k n9 c9 n10 c10 : Nat) (a9 a10 : Option Addr), k ≤ nn ∧ s22 = .int .i64 (k : Int) ∧ s9 = .slice a9 n9 c9 ∧ s10 = .slice a10 n10 c10 ∧ Hid (IntsAt w1.heap.size wr (.slice a9 n9 c9) (G.chooseF M (near.take k)).1) ∧
    Hid (IntsAt w1.heap.size wr (.slice a10 n10 c10) (G.chooseF M (near.take k)).2) ∧ Hid (Apart (ownB (.slice a9 n9 c9)) (ownB (.slice a10 n10 c10))) ∧ Hid (Below w1.heap.size w1 wr)) (fun _ _ s22 _ => nn - (intOf s22).toNat)
  case atStart => exact ⟨0, 0, 0, 0, 0, none, none, Nat.zero_le _, rfl, rfl, rfl, RowC.nil _ _ _ _, RowC.nil _ _ _ _, fun x hx => by simp [ownB, Value.ownBlock] at hx, Below.refl _ _⟩
  case round =>
    obtain ⟨k, n9, c9, n10, c10, a9, a10, hk, rfl, rfl, rfl, H9, H10, HA, HB⟩ := hrel
    have L9 := Lib.hid (show (G.chooseF M (near.take k)).1.length = n9 from by
      obtain ⟨a', c', e, _⟩ := H9.out.form
      simp only [Value.slice.injEq] at e
      exact e.2.1.symm)
    have L10 := Lib.hid (show (G.chooseF M (near.take k)).2.length = n10 from by
      obtain ⟨a', c', e, _⟩ := H10.out.form
      simp only [Value.slice.injEq] at e
      exact e.2.1.symm)
    have h9n : n9 + n10 ≤ k := by
      have := G.choose_len M (near.take k)
      rw [L9.out, L10.out] at this
      simp at this
      omega
    have h9m : n9 ≤ M := by
      rw [← L9.out]
      exact G.choose_most M _
    have hB := HB.out.size
    by_cases hc : k < nn
    · have hkl : k < near.length := by rw [← HNN.out]; exact hc
      obtain ⟨x, hx⟩ : ∃ x, near.getD k (0, 0) = x := ⟨_, rfl⟩
      have hcc := HBK.out k hkl
      rw [hx] at hcc
      have r0 := (HB.out.cell (p := ⟨gn, k * 2, none⟩) hglt).trans hcc.1
      have r1 := (HB.out.cell (p := ⟨gn, k * 2 + 1, none⟩) hglt).trans hcc.2
      have hmem : x ∈ near := by
        rw [← hx]
        simp [List.getD, hkl]
      obtain ⟨i, hi⟩ : ∃ i, x.2.toNat = i := ⟨_, rfl⟩
      have hlt2 := HLT.out x hmem
      rw [hi] at hlt2
      obtain ⟨hiN, hx2⟩ := hlt2
      have HX := Lib.hid (take_hit hkl hx)
      obtain ⟨d, id⟩ := x
      obtain rfl : id = (i : Int) := hx2
      clear hcc hmem hx hi
      by_cases hfull : n9 = M
      · subst hfull
        have HF := Lib.hid (show G.choose q l n9 = (G.chooseF n9 (near.take k)).1 from by
          rw [← HNEAR.out] at L9 ⊢
          exact choose_at L9.out)
        go_wp2
        go_ret
        rw [HF.out]
        refine ⟨_, rfl, ((H9.out.on ((Below.refl _ _).alloc (Nat.le_refl _) _)).mono B1.out.size), (B1.out.trans (HB.out.mono B1.out.size)).alloc (by have := B1.out.size; omega) _⟩
      · have dn : decide ((n9 : Int) = (M : Int)) = false := decide_eq_false (by omega)
        obtain ⟨wa, hwa⟩ : ∃ wa, wr.alloc (.cells #[.int .i64 d, .int .u32 (i : Int)] 51) = wa := ⟨_, rfl⟩
        have ba : Below wr.heap.size wr wa := by rw [← hwa]; exact (Below.refl _ _).alloc (Nat.le_refl _) _
        have BA := Lib.hid ba
        have hblk : Blk wa wr.heap.size 51 [.int .i64 d, .int .u32 (i : Int)] := by rw [← hwa]; exact Blk.new _ _ _
        have x0 : wa.cell? ⟨wr.heap.size, 0, none⟩ = some (.int .i64 d) := hblk.cell 0
        have x1 : wa.cell? ⟨wr.heap.size, 1, none⟩ = some (.int .u32 (i : Int)) := hblk.cell 1
        have hBW := Lib.hid ((B1.out.trans (HB.out.mono B1.out.size)).trans (ba.mono (Nat.le_trans B1.out.size hB)))
        have hsub : ∀ j ∈ (G.chooseF M (near.take k)).1, j < N := fun j hj => by
          have h2 := G.choose_sub M (near.take k) j (.inl hj)
          obtain ⟨y, hy, rfl⟩ := List.mem_map.1 h2
          exact (HLT.out y (List.mem_of_mem_take hy)).1
        have R9 := Lib.hid (IntsAt.reads (show IntsAt w1.heap.size wa (.slice a9 n9 c9) (G.chooseF M (near.take k)).1 from RowC.on H9.out ba) (by rw [L9.out]; omega) (fun j hj => by have := hsub j hj; omega))
        have hi6 : i ≤ 1000000 := by omega
        cases hz : G.nearer (G.chooseF M (near.take k)).1 i d with
        | true =>
          have HN := Lib.hid (show G.chooseF M (near.take (k + 1)) = ((G.chooseF M (near.take k)).1, (G.chooseF M (near.take k)).2 ++ [i]) from by
            rw [HX.out, GraphV.chooseF_snoc, GraphV.takeS, if_neg (by rw [L9.out]; exact hfull), if_pos (by simpa using hz)]
            simp)
          have C1 := Lib.hid (CT.out wa hBW.out a9 n9 c9 _ R9.out (by omega) hsub i hiN d true hz)
          clear hz hsub hblk ba
          go_wp2_with (first
            | (rw [hwa])
            | (go_at_call 126; refine C1.out.mono ?_; rintro e w3 ⟨rfl, hb3⟩; have B3 := Lib.hid (BA.out.trans (hb3.mono BA.out.size)); clear hb3)
            | (at_builtin; go_must (refine app_int w3 rfl _ _ rfl w1.heap.size (.slice a10 n10 c10) _ i rfl rfl (H10.out.on B3.out) (Nat.le_trans hB B3.out.size) (by rw [L10.out]; omega) ?_); intro v4 w4 h4 h5 h6; obtain ⟨a4, n4, c4, rfl, -⟩ := h4.parts; have H4 := Lib.hid h4; have K4 := Lib.hid h5; have G4 := Lib.hid h6; clear h4 h5 h6))
          go_roundw
          case rel =>
            have hb4 : Below w1.heap.size wr w4 := (B3.out.mono hB).trans (K4.out.below (fun x hx => (RowC.lt H10.out x (mem_ownB.1 hx)).1) (Nat.le_trans hB B3.out.size))
            refine ⟨k + 1, n9, c9, n4, c4, a9, a4, by omega, by go_num, rfl, rfl, ?_, ?_, ?_, HB.out.trans hb4⟩
            · rw [HN.out]
              exact (H9.out.on B3.out).kept K4.out fun x hx hh => HA.out x (mem_ownB.2 hx) hh
            · rw [HN.out]
              exact H4.out
            · exact (HA.out.symm.grows G4.out fun x hx => Nat.lt_of_lt_of_le (RowC.lt H9.out x (mem_ownB.1 hx)).2 B3.out.size).symm
          case measure => simp [intOf]; omega
        | false =>
          have HN := Lib.hid (show G.chooseF M (near.take (k + 1)) = ((G.chooseF M (near.take k)).1 ++ [i], (G.chooseF M (near.take k)).2) from by
            rw [HX.out, GraphV.chooseF_snoc, GraphV.takeS, if_neg (by rw [L9.out]; exact hfull), if_neg (by simpa using hz)]
            simp)
          have C1 := Lib.hid (CT.out wa hBW.out a9 n9 c9 _ R9.out (by omega) hsub i hiN d false hz)
          clear hz hsub hblk ba
          go_wp2_with (first
            | (rw [hwa])
            | (go_at_call 126; refine C1.out.mono ?_; rintro e w3 ⟨rfl, hb3⟩; have B3 := Lib.hid (BA.out.trans (hb3.mono BA.out.size)); clear hb3)
            | (at_builtin; go_must (refine app_int w3 rfl _ _ rfl w1.heap.size (.slice a9 n9 c9) _ i rfl rfl (H9.out.on B3.out) (Nat.le_trans hB B3.out.size) (by rw [L9.out]; omega) ?_); intro v4 w4 h4 h5 h6; obtain ⟨a4, n4, c4, rfl, -⟩ := h4.parts; have H4 := Lib.hid h4; have K4 := Lib.hid h5; have G4 := Lib.hid h6; clear h4 h5 h6))
          go_roundw
          case rel =>
            have hb4 : Below w1.heap.size wr w4 := (B3.out.mono hB).trans (K4.out.below (fun x hx => (RowC.lt H9.out x (mem_ownB.1 hx)).1) (Nat.le_trans hB B3.out.size))
            refine ⟨k + 1, n4, c4, n10, c10, a4, a10, by omega, by go_num, rfl, rfl, ?_, ?_, ?_, HB.out.trans hb4⟩
            · rw [HN.out]
              exact H4.out
            · rw [HN.out]
              exact (H10.out.on B3.out).kept K4.out fun x hx hh => HA.out x hh (mem_ownB.2 hx)
            · exact HA.out.grows G4.out fun x hx => Nat.lt_of_lt_of_le (RowC.lt H10.out x (mem_ownB.1 hx)).2 B3.out.size
          case measure => simp [intOf]; omega
    · obtain rfl : k = nn := by omega
      have e0 : near.take k = near := List.take_of_length_le (by rw [HNN.out]; exact Nat.le_refl _)
      rw [e0] at H9 H10 L9 L10
      obtain ⟨R, hR⟩ : ∃ R, M - n9 = R := ⟨_, rfl⟩
      have hwr : IntKind.i64.wrap ((M : Int) - (n9 : Int)) = (R : Int) := by
        have := HMOST.out
        rw [IntKind.wrap_i64]
        omega
      have hc10 : n10 ≤ c10 := by
        obtain ⟨a', c', e, h2⟩ := H10.out.form
        simp only [Value.slice.injEq] at e
        obtain ⟨-, e2, e3⟩ := e
        omega
      have HFIN := Lib.hid (show ∀ K, (G.chooseF M near).2.take K = (G.chooseF M near).2.take R → G.choose q l M = (G.chooseF M near).1 ++ (G.chooseF M near).2.take K from fun K hK => by
        rw [GraphV.choose, HNEAR.out, hK, L9.out, hR])
      have HRK := Lib.hid (show n10 < R → (G.chooseF M near).2.take n10 = (G.chooseF M near).2.take R from fun hh => by
        rw [List.take_of_length_le (by rw [L10.out]; exact Nat.le_refl _), List.take_of_length_le (by rw [L10.out]; omega)])
      have fin : ∀ (K : Nat) (v' : Value) (w' : World), (G.chooseF M near).2.take K = (G.chooseF M near).2.take R → w'.ownsRow w1.heap.size 3 1 v' (intsC (G.chooseF M near).1 ++ intsC ((G.chooseF M near).2.take K)).length (intsC (G.chooseF M near).1 ++ intsC ((G.chooseF M near).2.take K)) → wr.grownBy w' (Value.slice a9 n9 c9).ownBlock → PlacesPost (G.choose q l M) w (.returned v') w' := fun K v' w' hK ho hg => by
        refine ⟨v', rfl, ?_, ?_⟩
        · rw [HFIN.out K hK]
          refine RowC.mono (lo := w1.heap.size) (IntsAt.mk ?_) B1.out.size
          rw [show intsC ((G.chooseF M near).1 ++ (G.chooseF M near).2.take K) = intsC (G.chooseF M near).1 ++ intsC ((G.chooseF M near).2.take K) from List.map_append ..]
          rw [show ((G.chooseF M near).1 ++ (G.chooseF M near).2.take K).length = (intsC (G.chooseF M near).1 ++ intsC ((G.chooseF M near).2.take K)).length from by simp]
          exact ho
        · refine (B1.out.trans (HB.out.mono B1.out.size)).trans (((Kept.refl (ownB (Value.slice a9 n9 c9)) wr).grown hg fun x hx => .inl (mem_ownB.2 hx)).below (fun x hx => ?_) (Nat.le_trans B1.out.size hB))
          exact Nat.le_trans B1.out.size (RowC.lt H9.out x (mem_ownB.1 hx)).1
      have FIN := Lib.hid fin
      have S10 := Lib.hid (H10.out.src)
      have O9 := Lib.hid (show wr.ownsRow w1.heap.size 3 1 (.slice a9 n9 c9) (intsC (G.chooseF M near).1).length (intsC (G.chooseF M near).1) from by rw [List.length_map]; exact H9.out.own)
      have hl9 : (intsC (G.chooseF M near).1).length = n9 := by rw [List.length_map]; exact L9.out
      have HL9 := Lib.hid hl9
      have H10L := Lib.hid (show (G.chooseF M near).2.length = n10 from L10.out)
      clear fin e0 hl9 hR
      by_cases hRn : R ≤ n10
      · have dmin : (min (R : Int) (n10 : Int)) = (R : Int) := by omega
        go_wp2_with (first
          | (at_builtin; go_must (refine app_one wr rfl _ _ 62 3 rfl Tryz.underlying62 (.int .i64 0) 8 int_info11 rfl w1.heap.size (.slice a9 n9 c9) _ rfl O9.out a10 R c10 (intsC ((G.chooseF M near).2.take R)) rfl (by have := H10L.out; simp; omega) (fun ha => by have := S10.out.1 ha; omega) (S10.out.2 R (by rw [H10L.out]; exact hRn)) (ints_one _) (by rw [HL9.out]; omega) (by rw [HL9.out]; omega) hB ?_); intro v4 w4 h4 h5))
        go_ret
        exact FIN.out R _ _ rfl h4 h5
      · have dmin : (min (R : Int) (n10 : Int)) = (n10 : Int) := by omega
        go_wp2_with (first
          | (at_builtin; go_must (refine app_one wr rfl _ _ 62 3 rfl Tryz.underlying62 (.int .i64 0) 8 int_info11 rfl w1.heap.size (.slice a9 n9 c9) _ rfl O9.out a10 n10 c10 (intsC ((G.chooseF M near).2.take n10)) rfl (by have := H10L.out; simp; omega) (fun ha => by have := S10.out.1 ha; omega) (S10.out.2 n10 (by rw [H10L.out]; exact Nat.le_refl _)) (ints_one _) (by rw [HL9.out]; omega) (by rw [HL9.out]; omega) hB ?_); intro v4 w4 h4 h5))
        go_ret
        exact FIN.out n10 _ _ (HRK.out (by omega)) h4 h5
end

theorem own_set {lo gl n c k : Nat} {w : World} {t : TypeId} {xs : List Value} (h : w.ownsRow lo t 1 (.slice (some ⟨gl, 0, none⟩) n c) n xs) (hk : k < n) (v : Value) : (w.setCell ⟨gl, k, none⟩ v).ownsRow lo t 1 (.slice (some ⟨gl, 0, none⟩) n c) n (xs.set k v) := by
  obtain ⟨h1, h2⟩ := h
  refine ⟨by rw [List.length_set]; exact h1, ?_⟩
  rcases h2 with ⟨h2, _⟩ | ⟨g, cap, cur, h2, hg, hh, hn, hcap, hsz, htake⟩
  · cases h2
  · cases h2
    refine .inr ⟨gl, c, (cur.toList.set k v).toArray, rfl, hg, Blk.set (show Blk w gl t cur.toList from by unfold Blk; simpa using hh) k v, hn, hcap, by simpa using hsz, ?_⟩
    show (cur.toList.set k v).take (n * 1) = xs.set k v
    rw [← htake]
    apply List.ext_getElem?
    intro j
    rw [List.getElem?_take, List.getElem?_set, List.getElem?_set, List.getElem?_take, List.length_take]
    by_cases hj : j < n * 1
    · simp only [hj, if_true]
      by_cases hkj : k = j
      · subst hkj
        have : (k < min (n * 1) cur.toList.length) ↔ k < cur.toList.length := by omega
        simp only [this, if_true]
      · simp only [hkj, if_false]
    · simp only [hj, if_false]
      by_cases hkj : k = j
      · omega
      · simp only [hkj, if_false]
theorem set_self {α β : Type} {L : List α} {i : Nat} {x y : α} {f : α → β} (hx : L[i]? = some x) (e : f y = f x) : (L.set i y).map f = L.map f := by
  apply List.ext_getElem?
  intro j
  rw [List.getElem?_map, List.getElem?_map, List.getElem?_set]
  split
  · next h =>
    subst h
    have h2 := (List.getElem?_eq_some_iff.1 hx).1
    rw [if_pos h2, hx]
    simp [e]
  · rfl
theorem set_get {α : Type} {L : List α} {i j : Nat} {x y z : α} (hx : L[i]? = some x) (h : (L.set i y)[j]? = some z) : (j = i ∧ z = y) ∨ (j ≠ i ∧ L[j]? = some z) := by
  rw [List.getElem?_set] at h
  have := (List.getElem?_eq_some_iff.1 hx).1
  by_cases hij : i = j
  · subst hij
    simp [this] at h
    exact .inl ⟨rfl, h.symm⟩
  · rw [if_neg hij] at h
    exact .inr ⟨fun e => hij e.symm, h⟩
theorem set_mem {α : Type} {L : List α} {i : Nat} {x y z : α} (hx : L[i]? = some x) (h : z ∈ L.set i y) : z = y ∨ ∃ j, j ≠ i ∧ L[j]? = some z := by
  obtain ⟨j, hj⟩ := List.getElem?_of_mem h
  rcases set_get hx hj with ⟨_, e⟩ | ⟨e, h2⟩
  · exact .inl e
  · exact .inr ⟨j, e, h2⟩

section
variable {T : TypeId} {m0 : Value × List Value} {okI : Nat → Prop} {w wz : World} {lo g : Nat} {u : Value} {L : List NodeL}
theorem GrS.fp_pl (_ : GrS T m0 okI w lo g u L) {x : NodeL} (hx : x ∈ L) {b : Nat} (hb : x.pl.ownBlock = some b) : b ∈ fpG g u L := mem_fpG.2 (.inr (.inr ⟨x, hx, .inl hb⟩))
theorem GrS.fp_ls (_ : GrS T m0 okI w lo g u L) {x : NodeL} (hx : x ∈ L) {k : Nat} {v : Value} (hv : x.ls[k]? = some v) {b : Nat} (hb : v.ownBlock = some b) : b ∈ fpG g u L := mem_fpG.2 (.inr (.inr ⟨x, hx, .inr ⟨v, List.mem_of_getElem? hv, hb⟩⟩))
theorem GrS.listOwn (h : GrS T m0 okI w lo g u L) {x : NodeL} (hx : x ∈ L) {k : Nat} {v : Value} (hv : x.ls[k]? = some v) : w.ownsRow lo 3 1 v (x.links.getD k []).length (intsC (x.links.getD k [])) := by
  have hl : k < x.links.length := by
    rw [← h.lens x hx]
    exact (List.getElem?_eq_some_iff.1 hv).1
  refine h.list x hx k v _ hv ?_
  rw [List.getElem?_eq_getElem hl, List.getD_eq_getElem?_getD, List.getElem?_eq_getElem hl]
  rfl
/-- What lies elsewhere than a list of links: a list's block is no other one's, and none of other types. -/
theorem GrS.list_far (h : GrS T m0 okI w lo g u L) (hT : T ≠ 3) {x : NodeL} (hx : x ∈ L) {k : Nat} {v : Value} (hv : x.ls[k]? = some v) :
    ∀ b, v.ownBlock = some b → b ≠ g ∧ u.ownBlock ≠ some b ∧ (∀ y ∈ L, y.pl.ownBlock ≠ some b) ∧ ¬ okI b := fun b hb =>
  have ho := h.listOwn hx hv
  ⟨fun e => row_not_blk ho h.blk (fun e => hT e.symm) (by rw [hb, e]), fun e => rows_apart ho h.rows.2 (by decide) b hb e, fun y hy e => rows_apart ho (h.lrow y hy) (by decide) b hb e, fun hok => (h.okne b hok).2 (h.fp_ls hx hv hb)⟩
theorem GrS.pl_far (h : GrS T m0 okI w lo g u L) (hT : T ≠ 62) {x : NodeL} (hx : x ∈ L) :
    ∀ b, x.pl.ownBlock = some b → b ≠ g ∧ u.ownBlock ≠ some b ∧ (∀ y ∈ L, ∀ (k : Nat) (v : Value), y.ls[k]? = some v → v.ownBlock ≠ some b) ∧ ¬ okI b := fun b hb =>
  have ho := h.lrow x hx
  ⟨fun e => row_not_blk ho h.blk (fun e => hT e.symm) (by rw [hb, e]), fun e => rows_apart ho h.rows.2 (by decide) b hb e, fun y hy k v hv e => rows_apart ho (h.listOwn hy hv) (by decide) b hb e, fun hok => (h.okne b hok).2 (h.fp_pl hx hb)⟩
/-- While a list grows in place all but the lists is there. -/
theorem GrS.amid (h : GrS T m0 okI w lo g u L) (hT : T ≠ 3) {x : NodeL} (hx : x ∈ L) {k : Nat} {v : Value} (hv : x.ls[k]? = some v) (hK : Kept (ownB v) w wz) : GrN T m0 okI wz lo g u L :=
  h.toGrN.kept hK fun b hb => have h1 := h.list_far hT hx hv b (mem_ownB.1 hb); ⟨h1.1, h1.2.1, h1.2.2.2⟩
def NodeL.setL (x : NodeL) (k : Nat) (v : Value) (l : List Nat) : NodeL := { x with ls := x.ls.set k v, links := x.links.set k l }
theorem graphV_setL {m : Nat} {i k : Nat} {x : NodeL} (hx : L[i]? = some x) (v : Value) (l : List Nat) : graphV m (L.set i (x.setL k v l)) = (graphV m L).setLink i k l := by
  unfold graphV GraphV.setLink
  congr 1
  apply List.ext_getElem?
  intro j
  have hil := (List.getElem?_eq_some_iff.1 hx).1
  rw [List.getElem?_map, List.getElem?_set, List.getElem?_modify, List.getElem?_map]
  by_cases hij : i = j
  · subst hij
    simp [hil]
    rw [List.getElem?_eq_getElem hil] at hx
    rw [Option.some.inj hx]
    rfl
  · simp [hij]
/-- A list of links is another one now: it lies in its row. -/
theorem GrS.setList (h : GrS T m0 okI w lo g u L) (hT : T ≠ 3) (hT2 : T ≠ 62) {i k : Nat} {x : NodeL} (hx : L[i]? = some x) (hk : k < x.links.length) {v : Value} (hv : x.ls[k]? = some v) {gl n c : Nat} (hpl : x.pl = .slice (some ⟨gl, 0, none⟩) n c) (hn : n = x.links.length)
    (hK : Kept (ownB v) w wz) {v' : Value} {nl : List Nat} (ho : wz.ownsRow lo 3 1 v' nl.length (intsC nl)) (hG : Grows w (ownB v) (ownB v')) :
    GrS T m0 okI (wz.setCell ⟨gl, k, none⟩ v') lo g u (L.set i (x.setL k v' nl)) ∧ Kept (fpG g u L) w (wz.setCell ⟨gl, k, none⟩ v') ∧ Grows w (fpG g u L) (fpG g u (L.set i (x.setL k v' nl))) := by
  have hm := List.mem_of_getElem? hx
  have hglb : x.pl.ownBlock = some gl := by rw [hpl]; rfl
  have hglt : gl < w.heap.size := (World.ownsRow.lt (h.lrow x hm) gl hglb).2
  have hfg := h.pl_far hT2 hm gl hglb
  have hfv := h.list_far hT hm hv
  have hglv : gl ∉ ownB v := fun hh => hfg.2.2.1 x hm k v hv (mem_ownB.1 hh)
  have k2 : Kept [gl] wz (wz.setCell ⟨gl, k, none⟩ v') := (Kept.refl [gl] wz).setCell _ _ (.inl (by simp))
  have kk : Kept (gl :: ownB v) w (wz.setCell ⟨gl, k, none⟩ v') := (hK.mono (G := gl :: ownB v) fun b hb => List.mem_cons_of_mem _ hb).trans (k2.mono (G := gl :: ownB v) fun b hb => by simp at hb; simp [hb]) (Grows.refl _ _)
  have hlv : ∀ b ∈ gl :: ownB v, b ∈ fpG g u L := fun b hb => by
    rcases List.mem_cons.1 hb with rfl | hb
    · exact h.fp_pl hm hglb
    · exact h.fp_ls hm hv (mem_ownB.1 hb)
  have hkN := h.toGrN.kept kk fun b hb => by
    rcases List.mem_cons.1 hb with rfl | hb
    · exact ⟨hfg.1, hfg.2.1, hfg.2.2.2⟩
    · have h1 := hfv b (mem_ownB.1 hb)
      exact ⟨h1.1, h1.2.1, h1.2.2.2⟩
  have hgr : Grows w (fpG g u L) (fpG g u (L.set i (x.setL k v' nl))) := fun b hb => by
    rcases mem_fpG.1 hb with rfl | hb1 | ⟨y, hy, hq⟩
    · exact .inl (mem_fpG.2 (.inl rfl))
    · exact .inl (mem_fpG.2 (.inr (.inl hb1)))
    · rcases set_mem hx hy with rfl | ⟨j, _, hj⟩
      · rcases hq with hq | ⟨v2, hv2, hq⟩
        · exact .inl (h.fp_pl hm hq)
        · rcases List.mem_or_eq_of_mem_set hv2 with hv2 | rfl
          · obtain ⟨k2, hk2⟩ := List.getElem?_of_mem hv2
            exact .inl (h.fp_ls hm hk2 hq)
          · rcases hG b (mem_ownB.2 hq) with h1 | h1
            · exact .inl (h.fp_ls hm hv (mem_ownB.1 h1))
            · exact .inr h1
      · have hyL := List.mem_of_getElem? hj
        exact .inl (mem_fpG.2 (.inr (.inr ⟨y, hyL, hq⟩)))
  refine ⟨?_, kk.mono hlv, hgr⟩
  refine { blk := hkN.blk, rows := ?_, item := ?_, glo := h.glo, few := by rw [List.length_set]; exact h.few, lrow := ?_, lens := ?_, list := ?_, plne := ?_, lsne := ?_, okne := ?_, nums := ?_ }
  · rw [set_self hx (y := x.setL k v' nl) rfl]
    exact hkN.rows
  · intro y hy
    rcases set_mem hx hy with rfl | ⟨j, _, hj⟩
    · exact hkN.item x hm
    · exact hkN.item y (List.mem_of_getElem? hj)
  · intro y hy
    rcases set_mem hx hy with rfl | ⟨j, hji, hj⟩
    · have h1 : wz.ownsRow lo 62 1 x.pl x.ls.length x.ls := hK.own (h.lrow x hm) fun b hb hh => by
        rw [hglb] at hb
        cases hb
        exact hglv hh
      rw [hpl, h.lens x hm, ← hn] at h1
      have h2 := own_set h1 (by omega) v' (k := k)
      show World.ownsRow _ lo 62 1 x.pl (x.ls.set k v').length (x.ls.set k v')
      rw [List.length_set, h.lens x hm, hpl, ← hn]
      exact h2
    · refine kk.own (h.lrow y (List.mem_of_getElem? hj)) fun b hb hh => ?_
      rcases List.mem_cons.1 hh with rfl | hh
      · exact hji (h.plne j i y x b hj hx hb hglb)
      · exact (hfv b (mem_ownB.1 hh)).2.2.1 y (List.mem_of_getElem? hj) hb
  · intro y hy
    rcases set_mem hx hy with rfl | ⟨j, hji, hj⟩
    · show (x.ls.set k v').length = (x.links.set k nl).length
      rw [List.length_set, List.length_set]
      exact h.lens x hm
    · exact h.lens y (List.mem_of_getElem? hj)
  · intro y hy k' v2 l2 hv2 hl2
    rcases set_mem hx hy with rfl | ⟨j, hji, hj⟩
    · rcases set_get (y := v') hv hv2 with ⟨rfl, rfl⟩ | ⟨hne, hv3⟩
      · have hl3 : x.links[k']? = some (x.links[k']'hk) := List.getElem?_eq_getElem hk
        rcases set_get (y := nl) hl3 hl2 with ⟨_, rfl⟩ | ⟨hne, _⟩
        · refine k2.own ho fun b hb hh => ?_
          simp at hh
          subst hh
          have h3 := (World.ownsRow.lt ho b hb)
          rcases hG b (mem_ownB.2 hb) with h4 | h4
          · exact hglv h4
          · omega
        · exact absurd rfl hne
      · have hl3 : x.links[k]? = some (x.links[k]'hk) := List.getElem?_eq_getElem hk
        rcases set_get (y := nl) hl3 hl2 with ⟨e, _⟩ | ⟨_, hl4⟩
        · exact absurd e hne
        · refine kk.own (h.list x hm k' v2 l2 hv3 hl4) fun b hb hh => ?_
          rcases List.mem_cons.1 hh with rfl | hh
          · exact hfg.2.2.1 x hm k' v2 hv3 hb
          · exact hne (h.lsne i i x x k' k v2 v b hx hx hv3 hv hb (mem_ownB.1 hh)).2
    · have hyL := List.mem_of_getElem? hj
      refine kk.own (h.list y hyL k' v2 l2 hv2 hl2) fun b hb hh => ?_
      rcases List.mem_cons.1 hh with rfl | hh
      · exact hfg.2.2.1 y hyL k' v2 hv2 hb
      · exact hji (h.lsne j i y x k' k v2 v b hj hx hv2 hv hb (mem_ownB.1 hh)).1
  · intro a b y z q hy hz hyb hzb
    have e : ∀ (j : Nat) (y : NodeL), (L.set i (x.setL k v' nl))[j]? = some y → ∃ y', L[j]? = some y' ∧ y'.pl = y.pl := fun j y hj => by
      rcases set_get hx hj with ⟨rfl, rfl⟩ | ⟨_, h2⟩
      · exact ⟨x, hx, rfl⟩
      · exact ⟨y, h2, rfl⟩
    obtain ⟨y', h1, h2⟩ := e a y hy
    obtain ⟨z', h3, h4⟩ := e b z hz
    exact h.plne a b y' z' q h1 h3 (by rw [h2]; exact hyb) (by rw [h4]; exact hzb)
  · intro a b y z ka kb va vb q hy hz hva hvb hqa hqb
    have e : ∀ (j : Nat) (y : NodeL) (ky : Nat) (vy : Value), (L.set i (x.setL k v' nl))[j]? = some y → y.ls[ky]? = some vy → (j = i ∧ ky = k ∧ vy = v') ∨ ((j ≠ i ∨ ky ≠ k) ∧ ∃ y', L[j]? = some y' ∧ y'.ls[ky]? = some vy) := fun j y ky vy hj hvy => by
      rcases set_get hx hj with ⟨rfl, rfl⟩ | ⟨hne, h2⟩
      · rcases set_get (y := v') hv hvy with ⟨rfl, rfl⟩ | ⟨hne, hv3⟩
        · exact .inl ⟨rfl, rfl, rfl⟩
        · exact .inr ⟨.inr hne, x, hx, hv3⟩
      · exact .inr ⟨.inl hne, y, h2, hvy⟩
    have far : ∀ (j : Nat) (y : NodeL) (ky : Nat) (vy : Value), (j ≠ i ∨ ky ≠ k) → L[j]? = some y → y.ls[ky]? = some vy → vy.ownBlock = some q → v'.ownBlock = some q → False := fun j y ky vy hne hj hvy hb1 hb2 => by
      have hlt := (World.ownsRow.lt (h.listOwn (List.mem_of_getElem? hj) hvy) q hb1).2
      rcases hG q (mem_ownB.2 hb2) with h4 | h4
      · have := h.lsne j i y x ky k vy v q hj hx hvy hv hb1 (mem_ownB.1 h4)
        omega
      · omega
    rcases e a y ka va hy hva with ⟨rfl, rfl, rfl⟩ | ⟨hne, y', h1, h2⟩
    · rcases e b z kb vb hz hvb with ⟨rfl, rfl, rfl⟩ | ⟨hne, z', h3, h4⟩
      · exact ⟨rfl, rfl⟩
      · exact (far b z' kb vb hne h3 h4 hqb hqa).elim
    · rcases e b z kb vb hz hvb with ⟨rfl, rfl, rfl⟩ | ⟨hne2, z', h3, h4⟩
      · exact (far a y' ka va hne h1 h2 hqa hqb).elim
      · exact h.lsne a b y' z' ka kb va vb q h1 h3 h2 h4 hqa hqb
  · intro b hb
    have h1 := h.okne b hb
    refine ⟨Nat.lt_of_lt_of_le h1.1 kk.size, fun hh => ?_⟩
    rcases hgr b hh with h2 | h2
    · exact h1.2 h2
    · omega
  · intro y hy
    rcases set_mem hx hy with rfl | ⟨j, _, hj⟩
    · exact h.nums x hm
    · exact h.nums y (List.mem_of_getElem? hj)
end

theorem flatten_set {k : Nat} {z : Value} : ∀ {css : List (List Value)} {i j : Nat} {cs : List Value}, (∀ c ∈ css, c.length = k) → css[i]? = some cs → j < k → (css.set i (cs.set j z)).flatten = css.flatten.set (i * k + j) z
  | [], i, j, cs, _, h, _ => by simp at h
  | c :: css, 0, j, cs, hl, h, hj => by
    simp at h
    subst h
    have hc := hl c (by simp)
    rw [List.set_cons_zero, List.flatten_cons, List.flatten_cons, List.set_append_left _ _ (by omega)]
    simp
  | c :: css, i + 1, j, cs, hl, h, hj => by
    have hc := hl c (by simp)
    rw [List.set_cons_succ, List.flatten_cons, List.flatten_cons, flatten_set (fun x hx => hl x (by simp [hx])) (by simpa using h) hj, List.set_append_right _ _ (by rw [hc, Nat.add_mul]; omega)]
    congr 2
    rw [hc, Nat.add_mul]
    omega
/-- One cell of a row of structs is another one now. -/
theorem RowC.set {lo k i j g n c : Nat} {w : World} {t : TypeId} {css : List (List Value)} {cs : List Value} (h : RowC lo w t k (.slice (some ⟨g, 0, none⟩) n c) css) (hi : css[i]? = some cs) (hj : j < k) (z : Value) : RowC lo (w.setCell ⟨g, i * k + j, none⟩ z) t k (.slice (some ⟨g, 0, none⟩) n c) (css.set i (cs.set j z)) := by
  have hil := (List.getElem?_eq_some_iff.1 hi).1
  refine ⟨fun d hd => ?_, ?_⟩
  · rcases List.mem_or_eq_of_mem_set hd with hd | rfl
    · exact h.1 d hd
    · rw [List.length_set]
      exact h.1 cs (List.mem_of_getElem? hi)
  · rw [List.length_set, flatten_set h.1 hi hj]
    obtain ⟨h1, h2⟩ := h.2
    refine ⟨by rw [List.length_set]; exact h1, ?_⟩
    rcases h2 with ⟨h2, _⟩ | ⟨g', cap, cur, h2, hg, hh, hn, hcap, hsz, htake⟩
    · cases h2
    · cases h2
      refine .inr ⟨g, c, (cur.toList.set (i * k + j) z).toArray, rfl, hg, Blk.set (show Blk w g t cur.toList from by unfold Blk; simpa using hh) _ z, hn, hcap, by simpa using hsz, ?_⟩
      show (cur.toList.set (i * k + j) z).take (css.length * k) = css.flatten.set (i * k + j) z
      rw [← htake]
      have hlt : i * k + j < css.length * k := by
        have := Nat.mul_le_mul_right k (show i + 1 ≤ css.length from hil)
        rw [Nat.add_mul] at this
        omega
      apply List.ext_getElem?
      intro p
      rw [List.getElem?_take, List.getElem?_set, List.getElem?_set, List.getElem?_take, List.length_take]
      by_cases hp : p < css.length * k
      · simp only [hp, if_true]
        by_cases hkp : i * k + j = p
        · subst hkp
          have : (i * k + j < min (css.length * k) cur.toList.length) ↔ i * k + j < cur.toList.length := by omega
          simp only [this, if_true]
        · simp only [hkp, if_false]
      · simp only [hp, if_false]
        by_cases hkp : i * k + j = p
        · omega
        · simp only [hkp, if_false]

section
variable {T : TypeId} {m0 : Value × List Value} {okI : Nat → Prop} {w wf : World} {lo g : Nat} {u : Value} {L : List NodeL}
theorem GrS.u_far (h : GrS T m0 okI w lo g u L) (hT : T ≠ 59) :
    ∀ b, u.ownBlock = some b → b ≠ g ∧ (∀ y ∈ L, y.pl.ownBlock ≠ some b) ∧ (∀ y ∈ L, ∀ (k : Nat) (v : Value), y.ls[k]? = some v → v.ownBlock ≠ some b) ∧ ¬ okI b := fun b hb =>
  ⟨fun e => row_not_blk h.rows.2 h.blk (fun e => hT e.symm) (by rw [hb, e]), fun y hy e => rows_apart h.rows.2 (h.lrow y hy) (by decide) b hb e, fun y hy k v hv e => rows_apart h.rows.2 (h.listOwn hy hv) (by decide) b hb e, fun hok => (h.okne b hok).2 (mem_fpG.2 (.inr (.inl hb)))⟩
def NodeL.setT (x : NodeL) (v : Nat) : NodeL := { x with til := v }
theorem graphV_setT {m : Nat} {i v : Nat} {x : NodeL} (hx : L[i]? = some x) : graphV m (L.set i (x.setT v)) = (graphV m L).till (i : Int) v := by
  have hil := (List.getElem?_eq_some_iff.1 hx).1
  unfold GraphV.till
  rw [if_pos (by unfold GraphV.thereB; rw [graphV_len]; exact decide_eq_true (by omega)), Int.toNat_natCast]
  unfold graphV
  congr 1
  apply List.ext_getElem?
  intro j
  rw [List.getElem?_map, List.getElem?_set, List.getElem?_modify, List.getElem?_map]
  by_cases hij : i = j
  · subst hij
    simp [hil]
    rw [List.getElem?_eq_getElem hil] at hx
    rw [Option.some.inj hx]
    rfl
  · simp [hij]
theorem fpG_setT {i : Nat} {x : NodeL} (hx : L[i]? = some x) (v : Nat) : fpG g u (L.set i (x.setT v)) = fpG g u L := by
  unfold fpG
  congr 2
  rw [List.flatMap_def, List.flatMap_def, set_self hx (y := x.setT v) rfl]
/-- A node's end is another one now. -/
theorem GrS.setTil (h : GrS T m0 okI w lo g u L) (hT : T ≠ 59) {i : Nat} {x : NodeL} (hx : L[i]? = some x) {gu n c : Nat} (hu : u = .slice (some ⟨gu, 0, none⟩) n c) (v : Nat) (hv : v < 18446744073709551616) :
    GrS T m0 okI (w.setCell ⟨gu, i * 6 + 4, none⟩ (.int .u64 (v : Int))) lo g u (L.set i (x.setT v)) ∧ Kept (fpG g u L) w (w.setCell ⟨gu, i * 6 + 4, none⟩ (.int .u64 (v : Int))) := by
  have hm := List.mem_of_getElem? hx
  have hub : u.ownBlock = some gu := by rw [hu]; rfl
  have hf := h.u_far hT gu hub
  have kk : Kept [gu] w (w.setCell ⟨gu, i * 6 + 4, none⟩ (.int .u64 (v : Int))) := (Kept.refl [gu] w).setCell _ _ (.inl (by simp))
  refine ⟨?_, kk.mono fun b hb => by simp at hb; subst hb; exact mem_fpG.2 (.inr (.inl hub))⟩
  have e : ∀ y ∈ L.set i (x.setT v), ∃ y' ∈ L, y'.it = y.it ∧ y'.pl = y.pl ∧ y'.ls = y.ls ∧ y'.links = y.links := fun y hy => by
    rcases set_mem hx hy with rfl | ⟨j, _, hj⟩
    · exact ⟨x, hm, rfl, rfl, rfl, rfl⟩
    · exact ⟨y, List.mem_of_getElem? hj, rfl, rfl, rfl, rfl⟩
  have e2 : ∀ (j : Nat) (y : NodeL), (L.set i (x.setT v))[j]? = some y → ∃ y', L[j]? = some y' ∧ y'.pl = y.pl ∧ y'.ls = y.ls := fun j y hj => by
    rcases set_get hx hj with ⟨rfl, rfl⟩ | ⟨_, h2⟩
    · exact ⟨x, hx, rfl, rfl⟩
    · exact ⟨y, h2, rfl, rfl⟩
  refine { blk := kk.blk h.blk (by simp; exact fun e => hf.1 e.symm), rows := ?_, item := fun y hy => ?_, glo := h.glo, few := by rw [List.length_set]; exact h.few, lrow := fun y hy => ?_, lens := fun y hy => ?_, list := fun y hy k v2 l hk hl => ?_, plne := fun a b y z q hy hz hyb hzb => ?_, lsne := fun a b y z ka kb va vb q hy hz hva hvb hqa hqb => ?_, okne := fun b hb => ?_, nums := fun y hy => ?_ }
  · have h1 := h.rows
    rw [hu] at h1 ⊢
    have h2 := RowC.set h1 (i := i) (j := 4) (cs := x.cells) (by rw [List.getElem?_map, hx]; rfl) (by omega) (.int .u64 (v : Int))
    rw [List.map_set]
    exact h2
  · obtain ⟨y', h1, h2, -, -, -⟩ := e y hy
    rw [← h2]
    exact (h.item y' h1).stay kk.size (fun b hb hlt => kk.block b hlt (by simp; rintro rfl; exact hf.2.2.2 hb)) (fun _ h _ => h)
  · obtain ⟨y', h1, -, h2, h3, -⟩ := e y hy
    rw [← h2, ← h3]
    exact kk.own (h.lrow y' h1) fun b hb hh => by simp at hh; subst hh; exact hf.2.1 y' h1 hb
  · obtain ⟨y', h1, -, h2, h3, h4⟩ := e y hy
    rw [← h3, ← h4]
    exact h.lens y' h1
  · obtain ⟨y', h1, -, h2, h3, h4⟩ := e y hy
    rw [← h3] at hk
    rw [← h4] at hl
    exact kk.own (h.list y' h1 k v2 l hk hl) fun b hb hh => by simp at hh; subst hh; exact hf.2.2.1 y' h1 k v2 hk hb
  · obtain ⟨y', h1, h2, -⟩ := e2 a y hy
    obtain ⟨z', h3, h4, -⟩ := e2 b z hz
    exact h.plne a b y' z' q h1 h3 (by rw [h2]; exact hyb) (by rw [h4]; exact hzb)
  · obtain ⟨y', h1, -, h2⟩ := e2 a y hy
    obtain ⟨z', h3, -, h4⟩ := e2 b z hz
    exact h.lsne a b y' z' ka kb va vb q h1 h3 (by rw [h2]; exact hva) (by rw [h4]; exact hvb) hqa hqb
  · have h1 := h.okne b hb
    exact ⟨Nat.lt_of_lt_of_le h1.1 kk.size, by rw [fpG_setT hx]; exact h1.2⟩
  · rcases set_mem hx hy with rfl | ⟨j, _, hj⟩
    · exact ⟨(h.nums x hm).1, hv⟩
    · exact h.nums y (List.mem_of_getElem? hj)

/-- A node without links. -/
structure NodeL.New (x : NodeL) (n : Nat) : Prop where
  ls : x.ls = List.replicate n (.slice none 0 0)
  links : x.links = List.replicate n []
theorem graphV_add {m : Nat} (x : NodeL) : graphV m (L ++ [x]) = (graphV m L).add x.toV := by simp [graphV, GraphV.add]
theorem snoc_get {α : Type} {L : List α} {x y : α} {j : Nat} (h : (L ++ [x])[j]? = some y) : L[j]? = some y ∨ (j = L.length ∧ y = x) := by
  rw [List.getElem?_append] at h
  split at h
  · exact .inl h
  · next hn =>
    have hl := (List.getElem?_eq_some_iff.1 h).1
    simp at hl
    have hj : j = L.length := by omega
    subst hj
    simp at h
    exact .inr ⟨rfl, h.symm⟩
/-- One more node. -/
theorem GrS.addNode (h : GrS T m0 okI w lo g u L) (hT1 : T ≠ 3) (hT2 : T ≠ 62) {x : NodeL} {n : Nat} (hn : x.New n) {u' : Value} {okI' : Nat → Prop} (hk : Kept (g :: ownB u) w wf) (hG : Grows w (ownB u) (ownB u')) (hTN : T ≠ 59)
    (hblk : Blk wf g T (m0.1 :: u' :: m0.2)) (hrows : RowC lo wf 59 6 u' ((L ++ [x]).map NodeL.cells)) (hok : ∀ b, okI b → okI' b) (hok' : ∀ b, okI' b → okI b ∨ (w.heap.size ≤ b ∧ b < wf.heap.size ∧ x.pl.ownBlock ≠ some b ∧ u'.ownBlock ≠ some b))
    (hit : x.it.In okI' wf) (hlr : wf.ownsRow lo 62 1 x.pl x.ls.length x.ls) (hpl : ∀ b, x.pl.ownBlock = some b → w.heap.size ≤ b) (hnum : x.frm < 18446744073709551616 ∧ x.til < 18446744073709551616) (hfew : L.length < 100000) :
    GrS T m0 okI' wf lo g u' (L ++ [x]) ∧ Kept (fpG g u L) w wf ∧ Grows w (fpG g u L) (fpG g u' (L ++ [x])) := by
  have hnil : ∀ (k : Nat) (v : Value), x.ls[k]? = some v → v = .slice none 0 0 := fun k v hv => by
    rw [hn.ls] at hv
    exact (List.mem_replicate.1 (List.mem_of_getElem? hv)).2
  have hfar : ∀ b ∈ g :: ownB u, (∀ y ∈ L, y.pl.ownBlock ≠ some b) ∧ (∀ y ∈ L, ∀ (k : Nat) (v : Value), y.ls[k]? = some v → v.ownBlock ≠ some b) ∧ ¬ okI b := fun b hb => by
    rcases List.mem_cons.1 hb with rfl | hb
    · exact ⟨fun y hy e => row_not_blk (h.lrow y hy) h.blk (fun e => hT2 e.symm) e, fun y hy k v hv e => row_not_blk (h.listOwn hy hv) h.blk (fun e => hT1 e.symm) e, fun ho => (h.okne b ho).2 (mem_fpG.2 (.inl rfl))⟩
    · have h1 := h.u_far hTN b (mem_ownB.1 hb)
      exact ⟨h1.2.1, h1.2.2.1, h1.2.2.2⟩
  have hgr : Grows w (fpG g u L) (fpG g u' (L ++ [x])) := fun b hb => by
    rcases mem_fpG.1 hb with rfl | hq | ⟨y, hy, hq⟩
    · exact .inl (mem_fpG.2 (.inl rfl))
    · rcases hG b (mem_ownB.2 hq) with h1 | h1
      · exact .inl (mem_fpG.2 (.inr (.inl (mem_ownB.1 h1))))
      · exact .inr h1
    · rcases List.mem_append.1 hy with hy | hy
      · exact .inl (mem_fpG.2 (.inr (.inr ⟨y, hy, hq⟩)))
      · simp at hy
        subst hy
        rcases hq with hq | ⟨v, hv, hq⟩
        · exact .inr (hpl b hq)
        · obtain ⟨k, hk2⟩ := List.getElem?_of_mem hv
          rw [hnil k v hk2] at hq
          cases hq
  refine ⟨?_, hk.mono fun b hb => ?_, hgr⟩
  · refine { blk := hblk, rows := hrows, item := fun y hy => ?_, glo := h.glo, few := by simp; omega, lrow := fun y hy => ?_, lens := fun y hy => ?_, list := fun y hy k v l hv hl => ?_, plne := fun a b y z q hy hz hyb hzb => ?_, lsne := fun a b y z ka kb va vb q hy hz hva hvb hqa hqb => ?_, okne := fun b hb => ?_, nums := fun y hy => ?_ }
    · rcases List.mem_append.1 hy with hy | hy
      · exact (h.item y hy).stay hk.size (fun b hb hlt => hk.block b hlt (fun hh => (hfar b hh).2.2 hb)) (fun b hb _ => hok b hb)
      · simp at hy
        subst hy
        exact hit
    · rcases List.mem_append.1 hy with hy | hy
      · exact hk.own (h.lrow y hy) fun b hb hh => (hfar b hh).1 y hy hb
      · simp at hy
        subst hy
        exact hlr
    · rcases List.mem_append.1 hy with hy | hy
      · exact h.lens y hy
      · simp at hy
        subst hy
        rw [hn.ls, hn.links, List.length_replicate, List.length_replicate]
    · rcases List.mem_append.1 hy with hy | hy
      · exact hk.own (h.list y hy k v l hv hl) fun b hb hh => (hfar b hh).2.1 y hy k v hv hb
      · simp at hy
        subst hy
        rw [hn.links] at hl
        obtain rfl := (List.mem_replicate.1 (List.mem_of_getElem? hl)).2
        rw [hnil k v hv]
        exact ⟨by simp, .inl ⟨rfl, rfl⟩⟩
    · rcases snoc_get hy with hy1 | ⟨e1, e2⟩
      · rcases snoc_get hz with hz1 | ⟨e3, e4⟩
        · exact h.plne a b y z q hy1 hz1 hyb hzb
        · rw [e4] at hzb
          have h1 := hpl q hzb
          have h2 := (World.ownsRow.lt (h.lrow y (List.mem_of_getElem? hy1)) q hyb).2
          omega
      · rcases snoc_get hz with hz1 | ⟨e3, e4⟩
        · rw [e2] at hyb
          have h1 := hpl q hyb
          have h2 := (World.ownsRow.lt (h.lrow z (List.mem_of_getElem? hz1)) q hzb).2
          omega
        · rw [e1, e3]
    · rcases snoc_get hy with hy1 | ⟨e1, e2⟩
      · rcases snoc_get hz with hz1 | ⟨e3, e4⟩
        · exact h.lsne a b y z ka kb va vb q hy1 hz1 hva hvb hqa hqb
        · rw [e4] at hvb
          rw [hnil kb vb hvb] at hqb
          cases hqb
      · rw [e2] at hva
        rw [hnil ka va hva] at hqa
        cases hqa
    · rcases hok' b hb with h1 | h1
      · have h2 := h.okne b h1
        refine ⟨Nat.lt_of_lt_of_le h2.1 hk.size, fun hh => ?_⟩
        rcases hgr b hh with h3 | h3
        · exact h2.2 h3
        · omega
      · refine ⟨h1.2.1, fun hh => ?_⟩
        rcases mem_fpG.1 hh with rfl | hq | ⟨y, hy, hq⟩
        · have := h.blk.lt
          omega
        · exact h1.2.2.2 hq
        · rcases List.mem_append.1 hy with hy | hy
          · have := (h.fp_lt b (mem_fpG.2 (.inr (.inr ⟨y, hy, hq⟩)))).2
            omega
          · simp at hy
            subst hy
            rcases hq with hq | ⟨v, hv, hq⟩
            · exact h1.2.2.1 hq
            · obtain ⟨k, hk2⟩ := List.getElem?_of_mem hv
              rw [hnil k v hk2] at hq
              cases hq
    · rcases List.mem_append.1 hy with hy | hy
      · exact h.nums y hy
      · simp at hy
        subst hy
        exact hnum
  · rcases List.mem_cons.1 hb with rfl | hb
    · exact mem_fpG.2 (.inl rfl)
    · exact mem_fpG.2 (.inr (.inl (mem_ownB.1 hb)))
end

/-! ### What is right stays so -/
theorem setLink_len (g : GraphV) (a level : Nat) (l : List Nat) : (g.setLink a level l).L.length = g.L.length := by simp [GraphV.setLink]
theorem setLink_at (g : GraphV) (a level : Nat) (l : List Nat) (i : Nat) : (g.setLink a level l).L[i]? = if a = i then (g.L[i]?).map (fun x => { x with links := x.links.set level l }) else g.L[i]? := by
  unfold GraphV.setLink
  rw [List.getElem?_modify]
  split
  · next h => simp
  · next h => cases g.L[i]? <;> rfl
theorem setLink_lv (g : GraphV) (a level : Nat) (l : List Nat) (i : Nat) : (g.setLink a level l).lv i = g.lv i := by
  unfold GraphV.lv
  rw [setLink_at]
  by_cases h : a = i
  · rw [if_pos h]
    cases g.L[i]? <;> simp
  · rw [if_neg h]
theorem setLink_links (g : GraphV) (a level : Nat) (l : List Nat) (i k : Nat) : (g.setLink a level l).links i k = if a = i ∧ level = k ∧ k < g.lv i then l else g.links i k := by
  unfold GraphV.links GraphV.lv
  rw [setLink_at]
  by_cases ha : a = i
  · rw [if_pos ha]
    cases e : g.L[i]? with
    | none => simp
    | some x =>
      simp only [Option.map_some]
      rw [List.getD_eq_getElem?_getD, List.getElem?_set, List.getD_eq_getElem?_getD]
      by_cases hk : level = k
      · subst hk
        by_cases hl : level < x.links.length
        · simp [hl, ha]
        · simp [hl]
      · simp [hk]
  · rw [if_neg ha, if_neg (fun h => ha h.1)]
theorem mem_putIn {l : List Nat} {b j : Nat} : j ∈ putIn l b ↔ j ∈ l ∨ j = b := by
  unfold putIn
  split
  · next h => exact ⟨.inl, fun hh => by rcases hh with hh | rfl; exact hh; exact h⟩
  · simp
theorem putIn_nodup {l : List Nat} {b : Nat} (h : l.Nodup) : (putIn l b).Nodup := by
  unfold putIn
  split
  · exact h
  · next hn => exact nodup_snoc h hn
theorem putIn_len (l : List Nat) (b : Nat) : (putIn l b).length ≤ l.length + 1 := by
  unfold putIn
  split <;> simp
/-- What a link leaves: of what was there, and the new one. -/
theorem linkL_is {g : GraphV} {a b level : Nat} {most : Int} (h : g.Right) : (g.linkL a b level most).Nodup ∧ ∀ j ∈ g.linkL a b level most, j ∈ g.links a level ∨ j = b := by
  unfold GraphV.linkL
  split
  · have h1 := g.choose_is (g.vec a) ((putIn (g.links a level) b).map fun (j : Nat) => (j : Int)) most.toNat
    refine ⟨h1.1, fun j hj => ?_⟩
    obtain ⟨k, hk, e⟩ := List.mem_map.1 (h1.2.2 j hj).2
    have : k = j := by omega
    subst this
    exact mem_putIn.1 hk
  · exact ⟨putIn_nodup (h.each a level), fun j hj => mem_putIn.1 hj⟩
theorem links_lt {g : GraphV} (h : g.Right) {i k j : Nat} (hj : j ∈ g.links i k) : j < g.L.length := lv_len (h.dest i k j hj).1
theorem GraphV.Right.setLink {g : GraphV} (h : g.Right) {a b level : Nat} {most : Int} (hb : level < g.lv b) (hab : b ≠ a) : (g.setLink a level (g.linkL a b level most)).Right := by
  have h1 := linkL_is (a := a) (b := b) (level := level) (most := most) h
  have e : ∀ x ∈ (g.setLink a level (g.linkL a b level most)).L, ∃ y ∈ g.L, y.links.length = x.links.length := fun x hx => by
    obtain ⟨i, hi⟩ := List.getElem?_of_mem hx
    rw [setLink_at] at hi
    split at hi
    · cases e : g.L[i]? with
      | none => rw [e] at hi; simp at hi
      | some y =>
        rw [e] at hi
        simp at hi
        subst hi
        exact ⟨y, List.mem_of_getElem? e, by simp⟩
    · exact ⟨x, List.mem_of_getElem? hi, rfl⟩
  refine ⟨fun x hx => ?_, fun x hx => ?_, fun i k j hj => ?_, fun i k => ?_⟩
  · obtain ⟨y, hy, e⟩ := e x hx
    rw [← e]
    exact h.one y hy
  · obtain ⟨y, hy, e⟩ := e x hx
    rw [← e]
    exact h.most y hy
  · rw [setLink_lv]
    rw [setLink_links] at hj
    split at hj
    · next hc =>
      obtain ⟨rfl, rfl, _⟩ := hc
      rcases h1.2 j hj with h2 | rfl
      · exact h.dest _ _ j h2
      · exact ⟨hb, hab⟩
    · exact h.dest i k j hj
  · rw [setLink_links]
    split
    · exact h1.1
    · exact h.each i k
theorem GraphV.Right.link {g : GraphV} (h : g.Right) (a b level most : Int) : (g.link a b level most).Right := by
  unfold GraphV.link
  split
  · next hl =>
    unfold GraphV.linkB at hl
    simp only [Bool.and_eq_true, Bool.not_eq_true', decide_eq_false_iff_not] at hl
    obtain ⟨⟨h1, h2⟩, h3⟩ := hl
    have hlv : 0 ≤ level := by
      unfold GraphV.onB at h1
      exact (of_decide_eq_true h1).2.2.1
    obtain ⟨n, rfl⟩ : ∃ n : Nat, level = (n : Int) := ⟨level.toNat, by omega⟩
    obtain ⟨i, rfl, _, _⟩ := GraphV.on_nat h1
    obtain ⟨j, rfl, _, h5⟩ := GraphV.on_nat h2
    refine h.setLink h5 (fun e => h3 ?_)
    simp at e
    rw [e]
  · exact h
theorem till_at (g : GraphV) (i : Int) (v : Nat) (j : Nat) : ∀ x, (g.till i v).L[j]? = some x → ∃ y, g.L[j]? = some y ∧ y.links = x.links := by
  intro x hx
  unfold GraphV.till at hx
  split at hx
  · simp only [List.getElem?_modify] at hx
    cases e : g.L[j]? with
    | none => rw [e] at hx; simp at hx
    | some y =>
      rw [e] at hx
      refine ⟨y, rfl, ?_⟩
      simp at hx
      subst hx
      split <;> rfl
  · exact ⟨x, hx, rfl⟩
theorem till_len (g : GraphV) (i : Int) (v : Nat) : (g.till i v).L.length = g.L.length := by
  unfold GraphV.till
  split <;> simp
theorem GraphV.Right.till {g : GraphV} (h : g.Right) (i : Int) (v : Nat) : (g.till i v).Right := by
  have e1 : ∀ j, (g.till i v).lv j = g.lv j := fun j => by
    unfold GraphV.lv
    cases e : (g.till i v).L[j]? with
    | none =>
      have h1 := List.getElem?_eq_none_iff.1 e
      rw [till_len] at h1
      rw [List.getElem?_eq_none h1]
    | some x =>
      obtain ⟨y, h1, h2⟩ := till_at g i v j x e
      rw [h1]
      simp [h2]
  have e2 : ∀ j k, (g.till i v).links j k = g.links j k := fun j k => by
    unfold GraphV.links
    cases e : (g.till i v).L[j]? with
    | none =>
      have h1 := List.getElem?_eq_none_iff.1 e
      rw [till_len] at h1
      rw [List.getElem?_eq_none h1]
    | some x =>
      obtain ⟨y, h1, h2⟩ := till_at g i v j x e
      rw [h1]
      simp [h2]
  refine ⟨fun x hx => ?_, fun x hx => ?_, fun a k j hj => ?_, fun a k => ?_⟩
  · obtain ⟨j, hj⟩ := List.getElem?_of_mem hx
    obtain ⟨y, h1, h2⟩ := till_at g i v j x hj
    rw [← h2]
    exact h.one y (List.mem_of_getElem? h1)
  · obtain ⟨j, hj⟩ := List.getElem?_of_mem hx
    obtain ⟨y, h1, h2⟩ := till_at g i v j x hj
    rw [← h2]
    exact h.most y (List.mem_of_getElem? h1)
  · rw [e1]
    rw [e2] at hj
    exact h.dest a k j hj
  · rw [e2]
    exact h.each a k
theorem GraphV.Right.add {g : GraphV} (h : g.Right) {x : NodeV} {n : Nat} (hx : x.links = List.replicate n []) (h1 : 1 ≤ n) (h5 : n ≤ 5) : (g.add x).Right := by
  have hl : ∀ i k, (g.add x).links i k = g.links i k := fun i k => by
    unfold GraphV.links GraphV.add
    rw [List.getElem?_append]
    by_cases hn : i < g.L.length
    · rw [if_pos hn]
    · rw [if_neg hn, List.getElem?_eq_none (show g.L.length ≤ i by omega)]
      cases e : [x][i - g.L.length]? with
      | none => rfl
      | some y =>
        have := List.mem_of_getElem? e
        simp at this
        subst this
        simp only [hx, List.getD_eq_getElem?_getD, List.getElem?_replicate]
        split <;> rfl
  refine ⟨fun y hy => ?_, fun y hy => ?_, fun i k j hj => ?_, fun i k => ?_⟩
  · rcases List.mem_append.1 hy with hy | hy
    · exact h.one y hy
    · simp at hy
      rw [hy, hx, List.length_replicate]
      exact h1
  · rcases List.mem_append.1 hy with hy | hy
    · exact h.most y hy
    · simp at hy
      rw [hy, hx, List.length_replicate]
      exact h5
  · rw [hl] at hj
    have h2 := h.dest i k j hj
    refine ⟨?_, h2.2⟩
    have h3 := lv_len h2.1
    unfold GraphV.lv GraphV.add
    rw [List.getElem?_append_left h3]
    exact h2.1
  · rw [hl]
    exact h.each i k
theorem right_none (m : Nat) : (GraphV.mk m []).Right := ⟨by simp, by simp, fun i k j hj => by simp [GraphV.links] at hj, fun i k => by simp [GraphV.links]⟩

theorem RowC.frozen {lo k n c g : Nat} {w : World} {t : TypeId} {css : List (List Value)} (h : RowC lo w t k (.slice (some ⟨g, 0, none⟩) n c) css) (o : Nat) : w.frozen? ⟨g, o, none⟩ = false := by
  rcases h.2.2 with ⟨h1, _⟩ | ⟨g', cap, cur, h1, _, hh, _⟩
  · cases h1
  · cases h1
    simp [World.frozen?, hh]
/-- The program's graph in plain words: F are all its blocks. -/
def GraphIs (w : World) (lo g : Nat) (F : List Nat) (gv : GraphV) : Prop :=
  ∃ (It : List Nat) (u : Value) (L : List NodeL), GrC (· ∈ It) w lo g gv.m u L ∧ gv = graphV gv.m L ∧ gv.Right ∧ F = fpG g u L ++ It ∧ (∀ b ∈ It, lo ≤ b) ∧ gv.m < 256
section
variable {w w' : World} {lo g : Nat} {F : List Nat} {gv : GraphV}
theorem GraphIs.lt (h : GraphIs w lo g F gv) : ∀ b ∈ F, lo ≤ b ∧ b < w.heap.size := by
  obtain ⟨It, u, L, h1, _, _, rfl, h4, _⟩ := h
  intro b hb
  rcases List.mem_append.1 hb with hb | hb
  · exact h1.fp_lt b hb
  · exact ⟨h4 b hb, (h1.okne b hb).1⟩
theorem GraphIs.kept {G : List Nat} (h : GraphIs w lo g F gv) (hk : Kept G w w') (hF : Apart G F) : GraphIs w' lo g F gv := by
  obtain ⟨It, u, L, h1, h2, h3, rfl, h4⟩ := h
  exact ⟨It, u, L, h1.kept hk fun b hb => ⟨fun hh => hF b hb (List.mem_append.2 (.inl hh)), fun hh => hF b hb (List.mem_append.2 (.inr hh))⟩, h2, h3, rfl, h4⟩
theorem GraphIs.on (h : GraphIs w lo g F gv) (hb : Below w.heap.size w w') : GraphIs w' lo g F gv := h.kept (G := []) (Kept.of_below hb (Nat.le_refl _)) (fun x hx => by simp at hx)
theorem GraphIs.right (h : GraphIs w lo g F gv) : gv.Right := by
  obtain ⟨_, _, _, _, _, h3, _⟩ := h
  exact h3
end

set_option maxHeartbeats 400000 in
theorem gnew_any (w : World) (m : Nat) (hm : m < 256) :
    Calls Tryz.prog 95 #[.int .u8 (m : Int)] w fun e w' => e = .returned (.pointer (some ⟨w.heap.size, 0, none⟩)) ∧ GraphIs w' w.heap.size w.heap.size [w.heap.size] ⟨m, []⟩ ∧ Below w.heap.size w w' := by
  have hblk := Lib.hid (Blk.new w 155 #[.int .u8 (m : Int), .slice none 0 0])
  go_enter Tryz.func95, Tryz.ntmps95
  go_wp2
  go_ret
  refine ⟨rfl, ⟨[], .slice none 0 0, [], ?_, rfl, right_none m, rfl, by simp, hm⟩, (Below.refl _ _).alloc (Nat.le_refl _) _⟩
  exact { blk := hblk.out, rows := RowC.nil _ _ _ _, item := by simp, glo := Nat.le_refl _, few := by simp, lrow := by simp, lens := by simp, list := by simp, plne := by simp, lsne := by simp, okne := by simp, nums := by simp }

set_option maxHeartbeats 1600000 in
theorem until_any (w : World) (lo g : Nat) (F : List Nat) (gv : GraphV) (h : GraphIs w lo g F gv) (i : Int) (v : Nat) (hv : v < 18446744073709551616) (z : Bool) (hz : gv.thereB i = z) :
    Calls Tryz.prog 55 #[.pointer (some ⟨g, 0, none⟩), .int .i64 i, .int .u64 (v : Int)] w fun e w' => e = .returned (.bool z) ∧ GraphIs w' lo g F (gv.till i v) ∧ Kept F w w' := by
  have HG := Lib.hid h
  obtain ⟨It, u, L, h1, h2, h3, rfl, h4, h5⟩ := h
  have CT := Lib.hid (there_any h1.toGrN i z (by rw [← h2]; exact hz))
  cases z with
  | false =>
    have HE := Lib.hid (show gv.till i v = gv from by unfold GraphV.till; rw [if_neg (by simp [hz])])
    clear h1 h2 h3 h4 h5 hz hv
    go_enter Tryz.func55, Tryz.ntmps55
    go_wp2_with (fail)
    refine CT.out.mono ?_
    rintro e w' ⟨rfl, hw⟩
    have hw' := hw.symm
    subst hw'
    clear hw
    go_wp2
    go_ret
    exact ⟨rfl, by rw [HE.out]; exact HG.out, Kept.refl _ _⟩
  | true =>
    have hzb := hz
    unfold GraphV.thereB at hzb
    have hzb := of_decide_eq_true hzb
    obtain ⟨j, rfl⟩ : ∃ j : Nat, i = (j : Int) := ⟨i.toNat, by omega⟩
    have hj : j < L.length := by
      rw [h2, graphV_len] at hzb
      omega
    obtain ⟨x, gu, c, hx, hmem, hu, hgu, hrg⟩ := h1.nodeAt j hj
    have cU : w.cell? ⟨g, 1, none⟩ = some (.slice (some ⟨gu, 0, none⟩) L.length c) := by rw [← hu]; exact h1.blk.cell 1
    have cT : w.cell? ⟨gu, j * 6 + 4, none⟩ = some (.int .u64 (x.til : Int)) := hrg 4 _ rfl
    have cF : w.frozen? ⟨gu, j * 6 + 4, none⟩ = false := RowC.frozen (by rw [← hu]; exact h1.rows) _
    have e := h1.setTil (by decide) hx hu v hv
    have FIN := Lib.hid (show GraphIs (w.setCell ⟨gu, j * 6 + 4, none⟩ (.int .u64 (v : Int))) lo g (fpG g u L ++ It) (gv.till (j : Int) v) ∧ Kept (fpG g u L ++ It) w (w.setCell ⟨gu, j * 6 + 4, none⟩ (.int .u64 (v : Int))) from by
      have e2 : gv.till (j : Int) v = graphV gv.m (L.set j (x.setT v)) := by rw [graphV_setT hx, ← h2]
      refine ⟨⟨It, u, L.set j (x.setT v), ?_, ?_, h3.till _ _, by rw [fpG_setT hx], h4, ?_⟩, e.2.mono fun b hb => List.mem_append.2 (.inl hb)⟩
      · rw [e2]
        exact e.1
      · rw [e2]
        rfl
      · rw [e2]
        exact h5)
    obtain ⟨N, hN⟩ : ∃ N, L.length = N := ⟨_, rfl⟩
    rw [hN] at cU hj
    clear h1 h2 h3 h4 h5 hz hzb hx hmem hu hgu hrg e hN hv HG
    go_enter Tryz.func55, Tryz.ntmps55
    go_wp2_with (go_at_call 100; refine CT.out.mono ?_; rintro e w' ⟨rfl, hw⟩; have hw' := hw.symm; subst hw'; clear hw)
    go_ret
    exact ⟨rfl, FIN.out⟩

/-- What a link leaves. -/
def LinkPost (lo g : Nat) (F : List Nat) (gv : GraphV) (a b level most : Int) (w : World) (e : Ending) (w' : World) : Prop :=
  e = .returned (.bool (gv.linkB a b level)) ∧ ∃ F', GraphIs w' lo g F' (gv.link a b level most) ∧ Kept F w w' ∧ Grows w F F'
set_option maxRecDepth 100000 in
set_option maxHeartbeats 1600000 in
theorem link_not (w : World) (lo g : Nat) (F : List Nat) (gv : GraphV) (h : GraphIs w lo g F gv) (a b level most : Int) (hz : gv.linkB a b level = false) :
    Calls Tryz.prog 104 #[.pointer (some ⟨g, 0, none⟩), .int .i64 a, .int .i64 b, .int .i64 level, .int .i64 most] w (LinkPost lo g F gv a b level most w) := by
  have HG := Lib.hid h
  have HE := Lib.hid (show gv.link a b level most = gv from by unfold GraphV.link; rw [if_neg (by simp [hz])])
  obtain ⟨It, u, L, h1, h2, h3, rfl, h4, h5⟩ := h
  have CO := Lib.hid (fun (i : Int) (z : Bool) (hz : Hid (gv.onB i level = z)) => on_any h1 i level z (by rw [h2] at hz; exact hz))
  have HZ := Lib.hid hz
  have hzb := hz
  unfold GraphV.linkB at hzb
  clear h1 h2 h3 h4 h5 hz
  by_cases hab : a = b
  · have d0 : decide (a = b) = true := decide_eq_true hab
    have HAB := Lib.hid hab
    clear hzb hab
    go_enter Tryz.func104, Tryz.ntmps104
    go_wp2
    go_ret
    exact ⟨by rw [HZ.out]; rfl, _, by rw [HE.out]; exact HG.out, Kept.refl _ _, Grows.refl _ _⟩
  · have d0 : (a == b) = false := by simpa using hab
    cases ha : gv.onB a level with
    | false =>
      have C1 := Lib.hid (CO.out a false ha)
      clear hzb hab ha
      go_enter Tryz.func104, Tryz.ntmps104
      go_wp2_with (go_at_call 128; refine C1.out.mono ?_; rintro e w' ⟨rfl, hw⟩; have hw' := hw.symm; subst hw'; clear hw)
      go_ret
      exact ⟨by rw [HZ.out]; rfl, _, by rw [HE.out]; exact HG.out, Kept.refl _ _, Grows.refl _ _⟩
    | true =>
      have hb : gv.onB b level = false := by
        rw [ha] at hzb
        simpa [hab] using hzb
      have C1 := Lib.hid (CO.out a true ha)
      have C2 := Lib.hid (CO.out b false hb)
      clear hzb hab ha hb
      go_enter Tryz.func104, Tryz.ntmps104
      go_wp2_with (fail)
      refine C1.out.mono ?_
      rintro e w' ⟨rfl, hw⟩
      have hw' := hw.symm
      subst hw'
      clear hw
      go_wp2_with (fail)
      refine C2.out.mono ?_
      rintro e w' ⟨rfl, hw⟩
      have hw' := hw.symm
      subst hw'
      clear hw
      go_wp2
      go_ret
      exact ⟨by rw [HZ.out]; rfl, _, by rw [HE.out]; exact HG.out, Kept.refl _ _, Grows.refl _ _⟩
end Go.Proofs.YtadkfedglkhgjaaGreat
