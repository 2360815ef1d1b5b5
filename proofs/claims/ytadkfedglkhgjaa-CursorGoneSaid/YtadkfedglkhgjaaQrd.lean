/-
  Layer 14, the program's table: what it does with its map; own, New, Len, drop, Close; mayTell, endAhead; the closures of Leave and Tick.
-/
import Derived.Test.YtadkfedglkhgjaaQrb
import Derived.Deep.RegionLaw
import Derived.Deep.DeepMust
import Derived.Deep.QuietTactic
import Derived.BigQuiet
import Derived.BigRegion
import Derived.RegionTactic
import Derived.Deep.RegionHeld3
import Derived.Handy
namespace Go.Proofs.Ytadkfedglkhgjaa
open Go.RowKit Go.ChangeShapes Go.WideShapes Go.ChangeAt Go.Maps

theorem key32_wf {v : Nat} (h : v < 4294967296) : (Lit.int .u32 (v : Int)).wf = true := by
  simp [Lit.wf, IntKind.min, IntKind.max, IntKind.signed, IntKind.bits]
  omega
section
variable {ops : Array Oper} {rest : List Oper} {o : Oper} {a : Act} {Q : Exit → Act → World → Prop}
theorem cu_look (w : World) (hg : o.guard = none) (m x : Operand) (hop : o.op = Op.lookup 74 m x false) (b : Nat) (E : List (Lit × Value)) (hm : a.eval m = .map (some b)) (h : MapE w Try.prog 22 b E) (n : Nat) (hn : n < 4294967296) (hx : a.eval x = .int .u32 (n : Int)) (z : Value) (hz : (key32 n, z) ∈ E)
    (hK : wpList Try.prog ops Q rest (a.put o.dst z) w) : wpList Try.prog ops Q (o :: rest) a w :=
  map_found w hg m x _ hop 22 79 (Maps.int_keyed Try.underlying22) Try.underlying74 (Try.zeroValue79 w) b E hm h _ (key32 n) hx (Maps.keyOf_int_mk Try.underlying22 (key32_wf hn)) (key32_lit n) z hz hK
theorem cu_none (w : World) (hg : o.guard = none) (m x : Operand) (hop : o.op = Op.lookup 74 m x false) (b : Nat) (E : List (Lit × Value)) (hm : a.eval m = .map (some b)) (h : MapE w Try.prog 22 b E) (n : Nat) (hn : n < 4294967296) (hx : a.eval x = .int .u32 (n : Int)) (hz : ∀ p ∈ E, p.1 ≠ key32 n)
    (hK : wpList Try.prog ops Q rest (a.put o.dst (.pointer none)) w) : wpList Try.prog ops Q (o :: rest) a w :=
  map_none w hg m x _ hop 22 79 (Maps.int_keyed Try.underlying22) Try.underlying74 (Try.zeroValue79 w) b E hm h _ (key32 n) hx (Maps.keyOf_int_mk Try.underlying22 (key32_wf hn)) hz hK
theorem cu_del (w : World) (hg : o.guard = none) (m x : Operand) (hop : o.op = Op.call { callee := Callee.builtin Builtin.delete, args := #[m, x], argTypes := #[74, 22] }) (b : Nat) (E : List (Lit × Value)) (hm : a.eval m = .map (some b)) (h : MapE w Try.prog 22 b E) (n : Nat) (hn : n < 4294967296) (hx : a.eval x = .int .u32 (n : Int))
    (hK : ∀ w', MapE w' Try.prog 22 b (dropE E (key32 n)) → Kept [b] w w' → wpList Try.prog ops Q rest (a.put o.dst (.tuple #[])) w') : wpList Try.prog ops Q (o :: rest) a w :=
  map_del w hg m x _ _ hop 79 (Maps.int_keyed Try.underlying22) Try.underlying74 b E hm h _ (key32 n) hx (Maps.keyOf_int_mk Try.underlying22 (key32_wf hn)) hK
theorem cu_len (w : World) (hg : o.guard = none) (m : Operand) (hop : o.op = Op.call { callee := Callee.builtin Builtin.len, args := #[m], argTypes := #[74] }) (b : Nat) (E : List (Lit × Value)) (n : Nat) (hn : E.length = n) (hm : a.eval m = .map (some b)) (h : MapE w Try.prog 22 b E)
    (hK : wpList Try.prog ops Q rest (a.put o.dst (.int .i64 (n : Int))) w) : wpList Try.prog ops Q (o :: rest) a w :=
  map_len w hg m _ hop 22 79 Try.underlying74 b E n hn hm h hK
end
theorem cu_put {w : World} {b : Nat} {E : List (Lit × Value)} {n : Nat} (h : MapE w Try.prog 22 b E) (hn : n < 4294967296) (hl : E.length ≤ 1000000) (v : Value) : ∃ w', (Instr.mapUpdate 74 (.map (some b)) (.int .u32 (n : Int)) v).run Try.prog w = .ok () w' ∧ MapE w' Try.prog 22 b (putE E (key32 n) v) ∧ Kept [b] w w' := by
  have h0 := h
  obtain ⟨⟨es, h1, h2⟩, h3, h4⟩ := h
  obtain ⟨w', hrun, r1, r2⟩ := h1.update (Maps.int_keyed Try.underlying22) Try.underlying74 (by unfold maxLen; omega) (Maps.keyOf_int_mk Try.underlying22 (key32_wf hn)) (show rawElem v = some (.held v, []) from rfl)
  exact ⟨w', hrun, h0.put (key32_lit n) r1 h2, kept_grown r2⟩
theorem cuE_mem {L : List CurL} {t : CurL} (h : t ∈ L) : (key32 t.c.n, Value.pointer (some ⟨t.g, 0, none⟩)) ∈ cuE L := List.mem_map.2 ⟨t, h, rfl⟩
theorem cuE_not {L : List CurL} {n : Nat} (h : ∀ t ∈ L, t.c.n ≠ n) : ∀ p ∈ cuE L, p.1 ≠ key32 n := by
  intro p hp
  obtain ⟨t, ht, rfl⟩ := List.mem_map.1 hp
  exact fun e => h t ht (key32_inj _ _ e)
theorem cuE_drop (L : List CurL) (n : Nat) : dropE (cuE L) (key32 n) = cuE (L.filter fun t => decide (t.c.n ≠ n)) := by
  unfold dropE cuE
  rw [List.filter_map]
  congr 1
  refine List.filter_congr fun t _ => ?_
  show (!(key32 t.c.n).sameKey (key32 n)) = _
  by_cases e : t.c.n = n
  · rw [e, WideAt.sameKey_self (key32_lit n)]
    simp
  · rw [sameKey_ne (fun hh => e (key32_inj _ _ hh))]
    simp [e]
theorem cuE_len (L : List CurL) : (cuE L).length = L.length := by simp [cuE]

set_option maxRecDepth 100000 in
set_option maxHeartbeats 1600000 in
theorem cown_yes (w : World) (lo x m last idle : Nat) (L : List CurL) (h : TabQ w lo x m L last idle) (t : CurL) (ht : t ∈ L) :
    Calls Try.prog 30 #[.pointer (some ⟨x, 0, none⟩), .int .u64 (t.c.owner : Int), .int .u32 (t.c.n : Int)] w fun e w' => e = .returned (.pointer (some ⟨t.g, 0, none⟩)) ∧ w = w' := by
  have c1 : w.cell? ⟨x, 1, none⟩ = some (.map (some m)) := h.blk.cell 1
  have d0 : w.cell? ⟨t.g, 0, none⟩ = some (.int .u64 (t.c.owner : Int)) := (h.each t ht).blk.cell 0
  have HM := Lib.hid h.map
  have HE := Lib.hid (cuE_mem ht)
  have hn := Lib.hid (h.each t ht).n32
  clear h ht
  go_enter Try.func30, Try.ntmps30
  go_wp2_with (first | (at_lookup; refine cu_look _ rfl _ _ rfl m _ rfl HM.out t.c.n hn.out rfl _ HE.out ?_) | fail)
  go_ret
  exact ⟨rfl, rfl⟩
set_option maxRecDepth 100000 in
set_option maxHeartbeats 1600000 in
theorem cown_no (w : World) (lo x m last idle : Nat) (L : List CurL) (h : TabQ w lo x m L last idle) (owner n : Nat) (hn : n < 4294967296) (hno : ∀ t ∈ L, ¬ (t.c.n = n ∧ t.c.owner = owner)) :
    Calls Try.prog 30 #[.pointer (some ⟨x, 0, none⟩), .int .u64 (owner : Int), .int .u32 (n : Int)] w fun e w' => e = .returned (.pointer none) ∧ w = w' := by
  have c1 : w.cell? ⟨x, 1, none⟩ = some (.map (some m)) := h.blk.cell 1
  have HM := Lib.hid h.map
  have HN := Lib.hid hn
  by_cases hx : ∃ t ∈ L, t.c.n = n
  · obtain ⟨t, ht, rfl⟩ := hx
    have d0 : w.cell? ⟨t.g, 0, none⟩ = some (.int .u64 (t.c.owner : Int)) := (h.each t ht).blk.cell 0
    have hne : ¬ t.c.owner = owner := fun e => hno t ht ⟨rfl, e⟩
    have HE := Lib.hid (cuE_mem ht)
    clear h ht hno hn
    go_enter Try.func30, Try.ntmps30
    go_wp2_with (first | (at_lookup; refine cu_look _ rfl _ _ rfl m _ rfl HM.out t.c.n HN.out rfl _ HE.out ?_) | fail)
    go_ret
    exact ⟨rfl, rfl⟩
  · have HE := Lib.hid (cuE_not (L := L) (n := n) fun t ht e => hx ⟨t, ht, e⟩)
    clear h hno hn hx
    go_enter Try.func30, Try.ntmps30
    go_wp2_with (first | (at_lookup; refine cu_none _ rfl _ _ rfl m _ rfl HM.out n HN.out rfl HE.out ?_) | fail)
    go_ret
    exact ⟨rfl, rfl⟩
set_option maxRecDepth 100000 in
set_option maxHeartbeats 1600000 in
theorem cnew_any (w : World) (idle : Nat) (hi : idle < 4294967296) : Calls Try.prog 6 #[.int .u32 (idle : Int)] w fun e w' => ∃ x F, e = .returned (.pointer (some ⟨x, 0, none⟩)) ∧ Below w.heap.size w w' ∧ CIs w' w.heap.size x F ⟨[], 0, idle⟩ := by
  obtain ⟨w1, hw1⟩ : ∃ w1, w.alloc (.map #[] 0) = w1 := ⟨_, rfl⟩
  obtain ⟨w2, hw2⟩ : ∃ w2, w1.alloc (.cells #[.int .u32 (idle : Int), .map (some w.heap.size), .int .u32 0] 76) = w2 := ⟨_, rfl⟩
  have b1 : Below w.heap.size w w1 := by rw [← hw1]; exact (Below.refl _ _).alloc (Nat.le_refl _) _
  have b2 : Below w1.heap.size w1 w2 := by rw [← hw2]; exact (Below.refl _ _).alloc (Nat.le_refl _) _
  have hs1 : w1.heap.size = w.heap.size + 1 := by rw [← hw1]; simp
  have R := Lib.hid (show Below w.heap.size w w2 ∧ CIs w2 w.heap.size (w.heap.size + 1) (fpQ (w.heap.size + 1) w.heap.size []) ⟨[], 0, idle⟩ from by
    rw [← hs1]
    have hM : MapE w1 Try.prog 22 w.heap.size [] := by rw [← hw1]; exact MapE.made w Try.prog 22
    have hb : Blk w2 w1.heap.size 76 [.int .u32 (idle : Int), .map (some w.heap.size), .int .u32 0] := by rw [← hw2]; exact Blk.new _ _ _
    exact ⟨below_on b1 b2, w.heap.size, [], ⟨hb, by omega, Nat.le_refl _, hM.on b2, by simp, by simp, by simp, Nat.succ_pos _, hi⟩, rfl, rfl⟩)
  clear b1 b2
  have hmm := @run_makeMap Try.prog
  go_enter Try.func6, Try.ntmps6
  go_wp2
  go_ret
  exact ⟨_, _, rfl, R.out.1, R.out.2⟩
set_option maxRecDepth 100000 in
set_option maxHeartbeats 1600000 in
theorem clen_any (w : World) (lo x : Nat) (F : List Nat) (s : CTab) (h : CIs w lo x F s) :
    Calls Try.prog 23 #[.pointer (some ⟨x, 0, none⟩)] w fun e w' => e = .returned (.int .i64 (s.cs.length : Int)) ∧ w = w' := by
  obtain ⟨m, L, h1, h2, -⟩ := h
  have c1 : w.cell? ⟨x, 1, none⟩ = some (.map (some m)) := h1.blk.cell 1
  have HM := Lib.hid h1.map
  have HL := Lib.hid (show (cuE L).length = s.cs.length from by rw [h2, cuE_len, List.length_map])
  clear h1 h2
  go_enter Try.func23, Try.ntmps23
  go_wp2_with (first | (at_len; refine cu_len _ rfl _ rfl m _ _ HL.out rfl HM.out ?_) | fail)
  go_ret
  exact ⟨rfl, rfl⟩
set_option maxRecDepth 100000 in
set_option maxHeartbeats 1600000 in
/-- One cursor is taken out. -/
theorem cdrop_any (w : World) (lo x m last idle : Nat) (L : List CurL) (h : TabQ w lo x m L last idle) (t : CurL) (ht : t ∈ L) :
    Calls Try.prog 25 #[.pointer (some ⟨x, 0, none⟩), .int .u32 (t.c.n : Int)] w fun e w' => e = .returned (.int .i64 t.c.pin) ∧ TabQ w' lo x m (L.filter fun s => decide (s.c.n ≠ t.c.n)) last idle ∧ Kept [m] w w' := by
  have c1 : w.cell? ⟨x, 1, none⟩ = some (.map (some m)) := h.blk.cell 1
  have d1 : w.cell? ⟨t.g, 1, none⟩ = some (.int .i64 t.c.pin) := (h.each t ht).blk.cell 1
  have HM := Lib.hid h.map
  have HE := Lib.hid (cuE_mem ht)
  have hn := Lib.hid (h.each t ht).n32
  have FIN := Lib.hid (fun (w' : World) (hm : MapE w' Try.prog 22 m (dropE (cuE L) (key32 t.c.n))) (hk : Kept [m] w w') => show TabQ w' lo x m (L.filter fun s => decide (s.c.n ≠ t.c.n)) last idle ∧ Kept [m] w w' from by
    rw [cuE_drop] at hm
    exact ⟨h.fewer hm hk, hk⟩)
  clear h ht
  go_enter Try.func25, Try.ntmps25
  go_wp2_with (first
    | (at_lookup; refine cu_look _ rfl _ _ rfl m _ rfl HM.out t.c.n hn.out rfl _ HE.out ?_)
    | (at_delete; refine cu_del _ rfl _ _ rfl m _ rfl HM.out t.c.n hn.out rfl ?_; intro w2 hm2 hk2)
    | fail)
  have R := Lib.hid (FIN.out w2 hm2 hk2)
  clear hm2 hk2
  go_wp2
  go_ret
  exact ⟨rfl, R.out⟩
set_option maxRecDepth 100000 in
set_option maxHeartbeats 1600000 in
theorem cmay_any (w : World) (g : Nat) (t : CurL) (h : Blk w t.g 85 t.cells) (hg : t.g = g) (page : Nat) (hp : page < 4294967296) :
    Calls Try.prog 31 #[.pointer (some ⟨g, 0, none⟩), .int .u32 (page : Int)] w fun e w' => e = .returned (.bool (t.c.may page)) ∧ w = w' := by
  rw [hg] at h
  obtain ⟨td, htd⟩ : ∃ td, t.c.told = td := ⟨_, rfl⟩
  have c7 : w.cell? ⟨g, 7, none⟩ = some (.int .u32 (td : Int)) := by rw [← htd]; exact h.cell 7
  have hm : t.c.may page = decide (0 < page ∧ (page = td ∨ page = td + 1)) := by rw [← htd]; rfl
  rw [hm]
  clear h hm htd hg
  by_cases h0 : page = 0
  · subst h0
    have R := Lib.hid (show decide (0 < 0 ∧ (0 = td ∨ 0 = td + 1)) = false from decide_eq_false (by omega))
    go_enter Try.func31, Try.ntmps31
    go_wp2
    go_ret
    exact ⟨by rw [R.out]; rfl, rfl⟩
  · have hd0 : decide (0 < page) = true := decide_eq_true (by omega)
    obtain ⟨p1, hp1⟩ : ∃ p1, page - 1 = p1 := ⟨_, rfl⟩
    have hpw : IntKind.u32.wrap ((page : Int) - 1) = (p1 : Int) := by rw [IntKind.wrap_u32]; omega
    by_cases h1 : page = td
    · have R := Lib.hid (show decide (0 < page ∧ (page = td ∨ page = td + 1)) = true from decide_eq_true (by omega))
      have hb : ((page : Int) == (td : Int)) = true := by rw [beq_iff_eq]; omega
      clear h0 h1 hp1
      go_enter Try.func31, Try.ntmps31
      go_wp2
      go_ret
      exact ⟨by rw [R.out]; rfl, rfl⟩
    · have hb : ((page : Int) == (td : Int)) = false := by rw [beq_eq_false_iff_ne]; omega
      by_cases h2 : p1 = td
      · have R := Lib.hid (show decide (0 < page ∧ (page = td ∨ page = td + 1)) = true from decide_eq_true (by omega))
        have hb2 : ((p1 : Int) == (td : Int)) = true := by rw [beq_iff_eq]; omega
        clear h0 h1 hp1 h2
        go_enter Try.func31, Try.ntmps31
        go_wp2
        go_ret
        exact ⟨by rw [R.out]; rfl, rfl⟩
      · have R := Lib.hid (show decide (0 < page ∧ (page = td ∨ page = td + 1)) = false from decide_eq_false (by omega))
        have hb2 : ((p1 : Int) == (td : Int)) = false := by rw [beq_eq_false_iff_ne]; omega
        clear h0 h1 hp1 h2
        go_enter Try.func31, Try.ntmps31
        go_wp2
        go_ret
        exact ⟨by rw [R.out]; rfl, rfl⟩
theorem end_info : (Try.prog.info? 83).map (·.size) = some 3 := by kernel_rfl
def EndV.agg (e : EndV) : Value := .agg #[.bool e.has, .int .i64 e.dist, .int .u32 e.id]
set_option maxRecDepth 100000 in
set_option maxHeartbeats 1600000 in
theorem cend_any (w : World) (g : Nat) (t : CurL) (h : Blk w t.g 85 t.cells) (hg : t.g = g) (page : Nat) :
    Calls Try.prog 43 #[.pointer (some ⟨g, 0, none⟩), .int .u32 (page : Int)] w fun e w' => e = .returned (t.c.behind page).agg ∧ Below w.heap.size w w' := by
  rw [hg] at h
  obtain ⟨td, htd⟩ : ∃ td, t.c.told = td := ⟨_, rfl⟩
  obtain ⟨⟨ah, ad, ai⟩, hae⟩ : ∃ e, t.c.ahead = e := ⟨_, rfl⟩
  obtain ⟨⟨lh, ld, li⟩, hle⟩ : ∃ e, t.c.last = e := ⟨_, rfl⟩
  have hm : t.c.behind page = if page = td then ⟨ah, ad, ai⟩ else ⟨lh, ld, li⟩ := by rw [← htd, ← hae, ← hle]; rfl
  have hlt := h.lt
  obtain ⟨w1, hw1⟩ : ∃ w1, w.alloc (.cells #[.bool false, .int .i64 0, .int .u32 0] 83) = w1 := ⟨_, rfl⟩
  have hb1 : Below w.heap.size w w1 := by rw [← hw1]; exact (Below.refl _ _).alloc (Nat.le_refl _) _
  have h1 : Blk w1 g 85 t.cells := by rw [← hw1]; exact h.alloc _
  have c7 : w1.cell? ⟨g, 7, none⟩ = some (.int .u32 (td : Int)) := by rw [← htd]; exact h1.cell 7
  have c8 : w1.cell? ⟨g, 8, none⟩ = some (.bool ah) := by rw [show ah = t.c.ahead.has by rw [hae]]; exact h1.cell 8
  have c9 : w1.cell? ⟨g, 9, none⟩ = some (.int .i64 ad) := by rw [show ad = t.c.ahead.dist by rw [hae]]; exact h1.cell 9
  have c10 : w1.cell? ⟨g, 10, none⟩ = some (.int .u32 ai) := by rw [show ai = t.c.ahead.id by rw [hae]]; exact h1.cell 10
  have c11 : w1.cell? ⟨g, 11, none⟩ = some (.bool lh) := by rw [show lh = t.c.last.has by rw [hle]]; exact h1.cell 11
  have c12 : w1.cell? ⟨g, 12, none⟩ = some (.int .i64 ld) := by rw [show ld = t.c.last.dist by rw [hle]]; exact h1.cell 12
  have c13 : w1.cell? ⟨g, 13, none⟩ = some (.int .u32 li) := by rw [show li = t.c.last.id by rw [hle]]; exact h1.cell 13
  have N1 : Blk w1 w.heap.size 83 [.bool false, .int .i64 0, .int .u32 0] := by rw [← hw1]; exact Blk.new _ _ _
  rw [hm]
  have HB := Lib.hid hb1
  have HN := Lib.hid N1
  clear h h1 hm hae hle htd hg hb1 N1
  by_cases hp : page = td
  · have hb : ((page : Int) == (td : Int)) = true := by rw [beq_iff_eq]; omega
    rw [if_pos hp]
    clear hp
    have FIN := Lib.hid (show Below w.heap.size w (((w1.setCell ⟨w.heap.size, 0, none⟩ (.bool ah)).setCell ⟨w.heap.size, 1, none⟩ (.int .i64 ad)).setCell ⟨w.heap.size, 2, none⟩ (.int .u32 ai)) from ((HB.out.setCell (p := ⟨_, 0, none⟩) (Nat.le_refl _) _).setCell (p := ⟨_, 1, none⟩) (Nat.le_refl _) _).setCell (p := ⟨_, 2, none⟩) (Nat.le_refl _) _)
    have R1 := Lib.hid (((HN.out.set 0 (.bool ah)).set 1 (.int .i64 ad)).set 2 (.int .u32 ai))
    have n0 : w1.cell? ⟨w.heap.size, 0, none⟩ = some (.bool false) := HN.out.cell 0
    have n1 : w1.cell? ⟨w.heap.size, 1, none⟩ = some (.int .i64 0) := HN.out.cell 1
    have n2 : w1.cell? ⟨w.heap.size, 2, none⟩ = some (.int .u32 0) := HN.out.cell 2
    have q0 := HN.out.frozen 0
    have q1 := HN.out.frozen 1
    have q2 := HN.out.frozen 2
    go_enter Try.func43, Try.ntmps43
    go_wp2_with (first | (rw [hw1]) | fail)
    refine bodyPost_ret (results_cell_row rfl _ _ w.heap.size 83 #[.bool ah, .int .i64 ad, .int .u32 ai] (0, 0) _ rfl R1.out Try.underlying83 rfl end_info) rfl ?_
    exact ⟨rfl, FIN.out⟩
  · have hb : ((page : Int) == (td : Int)) = false := by rw [beq_eq_false_iff_ne]; omega
    rw [if_neg hp]
    clear hp
    have FIN := Lib.hid (show Below w.heap.size w (((w1.setCell ⟨w.heap.size, 0, none⟩ (.bool lh)).setCell ⟨w.heap.size, 1, none⟩ (.int .i64 ld)).setCell ⟨w.heap.size, 2, none⟩ (.int .u32 li)) from ((HB.out.setCell (p := ⟨_, 0, none⟩) (Nat.le_refl _) _).setCell (p := ⟨_, 1, none⟩) (Nat.le_refl _) _).setCell (p := ⟨_, 2, none⟩) (Nat.le_refl _) _)
    have R1 := Lib.hid (((HN.out.set 0 (.bool lh)).set 1 (.int .i64 ld)).set 2 (.int .u32 li))
    have n0 : w1.cell? ⟨w.heap.size, 0, none⟩ = some (.bool false) := HN.out.cell 0
    have n1 : w1.cell? ⟨w.heap.size, 1, none⟩ = some (.int .i64 0) := HN.out.cell 1
    have n2 : w1.cell? ⟨w.heap.size, 2, none⟩ = some (.int .u32 0) := HN.out.cell 2
    have q0 := HN.out.frozen 0
    have q1 := HN.out.frozen 1
    have q2 := HN.out.frozen 2
    go_enter Try.func43, Try.ntmps43
    go_wp2_with (first | (rw [hw1]) | fail)
    refine bodyPost_ret (results_cell_row rfl _ _ w.heap.size 83 #[.bool lh, .int .i64 ld, .int .u32 li] (0, 0) _ rfl R1.out Try.underlying83 rfl end_info) rfl ?_
    exact ⟨rfl, FIN.out⟩
end Go.Proofs.Ytadkfedglkhgjaa
