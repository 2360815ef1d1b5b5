/-
  Copies in rows; Insert of hits. (IK, In, Io merged.)
-/
import Derived.Test.YtadkfedglkhgjaaGreatRg
import Derived.Laws.CopyRow
import Derived.Laws.Append
import Derived.Lib.AppendZeros
import Derived.Test.YtadkfedglkhgjaaGreatTq
import Derived.Lib.Overlaps
import Derived.Laws.Externs
import Derived.Deep.DeepMust
import Derived.Deep.RegionLaw
import Derived.Shelf.RegionOpenPlain
namespace Go.Proofs.YtadkfedglkhgjaaGreat
open Go.RowKit Go.ChangeShapes Go.WideShapes Go.ChangeAt

theorem run_append_zeros_grow {P : Program} (w : World) (t tn ty e : TypeId) (i : TypeInfo) (z : Value) (kn : IntKind) (ht : P.underlying t = some (.slice e)) (htn : P.underlying tn = some (.int kn)) (hi : P.info? e = some i) (hz : i.zero = some z)
    (b : Addr) (sLen sCap : Nat) (olds : List Value) (hlo : olds.length = sLen * i.size) (holds : ∀ j v, olds[j]? = some v → w.cell? (b.add j) = some v)
    (m : Nat) (h0 : 0 < m) (hs : 0 < i.size) (hg : sCap < sLen + m) (h63 : ((sLen + m : Nat) : Int) ≤ 4611686018427387904) (h48 : m * i.bytes ≤ 281474976710656) (hfit : Builtin.nextslicecap (sLen + m) sCap * i.bytes ≤ 281474976710656) :
    (Builtin.append_ #[t, tn] ty #[.slice (some b) sLen sCap, .int .i64 (m : Int)]).run P w =
      .ok (.slice (some ⟨w.heap.size, 0, none⟩) (sLen + m) (grownCap w (sLen + m) sCap e)) (w.drew.alloc (.cells (olds.toArray ++ Builtin.zeroCells z.cells m ++ Builtin.zeroCells z.cells (grownCap w (sLen + m) sCap e - (sLen + m))) e)) := by
  have hn : ¬ (sLen + m ≤ sCap) := by omega
  have hw : IntKind.i64.wrap (m : Int) = m := by rw [IntKind.wrap_i64]; omega
  have h63' : ¬ (9223372036854775807 < ((sLen : Int) + (m : Int))) := by omega
  have h48' : ¬ (281474976710656 < Builtin.nextslicecap (sLen + m) sCap * i.bytes) := by omega
  have h48i : ¬ (281474976710656 < (m : Int) * (i.bytes : Int)) := by
    rw [← Int.natCast_mul]
    omega
  have hneg : ¬ ((m : Int) < 0) := by omega
  have hns : ¬ (m * i.size = 0) := Nat.mul_ne_zero (by omega) (by omega)
  have hfo := run_firstCells_some (P := P) w.drew i.size sLen b sLen sCap olds hlo (by simpa using holds)
  simp [Builtin.append_, run_underlying ht, run_underlying htn, sizeOf, typeInfo, zeroValue, hi, hz, asInt, asIntOf, hw, hn, hneg, hns, h63', h48', h48i, Question.forced, hfo, newRow, grownCap]

theorem run_copyK {P : Program} (w : World) (dT sT ty elem t : TypeId) (k g o dLen dCap : Nat) (a : Addr) (sLen sCap : Nat) (cur cs : List Value)
    (hu : P.underlying dT = some (.slice elem)) (hs : (P.info? elem).map (·.size) = some k) (hg : Blk w g t cur) (hn : cs.length = Nat.min sLen dLen * k)
    (hsrc : ∀ j v, cs[j]? = some v → w.cell? (a.add j) = some v) (hfit : o + cs.length ≤ cur.length) (h1 : ∀ v ∈ cs, v.oneCell' = true) :
    ∃ v w', (Builtin.copy_ #[dT, sT] ty #[.slice (some ⟨g, o, none⟩) dLen dCap, .slice (some a) sLen sCap]).run P w = .ok v w' ∧ Blk w' g t (cur.take o ++ cs ++ cur.drop (o + cs.length)) ∧ Kept [g] w w' := by
  have hl := run_loadCells_list (P := P) w a cs hsrc
  have hst := run_storeCells_at P g o t cs 0 cur.toArray w hg (by simpa using hfit) h1
  refine ⟨goInt (Nat.min sLen dLen), w.setRow g (cur.take o ++ cs ++ cur.drop (o + cs.length)).toArray, ?_, ?_, ?_⟩
  · cases hq : P.info? elem with
    | none => simp [hq] at hs
    | some i =>
      have hi : i.size = k := by simpa [hq] using hs
      simp only [Nat.add_zero] at hst
      simp [Builtin.copy_, run_underlying hu, Builtin.lenOf, Builtin.firstCells, sizeOf, typeInfo, hq, hi, ← hn, hl, hst]
  · exact setRow_heap w g cur.toArray _ t (0, 0) hg
  · refine ⟨rfl, rfl, rfl, ?_, fun b hb hx => ?_⟩
    · simp [World.setRow]
    · simp at hx
      exact setRow_other w g b _ hx

theorem wpList_copyK {P : Program} (w : World) {ops : Array Oper} {rest : List Oper} {o : Oper} {a : Act} {Q : Exit → Act → World → Prop} (hgd : o.guard = none) (d s : Operand) (t t' : TypeId)
    (ho : o.op = .call { callee := .builtin .copy, args := #[d, s], argTypes := #[t, t'] }) (v u : Value) (hd : a.eval d = v) (hs : a.eval s = u) {v' : Value} {w' : World}
    (hr : (Builtin.copy_ #[t, t'] o.type #[v, u]).run P w = .ok v' w') (h : wpList P ops Q rest (a.put o.dst v') w') : wpList P ops Q (o :: rest) a w := by
  have hw : Region.wanted o (yielded ops a.tmps) = true := by simp [Region.wanted, hgd]
  refine BigFrame.wpList_want hw fun K' hK => ?_
  unfold Oper.wp execOp
  simp only [ho, resolve, invoke, builtin, Sem.run_bind, Sem.run_pure, Result.andThen_ok, List.map_toArray, List.map_cons, List.map_nil, hd, hs, hr]
  exact hK _ _ h
theorem step_copyK {P : Program} {ops : Array Oper} {o : Oper} {a : Act} {w : World} {K : Act → World → Prop} {Q : Exit → Act → World → Prop} {E : Prop}
    (hg : o.guard = none) (d x : Operand) (dT sT : TypeId) (hop : o.op = Op.call { callee := Callee.builtin Builtin.copy, args := #[d, x], argTypes := #[dT, sT] })
    (v u : Value) (hd : a.eval d = v) (hx : a.eval x = u) {v' : Value} {w' : World} (hr : (Builtin.copy_ #[dT, sT] o.type #[v, u]).run P w = .ok v' w') (hK : K (a.put o.dst v') w') :
    if Region.wanted o (yielded ops a.tmps) = true then Oper.wp P o a w K Q else E := by
  have hw : Region.wanted o (yielded ops a.tmps) = true := by simp [Region.wanted, hg]
  rw [if_pos hw]
  unfold Oper.wp
  simp [execOp, hop, resolve, invoke, builtin, hd, hx, hr, Result.andThen]
  exact hK
theorem OwnB.mk11 {w : World} {lo g cap : Nat} {xs : List Hit} {rest : List Value} (hb : Blk w g 51 (flat xs ++ rest)) (hlo : lo ≤ g) (hn : xs.length ≤ cap) (hcap : cap ≤ maxLen) (hl : (flat xs ++ rest).length = cap * 2) : OwnB w lo (.slice (some ⟨g, 0, none⟩) xs.length cap) xs :=
  ⟨flat_len xs, .inr ⟨g, cap, _, rfl, hlo, hb, hn, hcap, by simpa using hl, by
    have := flat_len xs
    simp [this]⟩⟩
theorem hit_szI : (Tryz.prog.info? 51).map (·.size) = some 2 := by kernel_rfl
theorem hit_sz11 (w : World) : (Go.sizeOf 51).run Tryz.prog w = .ok 2 w := by
  obtain ⟨i0, hi, _, h1, _⟩ := info_parts hit_info
  simp [Go.sizeOf, typeInfo, hi, h1]
theorem shape_blk {w : World} {g : Nat} {t : TypeId} {cs : List Value} (h : Blk w g t cs) : w.shape? g = some (t, cs.length) := by
  unfold Blk at h
  simp [World.shape?, h]
theorem overlaps_no (w : World) (gb g off la lb ca cb : Nat) (cs cs' : List Value) (h1 : Blk w gb 51 cs) (h2 : Blk w g 51 cs') (hne : gb ≠ g) (hl : cs'.length ≠ 0) :
    (callFunc 144 #[.slice (some ⟨gb, 0, none⟩) la ca, .slice (some ⟨g, off, none⟩) lb cb]).run Tryz.prog w = .ok (.value (.bool false)) w := by
  rw [run_callFunc_extern Tryz.func144 (by kernel_rfl) (by kernel_rfl) (by kernel_rfl) (e := Extern.SlicesOverlaps.overlaps #[47, 47] #[4]) (by kernel_rfl),
    Lib.run_overlaps_apart w 47 4 51 Tryz.underlying47 2 hit_sz11 ⟨gb, 0, none⟩ ⟨g, off, none⟩ la ca lb cb hne _ _ _ _ (shape_blk h1) (shape_blk h2) hl (h1.frozen 0) (h1.frozen _)]
  rfl
theorem flat_drop (l : List Hit) (k : Nat) : (flat l).drop (k * 2) = flat (l.drop k) := by
  have h := flat_split l k
  have e := flat_len (l.take k)
  by_cases hk : k ≤ l.length
  · rw [h, List.drop_left' (by rw [e]; simp; omega)]
  · rw [List.drop_of_length_le (by rw [flat_len]; omega), List.drop_of_length_le (by omega)]
    rfl
/-- Room is made, and one is put in. -/
theorem ins_cells (xs : List Hit) (x : Hit) (rest : List Value) (k n : Nat) (hn : xs.length = n) (hk : k ≤ n) (hr : 2 ≤ rest.length) :
    ((((flat xs ++ rest).take ((k + 1) * 2) ++ flat (xs.drop k) ++ (flat xs ++ rest).drop ((k + 1) * 2 + (flat (xs.drop k)).length)).take (k * 2)) ++ [Value.int .i64 x.1, .int .u32 x.2] ++ (((flat xs ++ rest).take ((k + 1) * 2) ++ flat (xs.drop k) ++ (flat xs ++ rest).drop ((k + 1) * 2 + (flat (xs.drop k)).length)).drop (k * 2 + 2))) = flat (xs.take k ++ x :: xs.drop k) ++ rest.drop 2 := by
  have e0 := flat_len xs
  have e1 := flat_len (xs.drop k)
  rw [List.length_drop] at e1
  have e2 : (flat xs ++ rest).take (k * 2) = flat (xs.take k) := by
    rw [List.take_append_of_le_length (by omega), flat_take]
  have e3 : ((flat xs ++ rest).take ((k + 1) * 2)).length = (k + 1) * 2 := by
    rw [List.length_take, List.length_append]
    omega
  have e4 : (((flat xs ++ rest).take ((k + 1) * 2) ++ flat (xs.drop k)) ++ (flat xs ++ rest).drop ((k + 1) * 2 + (flat (xs.drop k)).length)).take (k * 2) = flat (xs.take k) := by
    rw [List.take_append_of_le_length (by rw [List.length_append, e3]; omega), List.take_append_of_le_length (by rw [e3]; omega), List.take_take, Nat.min_eq_left (by omega), e2]
  have e5 : (((flat xs ++ rest).take ((k + 1) * 2) ++ flat (xs.drop k)) ++ (flat xs ++ rest).drop ((k + 1) * 2 + (flat (xs.drop k)).length)).drop (k * 2 + 2) = flat (xs.drop k) ++ rest.drop 2 := by
    rw [List.append_assoc, List.drop_left' (by rw [e3]; omega)]
    congr 1
    rw [List.drop_append, List.drop_of_length_le (by omega), List.nil_append]
    congr 1
    omega
  rw [e4, e5, flat_app]
  simp [flat]
def InsPost (lo : Nat) (v : Value) (xs : List Hit) (w : World) (e : Ending) (w' : World) : Prop := ∃ v', e = .returned v' ∧ OwnB w' lo v' xs ∧ Kept (ownB v) w w' ∧ Grows w (ownB v) (ownB v')
set_option maxRecDepth 100000 in
set_option maxHeartbeats 3200000 in
theorem insert_mid (w : World) (lo g n c k gb : Nat) (x : Hit) (xs : List Hit) (h : OwnB w lo (.slice (some ⟨g, 0, none⟩) n c) xs) (hk : k < n) (hb : Blk w gb 51 [.int .i64 x.1, .int .u32 x.2]) (hgb : gb ≠ g) (hl : xs.length ≤ 100000) (hroom : n + 1 ≤ c) :
    Calls Tryz.prog 136 #[.slice (some ⟨g, 0, none⟩) n c, .int .i64 (k : Int), .slice (some ⟨gb, 0, none⟩) 1 1] w (InsPost lo (.slice (some ⟨g, 0, none⟩) n c) (xs.take k ++ x :: xs.drop k) w) := by
  obtain ⟨rest, rfl, hg, hn, hcap, hlen⟩ := h.own.blk
  obtain ⟨n, hxl⟩ : ∃ n, xs.length = n := ⟨_, rfl⟩
  rw [hxl] at hk hl hroom hn ⊢
  unfold maxLen at hcap
  have hc2 : c ≤ 9223372036854775807 := by omega
  have hc1 : ¬ c = k := by omega
  have hc3 : ¬ c = k + 1 := by omega
  have hw2 : IntKind.i64.wrap ((k : Int) + 1) = (k : Int) + 1 := by rw [IntKind.wrap_i64]; omega
  have hq1 : (0 : Int) ≤ (k : Int) + 1 := by omega
  have hq2 : k ≤ n := by omega
  have hq3 : ((k : Int) + 1).toNat = k + 1 := by omega
  have hq4 : (k : Int) ≤ (n : Int) + 1 := by omega
  have d0 : ((k : Int) == (n : Int)) = false := by simp; omega
  have d1 : decide ((c : Int) < (n : Int) + 1) = false := decide_eq_false (by omega)
  have hfl := flat_len xs
  have hfd := flat_len (xs.drop k)
  rw [List.length_drop, hxl] at hfd
  rw [List.length_append, hfl, hxl] at hlen
  have hov := overlaps_no w gb g ((k + 1) * 2) 1 (n - k) 1 (c - (k + 1)) _ _ hb hg hgb (by rw [List.length_append, hfl]; omega)
  have hglo := (World.ownsRow.lt h g rfl).1
  obtain ⟨v1, w1, hr1, hb1, hk1⟩ := run_copyK (P := Tryz.prog) w.drew 47 47 3 51 51 2 g ((k + 1) * 2) (n - k) (c - (k + 1)) ⟨g, k * 2, none⟩ (n + 1 - k) (c - k) (flat xs ++ rest) (flat (xs.drop k)) Tryz.underlying47 hit_szI hg (by rw [hfd]; simp only [Nat.min_def]; split <;> omega)
    (fun j u hj => by
      rw [add_plain]
      show w.cell? _ = _
      rw [hg.cell, ← hj, ← flat_drop, List.getElem?_drop, List.getElem?_append_left]
      have := (List.getElem?_eq_some_iff.1 hj).1
      omega) (by rw [List.length_append, hfl, hfd]; omega) (flat_one _)
  obtain ⟨v2, w2, hr2, hb2, hk2⟩ := run_copyK (P := Tryz.prog) w1 47 47 3 51 51 2 g (k * 2) (n + 1 - k) (c - k) ⟨gb, 0, none⟩ 1 1 _ [.int .i64 x.1, .int .u32 x.2] Tryz.underlying47 hit_szI hb1 (by simp only [Nat.min_def]; split <;> simp; omega)
    (fun j u hj => by
      rw [add_plain, Nat.zero_add, (hk1.blk (w := w.drew) hb (by simpa using hgb)).cell, ← hj]) (by simp only [List.length_append, List.length_take, List.length_drop, hfl, hfd, List.length_cons, List.length_nil]; omega) (by simp [Value.oneCell'])
  rw [show ([Value.int .i64 x.1, .int .u32 x.2] : List Value).length = 2 from rfl, ins_cells xs x rest k n hxl (by omega) (by omega)] at hb2
  have FIN := Lib.hid (show InsPost lo (.slice (some ⟨g, 0, none⟩) n c) (xs.take k ++ x :: xs.drop k) w (.returned (.slice (some ⟨g, 0, none⟩) (n + 1) c)) w2 from by
    have e : (xs.take k ++ x :: xs.drop k).length = n + 1 := by simp; omega
    refine ⟨_, rfl, ?_, ?_, fun b hb => .inl hb⟩
    · rw [← e]
      exact OwnB.mk11 hb2 hglo (by omega) (by unfold maxLen; omega) (by rw [List.length_append, flat_len, e, List.length_drop]; omega)
    · have k1 : Kept [g] w w1 := ((Kept.refl [g] w).drew).trans hk1 (Grows.refl _ _)
      exact (k1.trans hk2 (Grows.refl _ _)).mono fun b hb => by simp at hb; subst hb; exact mem_ownB.2 rfl)
  have HR1 := Lib.hid hr1
  clear h hg hb hgb hl hlen hfl hfd hglo hb1 hk1 hb2 hk2 hxl hcap hr1
  go_enter Tryz.func136, Tryz.ntmps136
  go_wp2_with (first | (simp only [hov]) | fail)
  go_region_law (refine step_copyK rfl _ _ 47 47 rfl _ _ (by simp [Act.eval, Act.put]) (by simp [Act.eval, Act.put]) HR1.out ?_)
  go_wp2
  go_ret
  exact FIN.out

set_option maxRecDepth 100000 in
set_option maxHeartbeats 3200000 in
theorem insert_grow (w : World) (lo g n c k gb : Nat) (x : Hit) (xs : List Hit) (h : OwnB w lo (.slice (some ⟨g, 0, none⟩) n c) xs) (hk : k < n) (hb : Blk w gb 51 [.int .i64 x.1, .int .u32 x.2]) (hl : xs.length ≤ 100000) (hroom : c < n + 1) :
    Calls Tryz.prog 136 #[.slice (some ⟨g, 0, none⟩) n c, .int .i64 (k : Int), .slice (some ⟨gb, 0, none⟩) 1 1] w (InsPost lo (.slice (some ⟨g, 0, none⟩) n c) (xs.take k ++ x :: xs.drop k) w) := by
  obtain ⟨rest, rfl, hg, hn, hcap, hlen⟩ := h.own.blk
  obtain ⟨n, hxl⟩ : ∃ n, xs.length = n := ⟨_, rfl⟩
  rw [hxl] at hk hl hroom hn ⊢
  obtain rfl : c = n := by omega
  have hfl := flat_len xs
  have hfd := flat_len (xs.drop k)
  have hft := flat_len (xs.take k)
  rw [List.length_drop, hxl] at hfd
  rw [List.length_take, hxl, Nat.min_eq_left (by omega)] at hft
  rw [List.length_append, hfl, hxl] at hlen
  obtain ⟨i0, hi, hz0, hz1, hz2⟩ := info_parts hit_info
  obtain ⟨C, hC⟩ : ∃ C, grownCap w (k + (c + 1 - k)) c 51 = C := ⟨_, rfl⟩
  have hC1 : c + 1 ≤ C := by rw [← hC]; have := grownCap_ge w (k + (c + 1 - k)) c 51; omega
  have hC2 : C ≤ maxLen := by rw [← hC]; exact grownCap_le_maxLen w _ c 51 (by unfold maxLen; omega)
  have hnext : Builtin.nextslicecap (k + (c + 1 - k)) c ≤ 4000000 := by
    have := nextslicecap_le (show c < k + (c + 1 - k) by omega)
    omega
  have hap := run_append_zeros_grow (P := Tryz.prog) w 47 3 47 51 i0 (.agg #[.int .i64 0, .int .u32 0]) .i64 Tryz.underlying47 Tryz.underlying3 hi hz0 ⟨g, 0, none⟩ k c (flat (xs.take k)) (by rw [hft, hz1]) (fun j u hj => by
    have hjl := (List.getElem?_eq_some_iff.1 hj).1
    rw [add_plain, Nat.zero_add, hg.cell, ← hj, ← flat_take, List.getElem?_take_of_lt (by omega), List.getElem?_append_left (by omega)]) (c + 1 - k) (by omega) (by rw [hz1]; decide) (by omega) (by omega) (by rw [hz2]; omega) (by rw [hz2]; omega)
  rw [hC] at hap
  obtain ⟨A, hA⟩ : ∃ A, (flat (xs.take k)).toArray ++ Builtin.zeroCells (Value.agg #[.int .i64 0, .int .u32 0]).cells (c + 1 - k) ++ Builtin.zeroCells (Value.agg #[.int .i64 0, .int .u32 0]).cells (C - (k + (c + 1 - k))) = A := ⟨_, rfl⟩
  rw [hA, show k + (c + 1 - k) = c + 1 by omega] at hap
  have hAl : A.toList.length = C * 2 := by
    rw [← hA]
    simp [Builtin.zeroCells, Value.cells, hft]
    omega
  have hAt : A.toList.take (k * 2) = flat (xs.take k) := by
    rw [← hA]
    simp only [Array.toList_append, List.append_assoc]
    rw [List.take_append_of_le_length (by simp [hft]), List.take_of_length_le (by simp [hft])]
  obtain ⟨w1, hw1⟩ : ∃ w1, w.drew.alloc (.cells A 51) = w1 := ⟨_, rfl⟩
  have hB1 : Blk w1 w.heap.size 51 A.toList := by
    rw [← hw1]
    exact Blk.new w.drew _ _
  have hK1 : Below w.heap.size w w1 := by
    rw [← hw1]
    exact ((Below.refl w.heap.size w).drew).alloc (Nat.le_refl _) _
  rw [hw1] at hap
  have hgb1 := (Kept.of_below (F := []) hK1 (Nat.le_refl _)).blk hb (by simp)
  have hg1 := (Kept.of_below (F := []) hK1 (Nat.le_refl _)).blk hg (by simp)
  obtain ⟨v2, w2, hr2, hb2, hk2⟩ := run_copyK (P := Tryz.prog) w1 47 47 3 51 51 2 w.heap.size (k * 2) (c + 1 - k) (C - k) ⟨gb, 0, none⟩ 1 1 _ [.int .i64 x.1, .int .u32 x.2] Tryz.underlying47 hit_szI hB1 (by simp only [Nat.min_def]; split <;> simp; omega)
    (fun j u hj => by rw [add_plain, Nat.zero_add, hgb1.cell, ← hj]) (by rw [hAl]; simp; omega) (by simp [Value.oneCell'])
  have hg2 := hk2.blk hg1 (by have := hg.lt; simp; omega)
  obtain ⟨v3, w3, hr3, hb3, hk3⟩ := run_copyK (P := Tryz.prog) w2.drew 47 47 3 51 51 2 w.heap.size ((k + 1) * 2) (c - k) (C - (k + 1)) ⟨g, k * 2, none⟩ (c - k) (c - k) _ (flat (xs.drop k)) Tryz.underlying47 hit_szI hb2 (by rw [hfd]; simp only [Nat.min_def]; split <;> omega)
    (fun j u hj => by
      rw [add_plain]
      show w2.cell? _ = _
      rw [hg2.cell, ← hj, ← flat_drop, List.getElem?_drop, List.getElem?_append_left]
      have := (List.getElem?_eq_some_iff.1 hj).1
      omega) (by simp only [List.length_append, List.length_take, List.length_drop, hAl, hfd, List.length_cons, List.length_nil]; omega) (flat_one _)
  rw [hAt] at hb3
  have e9 : (flat (xs.take k) ++ [Value.int .i64 x.1, .int .u32 x.2] ++ A.toList.drop (k * 2 + ([Value.int .i64 x.1, .int .u32 x.2] : List Value).length)).take ((k + 1) * 2) ++ flat (xs.drop k) = flat (xs.take k ++ x :: xs.drop k) := by
    rw [List.take_append_of_le_length (by simp [hft]; omega), List.take_of_length_le (by simp [hft]; omega), flat_app]
    simp [flat]
  rw [e9] at hb3
  have FIN := Lib.hid (show InsPost lo (.slice (some ⟨g, 0, none⟩) c c) (xs.take k ++ x :: xs.drop k) w (.returned (.slice (some ⟨w.heap.size, 0, none⟩) (c + 1) C)) w3 from by
    have e : (xs.take k ++ x :: xs.drop k).length = c + 1 := by simp; omega
    have hglo := (World.ownsRow.lt h g rfl)
    refine ⟨_, rfl, ?_, ?_, fun b hb => ?_⟩
    · rw [← e]
      exact OwnB.mk11 hb3 (by omega) (by omega) hC2 (by
        simp only [List.length_append, List.length_drop, flat_len, e, hAl, hfd, hft, List.length_cons, List.length_nil]
        omega)
    · have k1 : Kept [w.heap.size] w w3 := ((Kept.of_below (F := [w.heap.size]) hK1 (Nat.le_refl _)).trans hk2 (Grows.refl _ _)).trans ((Kept.refl [w.heap.size] w2).drew.trans hk3 (Grows.refl _ _)) (Grows.refl _ _)
      exact Kept.of_below (k1.below (by simp) (Nat.le_refl _)) (Nat.le_refl _)
    · have := mem_ownB.1 hb
      simp [Value.ownBlock] at this
      exact .inr (by omega))
  have HAP := Lib.hid hap
  have HR3 := Lib.hid hr3
  have hw2 : IntKind.i64.wrap ((k : Int) + 1) = (k : Int) + 1 := by rw [IntKind.wrap_i64]; omega
  have hw5 : IntKind.i64.wrap ((c : Int) + 1 - (k : Int)) = ((c + 1 - k : Nat) : Int) := by rw [IntKind.wrap_i64]; omega
  have hq1 : (0 : Int) ≤ (k : Int) + 1 := by omega
  have hq2 : k ≤ c := by omega
  have hq3 : ((k : Int) + 1).toNat = k + 1 := by omega
  have hq4 : (k : Int) ≤ (c : Int) + 1 := by omega
  have hq5 : ¬ C = k := by omega
  have hq6 : ¬ C = k + 1 := by omega
  have hq7 : ¬ c = k := by omega
  have hq8 : k ≤ C := by omega
  have d0 : ((k : Int) == (c : Int)) = false := by simp; omega
  have d1 : decide ((c : Int) < (c : Int) + 1) = true := decide_eq_true (by omega)
  have hcm : c ≤ 100000 := hl
  clear h hb hl hxl hg hn hcap hlen hfl hfd hft hi hz0 hz1 hz2 hC hnext hap hA hAl hAt hw1 hB1 hK1 hgb1 hg1 hb2 hk2 hg2 hr3 hb3 hk3 e9 hroom
  go_enter Tryz.func136, Tryz.ntmps136
  go_wp2_with (first | (at_builtin; go_must (refine Lib.wpList_append_run w rfl (.tmp 34) (.tmp 39) 47 3 rfl (.slice (some ⟨g, 0, none⟩) k c) (.int .i64 ((c + 1 - k : Nat) : Int)) rfl rfl _ _ HAP.out ?_)) | fail)
  go_region_law (refine step_copyK rfl _ _ 47 47 rfl _ _ (by simp [Act.eval, Act.put]) (by simp [Act.eval, Act.put]) HR3.out ?_)
  go_wp2
  go_ret
  exact FIN.out

set_option maxRecDepth 100000 in
set_option maxHeartbeats 3200000 in
theorem insert_end (w : World) (lo n c gb : Nat) (a : Option Addr) (x : Hit) (xs : List Hit) (h : OwnB w lo (.slice a n c) xs) (hb : Blk w gb 51 [.int .i64 x.1, .int .u32 x.2]) (hl : xs.length ≤ 100000) (hlo : lo ≤ w.heap.size) :
    Calls Tryz.prog 136 #[.slice a n c, .int .i64 (n : Int), .slice (some ⟨gb, 0, none⟩) 1 1] w (InsPost lo (.slice a n c) (xs ++ [x]) w) := by
  have hxl : n = xs.length := by
    obtain ⟨a', c', e⟩ := h.own.size
    simp only [Value.slice.injEq] at e
    exact e.2.1
  have hnc : n ≤ c ∧ c ≤ 9223372036854775807 ∧ (a = none → n = 0 ∧ c = 0) ∧ ∀ ad, a = some ad → ∃ g, ad = ⟨g, 0, none⟩ := by
    rcases h.2 with ⟨h1, h2⟩ | ⟨g, cap, cur, h1, _, _, h3, h4, _⟩
    · simp only [Value.slice.injEq] at h1
      obtain ⟨rfl, rfl, rfl⟩ := h1
      exact ⟨by omega, by omega, fun _ => ⟨rfl, rfl⟩, fun ad h => by cases h⟩
    · simp only [Value.slice.injEq] at h1
      obtain ⟨rfl, rfl, rfl⟩ := h1
      unfold maxLen at h4
      exact ⟨by omega, by omega, fun h => (by cases h), fun ad h => ⟨g, by cases h; rfl⟩⟩
  obtain ⟨hn1, hn2, hn3, hn4⟩ := hnc
  obtain ⟨i0, hi, hz0, hz1, hz2⟩ := info_parts hit_info
  obtain ⟨v', w', hr, ho, hgr, _, hloc⟩ := run_append_own_at (P := Tryz.prog) w lo 47 47 51 i0 _ 2 16 Tryz.underlying47 hi hz0 hz1 hz2 rfl (by omega) (.slice a n c) xs.length (flat xs) h ⟨gb, 0, none⟩ 1 1 [.int .i64 x.1, .int .u32 x.2] rfl (fun j u hj => by rw [add_plain, Nat.zero_add, hb.cell, ← hj]) (by simp [Value.oneCell']) (by unfold maxLen; omega) (by omega) hlo
  have HR := Lib.hid hr
  have FIN := Lib.hid (show InsPost lo (.slice a n c) (xs ++ [x]) w (.returned v') w' from by
    refine ⟨v', rfl, OwnB.snoc ho rfl, (Kept.refl _ w).grown hgr fun k hk => .inl (mem_ownB.2 hk), fun b hb => ?_⟩
    rcases hloc with e | e
    · exact .inl (mem_ownB.2 (by rw [← e]; exact mem_ownB.1 hb))
    · have := mem_ownB.1 hb
      rw [e] at this
      simp at this
      exact .inr (by omega))
  have HN4 := Lib.hid hn4
  clear h hb hl hlo hi hz0 hz1 hz2 hr ho hgr hloc hxl
  cases a with
  | none =>
    obtain ⟨rfl, rfl⟩ := hn3 rfl
    go_enter Tryz.func136, Tryz.ntmps136
    go_wp2_with (at_builtin; go_must (refine Lib.wpList_append_run w rfl (.tmp 23) (.tmp 24) 47 47 rfl (.slice none 0 0) (.slice (some ⟨gb, 0, none⟩) 1 1) rfl rfl _ _ HR.out ?_))
    go_ret
    exact FIN.out
  | some ad =>
    obtain ⟨g, rfl⟩ := hn4 ad rfl
    clear hn3 hn4
    by_cases hcn : c = n
    · subst hcn
      go_enter Tryz.func136, Tryz.ntmps136
      go_wp2_with (at_builtin; go_must (refine Lib.wpList_append_run w rfl (.tmp 23) (.tmp 24) 47 47 rfl (.slice (some ⟨g, 0, none⟩) c c) (.slice (some ⟨gb, 0, none⟩) 1 1) rfl rfl _ _ HR.out ?_))
      go_ret
      exact FIN.out
    · go_enter Tryz.func136, Tryz.ntmps136
      go_wp2_with (at_builtin; go_must (refine Lib.wpList_append_run w rfl (.tmp 23) (.tmp 24) 47 47 rfl (.slice (some ⟨g, 0, none⟩) n c) (.slice (some ⟨gb, 0, none⟩) 1 1) rfl rfl _ _ HR.out ?_))
      go_ret
      exact FIN.out
theorem insert_any (w : World) (lo n c k gb : Nat) (a : Option Addr) (x : Hit) (xs : List Hit) (h : OwnB w lo (.slice a n c) xs) (hk : k ≤ n) (hb : Blk w gb 51 [.int .i64 x.1, .int .u32 x.2]) (hgb : (Value.slice a n c).ownBlock ≠ some gb) (hl : xs.length ≤ 100000) (hlo : lo ≤ w.heap.size) :
    Calls Tryz.prog 136 #[.slice a n c, .int .i64 (k : Int), .slice (some ⟨gb, 0, none⟩) 1 1] w (InsPost lo (.slice a n c) (xs.take k ++ x :: xs.drop k) w) := by
  have hxl : n = xs.length := by
    obtain ⟨a', c', e⟩ := h.own.size
    simp only [Value.slice.injEq] at e
    exact e.2.1
  rcases Nat.lt_or_eq_of_le hk with hlt | rfl
  · rcases h.own.form with ⟨h1, h2⟩ | ⟨g, cap, rest, h1, _, h3, _⟩
    · simp only [Value.slice.injEq] at h1
      omega
    · simp only [Value.slice.injEq] at h1
      obtain ⟨rfl, rfl, rfl⟩ := h1
      by_cases hr : xs.length + 1 ≤ c
      · exact insert_mid w lo g _ c k gb x xs h hlt hb (fun e => hgb (by rw [e]; rfl)) hl hr
      · exact insert_grow w lo g _ c k gb x xs h hlt hb hl (by omega)
  · rw [List.take_of_length_le (by omega), List.drop_of_length_le (by omega)]
    exact insert_end w lo k c gb a x xs h hb hl hlo
end Go.Proofs.YtadkfedglkhgjaaGreat
