/-
  The document's table of uploads: Begin, by walks over its text.
-/
import Derived.Test.YtdlpifcfgfhagaaSgp
import Derived.Deep.AppendLies
namespace Go.Proofs.Ytdlpifcfgfhagaa
open Go.RowKit Go.ChangeShapes Go.WideShapes Go.ChangeAt

/-- append of one struct that the text has laid, in a region that draws. -/
theorem step_c13 {P : Program} {ops : Array Oper} {o : Oper} {act : Act} {K : Act → World → Prop} {Q : Exit → Act → World → Prop} {E : Prop} {lo k : Nat} {t : TypeId} {v : Value} {css : List (List Value)} (w : World) (hg : o.guard = none) (s y : Operand) (st : TypeId)
    (hop : o.op = .call { callee := .builtin .append, args := #[s, y], argTypes := #[st, st] }) (hu : P.underlying st = some (.slice t)) (z : Value) (sz : Nat) (hi : (P.info? t).map (fun i => (i.zero, i.size, i.bytes)) = some (some z, k, sz)) (hzc : z.cells.size = k) (hc0 : 0 < k)
    (cs : List Value) (hs : act.eval s = v) (hy : act.eval y = .slice (some ⟨w.heap.size, 0, none⟩) 1 1) (hown : RowC lo w t k v css) (hcs : cs.length = k) (h1 : ∀ u ∈ cs, u.oneCell' = true) (hlo : lo ≤ w.heap.size) (hb : (css.length + 1) * sz ≤ 140737488355328) (hl : css.length ≤ 2000000)
    (hK : ∀ v' w', RowC lo w' t k v' (css ++ [cs]) → Kept (ownB v) w w' → Grows w (ownB v) (ownB v') → K (act.put o.dst v') w') : if Region.wanted o (yielded ops act.tmps) = true then Oper.wp P o act (w.alloc (.cells cs.toArray t)) K Q else E := by
  have hw : Region.wanted o (yielded ops act.tmps) = true := by simp [Region.wanted, hg]
  rw [if_pos hw]
  obtain ⟨v', w', hr, h2, h3, h4⟩ := hown.app (P := P) st o.type hu z sz hi hzc hc0 cs hcs h1 hlo hb hl
  unfold Oper.wp execOp
  simp only [hop, resolve, invoke, builtin, Sem.run_bind, Sem.run_pure, Result.andThen_ok, List.map_toArray, List.map_cons, List.map_nil, hs, hy, hr]
  exact hK v' w' h2 h3 h4
set_option maxRecDepth 100000 in
set_option maxHeartbeats 1600000 in
theorem dbegin_full (w : World) (lo g last : Nat) (v : Value) (R : List UpR) (h : DTab w lo g v R last) (hf : 4 ≤ R.length) (owner : Nat) (name : ByteArray) :
    Calls Try.prog 11 #[.pointer (some ⟨g, 0, none⟩), .int .u64 (owner : Int), .string name] w fun e w' => e = .returned (.tuple #[.int .u32 0, .int .i64 4]) ∧ w = w' := by
  obtain ⟨va, vc, rfl, hvc⟩ := h.form
  obtain ⟨m, hm⟩ : ∃ m, R.length = m := ⟨_, rfl⟩
  have c0 : w.cell? ⟨g, 0, none⟩ = some (.slice va m vc) := by rw [← hm]; exact h.blk.cell 0
  rw [hm] at hf
  clear h hm hvc
  go_enter Try.func11, Try.ntmps11
  go_wp2
  go_ret2
  exact ⟨rfl, rfl⟩
def newR (l1 owner : Nat) (name : ByteArray) : UpR := ⟨.slice none 0 0, ⟨l1, owner, name, [], 0⟩⟩
set_option maxRecDepth 100000 in
set_option maxHeartbeats 1600000 in
theorem dbegin_new (w : World) (lo g last : Nat) (v : Value) (R : List UpR) (h : DTab w lo g v R last) (hl6 : last ≤ 1000000) (hf : R.length < 4) (owner : Nat) (ho : owner < 18446744073709551616) (name : ByteArray) :
    Calls Try.prog 11 #[.pointer (some ⟨g, 0, none⟩), .int .u64 (owner : Int), .string name] w fun e w' => e = .returned (.tuple #[.int .u32 ((last + 1 : Nat) : Int), .int .i64 0]) ∧ DPost lo g (fpR v g R) (R ++ [newR (last + 1) owner name]) (last + 1) w w' := by
  obtain ⟨l1, hl1⟩ : ∃ l1, last + 1 = l1 := ⟨_, rfl⟩
  have hlw : IntKind.u32.wrap ((last : Int) + 1) = (l1 : Int) := by rw [IntKind.wrap_u32]; omega
  have hlo : lo ≤ w.heap.size := Nat.le_of_lt (Nat.lt_of_le_of_lt h.glo h.blk.lt)
  obtain ⟨va, vc, hv, hvc⟩ := h.form
  obtain ⟨m, hm⟩ : ∃ m, R.length = m := ⟨_, rfl⟩
  have HPR := Lib.hid hv
  obtain ⟨w1, hw1⟩ : ∃ w1, w.setCell ⟨g, 1, none⟩ (.int .u32 (l1 : Int)) = w1 := ⟨_, rfl⟩
  have k1 : Kept [g] w w1 := by rw [← hw1]; exact (Kept.refl _ _).setCell _ _ (.inl (by simp))
  have hsz : w1.heap.size = w.heap.size := by rw [← hw1]; simp [World.setCell]
  have X1 : Blk w1 g 30 [v, .int .u32 (l1 : Int)] := by rw [← hw1]; exact h.blk.set 1 _
  have R1 : RowC lo w1 42 5 v (R.map UpR.cells) := h.row.kept k1 (rowC_not_blk13 h.row h.blk (by decide))
  have hwx : ∀ w2, Below w1.heap.size w1 w2 → w2.cell? ⟨g, 0, none⟩ = some (.slice va m vc) ∧ w2.cell? ⟨g, 1, none⟩ = some (.int .u32 (l1 : Int)) := fun w2 hb => by
    have hb2 := X1.of_eq (hb.block _ X1.lt)
    have e1 := hb2.cell 0
    rw [hv, hm] at e1
    exact ⟨e1, hb2.cell 1⟩
  have AFT := Lib.hid (fun (w8 : World) (v8 : Value) (hr : RowC lo w8 42 5 v8 (R.map UpR.cells ++ [(newR l1 owner name).cells])) (hk : Kept (ownB v) w1.drew w8) (hg : Grows w1.drew (ownB v) (ownB v8)) =>
    show w8.cell? ⟨g, 0, none⟩ = some (.slice va m vc) ∧ w8.frozen? ⟨g, 0, none⟩ = false ∧ (w8.setCell ⟨g, 0, none⟩ v8).cell? ⟨g, 1, none⟩ = some (.int .u32 (l1 : Int)) ∧ DPost lo g (fpR v g R) (R ++ [newR l1 owner name]) l1 w (w8.setCell ⟨g, 0, none⟩ v8) from by
    have hgv : g ∉ ownB v := fun hh => rowC_not_blk13 h.row h.blk (by decide) g (mem_ownB.1 hh) (by simp)
    have X8 : Blk w8 g 30 [v, .int .u32 (l1 : Int)] := hk.blk (show Blk w1.drew g _ _ from X1) hgv
    have X9 := X8.set 0 v8
    have k8 : Kept (fpR v g R) w w8 := (k1.mono (fun b hb => mem_fpR.2 (.inl (List.mem_singleton.1 hb)))).trans ((show Kept (ownB v) w1 w8 from ⟨hk.os, hk.tape, hk.output, hk.size, hk.block⟩).mono (G := fpR v g R) (fun b hb => mem_fpR.2 (.inr (.inl (mem_ownB.1 hb))))) (Grows.refl _ _)
    have k9 : Kept (fpR v g R) w (w8.setCell ⟨g, 0, none⟩ v8) := k8.setCell _ _ (.inl (mem_fpR.2 (.inl rfl)))
    have kg : Kept [g] w8 (w8.setCell ⟨g, 0, none⟩ v8) := (Kept.refl _ _).setCell _ _ (.inl (by simp))
    have e0 := X8.cell 0
    rw [hv, hm] at e0
    refine ⟨e0, X8.frozen 0, X9.cell 1, v8, ⟨X9, h.glo, ?_, fun t ht => ?_, by simp; omega, by omega⟩, k9, fun b hb => ?_⟩
    · rw [List.map_append, List.map_singleton]
      exact hr.kept kg (rowC_not_blk13 hr X8 (by decide))
    · rcases List.mem_append.1 ht with ht | ht
      · have hO := h.each t ht
        have hO1 := hO.kept k1 (fun b e => by have := (h.bytes_not hO.row b e).1; simpa using this)
        have hO8 := (show t.Ok w1.drew lo from ⟨⟨hO1.row.1, hO1.row.2⟩, hO1.n32, hO1.o64, hO1.p32, hO1.most⟩).kept hk (fun b e hb => (h.bytes_not hO.row b e).2 (mem_ownB.1 hb))
        exact hO8.kept kg (fun b e => by have := (h.bytes_not hO.row b e).1; simpa using this)
      · rw [List.mem_singleton.1 ht]
        exact ⟨OwnV.nil _ _ _, (by show l1 < 4294967296; omega), ho, Nat.zero_le _, Nat.zero_le _⟩
    · rcases mem_fpR.1 hb with e | e | ⟨t, ht, e⟩
      · exact .inl (mem_fpR.2 (.inl e))
      · rcases hg b (mem_ownB.2 e) with h1 | h1
        · exact .inl (mem_fpR.2 (.inr (.inl (mem_ownB.1 h1))))
        · exact .inr (by rw [← hsz]; exact h1)
      · rcases List.mem_append.1 ht with ht | ht
        · exact .inl (mem_fpR.2 (.inr (.inr ⟨t, ht, e⟩)))
        · rw [List.mem_singleton.1 ht] at e
          cases e)
  have c0 : w.cell? ⟨g, 0, none⟩ = some (.slice va m vc) := by rw [← hm, ← hv]; exact h.blk.cell 0
  have c1 : w.cell? ⟨g, 1, none⟩ = some (.int .u32 (last : Int)) := h.blk.cell 1
  have f1 := h.blk.frozen 1
  have d0 : w1.drew.cell? ⟨g, 0, none⟩ = some (.slice va m vc) := (hwx w1 (Below.refl _ _)).1
  have d1 : w1.drew.cell? ⟨g, 1, none⟩ = some (.int .u32 (l1 : Int)) := (hwx w1 (Below.refl _ _)).2
  have e0 := (hwx (w1.alloc (.cells #[.int .u32 (l1 : Int), .int .u64 (owner : Int), .string name, .slice none 0 0, .int .i64 0] 42)) ((Below.refl _ w1).alloc (Nat.le_refl _) _)).1
  have ROW := Lib.hid (show RowC lo w1.drew 42 5 (.slice va m vc) (R.map UpR.cells) from by rw [← hm, ← hv]; exact R1)
  have hlo1 : lo ≤ w1.drew.heap.size := by show lo ≤ w1.heap.size; omega
  have hm4 : m < 4 := by omega
  have HM := Lib.hid (show (R.map UpR.cells).length = m from by rw [List.length_map, hm])
  rw [hm] at hf
  rw [hl1]
  rw [hv] at AFT
  rw [hm] at AFT
  rw [hv, hm]
  clear h hlo hv hm hvc k1 hsz X1 R1 hwx hl1 HPR
  go_enter Try.func11, Try.ntmps11
  go_wp2_with (first | (rw [hw1]) | fail)
  go_region_law (refine step_c13 w1.drew (by rfl) (.tmp 26) (.tmp 34) 27 (by rfl) Try.underlying27 (.agg #[.int .u32 0, .int .u64 0, .string ⟨#[]⟩, .slice none 0 0, .int .i64 0]) 64 up_infoZ rfl (by decide) [.int .u32 (l1 : Int), .int .u64 (owner : Int), .string name, .slice none 0 0, .int .i64 0] (by rfl) (by rfl) ROW.out rfl (by simp [Value.oneCell']) hlo1 (by rw [HM.out]; omega) (by rw [HM.out]; omega) ?_; intro v8 w8 hr8 hk8 hg8; obtain ⟨a8, c8, e8, _⟩ := hr8.form; obtain ⟨n8, hn8⟩ : ∃ n8, (R.map UpR.cells ++ [(newR l1 owner name).cells]).length = n8 := ⟨_, rfl⟩; obtain rfl : v8 = .slice a8 n8 c8 := e8.trans (by rw [← hn8]; rfl); clear e8 hn8; obtain ⟨x0, y0, z1, FIN⟩ := AFT.out w8 _ hr8 hk8 hg8; have FIN := Lib.hid FIN; clear hr8 hk8 hg8)
  all_goals
    go_wp2
    go_ret2
    exact ⟨rfl, FIN.out⟩
end Go.Proofs.Ytdlpifcfgfhagaa
