/-
  The program's table of uploads: New, own, Len, Begin, by walks over their texts.
-/
import Derived.Test.YtdlpifcfgfhagaaSgb
import Derived.Deep.RegionLaw
import Derived.Deep.DeepMust
import Derived.Handy
import Derived.IntWalk
namespace Go.Proofs.Ytdlpifcfgfhagaa
open Go.RowKit Go.ChangeShapes Go.WideShapes Go.ChangeAt Go.Maps

section
variable {ops : Array Oper} {rest : List Oper} {o : Oper} {a : Act} {Q : Exit → Act → World → Prop}
theorem up_look (w : World) (hg : o.guard = none) (m x : Operand) (hop : o.op = Op.lookup 62 m x false) (b : Nat) (E : List (Lit × Value)) (hm : a.eval m = .map (some b)) (h : MapE w Try.prog 28 b E) (n : Nat) (hn : n < 4294967296) (hx : a.eval x = .int .u32 (n : Int)) (z : Value) (hz : (keyS n, z) ∈ E)
    (hK : wpList Try.prog ops Q rest (a.put o.dst z) w) : wpList Try.prog ops Q (o :: rest) a w :=
  map_found w hg m x _ hop 28 65 (Maps.int_keyed Try.underlying28) Try.underlying62 (Try.zeroValue65 w) b E hm h _ (keyS n) hx (Maps.keyOf_int_mk Try.underlying28 (keyS_wf hn)) (keyS_lit n) z hz hK
theorem up_none (w : World) (hg : o.guard = none) (m x : Operand) (hop : o.op = Op.lookup 62 m x false) (b : Nat) (E : List (Lit × Value)) (hm : a.eval m = .map (some b)) (h : MapE w Try.prog 28 b E) (n : Nat) (hn : n < 4294967296) (hx : a.eval x = .int .u32 (n : Int)) (hz : ∀ p ∈ E, p.1 ≠ keyS n)
    (hK : wpList Try.prog ops Q rest (a.put o.dst (.pointer none)) w) : wpList Try.prog ops Q (o :: rest) a w :=
  map_none w hg m x _ hop 28 65 (Maps.int_keyed Try.underlying28) Try.underlying62 (Try.zeroValue65 w) b E hm h _ (keyS n) hx (Maps.keyOf_int_mk Try.underlying28 (keyS_wf hn)) hz hK
theorem up_del (w : World) (hg : o.guard = none) (m x : Operand) (hop : o.op = Op.call { callee := Callee.builtin Builtin.delete, args := #[m, x], argTypes := #[62, 28] }) (b : Nat) (E : List (Lit × Value)) (hm : a.eval m = .map (some b)) (h : MapE w Try.prog 28 b E) (n : Nat) (hn : n < 4294967296) (hx : a.eval x = .int .u32 (n : Int))
    (hK : ∀ w', MapE w' Try.prog 28 b (dropE E (keyS n)) → Kept [b] w w' → wpList Try.prog ops Q rest (a.put o.dst (.tuple #[])) w') : wpList Try.prog ops Q (o :: rest) a w :=
  map_del w hg m x _ _ hop 65 (Maps.int_keyed Try.underlying28) Try.underlying62 b E hm h _ (keyS n) hx (Maps.keyOf_int_mk Try.underlying28 (keyS_wf hn)) hK
theorem up_len (w : World) (hg : o.guard = none) (m : Operand) (hop : o.op = Op.call { callee := Callee.builtin Builtin.len, args := #[m], argTypes := #[62] }) (b : Nat) (E : List (Lit × Value)) (n : Nat) (hn : E.length = n) (hm : a.eval m = .map (some b)) (h : MapE w Try.prog 28 b E)
    (hK : wpList Try.prog ops Q rest (a.put o.dst (.int .i64 (n : Int))) w) : wpList Try.prog ops Q (o :: rest) a w :=
  map_len w hg m _ hop 28 65 Try.underlying62 b E n hn hm h hK
end
theorem up_put {w : World} {b : Nat} {E : List (Lit × Value)} {n : Nat} (h : MapE w Try.prog 28 b E) (hn : n < 4294967296) (hl : E.length ≤ 1000000) (v : Value) : ∃ w', (Instr.mapUpdate 62 (.map (some b)) (.int .u32 (n : Int)) v).run Try.prog w = .ok () w' ∧ MapE w' Try.prog 28 b (putE E (keyS n) v) ∧ Kept [b] w w' := by
  have h0 := h
  obtain ⟨⟨es, h1, h2⟩, h3, h4⟩ := h
  obtain ⟨w', hrun, r1, r2⟩ := h1.update (Maps.int_keyed Try.underlying28) Try.underlying62 (by unfold maxLen; omega) (Maps.keyOf_int_mk Try.underlying28 (keyS_wf hn)) (show rawElem v = some (.held v, []) from rfl)
  exact ⟨w', hrun, h0.put (keyS_lit n) r1 h2, kept_grown r2⟩
theorem upE_mem {L : List UpL} {t : UpL} (h : t ∈ L) : (keyS t.u.n, Value.pointer (some ⟨t.g, 0, none⟩)) ∈ upE L := List.mem_map.2 ⟨t, h, rfl⟩
theorem upE_not {L : List UpL} {n : Nat} (h : ∀ t ∈ L, t.u.n ≠ n) : ∀ p ∈ upE L, p.1 ≠ keyS n := by
  intro p hp
  obtain ⟨t, ht, rfl⟩ := List.mem_map.1 hp
  exact fun e => h t ht (keyS_inj _ _ e)
theorem upE_drop (L : List UpL) (n : Nat) : dropE (upE L) (keyS n) = upE (L.filter fun t => decide (t.u.n ≠ n)) := by
  unfold dropE upE
  rw [List.filter_map]
  congr 1
  refine List.filter_congr fun t _ => ?_
  show (!(keyS t.u.n).sameKey (keyS n)) = _
  by_cases e : t.u.n = n
  · rw [e, WideAt.sameKey_self (keyS_lit n)]
    simp
  · rw [sameKey_ne (fun hh => e (keyS_inj _ _ hh))]
    simp [e]
theorem upE_len (L : List UpL) : (upE L).length = L.length := by simp [upE]

set_option maxRecDepth 100000 in
set_option maxHeartbeats 1600000 in
theorem own_yes (w : World) (lo x m last : Nat) (L : List UpL) (h : TabC w lo x m L last) (t : UpL) (ht : t ∈ L) :
    Calls Try.prog 27 #[.pointer (some ⟨x, 0, none⟩), .int .u64 (t.u.owner : Int), .int .u32 (t.u.n : Int)] w fun e w' => e = .returned (.pointer (some ⟨t.g, 0, none⟩)) ∧ w = w' := by
  have c0 : w.cell? ⟨x, 0, none⟩ = some (.map (some m)) := h.blk.cell 0
  have d0 : w.cell? ⟨t.g, 0, none⟩ = some (.int .u64 (t.u.owner : Int)) := (h.each t ht).blk.cell 0
  have HM := Lib.hid h.map
  have HE := Lib.hid (upE_mem ht)
  have hn := Lib.hid (h.each t ht).n32
  clear h ht
  go_enter Try.func27, Try.ntmps27
  go_wp2_with (first | (at_lookup; refine up_look _ rfl _ _ rfl m _ rfl HM.out t.u.n hn.out rfl _ HE.out ?_) | fail)
  go_ret
  exact ⟨rfl, rfl⟩
set_option maxRecDepth 100000 in
set_option maxHeartbeats 1600000 in
theorem own_no (w : World) (lo x m last : Nat) (L : List UpL) (h : TabC w lo x m L last) (owner n : Nat) (hn : n < 4294967296) (hno : ∀ t ∈ L, ¬ (t.u.n = n ∧ t.u.owner = owner)) :
    Calls Try.prog 27 #[.pointer (some ⟨x, 0, none⟩), .int .u64 (owner : Int), .int .u32 (n : Int)] w fun e w' => e = .returned (.pointer none) ∧ w = w' := by
  have c0 : w.cell? ⟨x, 0, none⟩ = some (.map (some m)) := h.blk.cell 0
  have HM := Lib.hid h.map
  have HN := Lib.hid hn
  by_cases hx : ∃ t ∈ L, t.u.n = n
  · obtain ⟨t, ht, rfl⟩ := hx
    have d0 : w.cell? ⟨t.g, 0, none⟩ = some (.int .u64 (t.u.owner : Int)) := (h.each t ht).blk.cell 0
    have hne : ¬ t.u.owner = owner := fun e => hno t ht ⟨rfl, e⟩
    have HE := Lib.hid (upE_mem ht)
    clear h ht hno hn
    go_enter Try.func27, Try.ntmps27
    go_wp2_with (first | (at_lookup; refine up_look _ rfl _ _ rfl m _ rfl HM.out t.u.n HN.out rfl _ HE.out ?_) | fail)
    go_ret
    exact ⟨rfl, rfl⟩
  · have HE := Lib.hid (upE_not (L := L) (n := n) fun t ht e => hx ⟨t, ht, e⟩)
    clear h hno hn hx
    go_enter Try.func27, Try.ntmps27
    go_wp2_with (first | (at_lookup; refine up_none _ rfl _ _ rfl m _ rfl HM.out n HN.out rfl HE.out ?_) | fail)
    go_ret
    exact ⟨rfl, rfl⟩
set_option maxRecDepth 100000 in
set_option maxHeartbeats 1600000 in
theorem snew_any (w : World) : Calls Try.prog 9 #[] w fun e w' => ∃ x F, e = .returned (.pointer (some ⟨x, 0, none⟩)) ∧ Below w.heap.size w w' ∧ TabIs w' w.heap.size x F ⟨[], 0⟩ := by
  obtain ⟨w1, hw1⟩ : ∃ w1, w.alloc (.map #[] 0) = w1 := ⟨_, rfl⟩
  obtain ⟨w2, hw2⟩ : ∃ w2, w1.alloc (.cells #[.map (some w.heap.size), .int .u32 0] 64) = w2 := ⟨_, rfl⟩
  have b1 : Below w.heap.size w w1 := by rw [← hw1]; exact (Below.refl _ _).alloc (Nat.le_refl _) _
  have b2 : Below w1.heap.size w1 w2 := by rw [← hw2]; exact (Below.refl _ _).alloc (Nat.le_refl _) _
  have hs1 : w1.heap.size = w.heap.size + 1 := by rw [← hw1]; simp
  have R := Lib.hid (show Below w.heap.size w w2 ∧ TabIs w2 w.heap.size (w.heap.size + 1) (fpT (w.heap.size + 1) w.heap.size []) ⟨[], 0⟩ from by
    rw [← hs1]
    have hM : MapE w1 Try.prog 28 w.heap.size [] := by rw [← hw1]; exact MapE.made w Try.prog 28
    have hb : Blk w2 w1.heap.size 64 [.map (some w.heap.size), .int .u32 0] := by rw [← hw2]; exact Blk.new _ _ _
    exact ⟨below_on b1 b2, w.heap.size, [], ⟨hb, by omega, Nat.le_refl _, hM.on b2, by simp, by simp, by simp, by decide⟩, rfl, rfl⟩)
  clear b1 b2
  have hmm := @run_makeMap Try.prog
  go_enter Try.func9, Try.ntmps9
  go_wp2
  go_ret
  exact ⟨_, _, rfl, R.out.1, R.out.2⟩
set_option maxRecDepth 100000 in
set_option maxHeartbeats 1600000 in
theorem slen_any (w : World) (lo x : Nat) (F : List Nat) (s : TabV) (h : TabIs w lo x F s) :
    Calls Try.prog 22 #[.pointer (some ⟨x, 0, none⟩)] w fun e w' => e = .returned (.int .i64 (s.ups.length : Int)) ∧ w = w' := by
  obtain ⟨m, L, h1, h2, -⟩ := h
  have c0 : w.cell? ⟨x, 0, none⟩ = some (.map (some m)) := h1.blk.cell 0
  have HM := Lib.hid h1.map
  have HL := Lib.hid (show (upE L).length = s.ups.length from by rw [h2, upE_len, List.length_map])
  clear h1 h2
  go_enter Try.func22, Try.ntmps22
  go_wp2_with (first | (at_len; refine up_len _ rfl _ rfl m _ _ HL.out rfl HM.out ?_) | fail)
  go_ret
  exact ⟨rfl, rfl⟩
set_option maxRecDepth 100000 in
set_option maxHeartbeats 1600000 in
theorem sbegin_full (w : World) (lo x : Nat) (F : List Nat) (s : TabV) (h : TabIs w lo x F s) (hf : 4 ≤ s.ups.length) (owner : Nat) (name : ByteArray) :
    Calls Try.prog 10 #[.pointer (some ⟨x, 0, none⟩), .int .u64 (owner : Int), .string name] w fun e w' => e = .returned (.tuple #[.int .u32 0, .int .i64 4]) ∧ w = w' := by
  obtain ⟨m, L, h1, h2, -⟩ := h
  have c0 : w.cell? ⟨x, 0, none⟩ = some (.map (some m)) := h1.blk.cell 0
  have HM := Lib.hid h1.map
  obtain ⟨k, hk⟩ : ∃ k, s.ups.length = k := ⟨_, rfl⟩
  rw [hk] at hf
  have HL := Lib.hid (show (upE L).length = k from by rw [← hk, h2, upE_len, List.length_map])
  clear h1 h2 hk
  go_enter Try.func10, Try.ntmps10
  go_wp2_with (first | (at_len; refine up_len _ rfl _ rfl m _ _ HL.out rfl HM.out ?_) | fail)
  go_ret2
  exact ⟨rfl, rfl⟩
set_option maxRecDepth 100000 in
set_option maxHeartbeats 1600000 in
theorem sbegin_new (w : World) (lo x k : Nat) (F : List Nat) (s : TabV) (h : TabIs w lo x F s) (hF : s.Few k) (hk : k ≤ 1000000) (hf : s.ups.length < 4) (owner : Nat) (ho : owner < 18446744073709551616) (name : ByteArray) :
    Calls Try.prog 10 #[.pointer (some ⟨x, 0, none⟩), .int .u64 (owner : Int), .string name] w fun e w' => ∃ F', e = .returned (.tuple #[.int .u32 ((s.last + 1 : Nat) : Int), .int .i64 0]) ∧ TabIs w' lo x F' (s.start owner name) ∧ Kept F w w' ∧ Grows w F F' := by
  obtain ⟨m, L, h1, h2, rfl⟩ := h
  obtain ⟨last, hlast⟩ : ∃ last, s.last = last := ⟨_, rfl⟩
  have hl6 : last ≤ 1000000 := by rw [← hlast]; exact Nat.le_trans hF.last hk
  rw [hlast] at h1 ⊢
  obtain ⟨l1, hl1⟩ : ∃ l1, last + 1 = l1 := ⟨_, rfl⟩
  have hlw : IntKind.u32.wrap ((last : Int) + 1) = (l1 : Int) := by rw [IntKind.wrap_u32]; omega
  obtain ⟨t, htd⟩ : ∃ t : UpL, t = ⟨w.heap.size, .slice none 0 0, ⟨l1, owner, name, [], 0⟩⟩ := ⟨_, rfl⟩
  have hLn : L.length < 4 := by rw [h2, List.length_map] at hf; exact hf
  have hno : ∀ t ∈ L, t.u.n ≠ l1 := by
    intro t ht
    have := hF.low t.u (by rw [h2]; exact List.mem_map.2 ⟨t, ht, rfl⟩)
    omega
  obtain ⟨w1, hw1⟩ : ∃ w1, w.setCell ⟨x, 1, none⟩ (.int .u32 (l1 : Int)) = w1 := ⟨_, rfl⟩
  obtain ⟨w2, hw2⟩ : ∃ w2, w1.drew.alloc (.cells #[.int .u64 (owner : Int), .string name, .slice none 0 0, .int .u32 0] 67) = w2 := ⟨_, rfl⟩
  have k1 : Kept [x] w w1 := by rw [← hw1]; exact (Kept.refl _ _).setCell _ _ (.inl (by simp))
  have X1 : Blk w1 x 64 [.map (some m), .int .u32 (l1 : Int)] := by rw [← hw1]; exact h1.blk.set 1 _
  have hsz : w1.heap.size = w.heap.size := by rw [← hw1]; simp [World.setCell]
  have b2 : Below w1.heap.size w1 w2 := by rw [← hw2]; exact ((Below.refl _ w1).drew).alloc (Nat.le_refl _) _
  have k2 : Kept [x] w w2 := k1.trans (Kept.of_below (F := [x]) b2 (Nat.le_refl _)) (Grows.refl _ _)
  have X2 : Blk w2 x 64 [.map (some m), .int .u32 (l1 : Int)] := (Kept.of_below (F := []) b2 (Nat.le_refl _)).blk X1 (by simp)
  have U2 : Blk w2 w.heap.size 67 [.int .u64 (owner : Int), .string name, .slice none 0 0, .int .u32 0] := by rw [← hw2, ← hsz]; exact Blk.new _ _ _
  have M2 : MapE w2 Try.prog 28 m (upE L) := h1.map.kept k2 (by simpa using h1.xm)
  obtain ⟨w3, hr3, hM3, hk3⟩ := up_put (n := l1) M2 (by omega) (by rw [upE_len]; omega) (.pointer (some ⟨w.heap.size, 0, none⟩))
  have hE3 : putE (upE L) (keyS l1) (.pointer (some ⟨w.heap.size, 0, none⟩)) = upE (L ++ [t]) := by
    unfold putE
    rw [upE_drop, List.filter_eq_self.2 (fun t ht => decide_eq_true (hno t ht)), htd]
    simp [upE]
  rw [hE3] at hM3
  have X3 : Blk w3 x 64 [.map (some m), .int .u32 (l1 : Int)] := hk3.blk X2 (by simpa using h1.xm.symm)
  have k3 : Kept [x, m] w w3 := (k2.mono (by simp)).trans (hk3.mono (G := [x, m]) (by simp)) (Grows.refl _ _)
  have hmlt : m ≠ w.heap.size := Nat.ne_of_lt h1.map.lt
  have A3 : t.At w3 lo := by
    rw [htd]
    exact ⟨hk3.blk U2 (by simpa using hmlt.symm), Nat.le_of_lt (Nat.lt_of_le_of_lt h1.xlo h1.blk.lt), OwnV.nil _ _ _, (by simp only; omega), ho, Nat.succ_pos _, (by simp)⟩
  have FIN := Lib.hid (show TabIs w3 lo x (fpT x m (L ++ [t])) (s.start owner name) ∧ Kept (fpT x m L) w w3 ∧ Grows w (fpT x m L) (fpT x m (L ++ [t])) from by
    refine ⟨⟨m, L ++ [t], ?_, ?_, rfl⟩, k3.mono (fun b hb => ?_), fun b hb => ?_⟩
    · show TabC w3 lo x m (L ++ [t]) (s.last + 1)
      rw [hlast, hl1]
      exact h1.more X3 hM3 k3 A3 (by rw [htd]; exact Nat.le_refl _) (by rw [htd]; rfl) hLn (by omega)
    · show s.ups ++ [⟨s.last + 1, owner, name, [], 0⟩] = _
      rw [hlast, hl1, h2, htd]
      simp
    · rw [mem_fpT]
      simp only [List.mem_cons, List.not_mem_nil, or_false] at hb
      rcases hb with hb | hb
      · exact .inl hb
      · exact .inr (.inl hb)
    · rw [mem_fpT] at hb
      rcases hb with hb | hb | ⟨u, hu, hb⟩
      · exact .inl (mem_fpT.2 (.inl hb))
      · exact .inl (mem_fpT.2 (.inr (.inl hb)))
      · rcases List.mem_append.1 hu with hu | hu
        · exact .inl (mem_fpT.2 (.inr (.inr ⟨u, hu, hb⟩)))
        · rw [List.mem_singleton.1 hu, htd] at hb
          rcases mem_fpU.1 hb with e | e
          · exact .inr (Nat.le_of_eq e.symm)
          · cases e)
  obtain ⟨n, hn⟩ : ∃ n, s.ups.length = n := ⟨_, rfl⟩
  have HL := Lib.hid (show (upE L).length = n from by rw [← hn, h2, upE_len, List.length_map])
  rw [hn] at hf
  have c0 : w.cell? ⟨x, 0, none⟩ = some (.map (some m)) := h1.blk.cell 0
  have c1 : w.cell? ⟨x, 1, none⟩ = some (.int .u32 (last : Int)) := h1.blk.cell 1
  have f1 := h1.blk.frozen 1
  have HM := Lib.hid h1.map
  have d0 : w1.drew.cell? ⟨x, 0, none⟩ = some (.map (some m)) := X1.cell 0
  have d1 : w1.drew.cell? ⟨x, 1, none⟩ = some (.int .u32 (l1 : Int)) := X1.cell 1
  have e0 : w2.cell? ⟨x, 0, none⟩ = some (.map (some m)) := X2.cell 0
  have e1 : w2.cell? ⟨x, 1, none⟩ = some (.int .u32 (l1 : Int)) := X2.cell 1
  have g1 : w3.cell? ⟨x, 1, none⟩ = some (.int .u32 (l1 : Int)) := X3.cell 1
  rw [← hsz] at hr3
  clear h1 h2 hF hk hlast hno htd k1 X1 b2 k2 X2 U2 M2 hM3 hk3 hE3 X3 k3 A3 hn hsz hLn hmlt
  rw [hl1]
  clear hl1
  go_enter Try.func10, Try.ntmps10
  go_wp2_with (first | (at_len; refine up_len _ rfl _ rfl m _ _ HL.out rfl HM.out ?_) | (rw [hw1]) | fail)
  go_region_law (fail)
  all_goals
    go_wp2
    go_ret2
    exact ⟨_, rfl, FIN.out⟩
end Go.Proofs.Ytdlpifcfgfhagaa
