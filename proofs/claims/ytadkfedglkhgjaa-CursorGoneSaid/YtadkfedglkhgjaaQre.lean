/-
  Layer 14, the program's table: the closures of Leave and Tick, dropAll with each of them, Leave, Tick. (Made by tools/mkqre.py.)
-/
import Derived.Test.YtadkfedglkhgjaaQrd
import Derived.OwnWalk
namespace Go.Proofs.Ytadkfedglkhgjaa
open Go.RowKit Go.ChangeShapes Go.WideShapes Go.ChangeAt Go.Maps

set_option maxRecDepth 100000 in
set_option maxHeartbeats 3200000 in
theorem leave1_any (w : World) (g ob : Nat) (t : CurL) (owner : Nat) (h : Blk w t.g 85 t.cells) (hg : t.g = g) (ho : Blk w ob 42 [.int .u64 (owner : Int)]) :
    Calls Try.prog 38 #[.pointer (some ⟨g, 0, none⟩), .pointer (some ⟨ob, 0, none⟩)] w fun e w' => e = .returned (.bool (isOwner owner t.c)) ∧ Below w.heap.size w w' := by
  rw [hg] at h
  obtain ⟨tw, htw⟩ : ∃ tw, t.c.owner = tw := ⟨_, rfl⟩
  have c0 : w.cell? ⟨g, 0, none⟩ = some (.int .u64 (tw : Int)) := by rw [← htw]; exact h.cell 0
  have o0 : w.cell? ⟨ob, 0, none⟩ = some (.int .u64 (owner : Int)) := ho.cell 0
  have hm : isOwner owner t.c = decide (tw = owner) := by rw [← htw]; rfl
  rw [hm]
  clear h hm htw hg ho
  by_cases h1 : tw = owner
  · subst h1
    have R := Lib.hid (show decide (tw = tw) = true from decide_eq_true rfl)
    go_enter Try.func38, Try.ntmps38
    go_wp2
    go_region
    all_goals go_wp2
    all_goals go_ret
    all_goals exact ⟨by rw [R.out]; rfl, (Below.refl _ _).drew⟩
  · have R := Lib.hid (show decide (tw = owner) = false from decide_eq_false h1)
    have hb : ((tw : Int) == (owner : Int)) = false := by rw [beq_eq_false_iff_ne]; omega
    go_enter Try.func38, Try.ntmps38
    go_wp2
    go_region
    all_goals go_wp2
    all_goals go_ret
    all_goals exact ⟨by rw [R.out]; rfl, (Below.refl _ _).drew⟩
set_option maxRecDepth 100000 in
set_option maxHeartbeats 3200000 in
theorem tick1_any (w : World) (g x nb tb : Nat) (t : CurL) (idle now : Nat) (m last : Value) (h : Blk w t.g 85 t.cells) (hg : t.g = g) (hn : Blk w nb 22 [.int .u32 (now : Int)]) (hn32 : now < 4294967296) (ht : Blk w tb 25 [.pointer (some ⟨x, 0, none⟩)]) (hx : Blk w x 76 [.int .u32 (idle : Int), m, last]) :
    Calls Try.prog 39 #[.pointer (some ⟨g, 0, none⟩), .pointer (some ⟨nb, 0, none⟩), .pointer (some ⟨tb, 0, none⟩)] w fun e w' => e = .returned (.bool (isLate idle now t.c)) ∧ Below w.heap.size w w' := by
  rw [hg] at h
  obtain ⟨us, hus⟩ : ∃ us, t.c.used = us := ⟨_, rfl⟩
  have c4 : w.cell? ⟨g, 6, none⟩ = some (.int .u32 (us : Int)) := by rw [← hus]; exact h.cell 6
  have o0 : w.cell? ⟨nb, 0, none⟩ = some (.int .u32 (now : Int)) := hn.cell 0
  have o1 : w.cell? ⟨tb, 0, none⟩ = some (.pointer (some ⟨x, 0, none⟩)) := ht.cell 0
  have o2 : w.cell? ⟨x, 0, none⟩ = some (.int .u32 (idle : Int)) := hx.cell 0
  have hm : isLate idle now t.c = decide (us ≤ now ∧ idle < now - us) := by rw [← hus]; rfl
  rw [hm]
  clear h hm hus hg hn ht hx
  by_cases h1 : us ≤ now
  · obtain ⟨df, hdf⟩ : ∃ df, now - us = df := ⟨_, rfl⟩
    have hw : IntKind.u32.wrap ((now : Int) - (us : Int)) = (df : Int) := by rw [IntKind.wrap_u32]; omega
    have hd1 : decide ((us : Int) ≤ (now : Int)) = true := decide_eq_true (by omega)
    have hd2 : decide (us ≤ now) = true := decide_eq_true h1
    by_cases h2 : idle < df
    · have R := Lib.hid (show decide (us ≤ now ∧ idle < df) = true from decide_eq_true ⟨h1, h2⟩)
      have hd3 : decide ((idle : Int) < (df : Int)) = true := decide_eq_true (by omega)
      have hd4 : decide (idle < df) = true := decide_eq_true h2
      rw [hdf]
      clear h1 h2 hdf
      go_enter Try.func39, Try.ntmps39
      go_wp2
      go_quiet (fail)
      go_wp2
      go_ret
      exact ⟨by rw [R.out]; rfl, below_draws (Below.refl _ _) _⟩
    · have R := Lib.hid (show decide (us ≤ now ∧ idle < df) = false from decide_eq_false (fun h => h2 h.2))
      have hd3 : decide ((idle : Int) < (df : Int)) = false := decide_eq_false (by omega)
      have hd4 : decide (idle < df) = false := decide_eq_false h2
      rw [hdf]
      clear h1 h2 hdf
      go_enter Try.func39, Try.ntmps39
      go_wp2
      go_quiet (fail)
      go_wp2
      go_ret
      exact ⟨by rw [R.out]; rfl, below_draws (Below.refl _ _) _⟩
  · have R := Lib.hid (show decide (us ≤ now ∧ idle < now - us) = false from decide_eq_false (fun h => h1 h.1))
    have hd1 : decide ((us : Int) ≤ (now : Int)) = false := decide_eq_false (by omega)
    have hd2 : decide (us ≤ now) = false := decide_eq_false h1
    clear h1
    go_enter Try.func39, Try.ntmps39
    go_wp2
    go_quiet (fail)
    go_wp2
    go_ret
    exact ⟨by rw [R.out]; rfl, below_draws (Below.refl _ _) _⟩

/-- Rising numbers in order are themselves. -/
theorem sorted_self {ss vs : List Nat} (hp : ss.Perm vs) (hs : ss.Pairwise (· ≤ ·)) (hv : vs.Pairwise (· < ·)) : ss = vs :=
  hp.eq_of_pairwise (fun _ _ _ _ h1 h2 => Nat.le_antisymm h1 h2) hs (hv.imp Nat.le_of_lt)
/-- Those that are left when the first i were looked at. -/
def leftQ (q : CurV → Bool) (L : List CurL) (i : Nat) : List CurL := ((L.take i).filter fun t => !q t.c) ++ L.drop i
def goneQ (q : CurV → Bool) (L : List CurL) (i : Nat) : List Int := ((L.take i).filter fun t => q t.c).map (·.c.pin)
theorem leftQ_at {q : CurV → Bool} {L : List CurL} {i : Nat} {t : CurL} (h : L[i]? = some t) : t ∈ leftQ q L i := by
  refine List.mem_append.2 (.inr ?_)
  have hi := (List.getElem?_eq_some_iff.1 h).1
  rw [List.drop_eq_getElem_cons hi]
  have e := (List.getElem?_eq_some_iff.1 h).2
  rw [e]
  exact List.mem_cons_self
theorem leftQ_stay {q : CurV → Bool} {L : List CurL} {i : Nat} {t : CurL} (h : L[i]? = some t) (hq : q t.c = false) : leftQ q L (i + 1) = leftQ q L i := by
  have hi := (List.getElem?_eq_some_iff.1 h).1
  have e := (List.getElem?_eq_some_iff.1 h).2
  unfold leftQ
  rw [List.take_add_one, h, List.filter_append, List.drop_eq_getElem_cons hi, e]
  simp [hq]
theorem goneQ_stay {q : CurV → Bool} {L : List CurL} {i : Nat} {t : CurL} (h : L[i]? = some t) (hq : q t.c = false) : goneQ q L (i + 1) = goneQ q L i := by
  unfold goneQ
  rw [List.take_add_one, h, List.filter_append]
  simp [hq]
theorem goneQ_go {q : CurV → Bool} {L : List CurL} {i : Nat} {t : CurL} (h : L[i]? = some t) (hq : q t.c = true) : goneQ q L (i + 1) = goneQ q L i ++ [t.c.pin] := by
  unfold goneQ
  rw [List.take_add_one, h, List.filter_append, List.map_append]
  simp [hq]
theorem leftQ_go {q : CurV → Bool} {L : List CurL} {i : Nat} {t : CurL} (hr : L.Pairwise fun s t => s.c.n < t.c.n) (h : L[i]? = some t) (hq : q t.c = true) : leftQ q L (i + 1) = (leftQ q L i).filter fun s => decide (s.c.n ≠ t.c.n) := by
  have hi := (List.getElem?_eq_some_iff.1 h).1
  have e := (List.getElem?_eq_some_iff.1 h).2
  unfold leftQ
  rw [List.filter_append, List.drop_eq_getElem_cons hi, e, List.filter_cons, if_neg (by simp), List.take_add_one, h, List.filter_append]
  have h1 : ((L.take i).filter fun t => !q t.c).filter (fun s => decide (s.c.n ≠ t.c.n)) = (L.take i).filter fun t => !q t.c := by
    refine List.filter_eq_self.2 fun s hs => decide_eq_true ?_
    obtain ⟨j, hj⟩ := List.getElem?_of_mem (List.mem_filter.1 hs).1
    have hji : j < i := by
      have := (List.getElem?_eq_some_iff.1 hj).1
      rw [List.length_take] at this
      omega
    rw [List.getElem?_take_of_lt hji] at hj
    obtain ⟨hj1, hj2⟩ := List.getElem?_eq_some_iff.1 hj
    have := List.pairwise_iff_getElem.1 hr j i hj1 hi hji
    rw [hj2, e] at this
    omega
  have h2 : (L.drop (i + 1)).filter (fun s => decide (s.c.n ≠ t.c.n)) = L.drop (i + 1) := by
    refine List.filter_eq_self.2 fun s hs => decide_eq_true ?_
    obtain ⟨j, hj⟩ := List.getElem?_of_mem hs
    rw [List.getElem?_drop] at hj
    obtain ⟨hj1, hj2⟩ := List.getElem?_eq_some_iff.1 hj
    have := List.pairwise_iff_getElem.1 hr i (i + 1 + j) hi hj1 (by omega)
    rw [hj2, e] at this
    omega
  rw [h1, h2]
  simp [hq]
theorem leftQ_end (q : CurV → Bool) (L : List CurL) (i : Nat) (hi : L.length ≤ i) : leftQ q L i = L.filter fun t => !q t.c := by
  unfold leftQ
  rw [List.take_of_length_le hi, List.drop_eq_nil_of_le hi, List.append_nil]
theorem goneQ_end (q : CurV → Bool) (L : List CurL) (i : Nat) (hi : L.length ≤ i) : goneQ q L i = (L.filter fun t => q t.c).map (·.c.pin) := by
  unfold goneQ
  rw [List.take_of_length_le hi]
theorem leftQ_zero (q : CurV → Bool) (L : List CurL) : leftQ q L 0 = L := by simp [leftQ]
theorem goneQ_zero (q : CurV → Bool) (L : List CurL) : goneQ q L 0 = [] := by simp [goneQ]
theorem goneQ_len (q : CurV → Bool) (L : List CurL) (i : Nat) : (goneQ q L i).length ≤ i := by
  unfold goneQ
  rw [List.length_map]
  exact Nat.le_trans (List.length_filter_le _ _) (by rw [List.length_take]; omega)
theorem int_info14 : (Try.prog.info? 3).map (fun i => (i.zero, i.size, i.bytes)) = some (some (.int .i64 0), 1, 8) := by kernel_rfl
/-- A row of whole numbers of the call's own. -/
def IntsZ (lo : Nat) (w : World) (v : Value) (zs : List Int) : Prop := RowC lo w 3 1 v (zs.map fun z : Int => [.int .i64 z])
theorem IntsZ.nil (lo : Nat) (w : World) : IntsZ lo w (.slice none 0 0) [] := ⟨by simp, rfl, .inl ⟨rfl, rfl⟩⟩
theorem IntsZ.parts {lo : Nat} {w : World} {v : Value} {zs : List Int} (h : IntsZ lo w v zs) : ∃ a n c, v = .slice a n c ∧ Hid (zs.length = n) := by
  obtain ⟨a, c, e, _⟩ := RowC.form h
  rw [List.length_map] at e
  exact ⟨a, _, c, e, rfl⟩
theorem app_intZ {ops : Array Oper} {rest : List Oper} {o : Oper} {act : Act} {Q : Exit → Act → World → Prop} (w : World) (hg : o.guard = none) (s y : Operand)
    (hop : o.op = .call { callee := .builtin .append, args := #[s, y], argTypes := #[65, 65] }) (lo : Nat) (v : Value) (l : List Int) (j : Int) (hs : act.eval s = v) (hy : act.eval y = .slice (some ⟨w.heap.size, 0, none⟩) 1 1)
    (hown : IntsZ lo w v l) (hlo : lo ≤ w.heap.size) (hl : l.length ≤ 1000000)
    (K : ∀ v' w', IntsZ lo w' v' (l ++ [j]) → Kept (ownB v) w w' → Grows w (ownB v) (ownB v') → wpList Try.prog ops Q rest (act.put o.dst v') w') : wpList Try.prog ops Q (o :: rest) act (w.alloc (.cells #[.int .i64 j] 3)) := by
  refine app_c (cs := [.int .i64 j]) w hg s y 65 hop Try.underlying65 (.int .i64 0) 8 int_info14 rfl (by omega) hs hy hown rfl (by simp [Value.oneCell']) hlo (by rw [List.length_map]; omega) (by rw [List.length_map]; omega) ?_
  intro v' w' h1 h2 h3
  exact K v' w' (by unfold IntsZ; rw [List.map_append]; exact h1) h2 h3
theorem VersW.at1 {lo : Nat} {w : World} {a : Option Addr} {n c : Nat} {xs : List Nat} (h : VersW lo w (.slice a n c) xs) (i x : Nat) (hx : xs[i]? = some x) : ∃ g, a = some ⟨g, 0, none⟩ ∧ w.cell? ⟨g, i, none⟩ = some (.int .u32 (x : Int)) := by
  obtain ⟨g, c', e, h2⟩ := h.at i x hx
  simp only [Value.slice.injEq] at e
  exact ⟨g, e.1, h2⟩

set_option maxRecDepth 100000 in
set_option maxHeartbeats 3200000 in
theorem dropall_leave (w : World) (lo x m last idle : Nat) (L : List CurL) (h : TabQ w lo x m L last idle) (hr : L.Pairwise fun s t => s.c.n < t.c.n) (ob owner : Nat) (hob : Blk w ob 42 [.int .u64 (owner : Int)]) :
    Calls Try.prog 37 #[.pointer (some ⟨x, 0, none⟩), .func (.func 38) #[] #[.pointer (some ⟨ob, 0, none⟩)]] w fun e w' => ∃ v, e = .returned v ∧ IntsZ w.heap.size w' v ((L.filter fun t => (isOwner owner) t.c).map (·.c.pin)) ∧ TabQ w' lo x m (L.filter fun t => !(isOwner owner) t.c) last idle ∧ Kept [m] w w' := by
  obtain ⟨w1, hw1⟩ : ∃ w1, w.alloc (.cells #[.map (some m)] 74) = w1 := ⟨_, rfl⟩
  have b1 : Below w.heap.size w w1 := by rw [← hw1]; exact (Below.refl _ _).alloc (Nat.le_refl _) _
  have c1 : w.cell? ⟨x, 1, none⟩ = some (.map (some m)) := h.blk.cell 1
  have KA := Lib.hid (keys_any32 m w)
  have SK := Lib.hid (sorted_keys32 m w.heap.size (cuE L) (L.map (·.c.n)) (by simp [cuE]) (by rw [List.length_map]; have := h.eight; omega) (fun k hk => by
    obtain ⟨t, ht, rfl⟩ := List.mem_map.1 hk
    exact (h.each t ht).n32) w1 (by rw [← hw1]; simp) (by rw [← hw1]; exact (Blk.new w _ _).cell 0) (h.map.on b1))
  have H1 := Lib.hid (h.on b1)
  have HR := Lib.hid hr
  have K1 := Lib.hid (show Kept [m] w w1 from Kept.of_below b1 (Nat.le_refl _))
  have H8 := h.eight
  have HRN := Lib.hid (show (L.map (·.c.n)).Pairwise (· < ·) from by rw [List.pairwise_map]; exact hr)
  have HOB := Lib.hid hob
  have HOM := Lib.hid (show ob ≠ m from fun e => h.map.ne_blk hob e.symm)
  clear hob
  clear h hr b1
  go_enter Try.func37, Try.ntmps37
  go_wp2_with (fail)
  refine KA.out.mono ?_
  rintro e w1' ⟨rfl, hw1'⟩
  rw [hw1] at hw1'
  subst hw1'
  go_wp2_with (fail)
  refine SK.out.mono ?_
  rintro e w2 ⟨v, ss, rfl, hp, hs, hv, hb2⟩
  obtain rfl : ss = L.map (·.c.n) := sorted_self hp hs HRN.out
  obtain ⟨va, vc, rfl, -⟩ := hv.form
  obtain ⟨n, hn⟩ : ∃ n, L.length = n := ⟨_, rfl⟩
  rw [List.length_map, hn] at hv ⊢
  have HV := Lib.hid hv
  have H2 := Lib.hid (H1.out.on hb2)
  have K2 := Lib.hid (show Kept [m] w w2 from K1.out.trans (Kept.of_below (F := [m]) hb2 (Nat.le_refl _)) (Grows.refl _ _))
  have HL := Lib.hid hn
  have HXL := Lib.hid H2.out.blk.lt
  have HML2 := Lib.hid H2.out.map.lt
  have HML := Lib.hid H1.out.map.lt
  have HFL := Lib.hid (fun (s : CurL) (hs : s ∈ L) (b : Nat) (hb : b ∈ fpC s) => ((H2.out.each s hs).lt b hb).2)
  have HW2 := Lib.hid K2.out.size
  rw [hn] at H8
  clear hp hs hv hb2 hn KA SK c1 hw1 H1 K1
  go_wp2
  go_loopw [5, 7, 15] (fun s5 s7 s15 wr => ∃ (i n5 c5 : Nat) (a5 : Option Addr) (z7 : Value), s5 = .slice a5 n5 c5 ∧ s7 = z7 ∧ s15 = .int .i64 (i : Int) ∧ i ≤ n ∧ Hid (TabQ wr lo x m (leftQ (isOwner owner) L i) last idle) ∧ Hid (Kept [m] w wr) ∧ Hid (Kept [m] w2 wr) ∧ Hid (IntsZ w2.heap.size wr (.slice a5 n5 c5) (goneQ (isOwner owner) L i))) (fun _ _ s15 _ => n - (intOf s15).toNat)
  case atStart => exact ⟨0, 0, 0, none, _, rfl, rfl, rfl, Nat.zero_le _, by rw [leftQ_zero]; exact H2.out, K2.out, Kept.refl _ _, by rw [goneQ_zero]; exact IntsZ.nil _ _⟩
  case round =>
    clear H2 K2
    obtain ⟨i, n5, c5, a5, z7, rfl, rfl, rfl, hi, HT, HK, HK2, HI⟩ := hrel
    by_cases hc : i < n
    · obtain ⟨t, ht⟩ : ∃ t, L[i]? = some t := ⟨L[i]'(by rw [HL.out]; exact hc), List.getElem?_eq_getElem _⟩
      have htm := leftQ_at (q := (isOwner owner)) ht
      have VB : VersW w1'.heap.size wr (.slice va n vc) (L.map (·.c.n)) := RowC.kept HV.out HK2.out (fun k e hk => by
        rw [List.mem_singleton] at hk
        have h1 := (RowC.lt HV.out k e).1
        have h2 := HML.out
        omega)
      obtain ⟨g, rfl, cg⟩ := VB.at1 i t.c.n (by rw [List.getElem?_map, ht]; rfl)
      obtain ⟨tn, htn⟩ : ∃ tn, t.c.n = tn := ⟨_, rfl⟩
      obtain ⟨tg, htg⟩ : ∃ tg, t.g = tg := ⟨_, rfl⟩
      have hgl : g < wr.heap.size := (RowC.lt VB g rfl).2
      have d1 : wr.cell? ⟨x, 1, none⟩ = some (.map (some m)) := HT.out.blk.cell 1
      have HM := Lib.hid HT.out.map
      have HE := Lib.hid (show (key32 tn, Value.pointer (some ⟨tg, 0, none⟩)) ∈ cuE (leftQ (isOwner owner) L i) from by rw [← htn, ← htg]; exact cuE_mem htm)
      have hn32 := Lib.hid (show tn < 4294967296 from htn ▸ (HT.out.each t htm).n32)
      have CL := Lib.hid (leave1_any wr tg ob t owner (HT.out.each t htm).blk htg (HK.out.blk HOB.out (by simpa using HOM.out)))
      have STEP := Lib.hid (fun (w3 : World) (hb3 : Below wr.heap.size wr w3) => (⟨HT.out.on hb3, HK.out.trans (Kept.of_below (F := [m]) hb3 (Nat.le_refl _)) (Grows.refl _ _), HK2.out.trans (Kept.of_below (F := [m]) hb3 (Nat.le_refl _)) (Grows.refl _ _), RowC.on HI.out hb3, cdrop_any w3 lo x m last idle _ (HT.out.on hb3) t htm⟩ :
        TabQ w3 lo x m (leftQ (isOwner owner) L i) last idle ∧ Kept [m] w w3 ∧ Kept [m] w2 w3 ∧ IntsZ w2.heap.size w3 (.slice a5 n5 c5) (goneQ (isOwner owner) L i) ∧ Calls Try.prog 25 #[.pointer (some ⟨x, 0, none⟩), .int .u32 (t.c.n : Int)] w3 fun e w' => e = .returned (.int .i64 t.c.pin) ∧ TabQ w' lo x m ((leftQ (isOwner owner) L i).filter fun s => decide (s.c.n ≠ t.c.n)) last idle ∧ Kept [m] w3 w'))
      rw [htn] at cg STEP
      have TT := Lib.hid (And.intro ht htn)
      obtain ⟨z, hz⟩ : ∃ z, (isOwner owner) t.c = z := ⟨_, rfl⟩
      rw [hz] at CL
      obtain ⟨pn, hpn⟩ : ∃ pn, t.c.pin = pn := ⟨_, rfl⟩
      rw [hpn] at STEP
      have HPN := Lib.hid hpn
      have HZ := Lib.hid hz
      clear ht htm VB htn htg hz hpn
      cases z
      · go_wp2_with (first | (at_lookup; refine cu_look _ rfl _ _ rfl m _ rfl HM.out tn hn32.out rfl _ HE.out ?_) | fail)
        refine CL.out.mono ?_
        rintro e w3 ⟨rfl, hb3⟩
        have STEP := Lib.hid (STEP.out w3 hb3)
        clear CL hb3
        go_wp2
        go_roundw
        case rel => exact ⟨i + 1, n5, c5, a5, _, rfl, rfl, by go_num, by omega, by rw [leftQ_stay TT.out.1 HZ.out]; exact STEP.out.1, STEP.out.2.1, STEP.out.2.2.1, by rw [goneQ_stay TT.out.1 HZ.out]; exact STEP.out.2.2.2.1⟩
        case measure => simp [intOf]; omega
      · go_wp2_with (first | (at_lookup; refine cu_look _ rfl _ _ rfl m _ rfl HM.out tn hn32.out rfl _ HE.out ?_) | fail)
        refine CL.out.mono ?_
        rintro e wr2 ⟨rfl, hb3⟩
        obtain ⟨HT, HK, HK2, HI, CD⟩ := STEP.out wr2 hb3
        have HT := Lib.hid HT
        have HK := Lib.hid HK
        have HK2 := Lib.hid HK2
        have HI := Lib.hid HI
        have CD := Lib.hid CD
        clear CL hb3
        go_wp2_with (fail)
        refine CD.out.mono ?_
        rintro e w3 ⟨rfl, hT3, hK3⟩
        have HT3 := Lib.hid hT3
        have HK3 := Lib.hid hK3
        have HI3 := Lib.hid (show IntsZ w2.heap.size w3 (.slice a5 n5 c5) (goneQ (isOwner owner) L i) from RowC.kept HI.out hK3 (fun k e hk => by
          rw [List.mem_singleton] at hk
          have h1 := (RowC.lt HI.out k e).1
          have h2 := HML2.out
          omega))
        have hsz := Lib.hid (Nat.le_trans HK2.out.size hK3.size)
        have HGL := Lib.hid (goneQ_len (isOwner owner) L i)
        clear hT3 hK3 CD HM HE STEP
        go_wp2_with (first
          | (at_builtin; go_must (refine app_intZ w3 rfl _ _ rfl w2.heap.size (.slice a5 n5 c5) _ pn rfl rfl HI3.out hsz.out (by have := HGL.out; omega) ?_); intro v4 w4 h4 h5 h6)
          | fail)
        obtain ⟨a4, n4, c4, rfl, -⟩ := h4.parts
        have F5 : ∀ k ∈ ownB (.slice a5 n5 c5), w2.heap.size ≤ k := fun k hk => (RowC.lt HI3.out k (mem_ownB.1 hk)).1
        have H4 := Lib.hid h4
        have B4 := Lib.hid (show Below w2.heap.size w3 w4 from h5.below F5 hsz.out)
        have T4 := Lib.hid (show TabQ w4 lo x m (leftQ (isOwner owner) L (i + 1)) last idle from by
          rw [leftQ_go HR.out TT.out.1 HZ.out, TT.out.2]
          refine HT3.out.kept h5 fun b hb hb5 => ?_
          have h7 := F5 b hb5
          rcases mem_fpQ.1 hb with e | e | ⟨s, hs, e⟩
          · have := HXL.out; omega
          · have := HML2.out; omega
          · have := HFL.out s ((List.mem_append.1 (List.mem_filter.1 hs).1).elim (fun h => List.mem_of_mem_take (List.mem_filter.1 h).1) (fun h => List.mem_of_mem_drop h)) b e
            omega)
        have K4 := Lib.hid (show Kept [m] w w4 ∧ Kept [m] w2 w4 from by
          exact ⟨(HK.out.trans HK3.out (Grows.refl _ _)).trans h5 (fun b hb => .inr (by have := F5 b hb; have := HW2.out; omega)), (HK2.out.trans HK3.out (Grows.refl _ _)).trans h5 (fun b hb => .inr (F5 b hb))⟩)
        clear h4 h5 h6
        go_wp2
        go_roundw
        case rel => exact ⟨i + 1, n4, c4, a4, _, rfl, rfl, by go_num, by omega, T4.out, K4.out.1, K4.out.2, by rw [goneQ_go TT.out.1 HZ.out, HPN.out]; exact H4.out⟩
        case measure => simp [intOf]; omega
    · go_wp2
      go_ret
      have hin : L.length ≤ i := by rw [HL.out]; omega
      refine ⟨_, rfl, ?_, ?_, HK.out⟩
      · have h9 := HI.out
        rw [goneQ_end _ _ _ hin] at h9
        exact RowC.mono h9 HW2.out
      · have h9 := HT.out
        rw [leftQ_end _ _ _ hin] at h9
        exact h9

set_option maxRecDepth 100000 in
set_option maxHeartbeats 3200000 in
theorem dropall_tick (w : World) (lo x m last idle : Nat) (L : List CurL) (h : TabQ w lo x m L last idle) (hr : L.Pairwise fun s t => s.c.n < t.c.n) (nb tb now : Nat) (hn32 : now < 4294967296) (hnb : Blk w nb 22 [.int .u32 (now : Int)]) (htb : Blk w tb 25 [.pointer (some ⟨x, 0, none⟩)]) :
    Calls Try.prog 37 #[.pointer (some ⟨x, 0, none⟩), .func (.func 39) #[] #[.pointer (some ⟨nb, 0, none⟩), .pointer (some ⟨tb, 0, none⟩)]] w fun e w' => ∃ v, e = .returned v ∧ IntsZ w.heap.size w' v ((L.filter fun t => (isLate idle now) t.c).map (·.c.pin)) ∧ TabQ w' lo x m (L.filter fun t => !(isLate idle now) t.c) last idle ∧ Kept [m] w w' := by
  obtain ⟨w1, hw1⟩ : ∃ w1, w.alloc (.cells #[.map (some m)] 74) = w1 := ⟨_, rfl⟩
  have b1 : Below w.heap.size w w1 := by rw [← hw1]; exact (Below.refl _ _).alloc (Nat.le_refl _) _
  have c1 : w.cell? ⟨x, 1, none⟩ = some (.map (some m)) := h.blk.cell 1
  have KA := Lib.hid (keys_any32 m w)
  have SK := Lib.hid (sorted_keys32 m w.heap.size (cuE L) (L.map (·.c.n)) (by simp [cuE]) (by rw [List.length_map]; have := h.eight; omega) (fun k hk => by
    obtain ⟨t, ht, rfl⟩ := List.mem_map.1 hk
    exact (h.each t ht).n32) w1 (by rw [← hw1]; simp) (by rw [← hw1]; exact (Blk.new w _ _).cell 0) (h.map.on b1))
  have H1 := Lib.hid (h.on b1)
  have HR := Lib.hid hr
  have K1 := Lib.hid (show Kept [m] w w1 from Kept.of_below b1 (Nat.le_refl _))
  have H8 := h.eight
  have HRN := Lib.hid (show (L.map (·.c.n)).Pairwise (· < ·) from by rw [List.pairwise_map]; exact hr)
  have HNB := Lib.hid (And.intro hnb hn32)
  have HTB := Lib.hid htb
  have HNM := Lib.hid (show nb ≠ m ∧ tb ≠ m from ⟨fun e => h.map.ne_blk hnb e.symm, fun e => h.map.ne_blk htb e.symm⟩)
  clear hnb htb hn32
  clear h hr b1
  go_enter Try.func37, Try.ntmps37
  go_wp2_with (fail)
  refine KA.out.mono ?_
  rintro e w1' ⟨rfl, hw1'⟩
  rw [hw1] at hw1'
  subst hw1'
  go_wp2_with (fail)
  refine SK.out.mono ?_
  rintro e w2 ⟨v, ss, rfl, hp, hs, hv, hb2⟩
  obtain rfl : ss = L.map (·.c.n) := sorted_self hp hs HRN.out
  obtain ⟨va, vc, rfl, -⟩ := hv.form
  obtain ⟨n, hn⟩ : ∃ n, L.length = n := ⟨_, rfl⟩
  rw [List.length_map, hn] at hv ⊢
  have HV := Lib.hid hv
  have H2 := Lib.hid (H1.out.on hb2)
  have K2 := Lib.hid (show Kept [m] w w2 from K1.out.trans (Kept.of_below (F := [m]) hb2 (Nat.le_refl _)) (Grows.refl _ _))
  have HL := Lib.hid hn
  have HXL := Lib.hid H2.out.blk.lt
  have HML2 := Lib.hid H2.out.map.lt
  have HML := Lib.hid H1.out.map.lt
  have HFL := Lib.hid (fun (s : CurL) (hs : s ∈ L) (b : Nat) (hb : b ∈ fpC s) => ((H2.out.each s hs).lt b hb).2)
  have HW2 := Lib.hid K2.out.size
  rw [hn] at H8
  clear hp hs hv hb2 hn KA SK c1 hw1 H1 K1
  go_wp2
  go_loopw [5, 7, 15] (fun s5 s7 s15 wr => ∃ (i n5 c5 : Nat) (a5 : Option Addr) (z7 : Value), s5 = .slice a5 n5 c5 ∧ s7 = z7 ∧ s15 = .int .i64 (i : Int) ∧ i ≤ n ∧ Hid (TabQ wr lo x m (leftQ (isLate idle now) L i) last idle) ∧ Hid (Kept [m] w wr) ∧ Hid (Kept [m] w2 wr) ∧ Hid (IntsZ w2.heap.size wr (.slice a5 n5 c5) (goneQ (isLate idle now) L i))) (fun _ _ s15 _ => n - (intOf s15).toNat)
  case atStart => exact ⟨0, 0, 0, none, _, rfl, rfl, rfl, Nat.zero_le _, by rw [leftQ_zero]; exact H2.out, K2.out, Kept.refl _ _, by rw [goneQ_zero]; exact IntsZ.nil _ _⟩
  case round =>
    clear H2 K2
    obtain ⟨i, n5, c5, a5, z7, rfl, rfl, rfl, hi, HT, HK, HK2, HI⟩ := hrel
    by_cases hc : i < n
    · obtain ⟨t, ht⟩ : ∃ t, L[i]? = some t := ⟨L[i]'(by rw [HL.out]; exact hc), List.getElem?_eq_getElem _⟩
      have htm := leftQ_at (q := (isLate idle now)) ht
      have VB : VersW w1'.heap.size wr (.slice va n vc) (L.map (·.c.n)) := RowC.kept HV.out HK2.out (fun k e hk => by
        rw [List.mem_singleton] at hk
        have h1 := (RowC.lt HV.out k e).1
        have h2 := HML.out
        omega)
      obtain ⟨g, rfl, cg⟩ := VB.at1 i t.c.n (by rw [List.getElem?_map, ht]; rfl)
      obtain ⟨tn, htn⟩ : ∃ tn, t.c.n = tn := ⟨_, rfl⟩
      obtain ⟨tg, htg⟩ : ∃ tg, t.g = tg := ⟨_, rfl⟩
      have hgl : g < wr.heap.size := (RowC.lt VB g rfl).2
      have d1 : wr.cell? ⟨x, 1, none⟩ = some (.map (some m)) := HT.out.blk.cell 1
      have HM := Lib.hid HT.out.map
      have HE := Lib.hid (show (key32 tn, Value.pointer (some ⟨tg, 0, none⟩)) ∈ cuE (leftQ (isLate idle now) L i) from by rw [← htn, ← htg]; exact cuE_mem htm)
      have hn32 := Lib.hid (show tn < 4294967296 from htn ▸ (HT.out.each t htm).n32)
      have CL := Lib.hid (tick1_any wr tg x nb tb t idle now (.map (some m)) (.int .u32 (last : Int)) (HT.out.each t htm).blk htg (HK.out.blk HNB.out.1 (by simpa using HNM.out.1)) HNB.out.2 (HK.out.blk HTB.out (by simpa using HNM.out.2)) HT.out.blk)
      have STEP := Lib.hid (fun (w3 : World) (hb3 : Below wr.heap.size wr w3) => (⟨HT.out.on hb3, HK.out.trans (Kept.of_below (F := [m]) hb3 (Nat.le_refl _)) (Grows.refl _ _), HK2.out.trans (Kept.of_below (F := [m]) hb3 (Nat.le_refl _)) (Grows.refl _ _), RowC.on HI.out hb3, cdrop_any w3 lo x m last idle _ (HT.out.on hb3) t htm⟩ :
        TabQ w3 lo x m (leftQ (isLate idle now) L i) last idle ∧ Kept [m] w w3 ∧ Kept [m] w2 w3 ∧ IntsZ w2.heap.size w3 (.slice a5 n5 c5) (goneQ (isLate idle now) L i) ∧ Calls Try.prog 25 #[.pointer (some ⟨x, 0, none⟩), .int .u32 (t.c.n : Int)] w3 fun e w' => e = .returned (.int .i64 t.c.pin) ∧ TabQ w' lo x m ((leftQ (isLate idle now) L i).filter fun s => decide (s.c.n ≠ t.c.n)) last idle ∧ Kept [m] w3 w'))
      rw [htn] at cg STEP
      have TT := Lib.hid (And.intro ht htn)
      obtain ⟨z, hz⟩ : ∃ z, (isLate idle now) t.c = z := ⟨_, rfl⟩
      rw [hz] at CL
      obtain ⟨pn, hpn⟩ : ∃ pn, t.c.pin = pn := ⟨_, rfl⟩
      rw [hpn] at STEP
      have HPN := Lib.hid hpn
      have HZ := Lib.hid hz
      clear ht htm VB htn htg hz hpn
      cases z
      · go_wp2_with (first | (at_lookup; refine cu_look _ rfl _ _ rfl m _ rfl HM.out tn hn32.out rfl _ HE.out ?_) | fail)
        refine CL.out.mono ?_
        rintro e w3 ⟨rfl, hb3⟩
        have STEP := Lib.hid (STEP.out w3 hb3)
        clear CL hb3
        go_wp2
        go_roundw
        case rel => exact ⟨i + 1, n5, c5, a5, _, rfl, rfl, by go_num, by omega, by rw [leftQ_stay TT.out.1 HZ.out]; exact STEP.out.1, STEP.out.2.1, STEP.out.2.2.1, by rw [goneQ_stay TT.out.1 HZ.out]; exact STEP.out.2.2.2.1⟩
        case measure => simp [intOf]; omega
      · go_wp2_with (first | (at_lookup; refine cu_look _ rfl _ _ rfl m _ rfl HM.out tn hn32.out rfl _ HE.out ?_) | fail)
        refine CL.out.mono ?_
        rintro e wr2 ⟨rfl, hb3⟩
        obtain ⟨HT, HK, HK2, HI, CD⟩ := STEP.out wr2 hb3
        have HT := Lib.hid HT
        have HK := Lib.hid HK
        have HK2 := Lib.hid HK2
        have HI := Lib.hid HI
        have CD := Lib.hid CD
        clear CL hb3
        go_wp2_with (fail)
        refine CD.out.mono ?_
        rintro e w3 ⟨rfl, hT3, hK3⟩
        have HT3 := Lib.hid hT3
        have HK3 := Lib.hid hK3
        have HI3 := Lib.hid (show IntsZ w2.heap.size w3 (.slice a5 n5 c5) (goneQ (isLate idle now) L i) from RowC.kept HI.out hK3 (fun k e hk => by
          rw [List.mem_singleton] at hk
          have h1 := (RowC.lt HI.out k e).1
          have h2 := HML2.out
          omega))
        have hsz := Lib.hid (Nat.le_trans HK2.out.size hK3.size)
        have HGL := Lib.hid (goneQ_len (isLate idle now) L i)
        clear hT3 hK3 CD HM HE STEP
        go_wp2_with (first
          | (at_builtin; go_must (refine app_intZ w3 rfl _ _ rfl w2.heap.size (.slice a5 n5 c5) _ pn rfl rfl HI3.out hsz.out (by have := HGL.out; omega) ?_); intro v4 w4 h4 h5 h6)
          | fail)
        obtain ⟨a4, n4, c4, rfl, -⟩ := h4.parts
        have F5 : ∀ k ∈ ownB (.slice a5 n5 c5), w2.heap.size ≤ k := fun k hk => (RowC.lt HI3.out k (mem_ownB.1 hk)).1
        have H4 := Lib.hid h4
        have B4 := Lib.hid (show Below w2.heap.size w3 w4 from h5.below F5 hsz.out)
        have T4 := Lib.hid (show TabQ w4 lo x m (leftQ (isLate idle now) L (i + 1)) last idle from by
          rw [leftQ_go HR.out TT.out.1 HZ.out, TT.out.2]
          refine HT3.out.kept h5 fun b hb hb5 => ?_
          have h7 := F5 b hb5
          rcases mem_fpQ.1 hb with e | e | ⟨s, hs, e⟩
          · have := HXL.out; omega
          · have := HML2.out; omega
          · have := HFL.out s ((List.mem_append.1 (List.mem_filter.1 hs).1).elim (fun h => List.mem_of_mem_take (List.mem_filter.1 h).1) (fun h => List.mem_of_mem_drop h)) b e
            omega)
        have K4 := Lib.hid (show Kept [m] w w4 ∧ Kept [m] w2 w4 from by
          exact ⟨(HK.out.trans HK3.out (Grows.refl _ _)).trans h5 (fun b hb => .inr (by have := F5 b hb; have := HW2.out; omega)), (HK2.out.trans HK3.out (Grows.refl _ _)).trans h5 (fun b hb => .inr (F5 b hb))⟩)
        clear h4 h5 h6
        go_wp2
        go_roundw
        case rel => exact ⟨i + 1, n4, c4, a4, _, rfl, rfl, by go_num, by omega, T4.out, K4.out.1, K4.out.2, by rw [goneQ_go TT.out.1 HZ.out, HPN.out]; exact H4.out⟩
        case measure => simp [intOf]; omega
    · go_wp2
      go_ret
      have hin : L.length ≤ i := by rw [HL.out]; omega
      refine ⟨_, rfl, ?_, ?_, HK.out⟩
      · have h9 := HI.out
        rw [goneQ_end _ _ _ hin] at h9
        exact RowC.mono h9 HW2.out
      · have h9 := HT.out
        rw [leftQ_end _ _ _ hin] at h9
        exact h9

theorem filter_c (L : List CurL) (q : CurV → Bool) : (L.map (·.c)).filter q = (L.filter fun t => q t.c).map (·.c) := by
  rw [List.filter_map]
  rfl
theorem QPost.gone {w w' : World} {lo x m : Nat} {L : List CurL} {s : CTab} {q : CurV → Bool} (h2 : s.cs = L.map (·.c)) (h : TabQ w' lo x m (L.filter fun t => !q t.c) s.last s.idle) (hk : Kept [m] w w') : QPost lo x (fpQ x m L) (s.less q) w w' := by
  refine ⟨fpQ x m (L.filter fun t => !q t.c), ⟨m, _, h, ?_, rfl⟩, hk.mono (fun b hb => by rw [List.mem_singleton] at hb; exact mem_fpQ.2 (.inr (.inl hb))), fun b hb => .inl ?_⟩
  · show s.cs.filter (fun c => !q c) = _
    rw [h2, filter_c L (fun c => !q c)]
  · rcases mem_fpQ.1 hb with e | e | ⟨t, ht, e⟩
    · exact mem_fpQ.2 (.inl e)
    · exact mem_fpQ.2 (.inr (.inl e))
    · exact mem_fpQ.2 (.inr (.inr ⟨t, (List.mem_filter.1 ht).1, e⟩))
set_option maxRecDepth 100000 in
set_option maxHeartbeats 3200000 in
theorem cleave_any (w : World) (lo x : Nat) (F : List Nat) (s : CTab) (h : CIs w lo x F s) (hr : s.cs.Pairwise fun c d => c.n < d.n) (owner : Nat) :
    Calls Try.prog 19 #[.pointer (some ⟨x, 0, none⟩), .int .u64 (owner : Int)] w fun e w' => ∃ v, e = .returned v ∧ IntsZ w.heap.size w' v (s.pins (isOwner owner)) ∧ QPost lo x F (s.less (isOwner owner)) w w' := by
  obtain ⟨m, L, h1, h2, rfl⟩ := h
  obtain ⟨w1, hw1⟩ : ∃ w1, w.alloc (.cells #[.int .u64 (owner : Int)] 42) = w1 := ⟨_, rfl⟩
  have b1 : Below w.heap.size w w1 := by rw [← hw1]; exact (Below.refl _ _).alloc (Nat.le_refl _) _
  rw [h2, List.pairwise_map] at hr
  have DA := Lib.hid (dropall_leave w1 lo x m s.last s.idle L (h1.on b1) hr w.heap.size owner (by rw [← hw1]; exact Blk.new _ _ _))
  have FIN := Lib.hid (fun (v : Value) (w' : World) (hi : IntsZ w1.heap.size w' v ((L.filter fun t => isOwner owner t.c).map (·.c.pin))) (hT : TabQ w' lo x m (L.filter fun t => !isOwner owner t.c) s.last s.idle) (hk : Kept [m] w1 w') => show IntsZ w.heap.size w' v (s.pins (isOwner owner)) ∧ QPost lo x (fpQ x m L) (s.less (isOwner owner)) w w' from by
    refine ⟨?_, QPost.gone h2 hT ((Kept.of_below (F := [m]) b1 (Nat.le_refl _)).trans hk (Grows.refl _ _))⟩
    unfold CTab.pins
    rw [h2, filter_c, List.map_map]
    exact RowC.mono hi b1.size)
  clear h1 h2 hr b1
  go_enter Try.func19, Try.ntmps19
  go_wp2_with (first | (rw [hw1]) | fail)
  refine DA.out.mono ?_
  rintro e w' ⟨v, rfl, hi, hT, hk⟩
  have R := Lib.hid (FIN.out v w' hi hT hk)
  clear hi hT hk DA FIN
  go_wp2
  go_ret
  exact ⟨_, rfl, R.out⟩
set_option maxRecDepth 100000 in
set_option maxHeartbeats 3200000 in
theorem ctick_any (w : World) (lo x : Nat) (F : List Nat) (s : CTab) (h : CIs w lo x F s) (hr : s.cs.Pairwise fun c d => c.n < d.n) (now : Nat) (hn32 : now < 4294967296) :
    Calls Try.prog 21 #[.pointer (some ⟨x, 0, none⟩), .int .u32 (now : Int)] w fun e w' => ∃ v, e = .returned v ∧ IntsZ w.heap.size w' v (s.pins (isLate s.idle now)) ∧ QPost lo x F (s.less (isLate s.idle now)) w w' := by
  obtain ⟨m, L, h1, h2, rfl⟩ := h
  obtain ⟨w0, hw0⟩ : ∃ w0, w.alloc (.cells #[.pointer (some ⟨x, 0, none⟩)] 25) = w0 := ⟨_, rfl⟩
  obtain ⟨w1, hw1⟩ : ∃ w1, w0.alloc (.cells #[.int .u32 (now : Int)] 22) = w1 := ⟨_, rfl⟩
  have b0 : Below w.heap.size w w0 := by rw [← hw0]; exact (Below.refl _ _).alloc (Nat.le_refl _) _
  have bb : Below w0.heap.size w0 w1 := by rw [← hw1]; exact (Below.refl _ _).alloc (Nat.le_refl _) _
  have b1 : Below w.heap.size w w1 := below_on b0 bb
  have hs0 : w0.heap.size = w.heap.size + 1 := by rw [← hw0]; simp
  have A0 : Blk w1 w.heap.size 25 [.pointer (some ⟨x, 0, none⟩)] := (Kept.of_below (F := []) bb (Nat.le_refl _)).blk (by rw [← hw0]; exact Blk.new _ _ _) (by simp)
  have A1 : Blk w1 (w.heap.size + 1) 22 [.int .u32 (now : Int)] := by rw [← hs0, ← hw1]; exact Blk.new _ _ _
  rw [h2, List.pairwise_map] at hr
  have DA := Lib.hid (dropall_tick w1 lo x m s.last s.idle L (h1.on b1) hr (w.heap.size + 1) w.heap.size now hn32 A1 A0)
  have FIN := Lib.hid (fun (v : Value) (w' : World) (hi : IntsZ w1.heap.size w' v ((L.filter fun t => isLate s.idle now t.c).map (·.c.pin))) (hT : TabQ w' lo x m (L.filter fun t => !isLate s.idle now t.c) s.last s.idle) (hk : Kept [m] w1 w') => show IntsZ w.heap.size w' v (s.pins (isLate s.idle now)) ∧ QPost lo x (fpQ x m L) (s.less (isLate s.idle now)) w w' from by
    refine ⟨?_, QPost.gone h2 hT ((Kept.of_below (F := [m]) b1 (Nat.le_refl _)).trans hk (Grows.refl _ _))⟩
    unfold CTab.pins
    rw [h2, filter_c, List.map_map]
    exact RowC.mono hi b1.size)
  rw [← hs0] at A1
  have a0 : w1.cell? ⟨w.heap.size, 0, none⟩ = some (.pointer (some ⟨x, 0, none⟩)) := A0.cell 0
  rw [← hs0] at DA
  clear h1 h2 hr b1 b0 bb A0 A1 hs0 hn32
  go_enter Try.func21, Try.ntmps21
  go_wp2_with (first | (rw [hw0, hw1]) | (rw [hw1]) | fail)
  refine DA.out.mono ?_
  rintro e w' ⟨v, rfl, hi, hT, hk⟩
  have R := Lib.hid (FIN.out v w' hi hT hk)
  clear hi hT hk DA FIN
  go_wp2
  go_ret
  exact ⟨_, rfl, R.out⟩
end Go.Proofs.Ytadkfedglkhgjaa
