/-
  The program's store: its state in memory; New, Version, Pins, Rows, Size, which confs may be, Write, Pin, Unpin, Pinned.
-/
import Derived.Test.YtdmnflncgmnghaaGreatUx
namespace Go.Proofs.YtdmnflncgmnghaaGreat
open Go.RowKit Go.Maps

/-- A collection's letters: its block, its footprint, its conf, its past, the versions that are pinned. -/
structure SColl where
  c : Nat
  F : List Nat
  cf : ConfL
  p : PastV
  L : List Nat
structure SPin where
  n : Nat
  c : Nat
  v : Nat
def keyT (x : ByteArray) : Lit := .string x.data.toList
theorem keyT_inj : ∀ a b : ByteArray, keyT a = keyT b → a = b := (fun a b h => by
  have h2 := Lit.string.inj h
  cases a
  cases b
  congr 1
  exact Array.toList_inj.1 h2)
theorem keyT_lit (x : ByteArray) : WideAt.IsKeyLit (keyT x) := by trivial
def keyI (n : Nat) : Lit := .int .i64 (n : Int)
theorem keyI_inj : ∀ a b : Nat, keyI a = keyI b → a = b := fun a b h => by
  have h2 := (Lit.int.inj h).2
  omega
theorem keyI_lit (x : Nat) : WideAt.IsKeyLit (keyI x) := by trivial
def collE (Cs : List SColl) : List (Lit × Value) := Cs.map fun s => (keyT s.cf.name, .pointer (some ⟨s.c, 0, none⟩))
def pinV (q : SPin) : Value := .agg #[.pointer (some ⟨q.c, 0, none⟩), .int .u64 (q.v : Int)]
def pinE (Ps : List SPin) : List (Lit × Value) := Ps.map fun q => (keyI q.n, pinV q)
/-- The store stands in block g. -/
structure StoreIs (w : World) (lo N g gc gp : Nat) (Cs : List SColl) (Ps : List SPin) (ver last : Nat) : Prop where
  blk : Blk w g 85 [.int .u64 (ver : Int), .map (some gc), .map (some gp), .int .i64 (last : Int)]
  colls : MapE w Tryz.prog 9 gc (collE Cs)
  pins : MapE w Tryz.prog 3 gp (pinE Ps)
  each : ∀ s ∈ Cs, CollAt w lo N s.c s.F s.cf s.p s.L
  apart : Cs.Pairwise fun s t => Apart s.F t.F
  out : ∀ s ∈ Cs, g ∉ s.F ∧ gc ∉ s.F ∧ gp ∉ s.F
  gcp : gc ≠ gp
  low : lo ≤ g ∧ lo ≤ gc ∧ lo ≤ gp
  hver : ver ≤ N
  hlast : last ≤ N
  hps : Ps.length ≤ N
  hcs : Cs.length ≤ 8
  held : ∀ s ∈ Cs, s.L.Perm ((Ps.filter fun q => decide (q.c = s.c)).map (·.v))
  home : ∀ q ∈ Ps, ∃ s ∈ Cs, s.c = q.c
  hv : ∀ q ∈ Ps, q.v ≤ ver ∧ 1 ≤ q.n ∧ q.n ≤ last
  dim : ∀ s ∈ Cs, s.cf.dim ≤ 255
def storeFp (g gc gp : Nat) (Cs : List SColl) : List Nat := g :: gc :: gp :: Cs.flatMap (·.F)
theorem mem_storeFp {g gc gp x : Nat} {Cs : List SColl} : x ∈ storeFp g gc gp Cs ↔ x = g ∨ x = gc ∨ x = gp ∨ ∃ s ∈ Cs, x ∈ s.F := by
  simp [storeFp, List.mem_flatMap]
section
variable {w w' : World} {lo N g gc gp ver last : Nat} {Cs : List SColl} {Ps : List SPin} {G : List Nat}
theorem StoreIs.kept (h : StoreIs w lo N g gc gp Cs Ps ver last) (hk : Kept G w w') (hG : ∀ x ∈ G, x ∉ storeFp g gc gp Cs) : StoreIs w' lo N g gc gp Cs Ps ver last :=
  { h with
    blk := hk.blk h.blk (fun hh => hG g hh (mem_storeFp.2 (.inl rfl)))
    colls := h.colls.kept hk (fun hh => hG gc hh (mem_storeFp.2 (.inr (.inl rfl))))
    pins := h.pins.kept hk (fun hh => hG gp hh (mem_storeFp.2 (.inr (.inr (.inl rfl)))))
    each := fun s hs => (h.each s hs).kept hk (fun x hx hF => hG x hx (mem_storeFp.2 (.inr (.inr (.inr ⟨s, hs, hF⟩))))) }
theorem StoreIs.on (h : StoreIs w lo N g gc gp Cs Ps ver last) (hb : Below w.heap.size w w') : StoreIs w' lo N g gc gp Cs Ps ver last := h.kept (G := []) (Kept.of_below hb (Nat.le_refl _)) (by simp)
theorem StoreIs.lt (h : StoreIs w lo N g gc gp Cs Ps ver last) : ∀ x ∈ storeFp g gc gp Cs, lo ≤ x ∧ x < w.heap.size := by
  intro x hx
  rcases mem_storeFp.1 hx with rfl | rfl | rfl | ⟨s, hs, hF⟩
  · exact ⟨h.low.1, h.blk.lt⟩
  · exact ⟨h.low.2.1, h.colls.lt⟩
  · exact ⟨h.low.2.2, h.pins.lt⟩
  · exact (h.each s hs).lt x hF
theorem StoreIs.ggc (h : StoreIs w lo N g gc gp Cs Ps ver last) : gc ≠ g ∧ gp ≠ g := ⟨h.colls.ne_blk h.blk, h.pins.ne_blk h.blk⟩
theorem StoreIs.raise (h : StoreIs w lo N g gc gp Cs Ps ver last) : StoreIs w lo (N + 1) g gc gp Cs Ps ver last :=
  { h with each := fun s hs => (h.each s hs).raise, hver := Nat.le_succ_of_le h.hver, hlast := Nat.le_succ_of_le h.hlast, hps := Nat.le_succ_of_le h.hps }
/-- In whatever order its collections are named. -/
theorem StoreIs.turned {Cs' : List SColl} (h : StoreIs w lo N g gc gp Cs Ps ver last) (hp : Cs.Perm Cs') : StoreIs w lo N g gc gp Cs' Ps ver last :=
  { h with
    colls := h.colls.perm (hp.map _)
    each := fun s hs => h.each s (hp.mem_iff.2 hs)
    apart := (hp.symm.pairwise_iff (fun h => Apart.symm h)).2 h.apart
    out := fun s hs => h.out s (hp.mem_iff.2 hs)
    hcs := by rw [← hp.length_eq]; exact h.hcs
    held := fun s hs => h.held s (hp.mem_iff.2 hs)
    home := fun q hq => by
      obtain ⟨s, hs, e⟩ := h.home q hq
      exact ⟨s, hp.mem_iff.1 hs, e⟩
    dim := fun s hs => h.dim s (hp.mem_iff.2 hs) }
end
theorem keyOf_str (x : ByteArray) (h : x.size ≤ maxLen) : keyOf Tryz.prog 9 (.string x) = some (keyT x) := by simp [keyOf, mapKey, Tryz.underlying9, keyT, h]
theorem i64_wfU {v : Nat} (h : v ≤ 1000000) : (Lit.int .i64 (v : Int)).wf = true := by
  simp [Lit.wf, IntKind.min, IntKind.max, IntKind.signed, IntKind.bits]
  omega
theorem keyOf_i (n : Nat) (h : n ≤ 1000000) : keyOf Tryz.prog 3 (.int .i64 (n : Int)) = some (keyI n) := Maps.keyOf_int_mk Tryz.underlying3 (i64_wfU h)
section
variable {ops : Array Oper} {rest : List Oper} {o : Oper} {a : Act} {Q : Exit → Act → World → Prop}
theorem colls_look (w : World) (hg : o.guard = none) (m x : Operand) (hop : o.op = Op.lookup 77 m x false) (gc : Nat) (E : List (Lit × Value)) (hm : a.eval m = .map (some gc)) (h : MapE w Tryz.prog 9 gc E) (nm : ByteArray) (hsz : nm.size ≤ maxLen) (hx : a.eval x = .string nm) (z : Value) (hz : (keyT nm, z) ∈ E)
    (hK : wpList Tryz.prog ops Q rest (a.put o.dst z) w) : wpList Tryz.prog ops Q (o :: rest) a w :=
  map_found w hg m x _ hop 9 101 (Maps.string_keyed Tryz.underlying9) Tryz.underlying77 (Tryz.zeroValue101 w) gc E hm h _ (keyT nm) hx (keyOf_str nm hsz) (keyT_lit nm) z hz hK
theorem colls_none (w : World) (hg : o.guard = none) (m x : Operand) (hop : o.op = Op.lookup 77 m x false) (gc : Nat) (E : List (Lit × Value)) (hm : a.eval m = .map (some gc)) (h : MapE w Tryz.prog 9 gc E) (nm : ByteArray) (hsz : nm.size ≤ maxLen) (hx : a.eval x = .string nm) (hn : ∀ p ∈ E, p.1 ≠ keyT nm)
    (hK : wpList Tryz.prog ops Q rest (a.put o.dst (.pointer none)) w) : wpList Tryz.prog ops Q (o :: rest) a w :=
  map_none w hg m x _ hop 9 101 (Maps.string_keyed Tryz.underlying9) Tryz.underlying77 (Tryz.zeroValue101 w) gc E hm h _ (keyT nm) hx (keyOf_str nm hsz) hn hK
theorem colls_put (w : World) (hg : o.guard = none) (m x y : Operand) (hop : o.op = Op.mapUpdate 77 m x y) (gc : Nat) (E : List (Lit × Value)) (hl : E.length ≤ 1000000) (hm : a.eval m = .map (some gc)) (h : MapE w Tryz.prog 9 gc E) (nm : ByteArray) (hsz : nm.size ≤ maxLen) (hx : a.eval x = .string nm) (z : Value) (hy : a.eval y = z)
    (hK : ∀ w', MapE w' Tryz.prog 9 gc (putE E (keyT nm) z) → Kept [gc] w w' → wpList Tryz.prog ops Q rest (a.put o.dst undef) w') : wpList Tryz.prog ops Q (o :: rest) a w :=
  map_put w hg m x y _ hop 9 101 (Maps.string_keyed Tryz.underlying9) Tryz.underlying77 gc E hl hm h _ z (keyT nm) hx hy (keyOf_str nm hsz) (keyT_lit nm) hK
theorem colls_len (w : World) (hg : o.guard = none) (m : Operand) (hop : o.op = Op.call { callee := Callee.builtin Builtin.len, args := #[m], argTypes := #[77] }) (gc : Nat) (E : List (Lit × Value)) (n : Nat) (hn : E.length = n) (hm : a.eval m = .map (some gc)) (h : MapE w Tryz.prog 9 gc E)
    (hK : wpList Tryz.prog ops Q rest (a.put o.dst (.int .i64 (n : Int))) w) : wpList Tryz.prog ops Q (o :: rest) a w :=
  map_len w hg m _ hop _ _ Tryz.underlying77 gc E n hn hm h hK
theorem zero_pin (w : World) : (zeroValue 118).run Tryz.prog w = .ok (.agg #[.pointer none, .int .u64 0]) w := by go_simp
theorem pins_ok (w : World) (hg : o.guard = none) (m x : Operand) (hop : o.op = Op.lookup 78 m x true) (gp : Nat) (E : List (Lit × Value)) (hm : a.eval m = .map (some gp)) (h : MapE w Tryz.prog 3 gp E) (n : Nat) (hn : n ≤ 1000000) (hx : a.eval x = .int .i64 (n : Int)) (z : Value) (hz : (keyI n, z) ∈ E)
    (hK : wpList Tryz.prog ops Q rest (a.put o.dst (.tuple #[z, .bool true])) w) : wpList Tryz.prog ops Q (o :: rest) a w :=
  map_ok_found w hg m x _ hop 3 118 (Maps.int_keyed Tryz.underlying3) Tryz.underlying78 (zero_pin w) gp E hm h _ (keyI n) hx (keyOf_i n hn) (keyI_lit n) z hz hK
theorem pins_ok_none (w : World) (hg : o.guard = none) (m x : Operand) (hop : o.op = Op.lookup 78 m x true) (gp : Nat) (E : List (Lit × Value)) (hm : a.eval m = .map (some gp)) (h : MapE w Tryz.prog 3 gp E) (i : Int) (hi : (Lit.int .i64 i).wf = true) (hx : a.eval x = .int .i64 i) (hn : ∀ p ∈ E, p.1 ≠ .int .i64 i)
    (hK : wpList Tryz.prog ops Q rest (a.put o.dst (.tuple #[.agg #[.pointer none, .int .u64 0], .bool false])) w) : wpList Tryz.prog ops Q (o :: rest) a w :=
  map_ok_none w hg m x _ hop 3 118 (Maps.int_keyed Tryz.underlying3) Tryz.underlying78 (zero_pin w) gp E hm h _ (.int .i64 i) hx (Maps.keyOf_int_mk Tryz.underlying3 hi) hn hK
theorem pins_put (w : World) (hg : o.guard = none) (m x y : Operand) (hop : o.op = Op.mapUpdate 78 m x y) (gp : Nat) (E : List (Lit × Value)) (hl : E.length ≤ 1000000) (hm : a.eval m = .map (some gp)) (h : MapE w Tryz.prog 3 gp E) (n : Nat) (hn : n ≤ 1000000) (hx : a.eval x = .int .i64 (n : Int)) (z : Value) (hy : a.eval y = z)
    (hK : ∀ w', MapE w' Tryz.prog 3 gp (putE E (keyI n) z) → Kept [gp] w w' → wpList Tryz.prog ops Q rest (a.put o.dst undef) w') : wpList Tryz.prog ops Q (o :: rest) a w :=
  map_put w hg m x y _ hop 3 118 (Maps.int_keyed Tryz.underlying3) Tryz.underlying78 gp E hl hm h _ z (keyI n) hx hy (keyOf_i n hn) (keyI_lit n) hK
theorem pins_del (w : World) (hg : o.guard = none) (m x : Operand) (hop : o.op = Op.call { callee := Callee.builtin Builtin.delete, args := #[m, x], argTypes := #[78, 3] }) (gp : Nat) (E : List (Lit × Value)) (hm : a.eval m = .map (some gp)) (h : MapE w Tryz.prog 3 gp E) (n : Nat) (hn : n ≤ 1000000) (hx : a.eval x = .int .i64 (n : Int))
    (hK : ∀ w', MapE w' Tryz.prog 3 gp (dropE E (keyI n)) → Kept [gp] w w' → wpList Tryz.prog ops Q rest (a.put o.dst (.tuple #[])) w') : wpList Tryz.prog ops Q (o :: rest) a w :=
  map_del w hg m x _ _ hop 118 (Maps.int_keyed Tryz.underlying3) Tryz.underlying78 gp E hm h _ (keyI n) hx (keyOf_i n hn) hK
theorem pins_len (w : World) (hg : o.guard = none) (m : Operand) (hop : o.op = Op.call { callee := Callee.builtin Builtin.len, args := #[m], argTypes := #[78] }) (gp : Nat) (E : List (Lit × Value)) (n : Nat) (hn : E.length = n) (hm : a.eval m = .map (some gp)) (h : MapE w Tryz.prog 3 gp E)
    (hK : wpList Tryz.prog ops Q rest (a.put o.dst (.int .i64 (n : Int))) w) : wpList Tryz.prog ops Q (o :: rest) a w :=
  map_len w hg m _ hop _ _ Tryz.underlying78 gp E n hn hm h hK
end
section
variable {w w' : World} {lo N g gc gp ver last : Nat} {s : SColl} {Cs : List SColl} {Ps : List SPin}
/-- One of its collections has turned, and its version. -/
theorem StoreIs.turn1 (h : StoreIs w lo N g gc gp (s :: Cs) Ps ver last) {F' : List Nat} {p' : PastV} (h1 : CollAt w' lo N s.c F' s.cf p' s.L) (hk : Kept s.F w w') (hg : Grows w s.F F') :
    StoreIs w' lo N g gc gp ({ s with F := F', p := p' } :: Cs) Ps ver last ∧ Kept (storeFp g gc gp (s :: Cs)) w w' ∧ Grows w (storeFp g gc gp (s :: Cs)) (storeFp g gc gp ({ s with F := F', p := p' } :: Cs)) := by
  have ho := h.out s (by simp)
  have hg0 := h.blk.lt
  have hg1 := h.colls.lt
  have hg2 := h.pins.lt
  have hap := List.pairwise_cons.1 h.apart
  refine ⟨{ h with
    blk := hk.blk h.blk ho.1
    colls := h.colls.kept hk ho.2.1
    pins := h.pins.kept hk ho.2.2
    each := ?_, apart := ?_, out := ?_, held := ?_, home := ?_, dim := ?_ }, hk.mono (fun x hx => mem_storeFp.2 (.inr (.inr (.inr ⟨s, by simp, hx⟩)))), ?_⟩
  · intro t ht
    rcases List.mem_cons.1 ht with rfl | ht
    · exact h1
    · exact (h.each t (List.mem_cons_of_mem _ ht)).kept hk (fun x hx hF => hap.1 t ht x hx hF)
  · refine List.pairwise_cons.2 ⟨fun t ht => (hap.1 t ht).grows hg (fun x hx => ((h.each t (List.mem_cons_of_mem _ ht)).lt x hx).2), hap.2⟩
  · intro t ht
    rcases List.mem_cons.1 ht with rfl | ht
    · refine ⟨fun hx => ?_, fun hx => ?_, fun hx => ?_⟩
      · rcases hg _ hx with h3 | h3
        · exact ho.1 h3
        · omega
      · rcases hg _ hx with h3 | h3
        · exact ho.2.1 h3
        · omega
      · rcases hg _ hx with h3 | h3
        · exact ho.2.2 h3
        · omega
    · exact h.out t (List.mem_cons_of_mem _ ht)
  · intro t ht
    rcases List.mem_cons.1 ht with rfl | ht
    · exact h.held s (by simp)
    · exact h.held t (List.mem_cons_of_mem _ ht)
  · intro q hq
    obtain ⟨t, ht, e⟩ := h.home q hq
    rcases List.mem_cons.1 ht with rfl | ht
    · exact ⟨_, List.mem_cons_self, e⟩
    · exact ⟨t, List.mem_cons_of_mem _ ht, e⟩
  · intro t ht
    rcases List.mem_cons.1 ht with rfl | ht
    · exact h.dim s (by simp)
    · exact h.dim t (List.mem_cons_of_mem _ ht)
  · intro x hx
    rcases mem_storeFp.1 hx with e | e | e | ⟨t, ht, hF⟩
    · exact .inl (mem_storeFp.2 (.inl e))
    · exact .inl (mem_storeFp.2 (.inr (.inl e)))
    · exact .inl (mem_storeFp.2 (.inr (.inr (.inl e))))
    · rcases List.mem_cons.1 ht with rfl | ht
      · rcases hg x hF with h3 | h3
        · exact .inl (mem_storeFp.2 (.inr (.inr (.inr ⟨s, by simp, h3⟩))))
        · exact .inr h3
      · exact .inl (mem_storeFp.2 (.inr (.inr (.inr ⟨t, List.mem_cons_of_mem _ ht, hF⟩))))
end

set_option maxRecDepth 100000 in
set_option maxHeartbeats 1600000 in
theorem version_store (w : World) (lo N g gc gp ver last : Nat) (Cs : List SColl) (Ps : List SPin) (h : StoreIs w lo N g gc gp Cs Ps ver last) :
    Calls Tryz.prog 14 #[.pointer (some ⟨g, 0, none⟩)] w fun e w' => e = .returned (.int .u64 (ver : Int)) ∧ w' = w := by
  have c0 : w.cell? ⟨g, 0, none⟩ = some (.int .u64 (ver : Int)) := h.blk.cell 0
  clear h
  go_enter Tryz.func14, Tryz.ntmps14
  go_wp2_with (fail)
  refine (load_u64 w g 0 _ c0).mono ?_
  rintro e w1 ⟨rfl, hw1⟩
  subst hw1
  go_wp2
  go_ret
  exact ⟨rfl, rfl⟩
set_option maxRecDepth 100000 in
set_option maxHeartbeats 1600000 in
theorem pins_store (w : World) (lo N g gc gp ver last : Nat) (Cs : List SColl) (Ps : List SPin) (h : StoreIs w lo N g gc gp Cs Ps ver last) :
    Calls Tryz.prog 15 #[.pointer (some ⟨g, 0, none⟩)] w fun e w' => e = .returned (.int .i64 (Ps.length : Int)) ∧ w' = w := by
  have c2 : w.cell? ⟨g, 2, none⟩ = some (.map (some gp)) := h.blk.cell 2
  have HM := Lib.hid h.pins
  obtain ⟨m, hm⟩ : ∃ m, Ps.length = m := ⟨_, rfl⟩
  have HL := Lib.hid (show (pinE Ps).length = m from by rw [← hm]; simp [pinE])
  rw [hm]
  clear h hm
  go_enter Tryz.func15, Tryz.ntmps15
  go_wp2_with (first | (at_len; refine pins_len _ rfl _ rfl gp _ m HL.out rfl HM.out ?_) | fail)
  go_wp2
  go_ret
  exact ⟨rfl, rfl⟩
set_option maxRecDepth 100000 in
set_option maxHeartbeats 1600000 in
theorem new_store (w : World) :
    Calls Tryz.prog 11 #[] w fun e w' => ∃ g gc gp, e = .returned (.pointer (some ⟨g, 0, none⟩)) ∧ Below w.heap.size w w' ∧ StoreIs w' w.heap.size 0 g gc gp [] [] 0 0 := by
  obtain ⟨w1, hw1⟩ : ∃ w1, w.alloc (.map #[] 0) = w1 := ⟨_, rfl⟩
  obtain ⟨w2, hw2⟩ : ∃ w2, w1.alloc (.map #[] 0) = w2 := ⟨_, rfl⟩
  have hb1 : Below w.heap.size w w1 := by rw [← hw1]; exact (Below.refl _ _).alloc (Nat.le_refl _) _
  have hb2 : Below w1.heap.size w1 w2 := by rw [← hw2]; exact (Below.refl _ _).alloc (Nat.le_refl _) _
  have hs1 : w1.heap.size = w.heap.size + 1 := by rw [← hw1]; simp
  have hs2 : w2.heap.size = w.heap.size + 2 := by rw [← hw2]; simp [hs1]
  have M1 := Lib.hid (show MapE w1 Tryz.prog 9 w.heap.size [] from by rw [← hw1]; exact MapE.made _ _ _)
  have M2 := Lib.hid (show MapE w2 Tryz.prog 3 (w.heap.size + 1) [] from by rw [← hs1, ← hw2]; exact MapE.made _ _ _)
  obtain ⟨w3, hw3⟩ : ∃ w3, w2.alloc (.cells #[.int .u64 0, .map (some w.heap.size), .map (some (w.heap.size + 1)), .int .i64 0] 85) = w3 := ⟨_, rfl⟩
  have hb3 : Below w2.heap.size w2 w3 := by rw [← hw3]; exact (Below.refl _ _).alloc (Nat.le_refl _) _
  have R := Lib.hid (show Below w.heap.size w w3 ∧ StoreIs w3 w.heap.size 0 (w.heap.size + 2) w.heap.size (w.heap.size + 1) [] [] 0 0 from by
    refine ⟨below_on (below_on hb1 hb2) hb3, ⟨by rw [← hw3, ← hs2]; exact Blk.new _ _ _, (M1.out.on hb2).on hb3, M2.out.on hb3, by simp, List.Pairwise.nil, by simp, by omega, by omega, by omega, by omega, by simp, by simp, by simp, by simp, by simp, by simp⟩⟩)
  clear hb1 hb2 hb3 M1 M2
  have hmm := @run_makeMap Tryz.prog
  go_enter Tryz.func11, Tryz.ntmps11
  go_wp2
  go_ret
  exact ⟨_, _, _, rfl, R.out.1, R.out.2⟩
theorem StoreIs.look {w : World} {lo N g gc gp ver last : Nat} {s : SColl} {Cs : List SColl} {Ps : List SPin} (_h : StoreIs w lo N g gc gp (s :: Cs) Ps ver last) : (keyT s.cf.name, Value.pointer (some ⟨s.c, 0, none⟩)) ∈ collE (s :: Cs) := by simp [collE]
set_option maxRecDepth 100000 in
set_option maxHeartbeats 1600000 in
theorem rows_store (w : World) (lo N g gc gp ver last : Nat) (s : SColl) (Cs : List SColl) (Ps : List SPin) (hsz : s.cf.name.size ≤ maxLen) (h : StoreIs w lo N g gc gp (s :: Cs) Ps ver last) :
    Calls Tryz.prog 18 #[.pointer (some ⟨g, 0, none⟩), .string s.cf.name] w fun e w' => e = .returned (.int .i64 (s.p.rows.length : Int)) ∧ w' = w := by
  have c1 : w.cell? ⟨g, 1, none⟩ = some (.map (some gc)) := h.blk.cell 1
  have HM := Lib.hid h.colls
  have HE := Lib.hid h.look
  obtain ⟨gp', gh, Fp, H, hC, hF⟩ := h.each s (by simp)
  have c6 : w.cell? ⟨s.c, 6, none⟩ = some (.pointer (some ⟨gp', 0, none⟩)) := hC.blk.cell 6
  have RC := Lib.hid (rows_is w lo gp' Fp s.p hC.past)
  obtain ⟨m, hm⟩ : ∃ m, s.p.rows.length = m := ⟨_, rfl⟩
  obtain ⟨nm, hnm⟩ : ∃ nm, s.cf.name = nm := ⟨_, rfl⟩
  obtain ⟨c, hc⟩ : ∃ c, s.c = c := ⟨_, rfl⟩
  rw [hm] at RC ⊢
  rw [hnm] at HE hsz ⊢
  rw [hc] at HE c6
  clear h hC hF hm hnm hc
  go_enter Tryz.func18, Tryz.ntmps18
  go_wp2_with (first | (at_lookup; refine colls_look _ rfl _ _ rfl gc _ rfl HM.out nm hsz rfl _ HE.out ?_) | fail)
  refine RC.out.mono ?_
  rintro e w1 ⟨rfl, hw1⟩
  subst hw1
  go_wp2
  go_ret
  exact ⟨rfl, rfl⟩
set_option maxRecDepth 100000 in
set_option maxHeartbeats 1600000 in
theorem size_store (w : World) (lo N g gc gp ver last : Nat) (s : SColl) (Cs : List SColl) (Ps : List SPin) (hsz : s.cf.name.size ≤ maxLen) (h : StoreIs w lo N g gc gp (s :: Cs) Ps ver last) :
    Calls Tryz.prog 17 #[.pointer (some ⟨g, 0, none⟩), .string s.cf.name] w fun e w' => e = .returned (.int .i64 ((s.p.all s.p.last).1.length : Int)) ∧ Below w.heap.size w w' := by
  have c1 : w.cell? ⟨g, 1, none⟩ = some (.map (some gc)) := h.blk.cell 1
  have HM := Lib.hid h.colls
  have HE := Lib.hid h.look
  have NC := Lib.hid (coll_now w lo N s.c s.F s.cf s.p s.L (h.each s (by simp)))
  obtain ⟨m, hm⟩ : ∃ m, (s.p.all s.p.last).1.length = m := ⟨_, rfl⟩
  obtain ⟨nm, hnm⟩ : ∃ nm, s.cf.name = nm := ⟨_, rfl⟩
  have HMm := Lib.hid hm
  rw [hm]
  rw [hnm] at HE hsz ⊢
  clear h hm hnm
  go_enter Tryz.func17, Tryz.ntmps17
  go_wp2_with (first | (at_lookup; refine colls_look _ rfl _ _ rfl gc _ rfl HM.out nm hsz rfl _ HE.out ?_) | fail)
  refine NC.out.mono ?_
  rintro e w1 ⟨hb, sv, xs, rfl, h1, h2, h3⟩
  obtain ⟨xa, xc, rfl, -⟩ := h1.form
  have hl : xs.length = m := by rw [← HMm.out, ← h3, List.length_map]
  rw [hl]
  clear h1 h2 h3 hl
  go_wp2
  go_ret
  exact ⟨rfl, hb⟩

set_option maxRecDepth 100000 in
set_option maxHeartbeats 1600000 in
theorem within_any (w : World) (n m : Nat) :
    Calls Tryz.prog 69 #[.int .i64 (n : Int), .int .i64 (m : Int)] w fun e w' => e = .returned (.bool (decide (1 ≤ n ∧ n ≤ m))) ∧ w' = w := by
  by_cases h1 : 1 ≤ n
  · by_cases h2 : n ≤ m
    · rw [decide_eq_true (show 1 ≤ n ∧ n ≤ m from ⟨h1, h2⟩)]
      have d1 : decide ((n : Int) ≥ 1) = true := decide_eq_true (by omega)
      have d1' : decide ((1 : Int) ≤ (n : Int)) = true := decide_eq_true (by omega)
      have d2 : decide ((n : Int) ≤ (m : Int)) = true := decide_eq_true (by omega)
      go_enter Tryz.func69, Tryz.ntmps69
      go_wp2
      go_ret
      exact ⟨rfl, rfl⟩
    · rw [decide_eq_false (show ¬ (1 ≤ n ∧ n ≤ m) from fun h => h2 h.2)]
      have d1 : decide ((n : Int) ≥ 1) = true := decide_eq_true (by omega)
      have d1' : decide ((1 : Int) ≤ (n : Int)) = true := decide_eq_true (by omega)
      have d2 : decide ((n : Int) ≤ (m : Int)) = false := decide_eq_false (by omega)
      go_enter Tryz.func69, Tryz.ntmps69
      go_wp2
      go_ret
      exact ⟨rfl, rfl⟩
  · rw [decide_eq_false (show ¬ (1 ≤ n ∧ n ≤ m) from fun h => h1 h.1)]
    have d1 : decide ((n : Int) ≥ 1) = false := decide_eq_false (by omega)
    have d1' : decide ((1 : Int) ≤ (n : Int)) = false := decide_eq_false (by omega)
    go_enter Tryz.func69, Tryz.ntmps69
    go_wp2
    go_ret
    exact ⟨rfl, rfl⟩
def ConfL.gOk (c : ConfL) : Bool := if c.graph = true then decide (1 ≤ c.links ∧ c.links ≤ 8) && decide (1 ≤ c.width ∧ c.width ≤ 256) else decide (c.links = 0) && decide (c.width = 0)
def ConfL.ok (c : ConfL) : Bool := decide (1 ≤ c.name.size ∧ c.name.size ≤ 16) && decide (1 ≤ c.dim ∧ c.dim ≤ 16) && decide (c.metric ≤ 1) && c.gOk
/-- What a conf's numbers are. -/
structure ConfL.Wf (c : ConfL) : Prop where
  size : c.name.size ≤ 140737488351232
  dim : c.dim ≤ 255
  metric : c.metric ≤ 255
  links : c.links ≤ 255
  width : c.width ≤ 65535
set_option maxRecDepth 100000 in
set_option maxHeartbeats 3200000 in
theorem graph_any (w : World) (c : ConfL) (hw : c.Wf) :
    Calls Tryz.prog 70 #[.agg c.cells.toArray] w fun e w' => e = .returned (.bool c.gOk) ∧ Below w.heap.size w w' := by
  obtain ⟨nm, d, m, gr, l, wd⟩ := c
  obtain ⟨hz, hd, hm, hl, hwd⟩ := hw
  have hl : l ≤ 255 := hl
  have hwd : wd ≤ 65535 := hwd
  obtain ⟨w1, hw1⟩ : ∃ w1, w.alloc (.cells #[.string nm, .int .u8 (d : Int), .int .u8 (m : Int), .bool gr, .int .u8 (l : Int), .int .u16 (wd : Int)] 36) = w1 := ⟨_, rfl⟩
  have hb1 : Below w.heap.size w w1 := by rw [← hw1]; exact (Below.refl _ _).alloc (Nat.le_refl _) _
  have X1 : Blk w1 w.heap.size 36 [.string nm, .int .u8 (d : Int), .int .u8 (m : Int), .bool gr, .int .u8 (l : Int), .int .u16 (wd : Int)] := by rw [← hw1]; exact Blk.new _ _ _
  have c3 : w1.cell? ⟨w.heap.size, 3, none⟩ = some (.bool gr) := X1.cell 3
  have c4 : w1.cell? ⟨w.heap.size, 4, none⟩ = some (.int .u8 (l : Int)) := X1.cell 4
  have c5 : w1.cell? ⟨w.heap.size, 5, none⟩ = some (.int .u16 (wd : Int)) := X1.cell 5
  have B1 := Lib.hid hb1
  have v1 : IntKind.i64.wrap (l : Int) = (l : Int) := by rw [IntKind.wrap_i64]; omega
  have v2 : IntKind.i64.wrap (wd : Int) = (wd : Int) := by rw [IntKind.wrap_i64]; omega
  have W1 := Lib.hid (within_any w1 l 8)
  have W2 := Lib.hid (within_any w1 wd 256)
  clear X1 hb1 hz hd hm
  show Calls _ _ #[.agg #[.string nm, .int .u8 (d : Int), .int .u8 (m : Int), .bool gr, .int .u8 (l : Int), .int .u16 (wd : Int)]] _ _
  cases gr
  · show Calls _ _ _ _ fun e w' => e = .returned (.bool (decide (l = 0) && decide (wd = 0))) ∧ _
    by_cases h4 : l = 0
    · have e4 : ((l : Int) == 0) = true := by rw [beq_iff_eq]; omega
      by_cases h5 : wd = 0
      · have e5 : ((wd : Int) == 0) = true := by rw [beq_iff_eq]; omega
        rw [decide_eq_true h4, decide_eq_true h5]
        clear h4 h5
        go_enter Tryz.func70, Tryz.ntmps70
        go_wp2
        go_ret
        exact ⟨rfl, B1.out⟩
      · have e5 : ((wd : Int) == 0) = false := by rw [beq_eq_false_iff_ne]; omega
        rw [decide_eq_true h4, decide_eq_false h5]
        clear h4 h5
        go_enter Tryz.func70, Tryz.ntmps70
        go_wp2
        go_ret
        exact ⟨rfl, B1.out⟩
    · have e4 : ((l : Int) == 0) = false := by rw [beq_eq_false_iff_ne]; omega
      rw [decide_eq_false h4]
      clear h4
      go_enter Tryz.func70, Tryz.ntmps70
      go_wp2
      go_ret
      exact ⟨rfl, B1.out⟩
  · show Calls _ _ _ _ fun e w' => e = .returned (.bool (decide (1 ≤ l ∧ l ≤ 8) && decide (1 ≤ wd ∧ wd ≤ 256))) ∧ _
    obtain ⟨z2, hz2⟩ : ∃ z2, decide (1 ≤ wd ∧ wd ≤ 256) = z2 := ⟨_, rfl⟩
    rw [hz2] at W2 ⊢
    clear hz2
    by_cases h4 : 1 ≤ l ∧ l ≤ 8
    · rw [decide_eq_true h4] at W1 ⊢
      go_enter Tryz.func70, Tryz.ntmps70
      go_wp2_with (fail)
      refine W1.out.mono ?_
      rintro e w2 ⟨rfl, hw2⟩
      subst hw2
      go_wp2_with (fail)
      refine W2.out.mono ?_
      rintro e w3 ⟨rfl, hw3⟩
      subst hw3
      go_wp2
      go_ret
      exact ⟨rfl, B1.out⟩
    · rw [decide_eq_false h4] at W1 ⊢
      go_enter Tryz.func70, Tryz.ntmps70
      go_wp2_with (fail)
      refine W1.out.mono ?_
      rintro e w2 ⟨rfl, hw2⟩
      subst hw2
      go_wp2
      go_ret
      exact ⟨rfl, B1.out⟩
set_option maxRecDepth 100000 in
set_option maxHeartbeats 3200000 in
theorem mayBe_any (w : World) (c : ConfL) (hw : c.Wf) :
    Calls Tryz.prog 44 #[.agg c.cells.toArray] w fun e w' => e = .returned (.bool c.ok) ∧ Below w.heap.size w w' := by
  obtain ⟨z4, hz4⟩ : ∃ z4, c.gOk = z4 := ⟨_, rfl⟩
  have HG := Lib.hid (fun w => graph_any w c hw)
  rw [hz4] at HG
  unfold ConfL.ok
  rw [hz4]
  obtain ⟨nm, d, m, gr, l, wd⟩ := c
  obtain ⟨hz, hd, hm, hl, hwd⟩ := hw
  have hz : nm.size ≤ 140737488351232 := hz
  have hd : d ≤ 255 := hd
  have HGG := Lib.hid (show ∀ w, Calls Tryz.prog 70 #[.agg #[.string nm, .int .u8 (d : Int), .int .u8 (m : Int), .bool gr, .int .u8 (l : Int), .int .u16 (wd : Int)]] w fun e w' => e = .returned (.bool z4) ∧ Below w.heap.size w w' from HG.out)
  obtain ⟨w1, hw1⟩ : ∃ w1, w.alloc (.cells #[.string nm, .int .u8 (d : Int), .int .u8 (m : Int), .bool gr, .int .u8 (l : Int), .int .u16 (wd : Int)] 36) = w1 := ⟨_, rfl⟩
  have hb1 : Below w.heap.size w w1 := by rw [← hw1]; exact (Below.refl _ _).alloc (Nat.le_refl _) _
  have X1 : Blk w1 w.heap.size 36 [.string nm, .int .u8 (d : Int), .int .u8 (m : Int), .bool gr, .int .u8 (l : Int), .int .u16 (wd : Int)] := by rw [← hw1]; exact Blk.new _ _ _
  have c0 : w1.cell? ⟨w.heap.size, 0, none⟩ = some (.string nm) := X1.cell 0
  have c1 : w1.cell? ⟨w.heap.size, 1, none⟩ = some (.int .u8 (d : Int)) := X1.cell 1
  have c2 : w1.cell? ⟨w.heap.size, 2, none⟩ = some (.int .u8 (m : Int)) := X1.cell 2
  have c3 : w1.cell? ⟨w.heap.size, 3, none⟩ = some (.bool gr) := X1.cell 3
  have c4 : w1.cell? ⟨w.heap.size, 4, none⟩ = some (.int .u8 (l : Int)) := X1.cell 4
  have c5 : w1.cell? ⟨w.heap.size, 5, none⟩ = some (.int .u16 (wd : Int)) := X1.cell 5
  have B1 := Lib.hid hb1
  obtain ⟨sz, hsz⟩ : ∃ sz, nm.size = sz := ⟨_, rfl⟩
  have hs1 : IntKind.i64.wrap (sz : Int) = (sz : Int) := by rw [IntKind.wrap_i64]; omega
  have v1 : IntKind.i64.wrap (d : Int) = (d : Int) := by rw [IntKind.wrap_i64]; omega
  have W1 := Lib.hid (within_any w1 sz 16)
  have W2 := Lib.hid (within_any w1 d 16)
  clear X1 hb1 hm hl hwd HG hz4
  show Calls _ _ #[.agg #[.string nm, .int .u8 (d : Int), .int .u8 (m : Int), .bool gr, .int .u8 (l : Int), .int .u16 (wd : Int)]] _ fun e w' => e = .returned (.bool (decide (1 ≤ nm.size ∧ nm.size ≤ 16) && decide (1 ≤ d ∧ d ≤ 16) && decide (m ≤ 1) && z4)) ∧ _
  rw [hsz]
  by_cases h1 : 1 ≤ sz ∧ sz ≤ 16
  · rw [decide_eq_true h1] at W1 ⊢
    by_cases h2 : 1 ≤ d ∧ d ≤ 16
    · rw [decide_eq_true h2] at W2 ⊢
      by_cases h3 : m ≤ 1
      · rw [decide_eq_true h3]
        have d3 : decide ((m : Int) ≤ 1) = true := decide_eq_true (by omega)
        go_enter Tryz.func44, Tryz.ntmps44
        go_wp2_with (fail)
        refine W1.out.mono ?_
        rintro e w2 ⟨rfl, hw2⟩
        subst hw2
        go_wp2_with (fail)
        refine W2.out.mono ?_
        rintro e w3 ⟨rfl, hw3⟩
        subst hw3
        go_wp2_with (fail)
        refine (HGG.out _).mono ?_
        rintro e w4 ⟨rfl, hb4⟩
        have B4 := below_on B1.out hb4
        go_wp2
        go_ret
        exact ⟨by cases z4 <;> rfl, B4⟩
      · rw [decide_eq_false h3]
        have d3 : decide ((m : Int) ≤ 1) = false := decide_eq_false (by omega)
        go_enter Tryz.func44, Tryz.ntmps44
        go_wp2_with (fail)
        refine W1.out.mono ?_
        rintro e w2 ⟨rfl, hw2⟩
        subst hw2
        go_wp2_with (fail)
        refine W2.out.mono ?_
        rintro e w3 ⟨rfl, hw3⟩
        subst hw3
        go_wp2
        go_ret
        exact ⟨rfl, B1.out⟩
    · rw [decide_eq_false h2] at W2 ⊢
      go_enter Tryz.func44, Tryz.ntmps44
      go_wp2_with (fail)
      refine W1.out.mono ?_
      rintro e w2 ⟨rfl, hw2⟩
      subst hw2
      go_wp2_with (fail)
      refine W2.out.mono ?_
      rintro e w3 ⟨rfl, hw3⟩
      subst hw3
      go_wp2
      go_ret
      exact ⟨rfl, B1.out⟩
  · rw [decide_eq_false h1] at W1 ⊢
    go_enter Tryz.func44, Tryz.ntmps44
    go_wp2_with (fail)
    refine W1.out.mono ?_
    rintro e w2 ⟨rfl, hw2⟩
    subst hw2
    go_wp2
    go_ret
    exact ⟨rfl, B1.out⟩

/-- The ids that are there now. -/
def idsNow (p : PastV) : List Nat := idsF ((p.all p.last).1.map ItemV.id)
/-- Why changes may not be written; 0: they may. -/
def mayW (cf : ConfL) (p : PastV) (xs : List ChL) : Nat :=
  if 128 < xs.length then 4 else if (behS cf.dim (idsNow p) xs).1 ≠ 0 then (behS cf.dim (idsNow p) xs).1 else if 128 < (behS cf.dim (idsNow p) xs).2.length then 4 else if 1024 < p.rows.length + xs.length then 4 else 0
set_option maxRecDepth 100000 in
set_option maxHeartbeats 6400000 in
theorem mayWrite_any (w : World) (lo N g gc gp ver last : Nat) (s : SColl) (Cs : List SColl) (Ps : List SPin) (a : Option Addr) (n k : Nat) (xs : List ChL) (hN : N ≤ 100000) (h : StoreIs w lo N g gc gp (s :: Cs) Ps ver last) (hxs : ChsAt (· < w.heap.size) w a n k xs) :
    Calls Tryz.prog 46 #[.pointer (some ⟨g, 0, none⟩), .pointer (some ⟨s.c, 0, none⟩), .slice a n k] w fun e w' => e = .returned (.int .i64 (mayW s.cf s.p xs : Int)) ∧ Below w.heap.size w w' := by
  have hxl := hxs.1
  have hnk := hxs.2.1
  have hn6 := hxs.2.2.1
  unfold mayW
  rw [hxl]
  by_cases h1 : 128 < n
  · rw [if_pos h1]
    have d1 : decide ((n : Int) > 128) = true := decide_eq_true (by omega)
    have d1' : decide ((128 : Int) < (n : Int)) = true := decide_eq_true (by omega)
    clear h hxs
    go_enter Tryz.func46, Tryz.ntmps46
    go_wp2
    go_ret
    exact ⟨rfl, Below.refl _ _⟩
  rw [if_neg h1]
  have d1 : decide ((n : Int) > 128) = false := decide_eq_false (by omega)
  have d1' : decide ((128 : Int) < (n : Int)) = false := decide_eq_false (by omega)
  have BC := Lib.hid (behind_any w lo N s.c s.F s.cf s.p s.L a n k xs (h.dim s (by simp)) (by omega) (h.each s (by simp)) hxs)
  obtain ⟨r, hr⟩ : ∃ r, behS s.cf.dim (idsNow s.p) xs = r := ⟨_, rfl⟩
  have hr2 : behS s.cf.dim (idsF ((s.p.all s.p.last).1.map ItemV.id)) xs = r := hr
  rw [hr2] at BC
  rw [hr]
  obtain ⟨r1, r2⟩ := r
  clear hr hr2
  by_cases h2 : r1 ≠ 0
  · rw [if_pos h2]
    have e2 : (behR (r1, r2)) = .tuple #[.int .i64 0, .int .i64 (r1 : Int)] := if_neg h2
    rw [e2] at BC
    have d2 : decide ((r1 : Int) = 0) = false := decide_eq_false (by omega)
    have d2' : ((r1 : Int) == 0) = false := by rw [beq_eq_false_iff_ne]; omega
    clear h hxs e2 h2
    go_enter Tryz.func46, Tryz.ntmps46
    go_wp2_with (fail)
    refine BC.out.mono ?_
    rintro e w1 ⟨rfl, hb1⟩
    go_wp2
    go_ret
    exact ⟨rfl, hb1⟩
  rw [if_neg h2]
  have h2' : r1 = 0 := Decidable.of_not_not h2
  have e2 : (behR (r1, r2)) = .tuple #[.int .i64 (r2.length : Int), .int .i64 0] := if_pos h2'
  rw [e2] at BC
  obtain ⟨m, hm⟩ : ∃ m, r2.length = m := ⟨_, rfl⟩
  rw [show ((r1, r2) : Nat × List Nat).2.length = m from hm]
  rw [hm] at BC
  have HS := Lib.hid h
  have hver := h.hver
  clear e2 h2 h2' hm hxs
  by_cases h3 : 128 < m
  · rw [if_pos h3]
    have d3 : decide ((m : Int) > 128) = true := decide_eq_true (by omega)
    have d3' : decide ((128 : Int) < (m : Int)) = true := decide_eq_true (by omega)
    clear h
    go_enter Tryz.func46, Tryz.ntmps46
    go_wp2_with (fail)
    refine BC.out.mono ?_
    rintro e w1 ⟨rfl, hb1⟩
    go_wp2
    go_ret
    exact ⟨rfl, hb1⟩
  rw [if_neg h3]
  have d3 : decide ((m : Int) > 128) = false := decide_eq_false (by omega)
  have d3' : decide ((128 : Int) < (m : Int)) = false := decide_eq_false (by omega)
  have d4 : decide ((ver : Int) ≥ 1073741824) = false := decide_eq_false (by omega)
  have d4' : decide ((1073741824 : Int) ≤ (ver : Int)) = false := decide_eq_false (by omega)
  obtain ⟨gp', gh, Fp, H, hC, hF⟩ := h.each s (by simp)
  obtain ⟨rl, hrl⟩ : ∃ rl, s.p.rows.length = rl := ⟨_, rfl⟩
  have hrl2 : rl ≤ 1024 := by rw [← hrl]; exact hC.past.few
  have HC := Lib.hid hC
  have RC := Lib.hid (fun W (hW : Below w.heap.size w W) => rows_is W lo gp' Fp s.p (HC.out.past.on hW))
  have C6 := Lib.hid (show ∀ W, Below w.heap.size w W → W.cell? ⟨s.c, 6, none⟩ = some (.pointer (some ⟨gp', 0, none⟩)) from fun W hW => (hW.cell (p := ⟨s.c, 6, none⟩) hC.blk.lt).trans (hC.blk.cell 6))
  have VC := Lib.hid (fun W (hW : Below w.heap.size w W) => version_store W lo N g gc gp ver last (s :: Cs) Ps (HS.out.on hW))
  rw [hrl] at RC ⊢
  obtain ⟨c, hc⟩ : ∃ c, s.c = c := ⟨_, rfl⟩
  rw [hc] at BC C6 ⊢
  have hadd : IntKind.i64.wrap ((rl : Int) + (n : Int)) = ((rl + n : Nat) : Int) := by rw [IntKind.wrap_i64]; omega
  obtain ⟨t, ht⟩ : ∃ t, rl + n = t := ⟨_, rfl⟩
  rw [ht] at hadd ⊢
  clear h hC hF hrl hc ht
  by_cases h5 : 1024 < t
  · rw [if_pos h5]
    have d5 : decide ((t : Int) > 1024) = true := decide_eq_true (by omega)
    have d5' : decide ((1024 : Int) < (t : Int)) = true := decide_eq_true (by omega)
    go_enter Tryz.func46, Tryz.ntmps46
    go_wp2_with (fail)
    refine BC.out.mono ?_
    rintro e w1 ⟨rfl, hb1⟩
    have B1 := Lib.hid hb1
    clear hb1
    go_wp2_with (fail)
    refine (VC.out _ B1.out).mono ?_
    rintro e w2 ⟨rfl, hw2⟩
    subst hw2
    have c6 := C6.out _ B1.out
    go_wp2_with (fail)
    refine (RC.out _ B1.out).mono ?_
    rintro e w3 ⟨rfl, hw3⟩
    subst hw3
    go_wp2
    go_ret
    exact ⟨rfl, B1.out⟩
  · rw [if_neg h5]
    have d5 : decide ((t : Int) > 1024) = false := decide_eq_false (by omega)
    have d5' : decide ((1024 : Int) < (t : Int)) = false := decide_eq_false (by omega)
    go_enter Tryz.func46, Tryz.ntmps46
    go_wp2_with (fail)
    refine BC.out.mono ?_
    rintro e w1 ⟨rfl, hb1⟩
    have B1 := Lib.hid hb1
    clear hb1
    go_wp2_with (fail)
    refine (VC.out _ B1.out).mono ?_
    rintro e w2 ⟨rfl, hw2⟩
    subst hw2
    have c6 := C6.out _ B1.out
    go_wp2_with (fail)
    refine (RC.out _ B1.out).mono ?_
    rintro e w3 ⟨rfl, hw3⟩
    subst hw3
    go_wp2
    go_ret
    exact ⟨rfl, B1.out⟩

/-- What a write of changes leaves of a collection's past and of the version; what it answers. -/
def writeV (ver : Nat) (cf : ConfL) (p : PastV) (L : List Nat) (xs : List ChL) : (PastV × Nat) × (Nat × Nat) :=
  if mayW cf p xs ≠ 0 then ((p, ver), (0, mayW cf p xs)) else if xs.length = 0 then ((p, ver), (ver, 0)) else ((((layS (ver + 1) p xs).sweep L).1, ver + 1), (ver + 1, 0))
theorem StoreIs.bump {w : World} {lo N g gc gp ver last : Nat} {Cs : List SColl} {Ps : List SPin} (h : StoreIs w lo N g gc gp Cs Ps ver last) :
    StoreIs (w.setCell ⟨g, 0, none⟩ (.int .u64 ((ver + 1 : Nat) : Int))) lo (N + 1) g gc gp Cs Ps (ver + 1) last ∧ Kept [g] w (w.setCell ⟨g, 0, none⟩ (.int .u64 ((ver + 1 : Nat) : Int))) := by
  have hk : Kept [g] w (w.setCell ⟨g, 0, none⟩ (.int .u64 ((ver + 1 : Nat) : Int))) := (Kept.refl [g] w).setCell _ _ (.inl (by simp))
  have hn := h.ggc
  have h1 := h.raise
  refine ⟨{ h1 with
    blk := by
      have := h.blk.set 0 (.int .u64 ((ver + 1 : Nat) : Int))
      simpa using this
    colls := h.colls.kept hk (by simpa using hn.1)
    pins := h.pins.kept hk (by simpa using hn.2)
    each := fun s hs => (h1.each s hs).kept hk (fun x hx hF => (h.out s hs).1 (by rw [← List.mem_singleton.1 hx]; exact hF))
    hver := by have := h.hver; omega
    hv := fun q hq => ⟨Nat.le_succ_of_le (h.hv q hq).1, (h.hv q hq).2⟩ }, hk⟩
set_option maxRecDepth 100000 in
set_option maxHeartbeats 6400000 in
theorem write_store (w : World) (ok : Nat → Prop) (lo N g gc gp ver last : Nat) (s : SColl) (Cs : List SColl) (Ps : List SPin) (a : Option Addr) (n k : Nat) (xs : List ChL) (hN : N < 100000) (hok : ∀ k, ok k → k ∉ storeFp g gc gp (s :: Cs)) (hsz : s.cf.name.size ≤ maxLen) (h : StoreIs w lo N g gc gp (s :: Cs) Ps ver last) (hxs : ChsAt ok w a n k xs) :
    Calls Tryz.prog 22 #[.pointer (some ⟨g, 0, none⟩), .string s.cf.name, .slice a n k] w fun e w' => ∃ F', e = .returned (.tuple #[.int .u64 ((writeV ver s.cf s.p s.L xs).2.1 : Int), .int .i64 ((writeV ver s.cf s.p s.L xs).2.2 : Int)]) ∧
      StoreIs w' lo (N + 1) g gc gp ({ s with F := F', p := (writeV ver s.cf s.p s.L xs).1.1 } :: Cs) Ps (writeV ver s.cf s.p s.L xs).1.2 last ∧ Kept (storeFp g gc gp (s :: Cs)) w w' ∧ Grows w (storeFp g gc gp (s :: Cs)) (storeFp g gc gp ({ s with F := F', p := (writeV ver s.cf s.p s.L xs).1.1 } :: Cs)) := by
  have hxl := hxs.1
  have hnk := hxs.2.1
  have hn6 := hxs.2.2.1
  have c1 : w.cell? ⟨g, 1, none⟩ = some (.map (some gc)) := h.blk.cell 1
  have hver := h.hver
  have HM := Lib.hid h.colls
  have HE := Lib.hid h.look
  have HX := Lib.hid hxs
  have HS := Lib.hid h
  have MW := Lib.hid (mayWrite_any w lo N g gc gp ver last s Cs Ps a n k xs (Nat.le_of_lt hN) h hxs.any)
  obtain ⟨nm, hnm⟩ : ∃ nm, s.cf.name = nm := ⟨_, rfl⟩
  obtain ⟨c, hc⟩ : ∃ c, s.c = c := ⟨_, rfl⟩
  have HCc := Lib.hid hc
  rw [hnm] at HE hsz ⊢
  rw [hc] at HE MW
  unfold writeV
  obtain ⟨code, hcode⟩ : ∃ code, mayW s.cf s.p xs = code := ⟨_, rfl⟩
  rw [hcode] at MW ⊢
  rw [hxl]
  have SAME := Lib.hid (show ∀ W, Below w.heap.size w W → StoreIs W lo (N + 1) g gc gp ({ s with F := s.F, p := s.p } :: Cs) Ps ver last ∧ Kept (storeFp g gc gp (s :: Cs)) w W ∧ Grows w (storeFp g gc gp (s :: Cs)) (storeFp g gc gp ({ s with F := s.F, p := s.p } :: Cs)) from fun W hW => ⟨(HS.out.on hW).raise, Kept.of_below hW (Nat.le_refl _), Grows.refl _ _⟩)
  clear h hxs hnm hc hcode
  by_cases h0 : code ≠ 0
  · rw [if_pos h0]
    have d2 : decide ((code : Int) = 0) = false := decide_eq_false (by omega)
    have d2' : ((code : Int) == 0) = false := by rw [beq_eq_false_iff_ne]; omega
    clear h0
    go_enter Tryz.func22, Tryz.ntmps22
    go_wp2_with (first | (at_lookup; refine colls_look _ rfl _ _ rfl gc _ rfl HM.out nm hsz rfl _ HE.out ?_) | fail)
    refine MW.out.mono ?_
    rintro e w1 ⟨rfl, hb1⟩
    go_wp2
    go_ret2
    exact ⟨s.F, rfl, SAME.out _ hb1⟩
  obtain rfl : code = 0 := Decidable.of_not_not h0
  rw [if_neg h0]
  by_cases h1 : n = 0
  · rw [if_pos h1]
    have VC := Lib.hid (fun W (hW : Below w.heap.size w W) => version_store W lo N g gc gp ver last (s :: Cs) Ps (HS.out.on hW))
    subst h1
    go_enter Tryz.func22, Tryz.ntmps22
    go_wp2_with (first | (at_lookup; refine colls_look _ rfl _ _ rfl gc _ rfl HM.out nm hsz rfl _ HE.out ?_) | fail)
    refine MW.out.mono ?_
    rintro e w1 ⟨rfl, hb1⟩
    have B1 := Lib.hid hb1
    clear hb1
    go_wp2_with (fail)
    refine (VC.out _ B1.out).mono ?_
    rintro e w2 ⟨rfl, hw2⟩
    subst hw2
    go_wp2
    go_ret2
    exact ⟨s.F, rfl, SAME.out _ B1.out⟩
  · rw [if_neg h1]
    have d3 : decide ((n : Int) > 0) = true := decide_eq_true (by omega)
    have d3' : decide ((0 : Int) < (n : Int)) = true := decide_eq_true (by omega)
    have hpos : 0 < n := Nat.pos_of_ne_zero h1
    clear SAME h1
    go_enter Tryz.func22, Tryz.ntmps22
    go_wp2_with (first | (at_lookup; refine colls_look _ rfl _ _ rfl gc _ rfl HM.out nm hsz rfl _ HE.out ?_) | fail)
    refine MW.out.mono ?_
    rintro e w1 ⟨rfl, hb1⟩
    have B1 := Lib.hid hb1
    have S1 := Lib.hid (HS.out.on hb1)
    have b0 := S1.out.blk.cell 0
    have f0 := S1.out.blk.frozen 0
    simp only [List.getElem?_cons_zero] at b0
    have ADD := Lib.hid (add_u64 w1 g 0 (ver : Int) 1 ((ver + 1 : Nat) : Int) b0 f0 (by omega) (by omega) (by omega))
    clear hb1 b0 f0
    go_wp2_with (fail)
    refine ADD.out.mono ?_
    rintro e w2 ⟨rfl, hw2⟩
    have S2 := S1.out.bump
    rw [← hw2] at S2
    have S3 := Lib.hid S2.1
    have K2 := Lib.hid S2.2
    have X1 := HX.out.stay (ok' := ok) (w' := w1) B1.out.size (fun k _ hkk => B1.out.block k hkk) (fun _ h _ => h)
    have X2 := Lib.hid (X1.stay (ok' := ok) (w' := w2) K2.out.size (fun k hk hkk => K2.out.block k hkk (fun hx => hok k hk (mem_storeFp.2 (.inl (by simpa using hx))))) (fun _ h _ => h))
    clear X1
    clear hw2 S2 ADD
    have LY := Lib.hid (coll_lay w2 ok lo (N + 1) s.c s.F s.cf s.p s.L (ver + 1) a n k xs (by omega) (by omega) (fun k hk hx => hok k hk (mem_storeFp.2 (.inr (.inr (.inr ⟨s, by simp, hx⟩))))) (S3.out.each s (by simp)) X2.out)
    rw [HCc.out] at LY
    go_wp2_with (fail)
    refine LY.out.mono ?_
    rintro e w3 ⟨rfl, F3, h3, k3, g3⟩
    have T := S3.out.turn1 (by rw [HCc.out]; exact h3) k3 g3
    have T1 := Lib.hid T.1
    have KK := Lib.hid (((Kept.of_below (F := storeFp g gc gp (s :: Cs)) B1.out (Nat.le_refl _)).trans (K2.out.mono (fun x hx => mem_storeFp.2 (.inl (by simpa using hx)))) (Grows.refl _ _)).trans T.2.1 (Grows.refl _ _))
    have GG := Lib.hid (show Grows w (storeFp g gc gp (s :: Cs)) _ from (Grows.refl w (storeFp g gc gp (s :: Cs))).trans T.2.2 (Nat.le_trans B1.out.size K2.out.size))
    have VC := Lib.hid (version_store w3 lo (N + 1) g gc gp (ver + 1) last _ Ps T1.out)
    clear h3 k3 g3 T LY
    go_wp2_with (fail)
    refine VC.out.mono ?_
    rintro e w4 ⟨rfl, hw4⟩
    subst hw4
    go_wp2
    go_ret2
    exact ⟨F3, rfl, T1.out, KK.out, GG.out⟩

theorem CollAt.raiseN {w : World} {lo N N' c : Nat} {F L : List Nat} {cf : ConfL} {p : PastV} (h : CollAt w lo N c F cf p L) (hN : N ≤ N') : CollAt w lo N' c F cf p L := by
  obtain ⟨d, rfl⟩ := Nat.exists_eq_add_of_le hN
  clear hN
  induction d with
  | zero => exact h
  | succ d ih => exact ih.raise
/-- One collection has turned, the pins, the version, the last pin's number. -/
theorem StoreIs.change {w wz : World} {lo N N' g gc gp ver ver' last last' : Nat} {s : SColl} {Cs : List SColl} {Ps Ps' : List SPin} {F' L' : List Nat} {p' : PastV} (h : StoreIs w lo N g gc gp (s :: Cs) Ps ver last) (hN : N ≤ N') (h1 : CollAt wz lo N' s.c F' s.cf p' L')
    (hblk : Blk wz g 85 [.int .u64 (ver' : Int), .map (some gc), .map (some gp), .int .i64 (last' : Int)]) (hpins : MapE wz Tryz.prog 3 gp (pinE Ps')) (hk : Kept (g :: gp :: s.F) w wz) (hg : Grows w s.F F')
    (hver : ver' ≤ N') (hlast : last' ≤ N') (hps : Ps'.length ≤ N') (held1 : L'.Perm ((Ps'.filter fun q => decide (q.c = s.c)).map (·.v))) (heldo : ∀ t ∈ Cs, (Ps'.filter fun q => decide (q.c = t.c)) = Ps.filter fun q => decide (q.c = t.c))
    (home : ∀ q ∈ Ps', ∃ t ∈ s :: Cs, t.c = q.c) (hv : ∀ q ∈ Ps', q.v ≤ ver' ∧ 1 ≤ q.n ∧ q.n ≤ last') :
    StoreIs wz lo N' g gc gp ({ s with F := F', p := p', L := L' } :: Cs) Ps' ver' last' ∧ Kept (storeFp g gc gp (s :: Cs)) w wz ∧ Grows w (storeFp g gc gp (s :: Cs)) (storeFp g gc gp ({ s with F := F', p := p', L := L' } :: Cs)) := by
  have ho := h.out s (by simp)
  have hg0 := h.blk.lt
  have hg1 := h.colls.lt
  have hg2 := h.pins.lt
  have hap := List.pairwise_cons.1 h.apart
  have hne := h.ggc
  refine ⟨⟨hblk, h.colls.kept hk (fun hx => ?_), hpins, ?_, ?_, ?_, h.gcp, h.low, hver, hlast, hps, h.hcs, ?_, ?_, hv, ?_⟩, hk.mono (fun x hx => ?_), ?_⟩
  · simp only [List.mem_cons] at hx
    rcases hx with hx | hx | hx
    · exact hne.1 hx
    · exact h.gcp hx
    · exact ho.2.1 hx
  · intro t ht
    rcases List.mem_cons.1 ht with rfl | ht
    · exact h1
    · refine ((h.each t (List.mem_cons_of_mem _ ht)).kept hk (fun x hx hF => ?_)).raiseN hN
      have h3 := h.out t (List.mem_cons_of_mem _ ht)
      simp only [List.mem_cons] at hx
      rcases hx with rfl | rfl | hx
      · exact h3.1 hF
      · exact h3.2.2 hF
      · exact hap.1 t ht x hx hF
  · exact List.pairwise_cons.2 ⟨fun t ht => (hap.1 t ht).grows hg (fun x hx => ((h.each t (List.mem_cons_of_mem _ ht)).lt x hx).2), hap.2⟩
  · intro t ht
    rcases List.mem_cons.1 ht with rfl | ht
    · refine ⟨fun hx => ?_, fun hx => ?_, fun hx => ?_⟩
      · rcases hg _ hx with h3 | h3
        · exact ho.1 h3
        · omega
      · rcases hg _ hx with h3 | h3
        · exact ho.2.1 h3
        · omega
      · rcases hg _ hx with h3 | h3
        · exact ho.2.2 h3
        · omega
    · exact h.out t (List.mem_cons_of_mem _ ht)
  · intro t ht
    rcases List.mem_cons.1 ht with rfl | ht
    · exact held1
    · rw [heldo t ht]
      exact h.held t (List.mem_cons_of_mem _ ht)
  · intro q hq
    obtain ⟨t, ht, e⟩ := home q hq
    rcases List.mem_cons.1 ht with rfl | ht
    · exact ⟨_, List.mem_cons_self, e⟩
    · exact ⟨t, List.mem_cons_of_mem _ ht, e⟩
  · intro t ht
    rcases List.mem_cons.1 ht with rfl | ht
    · exact h.dim s (by simp)
    · exact h.dim t (List.mem_cons_of_mem _ ht)
  · simp only [List.mem_cons] at hx
    rcases hx with hx | hx | hx
    · exact mem_storeFp.2 (.inl hx)
    · exact mem_storeFp.2 (.inr (.inr (.inl hx)))
    · exact mem_storeFp.2 (.inr (.inr (.inr ⟨s, by simp, hx⟩)))
  · intro x hx
    rcases mem_storeFp.1 hx with e | e | e | ⟨t, ht, hF⟩
    · exact .inl (mem_storeFp.2 (.inl e))
    · exact .inl (mem_storeFp.2 (.inr (.inl e)))
    · exact .inl (mem_storeFp.2 (.inr (.inr (.inl e))))
    · rcases List.mem_cons.1 ht with rfl | ht
      · rcases hg x hF with h3 | h3
        · exact .inl (mem_storeFp.2 (.inr (.inr (.inr ⟨s, by simp, h3⟩))))
        · exact .inr h3
      · exact .inl (mem_storeFp.2 (.inr (.inr (.inr ⟨t, List.mem_cons_of_mem _ ht, hF⟩))))
theorem ppins_run {w : World} {gp : Nat} {E : List (Lit × Value)} {n : Nat} (h : MapE w Tryz.prog 3 gp E) (hn : n ≤ 1000000) (hl : E.length ≤ 1000000) (v : Value) : ∃ w', (Instr.mapUpdate 78 (.map (some gp)) (.int .i64 (n : Int)) v).run Tryz.prog w = .ok () w' ∧ MapE w' Tryz.prog 3 gp (putE E (keyI n) v) ∧ Kept [gp] w w' := by
  have h0 := h
  obtain ⟨⟨es, h1, h2⟩, h3, h4⟩ := h
  obtain ⟨w', hrun, r1, r2⟩ := h1.update (Maps.int_keyed Tryz.underlying3) Tryz.underlying78 (by unfold maxLen; omega) (keyOf_i n hn) (show rawElem v = some (.held v, []) from rfl)
  exact ⟨w', hrun, h0.put (keyI_lit n) r1 h2, kept_grown r2⟩
theorem pinE_put {Ps : List SPin} {n : Nat} {q : SPin} (h : ∀ r ∈ Ps, r.n ≤ n) (hq : q.n = n + 1) : putE (pinE Ps) (keyI (n + 1)) (pinV q) = pinE (Ps ++ [q]) := by
  have hn : ∀ r ∈ pinE Ps, r.1 ≠ keyI (n + 1) := fun r hr e => by
    obtain ⟨t, ht, rfl⟩ := List.mem_map.1 hr
    have h1 : t.n = n + 1 := keyI_inj _ _ e
    have h2 := h t ht
    omega
  unfold putE
  rw [dropE_none hn]
  simp [pinE, hq]
set_option maxRecDepth 100000 in
set_option maxHeartbeats 6400000 in
theorem pin_store (w : World) (lo N g gc gp ver last : Nat) (s : SColl) (Cs : List SColl) (Ps : List SPin) (hN : N < 100000) (hsz : s.cf.name.size ≤ maxLen) (hnc : ∀ t ∈ Cs, t.c ≠ s.c) (h : StoreIs w lo N g gc gp (s :: Cs) Ps ver last) :
    Calls Tryz.prog 23 #[.pointer (some ⟨g, 0, none⟩), .string s.cf.name] w fun e w' => ∃ F', e = .returned (.tuple #[.int .i64 ((last + 1 : Nat) : Int), .int .u64 (ver : Int), .int .i64 0]) ∧
      StoreIs w' lo (N + 1) g gc gp ({ s with F := F', L := ver :: s.L } :: Cs) (Ps ++ [⟨last + 1, s.c, ver⟩]) ver (last + 1) ∧ Kept (storeFp g gc gp (s :: Cs)) w w' ∧ Grows w (storeFp g gc gp (s :: Cs)) (storeFp g gc gp ({ s with F := F', L := ver :: s.L } :: Cs)) := by
  have c1 : w.cell? ⟨g, 1, none⟩ = some (.map (some gc)) := h.blk.cell 1
  have hver := h.hver
  have hlast := h.hlast
  have HM := Lib.hid h.colls
  have HE := Lib.hid h.look
  have HS := Lib.hid h
  have VC := Lib.hid (version_store w lo N g gc gp ver last (s :: Cs) Ps h)
  have HO := Lib.hid (coll_hold w lo N s.c s.F s.cf s.p s.L ver (by omega) (by omega) (h.each s (by simp)))
  have HN := Lib.hid hnc
  obtain ⟨nm, hnm⟩ : ∃ nm, s.cf.name = nm := ⟨_, rfl⟩
  obtain ⟨c, hc⟩ : ∃ c, s.c = c := ⟨_, rfl⟩
  have HCc := Lib.hid hc
  obtain ⟨l1, hl1⟩ : ∃ l1, last + 1 = l1 := ⟨_, rfl⟩
  have HL1 := Lib.hid hl1
  have hw1 : IntKind.i64.wrap ((last : Int) + 1) = (l1 : Int) := by rw [IntKind.wrap_i64]; omega
  rw [hnm] at HE hsz ⊢
  rw [hc] at HE HO
  rw [hl1]
  clear h hnm hc hl1 hnc
  go_enter Tryz.func23, Tryz.ntmps23
  go_wp2_with (first | (at_lookup; refine colls_look _ rfl _ _ rfl gc _ rfl HM.out nm hsz rfl _ HE.out ?_) | fail)
  refine VC.out.mono ?_
  rintro e w2 ⟨rfl, hw2⟩
  subst hw2
  go_wp2_with (fail)
  refine HO.out.mono ?_
  rintro e w3 ⟨rfl, F3, h3, k3, g3⟩
  have ho := HS.out.out s (by simp)
  have B3 := Lib.hid (k3.blk HS.out.blk ho.1)
  have P3 := Lib.hid (HS.out.pins.kept k3 ho.2.2)
  have C3 := Lib.hid h3
  have K3 := Lib.hid k3
  have G3 := Lib.hid g3
  have q3 : w3.cell? ⟨g, 3, none⟩ = some (.int .i64 (last : Int)) := B3.out.cell 3
  have f3 : w3.frozen? ⟨g, 3, none⟩ = false := B3.out.frozen 3
  have hgl := B3.out.lt
  obtain ⟨w4, hw4⟩ : ∃ w4, w3.setCell ⟨g, 3, none⟩ (.int .i64 (l1 : Int)) = w4 := ⟨_, rfl⟩
  have K4 := Lib.hid (show Kept [g] w3 w4 from by rw [← hw4]; exact (Kept.refl [g] w3).setCell _ _ (.inl (by simp)))
  have B4 := Lib.hid (show Blk w4 g 85 [.int .u64 (ver : Int), .map (some gc), .map (some gp), .int .i64 (l1 : Int)] from by
    rw [← hw4]
    have := B3.out.set 3 (.int .i64 (l1 : Int))
    simpa using this)
  have P4 := Lib.hid (P3.out.kept K4.out (by simpa using HS.out.ggc.2))
  have r2 : w4.cell? ⟨g, 2, none⟩ = some (.map (some gp)) := B4.out.cell 2
  have r3 : w4.cell? ⟨g, 3, none⟩ = some (.int .i64 (l1 : Int)) := B4.out.cell 3
  have hpl : (pinE Ps).length ≤ 1000000 := by
    have := HS.out.hps
    unfold pinE
    rw [List.length_map]
    omega
  obtain ⟨w5, hr5, hM5, hk5⟩ := ppins_run (n := l1) P4.out.drew (by have := HL1.out; omega) hpl (.agg #[.pointer (some ⟨c, 0, none⟩), .int .u64 (ver : Int)])
  have K5 := Lib.hid (show Kept [gp] w4 w5 from (Kept.of_below (F := [gp]) ((Below.refl w4.heap.size w4).drew) (Nat.le_refl _)).trans hk5 (Grows.refl _ _))
  have M5 := Lib.hid (show MapE w5 Tryz.prog 3 gp (pinE (Ps ++ [⟨l1, s.c, ver⟩])) from by
    have h9 := pinE_put (Ps := Ps) (n := last) (q := ⟨l1, s.c, ver⟩) (fun r hr => (HS.out.hv r hr).2.2) HL1.out.symm
    rw [HL1.out] at h9
    rw [← h9]
    unfold pinV
    rw [HCc.out]
    exact hM5)
  have B5 := Lib.hid (K5.out.blk B4.out (by simpa using fun e : g = gp => HS.out.ggc.2 e.symm))
  have s3 : w5.cell? ⟨g, 3, none⟩ = some (.int .i64 (l1 : Int)) := B5.out.cell 3
  have R := Lib.hid (show StoreIs w5 lo (N + 1) g gc gp ({ s with F := F3, L := ver :: s.L } :: Cs) (Ps ++ [⟨l1, s.c, ver⟩]) ver l1 ∧ Kept (storeFp g gc gp (s :: Cs)) w2 w5 ∧ Grows w2 (storeFp g gc gp (s :: Cs)) (storeFp g gc gp ({ s with F := F3, L := ver :: s.L } :: Cs)) from by
    have hk : Kept (g :: gp :: s.F) w2 w5 := ((K3.out.mono (fun x hx => by simp [hx])).trans (K4.out.mono (fun x hx => by simp at hx; simp [hx])) (Grows.refl _ _)).trans (K5.out.mono (fun x hx => by simp at hx; simp [hx])) (Grows.refl _ _)
    have hin : ∀ x ∈ F3, x ≠ g ∧ x ≠ gp := fun x hx => by
      rcases G3.out x hx with h9 | h9
      · exact ⟨fun e => (HS.out.out s (by simp)).1 (e ▸ h9), fun e => (HS.out.out s (by simp)).2.2 (e ▸ h9)⟩
      · have h10 := HS.out.blk.lt
        have h11 := HS.out.pins.lt
        exact ⟨by omega, by omega⟩
    refine HS.out.change (p' := s.p) (Nat.le_succ N) ?_ B5.out M5.out hk G3.out (by omega) (by have := HL1.out; omega) (by have := HS.out.hps; simp; omega) ?_ (fun t ht => ?_) (fun q hq => ?_) (fun q hq => ?_)
    · have h9 := C3.out
      rw [HCc.out]
      exact (h9.kept K4.out (fun x hx hF => (hin x hF).1 (by simpa using hx))).kept K5.out (fun x hx hF => (hin x hF).2 (by simpa using hx))
    · rw [List.filter_append, List.map_append]
      rw [show ([⟨l1, s.c, ver⟩] : List SPin).filter (fun q => decide (q.c = s.c)) = [⟨l1, s.c, ver⟩] from by simp]
      exact ((HS.out.held s (by simp)).cons ver).trans (List.perm_append_singleton _ _).symm
    · rw [List.filter_append, show ([⟨l1, s.c, ver⟩] : List SPin).filter (fun q => decide (q.c = t.c)) = [] from by
        have h9 : decide (s.c = t.c) = false := decide_eq_false (fun e => HN.out t ht e.symm)
        rw [List.filter_cons_of_neg (by show ¬ decide (s.c = t.c) = true; rw [h9]; exact Bool.false_ne_true)]
        rfl, List.append_nil]
    · rcases List.mem_append.1 hq with hq | hq
      · exact HS.out.home q hq
      · rw [List.mem_singleton.1 hq]
        exact ⟨s, by simp, rfl⟩
    · have h12 := HL1.out
      rcases List.mem_append.1 hq with hq | hq
      · have h9 := HS.out.hv q hq
        omega
      · rw [List.mem_singleton.1 hq]
        exact ⟨Nat.le_refl _, show 1 ≤ l1 by omega, Nat.le_refl _⟩)
  clear B3 P3 C3 K3 G3 K4 B4 P4 hpl hM5 hk5 K5 M5 B5 h3 k3 g3 ho
  go_wp2_with (fail)
  go_region_law (fail)
  all_goals
    go_wp2
    go_ret3
    exact ⟨F3, rfl, R.out⟩

theorem pins_uniq {w : World} {gp : Nat} : ∀ {Ps : List SPin}, MapE w Tryz.prog 3 gp (pinE Ps) → Ps.Pairwise fun p q => p.n ≠ q.n := fun {Ps} h => by
  have h1 := h.apart
  unfold pinE at h1
  rw [List.pairwise_map] at h1
  exact h1.imp (fun hpq e => hpq (by rw [e]))
theorem uniq_eq : ∀ {l : List SPin} {p q : SPin}, (l.Pairwise fun p q => p.n ≠ q.n) → p ∈ l → q ∈ l → p.n = q.n → p = q := by
  intro l
  induction l with
  | nil =>
    intro p q _ h
    cases h
  | cons x l ih =>
    intro p q h hp hq e
    obtain ⟨h1, h2⟩ := List.pairwise_cons.1 h
    rcases List.mem_cons.1 hp with e1 | hp'
    · rcases List.mem_cons.1 hq with e2 | hq'
      · rw [e1, e2]
      · rw [e1] at e
        exact absurd e (h1 q hq')
    · rcases List.mem_cons.1 hq with e2 | hq'
      · rw [e2] at e
        exact absurd e.symm (h1 p hp')
      · exact ih h2 hp' hq' e
theorem filt_perm : ∀ {l : List SPin} {q : SPin}, (l.Pairwise fun p q => p.n ≠ q.n) → q ∈ l → l.Perm (q :: l.filter fun r => decide (r.n ≠ q.n)) := by
  intro l
  induction l with
  | nil =>
    intro q _ h
    cases h
  | cons x l ih =>
    intro q h hq
    obtain ⟨h1, h2⟩ := List.pairwise_cons.1 h
    rcases List.mem_cons.1 hq with e1 | hq'
    · subst e1
      have e2 : (q :: l).filter (fun r => decide (r.n ≠ q.n)) = l := by
        rw [List.filter_cons]
        simp only [ne_eq, not_true_eq_false, decide_false, Bool.false_eq_true, if_false]
        refine List.filter_eq_self.2 (fun r hr => ?_)
        have := h1 r hr
        simp only [decide_eq_true_eq]
        exact fun e => this e.symm
      rw [e2]
    · have e2 : (x :: l).filter (fun r => decide (r.n ≠ q.n)) = x :: l.filter (fun r => decide (r.n ≠ q.n)) := by
        rw [List.filter_cons]
        have := h1 q hq'
        simp only [ne_eq] at this
        simp [this]
      rw [e2]
      exact ((ih h2 hq').cons x).trans (List.Perm.swap q x _)
theorem dropE_pins (Ps : List SPin) (n : Nat) : dropE (pinE Ps) (keyI n) = pinE (Ps.filter fun r => decide (r.n ≠ n)) := by
  unfold dropE pinE
  rw [List.filter_map]
  congr 1
  refine List.filter_congr fun p _ => ?_
  show (!(keyI p.n).sameKey (keyI n)) = _
  by_cases h : p.n = n
  · rw [h, WideAt.sameKey_self (keyI_lit n)]
    simp
  · rw [sameKey_ne (fun e => h (keyI_inj _ _ e))]
    simp [h]
/-- What an answer true leaves of the pins, and of the collection. -/
theorem StoreIs.held_mem {w : World} {lo N g gc gp ver last : Nat} {s : SColl} {Cs : List SColl} {Ps : List SPin} {q : SPin} (h : StoreIs w lo N g gc gp (s :: Cs) Ps ver last) (hq : q ∈ Ps) (hc : q.c = s.c) : q.v ∈ s.L ∧ (s.L.erase q.v).Perm (((Ps.filter fun r => decide (r.n ≠ q.n)).filter fun r => decide (r.c = s.c)).map (·.v)) := by
  have hp := h.held s (by simp)
  have hu := pins_uniq h.pins
  have hm : q ∈ Ps.filter fun r => decide (r.c = s.c) := List.mem_filter.2 ⟨hq, decide_eq_true hc⟩
  refine ⟨hp.mem_iff.2 (List.mem_map.2 ⟨q, hm, rfl⟩), ?_⟩
  have h1 := filt_perm (hu.filter _) hm
  have h2 := hp.trans (h1.map (·.v))
  have h3 := h2.erase q.v
  rw [List.map_cons, List.erase_cons_head] at h3
  rw [List.filter_filter] at h3 ⊢
  refine h3.trans ?_
  rw [show (fun r : SPin => decide (r.n ≠ q.n) && decide (r.c = s.c)) = fun r : SPin => decide (r.c = s.c) && decide (r.n ≠ q.n) from funext fun r => Bool.and_comm _ _]
theorem StoreIs.others {w : World} {lo N g gc gp ver last : Nat} {s : SColl} {Cs : List SColl} {Ps : List SPin} {q : SPin} (h : StoreIs w lo N g gc gp (s :: Cs) Ps ver last) (hnc : ∀ t ∈ Cs, t.c ≠ s.c) (hq : q ∈ Ps) (hc : q.c = s.c) : ∀ t ∈ Cs, ((Ps.filter fun r => decide (r.n ≠ q.n)).filter fun r => decide (r.c = t.c)) = Ps.filter fun r => decide (r.c = t.c) := by
  intro t ht
  rw [List.filter_filter]
  refine List.filter_congr fun r hr => ?_
  by_cases h1 : r.c = t.c
  · have h2 : r.n ≠ q.n := fun e => by
      have h3 := uniq_eq (pins_uniq h.pins) hr hq e
      rw [h3, hc] at h1
      exact hnc t ht h1.symm
    rw [decide_eq_true h1, decide_eq_true h2]
    rfl
  · rw [decide_eq_false h1]
    rfl
set_option maxRecDepth 100000 in
set_option maxHeartbeats 6400000 in
theorem unpin_store (w : World) (lo N g gc gp ver last : Nat) (s : SColl) (Cs : List SColl) (Ps : List SPin) (q : SPin) (hN : N < 100000) (hnc : ∀ t ∈ Cs, t.c ≠ s.c) (hq : q ∈ Ps) (hc : q.c = s.c) (h : StoreIs w lo N g gc gp (s :: Cs) Ps ver last) :
    Calls Tryz.prog 25 #[.pointer (some ⟨g, 0, none⟩), .int .i64 (q.n : Int)] w fun e w' => ∃ F', e = .returned (.bool true) ∧
      StoreIs w' lo N g gc gp ({ s with F := F', p := (s.p.sweep (s.L.erase q.v)).1, L := s.L.erase q.v } :: Cs) (Ps.filter fun r => decide (r.n ≠ q.n)) ver last ∧ Kept (storeFp g gc gp (s :: Cs)) w w' ∧ Grows w (storeFp g gc gp (s :: Cs)) (storeFp g gc gp ({ s with F := F', p := (s.p.sweep (s.L.erase q.v)).1, L := s.L.erase q.v } :: Cs)) := by
  have c2 : w.cell? ⟨g, 2, none⟩ = some (.map (some gp)) := h.blk.cell 2
  have hlast := h.hlast
  have hqv := h.hv q hq
  have hm := h.held_mem hq hc
  have HS := Lib.hid h
  have HP := Lib.hid h.pins
  have HQ := Lib.hid hq
  have HL := Lib.hid hm
  have HOT := Lib.hid (h.others hnc hq hc)
  obtain ⟨n, hn⟩ : ∃ n, q.n = n := ⟨_, rfl⟩
  obtain ⟨v, hv⟩ : ∃ v, q.v = v := ⟨_, rfl⟩
  obtain ⟨c, hcc⟩ : ∃ c, s.c = c := ⟨_, rfl⟩
  have HE := Lib.hid (show (keyI n, Value.agg #[.pointer (some ⟨c, 0, none⟩), .int .u64 (v : Int)]) ∈ pinE Ps from by
    refine List.mem_map.2 ⟨q, hq, ?_⟩
    unfold pinV
    rw [hn, hv, hc, hcc])
  have hn6 : n ≤ 1000000 := by omega
  rw [hv] at HL
  rw [hn] at HOT HL
  have HCc := Lib.hid hcc
  rw [hn, hv]
  obtain ⟨w1, hw1⟩ : ∃ w1, w.alloc (.cells #[.pointer (some ⟨c, 0, none⟩), .int .u64 (v : Int)] 118) = w1 := ⟨_, rfl⟩
  obtain ⟨pb, hpb⟩ : ∃ pb, w.heap.size = pb := ⟨_, rfl⟩
  have B1 := Lib.hid (show Below w.heap.size w w1 from by rw [← hw1]; exact (Below.refl _ _).alloc (Nat.le_refl _) _)
  have X1 := Lib.hid (show Blk w1 pb 118 [.pointer (some ⟨c, 0, none⟩), .int .u64 (v : Int)] from by rw [← hw1, ← hpb]; exact Blk.new _ _ _)
  have HPB := Lib.hid (show ∀ x ∈ storeFp g gc gp (s :: Cs), x ≠ pb from fun x hx => by
    have := (h.lt x hx).2
    omega)
  have S1 := Lib.hid (h.on B1.out)
  have P1 := Lib.hid S1.out.pins
  have d2 : w1.cell? ⟨g, 2, none⟩ = some (.map (some gp)) := S1.out.blk.cell 2
  clear h hq hm hn hv hcc hc hqv hnc
  go_enter Tryz.func25, Tryz.ntmps25
  go_wp2_with (first
    | (at_lookup; refine pins_ok _ rfl _ _ rfl gp _ rfl HP.out n hn6 rfl _ HE.out ?_)
    | (at_delete; refine pins_del _ rfl _ _ rfl gp _ rfl P1.out n hn6 rfl ?_; intro w2 hM2 hk2; have x0 : w2.cell? ⟨pb, 0, none⟩ = some (.pointer (some ⟨c, 0, none⟩)) := (hk2.blk X1.out (by simpa using fun e : pb = gp => HPB.out gp (mem_storeFp.2 (.inr (.inr (.inl rfl)))) e.symm)).cell 0; have x1 : w2.cell? ⟨pb, 1, none⟩ = some (.int .u64 (v : Int)) := (hk2.blk X1.out (by simpa using fun e : pb = gp => HPB.out gp (mem_storeFp.2 (.inr (.inr (.inl rfl)))) e.symm)).cell 1)
    | fail)
  have ho := HS.out.out s (by simp)
  have K2 := Lib.hid hk2
  have M2 := Lib.hid (show MapE w2 Tryz.prog 3 gp (pinE (Ps.filter fun r => decide (r.n ≠ n))) from by rw [← dropE_pins]; exact hM2)
  have X2 := Lib.hid (hk2.blk X1.out (by simpa using fun e : pb = gp => HPB.out gp (mem_storeFp.2 (.inr (.inr (.inl rfl)))) e.symm))
  have B2 := Lib.hid (hk2.blk S1.out.blk (by simpa using fun e : g = gp => HS.out.ggc.2 e.symm))
  have C2 := Lib.hid ((S1.out.each s (by simp)).kept hk2 (fun x hx hF => ho.2.2 (by rw [← List.mem_singleton.1 hx]; exact hF)))
  have RL := Lib.hid (coll_release w2 lo N s.c s.F s.cf s.p s.L v HL.out.1 (by omega) C2.out)
  rw [HCc.out] at RL
  clear hk2 hM2 P1 HP
  refine RL.out.mono ?_
  rintro e w3 ⟨rfl, F3, h3, k3, g3⟩
  have X3 := Lib.hid (k3.blk X2.out (fun hx => HPB.out pb (mem_storeFp.2 (.inr (.inr (.inr ⟨s, by simp, hx⟩)))) rfl))
  have y0 : w3.cell? ⟨pb, 0, none⟩ = some (.pointer (some ⟨c, 0, none⟩)) := X3.out.cell 0
  have C3 := Lib.hid h3
  have K3 := Lib.hid k3
  have G3 := Lib.hid g3
  have SW := Lib.hid (coll_sweep w3 lo N c F3 s.cf s.p (s.L.erase v) (by omega) C3.out)
  clear h3 k3 g3 RL x0 x1
  go_wp2_with (fail)
  refine SW.out.mono ?_
  rintro e w4 ⟨rfl, F4, h4, k4, g4⟩
  have R := Lib.hid (show StoreIs w4 lo N g gc gp ({ s with F := F4, p := (s.p.sweep (s.L.erase v)).1, L := s.L.erase v } :: Cs) (Ps.filter fun r => decide (r.n ≠ n)) ver last ∧ Kept (storeFp g gc gp (s :: Cs)) w w4 ∧ Grows w (storeFp g gc gp (s :: Cs)) (storeFp g gc gp ({ s with F := F4, p := (s.p.sweep (s.L.erase v)).1, L := s.L.erase v } :: Cs)) from by
    have hs12 : w1.heap.size ≤ w2.heap.size := K2.out.size
    have hs01 := B1.out.size
    have kAll : Kept s.F w2 w4 := K3.out.trans k4 G3.out
    have hk : Kept (g :: gp :: s.F) w w4 := ((Kept.of_below (F := g :: gp :: s.F) B1.out (Nat.le_refl _)).trans (K2.out.mono (fun x hx => by simp at hx; simp [hx])) (Grows.refl _ _)).trans (kAll.mono (fun x hx => by simp [hx])) (Grows.refl _ _)
    have hg2 : Grows w2 s.F F4 := G3.out.trans g4 K3.out.size
    have hg : Grows w s.F F4 := (Grows.refl w s.F).trans hg2 (Nat.le_trans hs01 hs12)
    refine HS.out.change (Nat.le_refl N) (by rw [HCc.out]; exact h4) (kAll.blk B2.out ho.1) (M2.out.kept kAll ho.2.2) hk hg HS.out.hver HS.out.hlast (Nat.le_trans (List.length_filter_le _ _) HS.out.hps) HL.out.2 HOT.out (fun r hr => HS.out.home r (List.mem_filter.1 hr).1) (fun r hr => HS.out.hv r (List.mem_filter.1 hr).1))
  clear h4 k4 g4
  go_wp2
  go_ret
  exact ⟨F4, rfl, R.out⟩
set_option maxRecDepth 100000 in
set_option maxHeartbeats 3200000 in
theorem unpin_none (w : World) (lo N g gc gp ver last : Nat) (Cs : List SColl) (Ps : List SPin) (i : Int) (hi : (Lit.int .i64 i).wf = true) (hn : ∀ q ∈ Ps, (q.n : Int) ≠ i) (h : StoreIs w lo N g gc gp Cs Ps ver last) :
    Calls Tryz.prog 25 #[.pointer (some ⟨g, 0, none⟩), .int .i64 i] w fun e w' => e = .returned (.bool false) ∧ Below w.heap.size w w' := by
  have c2 : w.cell? ⟨g, 2, none⟩ = some (.map (some gp)) := h.blk.cell 2
  have HP := Lib.hid h.pins
  have HN := Lib.hid (show ∀ p ∈ pinE Ps, p.1 ≠ .int .i64 i from fun p hp e => by
    obtain ⟨q, hq, rfl⟩ := List.mem_map.1 hp
    exact hn q hq (Lit.int.inj e).2)
  clear h hn
  go_enter Tryz.func25, Tryz.ntmps25
  go_wp2_with (first
    | (at_lookup; refine pins_ok_none _ rfl _ _ rfl gp _ rfl HP.out i hi rfl HN.out ?_)
    | fail)
  go_wp2
  go_ret
  exact ⟨rfl, (Below.refl _ _).alloc (Nat.le_refl _) _⟩
theorem ownsRow_low9 {w : World} {lo lo' : Nat} {t : TypeId} {k n : Nat} {v : Value} {cs : List Value} (h : w.ownsRow lo t k v n cs) (hl : lo' ≤ lo) : w.ownsRow lo' t k v n cs := by
  refine ⟨h.1, ?_⟩
  rcases h.2 with h2 | ⟨g, cap, cur, h1, h2, h3⟩
  · exact .inl h2
  · exact .inr ⟨g, cap, cur, h1, Nat.le_trans hl h2, h3⟩
theorem ItL.OwnI.mono9 {lo lo' : Nat} {w : World} {x : ItL} (h : x.OwnI lo w) (hl : lo' ≤ lo) : x.OwnI lo' w := ⟨h.hid, ownsRow_low9 h.vec hl, ownsRow_low9 h.tags hl, h.wv, h.wt, h.lv, h.lt⟩
theorem results_tct {P : Program} {fn : Func} {p q r : Tmp} {ty : TypeId} (h : fn.results = #[.tmp r, .cell p ty, .tmp q]) (tmps : Array Value) (w : World) (g : Nat) (t : TypeId) (cs : Array Value) (fr : Nat × Nat) (d : TypeDesc)
    (hp : tmps.getD p undef = .pointer (some ⟨g, 0, none⟩)) (hg : w.heap[g]? = some (.cells cs t fr))
    (hu : P.underlying ty = some d) (hd : (match d with | .struct _ | .array _ _ => true | _ => false) = true) (hi : (P.info? ty).map (·.size) = some cs.size) (v u : Value) (hv : tmps.getD q undef = v) (hr : tmps.getD r undef = u) :
    (results fn tmps).run P w = .ok (.tuple #[u, .agg cs, v]) w := by
  have hp' : tmps[p]?.getD undef = .pointer (some ⟨g, 0, none⟩) := by simpa using hp
  have hv' : tmps[q]?.getD undef = v := by simpa using hv
  have hr' : tmps[r]?.getD undef = u := by simpa using hr
  simp [results, h, hp', hv', hr', asAddr, run_loadVar_row w g t ty cs fr d hg hu hd hi]
theorem conf_info : (Tryz.prog.info? 36).map (·.size) = some 6 := by kernel_rfl
def zeroConf : Array Value := #[.string ⟨#[]⟩, .int .u8 0, .int .u8 0, .bool false, .int .u8 0, .int .u16 0]
theorem zero_conf : ∀ w : World, (zeroValue 36).run Tryz.prog w = .ok (.agg zeroConf) w := by
  intro w
  kernel_rfl
theorem six_set {w w1 : World} {g : Nat} {t : TypeId} {z0 z1 z2 z3 z4 z5 : Value} (c0 c1 c2 c3 c4 c5 : Value) (h : Blk w1 g t [z0, z1, z2, z3, z4, z5]) (hb : Below w.heap.size w w1) (hg : w.heap.size ≤ g) :
    ((((((w1.setCell ⟨g, 0, none⟩ c0).setCell ⟨g, 1, none⟩ c1).setCell ⟨g, 2, none⟩ c2).setCell ⟨g, 3, none⟩ c3).setCell ⟨g, 4, none⟩ c4).setCell ⟨g, 5, none⟩ c5).heap[g]? = some (.cells #[c0, c1, c2, c3, c4, c5] t (0, 0)) ∧
    Below w.heap.size w ((((((w1.setCell ⟨g, 0, none⟩ c0).setCell ⟨g, 1, none⟩ c1).setCell ⟨g, 2, none⟩ c2).setCell ⟨g, 3, none⟩ c3).setCell ⟨g, 4, none⟩ c4).setCell ⟨g, 5, none⟩ c5) ∧
    Kept [g] w1 ((((((w1.setCell ⟨g, 0, none⟩ c0).setCell ⟨g, 1, none⟩ c1).setCell ⟨g, 2, none⟩ c2).setCell ⟨g, 3, none⟩ c3).setCell ⟨g, 4, none⟩ c4).setCell ⟨g, 5, none⟩ c5) :=
  ⟨(((((h.set 0 c0).set 1 c1).set 2 c2).set 3 c3).set 4 c4).set 5 c5, (((((hb.setCell (p := ⟨g, 0, none⟩) hg _).setCell (p := ⟨g, 1, none⟩) hg _).setCell (p := ⟨g, 2, none⟩) hg _).setCell (p := ⟨g, 3, none⟩) hg _).setCell (p := ⟨g, 4, none⟩) hg _).setCell (p := ⟨g, 5, none⟩) hg _,
    ((((((Kept.refl [g] w1).setCell _ _ (.inl (by simp))).setCell _ _ (.inl (by simp))).setCell _ _ (.inl (by simp))).setCell _ _ (.inl (by simp))).setCell _ _ (.inl (by simp))).setCell _ _ (.inl (by simp))⟩
theorem six_drew {w w1 : World} {g : Nat} {t : TypeId} {z0 z1 z2 z3 z4 z5 : Value} (c0 c1 c2 c3 c4 c5 : Value) (h : Blk w1 g t [z0, z1, z2, z3, z4, z5]) (hb : Below w.heap.size w w1) (hg : w.heap.size ≤ g) :
    ∃ w9, ((((((w1.setCell ⟨g, 0, none⟩ c0).setCell ⟨g, 1, none⟩ c1).setCell ⟨g, 2, none⟩ c2).setCell ⟨g, 3, none⟩ c3).setCell ⟨g, 4, none⟩ c4).setCell ⟨g, 5, none⟩ c5).drew = w9 ∧ w9.heap[g]? = some (.cells #[c0, c1, c2, c3, c4, c5] t (0, 0)) ∧ Below w.heap.size w w9 ∧ Kept [g] w1 w9 := by
  have h1 := six_set (w := w) c0 c1 c2 c3 c4 c5 h hb hg
  generalize ((((((w1.setCell ⟨g, 0, none⟩ c0).setCell ⟨g, 1, none⟩ c1).setCell ⟨g, 2, none⟩ c2).setCell ⟨g, 3, none⟩ c3).setCell ⟨g, 4, none⟩ c4).setCell ⟨g, 5, none⟩ c5) = w8 at h1 ⊢
  exact ⟨w8.drew, rfl, h1.1, h1.2.1.drew, h1.2.2.trans (Kept.of_below (F := [g]) ((Below.refl _ _).drew) (Nat.le_refl _)) (Grows.refl _ _)⟩
set_option maxRecDepth 100000 in
set_option maxHeartbeats 6400000 in
theorem pinned_store (w : World) (lo N g gc gp ver last : Nat) (s : SColl) (Cs : List SColl) (Ps : List SPin) (q : SPin) (hN : N ≤ 100000) (hq : q ∈ Ps) (hc : q.c = s.c) (h : StoreIs w lo N g gc gp (s :: Cs) Ps ver last) :
    Calls Tryz.prog 24 #[.pointer (some ⟨g, 0, none⟩), .int .i64 (q.n : Int)] w fun e w' => Below w.heap.size w w' ∧ ∃ (sv : Value) (xs : List ItL), e = .returned (.tuple #[sv, .agg s.cf.cells.toArray, .int .i64 ((s.p.all q.v).2 : Int)]) ∧
      ItsAt w.heap.size w' sv xs ∧ (∀ x ∈ xs, x.OwnI w.heap.size w') ∧ xs.map ItL.toI = (s.p.all q.v).1 := by
  have c2 : w.cell? ⟨g, 2, none⟩ = some (.map (some gp)) := h.blk.cell 2
  have hlast := h.hlast
  have hver := h.hver
  have hqv := h.hv q hq
  have HS := Lib.hid h
  have HP := Lib.hid h.pins
  obtain ⟨gp', gh, Fp, H, hC, hF⟩ := h.each s (by simp)
  have HC := Lib.hid hC
  obtain ⟨n, hn⟩ : ∃ n, q.n = n := ⟨_, rfl⟩
  obtain ⟨v, hv⟩ : ∃ v, q.v = v := ⟨_, rfl⟩
  obtain ⟨c, hcc⟩ : ∃ c, s.c = c := ⟨_, rfl⟩
  have HE := Lib.hid (show (keyI n, Value.agg #[.pointer (some ⟨c, 0, none⟩), .int .u64 (v : Int)]) ∈ pinE Ps from by
    refine List.mem_map.2 ⟨q, hq, ?_⟩
    unfold pinV
    rw [hn, hv, hc, hcc])
  have hn6 : n ≤ 1000000 := by omega
  have hv64 : v < 18446744073709551616 := by omega
  obtain ⟨p, hp⟩ : ∃ p, s.p = p := ⟨_, rfl⟩
  obtain ⟨code, hcode⟩ : ∃ code, (p.all v).2 = code := ⟨_, rfl⟩
  have CODE := Lib.hid hcode
  rcases hcf : s.cf with ⟨nm, d, mt, gr, l, wd⟩
  have CB := Lib.hid (show Blk w c 105 [.string nm, .int .u8 (d : Int), .int .u8 (mt : Int), .bool gr, .int .u8 (l : Int), .int .u16 (wd : Int), .pointer (some ⟨gp', 0, none⟩), .map (some gh)] from by
    have := hC.blk
    rw [hcf, hcc] at this
    exact this)
  have PA := Lib.hid (show PastIs w lo gp' Fp p from by rw [← hp]; exact hC.past)
  rw [hn, hp, hv, hcode]
  show Calls _ _ _ _ fun e w' => Below w.heap.size w w' ∧ ∃ (sv : Value) (xs : List ItL), e = .returned (.tuple #[sv, .agg #[.string nm, .int .u8 (d : Int), .int .u8 (mt : Int), .bool gr, .int .u8 (l : Int), .int .u16 (wd : Int)], .int .i64 (code : Int)]) ∧ _
  obtain ⟨w1, hw1⟩ : ∃ w1, w.alloc (.cells #[.string ⟨#[]⟩, .int .u8 0, .int .u8 0, .bool false, .int .u8 0, .int .u16 0] 36) = w1 := ⟨_, rfl⟩
  obtain ⟨eb, heb⟩ : ∃ eb, w.heap.size = eb := ⟨_, rfl⟩
  have B1 := Lib.hid (show Below w.heap.size w w1 from by rw [← hw1]; exact (Below.refl _ _).alloc (Nat.le_refl _) _)
  have E1 := Lib.hid (show Blk w1 eb 36 [.string ⟨#[]⟩, .int .u8 0, .int .u8 0, .bool false, .int .u8 0, .int .u16 0] from by rw [← hw1, ← heb]; exact Blk.new _ _ _)
  have d2 : w1.cell? ⟨g, 2, none⟩ = some (.map (some gp)) := (h.on B1.out).blk.cell 2
  have HP1 := Lib.hid ((h.on B1.out).pins)
  obtain ⟨w2, hw2⟩ : ∃ w2, w1.alloc (.cells #[.pointer (some ⟨c, 0, none⟩), .int .u64 (v : Int)] 118) = w2 := ⟨_, rfl⟩
  obtain ⟨pb, hpb⟩ : ∃ pb, w1.heap.size = pb := ⟨_, rfl⟩
  have hb2 : Below w1.heap.size w1 w2 := by rw [← hw2]; exact (Below.refl _ _).alloc (Nat.le_refl _) _
  have B2 := Lib.hid (below_on B1.out hb2)
  have X2 := Lib.hid (show Blk w2 pb 118 [.pointer (some ⟨c, 0, none⟩), .int .u64 (v : Int)] from by rw [← hw2, ← hpb]; exact Blk.new _ _ _)
  have E2 := Lib.hid ((Kept.of_below (F := []) hb2 (Nat.le_refl _)).blk E1.out (by simp))
  have CB2 := Lib.hid ((Kept.of_below (F := []) B2.out (Nat.le_refl _)).blk CB.out (by simp))
  have PD := Lib.hid (PA.out.on B2.out.drew)
  have x0 : w2.cell? ⟨pb, 0, none⟩ = some (.pointer (some ⟨c, 0, none⟩)) := X2.out.cell 0
  have x1 : w2.cell? ⟨pb, 1, none⟩ = some (.int .u64 (v : Int)) := X2.out.cell 1
  have x6 : w2.cell? ⟨c, 6, none⟩ = some (.pointer (some ⟨gp', 0, none⟩)) := CB2.out.cell 6
  have AC := Lib.hid (all_is _ _ _ _ _ v PD.out hv64)
  clear h hq hn hv hcc hc hqv hC hF hp hcode hb2 hcf
  go_enter Tryz.func24, Tryz.ntmps24
  go_wp2_with (first
    | (at_lookup; refine pins_ok _ rfl _ _ rfl gp _ rfl HP1.out n hn6 rfl _ HE.out ?_)
    | fail)
  go_region_law (rw [if_pos (by rfl)]; go_simp; go_at_call 50; refine AC.out.mono ?_; rintro e w3 ⟨hb3, sv, xs, rfl, hx1, hx2, hx3⟩; rw [CODE.out]; obtain ⟨xa, xc, rfl, -⟩ := hx1.form; have T3 := Lib.hid (And.intro hx1 (And.intro hx2 hx3)); have B23 := Lib.hid (show Below w2.heap.size w2 w3 from (Below.refl w2.heap.size w2).drew.trans hb3); obtain ⟨xn, hxn⟩ : ∃ xn, xs.length = xn := ⟨_, rfl⟩; rw [hxn] at T3 ⊢; clear hb3 hx1 hx2 hx3 hxn)
  all_goals
    have X3 := Lib.hid ((Kept.of_below (F := []) B23.out (Nat.le_refl _)).blk X2.out (by simp))
    have E3 := Lib.hid ((Kept.of_below (F := []) B23.out (Nat.le_refl _)).blk E2.out (by simp))
    have CB3 := Lib.hid ((Kept.of_below (F := []) B23.out (Nat.le_refl _)).blk CB2.out (by simp))
    have y0 : w3.cell? ⟨pb, 0, none⟩ = some (.pointer (some ⟨c, 0, none⟩)) := X3.out.cell 0
    have k0 : w3.cell? ⟨c, 0, none⟩ = some (.string nm) := CB3.out.cell 0
    have k1 : w3.cell? ⟨c, 1, none⟩ = some (.int .u8 (d : Int)) := CB3.out.cell 1
    have k2 : w3.cell? ⟨c, 2, none⟩ = some (.int .u8 (mt : Int)) := CB3.out.cell 2
    have k3 : w3.cell? ⟨c, 3, none⟩ = some (.bool gr) := CB3.out.cell 3
    have k4 : w3.cell? ⟨c, 4, none⟩ = some (.int .u8 (l : Int)) := CB3.out.cell 4
    have k5 : w3.cell? ⟨c, 5, none⟩ = some (.int .u16 (wd : Int)) := CB3.out.cell 5
    have e0 : w3.cell? ⟨eb, 0, none⟩ = some (.string ⟨#[]⟩) := E3.out.cell 0
    have e1 : w3.cell? ⟨eb, 1, none⟩ = some (.int .u8 0) := E3.out.cell 1
    have e2 : w3.cell? ⟨eb, 2, none⟩ = some (.int .u8 0) := E3.out.cell 2
    have e3 : w3.cell? ⟨eb, 3, none⟩ = some (.bool false) := E3.out.cell 3
    have e4 : w3.cell? ⟨eb, 4, none⟩ = some (.int .u8 0) := E3.out.cell 4
    have e5 : w3.cell? ⟨eb, 5, none⟩ = some (.int .u16 0) := E3.out.cell 5
    have f0 := E3.out.frozen 0
    have f1 := E3.out.frozen 1
    have f2 := E3.out.frozen 2
    have f3 := E3.out.frozen 3
    have f4 := E3.out.frozen 4
    have f5 := E3.out.frozen 5
    have hel := E3.out.lt
    clear x0 x1 x6 d2 c2 AC
    obtain ⟨w9, hw9, hz1, hz2, hk9⟩ := six_drew (w := w) (.string nm) (.int .u8 (d : Int)) (.int .u8 (mt : Int)) (.bool gr) (.int .u8 (l : Int)) (.int .u16 (wd : Int)) E3.out (B2.out.trans (B23.out.mono B2.out.size)) (by rw [heb]; exact Nat.le_refl _)
    have Z := Lib.hid (And.intro hz1 hz2)
    have hebp : eb < pb := by rw [← heb, ← hpb]; have := B1.out; rw [← hw1]; simp
    have hw2s : eb < w2.heap.size := E2.out.lt
    have hws : w.heap.size ≤ w2.heap.size := B2.out.size
    have T9 := Lib.hid (And.intro ((RowC.kept T3.out.1 hk9 (fun g hg hh => by
      have h1 : w2.heap.size ≤ g := (RowC.lt T3.out.1 g hg).1
      have h2 : g = eb := by simpa using hh
      omega)).mono hws) (And.intro (fun x hx => ((T3.out.2.1 x hx).kept hk9 (fun g hg hh => by
      have h1 : w2.heap.size ≤ g := ((T3.out.2.1 x hx).lo g hg).1
      have h2 : g = eb := by simpa using hh
      omega)).mono9 hws) T3.out.2.2))
    clear hk9 hw2s hws hz1 hz2
    go_wp2_with (fail)
    go_region_law (fail)
    all_goals
      go_wp2
      refine bodyPost_ret (results_tct (r := 4) (p := 5) (q := 6) (ty := 36) rfl _ _ eb 36 #[.string nm, .int .u8 (d : Int), .int .u8 (mt : Int), .bool gr, .int .u8 (l : Int), .int .u16 (wd : Int)] (0, 0) _ rfl Z.out.1 Tryz.underlying36 rfl conf_info (.int .i64 (code : Int)) (.slice xa xn xc) rfl rfl) rfl ?_
      exact ⟨Z.out.2, _, xs, rfl, T9.out.1, T9.out.2.1, T9.out.2.2⟩
end Go.Proofs.YtdmnflncgmnghaaGreat
