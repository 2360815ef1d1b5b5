/-
  The program's collection: whether changes may be written, what is there behind them, lay.
-/
import Derived.Test.YtdmnflncgmnghaaGreatUz
import Derived.Test.YtdmnflncgmnghaaGreatUy
import Derived.Deep.RegionLaw
import Derived.Deep.QuietTactic
import Derived.BigQuiet
import Derived.Test.YtdmnflncgmnghaaGreatCq
namespace Go.Proofs.YtdmnflncgmnghaaGreat
open Go.RowKit Go.Maps

/-- A change's letters. -/
structure ChL where
  gone : Bool
  it : ItL
def ChL.cells (x : ChL) : List Value := [.bool x.gone, .int .u32 (x.it.id : Int), .slice x.it.pv.1 x.it.pv.2.1 x.it.pv.2.2, .slice x.it.pt.1 x.it.pt.2.1 x.it.pt.2.2]
/-- A list of changes as it is read, in blocks that are ok. -/
def ChsAt (ok : Nat → Prop) (w : World) (a : Option Addr) (n c : Nat) (xs : List ChL) : Prop :=
  xs.length = n ∧ n ≤ c ∧ n ≤ 1000000 ∧ ∀ (i : Nat) (x : ChL), xs[i]? = some x → x.it.In ok w ∧ ∃ b off, a = some ⟨b, off, none⟩ ∧ ok b ∧ b < w.heap.size ∧
    w.cell? ⟨b, off + i * 4, none⟩ = some (.bool x.gone) ∧ w.cell? ⟨b, off + i * 4 + 1, none⟩ = some (.int .u32 (x.it.id : Int)) ∧ w.cell? ⟨b, off + i * 4 + 2, none⟩ = some (.slice x.it.pv.1 x.it.pv.2.1 x.it.pv.2.2) ∧ w.cell? ⟨b, off + i * 4 + 3, none⟩ = some (.slice x.it.pt.1 x.it.pt.2.1 x.it.pt.2.2)
theorem ChsAt.stay {ok ok' : Nat → Prop} {w w' : World} {a : Option Addr} {n c : Nat} {xs : List ChL} (h : ChsAt ok w a n c xs) (hs : w.heap.size ≤ w'.heap.size) (hb : ∀ k, ok k → k < w.heap.size → w'.heap[k]? = w.heap[k]?) (hok : ∀ k, ok k → k < w.heap.size → ok' k) : ChsAt ok' w' a n c xs := by
  obtain ⟨h1, h2, h20, h3⟩ := h
  refine ⟨h1, h2, h20, fun i x hx => ?_⟩
  obtain ⟨h4, b, off, rfl, hk, hlt, c0, c1, c2, c3⟩ := h3 i x hx
  have hbb := hb b hk hlt
  exact ⟨h4.stay hs hb hok, b, off, rfl, hok b hk hlt, Nat.lt_of_lt_of_le hlt hs, (World.cell?_of_block hbb).trans c0, (World.cell?_of_block hbb).trans c1, (World.cell?_of_block hbb).trans c2, (World.cell?_of_block hbb).trans c3⟩
theorem ChsAt.under {B : Nat} {w w' : World} {a : Option Addr} {n c : Nat} {xs : List ChL} (h : ChsAt (· < B) w a n c xs) (hb : Below B w w') : ChsAt (· < B) w' a n c xs := h.stay hb.size (fun k hk _ => hb.block k hk) (fun _ h _ => h)
theorem ChsAt.any {ok : Nat → Prop} {w : World} {a : Option Addr} {n c : Nat} {xs : List ChL} (h : ChsAt ok w a n c xs) : ChsAt (· < w.heap.size) w a n c xs := h.stay (Nat.le_refl _) (fun _ _ _ => rfl) (fun _ _ h => h)
/-- A change's error, for a conf of d parts. -/
def ChL.err (d : Nat) (x : ChL) : Nat := if x.it.id = 0 then 1 else if x.gone = true then 0 else if checkV x.it.vec.length (d : Int) x.it.vec ≠ 0 then (checkV x.it.vec.length (d : Int) x.it.vec).toNat else if fineB x.it.tags = true then 0 else 30
theorem checkV_cases (n : Nat) (d : Int) (xs : List Int) : checkV n d xs = 10 ∨ checkV n d xs = 0 ∨ checkV n d xs = 11 := by
  unfold checkV
  split
  · exact .inl rfl
  · split
    · exact .inr (.inl rfl)
    · exact .inr (.inr rfl)
theorem calls_flip {P : Program} {f : Nat} {args : Array Value} {w : World} {Q : Ending → Prop} (h : Calls P f args w fun e w' => Q e ∧ w = w') : Calls P f args w fun e w' => Q e ∧ w' = w := h.mono fun _ _ h => ⟨h.1, h.2.symm⟩
set_option maxRecDepth 100000 in
set_option maxHeartbeats 6400000 in
theorem mayChange_any (w : World) (c d : Nat) (x : ChL) (ok : Nat → Prop) (hd : d ≤ 255) (hx : x.it.In ok w) (hc : w.cell? ⟨c, 1, none⟩ = some (.int .u8 (d : Int))) (hcw : c < w.heap.size) :
    Calls Tryz.prog 92 #[.pointer (some ⟨c, 0, none⟩), .agg x.cells.toArray] w fun e w' => e = .returned (.int .i64 ((x.err d : Nat) : Int)) ∧ Below w.heap.size w w' := by
  obtain ⟨w1, hw1⟩ : ∃ w1, w.alloc (.cells #[.bool x.gone, .int .u32 (x.it.id : Int), .slice x.it.pv.1 x.it.pv.2.1 x.it.pv.2.2, .slice x.it.pt.1 x.it.pt.2.1 x.it.pt.2.2] 75) = w1 := ⟨_, rfl⟩
  have hb1 : Below w.heap.size w w1 := by rw [← hw1]; exact (Below.refl _ _).alloc (Nat.le_refl _) _
  have X1 := Lib.hid (show Blk w1 w.heap.size 75 x.cells from by rw [← hw1]; exact Blk.new _ _ _)
  have hc1 : w1.cell? ⟨c, 1, none⟩ = some (.int .u8 (d : Int)) := (hb1.cell (p := ⟨c, 1, none⟩) hcw).trans hc
  have B1 := Lib.hid hb1
  have hin := hx.stay (ok' := ok) hb1.size (fun k _ hk => hb1.block k hk) (fun _ h _ => h)
  have RV := Lib.hid (Rd.ints hin.hvec rfl)
  have RT := Lib.hid (Rd.strs hin.htags rfl)
  have x0 : w1.cell? ⟨w.heap.size, 0, none⟩ = some (.bool x.gone) := X1.out.cell 0
  have x1 : w1.cell? ⟨w.heap.size, 1, none⟩ = some (.int .u32 (x.it.id : Int)) := X1.out.cell 1
  have x2 : w1.cell? ⟨w.heap.size, 2, none⟩ = some (.slice x.it.pv.1 x.it.pv.2.1 x.it.pv.2.2) := X1.out.cell 2
  have x3 : w1.cell? ⟨w.heap.size, 3, none⟩ = some (.slice x.it.pt.1 x.it.pt.2.1 x.it.pt.2.2) := X1.out.cell 3
  have HI := Lib.hid hx.hid
  show Calls _ _ #[_, .agg #[.bool x.gone, .int .u32 (x.it.id : Int), .slice x.it.pv.1 x.it.pv.2.1 x.it.pv.2.2, .slice x.it.pt.1 x.it.pt.2.1 x.it.pt.2.2]] _ _
  clear hx hc hin
  by_cases h0 : x.it.id = 0
  · have hz : ((x.it.id : Int) == 0) = true := by simp [h0]
    have R := Lib.hid (show x.err d = 1 from by unfold ChL.err; rw [if_pos h0])
    rw [R.out]
    clear h0
    go_enter Tryz.func92, Tryz.ntmps92
    go_wp2
    go_ret
    exact ⟨rfl, B1.out⟩
  have hz : ((x.it.id : Int) == 0) = false := by simp; omega
  cases hg : x.gone
  rotate_left
  · have R := Lib.hid (show x.err d = 0 from by unfold ChL.err; rw [if_neg h0, if_pos hg])
    rw [R.out]
    rw [hg] at x0 hw1
    go_enter Tryz.func92, Tryz.ntmps92
    go_wp2
    go_ret
    exact ⟨rfl, B1.out⟩
  rw [hg] at x0 hw1
  obtain ⟨q, hq⟩ : ∃ q, checkV x.it.vec.length (d : Int) x.it.vec = q := ⟨_, rfl⟩
  have CV := Lib.hid (fun (W : World) (hW : Below w1.heap.size w1 W) => calls_flip (check_any x.it.pv.1 x.it.pv.2.1 x.it.pv.2.2 x.it.vec (d : Int) W (RV.out.below (Nat.le_refl _) hW)))
  have hq2 : checkV x.it.pv.2.1 (d : Int) x.it.vec = q := by rw [← hq, RV.out.len]
  rw [hq2] at CV
  have hqc := checkV_cases x.it.vec.length (d : Int) x.it.vec
  rw [hq] at hqc
  have CT := Lib.hid (fun (W : World) (hW : Below w1.heap.size w1 W) => check_reads x.it.pt.1 x.it.pt.2.1 x.it.pt.2.2 x.it.tags W (RT.out.1.on hW) RT.out.2)
  by_cases hq0 : q = 0
  · subst hq0
    have R := Lib.hid (show errOf (fineB x.it.tags) = ((x.err d : Nat) : Int) from by
      simp only [ChL.err, errOf, h0, hg, hq, ne_eq, not_true_eq_false, Bool.false_eq_true, if_false]
      split <;> rfl)
    rw [R.out] at CT
    clear hq hq2 hqc
    go_enter Tryz.func92, Tryz.ntmps92
    go_wp2_with (fail)
    go_quiet (first | (go_at_call 119; refine Calls.quiet_of_same (CV.out _ (below_draws (Below.refl _ _) _))))
    go_wp2_with (fail)
    refine (CT.out _ (below_draws (Below.refl _ _) _)).mono ?_
    rintro e w2 ⟨rfl, rfl⟩
    go_wp2
    go_ret
    exact ⟨rfl, below_draws B1.out _⟩
  · have R := Lib.hid (show ((x.err d : Nat) : Int) = q from by
      have e : x.err d = q.toNat := by simp only [ChL.err, h0, hg, hq, ne_eq, hq0, not_false_eq_true, Bool.false_eq_true, if_false, if_true]
      rw [e]
      omega)
    have hqb : (q != 0) = true := by simpa using hq0
    rw [R.out]
    clear hq hq2 hqc
    go_enter Tryz.func92, Tryz.ntmps92
    go_wp2_with (fail)
    go_quiet (first | (go_at_call 119; refine Calls.quiet_of_same (CV.out _ (below_draws (Below.refl _ _) _))))
    go_wp2
    go_ret
    exact ⟨rfl, below_draws B1.out _⟩

def key32 (x : Nat) : Lit := .int .u32 (x : Int)
theorem key32_inj : ∀ a b : Nat, key32 a = key32 b → a = b := fun a b h => by
  have h2 := (Lit.int.inj h).2
  omega
theorem key32_lit (x : Nat) : WideAt.IsKeyLit (key32 x) := by trivial
theorem u32_wfU {v : Nat} (h : v < 4294967296) : (Lit.int .u32 (v : Int)).wf = true := by
  simp [Lit.wf, IntKind.min, IntKind.max, IntKind.signed, IntKind.bits]
  omega
def setE (ids : List Nat) : List (Lit × Value) := ids.map fun id => (key32 id, .agg #[])
def dropS (id : Nat) (s : List Nat) : List Nat := s.filter fun y => decide (y ≠ id)
def putS (id : Nat) (s : List Nat) : List Nat := dropS id s ++ [id]
theorem dropE_set (s : List Nat) (id : Nat) : dropE (setE s) (key32 id) = setE (dropS id s) := by
  unfold dropE setE dropS
  rw [List.filter_map]
  congr 1
  refine List.filter_congr fun p _ => ?_
  show (!(key32 p).sameKey (key32 id)) = _
  by_cases h : p = id
  · rw [h, WideAt.sameKey_self (key32_lit id)]
    simp
  · rw [sameKey_ne (fun e => h (key32_inj _ _ e)), decide_eq_true h]
    rfl
theorem putE_set (s : List Nat) (id : Nat) : putE (setE s) (key32 id) (.agg #[]) = setE (putS id s) := by
  unfold putE putS
  rw [dropE_set]
  simp [setE]
theorem setE_mem {s : List Nat} {id : Nat} (h : id ∈ s) : (key32 id, Value.agg #[]) ∈ setE s := List.mem_map.2 ⟨id, h, rfl⟩
theorem setE_not {s : List Nat} {id : Nat} (h : id ∉ s) : ∀ p ∈ setE s, p.1 ≠ key32 id := fun p hp e => by
  obtain ⟨y, hy, rfl⟩ := List.mem_map.1 hp
  exact h (key32_inj _ _ e ▸ hy)
theorem dropS_len (id : Nat) (s : List Nat) : (dropS id s).length ≤ s.length := List.length_filter_le _ _
theorem putS_len (id : Nat) (s : List Nat) : (putS id s).length ≤ s.length + 1 := by
  unfold putS
  rw [List.length_append]
  have := dropS_len id s
  simpa using this
/-- The ids of items, each once. -/
def idsF (l : List Nat) : List Nat := l.foldl (fun s id => putS id s) []
theorem idsF_snoc (l : List Nat) (x : Nat) : idsF (l ++ [x]) = putS x (idsF l) := by simp [idsF]
theorem foldS_len : ∀ (l s : List Nat), (l.foldl (fun s id => putS id s) s).length ≤ s.length + l.length := by
  intro l
  induction l with
  | nil => exact fun s => Nat.le_refl _
  | cons x l ih =>
    intro s
    have h1 := ih (putS x s)
    have h2 := putS_len x s
    simp only [List.foldl_cons, List.length_cons]
    omega
theorem idsF_len (l : List Nat) : (idsF l).length ≤ l.length := by
  have := foldS_len l []
  simpa [idsF] using this
/-- The ids that would be there behind changes, or the first error. -/
def behS (d : Nat) : List Nat → List ChL → Nat × List Nat
  | s, [] => (0, s)
  | s, x :: l => if x.err d ≠ 0 then (x.err d, []) else if x.gone = false then behS d (putS x.it.id s) l else if x.it.id ∈ s then behS d (dropS x.it.id s) l else (2, [])
section
variable {ops : Array Oper} {rest : List Oper} {o : Oper} {a : Act} {Q : Exit → Act → World → Prop}
theorem ids_put (w : World) (hg : o.guard = none) (m x y : Operand) (hop : o.op = Op.mapUpdate 153 m x y) (b : Nat) (s : List Nat) (hl : s.length ≤ 1000000) (hm : a.eval m = .map (some b)) (h : MapE w Tryz.prog 38 b (setE s)) (id : Nat) (hid : id < 4294967296) (hx : a.eval x = .int .u32 (id : Int)) (hy : a.eval y = .agg #[])
    (hK : ∀ w', MapE w' Tryz.prog 38 b (setE (putS id s)) → Kept [b] w w' → wpList Tryz.prog ops Q rest (a.put o.dst undef) w') : wpList Tryz.prog ops Q (o :: rest) a w :=
  map_put w hg m x y _ hop 38 79 (Maps.int_keyed Tryz.underlying38) Tryz.underlying153 b (setE s) (by simpa [setE] using hl) hm h _ (.agg #[]) (key32 id) hx hy (Maps.keyOf_int_mk Tryz.underlying38 (u32_wfU hid)) (key32_lit id) (fun w' h1 h2 => hK w' (by rw [← putE_set]; exact h1) h2)
theorem ids_found (w : World) (hg : o.guard = none) (m x : Operand) (hop : o.op = Op.lookup 153 m x true) (b : Nat) (s : List Nat) (hm : a.eval m = .map (some b)) (h : MapE w Tryz.prog 38 b (setE s)) (id : Nat) (hid : id < 4294967296) (hx : a.eval x = .int .u32 (id : Int)) (hs : id ∈ s)
    (hK : wpList Tryz.prog ops Q rest (a.put o.dst (.tuple #[.agg #[], .bool true])) w) : wpList Tryz.prog ops Q (o :: rest) a w :=
  map_ok_found w hg m x _ hop 38 79 (Maps.int_keyed Tryz.underlying38) Tryz.underlying153 (Tryz.zeroValue79 w) b (setE s) hm h _ (key32 id) hx (Maps.keyOf_int_mk Tryz.underlying38 (u32_wfU hid)) (key32_lit id) _ (setE_mem hs) hK
theorem ids_missing (w : World) (hg : o.guard = none) (m x : Operand) (hop : o.op = Op.lookup 153 m x true) (b : Nat) (s : List Nat) (hm : a.eval m = .map (some b)) (h : MapE w Tryz.prog 38 b (setE s)) (id : Nat) (hid : id < 4294967296) (hx : a.eval x = .int .u32 (id : Int)) (hs : id ∉ s)
    (hK : wpList Tryz.prog ops Q rest (a.put o.dst (.tuple #[.agg #[], .bool false])) w) : wpList Tryz.prog ops Q (o :: rest) a w :=
  map_ok_none w hg m x _ hop 38 79 (Maps.int_keyed Tryz.underlying38) Tryz.underlying153 (Tryz.zeroValue79 w) b (setE s) hm h _ (key32 id) hx (Maps.keyOf_int_mk Tryz.underlying38 (u32_wfU hid)) (setE_not hs) hK
theorem ids_del (w : World) (hg : o.guard = none) (m x : Operand) (hop : o.op = Op.call { callee := Callee.builtin Builtin.delete, args := #[m, x], argTypes := #[153, 38] }) (b : Nat) (s : List Nat) (hm : a.eval m = .map (some b)) (h : MapE w Tryz.prog 38 b (setE s)) (id : Nat) (hid : id < 4294967296) (hx : a.eval x = .int .u32 (id : Int))
    (hK : ∀ w', MapE w' Tryz.prog 38 b (setE (dropS id s)) → Kept [b] w w' → wpList Tryz.prog ops Q rest (a.put o.dst (.tuple #[])) w') : wpList Tryz.prog ops Q (o :: rest) a w :=
  map_del w hg m x _ _ hop 79 (Maps.int_keyed Tryz.underlying38) Tryz.underlying153 b (setE s) hm h _ (key32 id) hx (Maps.keyOf_int_mk Tryz.underlying38 (u32_wfU hid)) (fun w' h1 h2 => hK w' (by rw [← dropE_set]; exact h1) h2)
theorem ids_len (w : World) (hg : o.guard = none) (m : Operand) (hop : o.op = Op.call { callee := Callee.builtin Builtin.len, args := #[m], argTypes := #[153] }) (b : Nat) (s : List Nat) (n : Nat) (hn : s.length = n) (hm : a.eval m = .map (some b)) (h : MapE w Tryz.prog 38 b (setE s))
    (hK : wpList Tryz.prog ops Q rest (a.put o.dst (.int .i64 (n : Int))) w) : wpList Tryz.prog ops Q (o :: rest) a w :=
  map_len w hg m _ hop 38 79 Tryz.underlying153 b (setE s) n (by simpa [setE] using hn) hm h hK
end
/-- What behind tells. -/
def behR (r : Nat × List Nat) : Value := if r.1 = 0 then .tuple #[.int .i64 (r.2.length : Int), .int .i64 0] else .tuple #[.int .i64 0, .int .i64 (r.1 : Int)]
set_option maxRecDepth 100000 in
set_option maxHeartbeats 12800000 in
theorem behind_any (w : World) (lo N c : Nat) (F : List Nat) (cf : ConfL) (p : PastV) (L : List Nat) (a : Option Addr) (n k : Nat) (xs : List ChL) (hd : cf.dim ≤ 255) (hn8 : n ≤ 128) (h : CollAt w lo N c F cf p L) (hxs : ChsAt (· < w.heap.size) w a n k xs) :
    Calls Tryz.prog 71 #[.pointer (some ⟨c, 0, none⟩), .slice a n k] w fun e w' => e = .returned (behR (behS cf.dim (idsF ((p.all p.last).1.map ItemV.id)) xs)) ∧ Below w.heap.size w w' := by
  obtain ⟨S0, hS0⟩ : ∃ S0, idsF ((p.all p.last).1.map ItemV.id) = S0 := ⟨_, rfl⟩
  rw [hS0]
  have HS0 := Lib.hid hS0
  have HC := Lib.hid h
  have HX := Lib.hid hxs
  have hnk := hxs.2.1
  have hn6 := hxs.2.2.1
  have hcw : c < w.heap.size := by
    obtain ⟨gp, gh, Fp, H, h1, rfl⟩ := h
    exact h1.blk.lt
  obtain ⟨w1, hw1⟩ : ∃ w1, w.alloc (.map #[] 0) = w1 := ⟨_, rfl⟩
  have hb1 : Below w.heap.size w w1 := by rw [← hw1]; exact (Below.refl _ _).alloc (Nat.le_refl _) _
  have hs1 : w1.heap.size = w.heap.size + 1 := by rw [← hw1]; simp
  have M1 := Lib.hid (show MapE w1 Tryz.prog 38 w.heap.size (setE []) from by rw [← hw1]; exact MapE.made _ _ _)
  have NW := Lib.hid (coll_now w1 lo N c F cf p L (h.on hb1))
  have B1 := Lib.hid hb1
  clear h hxs hb1 hS0
  have hmm := @run_makeMap Tryz.prog
  go_enter Tryz.func71, Tryz.ntmps71
  go_wp2_with (fail)
  refine NW.out.mono ?_
  rintro e w2 ⟨hb2, sv, us, rfl, hus, huo, hut⟩
  obtain ⟨ua, uc, rfl, huc⟩ := hus.form
  obtain ⟨un, hun⟩ : ∃ un, us.length = un := ⟨_, rfl⟩
  have hun2 : un ≤ 1024 := by
    have h1 := all_len p p.last
    rw [← hut, List.length_map] at h1
    have h2 : p.rows.length ≤ 1024 := by
      obtain ⟨gp, gh, Fp, H, h3, _⟩ := HC.out
      exact h3.past.few
    omega
  have UA := Lib.hid (show ItsAt w1.heap.size w2 (.slice ua un uc) us from by rw [← hun]; exact hus)
  have UN := Lib.hid hun
  have UO := Lib.hid huo
  have B2 := Lib.hid (below_on B1.out hb2)
  have M2 := Lib.hid (M1.out.on hb2)
  have IDS := Lib.hid (show (p.all p.last).1.map ItemV.id = us.map ItL.id from by rw [← hut, List.map_map]; rfl)
  rw [hun] at huc ⊢
  clear hb2 hus huo hut hun
  go_wp2_with (fail)
  go_loopw [18] (fun s18 wr => ∃ i : Nat, s18 = .int .i64 i ∧ i ≤ un ∧ Hid (MapE wr Tryz.prog 38 w.heap.size (setE (idsF ((us.map ItL.id).take i)))) ∧ Hid (Kept [w.heap.size] w2 wr)) (fun s18 _ => un - (intOf s18).toNat)
  case atStart => exact ⟨0, rfl, Nat.zero_le _, M2.out, Kept.refl _ _⟩
  case round =>
    obtain ⟨i, rfl, hi, HM, HK⟩ := hrel
    by_cases hiu : i < un
    · have UA2 := RowC.kept UA.out HK.out (fun g hg hh => by
        have h1 := (RowC.lt UA.out g hg).1
        have h2 : g = w.heap.size := by simpa using hh
        omega)
      obtain ⟨x, g, c', hx, e, hg, k0, k1, k2⟩ := ItsAt.at UA2 i (by rw [UN.out]; exact hiu)
      rw [UN.out] at e
      simp only [Value.slice.injEq] at e
      obtain ⟨rfl, -, rfl⟩ := e
      have XI := Lib.hid (UO.out x (List.mem_of_getElem? hx)).hid
      have hnx : (us.map ItL.id).take (i + 1) = (us.map ItL.id).take i ++ [x.id] := by
        rw [List.take_add_one, List.getElem?_map, hx]
        rfl
      have HL := Lib.hid (show (idsF ((us.map ItL.id).take i)).length ≤ 1000000 from by
        have h1 := idsF_len ((us.map ItL.id).take i)
        have h2 := List.length_take_le i (us.map ItL.id)
        omega)
      obtain ⟨wa, hwa⟩ : ∃ wa, wr.alloc (.cells #[.int .u32 (x.id : Int), .slice x.pv.1 x.pv.2.1 x.pv.2.2, .slice x.pt.1 x.pt.2.1 x.pt.2.2] 73) = wa := ⟨_, rfl⟩
      have hba : Below wr.heap.size wr wa := by rw [← hwa]; exact (Below.refl _ _).alloc (Nat.le_refl _) _
      have hxa : wa.cell? ⟨wr.heap.size, 0, none⟩ = some (.int .u32 (x.id : Int)) := by rw [← hwa]; exact (Blk.new wr 73 #[.int .u32 (x.id : Int), .slice x.pv.1 x.pv.2.1 x.pv.2.2, .slice x.pt.1 x.pt.2.1 x.pt.2.2]).cell 0
      have MA := Lib.hid (HM.out.on hba)
      have KA := Lib.hid (HK.out.trans (Kept.of_below (F := [w.heap.size]) hba (Nat.le_refl _)) (Grows.refl _ _))
      have NX := Lib.hid hnx
      clear UA2 hx hnx hba HM HK
      go_wp2_with (first | (at_mapUpdate; refine ids_put _ rfl _ _ _ rfl w.heap.size _ HL.out rfl MA.out x.id XI.out rfl rfl ?_; intro w3 hM3 hk3) | fail)
      go_roundw
      case rel => exact ⟨i + 1, by go_num, by omega, by rw [NX.out, idsF_snoc]; exact hM3, KA.out.trans hk3 (Grows.refl _ _)⟩
      case measure => simp [intOf]; omega
    · obtain rfl : i = un := by omega
      have HM2 := Lib.hid (show MapE wr Tryz.prog 38 w.heap.size (setE S0) from by
        rw [← HS0.out, IDS.out]
        have := HM.out
        rw [List.take_of_length_le (by rw [List.length_map, UN.out]; exact Nat.le_refl _)] at this
        exact this)
      have HL2 := Lib.hid (show S0.length ≤ 1024 from by
        rw [← HS0.out, IDS.out]
        have h1 := idsF_len (us.map ItL.id)
        rw [List.length_map, UN.out] at h1
        omega)
      clear HM UA UO IDS HS0
      go_wp2_with (fail)
      go_loopw [29] (fun s29 wx => ∃ (j : Nat) (s : List Nat), s29 = .int .i64 j ∧ j ≤ n ∧ Hid (behS cf.dim S0 xs = behS cf.dim s (xs.drop j)) ∧ Hid (s.length ≤ 1024 + j) ∧ Hid (MapE wx Tryz.prog 38 w.heap.size (setE s)) ∧ Hid (Kept [w.heap.size] w2 wx)) (fun s29 _ => n - (intOf s29).toNat)
      case atStart => exact ⟨0, S0, rfl, Nat.zero_le _, rfl, HL2.out, HM2.out, HK.out⟩
      case round =>
        clear HM2 HK HL2
        obtain ⟨j, s, rfl, hj, HB, HL, HM, HK⟩ := hrel
        have HL6 := Lib.hid (show s.length ≤ 1000000 from by have := HL.out; omega)
        have BX := Lib.hid (B2.out.trans (HK.out.below (B := w.heap.size) (by simp) B2.out.size))
        by_cases hjn : j < n
        · obtain ⟨x, hx⟩ : ∃ x, xs[j]? = some x := ⟨_, List.getElem?_eq_getElem (by rw [HX.out.1]; exact hjn)⟩
          obtain ⟨hin, b, off, rfl, -, hbw, k0, k1, k2, k3⟩ := (HX.out.under BX.out).2.2.2 j x hx
          have hdr : xs.drop j = x :: xs.drop (j + 1) := by
            obtain ⟨hl, e⟩ := List.getElem?_eq_some_iff.1 hx
            rw [← e, List.drop_eq_getElem_cons hl]
          have HB2 := Lib.hid (HB.out.trans (by rw [hdr]))
          have XI := Lib.hid hin.hid
          obtain ⟨wa, hwa⟩ : ∃ wa, wr.alloc (.cells #[.bool x.gone, .int .u32 (x.it.id : Int), .slice x.it.pv.1 x.it.pv.2.1 x.it.pv.2.2, .slice x.it.pt.1 x.it.pt.2.1 x.it.pt.2.2] 75) = wa := ⟨_, rfl⟩
          have hba : Below wr.heap.size wr wa := by rw [← hwa]; exact (Below.refl _ _).alloc (Nat.le_refl _) _
          have XB := Lib.hid (show Blk wa wr.heap.size 75 x.cells from by rw [← hwa]; exact Blk.new _ _ _)
          obtain ⟨xb, hxb⟩ : ∃ xb, wr.heap.size = xb := ⟨_, rfl⟩
          have MA := Lib.hid (HM.out.on hba)
          have KA := Lib.hid (HK.out.trans (Kept.of_below (F := [w.heap.size]) hba (Nat.le_refl _)) (Grows.refl _ _))
          have BA := Lib.hid (below_on BX.out hba)
          have INA := Lib.hid (hin.stay (ok' := (· < w.heap.size)) hba.size (fun k hk hkk => hba.block k hkk) (fun _ h _ => h))
          have CA := Lib.hid (HC.out.on BA.out)
          have q0 : wa.cell? ⟨xb, 0, none⟩ = some (.bool x.gone) := by rw [← hxb]; exact XB.out.cell 0
          have q1 : wa.cell? ⟨xb, 1, none⟩ = some (.int .u32 (x.it.id : Int)) := by rw [← hxb]; exact XB.out.cell 1
          have q2 : wa.cell? ⟨xb, 2, none⟩ = some (.slice x.it.pv.1 x.it.pv.2.1 x.it.pv.2.2) := by rw [← hxb]; exact XB.out.cell 2
          have q3 : wa.cell? ⟨xb, 3, none⟩ = some (.slice x.it.pt.1 x.it.pt.2.1 x.it.pt.2.2) := by rw [← hxb]; exact XB.out.cell 3
          have hxw : w.heap.size < xb := by
            have h1 := BX.out.size
            have h2 := HM.out.lt
            omega
          have XB2 := Lib.hid (show Blk wa xb 75 x.cells from by rw [← hxb]; exact XB.out)
          have MC := Lib.hid (mayChange_any wa c cf.dim x (· < w.heap.size) hd INA.out (CA.out.conf 1 (by decide)) (Nat.lt_of_lt_of_le hcw BA.out.size))
          obtain ⟨er, her⟩ : ∃ er, x.err cf.dim = er := ⟨_, rfl⟩
          have ER := Lib.hid her
          rw [her] at MC
          clear hin hx hdr hba HM HK HB XB her
          go_wp2_with (fail)
          refine MC.out.mono ?_
          rintro e wb ⟨rfl, hbb⟩
          have MB := Lib.hid (MA.out.on hbb)
          have KB := Lib.hid (KA.out.trans (Kept.of_below (F := [w.heap.size]) hbb (Nat.le_refl _)) (Grows.refl _ _))
          have BB := Lib.hid (below_on BA.out hbb)
          have XBW := Lib.hid (Nat.lt_of_lt_of_le XB2.out.lt hbb.size)
          have XB3 := (Kept.of_below (F := []) hbb (Nat.le_refl _)).blk XB2.out (by simp)
          have r0 : wb.cell? ⟨xb, 0, none⟩ = some (.bool x.gone) := XB3.cell 0
          have r1 : wb.cell? ⟨xb, 1, none⟩ = some (.int .u32 (x.it.id : Int)) := XB3.cell 1
          clear hbb XB3 MA KA BA CA INA MC q0 q1 q2 q3 XB2
          by_cases he0 : er = 0
          · have HE := Lib.hid he0
            rw [he0]
            cases hg : x.gone
            · have HB3 := Lib.hid (show behS cf.dim S0 xs = behS cf.dim (putS x.it.id s) (xs.drop (j + 1)) from by
                rw [HB2.out, behS, if_neg (by rw [ER.out, HE.out]; simp), if_pos hg])
              rw [hg] at r0
              clear he0
              go_wp2_with (first | (at_mapUpdate; refine ids_put _ rfl _ _ _ rfl w.heap.size _ HL6.out rfl MB.out x.it.id XI.out rfl rfl ?_; intro w3 hM3 hk3) | fail)
              go_roundw
              case rel => exact ⟨j + 1, _, by go_num, by omega, HB3.out, by have h1 := putS_len x.it.id s; have h2 := HL.out; show (putS x.it.id s).length ≤ _; omega, hM3, KB.out.trans hk3 (Grows.refl _ _)⟩
              case measure => simp [intOf]; omega
            · by_cases hs : x.it.id ∈ s
              · have HB3 := Lib.hid (show behS cf.dim S0 xs = behS cf.dim (dropS x.it.id s) (xs.drop (j + 1)) from by
                  rw [HB2.out, behS, if_neg (by rw [ER.out, HE.out]; simp), if_neg (by simp [hg]), if_pos hs])
                rw [hg] at r0
                clear he0
                obtain ⟨wz, hwz⟩ : ∃ wz, wb.alloc (.cells #[] 79) = wz := ⟨_, rfl⟩
                have hbz : Below wb.heap.size wb wz := by rw [← hwz]; exact (Below.refl _ _).alloc (Nat.le_refl _) _
                have MZ := Lib.hid (MB.out.on hbz)
                have KZ := Lib.hid (KB.out.trans (Kept.of_below (F := [w.heap.size]) hbz (Nat.le_refl _)) (Grows.refl _ _))
                have z1 : wz.cell? ⟨xb, 1, none⟩ = some (.int .u32 (x.it.id : Int)) := (hbz.cell (p := ⟨xb, 1, none⟩) XBW.out).trans r1
                go_wp2_with (first
                  | (at_lookup; refine ids_found _ rfl _ _ rfl w.heap.size s rfl MB.out x.it.id XI.out rfl hs ?_)
                  | (at_delete; refine ids_del _ rfl _ _ rfl w.heap.size s rfl MZ.out x.it.id XI.out rfl ?_; intro w3 hM3 hk3)
                  | fail)
                go_roundw
                case rel => exact ⟨j + 1, _, by go_num, by omega, HB3.out, by have h1 := dropS_len x.it.id s; have h2 := HL.out; show (dropS x.it.id s).length ≤ _; omega, hM3, KZ.out.trans hk3 (Grows.refl _ _)⟩
                case measure => simp [intOf]; omega
              · have HB3 := Lib.hid (show behR (behS cf.dim S0 xs) = .tuple #[.int .i64 0, .int .i64 2] from by
                  rw [HB2.out, behS, if_neg (by rw [ER.out, HE.out]; simp), if_neg (by simp [hg]), if_neg hs]
                  rfl)
                rw [hg] at r0
                clear he0
                go_wp2_with (first
                  | (at_lookup; refine ids_missing _ rfl _ _ rfl w.heap.size s rfl MB.out x.it.id XI.out rfl hs ?_)
                  | fail)
                go_ret2
                exact ⟨by rw [HB3.out]; rfl, BB.out.alloc BB.out.size _⟩
          · have HB3 := Lib.hid (show behR (behS cf.dim S0 xs) = .tuple #[.int .i64 0, .int .i64 (er : Int)] from by
              rw [HB2.out, behS, if_pos (by rw [ER.out]; exact he0), ER.out]
              simp [behR, he0])
            have hne : ((er : Int) != 0) = true := by simpa using he0
            go_wp2
            go_ret2
            exact ⟨by rw [HB3.out]; rfl, BB.out⟩
        · obtain rfl : j = n := by omega
          have HB3 := Lib.hid (show behS cf.dim S0 xs = (0, s) from by
            rw [HB.out, List.drop_of_length_le (by rw [HX.out.1]; exact Nat.le_refl _)]
            rfl)
          obtain ⟨sl, hsl⟩ : ∃ sl, s.length = sl := ⟨_, rfl⟩
          have R := Lib.hid (show behR (behS cf.dim S0 xs) = .tuple #[.int .i64 (sl : Int), .int .i64 0] from by rw [HB3.out, ← hsl]; rfl)
          go_wp2_with (first | (at_len; refine ids_len _ rfl _ rfl w.heap.size s sl hsl rfl HM.out ?_) | fail)
          go_ret2
          exact ⟨by rw [R.out]; rfl, BX.out⟩

def ChL.row (v : Nat) (x : ChL) : RowV := if x.gone = true then ⟨v, true, ⟨x.it.id, [], []⟩⟩ else ⟨v, false, x.it.toI⟩
/-- Changes laid at a version, one behind the other. -/
def layS (v : Nat) (p : PastV) (xs : List ChL) : PastV := xs.foldl (fun q x => (q.lay (x.row v)).1) p
theorem layS_snoc (v : Nat) (p : PastV) (xs : List ChL) (x : ChL) : layS v p (xs ++ [x]) = ((layS v p xs).lay (x.row v)).1 := by simp [layS]
theorem coll_put (w : World) (lo N c gp gh : Nat) (Fp : List Nat) (H : List (Nat × Nat)) (cf : ConfL) (p : PastV) (L : List Nat) (v : Nat) (x : ItL) (h : CollIs w lo N c gp gh Fp H cf p L) (hv : v < 18446744073709551616) (hx : x.In (fun _ => True) w) :
    Calls Tryz.prog 73 #[.pointer (some ⟨gp, 0, none⟩), .int .u64 (v : Int), .agg x.cells.toArray] w fun e w' => ∃ (code : Nat) (F' : List Nat), e = .returned (.int .i64 (code : Int)) ∧ CollAt w' lo N c F' cf (p.lay ⟨v, false, x.toI⟩).1 L ∧ Kept (collFp c gh Fp H) w w' ∧ Grows w (collFp c gh Fp H) F' := by
  refine (put_is w lo gp Fp p v x h.past hv hx).mono ?_
  rintro e w' ⟨F', rfl, h1, k1, g1⟩
  have := h.turn h1 k1 g1
  exact ⟨_, _, rfl, this⟩
theorem coll_cut (w : World) (lo N c gp gh : Nat) (Fp : List Nat) (H : List (Nat × Nat)) (cf : ConfL) (p : PastV) (L : List Nat) (v id : Nat) (h : CollIs w lo N c gp gh Fp H cf p L) (hv : v < 18446744073709551616) (hid : id < 4294967296) :
    Calls Tryz.prog 72 #[.pointer (some ⟨gp, 0, none⟩), .int .u64 (v : Int), .int .u32 (id : Int)] w fun e w' => ∃ (code : Nat) (F' : List Nat), e = .returned (.int .i64 (code : Int)) ∧ CollAt w' lo N c F' cf (p.lay ⟨v, true, ⟨id, [], []⟩⟩).1 L ∧ Kept (collFp c gh Fp H) w w' ∧ Grows w (collFp c gh Fp H) F' := by
  refine (cut_is w lo gp Fp p v id h.past hv hid).mono ?_
  rintro e w' ⟨F', rfl, h1, k1, g1⟩
  have := h.turn h1 k1 g1
  exact ⟨_, _, rfl, this⟩
/-- The state while changes are laid. -/
structure LayW (w : World) (lo N c : Nat) (F : List Nat) (cf : ConfL) (L : List Nat) (F' : List Nat) (q : PastV) (wr : World) : Prop where
  coll : CollAt wr lo N c F' cf q L
  kept : Kept F w wr
  grows : Grows w F F'
theorem LayW.on {w wr wy : World} {lo N c : Nat} {F F' L : List Nat} {cf : ConfL} {q : PastV} (h : LayW w lo N c F cf L F' q wr) (hb : Below wr.heap.size wr wy) : LayW w lo N c F cf L F' q wy := ⟨h.coll.on hb, h.kept.trans (Kept.of_below (F := F) hb (Nat.le_refl _)) (Grows.refl _ _), h.grows⟩
theorem LayW.step {w wr wy : World} {lo N c : Nat} {F F' F'' L : List Nat} {cf : ConfL} {q q' : PastV} (h : LayW w lo N c F cf L F' q wr) (h1 : CollAt wy lo N c F'' cf q' L) (k : Kept F' wr wy) (g : Grows wr F' F'') : LayW w lo N c F cf L F'' q' wy := ⟨h1, h.kept.trans k h.grows, h.grows.trans g h.kept.size⟩
theorem LayW.below {w wr : World} {lo N c B : Nat} {F F' L : List Nat} {cf : ConfL} {p q : PastV} (h0 : CollAt w lo N c F cf p L) (h : LayW w lo N c F cf L F' q wr) (hB : B ≤ lo) : Below B w wr := h.kept.below (fun x hx => Nat.le_trans hB (h0.lt x hx).1) (by
  obtain ⟨gp, gh, Fp, H, h1, rfl⟩ := h0
  have := h1.past.size1
  omega)
set_option maxRecDepth 100000 in
set_option maxHeartbeats 12800000 in
theorem coll_lay (w : World) (ok : Nat → Prop) (lo N c : Nat) (F : List Nat) (cf : ConfL) (p : PastV) (L : List Nat) (v : Nat) (a : Option Addr) (n k : Nat) (xs : List ChL) (hv : v < 18446744073709551616) (hN : N ≤ 100000) (hok : ∀ k, ok k → k ∉ F) (h : CollAt w lo N c F cf p L) (hxs : ChsAt ok w a n k xs) :
    Calls Tryz.prog 47 #[.pointer (some ⟨c, 0, none⟩), .int .u64 (v : Int), .slice a n k] w fun e w' => CollPost lo N c F cf ((layS v p xs).sweep L).1 L (.tuple #[]) w e w' := by
  have H0 := Lib.hid h
  have HX := Lib.hid hxs
  have hnk := hxs.2.1
  have hn6 := hxs.2.2.1
  have HV := Lib.hid hv
  have HS := Lib.hid (show LayW w lo N c F cf L F p w from ⟨h, Kept.refl _ _, Grows.refl _ _⟩)
  clear h hxs hv
  go_enter Tryz.func47, Tryz.ntmps47
  go_wp2_with (fail)
  go_loopw [10] (fun s10 wr => ∃ (i : Nat) (q : PastV) (F' : List Nat), s10 = .int .i64 i ∧ i ≤ n ∧ Hid (layS v p (xs.take i) = q) ∧ Hid (LayW w lo N c F cf L F' q wr)) (fun s10 _ => n - (intOf s10).toNat)
  case atStart => exact ⟨0, p, F, rfl, Nat.zero_le _, rfl, HS.out⟩
  case round =>
    clear HS
    obtain ⟨i, q, F', rfl, hi, HQ, HL⟩ := hrel
    by_cases hin : i < n
    · obtain ⟨x, hx⟩ : ∃ x, xs[i]? = some x := ⟨_, List.getElem?_eq_getElem (by rw [HX.out.1]; exact hin)⟩
      obtain ⟨hIn, b, off, rfl, hbB, hbw, k0, k1, k2, k3⟩ := (HX.out.stay (ok' := ok) HL.out.kept.size (fun k hk hkk => HL.out.kept.block k hkk (hok k hk)) (fun _ h _ => h)).2.2.2 i x hx
      have NX := Lib.hid (show layS v p (xs.take (i + 1)) = (q.lay (x.row v)).1 from by
        rw [List.take_add_one, hx]
        show layS v p (xs.take i ++ [x]) = _
        rw [layS_snoc, HQ.out])
      have XI := Lib.hid hIn.hid
      obtain ⟨wa, hwa⟩ : ∃ wa, wr.alloc (.cells #[.bool x.gone, .int .u32 (x.it.id : Int), .slice x.it.pv.1 x.it.pv.2.1 x.it.pv.2.2, .slice x.it.pt.1 x.it.pt.2.1 x.it.pt.2.2] 75) = wa := ⟨_, rfl⟩
      have hba : Below wr.heap.size wr wa := by rw [← hwa]; exact (Below.refl _ _).alloc (Nat.le_refl _) _
      obtain ⟨xb, hxb⟩ : ∃ xb, wr.heap.size = xb := ⟨_, rfl⟩
      have XB := Lib.hid (show Blk wa xb 75 x.cells from by rw [← hwa, ← hxb]; exact Blk.new _ _ _)
      have LA := Lib.hid (HL.out.on hba)
      have LD := Lib.hid (LA.out.on ((Below.refl wa.heap.size wa).drew))
      obtain ⟨gp, gh, Fp, H, hC, hF'⟩ := LD.out.coll
      subst hF'
      have CD := Lib.hid hC
      have c6 : wa.cell? ⟨c, 6, none⟩ = some (.pointer (some ⟨gp, 0, none⟩)) := hC.blk.cell 6
      have INA := Lib.hid (show x.it.In (fun _ => True) wa.drew from (hIn.stay (ok' := fun _ => True) hba.size (fun k hk hkk => hba.block k hkk) (fun _ _ _ => trivial)).stay (ok' := fun _ => True) (w' := wa.drew) (Nat.le_refl _) (fun _ _ _ => rfl) (fun _ _ _ => trivial))
      have q1 : wa.cell? ⟨xb, 1, none⟩ = some (.int .u32 (x.it.id : Int)) := XB.out.cell 1
      have q2 : wa.cell? ⟨xb, 2, none⟩ = some (.slice x.it.pv.1 x.it.pv.2.1 x.it.pv.2.2) := XB.out.cell 2
      have q3 : wa.cell? ⟨xb, 3, none⟩ = some (.slice x.it.pt.1 x.it.pt.2.1 x.it.pt.2.2) := XB.out.cell 3
      have q0 : wa.cell? ⟨xb, 0, none⟩ = some (.bool x.gone) := XB.out.cell 0
      clear hx hIn hba HL HQ hC
      cases hg : x.gone
      · have NX2 := Lib.hid (show layS v p (xs.take (i + 1)) = (q.lay ⟨v, false, x.it.toI⟩).1 from by rw [NX.out, ChL.row, if_neg (by simp [hg])])
        rw [hg] at q0 hwa
        go_wp2_with (fail)
        go_region_law (rw [if_pos (by rfl)]; go_simp; go_at_call 73; refine (coll_put _ lo N c gp gh Fp H cf q L v x.it CD.out HV.out INA.out).mono ?_; rintro e w7 ⟨code, F7, rfl, h7, k7, g7⟩; have L7 := Lib.hid (LD.out.step h7 k7 g7); clear h7 k7 g7)
        all_goals
          go_wp2
          go_roundw
          case rel => exact ⟨i + 1, _, F7, by go_num, by omega, NX2.out, L7.out⟩
          case measure => simp [intOf]; omega
      · have NX2 := Lib.hid (show layS v p (xs.take (i + 1)) = (q.lay ⟨v, true, ⟨x.it.id, [], []⟩⟩).1 from by rw [NX.out, ChL.row, if_pos hg])
        rw [hg] at q0 hwa
        go_wp2_with (fail)
        go_region_law (rw [if_pos (by rfl)]; go_simp; go_at_call 72; refine (coll_cut _ lo N c gp gh Fp H cf q L v x.it.id CD.out HV.out XI.out).mono ?_; rintro e w7 ⟨code, F7, rfl, h7, k7, g7⟩; have L7 := Lib.hid (LD.out.step h7 k7 g7); clear h7 k7 g7)
        all_goals
          go_wp2
          go_roundw
          case rel => exact ⟨i + 1, _, F7, by go_num, by omega, NX2.out, L7.out⟩
          case measure => simp [intOf]; omega
    · obtain rfl : i = n := by omega
      have HQ2 := Lib.hid (show layS v p xs = q from by
        rw [← HQ.out, List.take_of_length_le (by rw [HX.out.1]; exact Nat.le_refl _)])
      go_wp2_with (fail)
      refine (coll_sweep wr lo N c F' cf q L hN HL.out.coll).mono ?_
      rintro e w9 ⟨rfl, F9, h9, k9, g9⟩
      have L9 := Lib.hid (HL.out.step h9 k9 g9)
      clear h9 k9 g9
      go_wp2
      go_end0
      exact ⟨rfl, F9, by rw [HQ2.out]; exact L9.out.coll, L9.out.kept, L9.out.grows⟩
end Go.Proofs.YtdmnflncgmnghaaGreat
