/-
  Layer 14: the document's Great; rows of one cell each; ops as arguments.
-/
import Derived.Test.YtadkfedglkhgjaaQro
import Derived.Test.YtadkfedglkhgjaaSw
import Derived.BigGuardPart
import Derived.BigCall
import Derived.Deep.DeepMust
namespace Go.Proofs.Ytadkfedglkhgjaa
open Go.RowKit Go.ChangeShapes Go.WideShapes Go.ChangeAt Go.Maps

def FewQ (n : Nat) (w : World) (e : Ending) (w' : World) : Prop := ∃ g, e = .returned (.bool g) ∧ (g = false → n ≤ 300) ∧ Below w.heap.size w w'
theorem rd_item_in14 {ok : Nat → Prop} {w : World} {a : Option Addr} {n c : Nat} {xs : List shItem.T} (h : Rd ok w (.slice shItem 1) [.slice a n c] xs) (i : Nat) (hi : i < n) :
    ∃ (b off : Nat) (x : shItem.T) (c0 c1 c2 : Value), a = some ⟨b, off, none⟩ ∧ b < w.heap.size ∧ xs[i]? = some x ∧ Hid (Rd ok w shItem [c0, c1, c2] x) ∧ w.cell? ⟨b, off + i * 3, none⟩ = some c0 ∧ w.cell? ⟨b, off + i * 3 + 1, none⟩ = some c1 ∧ w.cell? ⟨b, off + i * 3 + 2, none⟩ = some c2 := by
  obtain ⟨b, off, x, vs, ha, _, hlt, hx, hl, hc, hr⟩ := Rd.elem (e := shItem) h i hi
  obtain ⟨_, _, _, _, _, _, _, _, _, _, hcs, _⟩ := rd_item hr
  subst hcs
  exact ⟨b, off, x, _, _, _, ha, hlt, hx, hr, hc 0 (by decide), hc 1 (by decide), hc 2 (by decide)⟩
set_option maxRecDepth 100000 in
set_option maxHeartbeats 6400000 in
theorem rgreat14 (w : World) (ok : Nat → Prop) (a : Option Addr) (n c : Nat) (xs : List shItem.T) (fl : QryL) (h : Rd ok w (.slice shItem 1) [.slice a n c] xs) (hf : fl.In ok w) :
    Calls Try.prog 7 #[.slice a n c, .agg #[.slice fl.p0.1 fl.p0.2.1 fl.p0.2.2, .slice fl.p1.1 fl.p1.2.1 fl.p1.2.2, .slice fl.p2.1 fl.p2.2.1 fl.p2.2.2]] w (FewQ n w) := by
  obtain ⟨_, _, _, hcs, HN, hn0, _⟩ := Rd.slice_is (e := shItem) h
  simp only [List.cons.injEq, Value.slice.injEq, and_true] at hcs
  obtain ⟨rfl, rfl, rfl⟩ := hcs
  obtain ⟨w1, hw1⟩ : ∃ w1, w.alloc (.cells #[.slice fl.p0.1 fl.p0.2.1 fl.p0.2.2, .slice fl.p1.1 fl.p1.2.1 fl.p1.2.2, .slice fl.p2.1 fl.p2.2.1 fl.p2.2.2] 34) = w1 := ⟨_, rfl⟩
  have hb1 : Below w.heap.size w w1 := by rw [← hw1]; exact (Below.refl _ w).alloc (Nat.le_refl _) _
  have bf : Blk w1 w.heap.size 34 [.slice fl.p0.1 fl.p0.2.1 fl.p0.2.2, .slice fl.p1.1 fl.p1.2.1 fl.p1.2.2, .slice fl.p2.1 fl.p2.2.1 fl.p2.2.2] := by rw [← hw1]; exact Blk.new _ _ _
  have f0 : w1.cell? ⟨w.heap.size, 0, none⟩ = some (.slice fl.p0.1 fl.p0.2.1 fl.p0.2.2) := bf.cell 0
  have f1 : w1.cell? ⟨w.heap.size, 1, none⟩ = some (.slice fl.p1.1 fl.p1.2.1 fl.p1.2.2) := bf.cell 1
  have f2 : w1.cell? ⟨w.heap.size, 2, none⟩ = some (.slice fl.p2.1 fl.p2.2.1 fl.p2.2.2) := bf.cell 2
  have HH := Lib.hid (h.on hb1)
  have HF := Lib.hid (hf.on hb1)
  have HB := Lib.hid hb1
  clear h hf hb1 bf
  go_enter Try.func7, Try.ntmps7
  go_wp2_with (first | (rw [hw1]) | fail)
  try rw [hw1]
  clear hw1
  go_loop [5, 6] (fun s5 s6 => ∃ (i : Nat) (m : Int), s5 = .int .i64 m ∧ s6 = .int .i64 (i : Int) ∧ i ≤ n ∧ 0 ≤ m ∧ m ≤ 60000) (fun _ s6 => n - (intOf s6).toNat)
  case atStart => exact ⟨0, 0, rfl, rfl, Nat.zero_le _, by omega, by omega⟩
  case round =>
    obtain ⟨i, m, rfl, rfl, hi, h0, h1⟩ := hrel
    by_cases hc : i < n ∧ m < 20000
    · obtain ⟨hc, hm⟩ := hc
      obtain ⟨b, off, x, c0, c1, c2, rfl, hblt, hx, hrd, k0, k1, k2⟩ := rd_item_in14 HH.out i hc
      obtain ⟨id, vec, tags, ia, iN, ic, ta, tn, tc, rfl, hcs, hid, rv, rt, hvl, htl, hvn, htn⟩ := rd_item hrd.out
      simp only [List.cons.injEq, and_true] at hcs
      obtain ⟨rfl, rfl, rfl⟩ := hcs
      have RT := Lib.hid rt
      clear hx hrd rv rt
      go_wp2_with (fail)
      all_goals
        refine (great03 ta tn tc tags w1 RT.out).mono ?_
        rintro e w' ⟨⟨g, rfl⟩, rfl⟩
        cases g
        · go_wp2
          go_round
          case rel => exact ⟨i + 1, _, by go_num, by go_num, by omega, by go_num, by go_num⟩
          case measure => simp [intOf]; omega
        · go_wp2
          go_ret
          exact ⟨true, rfl, by simp, HB.out⟩
    · by_cases hm : m < 20000
      · have hni : ¬ i < n := fun hh => hc ⟨hh, hm⟩
        have hmb : decide (m < 20000) = true := decide_eq_true hm
        have hmc : decide ((20000 : Int) ≤ m) = false := decide_eq_false (by omega)
        by_cases hn3 : 300 < n
        · have hnb : decide ((300 : Int) < (n : Int)) = true := decide_eq_true (by omega)
          go_wp2
          all_goals
            go_ret
            exact ⟨true, rfl, by simp, HB.out⟩
        · have HN3 : n ≤ 300 := by omega
          have hnb : decide ((300 : Int) < (n : Int)) = false := decide_eq_false (by omega)
          go_wp2_with (fail)
          refine (great03 _ _ _ _ _ HF.out.all).mono ?_
          rintro e w' ⟨⟨g, rfl⟩, rfl⟩
          cases g
          · go_wp2_with (fail)
            refine (great03 _ _ _ _ _ HF.out.any).mono ?_
            rintro e w' ⟨⟨g, rfl⟩, rfl⟩
            cases g
            · go_wp2_with (fail)
              refine (great03 _ _ _ _ _ HF.out.none).mono ?_
              rintro e w' ⟨⟨g, rfl⟩, rfl⟩
              cases g
              all_goals
                go_wp2
                go_ret
                exact ⟨_, rfl, fun _ => HN3, HB.out⟩
            · go_wp2
              go_ret
              exact ⟨_, rfl, fun _ => HN3, HB.out⟩
          · go_wp2
            go_ret
            exact ⟨_, rfl, fun _ => HN3, HB.out⟩
      · have hmb : decide (m < 20000) = false := decide_eq_false hm
        have hmc : decide ((20000 : Int) ≤ m) = true := decide_eq_true (by omega)
        go_wp2
        all_goals
          go_ret
          exact ⟨true, rfl, by simp, HB.out⟩
theorem flatten_set14 (k : Nat) : ∀ (css : List (List Value)) (_ : ∀ cs ∈ css, cs.length = k) (i : Nat) (cs : List Value) (_ : css[i]? = some cs) (j : Nat) (_ : j < k) (u : Value), (css.set i (cs.set j u)).flatten = css.flatten.set (i * k + j) u
  | [], _, i, cs, hi, _, _, _ => by simp at hi
  | c :: css, hk, 0, cs, hi, j, hj, u => by
    simp only [List.getElem?_cons_zero, Option.some.injEq] at hi
    subst hi
    have hc := hk c (by simp)
    simp only [List.set_cons_zero, List.flatten_cons, Nat.zero_mul, Nat.zero_add]
    rw [List.set_append_left _ _ (by omega)]
  | c :: css, hk, i + 1, cs, hi, j, hj, u => by
    have hc := hk c (by simp)
    have h := flatten_set14 k css (fun x hx => hk x (by simp [hx])) i cs (by simpa using hi) j hj u
    simp only [List.set_cons_succ, List.flatten_cons]
    rw [h, List.set_append_right _ _ (by rw [hc, Nat.add_mul]; omega), hc]
    congr 2
    rw [Nat.add_mul]
    omega
theorem RowC.put14 {lo k g n c : Nat} {w : World} {t : TypeId} {css : List (List Value)} (h : RowC lo w t k (.slice (some ⟨g, 0, none⟩) n c) css) (i : Nat) (cs : List Value) (hi : css[i]? = some cs) (j : Nat) (hj : j < k) (u : Value) :
    RowC lo (w.setCell ⟨g, i * k + j, none⟩ u) t k (.slice (some ⟨g, 0, none⟩) n c) (css.set i (cs.set j u)) := by
  have hn : n = css.length := by
    obtain ⟨_, _, e, _⟩ := h.form
    simp only [Value.slice.injEq] at e
    exact e.2.1
  refine ⟨fun x hx => ?_, ?_⟩
  · rcases List.mem_or_eq_of_mem_set hx with hx | hx
    · exact h.1 x hx
    · rw [hx, List.length_set]
      exact h.1 cs (List.mem_of_getElem? hi)
  · rw [flatten_set14 k css h.1 i cs hi j hj u, List.length_set, ← hn]
    have h2 := h.2
    rw [← hn] at h2
    exact (h2.stored (i * k + j) u).1
/-- A row of one cell each. -/
def Row1 (lo : Nat) (w : World) (t : TypeId) (v : Value) (cs : List Value) : Prop := RowC lo w t 1 v (cs.map fun u => [u])
theorem Row1.nil (lo : Nat) (w : World) (t : TypeId) : Row1 lo w t (.slice none 0 0) [] := ⟨by simp, rfl, .inl ⟨rfl, rfl⟩⟩
theorem Row1.parts {lo : Nat} {w : World} {t : TypeId} {v : Value} {cs : List Value} (h : Row1 lo w t v cs) : ∃ a n c, v = .slice a n c ∧ Hid (cs.length = n) := by
  obtain ⟨a, c, e, _⟩ := RowC.form h
  rw [List.length_map] at e
  exact ⟨a, _, c, e, rfl⟩
theorem Row1.at {lo : Nat} {w : World} {t : TypeId} {a : Option Addr} {n c : Nat} {cs : List Value} (h : Row1 lo w t (.slice a n c) cs) (i : Nat) (u : Value) (hu : cs[i]? = some u) : ∃ g, a = some ⟨g, 0, none⟩ ∧ lo ≤ g ∧ g < w.heap.size ∧ w.cell? ⟨g, i, none⟩ = some u := by
  obtain ⟨g, c', e, h1, h2, hrg⟩ := RowC.at h i [u] (by rw [List.getElem?_map, hu]; rfl)
  simp only [Value.slice.injEq] at e
  have h3 := hrg 0 _ rfl
  rw [Nat.mul_one] at h3
  exact ⟨g, e.1, h1, h2, h3⟩
theorem Row1.stays {lo : Nat} {w w' : World} {t : TypeId} {v : Value} {cs : List Value} (h : Row1 lo w t v cs) (hs : Stays w w') (h1 : t ≠ 76) (h2 : t ≠ 85) (h3 : t ≠ 21) (h4 : t ≠ 9) : Row1 lo w' t v cs := ⟨h.1, hs.row h1 h2 h3 h4 h.2⟩
theorem Row1.on {lo : Nat} {w w' : World} {t : TypeId} {v : Value} {cs : List Value} (h : Row1 lo w t v cs) (hb : Below w.heap.size w w') : Row1 lo w' t v cs := RowC.on h hb
theorem Row1.put {lo g n c : Nat} {w : World} {t : TypeId} {cs : List Value} (h : Row1 lo w t (.slice (some ⟨g, 0, none⟩) n c) cs) (i : Nat) (hi : i < cs.length) (u : Value) : Row1 lo (w.setCell ⟨g, i, none⟩ u) t (.slice (some ⟨g, 0, none⟩) n c) (cs.set i u) := by
  have h1 := RowC.put14 h i [cs[i]] (by simp [hi]) 0 (by decide) u
  rw [Nat.mul_one, Nat.add_zero] at h1
  unfold Row1
  rw [List.map_set]
  exact h1
theorem Row1.frozen {lo g n c : Nat} {w : World} {t : TypeId} {cs : List Value} (h : Row1 lo w t (.slice (some ⟨g, 0, none⟩) n c) cs) (i : Nat) : w.frozen? ⟨g, i, none⟩ = false := by
  rcases h.2.2 with ⟨e, _⟩ | ⟨a, cap, cur, e, hg, hh, _⟩
  · cases e
  · simp only [Value.slice.injEq, Option.some.injEq, Addr.mk.injEq] at e
    obtain ⟨⟨rfl, -⟩, -, -⟩ := e
    simp [World.frozen?, hh]
/-- append of one cell. -/
theorem app_row1 {P : Program} {ops : Array Oper} {rest : List Oper} {o : Oper} {act : Act} {Q : Exit → Act → World → Prop} (w : World) (hg : o.guard = none) (s y : Operand) (st t : TypeId)
    (hop : o.op = .call { callee := .builtin .append, args := #[s, y], argTypes := #[st, st] }) (hu : P.underlying st = some (.slice t)) (z : Value) (sz : Nat) (hi : (P.info? t).map (fun i => (i.zero, i.size, i.bytes)) = some (some z, 1, sz)) (hz : z.cells.size = 1) (lo : Nat) (v : Value) (cs : List Value) (u : Value) (hs : act.eval s = v) (hy : act.eval y = .slice (some ⟨w.heap.size, 0, none⟩) 1 1)
    (hown : Row1 lo w t v cs) (h1 : u.oneCell' = true) (hlo : lo ≤ w.heap.size) (hb : (cs.length + 1) * sz ≤ 140737488355328) (hl : cs.length ≤ 1000000)
    (K : ∀ v' w', Row1 lo w' t v' (cs ++ [u]) → Kept (ownB v) w w' → Grows w (ownB v) (ownB v') → wpList P ops Q rest (act.put o.dst v') w') : wpList P ops Q (o :: rest) act (w.alloc (.cells #[u] t)) := by
  refine app_c (cs := [u]) w hg s y st hop hu z sz hi hz (by decide) hs hy hown rfl (by simpa using h1) hlo (by rw [List.length_map]; exact hb) (by rw [List.length_map]; omega) ?_
  intro v' w' r1 r2 r3
  exact K v' w' (by unfold Row1; rw [List.map_append]; exact r1) r2 r3

/-- An op's letters. -/
structure OpQ where
  kind : Nat
  owner : Nat
  pin : Int
  ql : QryL
  n : Nat
  page : Nat
  ha : Option Addr
  hn : Nat
  hc : Nat
  tell : Bool
  ahead : Nat
def OpQ.cells (o : OpQ) : List Value := [.int .u8 (o.kind : Int), .int .u8 (o.owner : Int), .int .i64 o.pin, o.ql.v, o.ql.f0, o.ql.f1, o.ql.f2, .int .u32 (o.n : Int), .int .u32 (o.page : Int), .slice o.ha o.hn o.hc, .bool o.tell, .int .u32 (o.ahead : Int)]
def shFlt14 : Sh := st [shTags, shTags, shTags]
def shOp14 : Sh := st [.int .u8, .int .u8, .int .i64, shVec, shFlt14, .int .u32, .int .u32, shHits, .bool, .int .u32]
def shOps14 : Sh := .slice shOp14 152
set_option maxRecDepth 100000 in
theorem fit_ops14 : (shOps14.fit Try.prog).1 23 = true := by kernel_rfl
theorem Given.ops14 {H : Type} {enc : TypeId × Value → H} {W : World} {base : Nat} {ts : Array TypeId} {args : Array Value} {ds : List (DataW H)} {p : List MemPlace} (g : Given enc Try.prog W base ts args ds p) (j : Nat) (ht : ts[j]? = some 23) :
    ∃ (a : Option Addr) (n c : Nat) (xs : List shOp14.T), args[j]? = some (.slice a n c) ∧ n ≤ 140737488351232 ∧ Rd (· < W.heap.size) W shOps14 [.slice a n c] xs := by
  obtain ⟨v, x, e1, hx⟩ := g.sh1 j ht shOps14 fit_ops14 (.inl ⟨_, Try.underlying23⟩)
  obtain ⟨a, n, c, hcs, _, hn, h⟩ := Rd.slice_is (e := shOp14) hx
  simp only [List.cons.injEq, and_true] at hcs
  subst hcs
  exact ⟨a, n, c, x, e1, hn, h.mono fun _ _ hk => hk⟩
theorem u8_of14 {ok : Nat → Prop} {w : World} {cs : List Value} {x : Int} (h : Rd ok w (.int .u8) cs x) : ∃ n : Nat, cs = [.int .u8 (n : Int)] ∧ n ≤ 255 := by
  obtain ⟨h1, hw⟩ := Rd.int_part h
  have := u8_wf hw
  obtain ⟨n, rfl⟩ := Int.eq_ofNat_of_zero_le (a := x) (by omega)
  exact ⟨n, h1, by omega⟩
theorem u32_of14 {ok : Nat → Prop} {w : World} {cs : List Value} {x : Int} (h : Rd ok w (.int .u32) cs x) : ∃ n : Nat, cs = [.int .u32 (n : Int)] ∧ n < 4294967296 := by
  obtain ⟨h1, hw⟩ := Rd.int_part h
  have := u32_wf hw
  obtain ⟨n, rfl⟩ := Int.eq_ofNat_of_zero_le (a := x) (by omega)
  exact ⟨n, h1, by omega⟩
theorem slice_of14 {ok : Nat → Prop} {w : World} {e : Sh} {sz : Nat} {cs : List Value} {xs : List e.T} (h : Rd ok w (.slice e sz) cs xs) : ∃ p : Option Addr × Nat × Nat, cs = [.slice p.1 p.2.1 p.2.2] := by
  obtain ⟨a, n, c, h0, _⟩ := Rd.slice_part (e := e) (xs := xs) h
  exact ⟨(a, n, c), h0⟩
/-- What is read of an op in a list, in whatever world that keeps what lay below. -/
theorem rd_op14 {w : World} {a : Option Addr} {n c : Nat} {xs : List shOp14.T} (h : Rd (· < w.heap.size) w shOps14 [.slice a n c] xs) (i : Nat) (hi : i < n) :
    ∃ (b off : Nat) (o : OpQ) (l : List (Int × Int)), a = some ⟨b, off, none⟩ ∧ b < w.heap.size ∧ o.kind ≤ 255 ∧ o.owner ≤ 255 ∧ o.n < 4294967296 ∧ o.page < 4294967296 ∧ o.ahead < 4294967296 ∧ (Lit.int .i64 o.pin).wf = true ∧ (o.hn ≠ 0 → ∀ b off, o.ha = some ⟨b, off, none⟩ → b < w.heap.size) ∧ Hid (∀ wr, Below w.heap.size w wr → b < wr.heap.size ∧ o.ql.In (· < w.heap.size) wr ∧ HitsQ wr o.ha o.hn l ∧ ∀ j v, o.cells[j]? = some v → wr.cell? ⟨b, off + i * 12 + j, none⟩ = some v) := by
  obtain ⟨b, off, x, vs, ha, hok, hlt, hx, hl, hc, hr⟩ := Rd.elem (e := shOp14) h i hi
  obtain ⟨k, ow, pn, vec, ⟨f0, f1, f2, uf⟩, nn, pg, hs, tl, ah, u1⟩ := x
  obtain ⟨c1, c2, rfl, h1, h2⟩ := Rd.pair_is hr
  obtain ⟨c3, c4, rfl, h3, h4⟩ := Rd.pair_is h2
  obtain ⟨c5, c6, rfl, h5, h6⟩ := Rd.pair_is h4
  obtain ⟨c7, c8, rfl, h7, h8⟩ := Rd.pair_is h6
  obtain ⟨c9, c10, rfl, h9, h10⟩ := Rd.pair_is h8
  obtain ⟨c11, c12, rfl, h11, h12⟩ := Rd.pair_is h10
  obtain ⟨c13, c14, rfl, h13, h14⟩ := Rd.pair_is h12
  obtain ⟨c15, c16, rfl, h15, h16⟩ := Rd.pair_is h14
  obtain ⟨c17, c18, rfl, h17, h18⟩ := Rd.pair_is h16
  obtain ⟨c19, c20, rfl, h19, h20⟩ := Rd.pair_is h18
  obtain rfl := Rd.unit_is h20
  obtain ⟨d1, d2, rfl, g1, g2⟩ := Rd.pair_is h9
  obtain ⟨d3, d4, rfl, g3, g4⟩ := Rd.pair_is g2
  obtain ⟨d5, d6, rfl, g5, g6⟩ := Rd.pair_is g4
  obtain rfl := Rd.unit_is g6
  obtain ⟨kk, rfl, hk⟩ := u8_of14 (x := k) h1
  obtain ⟨oo, rfl, ho⟩ := u8_of14 (x := ow) h3
  obtain ⟨rfl, hpw⟩ := Rd.int_part (x := pn) h5
  obtain ⟨pv, rfl⟩ := slice_of14 (e := .int .i32) (xs := vec) h7
  obtain ⟨p0, rfl⟩ := slice_of14 (e := .str) (xs := f0) g1
  obtain ⟨p1, rfl⟩ := slice_of14 (e := .str) (xs := f1) g3
  obtain ⟨p2, rfl⟩ := slice_of14 (e := .str) (xs := f2) g5
  obtain ⟨n2, rfl, hn⟩ := u32_of14 (x := nn) h11
  obtain ⟨q2, rfl, hp⟩ := u32_of14 (x := pg) h13
  obtain ⟨ph, rfl⟩ := slice_of14 (e := shHit) (xs := hs) h15
  obtain ⟨a2, rfl, hah⟩ := u32_of14 (x := ah) h19
  obtain rfl := Rd.bool_is (x := tl) h17
  obtain ⟨r1, r2⟩ := hitsQ_of (xs := hs) h15
  refine ⟨b, off, ⟨kk, oo, pn, ⟨pv, p0, p1, p2, ⟨vec, f0, f1, f2⟩⟩, n2, q2, ph.1, ph.2.1, ph.2.2, tl, a2⟩, pairsQ hs, ha, hlt, hk, ho, hn, hp, hah, hpw, r2, fun wr hw => ⟨Nat.lt_of_lt_of_le hlt hw.size, ⟨h7.under hw, g1.under hw, g3.under hw, g5.under hw⟩, r1.on hw, fun j v hj => ?_⟩⟩
  have hj6 : j < 12 := (List.getElem?_eq_some_iff.1 hj).1
  exact (hw.cell (p := ⟨b, _, none⟩) hlt).trans ((hc j hj6).trans hj)
end Go.Proofs.Ytadkfedglkhgjaa
