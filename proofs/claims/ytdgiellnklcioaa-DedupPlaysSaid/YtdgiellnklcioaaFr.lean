/-
  How a statement's row follows from a contract of its function, over whatever program: the arguments read behind the call as before, since nothing that was there has turned.
-/
import Derived.Test.YtdgiellnklcioaaSl
import Derived.ProofKit
import Derived.OpenShut
import Derived.ShutString
import Derived.ChangeOld
import Derived.Below
import Derived.SizedLaws
namespace Go.Proofs.Ytdgiellnklcioaa
open Go.ChangeShapes Go.WideShapes Go.ChangeAt Go.RowKit

theorem below_all {H : Type} {enc : TypeId × Value → H} {P : Program} (hl : laidOutB P = true) {W W' : World} (hb : Below W.heap.size W W') :
    ∀ {ts : List TypeId} {vs : List Value} {ds : List (DataW H)} {ps : List MemPlace}, (∀ t ∈ ts, P.readableRec t = true ∧ t < P.types.size) → (∀ x ∈ ps, x.block < W.heap.size) →
      DataW.TrodAll enc P W 0 (fun _ => true) true ts vs ds ps → DataW.TrodAll enc P W' 0 (fun b => decide (b < W.heap.size)) true ts vs ds ps := by
  intro ts
  induction ts with
  | nil =>
    intro vs ds ps _ _ h
    cases vs <;> cases ds <;> simp [DataW.TrodAll] at h ⊢
    exact h
  | cons t ts ih =>
    intro vs ds ps ht hlt h
    obtain ⟨v, vs', d, ds', p, q, rfl, rfl, rfl, h0, r0⟩ := trodAll_cons h
    have t0 := ht t (by simp)
    exact trodAll_cons_mk (Below.trod hl t0.1 t0.2 h0 hb (fun x hx => hlt x (by simp [hx]))) (ih (fun x hx => ht x (by simp [hx])) (fun x hx => hlt x (by simp [hx])) r0)

/-- What a contract is told of the arguments. -/
structure Given {H : Type} (enc : TypeId × Value → H) (P : Program) (W : World) (base : Nat) (ts : Array TypeId) (args : Array Value) (ds : List (DataW H)) (p : List MemPlace) : Prop where
  all : DataW.TrodAll enc P W 0 (fun _ => true) true ts.toList args.toList ds p
  ok : ∀ (j : Nat) t v, ts[j]? = some t → args[j]? = some v → Value.okWide P W .any base t v
  size : (DataW.weightsEach P ts.toList ds).all (· ≤ reachBytes) = true
  lt : ∀ x ∈ p, x.block < W.heap.size
  free : W.noneFrozen p

theorem lift {C : Checked} {f : FuncId} {fn : Func} {s : ChangeSpec} {conds : List PathCond} {bt : TypeId} (os : Os) (started : os.Started) (H : Type) (enc : TypeId × Value → H)
    (own : ownKnob C.prog.godebug = none) (noInit : C.prog.inits.idxOf? f = none) (hfn : C.prog.funcs[f]? = some fn) (laid : laidOutB C.prog = true)
    (hres : fn.resultTypes = #[bt]) (hbt : C.prog.underlying bt = some .bool) (hvars : s.vars = [])
    (hspec : ∀ ds : List (DataW H), ds.length = fn.params.size → s.fn H (ds ++ []) = { results := [.lit (.bool true)], args := ds })
    (hty : ∀ t ∈ fn.params.toList, C.prog.readableRec t = true ∧ t < C.prog.types.size)
    (witness : ∃ (w : World) (tape : Tape) (i : Input), w.os = os ∧ (w.forCall tape i).Shaped C.prog ∧ i.vars = [] ∧ Input.okWide C.prog (w.forCall tape i) .any w.heap.size f i ∧
      s.pre6 enc C.prog fn conds false (w.forCall tape i).memory i.args ∧ ({} : Assume).holds C.prog (lone (Frame.enter C.prog f i.args .normal) [] (w.forCall tape i)))
    (walk : ∀ (W : World) (base : Nat) (args : Array Value) (ds : List (DataW H)) (p : List MemPlace), Given enc C.prog W base fn.params args ds p →
      Calls C.prog f args W fun e W' => e = .returned (.bool true) ∧ Below W.heap.size W W') :
    ReturnsInHanded {} C os f .any (s.pre6 enc C.prog fn conds false) (s.post enc C.prog fn false true false false) := by
  refine returnsInHanded_of_change_sized (C := C) own started noInit hfn witness ?_
  intro W base args ds gs before hval hW _ hsz0 _
  have hW' := hW
  obtain ⟨p, q, hA, hV, rfl, hfz, _⟩ := hW
  rw [hvars] at hV
  obtain ⟨rfl, rfl⟩ := trodVars_none hV
  have hlen : ds.length = fn.params.size := by
    have : ∀ {ts : List TypeId} {vs : List Value} {ds : List (DataW H)} {ps : List MemPlace}, DataW.TrodAll enc C.prog W 0 (fun _ => true) true ts vs ds ps → ds.length = ts.length := by
      intro ts
      induction ts with
      | nil => intro vs ds ps h; cases vs <;> cases ds <;> simp [DataW.TrodAll] at h ⊢
      | cons t ts ih =>
        intro vs ds ps h
        obtain ⟨v, vs', d, ds', p, q, rfl, rfl, rfl, h0, r0⟩ := trodAll_cons h
        simp [ih r0]
    simpa using this hA
  have hlt : ∀ x ∈ p, x.block < W.heap.size := fun x hx => by simpa using hW'.lt x (by simp [hx])
  have hvt : s.plain.varTypes C.prog = [] := by
    have : s.plain.vars = [] := hvars
    simp [DataSpec.varTypes, this]
  have g : Given enc C.prog W base fn.params args ds p := ⟨hA, hval, by
    have := hsz0
    rw [hvt] at this
    simpa using this, hlt, fun b o hx => hfz b o (by simp [hx])⟩
  refine (walk W base args ds p g).mono fun e W' ⟨he, bel⟩ => ?_
  subst he
  refine ⟨_, rfl, _, _, _, [], p, [], hW', ?_, ?_, ?_, bel.frame _, fun h => by cases h⟩
  · rw [hspec ds hlen, hres]
    exact trodAll_mk1 (shut_bool hbt _)
  · rw [hspec ds hlen]
    exact below_all laid bel hty hlt hA
  · rw [hspec ds hlen, hvars]
    rfl

section
variable {H : Type} {enc : TypeId × Value → H} {P : Program} {W : World} {base : Nat} {ts : Array TypeId} {args : Array Value} {ds : List (DataW H)} {p : List MemPlace}

theorem trodAll_get {ts : List TypeId} {vs : List Value} {ds : List (DataW H)} {ps : List MemPlace} {j : Nat} {t : TypeId} (h : DataW.TrodAll enc P W 0 (fun _ => true) true ts vs ds ps) (ht : ts[j]? = some t) :
    ∃ v d q, vs[j]? = some v ∧ ds[j]? = some d ∧ DataW.Trod enc P W 0 (fun _ => true) true t v d q ∧ ∀ x ∈ q, x ∈ ps := by
  induction ts generalizing vs ds ps j with
  | nil => simp at ht
  | cons t0 ts ih =>
    obtain ⟨v, vs', d, ds', p, q, rfl, rfl, rfl, h0, r0⟩ := trodAll_cons h
    match j, ht with
    | 0, ht =>
      simp at ht
      subst ht
      exact ⟨v, d, p, rfl, rfl, h0, fun x hx => by simp [hx]⟩
    | j + 1, ht =>
      obtain ⟨v', d', q', e1, e2, e3, e4⟩ := ih r0 (by simpa using ht)
      exact ⟨v', d', q', by simpa using e1, by simpa using e2, e3, fun x hx => by simp [e4 x hx]⟩

theorem trodAll_len {ts : List TypeId} {vs : List Value} {ds : List (DataW H)} {ps : List MemPlace} (h : DataW.TrodAll enc P W 0 (fun _ => true) true ts vs ds ps) : vs.length = ts.length := by
  induction ts generalizing vs ds ps with
  | nil => cases vs <;> cases ds <;> simp [DataW.TrodAll] at h ⊢
  | cons t ts ih =>
    obtain ⟨v, vs', d, ds', p, q, rfl, rfl, rfl, h0, r0⟩ := trodAll_cons h
    simp [ih r0]

theorem Given.at (g : Given enc P W base ts args ds p) (j : Nat) {t : TypeId} (ht : ts[j]? = some t) :
    ∃ v d q, args[j]? = some v ∧ ds[j]? = some d ∧ DataW.Trod enc P W 0 (fun _ => true) true t v d q ∧ (∀ x ∈ q, x ∈ p) ∧ Value.okWide P W .any base t v := by
  obtain ⟨v, d, q, e1, e2, e3, e4⟩ := trodAll_get g.all (j := j) (t := t) (by simpa using ht)
  exact ⟨v, d, q, by simpa using e1, e2, e3, e4, g.ok j t v ht (by simpa using e1)⟩

theorem Given.slice (g : Given enc P W base ts args ds p) (j : Nat) {t e : TypeId} {k : IntKind} (ht : ts[j]? = some t) (hu : P.underlying t = some (.slice e)) (he : P.underlying e = some (.int k))
    (hc : P.cellsOf e = 1) (hb : P.bytesOf e = kbytes k) : ∃ a n cap xs, args[j]? = some (.slice a n cap) ∧ Reads k W a n xs ∧ (a = none → n = 0 ∧ cap = 0) := by
  obtain ⟨v, d, q, e1, e2, h0, hq, hok⟩ := g.at j ht
  obtain ⟨a, n, cap, rfl⟩ := okWide_slice hu hok
  obtain ⟨fuel, hf⟩ := h0
  rcases open_ints hu he hc hf with ⟨hcs, _⟩ | ⟨x, l, c, zs, hcs, _, hl, hm, hz, hx, hcell, hwz⟩
  · simp [Value.cells] at hcs
    obtain ⟨rfl, rfl, rfl⟩ := hcs
    exact ⟨_, _, _, [], e1, ⟨rfl, by omega, by omega, by simp, .inl rfl⟩, fun _ => ⟨rfl, rfl⟩⟩
  · simp [Value.cells] at hcs
    obtain ⟨rfl, rfl, rfl⟩ := hcs
    simp only [Prod.mk.injEq] at hx
    obtain ⟨rfl, rfl⟩ := hx
    simp only [if_true] at hz
    have hs := sized_slice g.size (j := j) (t := t) (e := e) (by simpa using ht) e2 hu
    rw [hb] at hs
    simp only [lits, List.length_map, List.length_take, List.length_drop, reachBytes] at hs
    have hn : n * kbytes k ≤ 140737488351232 := Nat.le_trans (Nat.mul_le_mul_right _ (by omega)) hs
    have hn' : n ≤ 140737488351232 := by
      have : 1 ≤ kbytes k := by cases k <;> simp [kbytes]
      have := Nat.mul_le_mul_left n this
      omega
    refine ⟨_, _, _, zs.take n, e1, ⟨by simp; omega, hn', hn, fun x hx => hwz x (List.mem_of_mem_take hx), ?_⟩, fun h => by cases h⟩
    by_cases h0 : n = 0
    · exact .inl h0
    · right
      obtain ⟨b, off, spot⟩ := x
      have hspot : spot = none := by simpa [Addr.add] using World.cell?_spot (hcell 0 (by omega))
      subst hspot
      refine ⟨b, off, rfl, g.lt (.cell b off) (hq _ (MemPlace.mem_row.2 ⟨0, by omega, by simp⟩)), fun i hi => ?_⟩
      rw [← add_plain, hcell i (by omega)]
      simp [List.getD, hi]

theorem Given.int (g : Given enc P W base ts args ds p) (j : Nat) {t : TypeId} {k : IntKind} (ht : ts[j]? = some t) (hu : P.underlying t = some (.int k)) :
    ∃ x, args[j]? = some (.int k x) ∧ (Lit.int k x).wf = true := by
  obtain ⟨v, d, q, e1, e2, h0, hq, hok⟩ := g.at j ht
  obtain ⟨x, rfl, rfl, rfl, w0⟩ := open_int hu hok h0
  exact ⟨x, e1, w0⟩

theorem Given.bool (g : Given enc P W base ts args ds p) (j : Nat) {t : TypeId} (ht : ts[j]? = some t) (hu : P.underlying t = some .bool) :
    ∃ x, args[j]? = some (.bool x) := by
  obtain ⟨v, d, q, e1, e2, h0, hq, hok⟩ := g.at j ht
  obtain ⟨x, rfl, rfl, rfl⟩ := open_bool hu hok h0
  exact ⟨x, e1⟩

theorem Given.count (g : Given enc P W base ts args ds p) : args.size = ts.size := by
  simpa using trodAll_len g.all
end

theorem args1 {args : Array Value} {a : Value} (h : args.size = 1) (h0 : args[0]? = some a) : args = #[a] := by
  apply Array.ext (by simpa using h)
  intro i h1 h2
  have : i = 0 := by simp at h2; omega
  subst this
  simpa using (Array.getElem?_eq_some_iff.1 h0).2
theorem args2 {args : Array Value} {a b : Value} (h : args.size = 2) (h0 : args[0]? = some a) (h1 : args[1]? = some b) : args = #[a, b] := by
  apply Array.ext (by simpa using h)
  intro i g1 g2
  have : i = 0 ∨ i = 1 := by simp at g2; omega
  rcases this with rfl | rfl
  · simpa using (Array.getElem?_eq_some_iff.1 h0).2
  · simpa using (Array.getElem?_eq_some_iff.1 h1).2
theorem args3 {args : Array Value} {a b c : Value} (h : args.size = 3) (h0 : args[0]? = some a) (h1 : args[1]? = some b) (h2 : args[2]? = some c) : args = #[a, b, c] := by
  apply Array.ext (by simpa using h)
  intro i g1 g2
  have : i = 0 ∨ i = 1 ∨ i = 2 := by simp at g2; omega
  rcases this with rfl | rfl | rfl
  · simpa using (Array.getElem?_eq_some_iff.1 h0).2
  · simpa using (Array.getElem?_eq_some_iff.1 h1).2
  · simpa using (Array.getElem?_eq_some_iff.1 h2).2
theorem args4 {args : Array Value} {a b c d : Value} (h : args.size = 4) (h0 : args[0]? = some a) (h1 : args[1]? = some b) (h2 : args[2]? = some c) (h3 : args[3]? = some d) : args = #[a, b, c, d] := by
  apply Array.ext (by simpa using h)
  intro i g1 g2
  have : i = 0 ∨ i = 1 ∨ i = 2 ∨ i = 3 := by simp at g2; omega
  rcases this with rfl | rfl | rfl | rfl
  · simpa using (Array.getElem?_eq_some_iff.1 h0).2
  · simpa using (Array.getElem?_eq_some_iff.1 h1).2
  · simpa using (Array.getElem?_eq_some_iff.1 h2).2
  · simpa using (Array.getElem?_eq_some_iff.1 h3).2
end Go.Proofs.Ytdgiellnklcioaa
