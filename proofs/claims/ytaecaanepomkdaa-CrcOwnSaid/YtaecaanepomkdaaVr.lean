/-
  Slices of slices of bytes that come in. No program stands here.
-/
import Derived.Test.YtaecaanepomkdaaVs
namespace Go.Proofs.Ytaecaanepomkdaa
open Go.RowKit Go.ChangeShapes Go.WideShapes Go.ChangeAt

/-- The slice value (a, n, c) reads in w as rows of bytes. -/
structure BRows (w : World) (a : Option Addr) (n c : Nat) (rows : List (List Nat)) : Prop where
  len : rows.length = n
  small : n ≤ 140737488351232
  nilOk : a = none → n = 0 ∧ c = 0
  room : n ≤ c
  cells : n = 0 ∨ ∃ b off, a = some ⟨b, off, none⟩ ∧ b < w.heap.size ∧ ∀ i, i < n → ∃ a' n' c', w.cell? ⟨b, off + i, none⟩ = some (.slice a' n' c') ∧ BReads w a' n' c' (rows.getD i [])

theorem BRows.on {w w' : World} {a : Option Addr} {n c : Nat} {rows : List (List Nat)} (h : BRows w a n c rows) (hb : Below w.heap.size w w') : BRows w' a n c rows := by
  refine ⟨h.len, h.small, h.nilOk, h.room, ?_⟩
  rcases h.cells with h4 | ⟨b, off, ha, hlt, hc⟩
  · exact .inl h4
  · refine .inr ⟨b, off, ha, Nat.lt_of_lt_of_le hlt hb.size, fun i hi => ?_⟩
    obtain ⟨a', n', c', h1, h2⟩ := hc i hi
    exact ⟨a', n', c', (hb.cell (p := ⟨b, off + i, none⟩) hlt).trans h1, h2.on hb⟩

section
variable {H : Type} {enc : TypeId × Value → H} {P : Program} {W : World} {base : Nat} {ts : Array TypeId} {args : Array Value} {ds : List (DataW H)} {p : List MemPlace}

theorem breads_of_trod {t e : TypeId} {fuel : Nat} {cs : List Value} {d : DataW H} {q : List MemPlace} (hu : P.underlying t = some (.slice e)) (he : P.underlying e = some (.int .u8)) (hc : P.cellsOf e = 1)
    (hf : DataW.trod enc P W 0 (fun _ => true) true fuel t cs = some (d, q)) (hq : ∀ x ∈ q, x.block < W.heap.size) (hs : ∀ xs ys, d = .slice xs ys → xs.length ≤ 140737488351232) :
    ∃ a n c bs, cs = [.slice a n c] ∧ BReads W a n c bs := by
  rcases open_ints hu he hc hf with ⟨rfl, _⟩ | ⟨x, l, c, zs, rfl, _, hl, hm, hz, hx, hcell, hwz⟩
  · exact ⟨none, 0, 0, [], rfl, BReads.nil W⟩
  · simp only [Prod.mk.injEq] at hx
    obtain ⟨rfl, rfl⟩ := hx
    simp only [if_true] at hz
    have hs' := hs _ _ rfl
    simp only [lits, List.length_map, List.length_take] at hs'
    have hw : ∀ y ∈ zs, 0 ≤ y ∧ y < 256 := fun y hy => by
      have := hwz y hy
      simp [Lit.wf, IntKind.min, IntKind.max, IntKind.signed, IntKind.bits] at this
      omega
    refine ⟨some x, l, c, (zs.take l).map Int.toNat, rfl, ⟨by simp; omega, by omega, ?_, (fun h => by cases h), hl, ?_⟩⟩
    · intro b hb
      obtain ⟨y, hy, rfl⟩ := List.mem_map.1 hb
      have := hw y (List.mem_of_mem_take hy)
      omega
    · by_cases h0 : l = 0
      · exact .inl h0
      · right
        obtain ⟨b, off, spot⟩ := x
        have hspot : spot = none := by simpa [Addr.add] using World.cell?_spot (hcell 0 (by omega))
        subst hspot
        refine ⟨b, off, rfl, hq (.cell b off) (MemPlace.mem_row.2 ⟨0, by omega, by simp⟩), fun i hi => ?_⟩
        have hil : i < zs.length := by omega
        have := hw zs[i] (List.getElem_mem hil)
        rw [← add_plain, hcell i hil]
        simp [byteAt, List.getD, hi, hil]
        omega

theorem weights_all {e : TypeId} : ∀ {l : List (DataW H)} {d : DataW H}, d ∈ l → ∀ n ∈ d.weights P e, n ∈ DataW.weightsAll P e l
  | d0 :: l, d, hd, n, hn => by
    simp only [DataW.weightsAll, List.mem_append]
    rcases List.mem_cons.1 hd with rfl | hd
    · exact .inl hn
    · exact .inr (weights_all hd n hn)

/-- A parameter that is a slice of slices of bytes. -/
theorem Given.rows (g : Given enc P W base ts args ds p) (j : Nat) {t r e : TypeId} (ht : ts[j]? = some t) (hu : P.underlying t = some (.slice r)) (hr : P.underlying r = some (.slice e)) (he : P.underlying e = some (.int .u8))
    (hcr : P.cellsOf r = 1) (hbr : P.bytesOf r = 24) (hc : P.cellsOf e = 1) (hb : P.bytesOf e = 1) :
    ∃ a n cap rows, args[j]? = some (.slice a n cap) ∧ BRows W a n cap rows := by
  obtain ⟨v, d, q, e1, e2, h0, hq, hok⟩ := g.at j ht
  obtain ⟨a, n, cap, rfl⟩ := okWide_slice hu hok
  obtain ⟨fuel, hf⟩ := h0
  rcases DataW.trod_slice hu hf with ⟨hcs, hd⟩ | ⟨x, len, c, elems, rest, m, _, hcs, hd, _, hl, hm, hlen, hel, _, _⟩
  · simp [Value.cells] at hcs
    obtain ⟨rfl, rfl, rfl⟩ := hcs
    exact ⟨none, 0, 0, [], e1, ⟨rfl, by decide, fun _ => ⟨rfl, rfl⟩, Nat.le_refl _, .inl rfl⟩⟩
  · simp [Value.cells] at hcs
    obtain ⟨rfl, rfl, rfl⟩ := hcs
    simp only [Prod.mk.injEq] at hd
    obtain ⟨rfl, rfl⟩ := hd
    rw [hcr] at hel
    have hsz := sized_slice g.size (j := j) (t := t) (e := r) (by simpa using ht) e2 hu
    rw [hbr] at hsz
    simp only [reachBytes, List.length_map] at hsz
    have each : ∀ i, i < n → ∃ a' n' c' bs, W.cell? (x.add i) = some (.slice a' n' c') ∧ BReads W a' n' c' bs := by
      intro i hi
      have h1 := hel i hi
      rw [Nat.mul_one] at h1
      obtain ⟨y, hy⟩ : ∃ y, elems[i]? = some y := ⟨_, List.getElem?_eq_getElem (by omega)⟩
      rw [hy, Option.bind_eq_some_iff] at h1
      obtain ⟨cs, hcs, hyt⟩ := h1
      have hmem : y ∈ elems := List.mem_of_getElem? hy
      obtain ⟨a', n', c', bs, rfl, hb'⟩ := breads_of_trod (d := y.1) (q := y.2) hr he hc hyt (fun z hz => g.lt z (hq z (by
        refine List.mem_append.2 (.inr ?_)
        exact List.mem_flatMap.2 ⟨y, by simp [hmem], hz⟩))) (fun xs ys hxy => by
          have hin : (xs.length + ys.length) * P.bytesOf e ∈ DataW.weights P t (.slice (elems.map (·.1)) (rest.map (·.1))) := by
            rw [DataW.weights, hu]
            refine List.mem_cons.2 (.inr (List.mem_append.2 (.inl ?_)))
            refine weights_all (d := y.1) (List.mem_map.2 ⟨y, hmem, rfl⟩) _ ?_
            rw [hxy, DataW.weights, hr]
            simp
          have := List.all_eq_true.1 g.size _ (DataW.weights_mem_each (j := j) (t := t) (by simpa using ht) e2 _ hin)
          rw [hb] at this
          replace this := of_decide_eq_true this
          simp only [reachBytes] at this
          omega)
      exact ⟨a', n', c', bs, cell_of_cells?_one hcs, hb'⟩
    obtain ⟨rows, hrl, hrows⟩ : ∃ rows : List (List Nat), rows.length = n ∧ ∀ i, i < n → ∃ a' n' c', W.cell? (x.add i) = some (.slice a' n' c') ∧ BReads W a' n' c' (rows.getD i []) := by
      have : ∀ k, k ≤ n → ∃ rows : List (List Nat), rows.length = k ∧ ∀ i, i < k → ∃ a' n' c', W.cell? (x.add i) = some (.slice a' n' c') ∧ BReads W a' n' c' (rows.getD i []) := by
        intro k
        induction k with
        | zero => exact fun _ => ⟨[], rfl, fun i hi => by omega⟩
        | succ k ih =>
          intro hk
          obtain ⟨rows, h1, h2⟩ := ih (by omega)
          obtain ⟨a', n', c', bs, h3, h4⟩ := each k (by omega)
          refine ⟨rows ++ [bs], by simp [h1], fun i hi => ?_⟩
          by_cases hik : i < k
          · obtain ⟨a2, n2, c2, h5, h6⟩ := h2 i hik
            refine ⟨a2, n2, c2, h5, ?_⟩
            have : (rows ++ [bs]).getD i [] = rows.getD i [] := by simp [List.getD, List.getElem?_append_left (show i < rows.length by omega)]
            rw [this]
            exact h6
          · have : i = k := by omega
            subst this
            refine ⟨a', n', c', h3, ?_⟩
            have : (rows ++ [bs]).getD i [] = bs := by simp [List.getD, ← h1]
            rw [this]
            exact h4
      exact this n (Nat.le_refl _)
    refine ⟨some x, n, cap, rows, e1, ⟨hrl, by omega, (fun h => by cases h), hl, ?_⟩⟩
    by_cases h0 : n = 0
    · exact .inl h0
    · right
      obtain ⟨b, off, spot⟩ := x
      have hspot : spot = none := by
        obtain ⟨_, _, _, hc0, _⟩ := hrows 0 (by omega)
        simpa [Addr.add] using World.cell?_spot hc0
      subst hspot
      refine ⟨b, off, rfl, g.lt (.cell b off) (hq _ (List.mem_append.2 (.inl (MemPlace.mem_row.2 ⟨0, by rw [hcr]; omega, by simp⟩)))), fun i hi => ?_⟩
      obtain ⟨a', n', c', h1, h2⟩ := hrows i hi
      rw [add_plain] at h1
      exact ⟨a', n', c', h1, h2⟩
end
end Go.Proofs.Ytaecaanepomkdaa
