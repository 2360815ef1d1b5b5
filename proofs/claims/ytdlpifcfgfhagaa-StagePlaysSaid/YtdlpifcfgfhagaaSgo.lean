/-
  The document's table of uploads (layer 13): as it lies; At, Bytes, cut, by walks over their texts.
-/
import Derived.Test.YtdlpifcfgfhagaaSgb
import Derived.Test.YtdlpifcfgfhagaaEm
import Derived.Test.YtdlpifcfgfhagaaVp
import Derived.Deep.RegionLaw
import Derived.Deep.DeepMust
import Derived.Handy
import Derived.IntWalk
namespace Go.Proofs.Ytdlpifcfgfhagaa
open Go.RowKit Go.ChangeShapes Go.WideShapes Go.ChangeAt

theorem flatten_set (k : Nat) : ∀ (css : List (List Value)) (_ : ∀ cs ∈ css, cs.length = k) (i : Nat) (cs : List Value) (_ : css[i]? = some cs) (j : Nat) (_ : j < k) (u : Value), (css.set i (cs.set j u)).flatten = css.flatten.set (i * k + j) u
  | [], _, i, cs, hi, _, _, _ => by simp at hi
  | c :: css, hk, 0, cs, hi, j, hj, u => by
    simp only [List.getElem?_cons_zero, Option.some.injEq] at hi
    subst hi
    have hc := hk c (by simp)
    simp only [List.set_cons_zero, List.flatten_cons, Nat.zero_mul, Nat.zero_add]
    rw [List.set_append_left _ _ (by omega)]
  | c :: css, hk, i + 1, cs, hi, j, hj, u => by
    have hc := hk c (by simp)
    have h := flatten_set k css (fun x hx => hk x (by simp [hx])) i cs (by simpa using hi) j hj u
    simp only [List.set_cons_succ, List.flatten_cons]
    rw [h, List.set_append_right _ _ (by rw [hc, Nat.add_mul]; omega), hc]
    congr 2
    rw [Nat.add_mul]
    omega
theorem RowC.put {lo k g n c : Nat} {w : World} {t : TypeId} {css : List (List Value)} (h : RowC lo w t k (.slice (some ⟨g, 0, none⟩) n c) css) (i : Nat) (cs : List Value) (hi : css[i]? = some cs) (j : Nat) (hj : j < k) (u : Value) :
    RowC lo (w.setCell ⟨g, i * k + j, none⟩ u) t k (.slice (some ⟨g, 0, none⟩) n c) (css.set i (cs.set j u)) := by
  have hn : n = css.length := by
    obtain ⟨_, _, e, _⟩ := h.form
    simp only [Value.slice.injEq] at e
    exact e.2.1
  refine ⟨fun x hx => ?_, ?_⟩
  · rcases List.mem_or_eq_of_mem_set hx with hx | hx
    · exact h.1 x hx
    · rw [hx, List.length_set]
      exact h.1 cs (List.mem_of_getElem? hi)
  · rw [flatten_set k css h.1 i cs hi j hj u, List.length_set, ← hn]
    have h2 := h.2
    rw [← hn] at h2
    exact (h2.stored (i * k + j) u).1
theorem erase_next13 {α : Type} {l : List α} {i k : Nat} {x : α} (h : l[i]? = some x) : (l.take (i + 1)).eraseIdx k = if i = k then (l.take i).eraseIdx k else (l.take i).eraseIdx k ++ [x] := by
  have hi := (List.getElem?_eq_some_iff.1 h).1
  have ht : (l.take i).length = i := by rw [List.length_take]; omega
  rw [List.take_add_one, h, show (some x).toList = [x] from rfl]
  by_cases hk : i = k
  · subst hk
    rw [if_pos rfl, List.eraseIdx_append_of_length_le (by omega), List.eraseIdx_of_length_le (l := l.take i) (by omega), ht, Nat.sub_self]
    simp
  · rw [if_neg hk]
    by_cases h2 : k < i
    · rw [List.eraseIdx_append_of_lt_length (by omega)]
    · rw [List.eraseIdx_append_of_length_le (by omega), List.eraseIdx_of_length_le (l := l.take i) (by omega), ht, List.eraseIdx_of_length_le (by simp; omega)]
theorem rowC_not_blk13 {lo k g : Nat} {w : World} {t t' : TypeId} {u : Value} {css : List (List Value)} {cs : List Value} (h : RowC lo w t k u css) (h' : Blk w g t' cs) (ht : t ≠ t') : ∀ b, u.ownBlock = some b → b ∉ [g] := by
  intro b hb hm
  rw [List.mem_singleton] at hm
  subst hm
  rcases h.2.2 with ⟨rfl, _⟩ | ⟨a, cap, cur, rfl, _, hh, _⟩
  · cases hb
  cases hb
  unfold Blk at h'
  rw [hh] at h'
  simp only [Option.some.injEq, Obj.cells.injEq] at h'
  exact ht h'.2.1
theorem rowC_weak13 {lo lo' k : Nat} {w : World} {t : TypeId} {u : Value} {css : List (List Value)} (h : RowC lo' w t k u css) (hl : lo ≤ lo') : RowC lo w t k u css := by
  refine ⟨h.1, h.2.1, ?_⟩
  rcases h.2.2 with h0 | ⟨a, cap, cur, e, hg, hr⟩
  · exact .inl h0
  · exact .inr ⟨a, cap, cur, e, Nat.le_trans hl hg, hr⟩

/-- An upload of the document's, as it lies: the slice of its bytes. -/
structure UpR where
  v : Value
  u : UpV
def UpR.cells (t : UpR) : List Value := [.int .u32 (t.u.n : Int), .int .u64 (t.u.owner : Int), .string t.u.name, t.v, .int .i64 (t.u.page : Int)]
structure UpR.Ok (w : World) (lo : Nat) (t : UpR) : Prop where
  row : OwnV w lo 5 t.v t.u.b
  n32 : t.u.n < 4294967296
  o64 : t.u.owner < 18446744073709551616
  p32 : t.u.page ≤ 1000000
  most : t.u.b.length ≤ 4096
structure DTab (w : World) (lo g : Nat) (v : Value) (R : List UpR) (last : Nat) : Prop where
  blk : Blk w g 30 [v, .int .u32 (last : Int)]
  glo : lo ≤ g
  row : RowC lo w 42 5 v (R.map UpR.cells)
  each : ∀ t ∈ R, t.Ok w lo
  few : R.length ≤ 4
  l32 : last < 4294967296
def fpR (v : Value) (g : Nat) (R : List UpR) : List Nat := g :: (ownB v ++ R.flatMap fun t => ownB t.v)
theorem mem_fpR {v : Value} {g b : Nat} {R : List UpR} : b ∈ fpR v g R ↔ b = g ∨ v.ownBlock = some b ∨ ∃ t ∈ R, t.v.ownBlock = some b := by
  simp [fpR, mem_ownB]
section
variable {w w' : World} {lo g last : Nat} {v : Value} {R : List UpR} {G : List Nat}
theorem UpR.Ok.kept {t : UpR} (h : t.Ok w lo) (hk : Kept G w w') (hG : ∀ b, t.v.ownBlock = some b → b ∉ G) : t.Ok w' lo := ⟨h.row.kept hk hG, h.n32, h.o64, h.p32, h.most⟩
theorem DTab.kept (h : DTab w lo g v R last) (hk : Kept G w w') (hG : ∀ b ∈ fpR v g R, b ∉ G) : DTab w' lo g v R last :=
  ⟨hk.blk h.blk (hG g (mem_fpR.2 (.inl rfl))), h.glo, h.row.kept hk fun b e => hG b (mem_fpR.2 (.inr (.inl e))), fun t ht => (h.each t ht).kept hk fun b e => hG b (mem_fpR.2 (.inr (.inr ⟨t, ht, e⟩))), h.few, h.l32⟩
theorem DTab.on (h : DTab w lo g v R last) (hb : Below w.heap.size w w') : DTab w' lo g v R last := h.kept (G := []) (Kept.of_below hb (Nat.le_refl _)) (by simp)
theorem DTab.lt (h : DTab w lo g v R last) : ∀ b ∈ fpR v g R, lo ≤ b ∧ b < w.heap.size := by
  intro b hb
  rcases mem_fpR.1 hb with rfl | hb | ⟨t, ht, hb⟩
  · exact ⟨h.glo, h.blk.lt⟩
  · exact h.row.lt b hb
  · exact (h.each t ht).row.lt b hb
theorem DTab.form (h : DTab w lo g v R last) : ∃ a c, v = .slice a R.length c ∧ R.length ≤ c := by
  obtain ⟨a, c, e, hc⟩ := h.row.form
  rw [List.length_map] at e hc
  exact ⟨a, c, e, hc⟩
theorem DTab.up (h : DTab w lo g v R last) (i : Nat) (hi : i < R.length) : ∃ (t : UpR) (gr c : Nat), R[i]? = some t ∧ v = .slice (some ⟨gr, 0, none⟩) R.length c ∧ lo ≤ gr ∧ gr < w.heap.size ∧ w.rangeAt gr (i * 5) t.cells ∧ t ∈ R := by
  obtain ⟨gr, c, h1, h2, h3, h4⟩ := h.row.at i R[i].cells (by simp [hi])
  rw [List.length_map] at h1
  exact ⟨R[i], gr, c, by simp [hi], h1, h2, h3, h4, List.getElem_mem hi⟩
/-- A block of bytes isn't the table's, nor its row's. -/
theorem DTab.bytes_not (h : DTab w lo g v R last) {u : Value} {bs : List Nat} (hu : OwnV w lo 5 u bs) : ∀ b, u.ownBlock = some b → b ≠ g ∧ v.ownBlock ≠ some b := by
  intro b hb
  obtain ⟨cs, hc⟩ : ∃ cs, Blk w b 5 cs := by
    rcases hu.form with ⟨rfl, _⟩ | ⟨g, cap, rest, rfl, _, hb', _⟩
    · cases hb
    · cases hb
      exact ⟨_, hb'⟩
  refine ⟨fun e => ?_, fun e => ?_⟩
  · subst e
    exact h.blk.ne hc (by decide) rfl
  · have := rowC_not_blk13 h.row hc (by decide) b e
    simp at this
end
theorem at_cells {w : World} {gr i : Nat} {t : UpR} (h : w.rangeAt gr (i * 5) t.cells) : w.cell? ⟨gr, i * 5, none⟩ = some (.int .u32 (t.u.n : Int)) ∧ w.cell? ⟨gr, i * 5 + 1, none⟩ = some (.int .u64 (t.u.owner : Int)) ∧ w.cell? ⟨gr, i * 5 + 2, none⟩ = some (.string t.u.name) ∧ w.cell? ⟨gr, i * 5 + 3, none⟩ = some t.v ∧ w.cell? ⟨gr, i * 5 + 4, none⟩ = some (.int .i64 (t.u.page : Int)) :=
  ⟨h 0 _ rfl, h 1 _ rfl, h 2 _ rfl, h 3 _ rfl, h 4 _ rfl⟩

/-- None of them is that owner's, of that number. -/
def NoUp (R : List UpR) (owner n : Nat) : Prop := ∀ t ∈ R, ¬ (t.u.n = n ∧ t.u.owner = owner)
set_option maxRecDepth 100000 in
set_option maxHeartbeats 3200000 in
theorem dat_any (w : World) (lo g last : Nat) (v : Value) (R : List UpR) (h : DTab w lo g v R last) (owner n : Nat) :
    Calls Try.prog 12 #[.pointer (some ⟨g, 0, none⟩), .int .u64 (owner : Int), .int .u32 (n : Int)] w fun e w' =>
      ((∃ (i : Nat) (t : UpR), R[i]? = some t ∧ t ∈ R ∧ t.u.n = n ∧ t.u.owner = owner ∧ e = .returned (.int .i64 (i : Int))) ∨ (NoUp R owner n ∧ e = .returned (.int .i64 (-1)))) ∧ w = w' := by
  have HP := Lib.hid h
  obtain ⟨va, vc, rfl, hvc⟩ := h.form
  obtain ⟨m, hm⟩ : ∃ m, R.length = m := ⟨_, rfl⟩
  have hm4 := h.few
  have c0 : w.cell? ⟨g, 0, none⟩ = some (.slice va m vc) := by rw [← hm]; exact h.blk.cell 0
  rw [hm] at hvc hm4
  have HM := Lib.hid hm
  clear h hm
  go_enter Try.func12, Try.ntmps12
  go_wp2
  go_loop [7] (fun s7 => ∃ i : Nat, s7 = .int .i64 (i : Int) ∧ i ≤ m ∧ Hid (∀ t ∈ R.take i, ¬ (t.u.n = n ∧ t.u.owner = owner))) (fun s7 => m - (intOf s7).toNat)
  case atStart => exact ⟨0, rfl, Nat.zero_le _, Lib.hid (by simp)⟩
  case round =>
    obtain ⟨i, rfl, hi, HN⟩ := hrel
    by_cases hc : i < m
    · obtain ⟨t, gr, cx, ht, e, _, hlt, hrg, htm⟩ := HP.out.up i (by rw [HM.out]; exact hc)
      simp only [Value.slice.injEq] at e
      obtain ⟨rfl, _, rfl⟩ := e
      obtain ⟨q0, q1, -, -, -⟩ := at_cells hrg
      obtain ⟨tn, htn⟩ : ∃ tn, t.u.n = tn := ⟨_, rfl⟩
      obtain ⟨tw, htw⟩ : ∃ tw, t.u.owner = tw := ⟨_, rfl⟩
      rw [htn] at q0
      rw [htw] at q1
      have HT := Lib.hid (And.intro ht (And.intro htm (And.intro htn htw)))
      clear hrg ht htm htn htw
      by_cases h1 : tn = n
      · subst h1
        by_cases h2 : tw = owner
        · subst h2
          go_wp2
          go_ret
          exact ⟨.inl ⟨i, t, HT.out.1, HT.out.2.1, HT.out.2.2.1, HT.out.2.2.2, rfl⟩, rfl⟩
        · have hb2 : ((tw : Int) == (owner : Int)) = false := by rw [beq_eq_false_iff_ne]; omega
          have H2 := Lib.hid h2
          clear h2
          go_wp2
          go_round
          case rel => exact ⟨i + 1, by go_num, by omega, Lib.hid (fun s hs => by
            rw [List.take_add_one, HT.out.1] at hs
            rcases List.mem_append.1 hs with hs | hs
            · exact HN.out s hs
            · rw [show (some t).toList = [t] from rfl, List.mem_singleton] at hs
              rw [hs, HT.out.2.2.2]
              exact fun hh => H2.out hh.2)⟩
          case measure => simp [intOf]; omega
      · have hb1 : ((tn : Int) == (n : Int)) = false := by rw [beq_eq_false_iff_ne]; omega
        have H1 := Lib.hid h1
        clear h1
        go_wp2
        go_round
        case rel => exact ⟨i + 1, by go_num, by omega, Lib.hid (fun s hs => by
          rw [List.take_add_one, HT.out.1] at hs
          rcases List.mem_append.1 hs with hs | hs
          · exact HN.out s hs
          · rw [show (some t).toList = [t] from rfl, List.mem_singleton] at hs
            rw [hs, HT.out.2.2.1]
            exact fun hh => H1.out hh.1)⟩
        case measure => simp [intOf]; omega
    · have HA := Lib.hid (show NoUp R owner n from by
        have h1 := HN.out
        rw [List.take_of_length_le (by rw [HM.out]; omega)] at h1
        exact h1)
      go_wp2
      go_ret
      exact ⟨.inr ⟨HA.out, rfl⟩, rfl⟩
end Go.Proofs.Ytdlpifcfgfhagaa
