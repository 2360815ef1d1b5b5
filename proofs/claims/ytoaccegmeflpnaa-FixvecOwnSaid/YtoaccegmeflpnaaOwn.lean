/-
  FixvecOwn holds: for every metric's number, any two vectors and every number of parts Check and Dist leave both vectors as they were.
-/
import Derived.Test.YtoaccegmeflpnaaSix
import Derived.OwnWalk
import Derived.Laws.AppendOwnNone
namespace Go.Proofs.Ytoaccegmeflpnaa
open Go.ChangeShapes Go.WideShapes Go.ChangeAt Go.RowKit

theorem int_info : (Try.prog.info? 21).map (fun i => (i.zero, i.size, i.bytes)) = some (some (.int .i32 0), 1, 4) := by kernel_rfl

/-- A row of integers that the call itself has made reads as a slice. -/
theorem Reads.owned {k : IntKind} {w : World} {base e n : Nat} {v : Value} {xs : List Int} (h : w.ownsRow base e 1 v n (xs.map (Value.int k))) (hs : n ≤ 140737488351232) (hb : n * kbytes k ≤ 140737488351232) (hw : ∀ x ∈ xs, (Lit.int k x).wf = true) :
    ∃ a cap, v = .slice a n cap ∧ Reads k w a n xs := by
  have hl : xs.length = n := by simpa using h.1
  rcases h.2 with ⟨rfl, rfl⟩ | ⟨g, cap, cur, rfl, hg, hh, hn, hcap, hsz, htake⟩
  · exact ⟨none, 0, rfl, hl, by omega, by omega, hw, .inl rfl⟩
  · refine ⟨_, cap, rfl, hl, hs, hb, hw, .inr ⟨g, 0, rfl, (Array.getElem?_eq_some_iff.1 hh).1, fun i hi => ?_⟩⟩
    have := h.cellAt i (by omega)
    rw [Nat.zero_add, this]
    simp [List.getD, hl, hi]

/-- append(v, a..), v a row of the call's own, a any slice of integers that reads. -/
theorem append_reads {ops : Array Oper} {rest : List Oper} {o : Oper} {act : Act} {Q : Exit → Act → World → Prop} (w : World) (hg : o.guard = none) (s x : Operand)
    (hop : o.op = .call { callee := .builtin .append, args := #[s, x], argTypes := #[22, 22] }) (base : Nat) (v : Value) (n0 : Nat) (zs : List Int) (hs : act.eval s = v)
    (hown : w.ownsRow base 21 1 v n0 (zs.map (Value.int .i32))) (a : Option Addr) (n cap : Nat) (xs : List Int) (hx : act.eval x = .slice a n cap) (h : Reads .i32 w a n xs) (hn : a = none → n = 0 ∧ cap = 0)
    (hb : (n0 + n) * 4 ≤ 140737488355328) (hbase : base ≤ w.heap.size)
    (K : ∀ v' w', w'.ownsRow base 21 1 v' (n0 + n) ((zs ++ xs).map (Value.int .i32)) → w.grownBy w' v.ownBlock → wpList Try.prog ops Q rest (act.put o.dst v') w') : wpList Try.prog ops Q (o :: rest) act w := by
  obtain ⟨i0, hi, hz0, hz1, hz2⟩ := info_parts int_info
  cases a with
  | none =>
    obtain ⟨rfl, rfl⟩ := hn rfl
    have hxs : xs = [] := List.eq_nil_of_length_eq_zero h.len
    subst hxs
    refine wpList_append_own_none hg s x 22 hop base 21 i0 1 Try.underlying22 hi v n0 _ hs hown hx ?_
    exact K v w (by simpa using hown) (World.grownBy.refl _ _)
  | some ad =>
    refine wpList_append_own _ hg s x 22 hop base 21 i0 (.int .i32 0) 1 4 Try.underlying22 hi hz0 hz1 hz2 rfl (by decide) v n0 _ hs hown ad n cap (xs.map (Value.int .i32)) hx (by simp [h.len]) ?_ ?_ ?_ hb hbase ?_
    · intro j u hu
      have hj : j < n := by
        have := (List.getElem?_eq_some_iff.1 hu).1
        simpa [h.len] using this
      rcases h.cells with h0 | ⟨b, off, e, _, hc⟩
      · omega
      · obtain rfl := Option.some.inj e
        have := hc j hj
        rw [show (Addr.add ⟨b, off, none⟩ j) = ⟨b, off + j, none⟩ from by simp [Addr.add], this, ← hu]
        simp [List.getD, h.len, hj]
    · intro u hu
      obtain ⟨y, _, rfl⟩ := List.mem_map.1 hu
      rfl
    · simp only [maxLen]; omega
    · intro v' w' h1 h2 _
      exact K v' w' (by simpa using h1) h2

theorem dist_two (m : Int) (a c : Option Addr) (n n' cap1 cap2 : Nat) (xs ys : List Int) (o : Option Int) (w : World) (hm0 : 0 ≤ m) (hm1 : m < 256) (h : Reads .i32 w a n xs) (h' : Reads .i32 w c n' ys)
    (hd : distV m n n' xs ys = o) :
    Calls Try.prog 13 #[.int .u8 m, .slice a n cap1, .slice c n' cap2] w fun e w' => e = .returned (.tuple #[.int .i64 (o.getD 0), .bool o.isSome]) ∧ Below w.heap.size w w' := by
  cases o with
  | none => exact dist_none m a c n n' cap1 cap2 xs ys w hm0 hm1 h h' hd
  | some r => exact dist_some m a c n n' cap1 cap2 xs ys r w hm0 hm1 h h' hd

set_option maxHeartbeats 1600000 in
theorem own_walk (m d : Int) (a c : Option Addr) (n n' cap cap' : Nat) (xs ys : List Int) (w : World) (hm0 : 0 ≤ m) (hm1 : m < 256) (h : Reads .i32 w a n xs) (h' : Reads .i32 w c n' ys)
    (hn : a = none → n = 0 ∧ cap = 0) (hn' : c = none → n' = 0 ∧ cap' = 0) :
    Calls Try.prog 9 #[.int .u8 m, .slice a n cap, .slice c n' cap', .int .i64 d] w fun e w' => e = .returned (.bool true) ∧ Below w.heap.size w w' := by
  have HN := Lib.hid hn
  have HN' := Lib.hid hn'
  clear hn hn'
  go_enter Try.func9, Try.ntmps9
  go_wp2_with (fail)
  refine (alive1 w).mono ?_
  rintro e w1 ⟨rfl, hb1⟩
  have H1 := h.below (Nat.le_refl _) hb1
  have H1' := h'.below (Nat.le_refl _) hb1
  have hs := h.bytes
  have hs' := h'.bytes
  simp only [kbytes] at hs hs'
  go_wp2_with (at_builtin; refine append_reads _ rfl (.tmp 13) (.tmp 14) rfl w.heap.size _ 0 [] rfl (World.ownsRow_made w1 #[] 0 hb1.size (by decide) rfl) a n cap xs rfl (H1.alloc _) HN.out ?_ ?_ ?_)
  · omega
  · have := hb1.size; simp; omega
  intro v1 w2 hown1 hg1
  have B2 : Below w.heap.size w w2 := (hb1.alloc hb1.size _).grown hg1 (by have := hb1.size; simp; omega) (by intro k hk; simp [Value.ownBlock] at hk; have := hb1.size; omega)
  clear hg1 H1
  obtain ⟨a1, cap1, rfl, R1⟩ := Reads.owned hown1 h.small h.bytes h.wf
  have H2' := h'.below (Nat.le_refl _) B2
  have HO1 := Lib.hid hown1
  clear hown1
  go_wp2_with (at_builtin; refine append_reads _ rfl (.tmp 16) (.tmp 17) rfl w.heap.size _ 0 [] rfl (World.ownsRow_made w2 #[] 0 B2.size (by decide) rfl) c n' cap' ys rfl (H2'.alloc _) HN'.out ?_ ?_ ?_)
  · omega
  · have := B2.size; simp; omega
  intro v2 w3 hown2 hg2
  have B23 : Below w2.heap.size w2 w3 := ((Below.refl _ _).alloc (Nat.le_refl _) _).grown hg2 (by simp) (by intro k hk; simp [Value.ownBlock] at hk; omega)
  have B3 := B2.trans (B23.mono B2.size)
  clear hg2 H2'
  obtain ⟨a2, cap2, rfl, R2⟩ := Reads.owned hown2 h'.small h'.bytes h'.wf
  have R1' := R1.below (Nat.le_refl _) B23
  clear hown2 R1 B2 B23 hb1
  obtain ⟨o, ho⟩ : ∃ o, distV m n n' xs ys = o := ⟨_, rfl⟩
  have HO := Lib.hid ho
  clear ho
  go_wp2_with (fail)
  refine (check_any a n cap xs d _ (h.below (Nat.le_refl _) B3)).mono ?_
  rintro e w' ⟨rfl, rfl⟩
  go_wp2_with (fail)
  refine (dist_two m a c n n' cap cap' xs ys o _ hm0 hm1 (h.below (Nat.le_refl _) B3) (h'.below (Nat.le_refl _) B3) HO.out).mono ?_
  rintro e w4 ⟨rfl, hb4⟩
  have B4 := B3.trans (hb4.mono B3.size)
  have S1 := R1'.below (Nat.le_refl _) hb4
  have S2 := R2.below (Nat.le_refl _) hb4
  clear hb4 B3 R1' R2
  go_wp2_with (fail)
  refine (same_eq a a1 n n cap cap1 xs xs w4 _ true (h.below (Nat.le_refl _) B4) S1 (Below.refl _ _) (by simp [Hid])).mono ?_
  rintro e w5 ⟨rfl, hb5⟩
  have B5 := B4.trans (hb5.mono B4.size)
  have T2 := S2.below (Nat.le_refl _) hb5
  clear hb5 B4 S2 S1
  go_wp2_with (fail)
  refine (same_eq c a2 n' n' cap' cap2 ys ys w5 _ true (h'.below (Nat.le_refl _) B5) T2 (Below.refl _ _) (by simp [Hid])).mono ?_
  rintro e w6 ⟨rfl, hb6⟩
  have B6 := B5.trans (hb6.mono B5.size)
  clear hb6 B5 T2
  go_wp2
  go_ret
  exact ⟨rfl, B6⟩

theorem own_row : Rows.FixvecOwnSaid :=
  OpenClaim.holds_of_wide 9 Try.f9 rfl rfl rfl rfl rfl rfl rfl ⟨rfl, rfl, rfl, rfl, rfl⟩ rfl rfl rfl rfl rfl (by kernel_rfl) Try.func9 (by kernel_rfl)
    (of_decide_eq_true (by kernel_rfl)) (by unfold Func.isWrapper; rw [if_neg (of_decide_eq_false (by kernel_rfl))]; exact ⟨rfl, rfl⟩)
    (fun os started H enc _ => lift (C := Try.checked) (s := Rows.fixvecOwnSpec) (conds := Rows.fixvecOwnRow.domain) os started H enc prog_own (by kernel_rfl) Try.func9 prog_laid rfl Try.underlying4 rfl
      (fun ds hl => by
        have hl : ds.length = 4 := hl
        match ds, hl with
        | [_, _, _, _], _ => rfl)
      (of_decide_eq_true (by kernel_rfl))
      (ChangeSpec.witness6 (enc := enc) (C := Try.checked) false ⟨#[], #[.int .u8 0, .slice none 0 0, .slice none 0 0, .int .i64 0], []⟩ 8 (by kernel_rfl) (by kernel_rfl) (by kernel_rfl) (by kernel_rfl))
      (fun W base args ds p g => by
        rw [Try.params9] at g
        obtain ⟨m, e0, hm⟩ := g.int 0 rfl Try.underlying5
        obtain ⟨a, n, cap, xs, e1, h1, n1⟩ := g.slice 1 rfl Try.underlying22 Try.underlying21 (by kernel_rfl) (by kernel_rfl)
        obtain ⟨c, n', cap', ys, e2, h2, n2⟩ := g.slice 2 rfl Try.underlying22 Try.underlying21 (by kernel_rfl) (by kernel_rfl)
        obtain ⟨d, e3, _⟩ := g.int 3 rfl Try.underlying3
        rw [args4 g.count e0 e1 e2 e3]
        have hb := bounds_u8 hm
        exact own_walk m d a c n n' cap cap' xs ys W (by omega) (by omega) h1 h2 n1 n2))
end Go.Proofs.Ytoaccegmeflpnaa
