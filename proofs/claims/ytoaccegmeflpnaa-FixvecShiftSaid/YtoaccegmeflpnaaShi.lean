/-
  FixvecShift holds: what is put to both vectors, part by part, changes nothing of the squares, as long as all may be; what came in reads as before.
-/
import Derived.Test.YtoaccegmeflpnaaOwn
import Derived.Maps.AppendAt
import Derived.Deep.DeepMust
namespace Go.Proofs.Ytoaccegmeflpnaa
open Go.ChangeShapes Go.WideShapes Go.ChangeAt Go.RowKit

/-- Two slice values that lie in no block together. -/
def Parted (u v : Value) : Prop := u.ownBlock = none ∨ u.ownBlock ≠ v.ownBlock
theorem Parted.symm {u v : Value} (h : Parted u v) : Parted v u := by
  unfold Parted at h ⊢
  rcases h with h | h
  · by_cases e : v.ownBlock = none
    · exact .inl e
    · exact .inr (by rw [h]; exact e)
  · exact .inr (Ne.symm h)

theorem own_lt {w : World} {base e size n : Nat} {v : Value} {xs : List Value} (h : w.ownsRow base e size v n xs) {g : Nat} (hg : v.ownBlock = some g) : base ≤ g ∧ g < w.heap.size := by
  rcases h.2 with ⟨rfl, _⟩ | ⟨g', cap, cur, rfl, hb, hh, _⟩
  · simp [Value.ownBlock] at hg
  · simp [Value.ownBlock] at hg
    subst hg
    exact ⟨hb, (Array.getElem?_eq_some_iff.1 hh).1⟩

theorem Parted.grown {w : World} {base e size n : Nat} {u v v' : Value} {xs : List Value} (h : Parted v u) (hu : w.ownsRow base e size u n xs) (hat : v'.ownBlock = v.ownBlock ∨ v'.ownBlock = some w.heap.size) : Parted v' u := by
  rcases hat with e | e
  · unfold Parted at h ⊢; rw [e]; exact h
  · right
    rw [e]
    intro e2
    have := (own_lt hu e2.symm).2
    omega

/-- append(v, x), v a row of the call's own, x one number in a block of its own. -/
theorem append_one {ops : Array Oper} {rest : List Oper} {o : Oper} {act : Act} {Q : Exit → Act → World → Prop} (w : World) (hg : o.guard = none) (s x : Operand)
    (hop : o.op = .call { callee := .builtin .append, args := #[s, x], argTypes := #[22, 22] }) (base : Nat) (v : Value) (n0 : Nat) (zs : List Int) (hs : act.eval s = v)
    (hown : w.ownsRow base 21 1 v n0 (zs.map (Value.int .i32))) (b : Nat) (z : Int) (hx : act.eval x = .slice (some ⟨b, 0, none⟩) 1 1) (hc : w.cell? ⟨b, 0, none⟩ = some (.int .i32 z))
    (hb : n0 ≤ 1000000) (hbase : base ≤ w.heap.size)
    (K : ∀ v' w', w'.ownsRow base 21 1 v' (n0 + 1) ((zs ++ [z]).map (Value.int .i32)) → w.grownBy w' v.ownBlock → (v'.ownBlock = v.ownBlock ∨ v'.ownBlock = some w.heap.size) → wpList Try.prog ops Q rest (act.put o.dst v') w') : wpList Try.prog ops Q (o :: rest) act w := by
  obtain ⟨i0, hi, hz0, hz1, hz2⟩ := info_parts int_info
  refine wpList_append_own_at _ hg s x 22 hop base 21 i0 (.int .i32 0) 1 4 Try.underlying22 hi hz0 hz1 hz2 rfl (by decide) v n0 _ hs hown ⟨b, 0, none⟩ 1 1 [.int .i32 z] hx rfl ?_ ?_ ?_ (by omega) hbase ?_
  · intro j u hu
    match j, hu with
    | 0, hu => simp at hu; subst hu; simpa [Addr.add] using hc
  · intro u hu
    simp at hu
    subst hu
    rfl
  · simp only [maxLen]; omega
  · intro v' w' h1 h2 _ h4
    exact K v' w' (by simpa using h1) h2 h4

theorem own_drewN {w : World} {base e size n : Nat} {v : Value} {xs : List Value} (h : w.ownsRow base e size v n xs) (m : Nat) : (w.drewN m).ownsRow base e size v n xs := h

/-- What an append onto one of two rows leaves of the other one. -/
theorem step_one {w wr w2 : World} {o : Obj} {m e size n n' : Nat} {u u' v : Value} {xs ys : List Value} (hB : Below w.heap.size w wr) (hu : wr.ownsRow w.heap.size e size u n xs) (hv : wr.ownsRow w.heap.size e size v n' ys) (hp : Parted u v)
    (hg : ((wr.drewN m).alloc o).grownBy w2 u.ownBlock) (hat : u'.ownBlock = u.ownBlock ∨ u'.ownBlock = some (wr.heap.size + 1)) :
    Hid (Below w.heap.size w w2) ∧ Hid (w2.ownsRow w.heap.size e size v n' ys) ∧ Hid (Parted u' v) := by
  have hv1 := (own_drewN hv m).alloc o
  refine ⟨((below_drewN hB m).alloc hB.size o).grown hg (by have := hB.size; simp [World.drewN]; omega) (fun k hk => (own_lt hu hk).1), hv1.kept hg hp.symm, hp.grown hv1 (by rw [World.size_alloc]; exact hat)⟩

def addEach (xs bs : List Int) : List Int := List.zipWith (· + ·) xs bs
theorem addEach_len (xs bs : List Int) (h : xs.length = bs.length) : (addEach xs bs).length = xs.length := by simp [addEach, h]
theorem addEach_getD (xs bs : List Int) (k : Nat) (h : k < xs.length) (h' : k < bs.length) : (addEach xs bs).getD k 0 = xs.getD k 0 + bs.getD k 0 := by
  simp [addEach, List.getD, List.getElem?_zipWith, h, h']
theorem take_succ_getD (xs : List Int) (k : Nat) (h : k < xs.length) : xs.take (k + 1) = xs.take k ++ [xs.getD k 0] := by
  have e : xs.getD k 0 = xs[k] := by simp [List.getD, h]
  rw [List.take_succ_eq_append_getElem h, e]
theorem row_succ {w : World} {base e n k : Nat} {u : Value} {xs bs : List Int} {x z : Int} (L : xs.length = n ∧ bs.length = n) (hk : k < n) (hx : x = xs.getD k 0) (hz : z = bs.getD k 0)
    (h : w.ownsRow base e 1 u (k + 1) (List.take k (List.map (Value.int .i32) (addEach xs bs)) ++ [.int .i32 (x + z)])) : w.ownsRow base e 1 u (k + 1) (((addEach xs bs).take (k + 1)).map (Value.int .i32)) := by
  have e1 := addEach_len xs bs (by omega)
  rw [take_succ_getD _ k (by omega), addEach_getD _ _ _ (by omega) (by omega), ← hx, ← hz, List.map_append, List.map_take]
  exact h
theorem all_succ {n k : Nat} {xs bs : List Int} {x z : Int} (L : xs.length = n ∧ bs.length = n) (hk : k < n) (hx : x = xs.getD k 0) (hz : z = bs.getD k 0) (h1 : -1048576 ≤ x + z) (h2 : x + z ≤ 1048576)
    (h : ((addEach xs bs).take k).all okPart = true) : ((addEach xs bs).take (k + 1)).all okPart = true := by
  have e1 := addEach_len xs bs (by omega)
  rw [all_take_succ _ k (by omega), addEach_getD _ _ _ (by omega) (by omega), ← hx, ← hz, h]
  simp [okPart]
  omega
theorem sqSum_shift (xs ys bs : List Int) (h : xs.length = bs.length) (h' : ys.length = bs.length) : sqSum (addEach xs bs) (addEach ys bs) = sqSum xs ys := by
  induction bs generalizing xs ys with
  | nil =>
    have e1 : xs = [] := List.eq_nil_of_length_eq_zero h
    have e2 : ys = [] := List.eq_nil_of_length_eq_zero h'
    subst e1 e2
    rfl
  | cons b bs ih =>
    match xs, ys, h, h' with
    | x :: xs, y :: ys, h, h' =>
      have i := ih xs ys (by simpa using h) (by simpa using h')
      simp only [addEach, List.zipWith_cons_cons, sqSum]
      unfold addEach at i
      rw [i, show x + b - (y + b) = x - y from by omega]

theorem Reads.at {k : IntKind} {w : World} {a : Option Addr} {n : Nat} {xs : List Int} (h : Reads k w a n xs) (hn : 0 < n) :
    ∃ b off, a = some ⟨b, off, none⟩ ∧ b < w.heap.size ∧ ∀ i, i < n → w.cell? ⟨b, off + i, none⟩ = some (.int k (xs.getD i 0)) := by
  rcases h.cells with h0 | h
  · omega
  · exact h

theorem wf_i32 {x : Int} (h : (Lit.int .i32 x).wf = true) : -2147483648 ≤ x ∧ x ≤ 2147483647 := by
  have := bounds_i32 h
  omega
theorem wf_getD {w : World} {a : Option Addr} {n : Nat} {xs : List Int} (h : Reads .i32 w a n xs) (k : Nat) (hk : k < n) : -2147483648 ≤ xs.getD k 0 ∧ xs.getD k 0 ≤ 2147483647 := by
  have hk : k < xs.length := by rw [h.len]; exact hk
  have e : xs.getD k 0 = xs[k] := by simp [List.getD, hk]
  rw [e]
  exact wf_i32 (h.wf _ (List.getElem_mem hk))
theorem wf_part {x : Int} (h1 : -1048576 ≤ x) (h2 : x ≤ 1048576) : (Lit.int .i32 x).wf = true := by
  have e1 : IntKind.i32.min = -2147483648 := rfl
  have e2 : IntKind.i32.max = 2147483647 := rfl
  simp only [Lit.wf, Bool.and_eq_true, decide_eq_true_eq]
  omega

theorem wf_all {zs : List Int} (h : zs.all okPart = true) : ∀ z ∈ zs, (Lit.int .i32 z).wf = true := by
  intro z hz
  rw [List.all_eq_true] at h
  have := h z hz
  simp only [okPart, decide_eq_true_eq] at this
  exact wf_part this.1 this.2

theorem distV_shift {n : Nat} (xs ys bs : List Int) (h0 : 0 < n) (h16 : n ≤ 16) (hx : xs.length = n) (hy : ys.length = n) (hb : bs.length = n) (px : (addEach xs bs).all okPart = true) (py : (addEach ys bs).all okPart = true) (r : Int)
    (h : distV 0 n n xs ys = some r) : distV 0 n n (addEach xs bs) (addEach ys bs) = some r := by
  obtain ⟨_, _, _, _, _, _, _, hr⟩ := distV_some (by omega) h
  have c1 : checkV n n (addEach xs bs) = 0 := by
    rw [checkV, if_neg (by omega), px]
    rfl
  have c2 : checkV n n (addEach ys bs) = 0 := by
    rw [checkV, if_neg (by omega), py]
    rfl
  rw [distV, if_neg (by rw [c1, c2]; omega), if_pos rfl, sqSum_shift _ _ _ (by omega) (by omega)]
  congr 1
  omega

set_option maxHeartbeats 400000 in
theorem shift_out (a c e : Option Addr) (n1 n2 n3 cap1 cap2 cap3 : Nat) (w : World) (l1 : n1 ≤ 140737488351232) (l2 : n2 ≤ 140737488351232) (l3 : n3 ≤ 140737488351232) (h : n1 ≠ n2 ∨ n1 ≠ n3 ∨ 16 < n1) :
    Calls Try.prog 7 #[.slice a n1 cap1, .slice c n2 cap2, .slice e n3 cap3] w fun e w' => e = .returned (.bool true) ∧ Below w.heap.size w w' := by
  by_cases h1 : n1 = n2
  · by_cases h2 : n1 = n3
    · have h3 : 16 < n1 := by omega
      subst h1 h2
      clear h
      go_enter Try.func7, Try.ntmps7
      go_wp2_with (fail)
      refine (alive1 w).mono ?_
      rintro e w1 ⟨rfl, hb1⟩
      go_wp2
      go_ret
      exact ⟨rfl, hb1⟩
    · subst h1
      clear h
      go_enter Try.func7, Try.ntmps7
      go_wp2_with (fail)
      refine (alive1 w).mono ?_
      rintro e w1 ⟨rfl, hb1⟩
      go_wp2
      go_ret
      exact ⟨rfl, hb1⟩
  · clear h
    go_enter Try.func7, Try.ntmps7
    go_wp2_with (fail)
    refine (alive1 w).mono ?_
    rintro e w1 ⟨rfl, hb1⟩
    go_wp2
    go_ret
    exact ⟨rfl, hb1⟩

set_option maxHeartbeats 1600000 in
theorem shift_walk (a c d : Option Addr) (n cap1 cap2 cap3 : Nat) (xs ys bs : List Int) (w : World) (h1 : Reads .i32 w a n xs) (h2 : Reads .i32 w c n ys) (h3 : Reads .i32 w d n bs) (h0 : 0 < n) (h16 : n ≤ 16) :
    Calls Try.prog 7 #[.slice a n cap1, .slice c n cap2, .slice d n cap3] w fun e w' => e = .returned (.bool true) ∧ Below w.heap.size w w' := by
  obtain ⟨b1, off1, ha1, hlt1, hc1⟩ := h1.at h0
  obtain ⟨b2, off2, ha2, hlt2, hc2⟩ := h2.at h0
  obtain ⟨b3, off3, ha3, hlt3, hc3⟩ := h3.at h0
  subst ha1 ha2 ha3
  have HL := Lib.hid (show (xs.length = n ∧ bs.length = n) ∧ (ys.length = n ∧ bs.length = n) from ⟨⟨h1.len, h3.len⟩, h2.len, h3.len⟩)
  have hd : decide ((16 : Int) < n) = false := by simp; omega
  have C1 := Lib.hid hc1
  have C2 := Lib.hid hc2
  have C3 := Lib.hid hc3
  clear hc1 hc2 hc3
  go_enter Try.func7, Try.ntmps7
  go_wp2_with (fail)
  refine (alive1 w).mono ?_
  rintro e w1 ⟨rfl, hb1⟩
  go_wp2_with (fail)
  go_loopw [7, 8, 9] (fun su sv i wr => ∃ (k : Nat) (u v : Value), k ≤ n ∧ i = .int .i64 k ∧ u = su ∧ v = sv ∧ wr.ownsRow w.heap.size 21 1 u k (((addEach xs bs).take k).map (Value.int .i32)) ∧ wr.ownsRow w.heap.size 21 1 v k (((addEach ys bs).take k).map (Value.int .i32)) ∧
      Hid (Parted u v ∧ ((addEach xs bs).take k).all okPart = true ∧ ((addEach ys bs).take k).all okPart = true) ∧ Below w.heap.size w wr) (fun _ _ i _ => n - (intOf i).toNat)
  case atStart => exact ⟨0, _, _, Nat.zero_le _, rfl, rfl, rfl, World.ownsRow_nil _ _ _ _, World.ownsRow_nil _ _ _ _, ⟨.inl rfl, rfl, rfl⟩, hb1⟩
  case round =>
    obtain ⟨k, u, v, hk, rfl, rfl, rfl, hu, hv, HP, hB⟩ := hrel
    by_cases hk' : k < n
    · obtain ⟨x, hx⟩ : ∃ x, x = xs.getD k 0 := ⟨_, rfl⟩
      obtain ⟨y, hy⟩ : ∃ y, y = ys.getD k 0 := ⟨_, rfl⟩
      obtain ⟨z, hz⟩ : ∃ z, z = bs.getD k 0 := ⟨_, rfl⟩
      have cx := (hB.cell (p := ⟨b1, off1 + k, none⟩) hlt1).trans (C1.out k hk')
      have cy := (hB.cell (p := ⟨b2, off2 + k, none⟩) hlt2).trans (C2.out k hk')
      have cz := (hB.cell (p := ⟨b3, off3 + k, none⟩) hlt3).trans (C3.out k hk')
      obtain ⟨x1, x2⟩ := wf_getD h1 k hk'
      obtain ⟨y1, y2⟩ := wf_getD h2 k hk'
      obtain ⟨z1, z2⟩ := wf_getD h3 k hk'
      rw [← hx] at cx x1 x2
      rw [← hy] at cy y1 y2
      rw [← hz] at cz z1 z2
      have HX := Lib.hid hx
      have HY := Lib.hid hy
      have HZ := Lib.hid hz
      have HB := Lib.hid hB
      have HU := Lib.hid hu
      have HV := Lib.hid hv
      clear hx hy hz hB hu hv
      have e1 : IntKind.i64.wrap (x + z) = x + z := IntWalk.i64_in _ (by omega)
      have e2 : IntKind.i64.wrap (y + z) = y + z := IntWalk.i64_in _ (by omega)
      by_cases t1 : 1048576 < x + z
      · go_wp2
        go_quiet (fail)
        go_wp2
        go_quiet (fail)
        go_wp2
        go_ret
        exact ⟨rfl, below_drewN HB.out _⟩
      by_cases t2 : x + z < -1048576
      · go_wp2
        go_quiet (fail)
        go_wp2
        go_quiet (fail)
        go_wp2
        go_ret
        exact ⟨rfl, below_drewN HB.out _⟩
      by_cases t3 : 1048576 < y + z
      · go_wp2
        go_quiet (fail)
        go_wp2
        go_quiet (fail)
        go_wp2
        go_ret
        exact ⟨rfl, below_drewN HB.out _⟩
      by_cases t4 : y + z < -1048576
      · go_wp2
        go_quiet (fail)
        go_wp2
        go_quiet (fail)
        go_wp2
        go_ret
        exact ⟨rfl, below_drewN HB.out _⟩
      go_wp2
      go_quiet (fail)
      go_wp2
      go_quiet (fail)
      go_wp2_with (at_builtin; go_must (refine append_one _ rfl (.tmp 77) (.tmp 80) rfl w.heap.size u k _ rfl (World.ownsRow.alloc (own_drewN HU.out _) _) wr.heap.size (x + z) rfl ?_ ?_ ?_ ?_))
      · exact World.cell?_alloc_at _ _ _ _ rfl
      · omega
      · have := HB.out.size; rw [World.size_alloc]; exact Nat.le_trans this (Nat.le_succ _)
      intro u' w2 hu2 hg2 hat2
      have R := step_one HB.out HU.out HV.out HP.out.1 hg2 hat2
      have HU2 := Lib.hid hu2
      clear hu2 hg2 hat2
      obtain ⟨HB2, HV2, HP2⟩ := R
      go_wp2_with (at_builtin; go_must (refine append_one _ rfl (.tmp 82) (.tmp 85) rfl w.heap.size v k _ rfl (World.ownsRow.alloc HV2.out _) w2.heap.size (y + z) rfl ?_ ?_ ?_ ?_))
      · exact World.cell?_alloc_at _ _ _ _ rfl
      · omega
      · have := HB2.out.size; rw [World.size_alloc]; exact Nat.le_trans this (Nat.le_succ _)
      intro v' w3 hv3 hg3 hat3
      have R := step_one (m := 0) HB2.out HV2.out HU2.out HP2.out.symm hg3 hat3
      have HV3 := Lib.hid hv3
      clear hv3 hg3 hat3
      obtain ⟨HB3, HU3, HP3⟩ := R
      go_wp2
      go_roundw
      case rel =>
        have L := HL.out
        exact ⟨k + 1, u', v', by omega, by go_num, rfl, rfl, row_succ L.1 hk' HX.out HZ.out HU3.out, row_succ L.2 hk' HY.out HZ.out HV3.out, ⟨HP3.out.symm, all_succ L.1 hk' HX.out HZ.out (by omega) (by omega) HP.out.2.1, all_succ L.2 hk' HY.out HZ.out (by omega) (by omega) HP.out.2.2⟩, HB3.out⟩
      case measure => simp [intOf]; omega
    · have hkn : k = n := by omega
      subst hkn
      have L := HL.out
      have P := HP.out
      have l1 := addEach_len xs bs (by omega)
      have l2 := addEach_len ys bs (by omega)
      rw [List.take_of_length_le (by omega)] at hu hv
      have P2 := P.2
      rw [List.take_of_length_le (by omega), List.take_of_length_le (by omega)] at P2
      obtain ⟨a1, cap4, rfl, R1⟩ := Reads.owned hu h1.small h1.bytes (wf_all P2.1)
      obtain ⟨a2, cap5, rfl, R2⟩ := Reads.owned hv h1.small h1.bytes (wf_all P2.2)
      have hsh := distV_shift (n := k) xs ys bs (by omega) (by omega) (by omega) (by omega) (by omega) P2.1 P2.2
      have HS := Lib.hid hsh
      clear hu hv P P2 L l1 l2 hsh HP HL
      cases ho : distV 0 k k xs ys with
      | none =>
        have HO := Lib.hid ho
        clear ho
        obtain ⟨o2, ho2⟩ : ∃ o2, distV 0 k k (addEach xs bs) (addEach ys bs) = o2 := ⟨_, rfl⟩
        have HO2 := Lib.hid ho2
        clear ho2
        go_wp2_with (fail)
        refine (dist_none 0 _ _ k k cap1 cap2 xs ys _ (by omega) (by omega) (h1.below (Nat.le_refl _) hB) (h2.below (Nat.le_refl _) hB) HO.out).mono ?_
        rintro e w2 ⟨rfl, hb2⟩
        have B2 := hB.trans (hb2.mono hB.size)
        have R1' := R1.below (Nat.le_refl _) hb2
        have R2' := R2.below (Nat.le_refl _) hb2
        clear hB hb2 R1 R2
        go_wp2_with (fail)
        refine (dist_two 0 _ _ k k cap4 cap5 _ _ o2 _ (by omega) (by omega) R1' R2' HO2.out).mono ?_
        rintro e w3 ⟨rfl, hb3⟩
        have B3 := B2.trans (hb3.mono B2.size)
        clear B2 hb3
        go_wp2
        go_ret
        exact ⟨rfl, B3⟩
      | some r =>
        have HO := Lib.hid ho
        have HO2 := Lib.hid (HS.out r ho)
        clear ho
        go_wp2_with (fail)
        refine (dist_some 0 _ _ k k cap1 cap2 xs ys r _ (by omega) (by omega) (h1.below (Nat.le_refl _) hB) (h2.below (Nat.le_refl _) hB) HO.out).mono ?_
        rintro e w2 ⟨rfl, hb2⟩
        have B2 := hB.trans (hb2.mono hB.size)
        have R1' := R1.below (Nat.le_refl _) hb2
        have R2' := R2.below (Nat.le_refl _) hb2
        clear hB hb2 R1 R2
        go_wp2_with (fail)
        refine (dist_some 0 _ _ k k cap4 cap5 _ _ r _ (by omega) (by omega) R1' R2' HO2.out).mono ?_
        rintro e w3 ⟨rfl, hb3⟩
        have B3 := B2.trans (hb3.mono B2.size)
        clear B2 hb3
        go_wp2
        go_ret
        exact ⟨rfl, B3⟩

set_option maxHeartbeats 800000 in
theorem shift_none (a c d : Option Addr) (cap1 cap2 cap3 : Nat) (w : World) (h1 : Reads .i32 w a 0 []) (h2 : Reads .i32 w c 0 []) :
    Calls Try.prog 7 #[.slice a 0 cap1, .slice c 0 cap2, .slice d 0 cap3] w fun e w' => e = .returned (.bool true) ∧ Below w.heap.size w w' := by
  have HO := Lib.hid (show distV 0 0 0 [] [] = none from by decide)
  go_enter Try.func7, Try.ntmps7
  go_wp2_with (fail)
  refine (alive1 w).mono ?_
  rintro e w1 ⟨rfl, hb1⟩
  go_wp2_with (fail)
  refine wp_loop_rounds 1 ?_
  rw [rounds_succ]
  go_wp2_with (fail)
  refine (dist_none 0 a c 0 0 cap1 cap2 [] [] _ (by omega) (by omega) (h1.below (Nat.le_refl _) hb1) (h2.below (Nat.le_refl _) hb1) HO.out).mono ?_
  rintro e w2 ⟨rfl, hb2⟩
  have B2 := hb1.trans (hb2.mono hb1.size)
  clear hb1 hb2
  go_wp2_with (fail)
  refine (dist_none 0 none none 0 0 0 0 [] [] _ (by omega) (by omega) ⟨rfl, by omega, by omega, by simp, .inl rfl⟩ ⟨rfl, by omega, by omega, by simp, .inl rfl⟩ HO.out).mono ?_
  rintro e w3 ⟨rfl, hb3⟩
  have B3 := B2.trans (hb3.mono B2.size)
  clear B2 hb3
  go_wp2
  go_ret
  exact ⟨rfl, B3⟩

theorem shift_row : Rows.FixvecShiftSaid :=
  OpenClaim.holds_of_wide 7 Try.f7 rfl rfl rfl rfl rfl rfl rfl ⟨rfl, rfl, rfl, rfl, rfl⟩ rfl rfl rfl rfl rfl (by kernel_rfl) Try.func7 (by kernel_rfl)
    (of_decide_eq_true (by kernel_rfl)) (by unfold Func.isWrapper; rw [if_neg (of_decide_eq_false (by kernel_rfl))]; exact ⟨rfl, rfl⟩)
    (fun os started H enc _ => lift (C := Try.checked) (s := Rows.fixvecShiftSpec) (conds := Rows.fixvecShiftRow.domain) os started H enc prog_own (by kernel_rfl) Try.func7 prog_laid rfl Try.underlying4 rfl
      (fun ds hl => by
        have hl : ds.length = 3 := hl
        match ds, hl with
        | [_, _, _], _ => rfl)
      (of_decide_eq_true (by kernel_rfl))
      (ChangeSpec.witness6 (enc := enc) (C := Try.checked) false ⟨#[], #[.slice none 0 0, .slice none 0 0, .slice none 0 0], []⟩ 8 (by kernel_rfl) (by kernel_rfl) (by kernel_rfl) (by kernel_rfl))
      (fun W base args ds p g => by
        rw [Try.params7] at g
        obtain ⟨a, n1, cap1, xs, e1, h1, _⟩ := g.slice 0 rfl Try.underlying22 Try.underlying21 (by kernel_rfl) (by kernel_rfl)
        obtain ⟨c, n2, cap2, ys, e2, h2, _⟩ := g.slice 1 rfl Try.underlying22 Try.underlying21 (by kernel_rfl) (by kernel_rfl)
        obtain ⟨d, n3, cap3, bs, e3, h3, _⟩ := g.slice 2 rfl Try.underlying22 Try.underlying21 (by kernel_rfl) (by kernel_rfl)
        rw [args3 g.count e1 e2 e3]
        by_cases hout : n1 ≠ n2 ∨ n1 ≠ n3 ∨ 16 < n1
        · exact shift_out a c d n1 n2 n3 cap1 cap2 cap3 W h1.small h2.small h3.small hout
        · obtain rfl : n1 = n2 := by omega
          obtain rfl : n1 = n3 := by omega
          by_cases h0 : n1 = 0
          · subst h0
            have x0 : xs = [] := List.eq_nil_of_length_eq_zero h1.len
            have y0 : ys = [] := List.eq_nil_of_length_eq_zero h2.len
            subst x0 y0
            exact shift_none a c d cap1 cap2 cap3 W h1 h2
          · exact shift_walk a c d n1 cap1 cap2 cap3 xs ys bs W h1 h2 h3 (by omega) (by omega)))
end Go.Proofs.Ytoaccegmeflpnaa
