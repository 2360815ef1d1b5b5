/-
  The reader's fields again: what is read of bytes and of vectors lies in rows of the call's own that may be written over.
-/
import Derived.Test.YtemnmjfeljipjaaQb
namespace Go.Proofs.Ytemnmjfeljipjaa
open Go.RowKit Go.ChangeShapes Go.WideShapes Go.ChangeAt

/-- A list of integers that may be written over: none, or a row that is known whole. -/
def WrS (lo : Nat) (w : World) (t : TypeId) (k : IntKind) (p : SlL) : Prop := p.n = 0 ∨ ∃ (g : Nat) (row : List Value), p.a = some ⟨g, 0, none⟩ ∧ lo ≤ g ∧ Blk w g t row ∧ ∀ i, i < p.n → ∃ x : Int, row[i]? = some (.int k x)
theorem WrS.kept {lo : Nat} {w w' : World} {t : TypeId} {k : IntKind} {p : SlL} {F : List Nat} (h : WrS lo w t k p) (hk : Kept F w w') (hF : ∀ k ∈ F, k < lo) : WrS lo w' t k p := by
  rcases h with h | ⟨g, row, h1, h2, h3, h4⟩
  · exact .inl h
  · exact .inr ⟨g, row, h1, h2, hk.blk h3 (fun hh => by have := hF g hh; omega), h4⟩
theorem WrS.mono {lo lo' : Nat} {w : World} {t : TypeId} {k : IntKind} {p : SlL} (h : WrS lo w t k p) (hl : lo' ≤ lo) : WrS lo' w t k p := by
  rcases h with h | ⟨g, row, h1, h2, h3⟩
  · exact .inl h
  · exact .inr ⟨g, row, h1, by omega, h3⟩
theorem OwnV.wr {w : World} {lo : Nat} {t : TypeId} {v : Value} {bs : List Nat} (h : OwnV w lo t v bs) : ∀ p : SlL, v = .slice p.a p.n p.c → WrS lo w t .u8 p := by
  rintro ⟨a, n', c⟩ rfl
  rcases h.form with ⟨h1, _⟩ | ⟨g, cap, rest, h1, hg, hh, hn, _, _⟩
  · cases h1
    exact .inl rfl
  · cases h1
    refine .inr ⟨g, _, rfl, hg, hh, fun i hi => ?_⟩
    have hi : i < bs.length := hi
    refine ⟨(bs[i] : Int), ?_⟩
    rw [List.getElem?_append_left (by simpa using hi), List.getElem?_map, List.getElem?_eq_getElem hi]
    rfl
theorem OwnR.wr {w : World} {lo : Nat} {t : TypeId} {k : IntKind} {v : Value} {xs : List Int} (h : OwnR lo w t (Sh.int k) v xs) : ∀ p : SlL, v = .slice p.a p.n p.c → WrS lo w t k p := by
  rintro ⟨a, n', c⟩ rfl
  obtain ⟨css, h1, h2, h3⟩ := h
  have heach := OwnR.each h1 h2
  rcases h3.2 with ⟨h0, _⟩ | ⟨g, cap, cur, h0, hg, hh, hn, _, hsz, htake⟩
  · cases h0
    exact .inl rfl
  · cases h0
    refine .inr ⟨g, cur.toList, rfl, hg, hh, fun i hi => ?_⟩
    have hi : i < List.length (α := Int) xs := hi
    obtain ⟨cs, h4, h5⟩ := h2 i _ (List.getElem?_eq_getElem hi)
    obtain ⟨rfl, _⟩ := Rd.int_is h5
    have h6 := flatten_at css 1 heach i _ h4 0 (by omega)
    have h6 : css.flatten[i]? = some (.int k (xs[i]'hi)) := by simpa using h6
    rw [← htake, List.getElem?_take_of_lt (by simp [Sh.cells]; exact hi)] at h6
    exact ⟨_, h6⟩
/-- A message whose bytes and whose vector may be written over. -/
def WrM (lo : Nat) (w : World) (y : MsgL) : Prop := WrS lo w 5 .u8 y.pbytes ∧ WrS lo w 21 .i32 y.pvec
theorem WrM.kept {lo : Nat} {w w' : World} {y : MsgL} {F : List Nat} (h : WrM lo w y) (hk : Kept F w w') (hF : ∀ k ∈ F, k < lo) : WrM lo w' y := ⟨h.1.kept hk hF, h.2.kept hk hF⟩
theorem WrM.mono {lo lo' : Nat} {w : World} {y : MsgL} (h : WrM lo w y) (hl : lo' ≤ lo) : WrM lo' w y := ⟨h.1.mono hl, h.2.mono hl⟩
theorem WrM.zero (lo : Nat) (w : World) (k : Nat) : WrM lo w (zeroL k) := ⟨.inl rfl, .inl rfl⟩
/-- What the reading of a field leaves. -/
def FRdO (f : Fld) (y : MsgL) (gx B g lo : Nat) (s : List Nat ⊕ Nat) (w : World) (e : Ending) (w' : World) : Prop :=
  e = .returned (.tuple #[]) ∧ ∃ (y' : MsgL) (v : f.T) (st : List Nat ⊕ Nat), CState w' B g st ∧ Blk w' gx 38 y'.cells ∧ y'.In (lo ≤ ·) w' ∧ Kept [gx, g] w w' ∧ y'.toM = f.set y.toM v ∧ Step f.cod s v st ∧ (WrM lo w y → WrM lo w' y')

set_option maxRecDepth 100000 in
set_option maxHeartbeats 6400000 in
theorem rlisto_i32 (B g bx : Nat) (s : List Nat ⊕ Nat) (w : World) (h : CState w B g s) (hbx : Blk w bx 87 [.pointer (some ⟨g, 0, none⟩)]) (hgb : bx ≠ g) :
    Calls Try.prog 84 #[.pointer (some ⟨g, 0, none⟩), .func (.func 85) #[] #[.pointer (some ⟨bx, 0, none⟩)]] w fun e w' => RdC (cMany (cInt (-2147483648) 2147483647)) (fun w1 v a => IsSl w.heap.size (Sh.int .i32) 4 (fun xs : List Int => xs.map id) w1 v a ∧ ∀ p : SlL, v = .slice p.a p.n p.c → WrS w.heap.size w1 21 .i32 p) B g s w e w' := by
  have HS := Lib.hid h
  have HBX := Lib.hid hbx
  have HGB := Lib.hid hgb
  have hgl := h.lt
  clear h hbx hgb
  go_enter Try.func84, Try.ntmps84
  go_wp2_with (fail)
  refine (cnum_any 128 B g s w HS.out (by decide)).mono ?_
  rintro e w2 ⟨hk2, v2, n, s2, rfl, ⟨rfl, hn⟩, hs2, st2⟩
  have K2 := Lib.hid hk2
  have S2 := Lib.hid hs2
  have T2 := Lib.hid st2
  clear hk2 hs2 st2
  go_wp2_with (fail)
  go_loopw [5, 8] (fun s5 s8 wr => ∃ (i : Nat) (st : List Nat ⊕ Nat) (xs : List Int), s8 = .int .u64 i ∧ i ≤ n ∧ Hid (CState wr B g st) ∧ Hid (∀ r, s2 = .inl r → ManyR (cInt (-2147483648) 2147483647) n i r (xs.map id) st) ∧ Hid (∀ k, s2 = .inr k → st = .inr k) ∧ Hid (OwnR w.heap.size wr 21 (Sh.int .i32) s5 xs) ∧ Hid (xs.length ≤ i) ∧ Hid (Kept [g] w wr)) (fun _ s8 _ => n - (intOf s8).toNat)
  case atStart => exact ⟨0, s2, [], rfl, by omega, S2.out, fun r h => by subst h; exact ManyR.start (cInt (-2147483648) 2147483647) n r, fun k h => h, OwnR.nil _ _ _ _, by simp [Hid], K2.out⟩
  case round =>
    clear K2 S2
    obtain ⟨i, st, xs, rfl, hi, HST, HM, HB, HO, HLN, HK⟩ := hrel
    have hwr := HK.out.size
    rcases st with q | k
    · have hat : CX wr B g q 0 := HST.out
      obtain ⟨a, m, c, _, c1, _, _, hlt, _, _, _⟩ := hat.opened
      have c1 : wr.cell? ⟨g, 1, none⟩ = some (.int .i64 0) := c1
      have HM2 := Lib.hid (show ∃ r, s2 = .inl r ∧ ManyR (cInt (-2147483648) 2147483647) n i r (xs.map id) (.inl q) from by
        rcases s2 with r | k
        · exact ⟨r, rfl, HM.out r rfl⟩
        · exact nomatch HB.out k rfl)
      have XB := Lib.hid (HK.out.blk HBX.out (by simpa using HGB.out))
      clear hat HM HB
      by_cases hin : i < n
      · go_wp2_with (fail)
        refine (cpart_any B g bx (.inl q) wr HST.out XB.out).mono ?_
        rintro e w4 ⟨hk4, v4, a4, s4, rfl, hV, hs4, st4⟩
        obtain ⟨rfl, hx1, hx2⟩ := hV
        have O4 := Lib.hid (HO.out.kept hk4 (by simp; omega))
        have K4 := Lib.hid (HK.out.trans hk4 (Grows.refl _ _))
        have h4s := K4.out.size
        have S4 := Lib.hid hs4
        have hown4 := Lib.hid (fun k (hk : Value.ownBlock u5 = some k) => (HO.out.lt k hk).2)
        have hln := HLN.out
        obtain ⟨el, hel⟩ : ∃ el : Int, el = a4 := ⟨_, rfl⟩
        have R4 := Lib.hid (show Rd (fun k => w.heap.size ≤ k ∧ Value.ownBlock u5 ≠ some k) w4 (Sh.int .i32) [.int .i32 a4] el from by
          rw [hel]
          exact Rd.int_mk rfl (i32_mk ⟨hx1, hx2⟩))
        have M4 := Lib.hid (show Step (cInt (-2147483648) 2147483647) (.inl q) (id el) s4 from by rw [hel]; exact st4)
        clear hk4 hs4 st4 HO HST HK c1 hel hx1 hx2
        go_wp2_with (at_builtin; go_must (refine app_row (e := (Sh.int .i32)) w4 rfl (.tmp 15) (.tmp 18) 31 rfl Try.underlying31 (.int .i32 0) 4 i32_info rfl (by decide) el [.int .i32 a4] (by rfl) (by rfl) O4.out R4.out h4s (show (List.length (α := Int) xs + 1) * 4 ≤ 140737488355328 by omega) (show List.length (α := Int) xs ≤ 2000000 by omega) ?_))
        intro v5 w5 ho5 hk5 hg5
        have O5 := Lib.hid ho5
        have hown := fun k (hk : k ∈ ownB u5) => (O4.out.lt k (mem_ownB.1 hk)).1
        have K5 := Lib.hid (K4.out.trans hk5 (fun k hk => .inr (hown k hk)))
        have S5 := Lib.hid (S4.out.kept hk5 (fun k hk => by have := hown k hk; omega))
        have A5 := Lib.hid (show (∀ r, s2 = .inl r → ManyR (cInt (-2147483648) 2147483647) n (i + 1) r ((xs ++ [el]).map id) s4) ∧ ∀ k, s2 = .inr k → s4 = .inr k from by
          obtain ⟨r, hr, hm⟩ := HM2.out
          refine ⟨fun r' hr' => ?_, fun k hk => by rw [hr] at hk; cases hk⟩
          rw [hr] at hr'
          cases hr'
          have := hm.step hin M4.out
          rw [List.map_append]
          exact this)
        clear ho5 hk5 hg5 hown O4 K4 S4 R4 M4
        go_wp2
        go_roundw
        case rel => exact ⟨i + 1, s4, xs ++ [el], by go_num, by omega, S5.out, A5.out.1, A5.out.2, O5.out, (show List.length (α := Int) (xs ++ [el]) ≤ i + 1 by rw [List.length_append]; simp; omega), K5.out⟩
        case measure => simp [intOf]; omega
      · have hin' : i = n := by omega
        subst hin'
        obtain ⟨r, hr, hm⟩ := HM2.out
        have HE := Lib.hid (show Step (cMany (cInt (-2147483648) 2147483647)) s (xs.map id) (.inl q) from by
          have h1 := T2.out
          rw [hr] at h1
          rcases s with l | k
          · show (cMany (cInt (-2147483648) 2147483647)).dec l = .inl (xs.map id, q)
            rw [cMany_dec]
            have h2 : (cNum 128 (by decide)).dec l = .inl (i, r) := h1
            rw [h2]
            exact hm.fin
          · exact h1.elim)
        have HR := Lib.hid (HO.out.rd 4 (by decide) (show List.length (α := Int) xs * 4 ≤ 140737488351232 by have := HLN.out; omega))
        have WR := Lib.hid HO.out.wr
        clear hr hm HM2
        go_wp2
        go_ret
        exact ⟨HK.out, _, _, .inl q, rfl, ⟨⟨xs, HR.out, rfl⟩, WR.out⟩, HST.out, HE.out⟩
    · obtain ⟨hk0, l, hbad⟩ := HST.out
      obtain ⟨a, m, c, _, c1, _, _, hlt, _, _, _⟩ := hbad.opened
      have e1 : ((k : Int) != 0) = true := by simp; omega
      have HE := Lib.hid (show Step (cMany (cInt (-2147483648) 2147483647)) s (xs.map id) (.inr k) from by
        have h1 := T2.out
        rcases s2 with r | k2
        · have h3 := HM.out r rfl
          rcases s with l | k3
          · show (cMany (cInt (-2147483648) 2147483647)).dec l = .inr k
            rw [cMany_dec]
            have h2 : (cNum 128 (by decide)).dec l = .inl (n, r) := h1
            rw [h2]
            exact h3
          · exact h1.elim
        · have h3 := HB.out k2 rfl
          cases h3
          rcases s with l | k3
          · show (cMany (cInt (-2147483648) 2147483647)).dec l = .inr k
            rw [cMany_dec]
            have h2 : (cNum 128 (by decide)).dec l = .inr k := h1
            rw [h2]
          · exact h1)
      have HR := Lib.hid (HO.out.rd 4 (by decide) (show List.length (α := Int) xs * 4 ≤ 140737488351232 by have := HLN.out; omega))
      have WR := Lib.hid HO.out.wr
      clear hbad hk0
      by_cases hin : i < n
      all_goals
        go_wp2
        go_ret
        exact ⟨HK.out, _, _, .inr k, rfl, ⟨⟨xs, HR.out, rfl⟩, WR.out⟩, HST.out, HE.out⟩

set_option maxRecDepth 100000 in
theorem cveco_any0 (B g : Nat) (s : List Nat ⊕ Nat) (w : World) (h : CState w B g s) :
    Calls Try.prog 41 #[.pointer (some ⟨g, 0, none⟩)] w fun e w' => RdC (cMany (cInt (-2147483648) 2147483647)) (fun w1 v a => IsSl w.heap.size (Sh.int .i32) 4 (fun xs : List Int => xs.map id) w1 v a ∧ ∀ p : SlL, v = .slice p.a p.n p.c → WrS w.heap.size w1 21 .i32 p) B g s w e w' := by
  have hgl := h.lt
  obtain ⟨w1, hw1⟩ : ∃ w1, w.alloc (.cells #[.pointer (some ⟨g, 0, none⟩)] 87) = w1 := ⟨_, rfl⟩
  have k01 : Kept [] w w1 := by rw [← hw1]; exact (Kept.refl _ _).alloc _
  have X1 := Lib.hid (show Blk w1 w.heap.size 87 [.pointer (some ⟨g, 0, none⟩)] from by rw [← hw1]; exact Blk.new w _ _)
  have S1 := Lib.hid (h.kept k01 (by simp))
  have K1 := Lib.hid (show Kept [g] w w1 from k01.mono (by simp))
  have hs1 := k01.size
  have c0 : w1.cell? ⟨w.heap.size, 0, none⟩ = some (.pointer (some ⟨g, 0, none⟩)) := X1.out.cell 0
  have lt := X1.out.lt
  clear h k01
  go_enter Try.func41, Try.ntmps41
  go_wp2_with (fail)
  try rw [hw1]
  clear hw1
  refine (rlisto_i32 B g w.heap.size s w1 S1.out X1.out (by omega)).mono ?_
  rintro e w2 ⟨hk, v, x, st, rfl, ⟨⟨xs, hr, hx⟩, hwr⟩, hs, ht⟩
  obtain ⟨a, n, c, hcs, _, _, _⟩ := Rd.slice_is (e := (Sh.int .i32)) hr
  simp only [List.cons.injEq, and_true] at hcs
  subst hcs
  have FIN := Lib.hid (show RdC (cMany (cInt (-2147483648) 2147483647)) (fun w1 v a => IsSl w.heap.size (Sh.int .i32) 4 (fun xs : List Int => xs.map id) w1 v a ∧ ∀ p : SlL, v = .slice p.a p.n p.c → WrS w.heap.size w1 21 .i32 p) B g s w (.returned (.slice a n c)) w2 from ⟨K1.out.trans hk (Grows.refl _ _), _, x, st, rfl, ⟨⟨xs, hr.mono (fun k hk _ => by omega), hx⟩, fun p hp => (hwr p hp).mono (by omega)⟩, hs, ht⟩)
  clear hk hr hs ht hx hwr
  go_wp2
  go_ret
  exact FIN.out

theorem cveco_any (B g : Nat) (s : List Nat ⊕ Nat) (w : World) (h : CState w B g s) :
    Calls Try.prog 41 #[.pointer (some ⟨g, 0, none⟩)] w fun e w' => RdC cVec (fun w1 v a => IsSl w.heap.size (.int .i32) 4 (fun xs => xs) w1 v a ∧ ∀ p : SlL, v = .slice p.a p.n p.c → WrS w.heap.size w1 21 .i32 p) B g s w e w' := by
  refine (cveco_any0 B g s w h).mono ?_
  rintro e w2 ⟨hk, v, x, st, he, ⟨⟨xs, hr, hx⟩, hwr⟩, hs, ht⟩
  exact ⟨hk, v, x, st, he, ⟨⟨xs, hr, by rw [← hx]; exact (List.map_id _).symm⟩, hwr⟩, hs, ht⟩

set_option maxRecDepth 100000 in
set_option maxHeartbeats 6400000 in
theorem rfieldo_req (y : MsgL) (gx B g lo : Nat) (s : List Nat ⊕ Nat) (w : World) (h : CState w B g s) (hx : Blk w gx 38 y.cells) (hgx : B ≤ gx) (hne : gx < g) (hlo : g < lo) (hlw : lo ≤ w.heap.size) (hy : y.In (lo ≤ ·) w) :
    Calls Try.prog 14 #[.pointer (some ⟨g, 0, none⟩), .int .u8 0, .pointer (some ⟨gx, 0, none⟩)] w fun e w' => FRdO .req y gx B g lo s w e w' := by
  have hgl := h.lt
  have _ := hlw
  obtain ⟨w1, hw1⟩ : ∃ w1, w.alloc (.cells #[.pointer (some ⟨g, 0, none⟩)] 87) = w1 := ⟨_, rfl⟩
  have k01 : Kept [] w w1 := by rw [← hw1]; exact (Kept.refl _ _).alloc _
  have X1 := Lib.hid (show Blk w1 w.heap.size 87 [.pointer (some ⟨g, 0, none⟩)] from by rw [← hw1]; exact Blk.new w _ _)
  have S1 := Lib.hid (h.kept k01 (by simp))
  have K1 := Lib.hid (show Kept [gx, g] w w1 from k01.mono (by simp))
  have Y1 := Lib.hid (hy.kept k01 (by simp))
  have M1 := Lib.hid (k01.blk hx (by simp))
  have hs1 := k01.size
  have b0 : w1.cell? ⟨w.heap.size, 0, none⟩ = some (.pointer (some ⟨g, 0, none⟩)) := X1.out.cell 0
  have bl := X1.out.lt
  clear h hx hy k01
  go_enter Try.func14, Try.ntmps14
  go_wp2_with (fail)
  try rw [hw1]
  clear hw1
  refine (clong_any B g s w1 S1.out).mono ?_
  rintro e w2 ⟨hk, v2, x, st, rfl, hV, hs, ht⟩
  obtain ⟨rfl, hx⟩ := hV
  have S2 := Lib.hid hs
  have T2 := Lib.hid ht
  have K2 := Lib.hid (K1.out.trans (hk.mono (G := [gx, g]) (by simp)) (Grows.refl _ _))
  have Y2 := Lib.hid (Y1.out.kept hk (fun k hk ho => by simp at hk; omega))
  have M2 := Lib.hid (hk.blk M1.out (by simp; omega))
  have h2s := hk.size
  clear hk hs ht S1 K1 Y1 M1 X1 b0 bl
  have m0 : w2.cell? ⟨gx, 1, none⟩ = some (.int .u32 (y.req : Int)) := M2.out.cell 1
  have f0 := M2.out.frozen 1
  have ml := M2.out.lt
  obtain ⟨w9, hw9⟩ : ∃ wz, (w2.setCell ⟨gx, 1, none⟩ (.int .u32 (x : Int))) = wz := ⟨_, rfl⟩
  have kM : Kept [gx] w2 w9 := by
    rw [← hw9]
    exact ((Kept.refl _ _).setCell _ _ (.inl (by simp)))
  have FIN := Lib.hid (show FRdO .req y gx B g lo s w (.returned (.tuple #[])) w9 from by
    have hy2 := (Y2.out.kept kM (fun k hk ho => by simp at hk; omega))
    refine ⟨rfl, { y with req := x }, x, st, S2.out.keptB kM (by simp; omega), ?_, { hy2 with hreq := hx }, K2.out.trans (kM.mono (by simp)) (Grows.refl _ _), rfl, T2.out, fun hw => WrM.kept (y := y) hw (K2.out.trans (kM.mono (by simp)) (Grows.refl _ _)) (by simp; omega)⟩
    rw [← hw9]
    exact (M2.out.set 1 (.int .u32 (x : Int))))
  clear kM S2 K2 Y2 M2 
  go_wp2_with (fail)
  try rw [hw9]
  clear hw9
  go_end0
  exact FIN.out

set_option maxRecDepth 100000 in
set_option maxHeartbeats 6400000 in
theorem rfieldo_caps (y : MsgL) (gx B g lo : Nat) (s : List Nat ⊕ Nat) (w : World) (h : CState w B g s) (hx : Blk w gx 38 y.cells) (hgx : B ≤ gx) (hne : gx < g) (hlo : g < lo) (hlw : lo ≤ w.heap.size) (hy : y.In (lo ≤ ·) w) :
    Calls Try.prog 14 #[.pointer (some ⟨g, 0, none⟩), .int .u8 1, .pointer (some ⟨gx, 0, none⟩)] w fun e w' => FRdO .caps y gx B g lo s w e w' := by
  have hgl := h.lt
  have _ := hlw
  obtain ⟨w1, hw1⟩ : ∃ w1, w.alloc (.cells #[.pointer (some ⟨g, 0, none⟩)] 87) = w1 := ⟨_, rfl⟩
  have k01 : Kept [] w w1 := by rw [← hw1]; exact (Kept.refl _ _).alloc _
  have X1 := Lib.hid (show Blk w1 w.heap.size 87 [.pointer (some ⟨g, 0, none⟩)] from by rw [← hw1]; exact Blk.new w _ _)
  have S1 := Lib.hid (h.kept k01 (by simp))
  have K1 := Lib.hid (show Kept [gx, g] w w1 from k01.mono (by simp))
  have Y1 := Lib.hid (hy.kept k01 (by simp))
  have M1 := Lib.hid (k01.blk hx (by simp))
  have hs1 := k01.size
  have b0 : w1.cell? ⟨w.heap.size, 0, none⟩ = some (.pointer (some ⟨g, 0, none⟩)) := X1.out.cell 0
  have bl := X1.out.lt
  clear h hx hy k01
  go_enter Try.func14, Try.ntmps14
  go_wp2_with (fail)
  try rw [hw1]
  clear hw1
  refine (clong_any B g s w1 S1.out).mono ?_
  rintro e w2 ⟨hk, v2, x, st, rfl, hV, hs, ht⟩
  obtain ⟨rfl, hx⟩ := hV
  have S2 := Lib.hid hs
  have T2 := Lib.hid ht
  have K2 := Lib.hid (K1.out.trans (hk.mono (G := [gx, g]) (by simp)) (Grows.refl _ _))
  have Y2 := Lib.hid (Y1.out.kept hk (fun k hk ho => by simp at hk; omega))
  have M2 := Lib.hid (hk.blk M1.out (by simp; omega))
  have h2s := hk.size
  clear hk hs ht S1 K1 Y1 M1 X1 b0 bl
  have m0 : w2.cell? ⟨gx, 2, none⟩ = some (.int .u32 (y.caps : Int)) := M2.out.cell 2
  have f0 := M2.out.frozen 2
  have ml := M2.out.lt
  obtain ⟨w9, hw9⟩ : ∃ wz, (w2.setCell ⟨gx, 2, none⟩ (.int .u32 (x : Int))) = wz := ⟨_, rfl⟩
  have kM : Kept [gx] w2 w9 := by
    rw [← hw9]
    exact ((Kept.refl _ _).setCell _ _ (.inl (by simp)))
  have FIN := Lib.hid (show FRdO .caps y gx B g lo s w (.returned (.tuple #[])) w9 from by
    have hy2 := (Y2.out.kept kM (fun k hk ho => by simp at hk; omega))
    refine ⟨rfl, { y with caps := x }, x, st, S2.out.keptB kM (by simp; omega), ?_, { hy2 with hcaps := hx }, K2.out.trans (kM.mono (by simp)) (Grows.refl _ _), rfl, T2.out, fun hw => WrM.kept (y := y) hw (K2.out.trans (kM.mono (by simp)) (Grows.refl _ _)) (by simp; omega)⟩
    rw [← hw9]
    exact (M2.out.set 2 (.int .u32 (x : Int))))
  clear kM S2 K2 Y2 M2 
  go_wp2_with (fail)
  try rw [hw9]
  clear hw9
  go_end0
  exact FIN.out

set_option maxRecDepth 100000 in
set_option maxHeartbeats 6400000 in
theorem rfieldo_token (y : MsgL) (gx B g lo : Nat) (s : List Nat ⊕ Nat) (w : World) (h : CState w B g s) (hx : Blk w gx 38 y.cells) (hgx : B ≤ gx) (hne : gx < g) (hlo : g < lo) (hlw : lo ≤ w.heap.size) (hy : y.In (lo ≤ ·) w) :
    Calls Try.prog 14 #[.pointer (some ⟨g, 0, none⟩), .int .u8 2, .pointer (some ⟨gx, 0, none⟩)] w fun e w' => FRdO .token y gx B g lo s w e w' := by
  have hgl := h.lt
  have _ := hlw
  obtain ⟨w1, hw1⟩ : ∃ w1, w.alloc (.cells #[.pointer (some ⟨g, 0, none⟩)] 87) = w1 := ⟨_, rfl⟩
  have k01 : Kept [] w w1 := by rw [← hw1]; exact (Kept.refl _ _).alloc _
  have X1 := Lib.hid (show Blk w1 w.heap.size 87 [.pointer (some ⟨g, 0, none⟩)] from by rw [← hw1]; exact Blk.new w _ _)
  have S1 := Lib.hid (h.kept k01 (by simp))
  have K1 := Lib.hid (show Kept [gx, g] w w1 from k01.mono (by simp))
  have Y1 := Lib.hid (hy.kept k01 (by simp))
  have M1 := Lib.hid (k01.blk hx (by simp))
  have hs1 := k01.size
  have b0 : w1.cell? ⟨w.heap.size, 0, none⟩ = some (.pointer (some ⟨g, 0, none⟩)) := X1.out.cell 0
  have bl := X1.out.lt
  clear h hx hy k01
  go_enter Try.func14, Try.ntmps14
  go_wp2_with (fail)
  try rw [hw1]
  clear hw1
  refine (cnum_any 18446744073709551615 B g s w1 S1.out (by decide)).mono ?_
  rintro e w2 ⟨hk, v2, x, st, rfl, hV, hs, ht⟩
  obtain ⟨rfl, hx⟩ := hV
  have S2 := Lib.hid hs
  have T2 := Lib.hid ht
  have K2 := Lib.hid (K1.out.trans (hk.mono (G := [gx, g]) (by simp)) (Grows.refl _ _))
  have Y2 := Lib.hid (Y1.out.kept hk (fun k hk ho => by simp at hk; omega))
  have M2 := Lib.hid (hk.blk M1.out (by simp; omega))
  have h2s := hk.size
  clear hk hs ht S1 K1 Y1 M1 X1 b0 bl
  have m0 : w2.cell? ⟨gx, 3, none⟩ = some (.int .u64 (y.token : Int)) := M2.out.cell 3
  have f0 := M2.out.frozen 3
  have ml := M2.out.lt
  obtain ⟨w9, hw9⟩ : ∃ wz, (w2.setCell ⟨gx, 3, none⟩ (.int .u64 (x : Int))) = wz := ⟨_, rfl⟩
  have kM : Kept [gx] w2 w9 := by
    rw [← hw9]
    exact ((Kept.refl _ _).setCell _ _ (.inl (by simp)))
  have FIN := Lib.hid (show FRdO .token y gx B g lo s w (.returned (.tuple #[])) w9 from by
    have hy2 := (Y2.out.kept kM (fun k hk ho => by simp at hk; omega))
    refine ⟨rfl, { y with token := x }, x, st, S2.out.keptB kM (by simp; omega), ?_, { hy2 with htoken := hx }, K2.out.trans (kM.mono (by simp)) (Grows.refl _ _), rfl, T2.out, fun hw => WrM.kept (y := y) hw (K2.out.trans (kM.mono (by simp)) (Grows.refl _ _)) (by simp; omega)⟩
    rw [← hw9]
    exact (M2.out.set 3 (.int .u64 (x : Int))))
  clear kM S2 K2 Y2 M2 
  go_wp2_with (fail)
  try rw [hw9]
  clear hw9
  go_end0
  exact FIN.out

set_option maxRecDepth 100000 in
set_option maxHeartbeats 6400000 in
theorem rfieldo_code (y : MsgL) (gx B g lo : Nat) (s : List Nat ⊕ Nat) (w : World) (h : CState w B g s) (hx : Blk w gx 38 y.cells) (hgx : B ≤ gx) (hne : gx < g) (hlo : g < lo) (hlw : lo ≤ w.heap.size) (hy : y.In (lo ≤ ·) w) :
    Calls Try.prog 14 #[.pointer (some ⟨g, 0, none⟩), .int .u8 3, .pointer (some ⟨gx, 0, none⟩)] w fun e w' => FRdO .code y gx B g lo s w e w' := by
  have hgl := h.lt
  have _ := hlw
  obtain ⟨w1, hw1⟩ : ∃ w1, w.alloc (.cells #[.pointer (some ⟨g, 0, none⟩)] 87) = w1 := ⟨_, rfl⟩
  have k01 : Kept [] w w1 := by rw [← hw1]; exact (Kept.refl _ _).alloc _
  have X1 := Lib.hid (show Blk w1 w.heap.size 87 [.pointer (some ⟨g, 0, none⟩)] from by rw [← hw1]; exact Blk.new w _ _)
  have S1 := Lib.hid (h.kept k01 (by simp))
  have K1 := Lib.hid (show Kept [gx, g] w w1 from k01.mono (by simp))
  have Y1 := Lib.hid (hy.kept k01 (by simp))
  have M1 := Lib.hid (k01.blk hx (by simp))
  have hs1 := k01.size
  have b0 : w1.cell? ⟨w.heap.size, 0, none⟩ = some (.pointer (some ⟨g, 0, none⟩)) := X1.out.cell 0
  have bl := X1.out.lt
  clear h hx hy k01
  go_enter Try.func14, Try.ntmps14
  go_wp2_with (fail)
  try rw [hw1]
  clear hw1
  refine (cbyte_any B g s w1 S1.out).mono ?_
  rintro e w2 ⟨hk, v2, x, st, rfl, hV, hs, ht⟩
  obtain ⟨rfl, hx⟩ := hV
  have S2 := Lib.hid hs
  have T2 := Lib.hid ht
  have K2 := Lib.hid (K1.out.trans (hk.mono (G := [gx, g]) (by simp)) (Grows.refl _ _))
  have Y2 := Lib.hid (Y1.out.kept hk (fun k hk ho => by simp at hk; omega))
  have M2 := Lib.hid (hk.blk M1.out (by simp; omega))
  have h2s := hk.size
  clear hk hs ht S1 K1 Y1 M1 X1 b0 bl
  have m0 : w2.cell? ⟨gx, 4, none⟩ = some (.int .u8 (y.code : Int)) := M2.out.cell 4
  have f0 := M2.out.frozen 4
  have ml := M2.out.lt
  obtain ⟨w9, hw9⟩ : ∃ wz, (w2.setCell ⟨gx, 4, none⟩ (.int .u8 (x : Int))) = wz := ⟨_, rfl⟩
  have kM : Kept [gx] w2 w9 := by
    rw [← hw9]
    exact ((Kept.refl _ _).setCell _ _ (.inl (by simp)))
  have FIN := Lib.hid (show FRdO .code y gx B g lo s w (.returned (.tuple #[])) w9 from by
    have hy2 := (Y2.out.kept kM (fun k hk ho => by simp at hk; omega))
    refine ⟨rfl, { y with code := x }, x, st, S2.out.keptB kM (by simp; omega), ?_, { hy2 with hcode := hx }, K2.out.trans (kM.mono (by simp)) (Grows.refl _ _), rfl, T2.out, fun hw => WrM.kept (y := y) hw (K2.out.trans (kM.mono (by simp)) (Grows.refl _ _)) (by simp; omega)⟩
    rw [← hw9]
    exact (M2.out.set 4 (.int .u8 (x : Int))))
  clear kM S2 K2 Y2 M2 
  go_wp2_with (fail)
  try rw [hw9]
  clear hw9
  go_end0
  exact FIN.out

set_option maxRecDepth 100000 in
set_option maxHeartbeats 6400000 in
theorem rfieldo_n (y : MsgL) (gx B g lo : Nat) (s : List Nat ⊕ Nat) (w : World) (h : CState w B g s) (hx : Blk w gx 38 y.cells) (hgx : B ≤ gx) (hne : gx < g) (hlo : g < lo) (hlw : lo ≤ w.heap.size) (hy : y.In (lo ≤ ·) w) :
    Calls Try.prog 14 #[.pointer (some ⟨g, 0, none⟩), .int .u8 4, .pointer (some ⟨gx, 0, none⟩)] w fun e w' => FRdO .n y gx B g lo s w e w' := by
  have hgl := h.lt
  have _ := hlw
  obtain ⟨w1, hw1⟩ : ∃ w1, w.alloc (.cells #[.pointer (some ⟨g, 0, none⟩)] 87) = w1 := ⟨_, rfl⟩
  have k01 : Kept [] w w1 := by rw [← hw1]; exact (Kept.refl _ _).alloc _
  have X1 := Lib.hid (show Blk w1 w.heap.size 87 [.pointer (some ⟨g, 0, none⟩)] from by rw [← hw1]; exact Blk.new w _ _)
  have S1 := Lib.hid (h.kept k01 (by simp))
  have K1 := Lib.hid (show Kept [gx, g] w w1 from k01.mono (by simp))
  have Y1 := Lib.hid (hy.kept k01 (by simp))
  have M1 := Lib.hid (k01.blk hx (by simp))
  have hs1 := k01.size
  have b0 : w1.cell? ⟨w.heap.size, 0, none⟩ = some (.pointer (some ⟨g, 0, none⟩)) := X1.out.cell 0
  have bl := X1.out.lt
  clear h hx hy k01
  go_enter Try.func14, Try.ntmps14
  go_wp2_with (fail)
  try rw [hw1]
  clear hw1
  refine (clong_any B g s w1 S1.out).mono ?_
  rintro e w2 ⟨hk, v2, x, st, rfl, hV, hs, ht⟩
  obtain ⟨rfl, hx⟩ := hV
  have S2 := Lib.hid hs
  have T2 := Lib.hid ht
  have K2 := Lib.hid (K1.out.trans (hk.mono (G := [gx, g]) (by simp)) (Grows.refl _ _))
  have Y2 := Lib.hid (Y1.out.kept hk (fun k hk ho => by simp at hk; omega))
  have M2 := Lib.hid (hk.blk M1.out (by simp; omega))
  have h2s := hk.size
  clear hk hs ht S1 K1 Y1 M1 X1 b0 bl
  have m0 : w2.cell? ⟨gx, 5, none⟩ = some (.int .u32 (y.n : Int)) := M2.out.cell 5
  have f0 := M2.out.frozen 5
  have ml := M2.out.lt
  obtain ⟨w9, hw9⟩ : ∃ wz, (w2.setCell ⟨gx, 5, none⟩ (.int .u32 (x : Int))) = wz := ⟨_, rfl⟩
  have kM : Kept [gx] w2 w9 := by
    rw [← hw9]
    exact ((Kept.refl _ _).setCell _ _ (.inl (by simp)))
  have FIN := Lib.hid (show FRdO .n y gx B g lo s w (.returned (.tuple #[])) w9 from by
    have hy2 := (Y2.out.kept kM (fun k hk ho => by simp at hk; omega))
    refine ⟨rfl, { y with n := x }, x, st, S2.out.keptB kM (by simp; omega), ?_, { hy2 with hn := hx }, K2.out.trans (kM.mono (by simp)) (Grows.refl _ _), rfl, T2.out, fun hw => WrM.kept (y := y) hw (K2.out.trans (kM.mono (by simp)) (Grows.refl _ _)) (by simp; omega)⟩
    rw [← hw9]
    exact (M2.out.set 5 (.int .u32 (x : Int))))
  clear kM S2 K2 Y2 M2 
  go_wp2_with (fail)
  try rw [hw9]
  clear hw9
  go_end0
  exact FIN.out

set_option maxRecDepth 100000 in
set_option maxHeartbeats 6400000 in
theorem rfieldo_name (y : MsgL) (gx B g lo : Nat) (s : List Nat ⊕ Nat) (w : World) (h : CState w B g s) (hx : Blk w gx 38 y.cells) (hgx : B ≤ gx) (hne : gx < g) (hlo : g < lo) (hlw : lo ≤ w.heap.size) (hy : y.In (lo ≤ ·) w) :
    Calls Try.prog 14 #[.pointer (some ⟨g, 0, none⟩), .int .u8 5, .pointer (some ⟨gx, 0, none⟩)] w fun e w' => FRdO .name y gx B g lo s w e w' := by
  have hgl := h.lt
  have _ := hlw
  obtain ⟨w1, hw1⟩ : ∃ w1, w.alloc (.cells #[.pointer (some ⟨g, 0, none⟩)] 87) = w1 := ⟨_, rfl⟩
  have k01 : Kept [] w w1 := by rw [← hw1]; exact (Kept.refl _ _).alloc _
  have X1 := Lib.hid (show Blk w1 w.heap.size 87 [.pointer (some ⟨g, 0, none⟩)] from by rw [← hw1]; exact Blk.new w _ _)
  have S1 := Lib.hid (h.kept k01 (by simp))
  have K1 := Lib.hid (show Kept [gx, g] w w1 from k01.mono (by simp))
  have Y1 := Lib.hid (hy.kept k01 (by simp))
  have M1 := Lib.hid (k01.blk hx (by simp))
  have hs1 := k01.size
  have b0 : w1.cell? ⟨w.heap.size, 0, none⟩ = some (.pointer (some ⟨g, 0, none⟩)) := X1.out.cell 0
  have bl := X1.out.lt
  clear h hx hy k01
  go_enter Try.func14, Try.ntmps14
  go_wp2_with (fail)
  try rw [hw1]
  clear hw1
  refine (ctext_any B g s w1 S1.out).mono ?_
  rintro e w2 ⟨hk, v2, x, st, rfl, hV, hs, ht⟩
  obtain ⟨xs, rfl, rfl, hx⟩ := hV
  have S2 := Lib.hid hs
  have T2 := Lib.hid ht
  have K2 := Lib.hid (K1.out.trans (hk.mono (G := [gx, g]) (by simp)) (Grows.refl _ _))
  have Y2 := Lib.hid (Y1.out.kept hk (fun k hk ho => by simp at hk; omega))
  have M2 := Lib.hid (hk.blk M1.out (by simp; omega))
  have h2s := hk.size
  clear hk hs ht S1 K1 Y1 M1 X1 b0 bl
  have m0 : w2.cell? ⟨gx, 6, none⟩ = some (.string y.name) := M2.out.cell 6
  have f0 := M2.out.frozen 6
  have ml := M2.out.lt
  obtain ⟨w9, hw9⟩ : ∃ wz, (w2.setCell ⟨gx, 6, none⟩ (.string xs)) = wz := ⟨_, rfl⟩
  have kM : Kept [gx] w2 w9 := by
    rw [← hw9]
    exact ((Kept.refl _ _).setCell _ _ (.inl (by simp)))
  have FIN := Lib.hid (show FRdO .name y gx B g lo s w (.returned (.tuple #[])) w9 from by
    have hy2 := (Y2.out.kept kM (fun k hk ho => by simp at hk; omega))
    refine ⟨rfl, { y with name := xs }, strB xs, st, S2.out.keptB kM (by simp; omega), ?_, { hy2 with hname := Nat.le_trans hx (by decide) }, K2.out.trans (kM.mono (by simp)) (Grows.refl _ _), rfl, T2.out, fun hw => WrM.kept (y := y) hw (K2.out.trans (kM.mono (by simp)) (Grows.refl _ _)) (by simp; omega)⟩
    rw [← hw9]
    exact (M2.out.set 6 (.string xs)))
  clear kM S2 K2 Y2 M2 
  go_wp2_with (fail)
  try rw [hw9]
  clear hw9
  go_end0
  exact FIN.out

set_option maxRecDepth 100000 in
set_option maxHeartbeats 6400000 in
theorem rfieldo_conf (y : MsgL) (gx B g lo : Nat) (s : List Nat ⊕ Nat) (w : World) (h : CState w B g s) (hx : Blk w gx 38 y.cells) (hgx : B ≤ gx) (hne : gx < g) (hlo : g < lo) (hlw : lo ≤ w.heap.size) (hy : y.In (lo ≤ ·) w) :
    Calls Try.prog 14 #[.pointer (some ⟨g, 0, none⟩), .int .u8 6, .pointer (some ⟨gx, 0, none⟩)] w fun e w' => FRdO .conf y gx B g lo s w e w' := by
  have hgl := h.lt
  have _ := hlw
  obtain ⟨w1, hw1⟩ : ∃ w1, w.alloc (.cells #[.pointer (some ⟨g, 0, none⟩)] 87) = w1 := ⟨_, rfl⟩
  have k01 : Kept [] w w1 := by rw [← hw1]; exact (Kept.refl _ _).alloc _
  have X1 := Lib.hid (show Blk w1 w.heap.size 87 [.pointer (some ⟨g, 0, none⟩)] from by rw [← hw1]; exact Blk.new w _ _)
  have S1 := Lib.hid (h.kept k01 (by simp))
  have K1 := Lib.hid (show Kept [gx, g] w w1 from k01.mono (by simp))
  have Y1 := Lib.hid (hy.kept k01 (by simp))
  have M1 := Lib.hid (k01.blk hx (by simp))
  have hs1 := k01.size
  have b0 : w1.cell? ⟨w.heap.size, 0, none⟩ = some (.pointer (some ⟨g, 0, none⟩)) := X1.out.cell 0
  have bl := X1.out.lt
  clear h hx hy k01
  go_enter Try.func14, Try.ntmps14
  go_wp2_with (fail)
  try rw [hw1]
  clear hw1
  refine (cconf_any B g s w1 S1.out).mono ?_
  rintro e w2 ⟨hk, v2, x, st, rfl, hV, hs, ht⟩
  obtain ⟨xs, rfl, hx0, hx1, hx2, hx3, hx4, hx5⟩ := hV
  have S2 := Lib.hid hs
  have T2 := Lib.hid ht
  have K2 := Lib.hid (K1.out.trans (hk.mono (G := [gx, g]) (by simp)) (Grows.refl _ _))
  have Y2 := Lib.hid (Y1.out.kept hk (fun k hk ho => by simp at hk; omega))
  have M2 := Lib.hid (hk.blk M1.out (by simp; omega))
  have h2s := hk.size
  clear hk hs ht S1 K1 Y1 M1 X1 b0 bl
  have m0 : w2.cell? ⟨gx, 7, none⟩ = some (.string y.cname) := M2.out.cell 7
  have f0 := M2.out.frozen 7
  have m1 : w2.cell? ⟨gx, 8, none⟩ = some (.int .u8 (y.dim : Int)) := M2.out.cell 8
  have f1 := M2.out.frozen 8
  have m2 : w2.cell? ⟨gx, 9, none⟩ = some (.int .u8 (y.metric : Int)) := M2.out.cell 9
  have f2 := M2.out.frozen 9
  have m3 : w2.cell? ⟨gx, 10, none⟩ = some (.bool y.graph) := M2.out.cell 10
  have f3 := M2.out.frozen 10
  have m4 : w2.cell? ⟨gx, 11, none⟩ = some (.int .u8 (y.links : Int)) := M2.out.cell 11
  have f4 := M2.out.frozen 11
  have m5 : w2.cell? ⟨gx, 12, none⟩ = some (.int .u16 (y.cwidth : Int)) := M2.out.cell 12
  have f5 := M2.out.frozen 12
  have ml := M2.out.lt
  obtain ⟨w9, hw9⟩ : ∃ wz, ((((((w2.setCell ⟨gx, 7, none⟩ (.string xs)).setCell ⟨gx, 8, none⟩ (.int .u8 (x.dim : Int))).setCell ⟨gx, 9, none⟩ (.int .u8 (x.metric : Int))).setCell ⟨gx, 10, none⟩ (.bool x.graph)).setCell ⟨gx, 11, none⟩ (.int .u8 (x.links : Int))).setCell ⟨gx, 12, none⟩ (.int .u16 (x.width : Int))) = wz := ⟨_, rfl⟩
  have kM : Kept [gx] w2 w9 := by
    rw [← hw9]
    exact (((((((Kept.refl _ _).setCell _ _ (.inl (by simp))).setCell _ _ (.inl (by simp))).setCell _ _ (.inl (by simp))).setCell _ _ (.inl (by simp))).setCell _ _ (.inl (by simp))).setCell _ _ (.inl (by simp)))
  have FIN := Lib.hid (show FRdO .conf y gx B g lo s w (.returned (.tuple #[])) w9 from by
    have hy2 := (Y2.out.kept kM (fun k hk ho => by simp at hk; omega))
    refine ⟨rfl, { y with cname := xs, dim := x.dim, metric := x.metric, graph := x.graph, links := x.links, cwidth := x.width }, x, st, S2.out.keptB kM (by simp; omega), ?_, { hy2 with hcname := Nat.le_trans hx1 (by decide), hdim := hx2, hmetric := hx3, hlinks := hx4, hcwidth := hx5 }, K2.out.trans (kM.mono (by simp)) (Grows.refl _ _), by rw [show x = ⟨x.name, x.dim, x.metric, x.graph, x.links, x.width⟩ from rfl, ← hx0]; rfl, T2.out, fun hw => WrM.kept (y := y) hw (K2.out.trans (kM.mono (by simp)) (Grows.refl _ _)) (by simp; omega)⟩
    rw [← hw9]
    exact ((((((M2.out.set 7 (.string xs)).set 8 (.int .u8 (x.dim : Int))).set 9 (.int .u8 (x.metric : Int))).set 10 (.bool x.graph)).set 11 (.int .u8 (x.links : Int))).set 12 (.int .u16 (x.width : Int))))
  clear kM S2 K2 Y2 M2 
  go_wp2_with (fail)
  try rw [hw9]
  clear hw9
  go_end0
  exact FIN.out

set_option maxRecDepth 100000 in
set_option maxHeartbeats 6400000 in
theorem rfieldo_changes (y : MsgL) (gx B g lo : Nat) (s : List Nat ⊕ Nat) (w : World) (h : CState w B g s) (hx : Blk w gx 38 y.cells) (hgx : B ≤ gx) (hne : gx < g) (hlo : g < lo) (hlw : lo ≤ w.heap.size) (hy : y.In (lo ≤ ·) w) :
    Calls Try.prog 14 #[.pointer (some ⟨g, 0, none⟩), .int .u8 7, .pointer (some ⟨gx, 0, none⟩)] w fun e w' => FRdO .changes y gx B g lo s w e w' := by
  have hgl := h.lt
  have _ := hlw
  obtain ⟨w1, hw1⟩ : ∃ w1, w.alloc (.cells #[.pointer (some ⟨g, 0, none⟩)] 87) = w1 := ⟨_, rfl⟩
  have k01 : Kept [] w w1 := by rw [← hw1]; exact (Kept.refl _ _).alloc _
  have X1 := Lib.hid (show Blk w1 w.heap.size 87 [.pointer (some ⟨g, 0, none⟩)] from by rw [← hw1]; exact Blk.new w _ _)
  have S1 := Lib.hid (h.kept k01 (by simp))
  have K1 := Lib.hid (show Kept [gx, g] w w1 from k01.mono (by simp))
  have Y1 := Lib.hid (hy.kept k01 (by simp))
  have M1 := Lib.hid (k01.blk hx (by simp))
  have hs1 := k01.size
  have b0 : w1.cell? ⟨w.heap.size, 0, none⟩ = some (.pointer (some ⟨g, 0, none⟩)) := X1.out.cell 0
  have bl := X1.out.lt
  clear h hx hy k01
  go_enter Try.func14, Try.ntmps14
  go_wp2_with (fail)
  try rw [hw1]
  clear hw1
  refine (cchanges_any B g s w1 S1.out).mono ?_
  rintro e w2 ⟨hk, v2, x, st, rfl, hV, hs, ht⟩
  obtain ⟨pp, xs, rfl, hr, hxs⟩ := hV.sl
  have S2 := Lib.hid hs
  have T2 := Lib.hid ht
  have K2 := Lib.hid (K1.out.trans (hk.mono (G := [gx, g]) (by simp)) (Grows.refl _ _))
  have Y2 := Lib.hid (Y1.out.kept hk (fun k hk ho => by simp at hk; omega))
  have M2 := Lib.hid (hk.blk M1.out (by simp; omega))
  have h2s := hk.size
  have RL := Lib.hid (show Rd (lo ≤ ·) w2 shChanges [.slice pp.a pp.n pp.c] xs from hr.mono (fun k hk _ => by omega))
  clear hk hs ht S1 K1 Y1 M1 X1 b0 bl
  have m0 : w2.cell? ⟨gx, 13, none⟩ = some (.slice y.pch.a y.pch.n y.pch.c) := M2.out.cell 13
  have f0 := M2.out.frozen 13
  have ml := M2.out.lt
  obtain ⟨w9, hw9⟩ : ∃ wz, (w2.setCell ⟨gx, 13, none⟩ (.slice pp.a pp.n pp.c)) = wz := ⟨_, rfl⟩
  have kM : Kept [gx] w2 w9 := by
    rw [← hw9]
    exact ((Kept.refl _ _).setCell _ _ (.inl (by simp)))
  have RR := Lib.hid (RL.out.kept kM (fun k hk ho => by simp at hk; omega))
  have FIN := Lib.hid (show FRdO .changes y gx B g lo s w (.returned (.tuple #[])) w9 from by
    have hy2 := (Y2.out.kept kM (fun k hk ho => by simp at hk; omega))
    refine ⟨rfl, { y with pch := pp, changes := xs }, x, st, S2.out.keptB kM (by simp; omega), ?_, { hy2 with hchanges := RR.out }, K2.out.trans (kM.mono (by simp)) (Grows.refl _ _), by rw [← hxs]; rfl, T2.out, fun hw => WrM.kept (y := y) hw (K2.out.trans (kM.mono (by simp)) (Grows.refl _ _)) (by simp; omega)⟩
    rw [← hw9]
    exact (M2.out.set 13 (.slice pp.a pp.n pp.c)))
  clear kM S2 K2 Y2 M2 RL RR
  go_wp2_with (fail)
  try rw [hw9]
  clear hw9
  go_end0
  exact FIN.out

set_option maxRecDepth 100000 in
set_option maxHeartbeats 6400000 in
theorem rfieldo_id (y : MsgL) (gx B g lo : Nat) (s : List Nat ⊕ Nat) (w : World) (h : CState w B g s) (hx : Blk w gx 38 y.cells) (hgx : B ≤ gx) (hne : gx < g) (hlo : g < lo) (hlw : lo ≤ w.heap.size) (hy : y.In (lo ≤ ·) w) :
    Calls Try.prog 14 #[.pointer (some ⟨g, 0, none⟩), .int .u8 8, .pointer (some ⟨gx, 0, none⟩)] w fun e w' => FRdO .id y gx B g lo s w e w' := by
  have hgl := h.lt
  have _ := hlw
  obtain ⟨w1, hw1⟩ : ∃ w1, w.alloc (.cells #[.pointer (some ⟨g, 0, none⟩)] 87) = w1 := ⟨_, rfl⟩
  have k01 : Kept [] w w1 := by rw [← hw1]; exact (Kept.refl _ _).alloc _
  have X1 := Lib.hid (show Blk w1 w.heap.size 87 [.pointer (some ⟨g, 0, none⟩)] from by rw [← hw1]; exact Blk.new w _ _)
  have S1 := Lib.hid (h.kept k01 (by simp))
  have K1 := Lib.hid (show Kept [gx, g] w w1 from k01.mono (by simp))
  have Y1 := Lib.hid (hy.kept k01 (by simp))
  have M1 := Lib.hid (k01.blk hx (by simp))
  have hs1 := k01.size
  have b0 : w1.cell? ⟨w.heap.size, 0, none⟩ = some (.pointer (some ⟨g, 0, none⟩)) := X1.out.cell 0
  have bl := X1.out.lt
  clear h hx hy k01
  go_enter Try.func14, Try.ntmps14
  go_wp2_with (fail)
  try rw [hw1]
  clear hw1
  refine (clong_any B g s w1 S1.out).mono ?_
  rintro e w2 ⟨hk, v2, x, st, rfl, hV, hs, ht⟩
  obtain ⟨rfl, hx⟩ := hV
  have S2 := Lib.hid hs
  have T2 := Lib.hid ht
  have K2 := Lib.hid (K1.out.trans (hk.mono (G := [gx, g]) (by simp)) (Grows.refl _ _))
  have Y2 := Lib.hid (Y1.out.kept hk (fun k hk ho => by simp at hk; omega))
  have M2 := Lib.hid (hk.blk M1.out (by simp; omega))
  have h2s := hk.size
  clear hk hs ht S1 K1 Y1 M1 X1 b0 bl
  have m0 : w2.cell? ⟨gx, 14, none⟩ = some (.int .u32 (y.id : Int)) := M2.out.cell 14
  have f0 := M2.out.frozen 14
  have ml := M2.out.lt
  obtain ⟨w9, hw9⟩ : ∃ wz, (w2.setCell ⟨gx, 14, none⟩ (.int .u32 (x : Int))) = wz := ⟨_, rfl⟩
  have kM : Kept [gx] w2 w9 := by
    rw [← hw9]
    exact ((Kept.refl _ _).setCell _ _ (.inl (by simp)))
  have FIN := Lib.hid (show FRdO .id y gx B g lo s w (.returned (.tuple #[])) w9 from by
    have hy2 := (Y2.out.kept kM (fun k hk ho => by simp at hk; omega))
    refine ⟨rfl, { y with id := x }, x, st, S2.out.keptB kM (by simp; omega), ?_, { hy2 with hid := hx }, K2.out.trans (kM.mono (by simp)) (Grows.refl _ _), rfl, T2.out, fun hw => WrM.kept (y := y) hw (K2.out.trans (kM.mono (by simp)) (Grows.refl _ _)) (by simp; omega)⟩
    rw [← hw9]
    exact (M2.out.set 14 (.int .u32 (x : Int))))
  clear kM S2 K2 Y2 M2 
  go_wp2_with (fail)
  try rw [hw9]
  clear hw9
  go_end0
  exact FIN.out

set_option maxRecDepth 100000 in
set_option maxHeartbeats 6400000 in
theorem rfieldo_vec (y : MsgL) (gx B g lo : Nat) (s : List Nat ⊕ Nat) (w : World) (h : CState w B g s) (hx : Blk w gx 38 y.cells) (hgx : B ≤ gx) (hne : gx < g) (hlo : g < lo) (hlw : lo ≤ w.heap.size) (hy : y.In (lo ≤ ·) w) :
    Calls Try.prog 14 #[.pointer (some ⟨g, 0, none⟩), .int .u8 9, .pointer (some ⟨gx, 0, none⟩)] w fun e w' => FRdO .vec y gx B g lo s w e w' := by
  have hgl := h.lt
  have _ := hlw
  obtain ⟨w1, hw1⟩ : ∃ w1, w.alloc (.cells #[.pointer (some ⟨g, 0, none⟩)] 87) = w1 := ⟨_, rfl⟩
  have k01 : Kept [] w w1 := by rw [← hw1]; exact (Kept.refl _ _).alloc _
  have X1 := Lib.hid (show Blk w1 w.heap.size 87 [.pointer (some ⟨g, 0, none⟩)] from by rw [← hw1]; exact Blk.new w _ _)
  have S1 := Lib.hid (h.kept k01 (by simp))
  have K1 := Lib.hid (show Kept [gx, g] w w1 from k01.mono (by simp))
  have Y1 := Lib.hid (hy.kept k01 (by simp))
  have M1 := Lib.hid (k01.blk hx (by simp))
  have hs1 := k01.size
  have b0 : w1.cell? ⟨w.heap.size, 0, none⟩ = some (.pointer (some ⟨g, 0, none⟩)) := X1.out.cell 0
  have bl := X1.out.lt
  clear h hx hy k01
  go_enter Try.func14, Try.ntmps14
  go_wp2_with (fail)
  try rw [hw1]
  clear hw1
  refine (cveco_any B g s w1 S1.out).mono ?_
  rintro e w2 ⟨hk, v2, x, st, rfl, ⟨hV, hwv⟩, hs, ht⟩
  obtain ⟨pp, xs, rfl, hr, hxs⟩ := hV.sl
  have WV := Lib.hid ((hwv pp rfl).mono (show lo ≤ _ by omega))
  clear hwv
  have S2 := Lib.hid hs
  have T2 := Lib.hid ht
  have K2 := Lib.hid (K1.out.trans (hk.mono (G := [gx, g]) (by simp)) (Grows.refl _ _))
  have Y2 := Lib.hid (Y1.out.kept hk (fun k hk ho => by simp at hk; omega))
  have M2 := Lib.hid (hk.blk M1.out (by simp; omega))
  have h2s := hk.size
  have RL := Lib.hid (show Rd (lo ≤ ·) w2 shVec [.slice pp.a pp.n pp.c] xs from hr.mono (fun k hk _ => by omega))
  clear hk hs ht S1 K1 Y1 M1 X1 b0 bl
  have m0 : w2.cell? ⟨gx, 15, none⟩ = some (.slice y.pvec.a y.pvec.n y.pvec.c) := M2.out.cell 15
  have f0 := M2.out.frozen 15
  have ml := M2.out.lt
  obtain ⟨w9, hw9⟩ : ∃ wz, (w2.setCell ⟨gx, 15, none⟩ (.slice pp.a pp.n pp.c)) = wz := ⟨_, rfl⟩
  have kM : Kept [gx] w2 w9 := by
    rw [← hw9]
    exact ((Kept.refl _ _).setCell _ _ (.inl (by simp)))
  have RR := Lib.hid (RL.out.kept kM (fun k hk ho => by simp at hk; omega))
  have FIN := Lib.hid (show FRdO .vec y gx B g lo s w (.returned (.tuple #[])) w9 from by
    have hy2 := (Y2.out.kept kM (fun k hk ho => by simp at hk; omega))
    refine ⟨rfl, { y with pvec := pp, vec := xs }, x, st, S2.out.keptB kM (by simp; omega), ?_, { hy2 with hvec := RR.out }, K2.out.trans (kM.mono (by simp)) (Grows.refl _ _), by rw [← hxs]; rfl, T2.out, fun hw => ⟨(WrM.kept (y := y) hw (K2.out.trans (kM.mono (by simp)) (Grows.refl _ _)) (by simp; omega)).1, WV.out.kept kM (by simp; omega)⟩⟩
    rw [← hw9]
    exact (M2.out.set 15 (.slice pp.a pp.n pp.c)))
  clear kM S2 K2 Y2 M2 RL RR
  go_wp2_with (fail)
  try rw [hw9]
  clear hw9
  go_end0
  exact FIN.out

set_option maxRecDepth 100000 in
set_option maxHeartbeats 6400000 in
theorem rfieldo_k (y : MsgL) (gx B g lo : Nat) (s : List Nat ⊕ Nat) (w : World) (h : CState w B g s) (hx : Blk w gx 38 y.cells) (hgx : B ≤ gx) (hne : gx < g) (hlo : g < lo) (hlw : lo ≤ w.heap.size) (hy : y.In (lo ≤ ·) w) :
    Calls Try.prog 14 #[.pointer (some ⟨g, 0, none⟩), .int .u8 10, .pointer (some ⟨gx, 0, none⟩)] w fun e w' => FRdO .k y gx B g lo s w e w' := by
  have hgl := h.lt
  have _ := hlw
  obtain ⟨w1, hw1⟩ : ∃ w1, w.alloc (.cells #[.pointer (some ⟨g, 0, none⟩)] 87) = w1 := ⟨_, rfl⟩
  have k01 : Kept [] w w1 := by rw [← hw1]; exact (Kept.refl _ _).alloc _
  have X1 := Lib.hid (show Blk w1 w.heap.size 87 [.pointer (some ⟨g, 0, none⟩)] from by rw [← hw1]; exact Blk.new w _ _)
  have S1 := Lib.hid (h.kept k01 (by simp))
  have K1 := Lib.hid (show Kept [gx, g] w w1 from k01.mono (by simp))
  have Y1 := Lib.hid (hy.kept k01 (by simp))
  have M1 := Lib.hid (k01.blk hx (by simp))
  have hs1 := k01.size
  have b0 : w1.cell? ⟨w.heap.size, 0, none⟩ = some (.pointer (some ⟨g, 0, none⟩)) := X1.out.cell 0
  have bl := X1.out.lt
  clear h hx hy k01
  go_enter Try.func14, Try.ntmps14
  go_wp2_with (fail)
  try rw [hw1]
  clear hw1
  refine (cshort_any B g s w1 S1.out).mono ?_
  rintro e w2 ⟨hk, v2, x, st, rfl, hV, hs, ht⟩
  obtain ⟨rfl, hx⟩ := hV
  have S2 := Lib.hid hs
  have T2 := Lib.hid ht
  have K2 := Lib.hid (K1.out.trans (hk.mono (G := [gx, g]) (by simp)) (Grows.refl _ _))
  have Y2 := Lib.hid (Y1.out.kept hk (fun k hk ho => by simp at hk; omega))
  have M2 := Lib.hid (hk.blk M1.out (by simp; omega))
  have h2s := hk.size
  clear hk hs ht S1 K1 Y1 M1 X1 b0 bl
  have m0 : w2.cell? ⟨gx, 16, none⟩ = some (.int .u16 (y.k : Int)) := M2.out.cell 16
  have f0 := M2.out.frozen 16
  have ml := M2.out.lt
  obtain ⟨w9, hw9⟩ : ∃ wz, (w2.setCell ⟨gx, 16, none⟩ (.int .u16 (x : Int))) = wz := ⟨_, rfl⟩
  have kM : Kept [gx] w2 w9 := by
    rw [← hw9]
    exact ((Kept.refl _ _).setCell _ _ (.inl (by simp)))
  have FIN := Lib.hid (show FRdO .k y gx B g lo s w (.returned (.tuple #[])) w9 from by
    have hy2 := (Y2.out.kept kM (fun k hk ho => by simp at hk; omega))
    refine ⟨rfl, { y with k := x }, x, st, S2.out.keptB kM (by simp; omega), ?_, { hy2 with hk := hx }, K2.out.trans (kM.mono (by simp)) (Grows.refl _ _), rfl, T2.out, fun hw => WrM.kept (y := y) hw (K2.out.trans (kM.mono (by simp)) (Grows.refl _ _)) (by simp; omega)⟩
    rw [← hw9]
    exact (M2.out.set 16 (.int .u16 (x : Int))))
  clear kM S2 K2 Y2 M2 
  go_wp2_with (fail)
  try rw [hw9]
  clear hw9
  go_end0
  exact FIN.out

set_option maxRecDepth 100000 in
set_option maxHeartbeats 6400000 in
theorem rfieldo_width (y : MsgL) (gx B g lo : Nat) (s : List Nat ⊕ Nat) (w : World) (h : CState w B g s) (hx : Blk w gx 38 y.cells) (hgx : B ≤ gx) (hne : gx < g) (hlo : g < lo) (hlw : lo ≤ w.heap.size) (hy : y.In (lo ≤ ·) w) :
    Calls Try.prog 14 #[.pointer (some ⟨g, 0, none⟩), .int .u8 11, .pointer (some ⟨gx, 0, none⟩)] w fun e w' => FRdO .width y gx B g lo s w e w' := by
  have hgl := h.lt
  have _ := hlw
  obtain ⟨w1, hw1⟩ : ∃ w1, w.alloc (.cells #[.pointer (some ⟨g, 0, none⟩)] 87) = w1 := ⟨_, rfl⟩
  have k01 : Kept [] w w1 := by rw [← hw1]; exact (Kept.refl _ _).alloc _
  have X1 := Lib.hid (show Blk w1 w.heap.size 87 [.pointer (some ⟨g, 0, none⟩)] from by rw [← hw1]; exact Blk.new w _ _)
  have S1 := Lib.hid (h.kept k01 (by simp))
  have K1 := Lib.hid (show Kept [gx, g] w w1 from k01.mono (by simp))
  have Y1 := Lib.hid (hy.kept k01 (by simp))
  have M1 := Lib.hid (k01.blk hx (by simp))
  have hs1 := k01.size
  have b0 : w1.cell? ⟨w.heap.size, 0, none⟩ = some (.pointer (some ⟨g, 0, none⟩)) := X1.out.cell 0
  have bl := X1.out.lt
  clear h hx hy k01
  go_enter Try.func14, Try.ntmps14
  go_wp2_with (fail)
  try rw [hw1]
  clear hw1
  refine (cshort_any B g s w1 S1.out).mono ?_
  rintro e w2 ⟨hk, v2, x, st, rfl, hV, hs, ht⟩
  obtain ⟨rfl, hx⟩ := hV
  have S2 := Lib.hid hs
  have T2 := Lib.hid ht
  have K2 := Lib.hid (K1.out.trans (hk.mono (G := [gx, g]) (by simp)) (Grows.refl _ _))
  have Y2 := Lib.hid (Y1.out.kept hk (fun k hk ho => by simp at hk; omega))
  have M2 := Lib.hid (hk.blk M1.out (by simp; omega))
  have h2s := hk.size
  clear hk hs ht S1 K1 Y1 M1 X1 b0 bl
  have m0 : w2.cell? ⟨gx, 17, none⟩ = some (.int .u16 (y.width : Int)) := M2.out.cell 17
  have f0 := M2.out.frozen 17
  have ml := M2.out.lt
  obtain ⟨w9, hw9⟩ : ∃ wz, (w2.setCell ⟨gx, 17, none⟩ (.int .u16 (x : Int))) = wz := ⟨_, rfl⟩
  have kM : Kept [gx] w2 w9 := by
    rw [← hw9]
    exact ((Kept.refl _ _).setCell _ _ (.inl (by simp)))
  have FIN := Lib.hid (show FRdO .width y gx B g lo s w (.returned (.tuple #[])) w9 from by
    have hy2 := (Y2.out.kept kM (fun k hk ho => by simp at hk; omega))
    refine ⟨rfl, { y with width := x }, x, st, S2.out.keptB kM (by simp; omega), ?_, { hy2 with hwidth := hx }, K2.out.trans (kM.mono (by simp)) (Grows.refl _ _), rfl, T2.out, fun hw => WrM.kept (y := y) hw (K2.out.trans (kM.mono (by simp)) (Grows.refl _ _)) (by simp; omega)⟩
    rw [← hw9]
    exact (M2.out.set 17 (.int .u16 (x : Int))))
  clear kM S2 K2 Y2 M2 
  go_wp2_with (fail)
  try rw [hw9]
  clear hw9
  go_end0
  exact FIN.out

set_option maxRecDepth 100000 in
set_option maxHeartbeats 6400000 in
theorem rfieldo_filter (y : MsgL) (gx B g lo : Nat) (s : List Nat ⊕ Nat) (w : World) (h : CState w B g s) (hx : Blk w gx 38 y.cells) (hgx : B ≤ gx) (hne : gx < g) (hlo : g < lo) (hlw : lo ≤ w.heap.size) (hy : y.In (lo ≤ ·) w) :
    Calls Try.prog 14 #[.pointer (some ⟨g, 0, none⟩), .int .u8 12, .pointer (some ⟨gx, 0, none⟩)] w fun e w' => FRdO .filter y gx B g lo s w e w' := by
  have hgl := h.lt
  have _ := hlw
  obtain ⟨w1, hw1⟩ : ∃ w1, w.alloc (.cells #[.pointer (some ⟨g, 0, none⟩)] 87) = w1 := ⟨_, rfl⟩
  have k01 : Kept [] w w1 := by rw [← hw1]; exact (Kept.refl _ _).alloc _
  have X1 := Lib.hid (show Blk w1 w.heap.size 87 [.pointer (some ⟨g, 0, none⟩)] from by rw [← hw1]; exact Blk.new w _ _)
  have S1 := Lib.hid (h.kept k01 (by simp))
  have K1 := Lib.hid (show Kept [gx, g] w w1 from k01.mono (by simp))
  have Y1 := Lib.hid (hy.kept k01 (by simp))
  have M1 := Lib.hid (k01.blk hx (by simp))
  have hs1 := k01.size
  have b0 : w1.cell? ⟨w.heap.size, 0, none⟩ = some (.pointer (some ⟨g, 0, none⟩)) := X1.out.cell 0
  have bl := X1.out.lt
  clear h hx hy k01
  go_enter Try.func14, Try.ntmps14
  go_wp2_with (fail)
  try rw [hw1]
  clear hw1
  refine (cfilter_any B g s w1 S1.out).mono ?_
  rintro e w2 ⟨hk, v2, x, st, rfl, hV, hs, ht⟩
  obtain ⟨pa, pb, pc, xa, xb, xc, rfl, hra, hrb, hrc, rfl⟩ := hV
  have S2 := Lib.hid hs
  have T2 := Lib.hid ht
  have K2 := Lib.hid (K1.out.trans (hk.mono (G := [gx, g]) (by simp)) (Grows.refl _ _))
  have Y2 := Lib.hid (Y1.out.kept hk (fun k hk ho => by simp at hk; omega))
  have M2 := Lib.hid (hk.blk M1.out (by simp; omega))
  have h2s := hk.size
  have RLa := Lib.hid (show Rd (lo ≤ ·) w2 shTags [.slice pa.a pa.n pa.c] xa from hra.mono (fun k hk _ => by omega))
  have RLb := Lib.hid (show Rd (lo ≤ ·) w2 shTags [.slice pb.a pb.n pb.c] xb from hrb.mono (fun k hk _ => by omega))
  have RLc := Lib.hid (show Rd (lo ≤ ·) w2 shTags [.slice pc.a pc.n pc.c] xc from hrc.mono (fun k hk _ => by omega))
  clear hk hs ht S1 K1 Y1 M1 X1 b0 bl
  have m0 : w2.cell? ⟨gx, 18, none⟩ = some (.slice y.pall.a y.pall.n y.pall.c) := M2.out.cell 18
  have f0 := M2.out.frozen 18
  have m1 : w2.cell? ⟨gx, 19, none⟩ = some (.slice y.pany.a y.pany.n y.pany.c) := M2.out.cell 19
  have f1 := M2.out.frozen 19
  have m2 : w2.cell? ⟨gx, 20, none⟩ = some (.slice y.pno.a y.pno.n y.pno.c) := M2.out.cell 20
  have f2 := M2.out.frozen 20
  have ml := M2.out.lt
  obtain ⟨w9, hw9⟩ : ∃ wz, (((w2.setCell ⟨gx, 18, none⟩ (.slice pa.a pa.n pa.c)).setCell ⟨gx, 19, none⟩ (.slice pb.a pb.n pb.c)).setCell ⟨gx, 20, none⟩ (.slice pc.a pc.n pc.c)) = wz := ⟨_, rfl⟩
  have kM : Kept [gx] w2 w9 := by
    rw [← hw9]
    exact ((((Kept.refl _ _).setCell _ _ (.inl (by simp))).setCell _ _ (.inl (by simp))).setCell _ _ (.inl (by simp)))
  have RRa := Lib.hid (RLa.out.kept kM (fun k hk ho => by simp at hk; omega))
  have RRb := Lib.hid (RLb.out.kept kM (fun k hk ho => by simp at hk; omega))
  have RRc := Lib.hid (RLc.out.kept kM (fun k hk ho => by simp at hk; omega))
  have FIN := Lib.hid (show FRdO .filter y gx B g lo s w (.returned (.tuple #[])) w9 from by
    have hy2 := (Y2.out.kept kM (fun k hk ho => by simp at hk; omega))
    refine ⟨rfl, { y with pall := pa, all := xa, pany := pb, any := xb, pno := pc, no := xc }, ⟨toTags xa, toTags xb, toTags xc⟩, st, S2.out.keptB kM (by simp; omega), ?_, { hy2 with hall := RRa.out, hany := RRb.out, hno := RRc.out }, K2.out.trans (kM.mono (by simp)) (Grows.refl _ _), rfl, T2.out, fun hw => WrM.kept (y := y) hw (K2.out.trans (kM.mono (by simp)) (Grows.refl _ _)) (by simp; omega)⟩
    rw [← hw9]
    exact (((M2.out.set 18 (.slice pa.a pa.n pa.c)).set 19 (.slice pb.a pb.n pb.c)).set 20 (.slice pc.a pc.n pc.c)))
  clear kM S2 K2 Y2 M2 RLa RRa RLb RRb RLc RRc
  go_wp2_with (fail)
  try rw [hw9]
  clear hw9
  go_end0
  exact FIN.out

set_option maxRecDepth 100000 in
set_option maxHeartbeats 6400000 in
theorem rfieldo_num (y : MsgL) (gx B g lo : Nat) (s : List Nat ⊕ Nat) (w : World) (h : CState w B g s) (hx : Blk w gx 38 y.cells) (hgx : B ≤ gx) (hne : gx < g) (hlo : g < lo) (hlw : lo ≤ w.heap.size) (hy : y.In (lo ≤ ·) w) :
    Calls Try.prog 14 #[.pointer (some ⟨g, 0, none⟩), .int .u8 13, .pointer (some ⟨gx, 0, none⟩)] w fun e w' => FRdO .num y gx B g lo s w e w' := by
  have hgl := h.lt
  have _ := hlw
  obtain ⟨w1, hw1⟩ : ∃ w1, w.alloc (.cells #[.pointer (some ⟨g, 0, none⟩)] 87) = w1 := ⟨_, rfl⟩
  have k01 : Kept [] w w1 := by rw [← hw1]; exact (Kept.refl _ _).alloc _
  have X1 := Lib.hid (show Blk w1 w.heap.size 87 [.pointer (some ⟨g, 0, none⟩)] from by rw [← hw1]; exact Blk.new w _ _)
  have S1 := Lib.hid (h.kept k01 (by simp))
  have K1 := Lib.hid (show Kept [gx, g] w w1 from k01.mono (by simp))
  have Y1 := Lib.hid (hy.kept k01 (by simp))
  have M1 := Lib.hid (k01.blk hx (by simp))
  have hs1 := k01.size
  have b0 : w1.cell? ⟨w.heap.size, 0, none⟩ = some (.pointer (some ⟨g, 0, none⟩)) := X1.out.cell 0
  have bl := X1.out.lt
  clear h hx hy k01
  go_enter Try.func14, Try.ntmps14
  go_wp2_with (fail)
  try rw [hw1]
  clear hw1
  refine (clong_any B g s w1 S1.out).mono ?_
  rintro e w2 ⟨hk, v2, x, st, rfl, hV, hs, ht⟩
  obtain ⟨rfl, hx⟩ := hV
  have S2 := Lib.hid hs
  have T2 := Lib.hid ht
  have K2 := Lib.hid (K1.out.trans (hk.mono (G := [gx, g]) (by simp)) (Grows.refl _ _))
  have Y2 := Lib.hid (Y1.out.kept hk (fun k hk ho => by simp at hk; omega))
  have M2 := Lib.hid (hk.blk M1.out (by simp; omega))
  have h2s := hk.size
  clear hk hs ht S1 K1 Y1 M1 X1 b0 bl
  have m0 : w2.cell? ⟨gx, 21, none⟩ = some (.int .u32 (y.num : Int)) := M2.out.cell 21
  have f0 := M2.out.frozen 21
  have ml := M2.out.lt
  obtain ⟨w9, hw9⟩ : ∃ wz, (w2.setCell ⟨gx, 21, none⟩ (.int .u32 (x : Int))) = wz := ⟨_, rfl⟩
  have kM : Kept [gx] w2 w9 := by
    rw [← hw9]
    exact ((Kept.refl _ _).setCell _ _ (.inl (by simp)))
  have FIN := Lib.hid (show FRdO .num y gx B g lo s w (.returned (.tuple #[])) w9 from by
    have hy2 := (Y2.out.kept kM (fun k hk ho => by simp at hk; omega))
    refine ⟨rfl, { y with num := x }, x, st, S2.out.keptB kM (by simp; omega), ?_, { hy2 with hnum := hx }, K2.out.trans (kM.mono (by simp)) (Grows.refl _ _), rfl, T2.out, fun hw => WrM.kept (y := y) hw (K2.out.trans (kM.mono (by simp)) (Grows.refl _ _)) (by simp; omega)⟩
    rw [← hw9]
    exact (M2.out.set 21 (.int .u32 (x : Int))))
  clear kM S2 K2 Y2 M2 
  go_wp2_with (fail)
  try rw [hw9]
  clear hw9
  go_end0
  exact FIN.out

set_option maxRecDepth 100000 in
set_option maxHeartbeats 6400000 in
theorem rfieldo_page (y : MsgL) (gx B g lo : Nat) (s : List Nat ⊕ Nat) (w : World) (h : CState w B g s) (hx : Blk w gx 38 y.cells) (hgx : B ≤ gx) (hne : gx < g) (hlo : g < lo) (hlw : lo ≤ w.heap.size) (hy : y.In (lo ≤ ·) w) :
    Calls Try.prog 14 #[.pointer (some ⟨g, 0, none⟩), .int .u8 14, .pointer (some ⟨gx, 0, none⟩)] w fun e w' => FRdO .page y gx B g lo s w e w' := by
  have hgl := h.lt
  have _ := hlw
  obtain ⟨w1, hw1⟩ : ∃ w1, w.alloc (.cells #[.pointer (some ⟨g, 0, none⟩)] 87) = w1 := ⟨_, rfl⟩
  have k01 : Kept [] w w1 := by rw [← hw1]; exact (Kept.refl _ _).alloc _
  have X1 := Lib.hid (show Blk w1 w.heap.size 87 [.pointer (some ⟨g, 0, none⟩)] from by rw [← hw1]; exact Blk.new w _ _)
  have S1 := Lib.hid (h.kept k01 (by simp))
  have K1 := Lib.hid (show Kept [gx, g] w w1 from k01.mono (by simp))
  have Y1 := Lib.hid (hy.kept k01 (by simp))
  have M1 := Lib.hid (k01.blk hx (by simp))
  have hs1 := k01.size
  have b0 : w1.cell? ⟨w.heap.size, 0, none⟩ = some (.pointer (some ⟨g, 0, none⟩)) := X1.out.cell 0
  have bl := X1.out.lt
  clear h hx hy k01
  go_enter Try.func14, Try.ntmps14
  go_wp2_with (fail)
  try rw [hw1]
  clear hw1
  refine (clong_any B g s w1 S1.out).mono ?_
  rintro e w2 ⟨hk, v2, x, st, rfl, hV, hs, ht⟩
  obtain ⟨rfl, hx⟩ := hV
  have S2 := Lib.hid hs
  have T2 := Lib.hid ht
  have K2 := Lib.hid (K1.out.trans (hk.mono (G := [gx, g]) (by simp)) (Grows.refl _ _))
  have Y2 := Lib.hid (Y1.out.kept hk (fun k hk ho => by simp at hk; omega))
  have M2 := Lib.hid (hk.blk M1.out (by simp; omega))
  have h2s := hk.size
  clear hk hs ht S1 K1 Y1 M1 X1 b0 bl
  have m0 : w2.cell? ⟨gx, 22, none⟩ = some (.int .u32 (y.page : Int)) := M2.out.cell 22
  have f0 := M2.out.frozen 22
  have ml := M2.out.lt
  obtain ⟨w9, hw9⟩ : ∃ wz, (w2.setCell ⟨gx, 22, none⟩ (.int .u32 (x : Int))) = wz := ⟨_, rfl⟩
  have kM : Kept [gx] w2 w9 := by
    rw [← hw9]
    exact ((Kept.refl _ _).setCell _ _ (.inl (by simp)))
  have FIN := Lib.hid (show FRdO .page y gx B g lo s w (.returned (.tuple #[])) w9 from by
    have hy2 := (Y2.out.kept kM (fun k hk ho => by simp at hk; omega))
    refine ⟨rfl, { y with page := x }, x, st, S2.out.keptB kM (by simp; omega), ?_, { hy2 with hpage := hx }, K2.out.trans (kM.mono (by simp)) (Grows.refl _ _), rfl, T2.out, fun hw => WrM.kept (y := y) hw (K2.out.trans (kM.mono (by simp)) (Grows.refl _ _)) (by simp; omega)⟩
    rw [← hw9]
    exact (M2.out.set 22 (.int .u32 (x : Int))))
  clear kM S2 K2 Y2 M2 
  go_wp2_with (fail)
  try rw [hw9]
  clear hw9
  go_end0
  exact FIN.out

set_option maxRecDepth 100000 in
set_option maxHeartbeats 6400000 in
theorem rfieldo_bytes (y : MsgL) (gx B g lo : Nat) (s : List Nat ⊕ Nat) (w : World) (h : CState w B g s) (hx : Blk w gx 38 y.cells) (hgx : B ≤ gx) (hne : gx < g) (hlo : g < lo) (hlw : lo ≤ w.heap.size) (hy : y.In (lo ≤ ·) w) :
    Calls Try.prog 14 #[.pointer (some ⟨g, 0, none⟩), .int .u8 15, .pointer (some ⟨gx, 0, none⟩)] w fun e w' => FRdO .bytes y gx B g lo s w e w' := by
  have hgl := h.lt
  have _ := hlw
  obtain ⟨w1, hw1⟩ : ∃ w1, w.alloc (.cells #[.pointer (some ⟨g, 0, none⟩)] 87) = w1 := ⟨_, rfl⟩
  have k01 : Kept [] w w1 := by rw [← hw1]; exact (Kept.refl _ _).alloc _
  have X1 := Lib.hid (show Blk w1 w.heap.size 87 [.pointer (some ⟨g, 0, none⟩)] from by rw [← hw1]; exact Blk.new w _ _)
  have S1 := Lib.hid (h.kept k01 (by simp))
  have K1 := Lib.hid (show Kept [gx, g] w w1 from k01.mono (by simp))
  have Y1 := Lib.hid (hy.kept k01 (by simp))
  have M1 := Lib.hid (k01.blk hx (by simp))
  have hs1 := k01.size
  have b0 : w1.cell? ⟨w.heap.size, 0, none⟩ = some (.pointer (some ⟨g, 0, none⟩)) := X1.out.cell 0
  have bl := X1.out.lt
  clear h hx hy k01
  go_enter Try.func14, Try.ntmps14
  go_wp2_with (fail)
  try rw [hw1]
  clear hw1
  refine (cbytes_any B g s w1 S1.out).mono ?_
  rintro e w2 ⟨hk, v2, x, st, rfl, hV, hs, ht⟩
  obtain ⟨pa, pn, pc, rfl, hr, hl, _⟩ := hV
  have S2 := Lib.hid hs
  have T2 := Lib.hid ht
  have K2 := Lib.hid (K1.out.trans (hk.mono (G := [gx, g]) (by simp)) (Grows.refl _ _))
  have Y2 := Lib.hid (Y1.out.kept hk (fun k hk ho => by simp at hk; omega))
  have M2 := Lib.hid (hk.blk M1.out (by simp; omega))
  have h2s := hk.size
  have HR := Lib.hid hr
  have m23 : w2.cell? ⟨gx, 23, none⟩ = some (.slice y.pbytes.a y.pbytes.n y.pbytes.c) := M2.out.cell 23
  have hlen := hr.len
  clear hk hs ht hr S1 K1 Y1 M1 m23
  go_wp2_with (at_builtin; go_must (refine app_bytes _ rfl (.const (.slice none 0 0)) (.tmp 116) 22 5 rfl Try.underlying22 byte_info w2.heap.size (.slice none 0 0) [] (by rfl) (OwnV.nil _ _ _) pa pn pc x (by rfl) HR.out (by simp; omega) (Nat.le_refl _) ?_))
  intro v3 w3 hown hg3 _
  try rw [List.nil_append] at hown
  obtain ⟨pp, rfl, hrp⟩ := hown.rd (by omega)
  have WV0 := Lib.hid (hown.wr pp rfl)
  have k23 : Kept [] w2 w3 := (Kept.refl _ _).grown hg3 (fun k hk => by cases hk)
  have S3 := Lib.hid (S2.out.kept k23 (by simp))
  have K3 := Lib.hid (K2.out.trans (k23.mono (G := [gx, g]) (by simp)) (Grows.refl _ _))
  have Y3 := Lib.hid (Y2.out.kept k23 (by simp))
  have M3 := Lib.hid (k23.blk M2.out (by simp))
  have h3s := k23.size
  have WV := Lib.hid (WV0.out.mono (show lo ≤ _ by omega))
  clear WV0
  have RL := Lib.hid (show Rd (lo ≤ ·) w3 shBytes [.slice pp.a pp.n pp.c] (x.map Int.ofNat) from hrp.mono (fun k hk _ => by omega))
  clear hown hg3 hrp k23 S2 K2 Y2 M2
  have m0 : w3.cell? ⟨gx, 23, none⟩ = some (.slice y.pbytes.a y.pbytes.n y.pbytes.c) := M3.out.cell 23
  have f0 := M3.out.frozen 23
  have ml := M3.out.lt
  obtain ⟨w9, hw9⟩ : ∃ wz, (w3.setCell ⟨gx, 23, none⟩ (.slice pp.a pp.n pp.c)) = wz := ⟨_, rfl⟩
  have kM : Kept [gx] w3 w9 := by
    rw [← hw9]
    exact ((Kept.refl _ _).setCell _ _ (.inl (by simp)))
  have RR := Lib.hid (RL.out.kept kM (fun k hk ho => by simp at hk; omega))
  have FIN := Lib.hid (show FRdO .bytes y gx B g lo s w (.returned (.tuple #[])) w9 from by
    have hy2 := (Y3.out.kept kM (fun k hk ho => by simp at hk; omega))
    refine ⟨rfl, { y with pbytes := pp, bytes := x.map Int.ofNat }, x, st, S3.out.keptB kM (by simp; omega), ?_, { hy2 with hbytes := RR.out }, K3.out.trans (kM.mono (by simp)) (Grows.refl _ _), by show MsgL.toM _ = _; simp only [MsgL.toM, Fld.set, map_ofNat_toNat], T2.out, fun hw => ⟨WV.out.kept kM (by simp; omega), (WrM.kept (y := y) hw (K3.out.trans (kM.mono (by simp)) (Grows.refl _ _)) (by simp; omega)).2⟩⟩
    rw [← hw9]
    exact (M3.out.set 23 (.slice pp.a pp.n pp.c)))
  clear kM S3 K3 Y3 M3 RL RR
  go_wp2_with (fail)
  try rw [hw9]
  clear hw9
  go_end0
  exact FIN.out

set_option maxRecDepth 100000 in
set_option maxHeartbeats 6400000 in
theorem rfieldo_version (y : MsgL) (gx B g lo : Nat) (s : List Nat ⊕ Nat) (w : World) (h : CState w B g s) (hx : Blk w gx 38 y.cells) (hgx : B ≤ gx) (hne : gx < g) (hlo : g < lo) (hlw : lo ≤ w.heap.size) (hy : y.In (lo ≤ ·) w) :
    Calls Try.prog 14 #[.pointer (some ⟨g, 0, none⟩), .int .u8 16, .pointer (some ⟨gx, 0, none⟩)] w fun e w' => FRdO .version y gx B g lo s w e w' := by
  have hgl := h.lt
  have _ := hlw
  obtain ⟨w1, hw1⟩ : ∃ w1, w.alloc (.cells #[.pointer (some ⟨g, 0, none⟩)] 87) = w1 := ⟨_, rfl⟩
  have k01 : Kept [] w w1 := by rw [← hw1]; exact (Kept.refl _ _).alloc _
  have X1 := Lib.hid (show Blk w1 w.heap.size 87 [.pointer (some ⟨g, 0, none⟩)] from by rw [← hw1]; exact Blk.new w _ _)
  have S1 := Lib.hid (h.kept k01 (by simp))
  have K1 := Lib.hid (show Kept [gx, g] w w1 from k01.mono (by simp))
  have Y1 := Lib.hid (hy.kept k01 (by simp))
  have M1 := Lib.hid (k01.blk hx (by simp))
  have hs1 := k01.size
  have b0 : w1.cell? ⟨w.heap.size, 0, none⟩ = some (.pointer (some ⟨g, 0, none⟩)) := X1.out.cell 0
  have bl := X1.out.lt
  clear h hx hy k01
  go_enter Try.func14, Try.ntmps14
  go_wp2_with (fail)
  try rw [hw1]
  clear hw1
  refine (cnum_any 18446744073709551615 B g s w1 S1.out (by decide)).mono ?_
  rintro e w2 ⟨hk, v2, x, st, rfl, hV, hs, ht⟩
  obtain ⟨rfl, hx⟩ := hV
  have S2 := Lib.hid hs
  have T2 := Lib.hid ht
  have K2 := Lib.hid (K1.out.trans (hk.mono (G := [gx, g]) (by simp)) (Grows.refl _ _))
  have Y2 := Lib.hid (Y1.out.kept hk (fun k hk ho => by simp at hk; omega))
  have M2 := Lib.hid (hk.blk M1.out (by simp; omega))
  have h2s := hk.size
  clear hk hs ht S1 K1 Y1 M1 X1 b0 bl
  have m0 : w2.cell? ⟨gx, 24, none⟩ = some (.int .u64 (y.version : Int)) := M2.out.cell 24
  have f0 := M2.out.frozen 24
  have ml := M2.out.lt
  obtain ⟨w9, hw9⟩ : ∃ wz, (w2.setCell ⟨gx, 24, none⟩ (.int .u64 (x : Int))) = wz := ⟨_, rfl⟩
  have kM : Kept [gx] w2 w9 := by
    rw [← hw9]
    exact ((Kept.refl _ _).setCell _ _ (.inl (by simp)))
  have FIN := Lib.hid (show FRdO .version y gx B g lo s w (.returned (.tuple #[])) w9 from by
    have hy2 := (Y2.out.kept kM (fun k hk ho => by simp at hk; omega))
    refine ⟨rfl, { y with version := x }, x, st, S2.out.keptB kM (by simp; omega), ?_, { hy2 with hversion := hx }, K2.out.trans (kM.mono (by simp)) (Grows.refl _ _), rfl, T2.out, fun hw => WrM.kept (y := y) hw (K2.out.trans (kM.mono (by simp)) (Grows.refl _ _)) (by simp; omega)⟩
    rw [← hw9]
    exact (M2.out.set 24 (.int .u64 (x : Int))))
  clear kM S2 K2 Y2 M2 
  go_wp2_with (fail)
  try rw [hw9]
  clear hw9
  go_end0
  exact FIN.out

set_option maxRecDepth 100000 in
set_option maxHeartbeats 6400000 in
theorem rfieldo_names (y : MsgL) (gx B g lo : Nat) (s : List Nat ⊕ Nat) (w : World) (h : CState w B g s) (hx : Blk w gx 38 y.cells) (hgx : B ≤ gx) (hne : gx < g) (hlo : g < lo) (hlw : lo ≤ w.heap.size) (hy : y.In (lo ≤ ·) w) :
    Calls Try.prog 14 #[.pointer (some ⟨g, 0, none⟩), .int .u8 17, .pointer (some ⟨gx, 0, none⟩)] w fun e w' => FRdO .names y gx B g lo s w e w' := by
  have hgl := h.lt
  have _ := hlw
  obtain ⟨w1, hw1⟩ : ∃ w1, w.alloc (.cells #[.pointer (some ⟨g, 0, none⟩)] 87) = w1 := ⟨_, rfl⟩
  have k01 : Kept [] w w1 := by rw [← hw1]; exact (Kept.refl _ _).alloc _
  have X1 := Lib.hid (show Blk w1 w.heap.size 87 [.pointer (some ⟨g, 0, none⟩)] from by rw [← hw1]; exact Blk.new w _ _)
  have S1 := Lib.hid (h.kept k01 (by simp))
  have K1 := Lib.hid (show Kept [gx, g] w w1 from k01.mono (by simp))
  have Y1 := Lib.hid (hy.kept k01 (by simp))
  have M1 := Lib.hid (k01.blk hx (by simp))
  have hs1 := k01.size
  have b0 : w1.cell? ⟨w.heap.size, 0, none⟩ = some (.pointer (some ⟨g, 0, none⟩)) := X1.out.cell 0
  have bl := X1.out.lt
  clear h hx hy k01
  go_enter Try.func14, Try.ntmps14
  go_wp2_with (fail)
  try rw [hw1]
  clear hw1
  refine (ctexts_any B g s w1 S1.out).mono ?_
  rintro e w2 ⟨hk, v2, x, st, rfl, hV, hs, ht⟩
  obtain ⟨pp, xs, rfl, hr, hxs⟩ := hV.sl
  have S2 := Lib.hid hs
  have T2 := Lib.hid ht
  have K2 := Lib.hid (K1.out.trans (hk.mono (G := [gx, g]) (by simp)) (Grows.refl _ _))
  have Y2 := Lib.hid (Y1.out.kept hk (fun k hk ho => by simp at hk; omega))
  have M2 := Lib.hid (hk.blk M1.out (by simp; omega))
  have h2s := hk.size
  have RL := Lib.hid (show Rd (lo ≤ ·) w2 shTags [.slice pp.a pp.n pp.c] xs from hr.mono (fun k hk _ => by omega))
  clear hk hs ht S1 K1 Y1 M1 X1 b0 bl
  have m0 : w2.cell? ⟨gx, 25, none⟩ = some (.slice y.pnames.a y.pnames.n y.pnames.c) := M2.out.cell 25
  have f0 := M2.out.frozen 25
  have ml := M2.out.lt
  obtain ⟨w9, hw9⟩ : ∃ wz, (w2.setCell ⟨gx, 25, none⟩ (.slice pp.a pp.n pp.c)) = wz := ⟨_, rfl⟩
  have kM : Kept [gx] w2 w9 := by
    rw [← hw9]
    exact ((Kept.refl _ _).setCell _ _ (.inl (by simp)))
  have RR := Lib.hid (RL.out.kept kM (fun k hk ho => by simp at hk; omega))
  have FIN := Lib.hid (show FRdO .names y gx B g lo s w (.returned (.tuple #[])) w9 from by
    have hy2 := (Y2.out.kept kM (fun k hk ho => by simp at hk; omega))
    refine ⟨rfl, { y with pnames := pp, names := xs }, x, st, S2.out.keptB kM (by simp; omega), ?_, { hy2 with hnames := RR.out }, K2.out.trans (kM.mono (by simp)) (Grows.refl _ _), by rw [← hxs]; rfl, T2.out, fun hw => WrM.kept (y := y) hw (K2.out.trans (kM.mono (by simp)) (Grows.refl _ _)) (by simp; omega)⟩
    rw [← hw9]
    exact (M2.out.set 25 (.slice pp.a pp.n pp.c)))
  clear kM S2 K2 Y2 M2 RL RR
  go_wp2_with (fail)
  try rw [hw9]
  clear hw9
  go_end0
  exact FIN.out

set_option maxRecDepth 100000 in
set_option maxHeartbeats 6400000 in
theorem rfieldo_items (y : MsgL) (gx B g lo : Nat) (s : List Nat ⊕ Nat) (w : World) (h : CState w B g s) (hx : Blk w gx 38 y.cells) (hgx : B ≤ gx) (hne : gx < g) (hlo : g < lo) (hlw : lo ≤ w.heap.size) (hy : y.In (lo ≤ ·) w) :
    Calls Try.prog 14 #[.pointer (some ⟨g, 0, none⟩), .int .u8 18, .pointer (some ⟨gx, 0, none⟩)] w fun e w' => FRdO .items y gx B g lo s w e w' := by
  have hgl := h.lt
  have _ := hlw
  obtain ⟨w1, hw1⟩ : ∃ w1, w.alloc (.cells #[.pointer (some ⟨g, 0, none⟩)] 87) = w1 := ⟨_, rfl⟩
  have k01 : Kept [] w w1 := by rw [← hw1]; exact (Kept.refl _ _).alloc _
  have X1 := Lib.hid (show Blk w1 w.heap.size 87 [.pointer (some ⟨g, 0, none⟩)] from by rw [← hw1]; exact Blk.new w _ _)
  have S1 := Lib.hid (h.kept k01 (by simp))
  have K1 := Lib.hid (show Kept [gx, g] w w1 from k01.mono (by simp))
  have Y1 := Lib.hid (hy.kept k01 (by simp))
  have M1 := Lib.hid (k01.blk hx (by simp))
  have hs1 := k01.size
  have b0 : w1.cell? ⟨w.heap.size, 0, none⟩ = some (.pointer (some ⟨g, 0, none⟩)) := X1.out.cell 0
  have bl := X1.out.lt
  clear h hx hy k01
  go_enter Try.func14, Try.ntmps14
  go_wp2_with (fail)
  try rw [hw1]
  clear hw1
  refine (rlist_items B g w.heap.size s w1 S1.out X1.out (by omega)).mono ?_
  rintro e w2 ⟨hk, v2, x, st, rfl, hV, hs, ht⟩
  obtain ⟨pp, xs, rfl, hr, hxs⟩ := hV.sl
  have S2 := Lib.hid hs
  have T2 := Lib.hid ht
  have K2 := Lib.hid (K1.out.trans (hk.mono (G := [gx, g]) (by simp)) (Grows.refl _ _))
  have Y2 := Lib.hid (Y1.out.kept hk (fun k hk ho => by simp at hk; omega))
  have M2 := Lib.hid (hk.blk M1.out (by simp; omega))
  have h2s := hk.size
  have RL := Lib.hid (show Rd (lo ≤ ·) w2 shItems [.slice pp.a pp.n pp.c] xs from hr.mono (fun k hk _ => by omega))
  clear hk hs ht S1 K1 Y1 M1 X1 b0 bl
  have m0 : w2.cell? ⟨gx, 26, none⟩ = some (.slice y.pitems.a y.pitems.n y.pitems.c) := M2.out.cell 26
  have f0 := M2.out.frozen 26
  have ml := M2.out.lt
  obtain ⟨w9, hw9⟩ : ∃ wz, (w2.setCell ⟨gx, 26, none⟩ (.slice pp.a pp.n pp.c)) = wz := ⟨_, rfl⟩
  have kM : Kept [gx] w2 w9 := by
    rw [← hw9]
    exact ((Kept.refl _ _).setCell _ _ (.inl (by simp)))
  have RR := Lib.hid (RL.out.kept kM (fun k hk ho => by simp at hk; omega))
  have FIN := Lib.hid (show FRdO .items y gx B g lo s w (.returned (.tuple #[])) w9 from by
    have hy2 := (Y2.out.kept kM (fun k hk ho => by simp at hk; omega))
    refine ⟨rfl, { y with pitems := pp, items := xs }, x, st, S2.out.keptB kM (by simp; omega), ?_, { hy2 with hitems := RR.out }, K2.out.trans (kM.mono (by simp)) (Grows.refl _ _), by rw [← hxs]; rfl, T2.out, fun hw => WrM.kept (y := y) hw (K2.out.trans (kM.mono (by simp)) (Grows.refl _ _)) (by simp; omega)⟩
    rw [← hw9]
    exact (M2.out.set 26 (.slice pp.a pp.n pp.c)))
  clear kM S2 K2 Y2 M2 RL RR
  go_wp2_with (fail)
  try rw [hw9]
  clear hw9
  go_end0
  exact FIN.out

set_option maxRecDepth 100000 in
set_option maxHeartbeats 6400000 in
theorem rfieldo_hits (y : MsgL) (gx B g lo : Nat) (s : List Nat ⊕ Nat) (w : World) (h : CState w B g s) (hx : Blk w gx 38 y.cells) (hgx : B ≤ gx) (hne : gx < g) (hlo : g < lo) (hlw : lo ≤ w.heap.size) (hy : y.In (lo ≤ ·) w) :
    Calls Try.prog 14 #[.pointer (some ⟨g, 0, none⟩), .int .u8 19, .pointer (some ⟨gx, 0, none⟩)] w fun e w' => FRdO .hits y gx B g lo s w e w' := by
  have hgl := h.lt
  have _ := hlw
  obtain ⟨w1, hw1⟩ : ∃ w1, w.alloc (.cells #[.pointer (some ⟨g, 0, none⟩)] 87) = w1 := ⟨_, rfl⟩
  have k01 : Kept [] w w1 := by rw [← hw1]; exact (Kept.refl _ _).alloc _
  have X1 := Lib.hid (show Blk w1 w.heap.size 87 [.pointer (some ⟨g, 0, none⟩)] from by rw [← hw1]; exact Blk.new w _ _)
  have S1 := Lib.hid (h.kept k01 (by simp))
  have K1 := Lib.hid (show Kept [gx, g] w w1 from k01.mono (by simp))
  have Y1 := Lib.hid (hy.kept k01 (by simp))
  have M1 := Lib.hid (k01.blk hx (by simp))
  have hs1 := k01.size
  have b0 : w1.cell? ⟨w.heap.size, 0, none⟩ = some (.pointer (some ⟨g, 0, none⟩)) := X1.out.cell 0
  have bl := X1.out.lt
  clear h hx hy k01
  go_enter Try.func14, Try.ntmps14
  go_wp2_with (fail)
  try rw [hw1]
  clear hw1
  refine (chits_any B g s w1 S1.out).mono ?_
  rintro e w2 ⟨hk, v2, x, st, rfl, hV, hs, ht⟩
  obtain ⟨pp, xs, rfl, hr, hxs⟩ := hV.sl
  have S2 := Lib.hid hs
  have T2 := Lib.hid ht
  have K2 := Lib.hid (K1.out.trans (hk.mono (G := [gx, g]) (by simp)) (Grows.refl _ _))
  have Y2 := Lib.hid (Y1.out.kept hk (fun k hk ho => by simp at hk; omega))
  have M2 := Lib.hid (hk.blk M1.out (by simp; omega))
  have h2s := hk.size
  have RL := Lib.hid (show Rd (lo ≤ ·) w2 shHits [.slice pp.a pp.n pp.c] xs from hr.mono (fun k hk _ => by omega))
  clear hk hs ht S1 K1 Y1 M1 X1 b0 bl
  have m0 : w2.cell? ⟨gx, 27, none⟩ = some (.slice y.phits.a y.phits.n y.phits.c) := M2.out.cell 27
  have f0 := M2.out.frozen 27
  have ml := M2.out.lt
  obtain ⟨w9, hw9⟩ : ∃ wz, (w2.setCell ⟨gx, 27, none⟩ (.slice pp.a pp.n pp.c)) = wz := ⟨_, rfl⟩
  have kM : Kept [gx] w2 w9 := by
    rw [← hw9]
    exact ((Kept.refl _ _).setCell _ _ (.inl (by simp)))
  have RR := Lib.hid (RL.out.kept kM (fun k hk ho => by simp at hk; omega))
  have FIN := Lib.hid (show FRdO .hits y gx B g lo s w (.returned (.tuple #[])) w9 from by
    have hy2 := (Y2.out.kept kM (fun k hk ho => by simp at hk; omega))
    refine ⟨rfl, { y with phits := pp, hits := xs }, x, st, S2.out.keptB kM (by simp; omega), ?_, { hy2 with hhits := RR.out }, K2.out.trans (kM.mono (by simp)) (Grows.refl _ _), by rw [← hxs]; rfl, T2.out, fun hw => WrM.kept (y := y) hw (K2.out.trans (kM.mono (by simp)) (Grows.refl _ _)) (by simp; omega)⟩
    rw [← hw9]
    exact (M2.out.set 27 (.slice pp.a pp.n pp.c)))
  clear kM S2 K2 Y2 M2 RL RR
  go_wp2_with (fail)
  try rw [hw9]
  clear hw9
  go_end0
  exact FIN.out

theorem rfieldo_any (f : Fld) (y : MsgL) (gx B g lo : Nat) (s : List Nat ⊕ Nat) (w : World) (h : CState w B g s) (hx : Blk w gx 38 y.cells) (hgx : B ≤ gx) (hne : gx < g) (hlo : g < lo) (hlw : lo ≤ w.heap.size) (hy : y.In (lo ≤ ·) w) :
    Calls Try.prog 14 #[.pointer (some ⟨g, 0, none⟩), .int .u8 (f.no : Int), .pointer (some ⟨gx, 0, none⟩)] w fun e w' => FRdO f y gx B g lo s w e w' := by
  cases f
  · exact rfieldo_req y gx B g lo s w h hx hgx hne hlo hlw hy
  · exact rfieldo_caps y gx B g lo s w h hx hgx hne hlo hlw hy
  · exact rfieldo_token y gx B g lo s w h hx hgx hne hlo hlw hy
  · exact rfieldo_code y gx B g lo s w h hx hgx hne hlo hlw hy
  · exact rfieldo_n y gx B g lo s w h hx hgx hne hlo hlw hy
  · exact rfieldo_name y gx B g lo s w h hx hgx hne hlo hlw hy
  · exact rfieldo_conf y gx B g lo s w h hx hgx hne hlo hlw hy
  · exact rfieldo_changes y gx B g lo s w h hx hgx hne hlo hlw hy
  · exact rfieldo_id y gx B g lo s w h hx hgx hne hlo hlw hy
  · exact rfieldo_vec y gx B g lo s w h hx hgx hne hlo hlw hy
  · exact rfieldo_k y gx B g lo s w h hx hgx hne hlo hlw hy
  · exact rfieldo_width y gx B g lo s w h hx hgx hne hlo hlw hy
  · exact rfieldo_filter y gx B g lo s w h hx hgx hne hlo hlw hy
  · exact rfieldo_num y gx B g lo s w h hx hgx hne hlo hlw hy
  · exact rfieldo_page y gx B g lo s w h hx hgx hne hlo hlw hy
  · exact rfieldo_bytes y gx B g lo s w h hx hgx hne hlo hlw hy
  · exact rfieldo_version y gx B g lo s w h hx hgx hne hlo hlw hy
  · exact rfieldo_names y gx B g lo s w h hx hgx hne hlo hlw hy
  · exact rfieldo_items y gx B g lo s w h hx hgx hne hlo hlw hy
  · exact rfieldo_hits y gx B g lo s w h hx hgx hne hlo hlw hy
end Go.Proofs.Ytemnmjfeljipjaa
