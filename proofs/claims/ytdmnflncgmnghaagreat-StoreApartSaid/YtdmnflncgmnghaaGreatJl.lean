/-
  The document's past: Lay, by a walk over its text.
-/
import Derived.Test.YtdmnflncgmnghaaGreatJg
import Derived.Deep.RegionLaw
import Derived.Deep.QuietTactic
import Derived.BigQuiet
import Derived.Deep.DeepCutAuto
namespace Go.Proofs.YtdmnflncgmnghaaGreat
open Go.RowKit

/-- append(v, x) as one step of a region that draws, x one struct that the text has laid as a row of one. -/
theorem step_c {P : Program} {ops : Array Oper} {o : Oper} {act : Act} {K : Act → World → Prop} {Q : Exit → Act → World → Prop} {E : Prop} {lo k : Nat} {t : TypeId} {v : Value} {css : List (List Value)} (w : World) (hg : o.guard = none) (s y : Operand) (st : TypeId)
    (hop : o.op = .call { callee := .builtin .append, args := #[s, y], argTypes := #[st, st] }) (hu : P.underlying st = some (.slice t)) (z : Value) (sz : Nat) (hi : (P.info? t).map (fun i => (i.zero, i.size, i.bytes)) = some (some z, k, sz)) (hzc : z.cells.size = k) (hc0 : 0 < k)
    (cs : List Value) (hs : act.eval s = v) (hy : act.eval y = .slice (some ⟨w.heap.size, 0, none⟩) 1 1) (hown : RowC lo w t k v css) (hcs : cs.length = k) (h1 : ∀ u ∈ cs, u.oneCell' = true) (hlo : lo ≤ w.heap.size) (hb : (css.length + 1) * sz ≤ 140737488355328) (hl : css.length ≤ 2000000)
    (hK : ∀ v' w', RowC lo w' t k v' (css ++ [cs]) → Kept (ownB v) w w' → Grows w (ownB v) (ownB v') → K (act.put o.dst v') w') : if Region.wanted o (yielded ops act.tmps) = true then Oper.wp P o act (w.alloc (.cells cs.toArray t)) K Q else E := by
  have hw : Region.wanted o (yielded ops act.tmps) = true := by simp [Region.wanted, hg]
  rw [if_pos hw]
  obtain ⟨v', w', hr, h2, h3, h4⟩ := hown.app (P := P) st o.type hu z sz hi hzc hc0 cs hcs h1 hlo hb hl
  unfold Oper.wp execOp
  simp only [hop, resolve, invoke, builtin, Sem.run_bind, Sem.run_pure, Result.andThen_ok, List.map_toArray, List.map_cons, List.map_nil, hs, hy, hr]
  exact hK v' w' h2 h3 h4
theorem row_info8 : (Tryz.prog.info? 131).map (fun i => (i.zero, i.size, i.bytes)) = some (some (.agg #[.int .u64 0, .bool false, .int .u32 0, .slice none 0 0, .slice none 0 0]), 5, 72) := by kernel_rfl
theorem row_apart8 {lo lo' k k' n n' : Nat} {w : World} {t t' : TypeId} {u v : Value} {xs ys : List Value} (h : w.ownsRow lo t k u n xs) (h' : w.ownsRow lo' t' k' v n' ys) (ht : t ≠ t') : ∀ g, u.ownBlock = some g → v.ownBlock ≠ some g := by
  intro g hg hv
  rcases h.2 with ⟨rfl, _⟩ | ⟨a, cap, cur, rfl, _, hh, _⟩
  · cases hg
  rcases h'.2 with ⟨rfl, _⟩ | ⟨a', cap', cur', rfl, _, hh', _⟩
  · cases hv
  cases hg
  cases hv
  rw [hh] at hh'
  simp only [Option.some.injEq, Obj.cells.injEq] at hh'
  exact ht hh'.2.1
theorem row_blk8 {lo k n g : Nat} {w : World} {t t' : TypeId} {u : Value} {xs cs : List Value} (h : w.ownsRow lo t k u n xs) (h' : Blk w g t' cs) (ht : t ≠ t') : u.ownBlock ≠ some g := by
  intro hg
  rcases h.2 with ⟨rfl, _⟩ | ⟨a, cap, cur, rfl, _, hh, _⟩
  · cases hg
  cases hg
  unfold Blk at h'
  rw [hh] at h'
  simp only [Option.some.injEq, Obj.cells.injEq] at h'
  exact ht h'.2.1
/-- What Lay leaves. -/
def LayPost (B lo g : Nat) (u k : Value) (L : List RowL) (last floor : Nat) (kept : List Nat) (r : RowL) (w : World) (e : Ending) (w' : World) : Prop :=
  ∃ (u' : Value) (L' : List RowL) (last' code : Nat), e = .returned (.int .i64 (code : Int)) ∧ PastR w' B lo g u' k L' last' floor kept ∧ (PastR.st L last floor kept).lay r.toR = (PastR.st L' last' floor kept, code) ∧ Kept (g :: ownB u) w w' ∧ Grows w (g :: ownB u) (g :: ownB u')
/-- The state while nothing is laid yet. -/
structure LayS (B lo g : Nat) (u k : Value) (L : List RowL) (last floor : Nat) (kept : List Nat) (r : RowL) (w wx : World) : Prop where
  past : PastR wx B lo g u k L last floor kept
  box : Blk wx w.heap.size 131 r.cells
  inn : r.In (· < B) wx
  below : Below w.heap.size w wx
  ulow : ∀ x, u.ownBlock = some x → x < w.heap.size
section
variable {B lo g last floor : Nat} {u k : Value} {L : List RowL} {kept : List Nat} {r : RowL} {w wx wy : World}
theorem LayS.on (h : LayS B lo g u k L last floor kept r w wx) (hb : Below wx.heap.size wx wy) (hB : B ≤ wx.heap.size) : LayS B lo g u k L last floor kept r w wy :=
  ⟨h.past.on hb, (Kept.of_below (F := []) hb (Nat.le_refl _)).blk h.box (by simp), h.inn.under (hb.mono hB), below_on h.below hb, h.ulow⟩
theorem LayS.same (h : LayS B lo g u k L last floor kept r w wx) {code : Nat} (hl : (PastR.st L last floor kept).lay r.toR = (PastR.st L last floor kept, code)) : LayPost B lo g u k L last floor kept r w (.returned (.int .i64 (code : Int))) wx :=
  ⟨u, L, last, code, rfl, h.past, hl, Kept.of_below h.below (Nat.le_refl _), Grows.refl _ _⟩
theorem LayS.laid (h : LayS B lo g u k L last floor kept r w wx) (hgw : g < w.heap.size) (hl : (PastR.st L last floor kept).lay r.toR = (PastR.st (L ++ [r]) r.v floor kept, 0)) (hL : L.length < 1024)
    {v8 : Value} {w8 : World} (hr8 : RowC lo w8 131 5 v8 (L.map RowL.cells ++ [r.cells])) (hk8 : Kept (ownB u) wx.drew w8) (hg8 : Grows wx.drew (ownB u) (ownB v8)) :
    LayPost B lo g u k L last floor kept r w (.returned (.int .i64 0)) ((w8.setCell ⟨g, 0, none⟩ v8).setCell ⟨g, 1, none⟩ (.int .u64 (r.v : Int))) ∧ Blk w8 g 49 [u, .int .u64 (last : Int), .int .u64 (floor : Int), k] ∧ Blk w8 w.heap.size 131 r.cells := by
  have hu := h.past.rows.lt
  have hk : Kept (ownB u) wx w8 := ((Kept.refl (ownB u) wx).drew).trans hk8 (Grows.refl _ _)
  have hug := row_blk8 h.past.rows.2 h.past.blk (by decide)
  have hblk : Blk w8 g 49 [u, .int .u64 (last : Int), .int .u64 (floor : Int), k] := hk.blk h.past.blk (fun hh => hug (mem_ownB.1 hh))
  have hgx : g < wx.heap.size := h.past.blk.lt
  have hwx := h.below.size
  have hbox : Blk w8 w.heap.size 131 r.cells := hk.blk h.box (fun hh => by
    have := h.ulow _ (mem_ownB.1 hh)
    omega)
  have k9 : Kept [g] w8 ((w8.setCell ⟨g, 0, none⟩ v8).setCell ⟨g, 1, none⟩ (.int .u64 (r.v : Int))) := ((Kept.refl [g] w8).setCell _ _ (.inl (by simp))).setCell _ _ (.inl (by simp))
  have hvg := row_blk8 hr8.2 hblk (by decide)
  have huk : ∀ x ∈ ownB u, k.ownBlock ≠ some x := fun x hx => row_apart8 h.past.rows.2 h.past.vers.2 (by decide) x (mem_ownB.1 hx)
  have hkg := row_blk8 h.past.vers.2 h.past.blk (by decide)
  have hBl : ∀ x ∈ ownB u, B ≤ x := fun x hx => by
    have := (hu x (mem_ownB.1 hx)).1
    have := h.past.hB
    omega
  have hBg : B ≤ g := by
    have := h.past.hB
    have := h.past.glo
    omega
  have hin : ∀ q : RowL, q.In (· < B) wx → q.In (· < B) ((w8.setCell ⟨g, 0, none⟩ v8).setCell ⟨g, 1, none⟩ (.int .u64 (r.v : Int))) := fun q hq =>
    (hq.stay hk.size (fun x hx hlt => hk.block x hlt (fun hh => by have := hBl x hh; omega)) (fun _ h _ => h)).stay (ok' := (· < B)) k9.size (fun x hx hlt => k9.block x hlt (fun hh => by
      have : x = g := by simpa using hh
      omega)) (fun _ h _ => h)
  refine ⟨⟨v8, L ++ [r], r.v, 0, rfl, ?_, hl, ?_, ?_⟩, hblk, hbox⟩
  · refine ⟨(hblk.set 0 v8).set 1 _, ?_, fun q hq => ?_, (h.past.vers.kept hk (fun x hx hh => huk x hh hx)).kept k9 (fun x hx hh => ?_), h.inn.hv, h.past.hfloor, h.past.hkept, by simp; omega, h.past.hK, h.past.glo, h.past.hB⟩
    · have : (L ++ [r]).map RowL.cells = L.map RowL.cells ++ [r.cells] := by simp
      rw [this]
      exact hr8.kept k9 (fun x hx hh => hvg (by rw [hx]; simpa using hh))
    · rcases List.mem_append.1 hq with hq | hq
      · exact hin q (h.past.each q hq)
      · rw [List.mem_singleton.1 hq]
        exact hin r h.inn
    · exact hkg (by rw [hx]; simpa using hh)
  · exact ((Kept.of_below h.below (Nat.le_refl _)).trans (hk.mono (G := g :: ownB u) (fun x hx => List.mem_cons_of_mem _ hx)) (Grows.refl _ _)).trans (k9.mono (G := g :: ownB u) (by simp)) (Grows.refl _ _)
  · intro x hx
    rcases List.mem_cons.1 hx with rfl | hx
    · exact .inl (by simp)
    · rcases hg8 x hx with h1 | h1
      · exact .inl (List.mem_cons_of_mem _ h1)
      · have h2 : wx.heap.size ≤ x := h1
        exact .inr (by omega)
end
set_option maxRecDepth 100000 in
set_option maxHeartbeats 6400000 in
theorem rlay_any (w : World) (B lo g : Nat) (u k : Value) (L : List RowL) (last floor : Nat) (kept : List Nat) (r : RowL) (h : PastR w B lo g u k L last floor kept) (hr : r.In (· < B) w) :
    Calls Tryz.prog 61 #[.pointer (some ⟨g, 0, none⟩), .agg r.cells.toArray] w fun e w' => LayPost B lo g u k L last floor kept r w e w' := by
  have hBw : B ≤ w.heap.size := by have := h.hB; have := h.glo; have := h.blk.lt; omega
  obtain ⟨a, c, rfl, hnc⟩ := h.u_form
  have hL := h.hL
  have hl64 := Lib.hid h.hlast
  have hv64 := Lib.hid hr.hv
  have hid32 := Lib.hid hr.hid
  show Calls _ _ #[_, .agg #[.int .u64 (r.v : Int), .bool r.gone, .int .u32 (r.id : Int), .slice r.pv.1 r.pv.2.1 r.pv.2.2, .slice r.pt.1 r.pt.2.1 r.pt.2.2]] _ _
  obtain ⟨w1, hw1⟩ : ∃ w1, w.alloc (.cells #[.int .u64 (r.v : Int), .bool r.gone, .int .u32 (r.id : Int), .slice r.pv.1 r.pv.2.1 r.pv.2.2, .slice r.pt.1 r.pt.2.1 r.pt.2.2] 131) = w1 := ⟨_, rfl⟩
  have hb1 : Below w.heap.size w w1 := by rw [← hw1]; exact (Below.refl _ _).alloc (Nat.le_refl _) _
  have S1 := Lib.hid (show LayS B lo g (.slice a L.length c) k L last floor kept r w w1 from ⟨h.on hb1, by rw [← hw1]; exact Blk.new w 131 r.cells.toArray, hr.under (hb1.mono hBw), hb1, fun x hx => (h.rows.lt x hx).2⟩)
  have d0 : w1.cell? ⟨w.heap.size, 0, none⟩ = some (.int .u64 (r.v : Int)) := S1.out.box.cell 0
  have c1 : w1.cell? ⟨g, 1, none⟩ = some (.int .u64 (last : Int)) := S1.out.past.blk.cell 1
  have HBW := Lib.hid hBw
  have GW := Lib.hid h.blk.lt
  clear h hr hb1 hBw
  go_enter Tryz.func61, Tryz.ntmps61
  go_wp2_with (fail)
  try rw [hw1]
  clear hw1
  go_cut [17] (fun s17 wx => ∃ z : Bool, s17 = .bool z ∧ Hid (z = true ↔ (r.v = 0 ∨ r.v < last)) ∧ Hid (LayS B lo g (.slice a L.length c) k L last floor kept r w wx))
  case first =>
    have NX := Lib.hid (fun n => S1.out.on (show Below w1.heap.size w1 (w1.drewN n) from below_draws (Below.refl _ _) n) (Nat.le_trans HBW.out S1.out.below.size))
    by_cases h0 : r.v = 0
    · have h0b : ((r.v : Int) == 0) = true := by simp [h0]
      go_quiet (fail)
      go_wp2
      go_meet
      exact ⟨true, rfl, by simp [Hid, h0], NX.out _⟩
    · have h0b : ((r.v : Int) == 0) = false := by simp; omega
      by_cases h1 : r.v < last
      · have h1b : decide ((r.v : Int) < (last : Int)) = true := decide_eq_true (by omega)
        go_quiet (fail)
        go_wp2
        go_meet
        exact ⟨true, rfl, by simp [Hid, h1], NX.out _⟩
      · have h1b : decide ((r.v : Int) < (last : Int)) = false := decide_eq_false (by omega)
        go_quiet (fail)
        go_wp2
        go_meet
        exact ⟨false, rfl, by simp [Hid, h1, h0], NX.out _⟩
  case rest =>
    obtain ⟨z, rfl, HZ, HS⟩ := hcut
    clear S1 d0 c1
    generalize wc = w2 at *
    have d0 : w2.cell? ⟨w.heap.size, 0, none⟩ = some (.int .u64 (r.v : Int)) := HS.out.box.cell 0
    have d1 : w2.cell? ⟨w.heap.size, 1, none⟩ = some (.bool r.gone) := HS.out.box.cell 1
    have d2 : w2.cell? ⟨w.heap.size, 2, none⟩ = some (.int .u32 (r.id : Int)) := HS.out.box.cell 2
    have c0 : w2.cell? ⟨g, 0, none⟩ = some (.slice a L.length c) := HS.out.past.blk.cell 0
    cases z
    rotate_left
    · have R := Lib.hid (HS.out.same (code := 1) (by rw [PastV.lay, if_pos (show r.toR.v = 0 ∨ r.toR.v < (PastR.st L last floor kept).last from HZ.out.1 rfl)]))
      go_wp2
      go_ret
      exact R.out
    have hz : ¬ (r.v = 0 ∨ r.v < last) := fun hh => nomatch HZ.out.2 hh
    have L1 := Lib.hid (show (PastR.st L last floor kept).lay r.toR = if r.gone = true ∧ thereP (rowsV L) r.id r.v = none then (PastR.st L last floor kept, 2) else if 1024 ≤ L.length then (PastR.st L last floor kept, 4) else (PastR.st (L ++ [r]) r.v floor kept, 0) from by
      rw [PastV.lay, if_neg (show ¬ (r.toR.v = 0 ∨ r.toR.v < (PastR.st L last floor kept).last) from hz)]
      have e1 : (PastR.st L last floor kept).rows.length = L.length := rowsV_len L
      have e2 : ({ PastR.st L last floor kept with rows := (PastR.st L last floor kept).rows ++ [r.toR], last := r.toR.v } : PastV) = PastR.st (L ++ [r]) r.v floor kept := by simp [PastR.st, rowsV, RowL.toR]
      rw [e1, e2]
      rfl)
    clear hz HZ
    cases hgn : r.gone
    · rw [hgn] at d1
      have LAY := Lib.hid (show (PastR.st L last floor kept).lay r.toR = if 1024 ≤ L.length then (PastR.st L last floor kept, 4) else (PastR.st (L ++ [r]) r.v floor kept, 0) from by rw [L1.out, if_neg (by simp [hgn])])
      go_upto_region 7 with fail
      by_cases hfull : 1024 ≤ L.length
      · have R := Lib.hid (HS.out.same (code := 4) (by rw [LAY.out, if_pos hfull]))
        have hfb : decide ((1024 : Int) ≤ (L.length : Int)) = true := decide_eq_true (by omega)
        go_wp2
        go_ret
        exact R.out
      · have hfb : decide ((1024 : Int) ≤ (L.length : Int)) = false := decide_eq_false (by omega)
        have hLL : L.length < 1024 := by omega
        rw [← hgn] at d1
        clear hgn
        have hgw : g < w.heap.size := GW.out
        have hgl : g < w2.heap.size := HS.out.past.blk.lt
        have hws := HS.out.below.size
        have LY := Lib.hid (show (PastR.st L last floor kept).lay r.toR = (PastR.st (L ++ [r]) r.v floor kept, 0) from by rw [LAY.out, if_neg hfull])
        have d3 : w2.cell? ⟨w.heap.size, 3, none⟩ = some (.slice r.pv.1 r.pv.2.1 r.pv.2.2) := HS.out.box.cell 3
        have d4 : w2.cell? ⟨w.heap.size, 4, none⟩ = some (.slice r.pt.1 r.pt.2.1 r.pt.2.2) := HS.out.box.cell 4
        have hwl : w.heap.size < w2.heap.size := HS.out.box.lt
        have ROW := Lib.hid (HS.out.past.rows.kept ((Kept.refl [] w2).drew) (by simp))
        have hlo : lo ≤ w2.drew.heap.size := by
          have h1 := HS.out.past.glo
          have h2 : w2.drew.heap.size = w2.heap.size := rfl
          omega
        go_wp2
        go_region_law (refine step_c w2.drew (by rfl) (.tmp 49) (.tmp 51) 46 (by rfl) Tryz.underlying46 (.agg #[.int .u64 0, .bool false, .int .u32 0, .slice none 0 0, .slice none 0 0]) 72 row_info8 rfl (by decide) [.int .u64 (r.v : Int), .bool r.gone, .int .u32 (r.id : Int), .slice r.pv.1 r.pv.2.1 r.pv.2.2, .slice r.pt.1 r.pt.2.1 r.pt.2.2] (by rfl) (by rfl) ROW.out rfl (by simp [Value.oneCell']) hlo (by simp; omega) (by simp; omega) ?_; intro v8 w8 hr8 hk8 hg8; obtain ⟨a8, c8, e8, _⟩ := hr8.form; obtain ⟨n8, hn8⟩ : ∃ n8, (L.map RowL.cells ++ [r.cells]).length = n8 := ⟨_, rfl⟩; obtain rfl : v8 = .slice a8 n8 c8 := e8.trans (by rw [← hn8]; rfl); clear e8 hn8; obtain ⟨hpost, hblk8, hbox8⟩ := HS.out.laid hgw LY.out hLL hr8 hk8 hg8; have POST := Lib.hid hpost; have x0 : w8.cell? ⟨g, 0, none⟩ = some (.slice a L.length c) := hblk8.cell 0; have x1 : w8.cell? ⟨g, 1, none⟩ = some (.int .u64 (last : Int)) := hblk8.cell 1; have y0 : w8.cell? ⟨w.heap.size, 0, none⟩ = some (.int .u64 (r.v : Int)) := hbox8.cell 0; have fg0 := hblk8.frozen 0; have fg1 := hblk8.frozen 1; clear hpost hblk8 hbox8 hr8 hk8 hg8)
        all_goals
          go_wp2
          go_ret
          exact POST.out
    · rw [hgn] at d1
      go_wp2_with (fail)
      refine (rat_any w2 B lo g _ k L last floor kept r.id r.v hv64.out HS.out.past).mono ?_
      rintro e w3 ⟨rfl, hw3⟩
      have hw3' := hw3.symm
      subst hw3'
      clear hw3
      obtain ⟨p, hp⟩ : ∃ p, atP (rowsV L) r.id r.v = p := ⟨_, rfl⟩
      have HPP := Lib.hid hp
      have hlt := atP_lt (rowsV L) r.id r.v
      rw [hp] at hlt ⊢
      rw [rowsV_len] at hlt
      clear hp
      by_cases hneg : p < 0
      · have R := Lib.hid (HS.out.same (code := 2) (by rw [L1.out, if_pos ⟨hgn, thereP_none (by rw [HPP.out]; exact hneg)⟩]))
        go_wp2
        go_ret
        exact R.out
      obtain ⟨i, rfl⟩ := Int.eq_ofNat_of_zero_le (a := p) (by omega)
      have hil : i < L.length := by omega
      obtain ⟨q, gu, c', hq, hmem, e, _, k0, k1, k2, hrg⟩ := HS.out.past.rowAt i hil
      simp only [Value.slice.injEq] at e
      obtain ⟨rfl, -, rfl⟩ := e
      have hqv : (rowsV L)[i]? = some q.toR := by rw [rowsV, List.getElem?_map, hq]; rfl
      have HQV := Lib.hid hqv
      clear hq hmem hrg hqv k0 k2
      cases hqn : q.gone
      rotate_left
      · rw [hqn] at k1
        have R := Lib.hid (HS.out.same (code := 2) (by rw [L1.out, if_pos ⟨hgn, thereP_gone HPP.out HQV.out hqn⟩]))
        go_wp2
        go_ret
        exact R.out
      rw [hqn] at k1
      have LAY := Lib.hid (show (PastR.st L last floor kept).lay r.toR = if 1024 ≤ L.length then (PastR.st L last floor kept, 4) else (PastR.st (L ++ [r]) r.v floor kept, 0) from by rw [L1.out, if_neg (by rw [thereP_some HPP.out HQV.out hqn]; simp)])
      by_cases hfull : 1024 ≤ L.length
      · have R := Lib.hid (HS.out.same (code := 4) (by rw [LAY.out, if_pos hfull]))
        have hfb : decide ((1024 : Int) ≤ (L.length : Int)) = true := decide_eq_true (by omega)
        go_wp2
        go_ret
        exact R.out
      · have hfb : decide ((1024 : Int) ≤ (L.length : Int)) = false := decide_eq_false (by omega)
        have hLL : L.length < 1024 := by omega
        rw [← hgn] at d1
        clear hgn
        have hgw : g < w.heap.size := GW.out
        have hgl : g < w2.heap.size := HS.out.past.blk.lt
        have hws := HS.out.below.size
        have LY := Lib.hid (show (PastR.st L last floor kept).lay r.toR = (PastR.st (L ++ [r]) r.v floor kept, 0) from by rw [LAY.out, if_neg hfull])
        have d3 : w2.cell? ⟨w.heap.size, 3, none⟩ = some (.slice r.pv.1 r.pv.2.1 r.pv.2.2) := HS.out.box.cell 3
        have d4 : w2.cell? ⟨w.heap.size, 4, none⟩ = some (.slice r.pt.1 r.pt.2.1 r.pt.2.2) := HS.out.box.cell 4
        have hwl : w.heap.size < w2.heap.size := HS.out.box.lt
        have ROW := Lib.hid (HS.out.past.rows.kept ((Kept.refl [] w2).drew) (by simp))
        have hlo : lo ≤ w2.drew.heap.size := by
          have h1 := HS.out.past.glo
          have h2 : w2.drew.heap.size = w2.heap.size := rfl
          omega
        go_wp2
        go_region_law (refine step_c w2.drew (by rfl) (.tmp 49) (.tmp 51) 46 (by rfl) Tryz.underlying46 (.agg #[.int .u64 0, .bool false, .int .u32 0, .slice none 0 0, .slice none 0 0]) 72 row_info8 rfl (by decide) [.int .u64 (r.v : Int), .bool r.gone, .int .u32 (r.id : Int), .slice r.pv.1 r.pv.2.1 r.pv.2.2, .slice r.pt.1 r.pt.2.1 r.pt.2.2] (by rfl) (by rfl) ROW.out rfl (by simp [Value.oneCell']) hlo (by simp; omega) (by simp; omega) ?_; intro v8 w8 hr8 hk8 hg8; obtain ⟨a8, c8, e8, _⟩ := hr8.form; obtain ⟨n8, hn8⟩ : ∃ n8, (L.map RowL.cells ++ [r.cells]).length = n8 := ⟨_, rfl⟩; obtain rfl : v8 = .slice a8 n8 c8 := e8.trans (by rw [← hn8]; rfl); clear e8 hn8; obtain ⟨hpost, hblk8, hbox8⟩ := HS.out.laid hgw LY.out hLL hr8 hk8 hg8; have POST := Lib.hid hpost; have x0 : w8.cell? ⟨g, 0, none⟩ = some (.slice (some ⟨gu, 0, none⟩) L.length c) := hblk8.cell 0; have x1 : w8.cell? ⟨g, 1, none⟩ = some (.int .u64 (last : Int)) := hblk8.cell 1; have y0 : w8.cell? ⟨w.heap.size, 0, none⟩ = some (.int .u64 (r.v : Int)) := hbox8.cell 0; have fg0 := hblk8.frozen 0; have fg1 := hblk8.frozen 1; clear hpost hblk8 hbox8 hr8 hk8 hg8)
        all_goals
          go_wp2
          go_ret
          exact POST.out
end Go.Proofs.YtdmnflncgmnghaaGreat
