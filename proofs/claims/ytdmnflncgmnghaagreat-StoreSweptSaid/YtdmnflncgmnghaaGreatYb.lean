/-
  StoreSwept holds: when all pins are taken away, there are as many rows as items.
-/
import Derived.Test.YtdmnflncgmnghaaGreatRows
import Derived.Test.YtdmnflncgmnghaaGreatYa
namespace Go.Proofs.YtdmnflncgmnghaaGreat
open Go.ChangeShapes Go.WideShapes Go.ChangeAt Go.RowKit

theorem op9_cells {b off i : Nat} {o : OpL} {wr : World} (h : ∀ j v, o.cells[j]? = some v → wr.cell? ⟨b, off + i * 10 + j, none⟩ = some v) :
    wr.cell? ⟨b, off + i * 10, none⟩ = some (.int .u8 (o.kind : Int)) ∧ wr.cell? ⟨b, off + i * 10 + 1, none⟩ = some (.string o.cf.name) ∧ wr.cell? ⟨b, off + i * 10 + 2, none⟩ = some (.int .u8 (o.cf.dim : Int)) ∧ wr.cell? ⟨b, off + i * 10 + 3, none⟩ = some (.int .u8 (o.cf.metric : Int)) ∧ wr.cell? ⟨b, off + i * 10 + 4, none⟩ = some (.bool o.cf.graph) ∧ wr.cell? ⟨b, off + i * 10 + 5, none⟩ = some (.int .u8 (o.cf.links : Int)) ∧
    wr.cell? ⟨b, off + i * 10 + 6, none⟩ = some (.int .u16 (o.cf.width : Int)) ∧ wr.cell? ⟨b, off + i * 10 + 7, none⟩ = some (.slice o.ca o.cn o.cc) ∧ wr.cell? ⟨b, off + i * 10 + 8, none⟩ = some (.int .u32 (o.id : Int)) ∧ wr.cell? ⟨b, off + i * 10 + 9, none⟩ = some (.int .i64 o.n) :=
  ⟨h 0 _ rfl, h 1 _ rfl, h 2 _ rfl, h 3 _ rfl, h 4 _ rfl, h 5 _ rfl, h 6 _ rfl, h 7 _ rfl, h 8 _ rfl, h 9 _ rfl⟩
theorem nums_pin {Qs : List (Nat × Nat)} {np v : Nat} (h : Qs.map (·.1) = List.range' 1 np) : (Qs ++ [(np + 1, v)]).map (·.1) = List.range' 1 (np + 1) := by
  rw [List.map_append, h, List.range'_concat]
  simp [Nat.add_comm]
theorem nums_off {Qs : List (Nat × Nat)} {j k : Nat} (h : Qs.map (·.1) = List.range' j (k + 1)) : ∃ v Rs, Qs = (j, v) :: Rs ∧ (Qs.filter fun r => decide (r.1 ≠ j)) = Rs ∧ Rs.map (·.1) = List.range' (j + 1) k ∧ ∀ q ∈ Rs, q.1 ≠ j := by
  cases Qs with
  | nil => simp at h
  | cons q Rs =>
    rw [List.map_cons, List.range'_succ] at h
    simp only [List.cons.injEq] at h
    obtain ⟨h1, h2⟩ := h
    have h3 : ∀ q ∈ Rs, q.1 ≠ j := fun r hr e => by
      have h4 : r.1 ∈ List.range' (j + 1) k := by
        rw [← h2]
        exact List.mem_map.2 ⟨r, hr, rfl⟩
      rw [List.mem_range'_1] at h4
      omega
    obtain ⟨qn, qv⟩ := q
    have h1 : qn = j := h1
    subst h1
    refine ⟨qv, Rs, rfl, ?_, h2, h3⟩
    rw [List.filter_cons_of_neg (by simp)]
    exact List.filter_eq_self.2 (fun r hr => decide_eq_true (h3 r hr))
/-- What a store that only pins and writes is at any time. -/
structure SweptS (w : World) (lo N g j k : Nat) (G : List Nat) (p : PastV) (L : List Nat) (Qs : List (Nat × Nat)) (ver np : Nat) : Prop where
  one : OneIs w lo N g G (cfA 2) p L Qs ver np
  good : GoodP ver p
  tight : Qs = [] → Tight p
  nums : Qs.map (·.1) = List.range' j k
theorem SweptS.on {w w' : World} {lo N g j k ver np : Nat} {G L : List Nat} {p : PastV} {Qs : List (Nat × Nat)} (h : SweptS w lo N g j k G p L Qs ver np) (hb : Below w.heap.size w w') : SweptS w' lo N g j k G p L Qs ver np := ⟨h.one.on hb, h.good, h.tight, h.nums⟩
theorem SweptS.nil {w : World} {lo N g j k ver np : Nat} {G L : List Nat} {p : PastV} {Qs : List (Nat × Nat)} (h : SweptS w lo N g j k G p L Qs ver np) (hQ : Qs = []) : L = [] := by
  have := h.one.held
  rw [hQ] at this
  exact List.perm_nil.1 this
theorem SweptS.len {w : World} {lo N g j k ver np : Nat} {G L : List Nat} {p : PastV} {Qs : List (Nat × Nat)} (h : SweptS w lo N g j k G p L Qs ver np) : Qs.length = k := by
  have := congrArg List.length h.nums
  rw [List.length_map, List.length_range'] at this
  exact this
theorem SweptS.pin {w w' : World} {lo N g ver np : Nat} {G G' L : List Nat} {p : PastV} {Qs : List (Nat × Nat)} (h : SweptS w lo N g 1 np G p L Qs ver np) (h1 : OneIs w' lo (N + 1) g G' (cfA 2) p (ver :: L) (Qs ++ [(np + 1, ver)]) ver (np + 1)) : SweptS w' lo (N + 1) g 1 (np + 1) G' p (ver :: L) (Qs ++ [(np + 1, ver)]) ver (np + 1) := ⟨h1, h.good, fun e => (by simp at e), nums_pin h.nums⟩
theorem SweptS.write {w w' : World} {lo N g ver np : Nat} {G G' L : List Nat} {p : PastV} {Qs : List (Nat × Nat)} (h : SweptS w lo N g 1 np G p L Qs ver np) (xs : List ChL) (h1 : OneIs w' lo (N + 1) g G' (cfA 2) (writeV ver (cfA 2) p L xs).1.1 L Qs (writeV ver (cfA 2) p L xs).1.2 np) : SweptS w' lo (N + 1) g 1 np G' (writeV ver (cfA 2) p L xs).1.1 L Qs (writeV ver (cfA 2) p L xs).1.2 np :=
  ⟨h1, h.good.write _ _ _, fun e => (by
    have hL := h.nil e
    subst hL
    exact (h.tight e).write h.good _ _), h.nums⟩
theorem SweptS.unpin {w w' : World} {lo N g j k ver np v : Nat} {G G' L : List Nat} {p : PastV} {Rs : List (Nat × Nat)} (h : SweptS w lo N g j (k + 1) G p L ((j, v) :: Rs) ver np) (h1 : OneIs w' lo N g G' (cfA 2) (p.sweep (L.erase v)).1 (L.erase v) Rs ver np) (hn : Rs.map (·.1) = List.range' (j + 1) k) : SweptS w' lo N g (j + 1) k G' (p.sweep (L.erase v)).1 (L.erase v) Rs ver np :=
  ⟨h1, h.good.sweep _, fun e => (by
    have h2 := h1.held
    rw [e] at h2
    have h3 : L.erase v = [] := List.perm_nil.1 h2
    rw [h3]
    exact Tight.sweep h.good), hn⟩
set_option maxRecDepth 100000 in
set_option maxHeartbeats 12800000 in
theorem swept_walk (a : Option Addr) (n c : Nat) (xs : List shOp9.T) (w : World) (hx : Rd (· < w.heap.size) w shOps9 [.slice a n c] xs) :
    Calls Tryz.prog 6 #[.slice a n c] w fun e w' => e = .returned (.bool true) ∧ Below w.heap.size w w' := by
  have HX := Lib.hid hx
  clear hx
  go_enter Tryz.func6, Tryz.ntmps6
  go_wp2_with (fail)
  refine (alive9 w).mono ?_
  rintro e w1 ⟨rfl, hb1⟩
  go_wp2_with (fail)
  refine (new_store w1).mono ?_
  rintro e w2 ⟨g, gc, gp, rfl, hb2, h2⟩
  go_wp2_with (fail)
  refine (one_create w2 w1.heap.size g (cfA 2) (wfA 2 (by decide)) (by kernel_rfl) hb2.size ⟨gc, gp, h2⟩).mono ?_
  rintro e w3 ⟨rfl, G3, h3, hb3⟩
  obtain ⟨lo, hlo⟩ : ∃ lo, w1.heap.size = lo := ⟨_, rfl⟩
  have hwl : w.heap.size ≤ lo := by rw [← hlo]; exact hb1.size
  have B3 := Lib.hid (show Below w.heap.size w w3 from (hb1.trans (hb2.mono hb1.size)).trans (hb3.mono hb1.size))
  have H3 := Lib.hid (show SweptS w3 lo 0 g 1 0 G3 PastV.new [] [] 0 0 from ⟨hlo ▸ h3, GoodP.new, fun _ => Tight.new, rfl⟩)
  clear hb1 hb2 hb3 h2 h3 hlo
  go_wp2_with (fail)
  go_loopw [4, 5] (fun s4 s5 wr => ∃ (i np ver : Nat) (p : PastV) (L : List Nat) (Qs : List (Nat × Nat)) (G : List Nat), s4 = .int .i64 np ∧ s5 = .int .i64 i ∧ i ≤ 40 ∧ np ≤ i ∧ Hid (SweptS wr lo i g 1 np G p L Qs ver np) ∧ Hid (Below w.heap.size w wr)) (fun _ s5 _ => 40 - (intOf s5).toNat)
  case atStart => exact ⟨0, 0, 0, PastV.new, [], [], G3, rfl, rfl, by omega, by omega, H3.out, B3.out⟩
  case round =>
    clear H3 B3
    obtain ⟨i, np, ver, p, L, Qs, G, rfl, rfl, hi, hnp, HP, HB⟩ := hrel
    go_upto_region 7 with fail
    go_cut [20] (fun s20 wx => ∃ z : Bool, s20 = .bool z ∧ Hid (z = true ↔ (i < n ∧ i < 40)) ∧ wx = wr)
    case first =>
      by_cases hin : i < n
      · by_cases hi10 : i < 40
        · have hd1 : decide ((i : Int) < 40) = true := decide_eq_true (by omega)
          go_wp2
          go_meet
          exact ⟨true, rfl, by simp [Hid]; omega, rfl⟩
        · have hd1 : decide ((i : Int) < 40) = false := decide_eq_false (by omega)
          go_wp2
          go_meet
          exact ⟨false, rfl, by simp [Hid]; omega, rfl⟩
      · go_wp2
        go_meet
        exact ⟨false, rfl, by simp [Hid]; omega, rfl⟩
    case rest =>
      obtain ⟨z, rfl, HZI, rfl⟩ := hcut
      cases z
      rotate_left
      · obtain ⟨hin, hi40⟩ := HZI.out.1 rfl
        clear HZI
        obtain ⟨b, off, o, ys, rfl, hbl, hk, hcf, -, -, OPF⟩ := rd_op9 HX.out i hin
        obtain ⟨hb0, hrc, hcc⟩ := OPF.out _ HB.out
        obtain ⟨m0, m1, m2, m3, m4, m5, m6, m7, m8, m9⟩ := op9_cells hcc
        have GR := Lib.hid (great9 o ys wc hcf.size hrc)
        clear hcc hrc
        go_wp2_with (fail)
        refine GR.out.mono ?_
        rintro e w5 ⟨gr, rfl, hb5, hgr⟩
        have P5 := Lib.hid (HP.out.on hb5)
        have B5 := Lib.hid (below_on HB.out hb5)
        clear hb5 HP HB m0 m1 m2 m3 m4 m5 m6 m7 m8 m9 hb0 GR
        cases gr
        rotate_left
        · go_wp2
          go_ret
          exact ⟨rfl, B5.out⟩
        have hcn := hgr rfl
        obtain ⟨hb0, hrc, hcc⟩ := OPF.out _ B5.out
        obtain ⟨m0, -, -, -, -, -, -, m7, -, -⟩ := op9_cells hcc
        obtain ⟨cs, hcs⟩ := chs_of hrc (show o.cn ≤ 1000000 by omega)
        have CS := Lib.hid hcs
        have HOK := Lib.hid (show ∀ k, k < w.heap.size → k ∉ G from fun k hk hx => by
          have := (P5.out.one.lt k hx).1
          omega)
        obtain ⟨kd, hkd⟩ : ∃ kd, o.kind = kd := ⟨_, rfl⟩
        rw [hkd] at m0 hk
        clear hcs hrc hcc hgr
        by_cases hk1 : kd % 3 = 1
        · have hkb : decide ((kd : Int) % 3 = 1) = true := decide_eq_true (by omega)
          have hkb2 : ((kd : Int) % 3 == 1) = true := by rw [beq_iff_eq]; omega
          have hwp : IntKind.i64.wrap ((np : Int) + 1) = ((np + 1 : Nat) : Int) := by rw [IntKind.wrap_i64]; omega
          obtain ⟨np1, hnp1⟩ : ∃ np1, np + 1 = np1 := ⟨_, rfl⟩
          rw [hnp1] at hwp
          go_wp2_with (fail)
          refine (one_pin w5 lo i g ver np G (cfA 2) p L Qs (by omega) (szA 2) P5.out.one).mono ?_
          rintro e w6 ⟨G6, rfl, h6, k6, -⟩
          have B6 := Lib.hid (B5.out.trans ((P5.out.one.below k6).mono hwl))
          have P6 := Lib.hid (P5.out.pin h6)
          rw [hnp1] at P6
          clear k6 h6
          go_wp2
          go_roundw
          case rel => exact ⟨i + 1, np1, ver, p, _, _, G6, rfl, by go_num, by omega, by omega, P6.out, B6.out⟩
          case measure => simp [intOf]; omega
        · have hkb : decide ((kd : Int) % 3 = 1) = false := decide_eq_false (by omega)
          have hkb2 : ((kd : Int) % 3 == 1) = false := by rw [beq_eq_false_iff_ne]; omega
          go_wp2_with (fail)
          refine (one_write w5 lo i g ver np G (cfA 2) p L Qs (· < w.heap.size) o.ca o.cn o.cc cs (by omega) HOK.out (szA 2) P5.out.one CS.out).mono ?_
          rintro e w6 ⟨G6, rfl, h6, k6, -⟩
          have B6 := Lib.hid (B5.out.trans ((P5.out.one.below k6).mono hwl))
          have P6 := Lib.hid (P5.out.write cs h6)
          clear k6 h6
          go_wp2
          go_roundw
          case rel => exact ⟨i + 1, np, _, _, L, Qs, G6, rfl, by go_num, by omega, by omega, P6.out, B6.out⟩
          case measure => simp [intOf]; omega
      · clear HZI
        have PC := Lib.hid (one_pins wc lo i g ver np G (cfA 2) p L Qs HP.out.one)
        rw [HP.out.len] at PC
        go_wp2_with (fail)
        refine PC.out.mono ?_
        rintro e w3 ⟨rfl, hw3⟩
        subst hw3
        have P4 := Lib.hid (show SweptS w3 lo 40 g 1 np G p L Qs ver np from ⟨HP.out.one.raise hi, HP.out.good, HP.out.tight, HP.out.nums⟩)
        clear PC HP
        go_wp2_with (fail)
        go_loopw [6] (fun s6 wr => ∃ (j k : Nat) (p : PastV) (L : List Nat) (Qs : List (Nat × Nat)) (G : List Nat), s6 = .int .i64 j ∧ j + k = np + 1 ∧ Hid (SweptS wr lo 40 g j k G p L Qs ver np) ∧ Hid (Below w.heap.size w wr)) (fun s6 _ => np + 1 - (intOf s6).toNat)
        case atStart => exact ⟨1, np, p, L, Qs, G, rfl, by omega, P4.out, HB.out⟩
        case round =>
          clear P4 HB
          obtain ⟨j, k, p, L, Qs, G, rfl, hjk, HP, HB⟩ := hrel
          by_cases hk0 : k = 0
          · have hnj : ¬ j ≤ np := by omega
            have hQ : Qs = [] := by
              have := HP.out.len
              exact List.eq_nil_of_length_eq_zero (by omega)
            have RC := Lib.hid (one_rows wr lo 40 g ver np G (cfA 2) p L Qs (szA 2) HP.out.one)
            have SC := Lib.hid (one_size wr lo 40 g ver np G (cfA 2) p L Qs (szA 2) HP.out.one)
            have PC := Lib.hid (fun W (hW : Below wr.heap.size wr W) => one_pins W lo 40 g ver np G (cfA 2) p L Qs (HP.out.one.on hW))
            have T : p.rows.length = (p.all p.last).1.length := HP.out.tight hQ
            rw [T] at RC
            rw [hQ] at PC
            obtain ⟨m, hm⟩ : ∃ m, (p.all p.last).1.length = m := ⟨_, rfl⟩
            rw [hm] at RC SC
            clear T hm hQ hk0
            go_wp2_with (fail)
            refine RC.out.mono ?_
            rintro e w7 ⟨rfl, hw7⟩
            subst hw7
            go_wp2_with (fail)
            refine SC.out.mono ?_
            rintro e w8 ⟨rfl, hb8⟩
            have B8 := Lib.hid hb8
            clear hb8
            go_wp2_with (fail)
            refine (PC.out _ B8.out).mono ?_
            rintro e w9 ⟨rfl, hw9⟩
            subst hw9
            have BE := Lib.hid (below_on HB.out B8.out)
            go_wp2
            go_ret
            exact ⟨rfl, BE.out⟩
          · obtain ⟨k', rfl⟩ : ∃ k', k = k' + 1 := ⟨k - 1, by omega⟩
            have hj : j ≤ np := by omega
            obtain ⟨v, Rs, rfl, hf, hn, hne⟩ := nums_off HP.out.nums
            have HN := Lib.hid hn
            have HNE := Lib.hid hne
            have UC := Lib.hid (one_unpin wr lo 40 g ver np G (cfA 2) p L ((j, v) :: Rs) (j, v) (by decide) (by simp) HP.out.one)
            rw [show (((j, v) :: Rs).filter fun r => decide (r.1 ≠ ((j, v) : Nat × Nat).1)) = Rs from hf] at UC
            clear hf hn hne hk0
            go_wp2_with (fail)
            refine UC.out.mono ?_
            rintro e w7 ⟨G7, rfl, h7, k7, -⟩
            have P7 := Lib.hid (HP.out.unpin h7 HN.out)
            have B7 := Lib.hid (HB.out.trans ((HP.out.one.below k7).mono hwl))
            clear k7 h7 UC HP HB
            have hjwf : (Lit.int .i64 (j : Int)).wf = true := by
              simp [Lit.wf, IntKind.min, IntKind.max, IntKind.signed, IntKind.bits]
              omega
            have UN := Lib.hid (one_unpin_none w7 lo 40 g ver np G7 (cfA 2) _ _ Rs (j : Int) hjwf (fun q hq e => HNE.out q hq (by omega)) P7.out.one)
            go_wp2_with (fail)
            refine UN.out.mono ?_
            rintro e w8 ⟨rfl, hb8⟩
            have P8 := Lib.hid (P7.out.on hb8)
            have B8 := Lib.hid (below_on B7.out hb8)
            clear hb8 P7 B7 UN
            go_wp2
            go_roundw
            case rel => exact ⟨j + 1, k', _, _, Rs, G7, by go_num, by omega, P8.out, B8.out⟩
            case measure => simp [intOf]; omega
theorem swept_row : Rows.StoreSweptSaid :=
  OpenClaim.holds_of_wide 6 Tryz.f6 rfl rfl rfl rfl rfl rfl rfl ⟨rfl, rfl, rfl, rfl, rfl⟩ rfl rfl rfl rfl rfl (by kernel_rfl) Tryz.func6 (by kernel_rfl)
    (of_decide_eq_true (by kernel_rfl)) (by unfold Func.isWrapper; rw [if_neg (of_decide_eq_false (by kernel_rfl))]; exact ⟨rfl, rfl⟩)
    (fun os started H enc _ => lift (C := Tryz.checked) (s := Rows.storeSweptSpec) (conds := Rows.storeSweptRow.domain) os started H enc prog_own (by kernel_rfl) Tryz.func6 prog_laid rfl Tryz.underlying4 rfl
      (fun ds hl => by
        have hl : ds.length = 1 := hl
        match ds, hl with
        | [_], _ => rfl)
      (of_decide_eq_true (by kernel_rfl))
      (ChangeSpec.witness6 (enc := enc) (C := Tryz.checked) false ⟨#[], #[.slice none 0 0], []⟩ 8 (by kernel_rfl) (by kernel_rfl) (by kernel_rfl) (by kernel_rfl))
      (fun W base args ds p g => by
        rw [Tryz.params6] at g
        obtain ⟨a, n, c, xs, e0, hx⟩ := g.ops9 0 rfl
        rw [args1 g.count e0]
        exact swept_walk a n c xs W hx))
end Go.Proofs.YtdmnflncgmnghaaGreat
