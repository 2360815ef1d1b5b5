/-
  Layer 16, the program's table: Keep, Ack. (Made by tools/mkddg.py.)
-/
import Derived.Test.YtdgiellnklcioaaDdf
import Derived.Test.YtdgiellnklcioaaQrw
import Derived.Test.YtdgiellnklcioaaQrq
import Derived.StillTailTactics
namespace Go.Proofs.Ytdgiellnklcioaa
open Go.RowKit Go.ChangeShapes Go.WideShapes Go.ChangeAt Go.Maps

theorem load_msgA {w : World} {g : Nat} {M : Array Value} (h : Blk w g 45 M.toList) (h28 : M.size = 28) : (Instr.loadAt 45 (.pointer (some ⟨g, 0, none⟩))).run Try.prog w = .ok (.agg M) w := by
  have hi : (Try.prog.info? 45).map (·.size) = some M.size := by rw [h28]; exact msg_size16
  have hl := run_loadVar_row (P := Try.prog) w g 45 45 M (0, 0) _ h Try.underlying45 rfl hi
  simp only [Instr.loadAt, Instr.sureAddr, Sem.run_bind, Sem.run_pure, Result.andThen_ok, hl]

def dsKeepR (i : Nat) : Nat := match i with
  | 0 => 32
  | 1 => 33
  | 2 => 34
  | 3 => 35
  | 4 => 36
  | 5 => 37
  | 6 => 38
  | 7 => 6
  | _ + 8 => 0
def factsKeepR (w0 : World) (x b req : Nat) (M : Array Value) (m : MsgL) (_L : Nat → Bool) (j : Nat) (v : Value) (w : World) : Prop :=
  match j with
  | 0 => v = .pointer (some ⟨x, 0, none⟩)
  | 1 => v = .pointer (some ⟨x, 0, none⟩)
  | 2 => v = .pointer (some ⟨x, 0, none⟩)
  | 3 => v = .map (some b)
  | 4 => v = .int .u32 (req : Int)
  | 5 => v = .agg M
  | 6 => ∃ y : MsgL, v = .agg y.cells.toArray ∧ y.In (w0.heap.size ≤ ·) w ∧ y.toM = m.toM
  | _ => True
theorem factsKeepR_on (w0 : World) (x b req : Nat) (M : Array Value) (m : MsgL) (L : Nat → Bool) (i j : Nat) (v : Value) (w w' : World) (h : factsKeepR w0 x b req M m L j v w) (hb : Below w.heap.size w w') : factsKeepR w0 x b req M m (updN L i) j v w' := by
  match j, h with
  | 0, h => exact h
  | 1, h => exact h
  | 2, h => exact h
  | 3, h => exact h
  | 4, h => exact h
  | 5, h => exact h
  | 6, h => exact (by obtain ⟨y, h1, h2, h3⟩ := h; exact ⟨y, h1, h2.on hb, h3⟩)
  | _ + 7, _ => exact trivial
set_option maxRecDepth 100000 in
set_option maxHeartbeats 6400000 in
theorem KeepR {rid : Nat} {ops : Array Oper} {Q : Exit → Act → World → Prop} {T0 : Array Value} (w0 : World) (x b req : Nat) (M : Array Value) (m : MsgL) (bf : Nat) (E : List (Lit × Value)) (hsize : ops.size = 8) (hb : edgesB ops = true) (hlead : leadsB ops 7 = true)
    (op0 : OpIs ops 0 (.move (.tmp 0)) (some 32) [])
    (op1 : OpIs ops 1 (.nilCheck (.tmp 32)) (some 33) [0])
    (op2 : OpIs ops 2 (.fieldAddr 68 (.tmp 33) 0) (some 34) [1])
    (op3 : OpIs ops 3 (.load 66 (.tmp 34)) (some 35) [2])
    (op4 : OpIs ops 4 (.move (.tmp 1)) (some 36) [])
    (op5 : OpIs ops 5 (.load 45 (.tmp 5)) (some 37) [])
    (op6 : OpIs ops 6 (.call { callee := .value (.func 22), args := #[.tmp 37], argTypes := #[45] }) (some 38) [5])
    (op7 : OpIs ops 7 (.mapUpdate 66 (.tmp 35) (.tmp 36) (.tmp 38)) (none) [3, 4, 6])
    (hT : T0.size = 39) (t0 : T0[0]? = some (.pointer (some ⟨x, 0, none⟩))) (t1 : T0[1]? = some (.int .u32 (req : Int))) (t5 : T0[5]? = some (.pointer (some ⟨bf, 0, none⟩)))
    (k1 : w0.cell? ⟨x, 0, none⟩ = some (.map (some b))) (hx : x < w0.heap.size) (bX : Blk w0 bf 45 m.cells) (hM : m.cells.toArray = M) (rm : m.In (fun _ => True) w0) (hm : MapE w0 Try.prog 30 b E) (hE : E.length ≤ 1000000) (hreq : req < 4294967296)
    (hQ : ∀ (E2 : Nat → Value) (w w' : World) (y : MsgL), Below w0.heap.size w0 w → y.In (w0.heap.size ≤ ·) w → y.toM = m.toM → MapE w' Try.prog 30 b (putE E (key32 req) (.agg y.cells.toArray)) → Kept [b] w w' → Q .normal ⟨filledR T0 dsKeepR E2 7, []⟩ w') :
    (Code.region rid ops true).wp Try.prog Q ⟨T0, []⟩ w0 := by
  have hinj : ∀ p q, p < ops.size → q < ops.size → dsKeepR p = dsKeepR q → p = q := by
    rw [hsize]
    have h1 : ∀ p, p < 8 → ∀ q, q < 8 → dsKeepR p = dsKeepR q → p = q := by decide
    exact fun p q hp hq => h1 p hp q hq
  have hds : ∀ p, p < ops.size → dsKeepR p < T0.size := by
    rw [hsize, hT]
    decide
  refine wp_grow1 w0 dsKeepR (factsKeepR w0 x b req M m) 7 (by kernel_rfl) hb hsize hlead (factsKeepR_on w0 x b req M m) hinj hds ?_ ?_
  · intro l a w j o hI ho hj hl hlM hd K hK
    have far : ∀ k, (∀ p, p < 7 → dsKeepR p ≠ k) → ∀ p, p < ops.size → l.getD p false = true → dsKeepR p ≠ k := by
      intro k hk p hp hlp
      rcases Nat.lt_or_ge p 7 with h | h
      · exact hk p h
      · have : p = 7 := by omega
        subst this
        rw [hlM] at hlp
        cases hlp
    have e0 : a.eval (.tmp 0) = .pointer (some ⟨x, 0, none⟩) := hI.ev 0 _ t0 (far 0 (by decide))
    have e1 : a.eval (.tmp 1) = .int .u32 (req : Int) := hI.ev 1 _ t1 (far 1 (by decide))
    have e5 : a.eval (.tmp 5) = .pointer (some ⟨bf, 0, none⟩) := hI.ev 5 _ t5 (far 5 (by decide))
    have hw0 := hI.below.size
    have q1 := (hI.below.cell (p := ⟨x, 0, none⟩) hx).trans k1
    have qb := (show Blk w bf 45 m.cells from (Kept.of_below (F := []) hI.below (Nat.le_refl _)).blk bX (by simp))
    rw [show m.cells = M.toList from by rw [← hM]] at qb
    have hcase : j = 0 ∨ j = 1 ∨ j = 2 ∨ j = 3 ∨ j = 4 ∨ j = 5 ∨ j = 6 := by omega
    rcases hcase with rfl | rfl | rfl | rfl | rfl | rfl | rfl
    · obtain ⟨hop, hdst, hgd, hL⟩ := op0.useQ ho
      refine g_if hgd (g_move hop ?_)
      rw [hdst]
      exact hK _ _ (show a.eval (.tmp 0) = _ from e0) (.inl (Below.refl _ _))
    · obtain ⟨hop, hdst, hgd, hL⟩ := op1.useQ ho
      refine g_if hgd (q_nil hop (hI.slot 0 (by decide) (hd 0 (hL 0 (by simp)))) ?_)
      rw [hdst]
      exact hK _ _ (show _ = _ from rfl) (.inl (Below.refl _ _))
    · obtain ⟨hop, hdst, hgd, hL⟩ := op2.useQ ho
      refine g_if hgd (g_field hop (hI.slot 1 (by decide) (hd 1 (hL 1 (by simp)))) ((show (Instr.fieldAt 68 (.pointer (some ⟨x, 0, none⟩)) 0).run Try.prog w = .ok (.pointer (some ⟨x, 0, none⟩)) w by go_simp)) ?_)
      rw [hdst]
      exact hK _ _ (show _ = _ from rfl) (.inl (Below.refl _ _))
    · obtain ⟨hop, hdst, hgd, hL⟩ := op3.useQ ho
      refine g_if hgd (g_load hop (hI.slot 2 (by decide) (hd 2 (hL 2 (by simp)))) ((show (Instr.loadAt 66 (.pointer (some ⟨x, 0, none⟩))).run Try.prog w = .ok (.map (some b)) w by go_simp)) ?_)
      rw [hdst]
      exact hK _ _ (show _ = _ from rfl) (.inl (Below.refl _ _))
    · obtain ⟨hop, hdst, hgd, hL⟩ := op4.useQ ho
      refine g_if hgd (g_move hop ?_)
      rw [hdst]
      exact hK _ _ (show a.eval (.tmp 1) = _ from e1) (.inl (Below.refl _ _))
    · obtain ⟨hop, hdst, hgd, hL⟩ := op5.useQ ho
      refine g_if hgd (g_load hop e5 (load_msgA qb (by rw [← hM]; rfl)) ?_)
      rw [hdst]
      exact hK _ _ (show _ = _ from rfl) (.inl (Below.refl _ _))
    · obtain ⟨hop, hdst, hgd, hL⟩ := op6.useQ ho
      refine g_if hgd (q_call (enters_of Try.func22 (by kernel_rfl) rfl) hop (us := #[.agg M]) (by simp only [List.map_toArray, List.map_cons, List.map_nil]; rw [(show a.eval (.tmp 37) = .agg M from (hI.slot 5 (by decide) (hd 5 (hL 5 (by simp)))))]) (hM ▸ cloneM_any m w (rm.on hI.below)) ?_)
      rintro e w' ⟨y, rfl, hbel, hin, hto⟩
      refine ⟨_, rfl, ?_⟩
      rw [hdst]
      exact hK _ _ ⟨y, rfl, hin.mono (fun k hk _ => Nat.le_trans hw0 hk), hto⟩ (.inl hbel)
  · intro a w o ho hfar hsz hdf hbel hfacts K hK
    obtain ⟨hop, hdst, hgd, hL⟩ := op7.useQ ho
    obtain ⟨L, -, hf⟩ := hfacts
    have f3 : a.eval (.tmp 35) = .map (some b) := hf 3 (by decide)
    have f4 : a.eval (.tmp 36) = .int .u32 (req : Int) := hf 4 (by decide)
    have f6 : ∃ y : MsgL, a.eval (.tmp 38) = .agg y.cells.toArray ∧ y.In (w0.heap.size ≤ ·) w ∧ y.toM = m.toM := hf 6 (by decide)
    obtain ⟨y, ev, hin, hto⟩ := f6
    obtain ⟨w', hrun, hm', hk'⟩ := du_put (n := req) (hm.on hbel) hreq hE (.agg y.cells.toArray)
    refine g_if hgd (q_mapUpdate hop f3 f4 ev hrun ?_)
    rw [hdst]
    have ht := filledR_eq (T0 := T0) (ds := dsKeepR) (T := a.tmps) 7 hsz hfar
    have ha : a.put none undef = ⟨filledR T0 dsKeepR (fun i => a.tmps.getD (dsKeepR i) undef) 7, []⟩ := by
      obtain ⟨tm, df⟩ := a
      simp only at hdf ht
      subst hdf
      show (⟨tm, []⟩ : Act) = _
      rw [← ht]
    rw [ha]
    exact hK _ _ (hQ _ w w' y hbel hin hto hm' hk')

/-- What Keep leaves. -/
def KeepPost (lo : Nat) (G : List Nat) (x : Nat) (t : TV) (req : Nat) (a : MsgV) (w : World) (e : Ending) (w' : World) : Prop := e = .returned (.int .i64 ((t.keep req a).1 : Int)) ∧ DIs w' lo G x (t.keep req a).2 ∧ Spare lo G w w'
theorem keep_end {w w1 wq wz w' : World} {lo x b n k : Nat} {G : List Nat} {Ms : List MsgL} {y : MsgL} (h : TabD w lo G x b Ms n k) (b1 : Below w.heap.size w w1) (hq : w1.setCell ⟨x, 1, none⟩ (.int .u32 ((n + 1 : Nat) : Int)) = wq) (hz : Below wq.heap.size wq wz) (hy : y.In (wq.heap.size ≤ ·) wz)
    (hm : MapE w' Try.prog 30 b (putE (entE k Ms) (key32 (n + 1)) (.agg y.cells.toArray))) (hk : Kept [b] wz w') (hn : n < 1073741824) (hf : Ms.length < 16) : TabD w' lo G x b (Ms ++ [y]) (n + 1) k ∧ Spare lo G w w' := by
  have h1 := h.on b1
  have kq : Kept [x] w1 wq := by rw [← hq]; exact (Kept.refl _ _).setCell _ _ (.inl (by simp))
  have bq : Blk wq x 68 [.map (some b), .int .u32 ((n + 1 : Nat) : Int), .int .u32 (k : Int)] := by rw [← hq]; exact h1.blk.set 1 _
  have hne := h.ne
  have hxl := h.blk.lt
  have hbl := h.map.lt
  have hs1 := b1.size
  have hsq := kq.size
  have hsz := hz.size
  have e1 := h.len
  have bz := (Kept.of_below (F := []) hz (Nat.le_refl _)).blk bq (by simp)
  refine ⟨⟨hk.blk bz (by simpa using hne.symm), by rw [← entE_put k (n + 1) Ms y (by omega)]; exact hm, by simp; omega, by simp; omega, by omega, fun m hm' => ?_, h.gx, h.gb, h.lx, h.lb, fun g hg => ?_⟩, ?_, ?_⟩
  · rcases List.mem_append.1 hm' with hm' | hm'
    · exact (((h1.each m hm').kept kq (fun j hj ho => by simp at hj; exact ho.2.1 hj)).on hz).kept hk (fun j hj ho => by simp at hj; exact ho.2.2.1 hj)
    · rw [List.mem_singleton.1 hm']
      refine hy.stay hk.size (fun j ho hlt => hk.block j hlt (fun hx => by simp at hx; omega)) (fun j ho _ => ⟨by have := h.lx; omega, by omega, by omega, fun hg => by have := h.gl j hg; omega⟩)
  · have := h.gl g hg
    have := hk.size
    omega
  · have s1 : Below lo w w1 := b1.mono (by have := h.lx; omega)
    have s2 : Below lo w1 wq := kq.below (fun j hj => by simp at hj; rw [hj]; exact h.lx) (by have := h.lx; omega)
    have s3 : Below lo wq wz := hz.mono (by have := h.lx; omega)
    have s4 : Below lo wz w' := hk.below (fun j hj => by simp at hj; rw [hj]; exact h.lb) (by have := h.lx; omega)
    exact ((s1.trans s2).trans s3).trans s4
  · intro g hg hlt
    have ngx : g ≠ x := fun e => h.gx (e ▸ hg)
    have ngb : g ≠ b := fun e => h.gb (e ▸ hg)
    rw [hk.block g (by omega) (by simpa using ngb), hz.block g (by omega), kq.block g (by omega) (by simpa using ngx), b1.block g hlt]
set_option maxRecDepth 100000 in
set_option maxHeartbeats 3200000 in
theorem dkeep_any (w : World) (lo x : Nat) (G : List Nat) (t : TV) (h : DIs w lo G x t) (req : Nat) (hr : req < 4294967296) (m : MsgL) (hm : m.In (· < lo) w) : Calls Try.prog 13 #[.pointer (some ⟨x, 0, none⟩), .int .u32 (req : Int), .agg m.cells.toArray] w (KeepPost lo G x t req m.toM w) := by
  obtain ⟨b, Ms, h1, h2⟩ := h
  obtain ⟨M, hM⟩ : ∃ M, m.cells.toArray = M := ⟨_, rfl⟩
  have hM1 : (M = #[]) = False := by rw [← hM]; simp [MsgL.cells]
  have hM2 : M.size = 28 := by rw [← hM]; rfl
  rw [hM]
  obtain ⟨w1, hw1⟩ : ∃ w1, w.alloc (.cells M 45) = w1 := ⟨_, rfl⟩
  have b1 : Below w.heap.size w w1 := by rw [← hw1]; exact (Below.refl _ _).alloc (Nat.le_refl _) _
  have hs1 : w1.heap.size = w.heap.size + 1 := by rw [← hw1]; simp
  have Y1 : Blk w1 w.heap.size 45 m.cells := by rw [← hw1, ← hM]; exact Blk.new w 45 m.cells.toArray
  have H1 := h1.on b1
  have hlo : lo ≤ w.heap.size := by have := h1.lx; have := h1.blk.lt; omega
  obtain ⟨n, hn⟩ : ∃ n, t.L.length = n := ⟨_, rfl⟩
  obtain ⟨k, hk⟩ : ∃ k, t.acked = k := ⟨_, rfl⟩
  have SAMEF := Lib.hid (fun (c : Nat) (hc : t.keep req m.toM = (c, t)) => show KeepPost lo G x t req m.toM w (.returned (.int .i64 (c : Int))) w1 from ⟨by rw [hc], by rw [hc]; exact ⟨b, Ms, H1, h2⟩, Spare.of b1 hlo⟩)
  have HN := Lib.hid hn
  have HK := Lib.hid hk
  rw [hn, hk] at H1 h1
  have hlen := h1.len
  have hmost := h1.most
  have hfew := h1.few
  have c0 : w1.cell? ⟨x, 0, none⟩ = some (.map (some b)) := H1.blk.cell 0
  have c1 : w1.cell? ⟨x, 1, none⟩ = some (.int .u32 (n : Int)) := H1.blk.cell 1
  have HM := Lib.hid H1.map
  obtain ⟨n1, hn1⟩ : ∃ n1, n + 1 = n1 := ⟨_, rfl⟩
  have hw : IntKind.u32.wrap ((n : Int) + 1) = (n1 : Int) := by rw [IntKind.wrap_u32]; omega
  by_cases hreq : req = n1
  · have hq : ((req : Int) != (n1 : Int)) = false := by simp; omega
    by_cases hbig : 1073741824 ≤ n
    · have hb : decide ((n : Int) ≥ 1073741824) = true := decide_eq_true (by omega)
      have hb' : decide ((1073741824 : Int) ≤ (n : Int)) = true := decide_eq_true (by omega)
      have R := Lib.hid (SAMEF.out 6 (by unfold TV.keep; rw [HN.out, if_neg (by omega), if_pos hbig]))
      clear h1 h2 H1 b1 hn hk hlen hmost hfew SAMEF hreq hbig hn1 HM
      go_enter Try.func13, Try.ntmps13
      go_wp2
      go_ret
      exact R.out
    · have hb : decide ((n : Int) ≥ 1073741824) = false := decide_eq_false (by omega)
      have hb' : decide ((1073741824 : Int) ≤ (n : Int)) = false := decide_eq_false (by omega)
      obtain ⟨l, hl⟩ : ∃ l, Ms.length = l := ⟨_, rfl⟩
      have HL := Lib.hid (show (entE k Ms).length = l by rw [entE_len]; exact hl)
      by_cases hfull : 16 ≤ l
      · have hf : (16 : Int) ≤ (l : Int) := by omega
        have R := Lib.hid (SAMEF.out 4 (by unfold TV.keep; rw [HN.out, HK.out, if_neg (by omega), if_neg hbig, if_pos (by omega)]))
        clear h1 h2 H1 b1 hn hk hlen hmost hfew SAMEF hreq hbig hn1 hl hfull
        go_enter Try.func13, Try.ntmps13
        go_wp2_with (first | (at_len; refine du_len _ rfl _ rfl b _ _ HL.out rfl HM.out ?_) | fail)
        go_ret
        exact R.out
      · have hf : ¬ (16 : Int) ≤ (l : Int) := by omega
        have f1 := H1.blk.frozen 1
        obtain ⟨wq, hwq⟩ : ∃ wq, w1.setCell ⟨x, 1, none⟩ (.int .u32 (req : Int)) = wq := ⟨_, rfl⟩
        have kq : Kept [x] w1 wq := by rw [← hwq]; exact (Kept.refl _ _).setCell _ _ (.inl (by simp))
        have hIN : m.In (fun _ => True) wq := ((hm.under (b1.mono hlo)).kept kq (fun j hj => by simp at hj; have := h1.lx; omega)).mono fun _ _ _ => trivial
        have RP := Lib.hid (show Blk wq x 68 [.map (some b), .int .u32 (req : Int), .int .u32 (k : Int)] ∧ Blk wq w.heap.size 45 m.cells ∧ m.In (fun _ => True) wq ∧ MapE wq Try.prog 30 b (entE k Ms) from
          ⟨by rw [← hwq]; exact H1.blk.set 1 _, kq.blk Y1 (by simp; have := h1.blk.lt; omega), hIN, H1.map.kept kq (by simpa using H1.ne)⟩)
        have FIN := Lib.hid (fun (wz w' : World) (y : MsgL) (hz : Below wq.heap.size wq wz) (hy : y.In (wq.heap.size ≤ ·) wz) (hto : y.toM = m.toM) (hm' : MapE w' Try.prog 30 b (putE (entE k Ms) (key32 req) (.agg y.cells.toArray))) (hk' : Kept [b] wz w') =>
          show KeepPost lo G x t req m.toM w (.returned (.int .i64 0)) w' from by
            have e : t.keep req m.toM = (0, ⟨t.L ++ [m.toM], t.acked⟩) := by
              unfold TV.keep
              rw [HN.out, HK.out, if_neg (by omega), if_neg hbig, if_neg (by omega)]
            have hr2 : req = n + 1 := by omega
            rw [hr2] at hwq hm'
            obtain ⟨r1, r2⟩ := keep_end h1 b1 hwq hz hy hm' hk' (by omega) (by omega)
            refine ⟨by rw [e]; rfl, ?_, r2⟩
            rw [e]
            refine ⟨b, Ms ++ [y], ?_, ?_⟩
            · show TabD w' lo G x b (Ms ++ [y]) (t.L ++ [m.toM]).length t.acked
              rw [List.length_append, HN.out, HK.out]
              exact r1
            · show (Ms ++ [y]).map MsgL.toM = (t.L ++ [m.toM]).drop t.acked
              rw [List.map_append, h2, List.drop_append_of_le_length (by rw [HN.out, HK.out]; omega)]
              simp [hto])
        have HMM := Lib.hid hM
        have HLE := Lib.hid (show (entE k Ms).length ≤ 1000000 by rw [entE_len]; omega)
        have HR := Lib.hid hr
        clear h1 h2 H1 b1 hn hk hlen hmost hfew SAMEF hreq hbig hn1 hl hfull kq Y1 hm hM hr
        go_enter Try.func13, Try.ntmps13
        go_wp2_with (first | (at_len; refine du_len _ rfl _ rfl b _ _ HL.out rfl HM.out ?_) | fail)
        refine KeepR wq x b req M m w.heap.size (entE k Ms) rfl (by kernel_rfl) (by kernel_rfl) ⟨_, rfl, rfl, rfl, rfl, by kernel_rfl⟩ ⟨_, rfl, rfl, rfl, rfl, by kernel_rfl⟩ ⟨_, rfl, rfl, rfl, rfl, by kernel_rfl⟩ ⟨_, rfl, rfl, rfl, rfl, by kernel_rfl⟩ ⟨_, rfl, rfl, rfl, rfl, by kernel_rfl⟩ ⟨_, rfl, rfl, rfl, rfl, by kernel_rfl⟩ ⟨_, rfl, rfl, rfl, rfl, by kernel_rfl⟩ ⟨_, rfl, rfl, rfl, rfl, by kernel_rfl⟩ rfl rfl rfl rfl (RP.out.1.cell 0) RP.out.1.lt RP.out.2.1 HMM.out RP.out.2.2.1 RP.out.2.2.2 HLE.out HR.out ?_
        intro E2 wz w' y hz hy hto hm' hk'
        have R := Lib.hid (FIN.out wz w' y hz hy hto hm' hk')
        clear hz hy hto hm' hk' FIN HLE HMM HL HM RP
        simp only [filledR, dsKeepR]
        go_simp
        go_step
        go_wp2
        go_ret
        exact R.out
  · have hq : ((req : Int) != (n1 : Int)) = true := by simp; omega
    have R := Lib.hid (SAMEF.out 1 (by unfold TV.keep; rw [HN.out, if_pos (by omega)]))
    clear h1 h2 H1 b1 hn hk hlen hmost hfew SAMEF hreq hn1 HM
    go_enter Try.func13, Try.ntmps13
    go_wp2
    go_ret
    exact R.out
/-- What Ack leaves. -/
def AckPost (lo : Nat) (G : List Nat) (x : Nat) (t : TV) (n : Nat) (w : World) (e : Ending) (w' : World) : Prop := e = .returned (.int .i64 ((t.ack n).1 : Int)) ∧ DIs w' lo G x (t.ack n).2 ∧ Spare lo G w w'
theorem TabD.one {w w1 w2 : World} {lo x b n k : Nat} {G : List Nat} {m : MsgL} {Ms : List MsgL} (h : TabD w lo G x b (m :: Ms) n k) (hq : w.setCell ⟨x, 2, none⟩ (.int .u32 ((k + 1 : Nat) : Int)) = w1) (hm : MapE w2 Try.prog 30 b (dropE (entE k (m :: Ms)) (key32 (k + 1)))) (hk : Kept [b] w1 w2) : TabD w2 lo G x b Ms n (k + 1) ∧ Spare lo G w w2 := by
  have kq : Kept [x] w w1 := by rw [← hq]; exact (Kept.refl _ _).setCell _ _ (.inl (by simp))
  have bq : Blk w1 x 68 [.map (some b), .int .u32 (n : Int), .int .u32 ((k + 1 : Nat) : Int)] := by rw [← hq]; exact h.blk.set 2 _
  have hne := h.ne
  have e1 := h.len
  have e2 := h.few
  rw [entE_drop] at hm
  simp only [List.length_cons] at e1 e2
  have hs1 := kq.size
  refine ⟨⟨hk.blk bq (by simpa using hne.symm), hm, by omega, by omega, h.most, fun y hy => ?_, h.gx, h.gb, h.lx, h.lb, fun g hg => ?_⟩, ?_, ?_⟩
  · exact ((h.each y (List.mem_cons_of_mem _ hy)).kept kq (fun j hj ho => by simp at hj; exact ho.2.1 hj)).kept hk (fun j hj ho => by simp at hj; exact ho.2.2.1 hj)
  · have := h.gl g hg
    have := hk.size
    omega
  · have hx := h.blk.lt
    exact (kq.below (fun j hj => by simp at hj; rw [hj]; exact h.lx) (by have := h.lx; omega)).trans (hk.below (fun j hj => by simp at hj; rw [hj]; exact h.lb) (by have := h.lx; omega))
  · intro g hg hlt
    have ngx : g ≠ x := fun e => h.gx (e ▸ hg)
    have ngb : g ≠ b := fun e => h.gb (e ▸ hg)
    rw [hk.block g (by omega) (by simpa using ngb), kq.block g hlt (by simpa using ngx)]
def accW (x : Nat) (w : World) : Nat := match w.cell? ⟨x, 2, none⟩ with | some (.int _ z) => z.toNat | _ => 0
theorem accW_is {x k : Nat} {w : World} (h : w.cell? ⟨x, 2, none⟩ = some (.int .u32 (k : Int))) : accW x w = k := by unfold accW; rw [h]; simp
set_option maxRecDepth 100000 in
set_option maxHeartbeats 3200000 in
theorem dack_any (w : World) (lo x : Nat) (G : List Nat) (t : TV) (h : DIs w lo G x t) (n : Nat) : Calls Try.prog 15 #[.pointer (some ⟨x, 0, none⟩), .int .u32 (n : Int)] w (AckPost lo G x t n w) := by
  obtain ⟨b, Ms, h1, h2⟩ := h
  obtain ⟨d, hd⟩ : ∃ d, t.L.length = d := ⟨_, rfl⟩
  have HD := Lib.hid hd
  have c1 : w.cell? ⟨x, 1, none⟩ = some (.int .u32 (d : Int)) := by rw [← hd]; exact h1.blk.cell 1
  by_cases hbig : d < n
  · have hb : decide (d < n) = true := decide_eq_true hbig
    have R := Lib.hid (show AckPost lo G x t n w (.returned (.int .i64 1)) w from by
      have e : t.ack n = (1, t) := by unfold TV.ack; rw [if_pos (by rw [hd]; exact hbig)]
      exact ⟨by rw [e]; rfl, by rw [e]; exact ⟨b, Ms, h1, h2⟩, Spare.refl⟩)
    clear h1 h2 hd hbig
    go_enter Try.func15, Try.ntmps15
    go_wp2
    go_ret
    exact R.out
  · have hb : decide (d < n) = false := decide_eq_false hbig
    have HIS := Lib.hid (show DIs w lo G x t from ⟨b, Ms, h1, h2⟩)
    have hk0 := h1.len
    have hmost := h1.most
    rw [hd] at hk0 hmost
    clear h1 h2 hd
    go_enter Try.func15, Try.ntmps15
    go_wp2
    go_loopw [11] (fun s11 wr => ∃ (k : Nat) (b : Nat) (Ms : List MsgL), Hid (k ≤ max t.acked n ∧ t.acked ≤ k) ∧ Hid (TabD wr lo G x b Ms d k ∧ Ms.map MsgL.toM = t.L.drop k ∧ Spare lo G w wr)) (fun _ wr => n - accW x wr)
    case atStart =>
      obtain ⟨b, Ms, h1, h2⟩ := HIS.out
      rw [HD.out] at h1
      exact ⟨t.acked, b, Ms, ⟨Nat.le_max_left _ _, Nat.le_refl _⟩, h1, h2, Spare.refl⟩
    case round =>
      clear HIS
      obtain ⟨k, b, Ms, hk, HI⟩ := hrel
      have hlen := HI.out.1.len
      have c2 : wr.cell? ⟨x, 2, none⟩ = some (.int .u32 (k : Int)) := HI.out.1.blk.cell 2
      by_cases hkn : k < n
      · have hkn' : decide (k < n) = true := decide_eq_true hkn
        cases Ms with
        | nil => simp at hlen; omega
        | cons m Ms =>
          have f2 := HI.out.1.blk.frozen 2
          obtain ⟨k1, hk1⟩ : ∃ k1, k + 1 = k1 := ⟨_, rfl⟩
          have hw : IntKind.u32.wrap ((k : Int) + 1) = (k1 : Int) := by rw [IntKind.wrap_u32]; omega
          obtain ⟨wq, hwq⟩ : ∃ wq, wr.setCell ⟨x, 2, none⟩ (.int .u32 (k1 : Int)) = wq := ⟨_, rfl⟩
          have RP := Lib.hid (show MapE wq.drew Try.prog 30 b (entE k (m :: Ms)) from by
            have : Kept [x] wr wq := by rw [← hwq]; exact (Kept.refl _ _).setCell _ _ (.inl (by simp))
            exact (HI.out.1.map.kept this (by simpa using HI.out.1.ne)).drew)
          have d0 : wq.drew.cell? ⟨x, 0, none⟩ = some (.map (some b)) := by
            rw [← hwq]
            exact (HI.out.1.blk.set 2 (.int .u32 (k1 : Int))).cell 0
          have d2 : wq.drew.cell? ⟨x, 2, none⟩ = some (.int .u32 (k1 : Int)) := by
            rw [← hwq]
            exact (HI.out.1.blk.set 2 (.int .u32 (k1 : Int))).cell 2
          have H1 := Lib.hid (show k1 < 4294967296 by omega)
          have NX := Lib.hid (fun (w2 : World) (hm : MapE w2 Try.prog 30 b (dropE (entE k (m :: Ms)) (key32 k1))) (hk2 : Kept [b] wq.drew w2) => show TabD w2 lo G x b Ms d k1 ∧ Ms.map MsgL.toM = t.L.drop k1 ∧ Spare lo G w w2 from by
            have hk3 : Kept [b] wq w2 := (Kept.of_below (F := [b]) (Below.refl wq.heap.size wq).drew (Nat.le_refl _)).trans hk2 (Grows.refl _ _)
            rw [← hk1] at hwq hm ⊢
            obtain ⟨r1, r2⟩ := HI.out.1.one hwq hm hk3
            refine ⟨r1, ?_, HI.out.2.2.trans r2⟩
            have := HI.out.2.1
            rw [← List.tail_drop, ← this]
            rfl)
          have KK := Lib.hid (show k1 ≤ max t.acked n ∧ t.acked ≤ k1 ∧ k < k1 by have := hk.out; omega)
          have HKN := Lib.hid hkn
          clear HI hk hlen hkn hk1
          go_wp2
          go_still_tail 8, (by kernel_rfl)
          change wpList _ _ _ _ _ wq.drew
          go_wp2_with (first | (at_delete; refine du_del _ rfl _ _ rfl b _ rfl RP.out k1 H1.out rfl ?_; intro w2 hm2 hk2) | fail)
          obtain ⟨n1, n2, n3⟩ := NX.out w2 hm2 hk2
          have e2 : w2.cell? ⟨x, 2, none⟩ = some (.int .u32 (k1 : Int)) := n1.blk.cell 2
          have N1 := Lib.hid (And.intro n1 (And.intro n2 n3))
          have MS := Lib.hid (show n - accW x w2 < n - accW x wr by rw [accW_is e2, accW_is c2]; have := KK.out; have := HKN.out; omega)
          clear n1 n2 n3 hm2 hk2 NX RP
          go_wp2
          (try simp only [Act.put])
          go_roundw
          case rel => exact ⟨k1, b, Ms, ⟨KK.out.1, KK.out.2.1⟩, N1.out⟩
          case measure => exact MS.out
      · have hkn' : decide (k < n) = false := decide_eq_false hkn
        have R := Lib.hid (show AckPost lo G x t n w (.returned (.int .i64 0)) wr from by
          have e : t.ack n = (0, ⟨t.L, max t.acked n⟩) := by unfold TV.ack; rw [if_neg (by rw [HD.out]; exact hbig)]
          have ek : k = max t.acked n := by have := hk.out; omega
          rw [ek] at HI
          refine ⟨by rw [e]; rfl, ?_, HI.out.2.2⟩
          rw [e]
          exact ⟨b, Ms, by rw [HD.out]; exact HI.out.1, HI.out.2.1⟩)
        clear HI hk hlen hkn
        go_wp2
        go_ret
        exact R.out
end Go.Proofs.Ytdgiellnklcioaa
