/-
  FrameFinds holds: frames that are encoded, one behind the other, are found in order, in whatever pieces; nothing is left.
-/
import Derived.Test.YtemnmjfeljipjaaGreatRows
import Derived.Test.YtemnmjfeljipjaaGreatRe
import Derived.Test.YtemnmjfeljipjaaGreatMy
import Derived.Test.YtemnmjfeljipjaaGreatSp
import Derived.Test.YtemnmjfeljipjaaGreatEp
import Derived.Test.YtemnmjfeljipjaaGreatEz0
import Derived.Test.YtemnmjfeljipjaaGreatEu
import Derived.Test.YtemnmjfeljipjaaGreatEk
import Derived.Deep.RegionLaw
import Derived.Great.BuildSlice
namespace Go.Proofs.YtemnmjfeljipjaaGreat
open Go.ChangeShapes Go.WideShapes Go.ChangeAt Go.RowKit

theorem any_cons {P : Program} {md : Region.Mode} {ops : Array Oper} {Q : Exit → Act → World → Prop} {fuel : Nat} {listed : Array Bool} {a : Act} {w : World} (is : List Nat) (hr : Region.ready md ops listed = is) (hne : is ≠ []) (h : ∀ i ∈ is, wpOp P ops Q i (wpAny P md ops Q fuel (listed.setIfInBounds i true)) a w) : wpAny P md ops Q (fuel + 1) listed a w := by
  refine ⟨fun h0 => absurd (hr.symm.trans h0) hne, ?_⟩
  rw [hr]
  exact h
theorem any_one {P : Program} {md : Region.Mode} {ops : Array Oper} {Q : Exit → Act → World → Prop} {fuel : Nat} {listed : Array Bool} {a : Act} {w : World} {i : Nat} (hr : Region.ready md ops listed = [i]) (h : wpOp P ops Q i (wpAny P md ops Q fuel (listed.setIfInBounds i true)) a w) : wpAny P md ops Q (fuel + 1) listed a w :=
  any_cons [i] hr (by simp) (fun j hj => by rw [List.mem_singleton.1 hj]; exact h)
theorem wp_load_one {P : Program} {o : Oper} {act : Act} {K : Act → World → Prop} {Q : Exit → Act → World → Prop} (w : World) (ty : TypeId) (x : Operand) (hop : o.op = .load ty x) (g : Nat) (t : TypeId) (cs : Array Value) (d : TypeDesc)
    (hx : act.eval x = .pointer (some ⟨g, 0, none⟩)) (hb : w.heap[g]? = some (.cells cs t (0, 0))) (hu : P.underlying ty = some d) (hd : (match d with | .struct _ | .array _ _ => true | _ => false) = true) (hi : (P.info? ty).map (·.size) = some cs.size)
    (h : K (act.put o.dst (.agg cs)) w) : o.wp P act w K Q := by
  have hl := run_loadVar_row (P := P) w g t ty cs (0, 0) d hb hu hd hi
  unfold Oper.wp execOp
  simp only [hop, hx, Instr.loadAt, Instr.sureAddr, Sem.run_bind, Sem.run_pure, Result.andThen_ok, hl]
  exact h
theorem wp_load_mid {P : Program} {o : Oper} {act : Act} {K : Act → World → Prop} {Q : Exit → Act → World → Prop} (w : World) (ty : TypeId) (x : Operand) (hop : o.op = .load ty x) (g i : Nat) (cs : Array Value) (d : TypeDesc)
    (hx : act.eval x = .pointer (some ⟨g, i, none⟩)) (hc : w.rangeAt g i cs.toList) (hu : P.underlying ty = some d) (hd : d.isRow = true) (hi : (P.info? ty).map (·.size) = some cs.size)
    (h : K (act.put o.dst (.agg cs)) w) : o.wp P act w K Q := by
  have hl := run_loadVar_mid (P := P) w g i ty cs.toList d hc hu hd hi
  unfold Oper.wp execOp
  simp only [hop, hx, Instr.loadAt, Instr.sureAddr, Sem.run_bind, Sem.run_pure, Result.andThen_ok, hl]
  exact h
theorem row_apart {lo lo' k k' n n' : Nat} {w : World} {t t' : TypeId} {u v : Value} {xs ys : List Value} (h : w.ownsRow lo t k u n xs) (h' : w.ownsRow lo' t' k' v n' ys) (ht : t ≠ t') : ∀ g, u.ownBlock = some g → v.ownBlock ≠ some g := by
  intro g hg hv
  rcases h.2 with ⟨rfl, _⟩ | ⟨a, cap, cur, rfl, _, hh, _⟩
  · cases hg
  rcases h'.2 with ⟨rfl, _⟩ | ⟨a', cap', cur', rfl, _, hh', _⟩
  · cases hv
  cases hg
  cases hv
  rw [hh] at hh'
  simp only [Option.some.injEq, Obj.cells.injEq] at hh'
  exact ht hh'.2.1
/-- The state of the first loop: what was kept, and its frames. -/
structure FindA (w : World) (B1 B g : Nat) (F : List Nat) (ms : List MsgL) (u v : Value) (wr : World) : Prop where
  row : RowC B1 wr 37 28 u (ms.map MsgL.cells)
  own : OwnV wr B1 5 v (restF ms 0)
  fit : ∀ m ∈ ms, FitL m
  ins : ∀ m ∈ ms, m.In (· < w.heap.size) wr
  rdr : RdrAt wr B g F (.alive 0 [])
  below : Below w.heap.size w wr
  size : B1 ≤ wr.heap.size
section
variable {w : World} {B1 B g : Nat} {F : List Nat} {ms : List MsgL} {u v : Value} {wr wx : World}
theorem frL_len {m : MsgL} (h : FitL m) : (frL m).length ≤ 5000 := by
  have := vput_short h.2
  have h2 := h.2
  unfold frL frameF openF
  simp only [List.length_append, sumL_len, List.length_cons, List.length_nil]
  omega
theorem restF_len (ms : List MsgL) (h : ∀ m ∈ ms, FitL m) : (restF ms 0).length ≤ 5000 * ms.length := by
  induction ms with
  | nil => simp [restF]
  | cons m ms ih =>
    have h1 := ih (fun x hx => h x (List.mem_cons_of_mem _ hx))
    have h2 := frL_len (h m (by simp))
    have e : restF (m :: ms) 0 = frL m ++ restF ms 0 := by simp [restF]
    rw [e, List.length_append, List.length_cons]
    omega
theorem restF_drop (ms : List MsgL) (k : Nat) : restF ms k = restF (ms.drop k) 0 := by simp [restF]
theorem restF_short (ms : List MsgL) (h : ∀ m ∈ ms, FitL m) (h10 : ms.length ≤ 10) (k : Nat) : (restF ms k).length ≤ 50000 := by
  rw [restF_drop]
  have := restF_len (ms.drop k) (fun m hm => h m (List.mem_of_mem_drop hm))
  rw [List.length_drop] at this
  omega
theorem msg_infoz : (Tryz.prog.info? 37).map (fun i => (i.zero, i.size, i.bytes)) = some (some (.agg (zeroL 0).cells.toArray), 28, 320) := by kernel_rfl
theorem build_msgz (m : MsgL) (w : World) : (Instr.buildSlice 64 1 #[(0, .agg m.cells.toArray)]).run Tryz.prog w = .ok (.slice (some ⟨w.heap.size, 0, none⟩) 1 1) (w.alloc (.cells m.cells.toArray 37)) := by
  obtain ⟨i0, hi, hz0, hz1, hz2⟩ := info_parts msg_infoz
  exact run_buildSlice w _ _ 1 _ _ i0 _ Tryz.underlying64 hi hz0 (by rw [hz1]; decide) (by rw [hz1]; decide) (by rw [hz1]; kernel_rfl)
theorem msg_onez (m : MsgL) : ∀ u ∈ m.cells, u.oneCell' = true := by simp [MsgL.cells, Value.oneCell']
theorem msg_len (m : MsgL) : m.cells.length = 28 := rfl
theorem range_on {w w' : World} {g i : Nat} {cs : List Value} (h : w.rangeAt g i cs) (hg : g < w.heap.size) (hb : Below w.heap.size w w') : w'.rangeAt g i cs := fun j v hj => ((Kept.of_below (F := []) hb (Nat.le_refl _)).cell (p := ⟨g, i + j, none⟩) hg (by simp)).trans (h j v hj)
theorem FindA.on (h : FindA w B1 B g F ms u v wr) (hb : Below wr.heap.size wr wx) : FindA w B1 B g F ms u v wx where
  row := h.row.on hb
  own := h.own.on hb
  fit := h.fit
  ins := fun m hm => (h.ins m hm).on hb
  rdr := h.rdr.kept (F := F) (Kept.of_below (F := []) hb (Nat.le_refl _)) (by simp)
  below := below_on h.below hb
  size := Nat.le_trans h.size hb.size
theorem FindA.grown (h : FindA w B1 B g F ms u v wr) {m : MsgL} (hm : m.In (· < w.heap.size) wr) {v' : Value} (ho : OwnV wx B1 5 v' (restF ms 0 ++ frL m)) (hg : wr.grownBy wx v.ownBlock) (hF : ∀ k ∈ F, k < B1) (hB : w.heap.size ≤ B1) :
    RowC B1 wx 37 28 u (ms.map MsgL.cells) ∧ OwnV wx B1 5 v' (restF (ms ++ [m]) 0) ∧ (∀ x ∈ ms ++ [m], x.In (· < w.heap.size) wx) ∧ RdrAt wx B g F (.alive 0 []) ∧ Below w.heap.size w wx := by
  have hv := h.own.lt
  have hk : Kept (ownL v) wr wx := (Kept.refl _ _).grown hg (fun k hk => .inl (mem_ownL.2 hk))
  have hin : ∀ x : MsgL, x.In (· < w.heap.size) wr → x.In (· < w.heap.size) wx := fun x hx => hx.kept hk (fun k hk' hlt => by
    have := (hv k (mem_ownL.1 hk')).1
    have h2 : k < w.heap.size := hlt
    omega)
  refine ⟨h.row.kept hk (fun k hk' hh => row_apart h.row.2 h.own.1 (by decide) k hk' (mem_ownL.1 hh)), by rw [restF_app]; exact ho, fun x hx => ?_, h.rdr.kept hk (fun k hk' hh => ?_), h.below.trans (hk.below (fun k hk' => ?_) h.below.size)⟩
  · rcases List.mem_append.1 hx with hx | hx
    · exact hin x (h.ins x hx)
    · rw [List.mem_singleton.1 hx]
      exact hin m hm
  · have := (hv k (mem_ownL.1 hh)).1
    have := hF k hk'
    omega
  · have := (hv k (mem_ownL.1 hk')).1
    omega
theorem FindA.next (hr : RowC B1 wr 37 28 u (ms.map MsgL.cells)) {m : MsgL} (ho : OwnV wr B1 5 v (restF (ms ++ [m]) 0)) (hi : ∀ x ∈ ms ++ [m], x.In (· < w.heap.size) wr) (hrd : RdrAt wr B g F (.alive 0 [])) (hb : Below w.heap.size w wr) (hfit : ∀ x ∈ ms ++ [m], FitL x) (hs : B1 ≤ wr.heap.size)
    {u' : Value} (hr' : RowC B1 wx 37 28 u' (ms.map MsgL.cells ++ [m.cells])) (hk : Kept (ownB u) wr wx) (hF : ∀ k ∈ F, k < B1) (hB : w.heap.size ≤ B1) : FindA w B1 B g F (ms ++ [m]) u' v wx := by
  have hu := hr.lt
  refine ⟨by simpa using hr', ho.kept hk (fun k hk' hh => row_apart hr.2 ho.1 (by decide) k (mem_ownB.1 hh) hk'), hfit, fun x hx => (hi x hx).kept hk (fun k hk' hlt => ?_), hrd.kept hk (fun k hk' hh => ?_), hb.trans (hk.below (fun k hk' => ?_) hb.size), Nat.le_trans hs hk.size⟩
  · have := (hu k (mem_ownB.1 hk')).1
    have h2 : k < w.heap.size := hlt
    omega
  · have := (hu k (mem_ownB.1 hh)).1
    have := hF k hk'
    omega
  · have := (hu k (mem_ownB.1 hk')).1
    omega
/-- The state of the second loop, but for the reader. -/
structure FindC (w : World) (B1 S : Nat) (ms : List MsgL) (u v : Value) (wr : World) : Prop where
  row : RowC B1 wr 37 28 u (ms.map MsgL.cells)
  own : OwnV wr B1 5 v (restF ms 0)
  ins : ∀ m ∈ ms, m.In (· < w.heap.size) wr
  below : Below w.heap.size w wr
  size : S ≤ wr.heap.size
  hu : ∀ k, u.ownBlock = some k → B1 ≤ k ∧ k < S
  hv : ∀ k, v.ownBlock = some k → B1 ≤ k ∧ k < S
/-- The reader: what it has and what is to come is what isn't found yet. -/
def FindR (B1 B S g : Nat) (ms : List MsgL) (r : List Nat) (k : Nat) (wr : World) (more : Bool) : Prop :=
  ∃ p F lw, RdrAt wr B g F (.alive p lw) ∧ lw ++ r = restF ms k ∧ (∀ x ∈ F, x < B1 ∨ S ≤ x) ∧ (more = true → firstF lw = .more)
theorem FindC.kept {S : Nat} (h : FindC w B1 S ms u v wr) {G : List Nat} (hk : Kept G wr wx) (hF : ∀ x ∈ G, x < B1 ∨ S ≤ x) (hw : ∀ x ∈ G, w.heap.size ≤ x) : FindC w B1 S ms u v wx where
  row := h.row.kept hk (fun k hk' hh => by
    have := h.hu k hk'
    have := hF k hh
    omega)
  own := h.own.kept hk (fun k hk' hh => by
    have := h.hv k hk'
    have := hF k hh
    omega)
  ins := fun m hm => (h.ins m hm).kept hk (fun k hk' hlt => by
    have := hw k hk'
    have h2 : k < w.heap.size := hlt
    omega)
  below := h.below.trans (hk.below hw h.below.size)
  size := Nat.le_trans h.size hk.size
  hu := h.hu
  hv := h.hv
theorem grows_far {S : Nat} {F F' : List Nat} {w0 : World} (h : Grows w0 F F') (hF : ∀ x ∈ F, x < B1 ∨ S ≤ x) (hS : S ≤ w0.heap.size) : ∀ x ∈ F', x < B1 ∨ S ≤ x := fun x hx => by
  rcases h x hx with h1 | h1
  · exact hF x h1
  · exact .inr (by omega)
theorem cut2_map {w : World} {a : Option Addr} {n c k h : Nat} {bs : List Nat} (hb : BReads w a n c bs) (hk : k ≤ h) (hn : h ≤ n) : BReads w (a.map (fun x => x.add k)) (h - k) (c - k) ((bs.drop k).take (h - k)) := by
  have hroom := hb.room
  have hlen := hb.len
  have key : BReads w (a.map (fun x => x.add k)) (n - k) (c - k) (bs.drop k) := by
    refine ⟨by simp; omega, by have := hb.small; omega, fun b hbm => hb.byte b (List.mem_of_mem_drop hbm), fun e => ?_, by omega, ?_⟩
    · have ha : a = none := by cases a <;> simp at e ⊢
      have := hb.nilOk ha
      omega
    · by_cases hn : n - k = 0
      · exact .inl hn
      · rcases hb.cells with h0 | ⟨b', off', rfl, hlt, hc⟩
        · omega
        · refine .inr ⟨b', off' + k, by simp [add_plain], hlt, fun i hi => ?_⟩
          rw [Nat.add_assoc, hc (k + i) (by omega)]
          simp [byteAt, List.getD]
  exact key.take (by omega)
/-- A piece, and what stands behind it. -/
theorem piece_rest (l : List Nat) (i q h : Nat) (hh : h = min l.length (i + 1 + q)) (hi : i < l.length) : (l.drop i).take (h - i) ++ l.drop (i + 1 + q) = l.drop i := by
  by_cases hc : i + 1 + q ≤ l.length
  · rw [show h - i = 1 + q from by omega, show l.drop (i + 1 + q) = (l.drop i).drop (1 + q) from by rw [List.drop_drop, Nat.add_assoc]]
    exact List.take_append_drop _ _
  · rw [List.drop_eq_nil_of_le (show l.length ≤ i + 1 + q by omega), List.append_nil]
    exact List.take_of_length_le (by rw [List.length_drop]; omega)
end

set_option maxRecDepth 100000 in
set_option maxHeartbeats 25600000 in
theorem finds_walk (a2 : Option Addr) (n2 c2 : Nat) (pc : Nat) (w : World) (hpc : pc < 256) (hm : Msgs w.heap.size w a2 n2 c2) :
    Calls Tryz.prog 7 #[.slice a2 n2 c2, .int .u8 (pc : Int)] w fun e w' => e = .returned (.bool true) ∧ Below w.heap.size w w' := by
  obtain ⟨Z, hZ⟩ : ∃ Z, (zeroL 0).cells.toArray = Z := ⟨_, rfl⟩
  have hz := msg_zero
  rw [hZ] at hz
  have hb1 : (Z = #[]) = False := by
    rw [← hZ]
    simp [MsgL.cells]
  have hb4 : Z.size = 28 := by
    rw [← hZ]
    rfl
  have hinfoZ : (Tryz.prog.info? 37).map (·.size) = some Z.size := by
    rw [hb4]
    kernel_rfl
  have HZ := Lib.hid hZ
  have HMS := Lib.hid hm
  clear hZ hm
  go_enter Tryz.func7, Tryz.ntmps7
  go_wp2_with (fail)
  refine (alive7 w).mono ?_
  rintro e w2 ⟨rfl, hb2⟩
  have B2 := Lib.hid hb2
  have hs2 := hb2.size
  clear hb2
  go_wp2_with (fail)
  refine (fnew_any w2).mono ?_
  rintro e w3 ⟨g, F, rfl, hrd, hFl, hb3⟩
  have D3 := Lib.hid hrd
  have FL := Lib.hid hFl
  have B3 := Lib.hid (below_on B2.out hb3)
  have hs3 := hb3.size
  clear hrd hFl hb3 B2
  go_wp2_with (fail)
  go_loopw [6, 7, 8] (fun s6 s7 s8 wr => ∃ (i : Nat) (ms : List MsgL), s8 = .int .i64 i ∧ i ≤ 10 ∧ ms.length ≤ i ∧ Hid (FindA w w3.heap.size w2.heap.size g F ms s6 s7 wr)) (fun _ _ s8 _ => 10 - (intOf s8).toNat)
  case atStart => exact ⟨0, [], rfl, by omega, by simp, ⟨RowC.nil _ _ _ _, OwnV.nil _ _ _, by simp, by simp, D3.out, B3.out, Nat.le_refl _⟩⟩
  case round =>
    clear D3
    obtain ⟨i, ms, rfl, hi, hms, HA⟩ := hrel
    obtain ⟨ca, cc, rfl, hcc⟩ := HA.out.row.form
    obtain ⟨va, vn, vc, rfl, HVN⟩ := HA.out.own.parts
    obtain ⟨K, hK⟩ : ∃ K, (ms.map MsgL.cells).length = K := ⟨_, rfl⟩
    have HK := Lib.hid hK
    rw [hK] at HA hcc ⊢
    clear hK
    go_upto_region 7 with fail
    go_cut [25] (fun s25 wx => ∃ z : Bool, s25 = .bool z ∧ Hid (z = true ↔ (i < n2 ∧ i < 10)) ∧ Hid (FindA w w3.heap.size w2.heap.size g F ms (.slice ca K cc) (.slice va vn vc) wx))
    case first =>
      by_cases hin : i < n2
      · by_cases hi10 : i < 10
        · have hd1 : decide ((i : Int) < 10) = true := decide_eq_true (by omega)
          go_wp2
          go_meet
          exact ⟨true, rfl, by simp [Hid]; omega, HA.out⟩
        · have hd1 : decide ((i : Int) < 10) = false := decide_eq_false (by omega)
          go_wp2
          go_meet
          exact ⟨false, rfl, by simp [Hid]; omega, HA.out⟩
      · go_wp2
        go_meet
        exact ⟨false, rfl, by simp [Hid]; omega, HA.out⟩
    case rest =>
      obtain ⟨z, rfl, HZI, HA'⟩ := hcut
      clear HA
      generalize wc = wr at *
      cases z
      rotate_left
      · obtain ⟨hin, hi10⟩ := HZI.out.1 rfl
        clear HZI
        obtain ⟨gb, off, m, ha2, hgl, hrange, hmi⟩ := HMS.out.at i hin
        subst ha2
        have HRG := Lib.hid hrange
        have HMI := Lib.hid hmi
        obtain ⟨ML, hML⟩ : ∃ ML, m.cells = ML := ⟨_, rfl⟩
        have HML := Lib.hid hML
        have hmsz : (Tryz.prog.info? 37).map (·.size) = some ML.length := by
          rw [← hML]
          kernel_rfl
        have hml : ML.length = 28 := by
          rw [← hML]
          rfl
        have ONE := Lib.hid (show ∀ u ∈ ML, u.oneCell' = true from by
          rw [← hML]
          exact msg_onez m)
        have RG := Lib.hid (show ∀ wx, Below w.heap.size w wx → wx.rangeAt gb (off + i * 28) ML from fun wx hb => by
          rw [← HML.out]
          exact range_on HRG.out hgl hb)
        have G4 := Lib.hid (RG.out _ HA'.out.below)
        have M4 := Lib.hid (HMI.out.under HA'.out.below)
        clear hrange hmi hML
        go_wp2_with (refine wp_load_m wr (by rfl) 37 (.tmp 30) rfl gb (off + i * 28) ML _ (by rfl) G4.out Tryz.underlying37 rfl hmsz ?_)
        rw [← HML.out]
        refine (great_msg m wr M4.out).mono ?_
        rintro e w5 ⟨⟨gr, rfl⟩, hb5⟩
        rw [HML.out]
        have A5 := Lib.hid (HA'.out.on hb5)
        have G5 := Lib.hid (RG.out _ A5.out.below)
        have M5 := Lib.hid (HMI.out.under A5.out.below)
        clear hb5 HA' G4 M4
        cases gr
        rotate_left
        · go_wp2
          go_ret
          exact ⟨rfl, A5.out.below⟩
        go_wp2_with (refine wp_load_m w5 (by rfl) 37 (.tmp 36) rfl gb (off + i * 28) ML _ (by rfl) G5.out Tryz.underlying37 rfl hmsz ?_)
        rw [← HML.out]
        refine (enc_any m w5 M5.out).mono ?_
        rintro e w6 ⟨hb6, ⟨hf, hle, v, rfl, ho⟩ | ⟨_, rfl⟩ | ⟨_, _, rfl⟩⟩
        · rw [HML.out]
          have A6 := Lib.hid (A5.out.on hb6)
          have M6 := Lib.hid (HMI.out.under A6.out.below)
          have FIT := Lib.hid (show FitL m from ⟨hf, hle⟩)
          have hfl := frL_len FIT.out
          obtain ⟨ba, bc, rfl, hbr, _⟩ := ho.reads (show _ ≤ _ by have : (frL m).length ≤ 5000 := hfl; unfold frL at this; omega)
          have RB := Lib.hid (show BReads w6 ba (frL m).length bc (frL m) from hbr)
          have hall := restF_short ms A6.out.fit (by omega) 0
          obtain ⟨bn, hbn⟩ : ∃ bn, (frameF m.toM.kind (bytesM m.toM)).length = bn := ⟨_, rfl⟩
          have HBN := Lib.hid (show (frL m).length = bn from hbn)
          rw [hbn]
          rw [HBN.out] at RB hfl
          have hs6 := A6.out.size
          clear hb6 A5 M5 G5 hf hle ho hbr hbn
          go_wp2_with (at_builtin; go_must (refine app_bytes w6 rfl (.tmp 43) (.tmp 44) 33 5 rfl Tryz.underlying33 byte_info w3.heap.size _ _ (by rfl) A6.out.own ba bn bc _ (by rfl) RB.out (by omega) hs6 ?_))
          intro v7 w7 ho7 hg7 _
          obtain ⟨hrow7, hown7, hins7, hrd7, hbl7⟩ := A6.out.grown M6.out ho7 hg7 FL.out B3.out.size
          have R7 := Lib.hid hrow7
          have O7 := Lib.hid hown7
          have I7 := Lib.hid hins7
          have D7 := Lib.hid hrd7
          have B7 := Lib.hid hbl7
          have hs7 := Nat.le_trans hs6 hg7.size
          have FIT7 := Lib.hid (show ∀ x ∈ ms ++ [m], FitL x from fun x hx => by
            rcases List.mem_append.1 hx with hx | hx
            · exact A6.out.fit x hx
            · rw [List.mem_singleton.1 hx]
              exact FIT.out)
          have G7 := Lib.hid (RG.out _ B7.out)
          have hbs : (Instr.buildSlice 64 1 #[(0, .agg ML.toArray)]).run Tryz.prog w7 = .ok (.slice (some ⟨w7.heap.size, 0, none⟩) 1 1) (w7.alloc (.cells ML.toArray 37)) := by
            rw [← HML.out]
            exact build_msgz m w7
          have HBS := Lib.hid hbs
          clear hrow7 hown7 hins7 hrd7 hbl7 ho7 hg7 A6 M6 RB hbs
          go_wp2_with (first | (refine wp_load_m w7 (by rfl) 37 (.tmp 49) rfl gb (off + i * 28) ML _ (by rfl) G7.out Tryz.underlying37 rfl hmsz ?_) | (refine wp_bs w7 rfl 64 37 (.tmp 50) rfl ML.toArray HBS.out (by rfl) ?_) | (at_builtin; go_must (refine app_c (k := 28) (css := ms.map MsgL.cells) w7 rfl (.tmp 46) (.tmp 51) 64 rfl Tryz.underlying64 (.agg (zeroL 0).cells.toArray) 320 msg_infoz rfl (by decide) ML (by rfl) (by rfl) R7.out hml ONE.out hs7 (by simp; omega) (by simp; omega) ?_)))
          intro v8 w8 hr8 hk8 _
          have NX := Lib.hid (FindA.next R7.out O7.out I7.out D7.out B7.out FIT7.out hs7 (show RowC _ w8 _ 28 v8 (ms.map MsgL.cells ++ [m.cells]) from by rw [HML.out]; exact hr8) hk8 FL.out B3.out.size)
          clear hr8 hk8 R7 O7 I7 D7 B7 FIT7 G7
          go_wp2
          go_roundw
          case rel => exact ⟨i + 1, ms ++ [m], by go_num, by omega, by simp; omega, NX.out⟩
          case measure => simp [intOf]; omega
        · rw [HML.out]
          have A6 := Lib.hid (A5.out.on hb6)
          clear hb6 A5 M5 G5
          go_wp2
          go_roundw
          case rel => exact ⟨i + 1, ms, by go_num, by omega, by omega, A6.out⟩
          case measure => simp [intOf]; omega
        · rw [HML.out]
          have A6 := Lib.hid (A5.out.on hb6)
          clear hb6 A5 M5 G5
          go_wp2
          go_roundw
          case rel => exact ⟨i + 1, ms, by go_num, by omega, by omega, A6.out⟩
          case measure => simp [intOf]; omega
      · clear HZI
        have hmsK : ms.length = K := by
          have := HK.out
          simpa using this
        have FITS := Lib.hid HA'.out.fit
        have HU := Lib.hid HA'.out.row.lt
        have HV := Lib.hid HA'.out.own.lt
        generalize wr = w4 at *
        have C4 := Lib.hid (show FindC w w3.heap.size w4.heap.size ms (.slice ca K cc) (.slice va vn vc) w4 from ⟨HA'.out.row, HA'.out.own, HA'.out.ins, HA'.out.below, Nat.le_refl _, HU.out, HV.out⟩)
        have R4 := Lib.hid (show FindR w3.heap.size w2.heap.size w4.heap.size g ms ((restF ms 0).drop 0) 0 w4 true from ⟨0, F, [], HA'.out.rdr, by simp, fun x hx => .inl (FL.out x hx), fun _ => firstF_nil⟩)
        have hvn : vn ≤ 50000 := by
          have := restF_short ms FITS.out (by omega) 0
          rw [HVN.out] at this
          exact this
        have hS3 : w3.heap.size ≤ w4.heap.size := HA'.out.size
        have hb3s := B3.out.size
        clear HA' HU HV
        go_wp2_with (fail)
        go_loopw [11, 12] (fun s11 s12 wr => ∃ k t : Nat, s11 = .int .i64 k ∧ s12 = .int .i64 t ∧ k ≤ K ∧ t ≤ 100000 ∧ Hid (FindC w w3.heap.size w4.heap.size ms (.slice ca K cc) (.slice va vn vc) wr) ∧ Hid (FindR w3.heap.size w2.heap.size w4.heap.size g ms ((restF ms 0).drop t) k wr true)) (fun _ s12 _ => vn - (intOf s12).toNat)
        case atStart => exact ⟨0, 0, rfl, rfl, by omega, by omega, C4.out, R4.out⟩
        case round =>
          clear C4 R4
          obtain ⟨k, t, rfl, rfl, hk, ht, HC, HR⟩ := hrel
          by_cases htn : t < vn
          · go_upto_region 19 with fail
            go_cut [72] (fun s72 wx => ∃ u, u = s72 ∧ Hid (FindC w w3.heap.size w4.heap.size ms (.slice ca K cc) (.slice va vn vc) wx) ∧ Hid (FindR w3.heap.size w2.heap.size w4.heap.size g ms ((restF ms 0).drop (t + 1 + pc)) k wx false))
            case first =>
              obtain ⟨p, F', lw, hrd, heq, hF', _⟩ := HR.out
              have D5 := Lib.hid hrd
              have HFF := Lib.hid hF'
              have HEQ := Lib.hid heq
              obtain ⟨va', vc', e5, hbr, hcr, _⟩ := HC.out.own.reads (by rw [HVN.out]; omega)
              rw [HVN.out] at e5 hbr hcr
              simp only [Value.slice.injEq] at e5
              obtain ⟨rfl, -, rfl⟩ := e5
              have RB := Lib.hid hbr
              have hlw : lw.length ≤ 50000 := by
                have h1 := restF_short ms FITS.out (by omega) k
                rw [← heq, List.length_append] at h1
                omega
              have hws := HC.out.size
              have hwb := HC.out.below.size
              clear hrd hF' heq hbr HR
              go_wp2_with (fail)
              · rw [show ((t : Int) + 1 + (pc : Int)).toNat = t + 1 + pc from by omega]
                have PC := Lib.hid (piece_rest (restF ms 0) t pc (t + 1 + pc) (by rw [HVN.out]; omega) (by rw [HVN.out]; exact htn))
                have RS := Lib.hid (cut2_map (k := t) (h := t + 1 + pc) RB.out (by omega) (by omega))
                refine (ffeed_alive w2.heap.size g F' p lw _ (t + 1 + pc - t) (vc - t) _ wr D5.out RS.out (by omega) (by omega)).mono ?_
                rintro e w5 ⟨rfl, F5, hrd5, hk5, hg5⟩
                have NC := Lib.hid (HC.out.kept hk5 HFF.out (fun x hx => by have := (D5.out.lt x hx).1; omega))
                have NR := Lib.hid (show FindR w3.heap.size w2.heap.size w4.heap.size g ms ((restF ms 0).drop (t + 1 + pc)) k w5 false from ⟨p, F5, _, hrd5, by rw [List.append_assoc, PC.out]; exact HEQ.out, grows_far hg5 HFF.out hws, fun hh => nomatch hh⟩)
                clear hrd5 hk5 hg5 D5 HFF HEQ RB RS PC
                go_wp2
                go_meet
                exact ⟨_, rfl, NC.out, NR.out⟩
              · have PC := Lib.hid (piece_rest (restF ms 0) t pc (vn) (by rw [HVN.out]; omega) (by rw [HVN.out]; exact htn))
                have RS := Lib.hid (cut2_map (k := t) (h := vn) RB.out (by omega) (by omega))
                refine (ffeed_alive w2.heap.size g F' p lw _ (vn - t) (vc - t) _ wr D5.out RS.out (by omega) (by omega)).mono ?_
                rintro e w5 ⟨rfl, F5, hrd5, hk5, hg5⟩
                have NC := Lib.hid (HC.out.kept hk5 HFF.out (fun x hx => by have := (D5.out.lt x hx).1; omega))
                have NR := Lib.hid (show FindR w3.heap.size w2.heap.size w4.heap.size g ms ((restF ms 0).drop (t + 1 + pc)) k w5 false from ⟨p, F5, _, hrd5, by rw [List.append_assoc, PC.out]; exact HEQ.out, grows_far hg5 HFF.out hws, fun hh => nomatch hh⟩)
                clear hrd5 hk5 hg5 D5 HFF HEQ RB RS PC
                go_wp2
                go_meet
                exact ⟨_, rfl, NC.out, NR.out⟩
            case rest =>
              obtain ⟨u72, _, HC5, HR5⟩ := hcut
              clear HC HR
              generalize wc = w6 at *
              go_wp2_with (fail)
              go_loopw [11] (fun s11 wr => ∃ k : Nat, s11 = .int .i64 k ∧ k ≤ K ∧ Hid (FindC w w3.heap.size w4.heap.size ms (.slice ca K cc) (.slice va vn vc) wr) ∧ Hid (FindR w3.heap.size w2.heap.size w4.heap.size g ms ((restF ms 0).drop (t + 1 + pc)) k wr false)) (fun s11 _ => K - (intOf s11).toNat)
              case atStart => exact ⟨k, rfl, hk, HC5.out, HR5.out⟩
              case round =>
                clear HC5 HR5 hk
                obtain ⟨k2, rfl, hk2, HC6, HR6⟩ := hrel
                obtain ⟨p, F5, lw, hrd, heq, hF5, _⟩ := HR6.out
                have D6 := Lib.hid hrd
                have HF5 := Lib.hid hF5
                have HEQ := Lib.hid heq
                have hlw : lw.length ≤ 50000 := by
                  have h1 := restF_short ms FITS.out (by omega) k2
                  rw [← heq, List.length_append] at h1
                  omega
                have hws := HC6.out.size
                have hwb := HC6.out.below.size
                clear hrd hF5 heq HR6
                go_wp2_with (fail)
                refine (fnext_alive w2.heap.size g F5 p lw wr D6.out (by omega) (by omega)).mono ?_
                rintro e w7 hp
                have C7 := Lib.hid (HC6.out.kept hp.1 HF5.out (fun x hx => by have := (D6.out.lt x hx).1; omega))
                rcases find_step FITS.out HEQ.out with ⟨hmore, _⟩ | ⟨m, hm, hgot, hnext⟩
                · obtain ⟨_, rfl, p', F6, hrd6, hg6⟩ := hp.more hmore
                  have hst := msg_store_new w7 Z (zeroL 0) hb4
                  rw [HZ.out] at hst ⊢
                  obtain ⟨w8, hw8⟩ : ∃ w8, w7.alloc (.cells Z 37) = w8 := ⟨_, rfl⟩
                  rw [hw8] at hst
                  have hb8 : Below w7.heap.size w7 w8 := by
                    rw [← hw8]
                    exact (Below.refl _ _).alloc (Nat.le_refl _) _
                  have NC := Lib.hid (C7.out.kept (Kept.of_below (F := []) hb8 (Nat.le_refl _)) (by simp) (by simp))
                  have NR := Lib.hid (show FindR w3.heap.size w2.heap.size w4.heap.size g ms ((restF ms 0).drop (t + 1 + pc)) k2 w8 true from ⟨p', F6, lw, hrd6.kept (Kept.of_below (F := []) hb8 (Nat.le_refl _)) (by simp), HEQ.out, grows_far hg6 HF5.out hws, fun _ => hmore⟩)
                  clear hp hrd6 hg6 hb8 C7 D6 HF5 HEQ HC6 hmore
                  go_wp2
                  go_roundw
                  case rel => exact ⟨k2, t + 1 + pc, by go_num, by go_num, hk2, by omega, by (try rw [hw8]); exact NC.out, by (try rw [hw8]); exact NR.out⟩
                  case measure => simp [intOf]; omega
                · obtain ⟨_, y, F6, rfl, hy, hyi, hrd6, hg6⟩ := hp.got hgot
                  have hkl : k2 < K := by
                    have := (List.getElem?_eq_some_iff.1 hm).1
                    omega
                  have hge1 : decide ((K : Int) ≤ (k2 : Int)) = false := decide_eq_false (by omega)
                  have hge2 : decide (K ≤ k2) = false := decide_eq_false (by omega)
                  obtain ⟨U, hU⟩ : ∃ U, y.cells.toArray = U := ⟨_, rfl⟩
                  obtain ⟨MM, hMM⟩ : ∃ MM, m.cells.toArray = MM := ⟨_, rfl⟩
                  have hst := msg_store_new w7 Z y hb4
                  rw [hU] at hst ⊢
                  have HUU := Lib.hid hU
                  have HMM := Lib.hid hMM
                  have hU28 : U.size = 28 := by
                    rw [← hU]
                    rfl
                  have hinfoU : (Tryz.prog.info? 37).map (·.size) = some U.size := by
                    rw [hU28]
                    kernel_rfl
                  obtain ⟨w8, hw8⟩ : ∃ w8, w7.alloc (.cells U 37) = w8 := ⟨_, rfl⟩
                  have hb8 : Below w7.heap.size w7 w8 := by
                    rw [← hw8]
                    exact (Below.refl _ _).alloc (Nat.le_refl _) _
                  have HB8 : w8.heap[w7.heap.size]? = some (.cells U 37 (0, 0)) := by
                    rw [← hw8]
                    exact heap_alloc_new w7 _
                  have C8 := Lib.hid (C7.out.kept (Kept.of_below (F := []) hb8 (Nat.le_refl _)) (by simp) (by simp))
                  have D8 := Lib.hid (hrd6.kept (Kept.of_below (F := []) hb8 (Nat.le_refl _)) (by simp))
                  have Y8 := Lib.hid (hyi.on hb8)
                  have M8 := Lib.hid (C8.out.ins m (List.mem_of_getElem? hm))
                  obtain ⟨gk, ck, ek, _, hgk, hrg⟩ := C8.out.row.at k2 m.cells (by rw [List.getElem?_map, hm]; rfl)
                  rw [HK.out] at ek
                  simp only [Value.slice.injEq] at ek
                  obtain ⟨rfl, -, rfl⟩ := ek
                  have HRG8 := Lib.hid (show w8.rangeAt gk (k2 * 28) MM.toList from by rw [← hMM]; exact hrg)
                  have hinfoM : (Tryz.prog.info? 37).map (·.size) = some MM.size := by
                    rw [← hMM]
                    kernel_rfl
                  have SAME := Lib.hid (show ∀ wq, Below w8.heap.size w8 wq → Calls Tryz.prog 16 #[.agg U, .agg MM] wq fun e w' => e = .returned (.bool true) ∧ Below wq.heap.size wq w' from fun wq hb => by
                    rw [← HUU.out, ← HMM.out]
                    refine (sameMsg y m wq (Y8.out.on hb) (M8.out.on hb)).mono ?_
                    rintro e w' ⟨z, rfl, hz, hb'⟩
                    rw [hz.2 hy]
                    exact ⟨rfl, hb'⟩)
                  have NX := Lib.hid (show ∀ wq, Below w8.heap.size w8 wq → FindC w w3.heap.size w4.heap.size ms (.slice (some ⟨gk, 0, none⟩) K cc) (.slice va vn vc) wq ∧ FindR w3.heap.size w2.heap.size w4.heap.size g ms ((restF ms 0).drop (t + 1 + pc)) (k2 + 1) wq false from fun wq hb => ⟨C8.out.kept (Kept.of_below (F := []) hb (Nat.le_refl _)) (by simp) (by simp), 0, F6, _, D8.out.kept (Kept.of_below (F := []) hb (Nat.le_refl _)) (by simp), hnext, grows_far hg6 HF5.out hws, fun hh => nomatch hh⟩)
                  clear hp hrd6 hg6 hb8 C7 D6 HF5 HEQ HC6 hgot hnext hy hyi hU hMM hrg Y8 M8 C8 D8 HUU HMM hm
                  go_upto_region 22 with fail
                  try rw [hw8]
                  clear hw8 hst
                  go_cut [98] (fun s98 wx => s98 = .bool false ∧ Hid (Below w8.heap.size w8 wx))
                  case first =>
                    refine wp_region_any (by kernel_rfl) ?_
                    try (change wpAny _ _ _ _ _ _ _ (World.drew _))
                    refine wpAny_take (i := 0) (v := ?v0) rfl (by kernel_rfl) (by kernel_rfl) (by kernel_rfl) (fun _ _ _ h => h) (Or.inl ⟨by rfl, ?y0⟩) ?_
                    case y0 => (intro w; go_simp) <;> with_reducible rfl
                    go_simp
                    refine wpAny_take (i := 1) (v := ?v1) rfl (by kernel_rfl) (by kernel_rfl) (by kernel_rfl) (fun _ _ _ h => h) (Or.inl ⟨by rfl, ?y1⟩) ?_
                    case y1 => (intro w; go_simp) <;> with_reducible rfl
                    go_simp
                    refine wpAny_take (i := 2) (v := ?v2) rfl (by kernel_rfl) (by kernel_rfl) (by kernel_rfl) (fun _ _ _ h => h) (Or.inl ⟨by rfl, ?y2⟩) ?_
                    case y2 => (intro w; go_simp) <;> with_reducible rfl
                    go_simp
                    refine wpAny_take (i := 3) (v := ?v3) rfl (by kernel_rfl) (by kernel_rfl) (by kernel_rfl) (fun _ _ _ h => h) (Or.inl ⟨by rfl, ?y3⟩) ?_
                    case y3 => (intro w; go_simp) <;> with_reducible rfl
                    go_simp
                    refine wpAny_take (i := 4) (v := ?v4) rfl (by kernel_rfl) (by kernel_rfl) (by kernel_rfl) (fun _ _ _ h => h) (Or.inl ⟨by rfl, ?y4⟩) ?_
                    case y4 => (intro w; go_simp) <;> with_reducible rfl
                    go_simp
                    refine wpAny_take (i := 5) (v := ?v5) rfl (by kernel_rfl) (by kernel_rfl) (by kernel_rfl) (fun _ _ _ h => h) (Or.inl ⟨by rfl, ?y5⟩) ?_
                    case y5 => (intro w; go_simp) <;> with_reducible rfl
                    go_simp
                    refine wpAny_take (i := 6) (v := ?v6) rfl (by kernel_rfl) (by kernel_rfl) (by kernel_rfl) (fun _ _ _ h => h) (Or.inl ⟨by rfl, ?y6⟩) ?_
                    case y6 => (intro w; go_simp) <;> with_reducible rfl
                    go_simp
                    refine wpAny_take (i := 7) (v := ?v7) rfl (by kernel_rfl) (by kernel_rfl) (by kernel_rfl) (fun _ _ _ h => h) (Or.inl ⟨by rfl, ?y7⟩) ?_
                    case y7 => (intro w; go_simp) <;> with_reducible rfl
                    go_simp
                    refine wpAny_take (i := 8) (v := ?v8) rfl (by kernel_rfl) (by kernel_rfl) (by kernel_rfl) (fun _ _ _ h => h) (Or.inl ⟨by rfl, ?y8⟩) ?_
                    case y8 => (intro w; go_simp) <;> with_reducible rfl
                    go_simp
                    refine wpAny_take (i := 10) (v := ?v10) rfl (by kernel_rfl) (by kernel_rfl) (by kernel_rfl) (fun _ _ _ h => h) (Or.inl ⟨by rfl, ?y10⟩) ?_
                    case y10 => (intro w; go_simp) <;> with_reducible rfl
                    go_simp
                    refine wpAny_take (i := 11) (v := ?v11) rfl (by kernel_rfl) (by kernel_rfl) (by kernel_rfl) (fun _ _ _ h => h) (Or.inl ⟨by rfl, ?y11⟩) ?_
                    case y11 => (intro w; go_simp) <;> with_reducible rfl
                    go_simp
                    refine wpAny_take (i := 12) (v := ?v12) rfl (by kernel_rfl) (by kernel_rfl) (by kernel_rfl) (fun _ _ _ h => h) (Or.inl ⟨by rfl, ?y12⟩) ?_
                    case y12 => (intro w; go_simp) <;> with_reducible rfl
                    go_simp
                    refine any_cons [9, 13] (by kernel_rfl) (by simp) ?_
                    intro i hi
                    rcases (by simpa using hi : i = 9 ∨ i = 13) with rfl | rfl
                    · refine wpOp_step rfl fun K hK => ?_
                      rw [if_pos (by rfl)]
                      refine wp_load_one w8.drew 37 (.tmp 13) rfl w7.heap.size 37 U _ (by rfl) HB8 Tryz.underlying37 rfl hinfoU ?_
                      refine hK _ _ ?_
                      clear hK K
                      refine any_one (i := 13) (by kernel_rfl) ?_
                      refine wpOp_step rfl fun K hK => ?_
                      rw [if_pos (by rfl)]
                      refine wp_load_mid w8.drew 37 (.tmp 94) rfl gk (k2 * 28) MM _ (by rfl) HRG8.out Tryz.underlying37 rfl hinfoM ?_
                      refine hK _ _ ?_
                      clear hK K
                      refine any_one (i := 14) (by kernel_rfl) ?_
                      refine wpOp_step rfl fun K hK => ?_
                      rw [if_pos (by rfl)]
                      go_simp
                      refine (SAME.out w8.drew (Below.refl _ _).drew).mono ?_
                      rintro e w9 ⟨rfl, hb9⟩
                      have B9 := Lib.hid (show Below w8.heap.size w8 w9 from (Below.refl _ w8).drew.trans hb9)
                      clear hb9
                      refine hK _ _ ?_
                      clear hK K
                      refine wpAny_take (i := 15) (v := ?v15) rfl (by kernel_rfl) (by kernel_rfl) (by kernel_rfl) (fun _ _ _ h => h) (Or.inl ⟨by rfl, ?y15⟩) ?_
                      case y15 => (intro w; go_simp) <;> with_reducible rfl
                      go_simp
                      refine wpAny_take (i := 16) (v := ?v16) rfl (by kernel_rfl) (by kernel_rfl) (by kernel_rfl) (fun _ _ _ h => h) (Or.inl ⟨by rfl, ?y16⟩) ?_
                      case y16 => (intro w; go_simp) <;> with_reducible rfl
                      go_simp
                      refine wpAny_done (by kernel_rfl) ?_ _
                      go_wp2
                      go_meet
                      exact ⟨rfl, B9.out⟩
                    · refine wpOp_step rfl fun K hK => ?_
                      rw [if_pos (by rfl)]
                      refine wp_load_mid w8.drew 37 (.tmp 94) rfl gk (k2 * 28) MM _ (by rfl) HRG8.out Tryz.underlying37 rfl hinfoM ?_
                      refine hK _ _ ?_
                      clear hK K
                      refine any_one (i := 9) (by kernel_rfl) ?_
                      refine wpOp_step rfl fun K hK => ?_
                      rw [if_pos (by rfl)]
                      refine wp_load_one w8.drew 37 (.tmp 13) rfl w7.heap.size 37 U _ (by rfl) HB8 Tryz.underlying37 rfl hinfoU ?_
                      refine hK _ _ ?_
                      clear hK K
                      refine any_one (i := 14) (by kernel_rfl) ?_
                      refine wpOp_step rfl fun K hK => ?_
                      rw [if_pos (by rfl)]
                      go_simp
                      refine (SAME.out w8.drew (Below.refl _ _).drew).mono ?_
                      rintro e w9 ⟨rfl, hb9⟩
                      have B9 := Lib.hid (show Below w8.heap.size w8 w9 from (Below.refl _ w8).drew.trans hb9)
                      clear hb9
                      refine hK _ _ ?_
                      clear hK K
                      refine wpAny_take (i := 15) (v := ?v15) rfl (by kernel_rfl) (by kernel_rfl) (by kernel_rfl) (fun _ _ _ h => h) (Or.inl ⟨by rfl, ?y15⟩) ?_
                      case y15 => (intro w; go_simp) <;> with_reducible rfl
                      go_simp
                      refine wpAny_take (i := 16) (v := ?v16) rfl (by kernel_rfl) (by kernel_rfl) (by kernel_rfl) (fun _ _ _ h => h) (Or.inl ⟨by rfl, ?y16⟩) ?_
                      case y16 => (intro w; go_simp) <;> with_reducible rfl
                      go_simp
                      refine wpAny_done (by kernel_rfl) ?_ _
                      go_wp2
                      go_meet
                      exact ⟨rfl, B9.out⟩
                  case rest =>
                    obtain ⟨rfl, HB9⟩ := hcut
                    obtain ⟨hc9, hr9⟩ := NX.out _ HB9.out
                    have NC := Lib.hid hc9
                    have NR := Lib.hid hr9
                    clear NX HB9 hc9 hr9 HRG8 SAME HB8
                    go_wp2
                    go_roundw
                    case rel => exact ⟨k2 + 1, by go_num, by omega, NC.out, NR.out⟩
                    case measure => simp [intOf]; omega
          · obtain ⟨p, F', lw, hrd, heq, _, hmore⟩ := HR.out
            have hd : (restF ms 0).drop t = [] := List.drop_eq_nil_of_le (by rw [HVN.out]; omega)
            obtain ⟨hkK, rfl⟩ : ms.length ≤ k ∧ lw = [] := by
              rcases find_step FITS.out heq with ⟨_, h⟩ | ⟨m, _, hgot, _⟩
              · exact h hd
              · rw [hmore rfl] at hgot
                cases hgot
            obtain rfl : k = K := by omega
            have D9 := Lib.hid hrd
            clear hrd heq hmore hd HR
            go_wp2_with (fail)
            refine (fwaits_alive w2.heap.size g F' p [] wr D9.out (by simp)).mono ?_
            rintro e _ ⟨rfl, rfl⟩
            go_wp2
            go_ret
            exact ⟨by simp, HC.out.below⟩

theorem finds_row : Rows.FrameFindsSaid :=
  OpenClaim.holds_of_wide 7 Tryz.f7 rfl rfl rfl rfl rfl rfl rfl ⟨rfl, rfl, rfl, rfl, rfl⟩ rfl rfl rfl rfl rfl (by kernel_rfl) Tryz.func7 (by kernel_rfl)
    (of_decide_eq_true (by kernel_rfl)) (by unfold Func.isWrapper; rw [if_neg (of_decide_eq_false (by kernel_rfl))]; exact ⟨rfl, rfl⟩)
    (fun os started H enc _ => lift (C := Tryz.checked) (s := Rows.frameFindsSpec) (conds := Rows.frameFindsRow.domain) os started H enc prog_own (by kernel_rfl) Tryz.func7 prog_laid rfl Tryz.underlying4 rfl
      (fun ds hl => by
        have hl : ds.length = 2 := hl
        match ds, hl with
        | [_, _], _ => rfl)
      (of_decide_eq_true (by kernel_rfl))
      (ChangeSpec.witness6 (enc := enc) (C := Tryz.checked) false ⟨#[], #[.slice none 0 0, .int .u8 0], []⟩ 8 (by kernel_rfl) (by kernel_rfl) (by kernel_rfl) (by kernel_rfl))
      (fun W base args ds p g => by
        rw [Tryz.params7] at g
        obtain ⟨a2, n2, c2, e0, _, hm⟩ := g.msgs 0 rfl
        obtain ⟨pc, e1, hpc⟩ := g.u8 1 rfl Tryz.underlying5
        rw [args2 g.count e0 e1]
        exact finds_walk a2 n2 c2 pc W hpc hm))
end Go.Proofs.YtemnmjfeljipjaaGreat
