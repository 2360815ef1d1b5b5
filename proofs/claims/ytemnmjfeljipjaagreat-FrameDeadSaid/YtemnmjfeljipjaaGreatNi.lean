/-
  The program's Put of messages, by a walk over its text.
-/
import Derived.Test.YtemnmjfeljipjaaGreatQa
import Derived.Test.YtemnmjfeljipjaaGreatQc
namespace Go.Proofs.YtemnmjfeljipjaaGreat
open Go.RowKit Go.ChangeShapes Go.WideShapes Go.ChangeAt

theorem BReads.keptF {F : List Nat} {w w' : World} {a : Option Addr} {n c : Nat} {bs : List Nat} (h : BReads w a n c bs) (hk : Kept F w w') (hF : ∀ b off, a = some ⟨b, off, none⟩ → b ∉ F) : BReads w' a n c bs := by
  refine ⟨h.len, h.small, h.byte, h.nilOk, h.room, ?_⟩
  rcases h.cells with h4 | ⟨b, off, ha, hlt, hc⟩
  · exact .inl h4
  · refine .inr ⟨b, off, ha, Nat.lt_of_lt_of_le hlt hk.size, fun i hi => ?_⟩
    rw [hk.cell (p := ⟨b, off + i, none⟩) hlt (hF b off ha)]
    exact hc i hi
theorem flds_apart (k : Nat) : Apartly (fldsM k) := by
  unfold fldsM
  cases h : formM k with
  | none => trivial
  | some fs => exact form_apart k fs h
theorem flds_len (k : Nat) : (fldsM k).length ≤ 7 := by
  unfold fldsM
  cases h : formM k with
  | none => simp
  | some fs => exact (form_some k fs h).2
theorem fitM_iff (x : MsgV) : fitM x ↔ (fldsM x.kind).length ≠ 0 ∧ wipeF (fldsM x.kind) x = zeroM x.kind ∧ fitF (fldsM x.kind) x := by
  unfold fitM fldsM
  cases h : formM x.kind with
  | none => simp
  | some fs =>
    have h1 := (form_some _ fs h).1
    simp only [Option.getD_some, wipe_only, Option.some.injEq]
    constructor
    · rintro ⟨fs', rfl, h2, h3⟩
      exact ⟨by omega, h2, h3⟩
    · rintro ⟨_, h2, h3⟩
      exact ⟨fs, rfl, h2, h3⟩
/-- What Put leaves. -/
def PutPost (x : MsgV) (w : World) (e : Ending) (w' : World) : Prop := Below w.heap.size w w' ∧
  ((fitM x ∧ ∃ v, e = .returned (.tuple #[v, .bool true]) ∧ OwnV w' w.heap.size 5 v (bytesM x)) ∨ (¬ fitM x ∧ e = .returned (.tuple #[.slice none 0 0, .bool false])))

/-- The state of Put's loop. -/
def PutL (fs : List Fld) (x : MsgV) (gx g B i : Nat) (w w3 wr : World) (F : List Nat) (s : List Nat × Bool) (y : MsgL) : Prop :=
  WAt wr g B F s ∧ PutI fs x i y.toM s ∧ Blk wr gx 37 y.cells ∧ y.In (· < B) wr ∧ y.kind = x.kind ∧ gx ∉ F ∧ Below B w wr ∧ Kept [gx, g] w3 wr ∧ Grows w3 [gx, g] (gx :: F)

set_option maxRecDepth 100000 in
set_option maxHeartbeats 12800000 in
theorem mput_any {ok : Nat → Prop} (m : MsgL) (w : World) (h : m.In ok w) :
    Calls Tryz.prog 13 #[.agg m.cells.toArray] w fun e w' => PutPost m.toM w e w' := by
  have HM := Lib.hid h.lt
  clear h
  obtain ⟨M, hM⟩ : ∃ M, m.cells.toArray = M := ⟨_, rfl⟩
  rw [hM]
  obtain ⟨w1, hw1⟩ : ∃ w1, w.alloc (.cells M 37) = w1 := ⟨_, rfl⟩
  have X1 := Lib.hid (show Blk w1 w.heap.size 37 m.cells from by rw [← hw1, ← hM]; exact Blk.new w 37 m.cells.toArray)
  have B1 := Lib.hid (show Below w.heap.size w w1 from by rw [← hw1]; exact (Below.refl _ _).alloc (Nat.le_refl _) _)
  have c0 : w1.cell? ⟨w.heap.size, 0, none⟩ = some (.int .u8 (m.kind : Int)) := X1.out.cell 0
  have l1 := X1.out.lt
  have HMM := Lib.hid hM
  clear hM
  go_enter Tryz.func13, Tryz.ntmps13
  go_wp2_with (fail)
  try rw [hw1]
  clear hw1
  refine (flds_any m.kind w1).mono ?_
  rintro e w2 ⟨hb2, a, c, rfl, hr2, hnew⟩
  obtain ⟨fs, hfs⟩ : ∃ fs, fldsM m.kind = fs := ⟨_, rfl⟩
  have HAP := Lib.hid (show Apartly fs from by rw [← hfs]; exact flds_apart _)
  have hl7 : fs.length ≤ 7 := by rw [← hfs]; exact flds_len _
  rw [hfs] at hr2 ⊢
  have HFS := Lib.hid hfs
  obtain ⟨n, hn⟩ : ∃ n, fs.length = n := ⟨_, rfl⟩
  rw [hn] at hr2 hl7 ⊢
  have HN := Lib.hid hn
  clear hfs hn
  have X2 := Lib.hid ((Kept.of_below (F := []) hb2 (Nat.le_refl _)).blk X1.out (by simp))
  have hs2 := hb2.size
  have B2 := Lib.hid (below_on B1.out hb2)
  have R2 := Lib.hid hr2
  have HNEW := Lib.hid hnew
  clear hb2 hr2 hnew c0
  obtain ⟨w3, hw3⟩ : ∃ w3, w2.alloc (.cells #[.slice none 0 0, .bool false] 83) = w3 := ⟨_, rfl⟩
  have k23 : Kept [] w2 w3 := by rw [← hw3]; exact (Kept.refl _ _).alloc _
  have hgx : w.heap.size ≠ w2.heap.size := by have := X2.out.lt; omega
  have ST := Lib.hid (show ∃ F s y, PutL fs m.toM w.heap.size w2.heap.size w.heap.size 0 w w3 w3 F s y from by
    refine ⟨[w2.heap.size], ([], false), m, ⟨by have := X2.out.lt; omega, .slice none 0 0, ?_, OwnV.nil _ _ _, rfl⟩, ⟨rfl, by simp, ?_, fun _ => rfl⟩, k23.blk X2.out (by simp), ?_, rfl, by simpa using hgx, ?_, Kept.refl _ _, Grows.refl _ _⟩
    · rw [← hw3]
      exact Blk.new w2 _ _
    · simp [fitF]
    · exact (HM.out.under B2.out).under (by rw [← hw3]; exact (Below.refl _ _).alloc (by have := X2.out.lt; omega) _)
    · rw [← hw3]
      exact B2.out.alloc (by have := X2.out.lt; omega) _)
  have R3 := Lib.hid (R2.out.keptF k23 (fun _ _ _ => by simp))
  have HNX := Lib.hid (show ∀ b off, a = some ⟨b, off, none⟩ → 0 < n → b ∉ [w.heap.size, w2.heap.size] ∧ b < w3.heap.size from fun b off hb h0 => by
    have h1 := HNEW.out b off hb
    have h2 : b < w2.heap.size := by
      rcases R2.out.cells with h | ⟨b', off', e, hlt, _⟩
      · omega
      · rw [hb] at e
        cases e
        exact hlt
    have h3 := k23.size
    simp
    omega)
  clear k23 HNEW R2
  go_wp2_with (fail)
  try rw [hw3]
  clear hw3
  go_loopw [7, 13] (fun _ s13 wr => ∃ i : Nat, s13 = .int .i64 i ∧ i ≤ n ∧ Hid (∃ F s y, PutL fs m.toM w.heap.size w2.heap.size w.heap.size i w w3 wr F s y)) (fun _ s13 _ => n - (intOf s13).toNat)
  case atStart => exact ⟨0, rfl, by omega, ST.out⟩
  case round =>
    clear ST
    obtain ⟨i, rfl, hi, HI⟩ := hrel
    obtain ⟨F, s, y, hat, hp, hx, hyi, hyk, hgF, hbel, hkw, hgw⟩ := HI.out
    have AT := Lib.hid hat
    have PI := Lib.hid hp
    have HX := Lib.hid hx
    have HY := Lib.hid hyi
    have HK := Lib.hid hyk
    have GF := Lib.hid hgF
    have BB := Lib.hid hbel
    have KW := Lib.hid hkw
    have GW := Lib.hid hgw
    have hln : s.1.length ≤ 700000000 := by have := hp.2.1; omega
    clear hat hp hx hyi hyk hgF hbel hkw hgw HI
    by_cases hin : i < n
    · obtain ⟨b, off, rfl, hlt, hcl⟩ : ∃ b off, a = some ⟨b, off, none⟩ ∧ b < wr.heap.size ∧ wr.cell? ⟨b, off + i, none⟩ = some (.int .u8 (byteAt (fs.map Fld.no) i : Int)) := by
        rcases R3.out.cells with h | ⟨b, off, e, hlt, hc⟩
        · omega
        · refine ⟨b, off, e, by have := KW.out.size; omega, ?_⟩
          rw [KW.out.cell (p := ⟨b, off + i, none⟩) hlt (HNX.out b off e (by omega)).1]
          exact hc i hin
      obtain ⟨f, hf⟩ : ∃ f, fs[i]? = some f := ⟨_, List.getElem?_eq_getElem (by rw [HN.out]; exact hin)⟩
      have hcell : wr.cell? ⟨b, off + i, none⟩ = some (.int .u8 (f.no : Int)) := by
        rw [hcl]
        simp [byteAt, List.getD, hf]
      have HFI := Lib.hid hf
      clear hcl hf
      go_wp2_with (fail)
      refine (wfield_any f y w.heap.size w2.heap.size w.heap.size F s wr AT.out (by omega) HX.out (Nat.le_refl _) GF.out HY.out).mono ?_
      rintro e w4 ⟨rfl, F4, s4, h4, t4, x4, k4, g4⟩
      have NX := Lib.hid (show ∃ F s y, PutL fs m.toM w.heap.size w2.heap.size w.heap.size (i + 1) w w3 w4 F s y from by
        have hgx4 : w.heap.size ∉ F4 := fun hx => by
          rcases g4 _ hx with h | h
          · exact GF.out h
          · have := HX.out.lt; omega
        have hbel4 : Below w.heap.size wr w4 := k4.below (fun k hk => by
          rcases List.mem_cons.1 hk with rfl | hk
          · exact Nat.le_refl _
          · exact (AT.out.lt k hk).1) AT.out.le
        refine ⟨F4, s4, f.wipeL y, h4, ?_, x4, ?_, ?_, hgx4, BB.out.trans hbel4, KW.out.trans k4 GW.out, ?_⟩
        · rw [wipeL_toM]
          exact PI.out.next HAP.out HFI.out t4
        · exact wipeL_in f (HY.out.under hbel4)
        · rw [wipeL_kind]
          exact HK.out
        · intro k hk
          rcases List.mem_cons.1 hk with rfl | hk
          · exact .inl (by simp)
          · rcases g4 k hk with h | h
            · exact GW.out k (List.mem_cons_of_mem _ h)
            · exact .inr (by have := KW.out.size; omega))
      clear h4 t4 x4 k4 g4 AT PI HX HY HK GF BB KW GW
      go_wp2
      go_roundw
      case rel => exact ⟨i + 1, by go_num, by omega, NX.out⟩
      case measure => simp [intOf]; omega
    · have hin' : i = n := by omega
      subst hin'
      have PE := Lib.hid (show y.toM = wipeF fs m.toM ∧ (s.2 = false ↔ fitF fs m.toM) ∧ (s.2 = false → s.1 = encF fs m.toM) from by
        obtain ⟨h1, _, h2, h3⟩ := PI.out
        rw [← HN.out, List.take_length] at h1 h2 h3
        exact ⟨h1, h2, h3⟩)
      have FIT := Lib.hid (show fitM m.toM ↔ fs.length ≠ 0 ∧ wipeF fs m.toM = zeroM m.kind ∧ fitF fs m.toM from by
        rw [fitM_iff]
        show (fldsM m.kind).length ≠ 0 ∧ wipeF (fldsM m.kind) m.toM = zeroM m.kind ∧ fitF (fldsM m.kind) m.toM ↔ _
        rw [HFS.out])
      by_cases h0 : i = 0
      · subst h0
        have NOT := Lib.hid (show ¬ fitM m.toM from fun hh => (FIT.out.1 hh).1 HN.out)
        go_wp2
        go_ret2
        exact ⟨BB.out, .inr ⟨NOT.out, rfl⟩⟩
      have h0b : ((i : Int) == 0) = false := by simp; omega
      go_wp2_with (fail)
      refine (empty_any y w.heap.size wr HX.out HY.out).mono ?_
      rintro e w5 ⟨⟨z, rfl, hz⟩, hb5⟩
      have HZ := Lib.hid (show z = true ↔ wipeF fs m.toM = zeroM m.kind from by
        rw [hz.out, PE.out.1, show y.kind = m.kind from HK.out])
      have A5 := Lib.hid (AT.out.on hb5)
      have B5 := Lib.hid (BB.out.trans (hb5.mono AT.out.le))
      clear hz hb5
      cases z
      · have NOT := Lib.hid (show ¬ fitM m.toM from fun hh => nomatch HZ.out.2 (FIT.out.1 hh).2.1)
        go_wp2
        go_ret2
        exact ⟨B5.out, .inr ⟨NOT.out, rfl⟩⟩
      · obtain ⟨bs, bad⟩ := s
        cases bad
        · go_wp2_with (fail)
          refine (wend_good w2.heap.size w.heap.size F bs w5 A5.out).mono ?_
          rintro e w6 ⟨rfl, v, rfl, hown⟩
          have YES := Lib.hid (show fitM m.toM from FIT.out.2 ⟨by rw [HN.out]; exact h0, HZ.out.1 (by first | rfl | trivial), PE.out.2.1.1 (by first | rfl | trivial)⟩)
          have OWN := Lib.hid (show OwnV w6 w.heap.size 5 v (bytesM m.toM) from by
            have h1 : bs = encF fs m.toM := PE.out.2.2 (by first | rfl | trivial)
            have h2 : bytesM m.toM = encF fs m.toM := by
              show encF (fldsM m.kind) m.toM = _
              rw [HFS.out]
            rw [h2, ← h1]
            exact hown)
          clear hown
          go_wp2
          go_ret2
          exact ⟨B5.out, .inl ⟨YES.out, v, rfl, OWN.out⟩⟩
        · go_wp2_with (fail)
          refine (wend_bad w2.heap.size w.heap.size F bs w5 A5.out).mono ?_
          rintro e w6 ⟨rfl, rfl⟩
          have NOT := Lib.hid (show ¬ fitM m.toM from fun hh => nomatch PE.out.2.1.2 (FIT.out.1 hh).2.2)
          go_wp2
          go_ret2
          exact ⟨B5.out, .inr ⟨NOT.out, rfl⟩⟩
end Go.Proofs.YtemnmjfeljipjaaGreat
