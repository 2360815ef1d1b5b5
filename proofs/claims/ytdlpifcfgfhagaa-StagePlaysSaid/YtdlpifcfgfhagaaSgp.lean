/-
  The document's table of uploads: cut, Bytes, Begin, by walks over their texts.
-/
import Derived.Test.YtdlpifcfgfhagaaSgo
namespace Go.Proofs.Ytdlpifcfgfhagaa
open Go.RowKit Go.ChangeShapes Go.WideShapes Go.ChangeAt

theorem up_infoD : (Try.prog.info? 42).map (·.size) = some 5 := by kernel_rfl
theorem up_infoZ : (Try.prog.info? 42).map (fun i => (i.zero, i.size, i.bytes)) = some (some (.agg #[.int .u32 0, .int .u64 0, .string ⟨#[]⟩, .slice none 0 0, .int .i64 0]), 5, 64) := by kernel_rfl
theorem build_up (t : UpR) (h : ∃ a n c, t.v = .slice a n c) (w : World) : (Instr.buildSlice 27 1 #[(0, .agg t.cells.toArray)]).run Try.prog w = .ok (.slice (some ⟨w.heap.size, 0, none⟩) 1 1) (w.alloc (.cells t.cells.toArray 42)) := by
  obtain ⟨a, n, c, e⟩ := h
  unfold UpR.cells
  rw [e]
  go_simp
theorem up_one (t : UpR) (h : ∃ a n c, t.v = .slice a n c) : ∀ u ∈ t.cells, u.oneCell' = true := by
  obtain ⟨a, n, c, e⟩ := h
  unfold UpR.cells
  rw [e]
  simp [Value.oneCell']
theorem UpR.Ok.sl {w : World} {lo : Nat} {t : UpR} (h : t.Ok w lo) : ∃ a n c, t.v = .slice a n c := by
  obtain ⟨a, n, c, e, _⟩ := h.row.parts
  exact ⟨a, n, c, e⟩
/-- What a call that may turn the document's table leaves. -/
def DPost (lo g : Nat) (F : List Nat) (R' : List UpR) (last' : Nat) (w w' : World) : Prop := ∃ v', DTab w' lo g v' R' last' ∧ Kept F w w' ∧ Grows w F (fpR v' g R')
theorem DPost.same {lo g last : Nat} {v : Value} {R : List UpR} {w : World} (h : DTab w lo g v R last) : DPost lo g (fpR v g R) R last w w := ⟨v, h, Kept.refl _ _, Grows.refl _ _⟩
/-- A row of uploads that was there, now in new blocks: laid into the table. -/
theorem DTab.laid {w wr : World} {lo g last last' : Nat} {v u : Value} {R R' : List UpR} (h : DTab w lo g v R last) (hb : Below w.heap.size w wr) (hr : RowC w.heap.size wr 42 5 u (R'.map UpR.cells)) (hs : ∀ t ∈ R', t ∈ R) (hl : R'.length ≤ 4) (hB : Blk (wr.setCell ⟨g, 0, none⟩ u) g 30 [u, .int .u32 (last' : Int)]) (h32 : last' < 4294967296) :
    DPost lo g (fpR v g R) R' last' w (wr.setCell ⟨g, 0, none⟩ u) ∧ Kept [g] w (wr.setCell ⟨g, 0, none⟩ u) := by
  have hlo : lo ≤ w.heap.size := Nat.le_of_lt (Nat.lt_of_le_of_lt h.glo h.blk.lt)
  have hk1 : Kept [g] wr (wr.setCell ⟨g, 0, none⟩ u) := (Kept.refl _ _).setCell _ _ (.inl (by simp))
  have hk : Kept [g] w (wr.setCell ⟨g, 0, none⟩ u) := (Kept.of_below hb (Nat.le_refl _)).setCell _ _ (.inl (by simp))
  have hB0 := (h.on hb).blk
  refine ⟨⟨u, ⟨hB, h.glo, (rowC_weak13 hr hlo).kept hk1 (rowC_not_blk13 hr hB0 (by decide)), fun t ht => ((h.on hb).each t (hs t ht)).kept hk1 (fun b e => by
    have := (h.bytes_not (h.each t (hs t ht)).row b e).1
    simpa using this), hl, h32⟩, hk.mono (fun b hb' => mem_fpR.2 (.inl (List.mem_singleton.1 hb'))), fun b hb' => ?_⟩, hk⟩
  rcases mem_fpR.1 hb' with e | e | ⟨t, ht, e⟩
  · exact .inl (mem_fpR.2 (.inl e))
  · exact .inr (hr.lt b e).1
  · exact .inl (mem_fpR.2 (.inr (.inr ⟨t, hs t ht, e⟩)))

set_option maxRecDepth 100000 in
set_option maxHeartbeats 6400000 in
theorem dcut_any (w : World) (lo g last : Nat) (v : Value) (R : List UpR) (h : DTab w lo g v R last) (at13 : Nat) :
    Calls Try.prog 29 #[.pointer (some ⟨g, 0, none⟩), .int .i64 (at13 : Int)] w fun e w' => e = .returned (.tuple #[]) ∧ DPost lo g (fpR v g R) (R.eraseIdx at13) last w w' ∧ Kept [g] w w' := by
  have HP := Lib.hid h
  obtain ⟨ca, cc, rfl, hcc⟩ := h.form
  obtain ⟨n, hn⟩ : ∃ n, R.length = n := ⟨_, rfl⟩
  have hC := h.few
  have HN := Lib.hid hn
  have HCE := Lib.hid (show ∀ w2, Below w.heap.size w w2 → w2.cell? ⟨g, 0, none⟩ = some (.slice ca n cc) from fun w2 hb => by
    have e1 := (h.blk.of_eq (hb.block _ h.blk.lt)).cell 0
    rw [hn] at e1
    exact e1)
  rw [hn] at hC hcc
  clear h hn
  go_enter Try.func29, Try.ntmps29
  go_wp2_with (fail)
  go_loopw [4, 5] (fun s4 s5 wr => ∃ (i k vn : Nat) (va : Option Addr), s5 = .int .i64 (i : Int) ∧ i ≤ n ∧ s4 = .slice va k vn ∧ k ≤ i ∧ Hid (RowC w.heap.size wr 42 5 (.slice va k vn) (((R.take i).eraseIdx at13).map UpR.cells)) ∧ Hid (Below w.heap.size w wr)) (fun _ s5 _ => n - (intOf s5).toNat)
  case atStart => exact ⟨0, 0, 0, none, rfl, Nat.zero_le _, rfl, Nat.le_refl _, RowC.nil _ _ _ _, Below.refl _ _⟩
  case round =>
    obtain ⟨i, k, vn, va, rfl, hi, rfl, hk, HR, HB⟩ := hrel
    have hws := HB.out.size
    have c1 := HCE.out wr HB.out
    by_cases hc : i < n
    · obtain ⟨t, gr, cx, hd, e, _, hlt, hrg, htm⟩ := (HP.out.on HB.out).up i (by rw [HN.out]; exact hc)
      simp only [Value.slice.injEq] at e
      obtain ⟨rfl, _, rfl⟩ := e
      have HD := Lib.hid (erase_next13 (k := at13) hd)
      by_cases hq : i = at13
      · have hqb : ((i : Int) == (at13 : Int)) = true := by simp [hq]
        have HQ := Lib.hid hq
        clear hq hd hrg htm
        go_wp2
        go_roundw
        case rel => exact ⟨i + 1, k, vn, va, by go_num, by omega, rfl, by omega, by
          rw [HD.out, if_pos HQ.out]
          exact HR.out, HB.out⟩
        case measure => simp [intOf]; omega
      · have hqb : ((i : Int) == (at13 : Int)) = false := by rw [beq_eq_false_iff_ne]; omega
        have HQ := Lib.hid hq
        have hsl := ((HP.out.on HB.out).each t htm).sl
        obtain ⟨ML, hML⟩ : ∃ ML, t.cells = ML := ⟨_, rfl⟩
        have HML := Lib.hid hML
        have HRG := Lib.hid (show wr.rangeAt gr (i * 5) ML from by rw [← hML]; exact hrg)
        have HBS := Lib.hid (show (Instr.buildSlice 27 1 #[(0, .agg ML.toArray)]).run Try.prog wr = .ok (.slice (some ⟨wr.heap.size, 0, none⟩) 1 1) (wr.alloc (.cells ML.toArray 42)) from by rw [← hML]; exact build_up t hsl wr)
        have hsz5 : (Try.prog.info? 42).map (·.size) = some ML.length := by rw [← hML]; exact up_infoD
        have hl5 : ML.length = 5 := by rw [← hML]; rfl
        have ONE := Lib.hid (show ∀ u ∈ ML, u.oneCell' = true from by rw [← hML]; exact up_one t hsl)
        have HKL := Lib.hid (show k = (((R.take i).eraseIdx at13).map UpR.cells).length from by
          obtain ⟨_, _, e, _⟩ := HR.out.form
          simp only [Value.slice.injEq] at e
          exact e.2.1)
        clear hq hd hrg hML htm hsl
        go_wp2_with (first | (refine wp_load_m wr (by rfl) 42 (.tmp 24) rfl gr (i * 5) ML _ (by rfl) HRG.out Try.underlying42 rfl hsz5 ?_) | (refine wp_bs wr rfl 27 42 (.tmp 25) rfl ML.toArray HBS.out (by rfl) ?_) | (at_builtin; refine app_c (k := 5) (css := ((R.take i).eraseIdx at13).map UpR.cells) wr rfl (.tmp 18) (.tmp 26) 27 rfl Try.underlying27 (.agg #[.int .u32 0, .int .u64 0, .string ⟨#[]⟩, .slice none 0 0, .int .i64 0]) 64 up_infoZ rfl (by decide) ML (by rfl) (by rfl) HR.out hl5 ONE.out hws (by rw [← HKL.out]; omega) (by rw [← HKL.out]; omega) ?_) | fail)
        intro v' w5 hr5 hk5 hg5
        obtain ⟨va', vc', hv', _⟩ := hr5.form
        have hkb := hk5.below (fun x hx => (HR.out.lt x (mem_ownB.1 hx)).1) hws
        have N1 := Lib.hid hr5
        have N3 := Lib.hid (HB.out.trans hkb)
        obtain ⟨k', hk'⟩ : ∃ k', (((R.take i).eraseIdx at13).map UpR.cells ++ [ML]).length = k' := ⟨_, rfl⟩
        have hk1 : k' = k + 1 := by rw [← hk', List.length_append, ← HKL.out]; rfl
        rw [hk'] at hv'
        subst hv'
        clear hr5 hk5 hg5 hkb c1 hk' HR HB HRG HBS hsz5
        go_wp2
        go_roundw
        case rel => exact ⟨i + 1, k', vc', va', by go_num, by omega, rfl, by omega, by
          rw [HD.out, if_neg HQ.out, List.map_append, List.map_singleton, HML.out]
          exact N1.out, N3.out⟩
        case measure => simp [intOf]; omega
    · have ht : R.take i = R := List.take_of_length_le (by rw [HN.out]; omega)
      rw [ht] at HR
      have hB0 := (HP.out.on HB.out).blk
      have f1 : wr.frozen? ⟨g, 0, none⟩ = false := hB0.frozen 0
      have FIN := Lib.hid (HP.out.laid HB.out HR.out (fun t ht => List.mem_of_mem_eraseIdx ht) (Nat.le_trans (List.length_eraseIdx_le ..) HP.out.few) (hB0.set 0 (.slice va k vn)) HP.out.l32)
      clear hB0 ht
      go_wp2
      go_end0
      exact ⟨rfl, FIN.out⟩
def bytesR (R : List UpR) : Nat := (R.map fun t => t.u.b.length).sum
set_option maxRecDepth 100000 in
set_option maxHeartbeats 3200000 in
theorem dbytes_any (w : World) (lo g last : Nat) (v : Value) (R : List UpR) (h : DTab w lo g v R last) :
    Calls Try.prog 24 #[.pointer (some ⟨g, 0, none⟩)] w fun e w' => e = .returned (.int .i64 (bytesR R : Int)) ∧ w = w' := by
  have HP := Lib.hid h
  obtain ⟨va, vc, rfl, hvc⟩ := h.form
  obtain ⟨m, hm⟩ : ∃ m, R.length = m := ⟨_, rfl⟩
  have hm4 := h.few
  have c0 : w.cell? ⟨g, 0, none⟩ = some (.slice va m vc) := by rw [← hm]; exact h.blk.cell 0
  rw [hm] at hvc hm4
  have HM := Lib.hid hm
  clear h hm
  go_enter Try.func24, Try.ntmps24
  go_wp2
  go_loop [3, 4] (fun s3 s4 => ∃ i a : Nat, s3 = .int .i64 (a : Int) ∧ s4 = .int .i64 (i : Int) ∧ i ≤ m ∧ a ≤ i * 4096 ∧ Hid (a = bytesR (R.take i))) (fun _ s4 => m - (intOf s4).toNat)
  case atStart => exact ⟨0, 0, rfl, rfl, Nat.zero_le _, Nat.zero_le _, Lib.hid rfl⟩
  case round =>
    obtain ⟨i, a, rfl, rfl, hi, ha, HA⟩ := hrel
    by_cases hc : i < m
    · obtain ⟨t, gr, cx, ht, e, _, hlt, hrg, htm⟩ := HP.out.up i (by rw [HM.out]; exact hc)
      simp only [Value.slice.injEq] at e
      obtain ⟨rfl, _, rfl⟩ := e
      obtain ⟨-, -, -, q3, -⟩ := at_cells hrg
      obtain ⟨ta, tn, tc, htv, htl⟩ := (HP.out.each t htm).row.parts
      rw [htv] at q3
      have h4 := (HP.out.each t htm).most
      rw [htl.out] at h4
      have HS := Lib.hid (show a + tn = bytesR (R.take (i + 1)) from by
        rw [List.take_add_one, ht, HA.out]
        unfold bytesR
        rw [List.map_append, List.sum_append]
        simp [htl.out])
      have hadd : IntKind.i64.wrap ((a : Int) + (tn : Int)) = ((a + tn : Nat) : Int) := by rw [IntKind.wrap_i64]; omega
      clear hrg ht htm htv htl HA
      go_wp2
      go_round
      case rel => exact ⟨i + 1, a + tn, rfl, by go_num, by omega, by omega, HS⟩
      case measure => simp [intOf]; omega
    · have HB := Lib.hid (show a = bytesR R from by
        rw [HA.out, List.take_of_length_le (by rw [HM.out]; omega)])
      clear HA
      go_wp2
      go_ret
      exact ⟨by rw [← HB.out]; rfl, rfl⟩
end Go.Proofs.Ytdlpifcfgfhagaa
