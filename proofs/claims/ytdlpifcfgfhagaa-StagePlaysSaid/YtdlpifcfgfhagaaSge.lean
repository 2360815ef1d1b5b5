/-
  The program's table of uploads: Chunk in plain words, Abort, Commit, Leave (maps.DeleteFunc with a closure), Bytes, by walks over their texts.
-/
import Derived.Test.YtdlpifcfgfhagaaSgd
import Derived.Test.YtdlpifcfgfhagaaNxC
import Derived.Lib.SlMapFilter
namespace Go.Proofs.Ytdlpifcfgfhagaa
open Go.RowKit Go.ChangeShapes Go.WideShapes Go.ChangeAt Go.Maps

theorem turn_grow {L : List UpL} {t t' : UpL} {b : List Nat} (hu : t'.u = t.u.put b) (huniq : ∀ a ∈ L, a.u.n = t.u.n → a = t) : (turnU L t').map (·.u) = (L.map (·.u)).map fun u => if u.n = t.u.n then u.put b else u := by
  unfold turnU
  rw [List.map_map, List.map_map]
  refine List.map_congr_left fun s hs => ?_
  show (if s.u.n = t'.u.n then t' else s).u = if s.u.n = t.u.n then s.u.put b else s.u
  have e : t'.u.n = t.u.n := by rw [hu]; rfl
  rw [e]
  split
  · rename_i h
    rw [huniq s hs h, hu]
  · rfl
theorem schunk_any (w : World) (lo x k : Nat) (F : List Nat) (s : TabV) (h : TabIs w lo x F s) (hF : s.Few k) (hk : k ≤ 1000000) (owner n page : Nat) (hn : n < 4294967296) (ba : Option Addr) (bn bc : Nat) (xs : List Nat) (hb : BReads w ba bn bc xs) :
    Calls Try.prog 13 #[.pointer (some ⟨x, 0, none⟩), .int .u64 (owner : Int), .int .u32 (n : Int), .int .u32 (page : Int), .slice ba bn bc] w fun e w' => e = .returned (.int .i64 (s.chunkE owner n page xs : Int)) ∧ TPost lo x F (s.chunk owner n page xs) w w' := by
  have hlo := h.size1
  have h0 := h
  obtain ⟨m, L, h1, h2, rfl⟩ := h
  cases ho : s.own owner n with
  | none =>
    have hE : s.chunkE owner n page xs = 130 := by unfold TabV.chunkE; rw [ho]
    rw [show s.chunk owner n page xs = s from by unfold TabV.chunk; rw [hE]; rfl, hE]
    refine (chunk_none w lo x m s.last L h1 owner n page hn (own_lack h2 ho) ba bn bc).mono ?_
    rintro e w' ⟨rfl, rfl⟩
    exact ⟨rfl, TPost.same h0⟩
  | some u =>
    obtain ⟨t, ht, rfl, rfl, rfl⟩ := own_find h2 ho
    have hp : t.u.page ≤ 1000000 := Nat.le_trans (hF.page t.u (by rw [h2]; exact List.mem_map.2 ⟨t, ht, rfl⟩)) hk
    by_cases h3 : page = t.u.page + 1
    · by_cases h4 : t.u.b.length + bn ≤ 4096
      · have hE : s.chunkE t.u.owner t.u.n page xs = 0 := by
          unfold TabV.chunkE
          rw [ho]
          simp only
          rw [if_neg (fun hh => hh h3), if_neg (by rw [hb.len]; omega)]
        rw [show s.chunk t.u.owner t.u.n page xs = s.grow t.u.n xs from by unfold TabV.chunk; rw [if_pos hE], hE]
        refine (chunk_ok w lo x m s.last L h1 hlo t ht hp page h3 ba bn bc xs hb h4).mono ?_
        rintro e w' ⟨rfl, t', hg, hu, hT, hK, hv⟩
        refine ⟨rfl, fpT x m (turnU L t'), ⟨m, turnU L t', hT, ?_, rfl⟩, hK.mono fun b hb => mem_fpT.2 (.inr (.inr ⟨t, ht, hb⟩)), fun b hb => ?_⟩
        · rw [turn_grow hu (fun a ha e => h1.uniq a ha t ht e), ← h2]
          rfl
        · rcases mem_fpT.1 hb with hb | hb | ⟨a, ha, hb⟩
          · exact .inl (mem_fpT.2 (.inl hb))
          · exact .inl (mem_fpT.2 (.inr (.inl hb)))
          · obtain ⟨a0, ha0, rfl⟩ := List.mem_map.1 ha
            split at hb
            · rcases mem_fpU.1 hb with e | e
              · exact .inl (mem_fpT.2 (.inr (.inr ⟨t, ht, mem_fpU.2 (.inl (e.trans hg))⟩)))
              · rcases hv b e with e2 | e2
                · exact .inl (mem_fpT.2 (.inr (.inr ⟨t, ht, mem_fpU.2 (.inr e2)⟩)))
                · exact .inr e2
            · exact .inl (mem_fpT.2 (.inr (.inr ⟨a0, ha0, hb⟩)))
      · have hE : s.chunkE t.u.owner t.u.n page xs = 4 := by
          unfold TabV.chunkE
          rw [ho]
          simp only
          rw [if_neg (fun hh => hh h3), if_pos (by rw [hb.len]; omega)]
        rw [show s.chunk t.u.owner t.u.n page xs = s from by unfold TabV.chunk; rw [hE]; rfl, hE]
        refine (chunk_full w lo x m s.last L h1 t ht hp page h3 ba bn bc hb.small (by omega)).mono ?_
        rintro e w' ⟨rfl, rfl⟩
        exact ⟨rfl, TPost.same h0⟩
    · have hE : s.chunkE t.u.owner t.u.n page xs = 130 := by
        unfold TabV.chunkE
        rw [ho]
        simp only
        rw [if_pos h3]
      rw [show s.chunk t.u.owner t.u.n page xs = s from by unfold TabV.chunk; rw [hE]; rfl, hE]
      refine (chunk_page w lo x m s.last L h1 t ht hp page h3 ba bn bc).mono ?_
      rintro e w' ⟨rfl, rfl⟩
      exact ⟨rfl, TPost.same h0⟩

/-- What stays when some uploads go. -/
theorem TabC.gone {w w' : World} {lo x m : Nat} {L : List UpL} {s : TabV} {q : UpL → Bool} {q' : UpV → Bool} (h : TabC w lo x m L s.last) (h2 : s.ups = L.map (·.u)) (hq : ∀ t ∈ L, q t = q' t.u) (hm : MapE w' Try.prog 28 m (upE (L.filter q))) (hk : Kept [m] w w') : TPost lo x (fpT x m L) { s with ups := s.ups.filter q' } w w' := by
  refine ⟨fpT x m (L.filter q), ⟨m, L.filter q, h.fewer hm hk, ?_, rfl⟩, hk.mono (fun b hb => mem_fpT.2 (.inr (.inl (List.mem_singleton.1 hb)))), fun b hb => .inl ?_⟩
  · show s.ups.filter q' = _
    rw [h2, List.filter_map]
    congr 1
    exact List.filter_congr fun t ht => (hq t ht).symm
  · rcases mem_fpT.1 hb with hb | hb | ⟨t, ht, hb⟩
    · exact mem_fpT.2 (.inl hb)
    · exact mem_fpT.2 (.inr (.inl hb))
    · exact mem_fpT.2 (.inr (.inr ⟨t, (List.mem_filter.1 ht).1, hb⟩))
set_option maxRecDepth 100000 in
set_option maxHeartbeats 1600000 in
theorem abort_none (w : World) (lo x m last : Nat) (L : List UpL) (h : TabC w lo x m L last) (owner n : Nat) (hn : n < 4294967296) (hno : ∀ t ∈ L, ¬ (t.u.n = n ∧ t.u.owner = owner)) :
    Calls Try.prog 18 #[.pointer (some ⟨x, 0, none⟩), .int .u64 (owner : Int), .int .u32 (n : Int)] w fun e w' => e = .returned (.int .i64 130) ∧ w = w' := by
  have OC := Lib.hid (own_no w lo x m last L h owner n hn hno)
  clear h hn hno
  go_enter Try.func18, Try.ntmps18
  go_wp2_with (fail)
  refine OC.out.mono ?_
  rintro e w2 ⟨rfl, rfl⟩
  go_wp2
  go_ret
  exact ⟨rfl, rfl⟩
set_option maxRecDepth 100000 in
set_option maxHeartbeats 1600000 in
theorem abort_some (w : World) (lo x m : Nat) (L : List UpL) (s : TabV) (h : TabC w lo x m L s.last) (h2 : s.ups = L.map (·.u)) (t : UpL) (ht : t ∈ L) :
    Calls Try.prog 18 #[.pointer (some ⟨x, 0, none⟩), .int .u64 (t.u.owner : Int), .int .u32 (t.u.n : Int)] w fun e w' => e = .returned (.int .i64 0) ∧ TPost lo x (fpT x m L) (s.cut t.u.n) w w' := by
  have OC := Lib.hid (own_yes w lo x m s.last L h t ht)
  have c0 : w.cell? ⟨x, 0, none⟩ = some (.map (some m)) := h.blk.cell 0
  have HM := Lib.hid h.map
  have hn := Lib.hid (h.each t ht).n32
  have FIN := Lib.hid (fun (w' : World) (hM : MapE w' Try.prog 28 m (dropE (upE L) (keyS t.u.n))) (hk : Kept [m] w w') => show TPost lo x (fpT x m L) (s.cut t.u.n) w w' from by
    rw [upE_drop] at hM
    exact h.gone h2 (fun _ _ => rfl) hM hk)
  clear h h2 ht
  go_enter Try.func18, Try.ntmps18
  go_wp2_with (fail)
  refine OC.out.mono ?_
  rintro e w2 ⟨rfl, rfl⟩
  go_wp2_with (first | (at_delete; refine up_del _ rfl _ _ rfl m _ rfl HM.out t.u.n hn.out rfl ?_; intro w2 hM2 hk2) | fail)
  go_ret
  exact ⟨rfl, FIN.out w2 hM2 hk2⟩
/-- What Abort tells. -/
def TabV.abortE (s : TabV) (owner n : Nat) : Nat := match s.own owner n with | none => 130 | some _ => 0
def TabV.abort (s : TabV) (owner n : Nat) : TabV := match s.own owner n with | none => s | some _ => s.cut n
theorem sabort_any (w : World) (lo x : Nat) (F : List Nat) (s : TabV) (h : TabIs w lo x F s) (owner n : Nat) (hn : n < 4294967296) :
    Calls Try.prog 18 #[.pointer (some ⟨x, 0, none⟩), .int .u64 (owner : Int), .int .u32 (n : Int)] w fun e w' => e = .returned (.int .i64 (s.abortE owner n : Int)) ∧ TPost lo x F (s.abort owner n) w w' := by
  have h0 := h
  obtain ⟨m, L, h1, h2, rfl⟩ := h
  unfold TabV.abortE TabV.abort
  cases ho : s.own owner n with
  | none =>
    refine (abort_none w lo x m s.last L h1 owner n hn (own_lack h2 ho)).mono ?_
    rintro e w' ⟨rfl, rfl⟩
    exact ⟨rfl, TPost.same h0⟩
  | some u =>
    obtain ⟨t, ht, rfl, rfl, rfl⟩ := own_find h2 ho
    exact abort_some w lo x m L s h1 h2 t ht

/-- What Commit leaves and tells of an upload. -/
def CmPost (lo x : Nat) (F : List Nat) (s : TabV) (u : UpV) (w : World) (e : Ending) (w' : World) : Prop :=
  TPost lo x F (s.cut u.n) w w' ∧ ((∃ (p : SlL) (xs : List shChange.T), readC u.b = .inl (xs.map toChange) ∧ e = .returned (.tuple #[.string u.name, .slice p.a p.n p.c, .int .i64 0]) ∧ Rd (w.heap.size ≤ ·) w' shChanges [.slice p.a p.n p.c] xs) ∨
    (∃ er : Nat, readC u.b = .inr er ∧ er ≠ 0 ∧ e = .returned (.tuple #[.string ⟨#[]⟩, .slice none 0 0, .int .i64 (er : Int)])))
theorem TPost.on {lo x : Nat} {F : List Nat} {s : TabV} {w w1 w2 : World} (h : TPost lo x F s w w1) (hb : Below w1.heap.size w1 w2) : TPost lo x F s w w2 := by
  obtain ⟨F', h1, h2, h3⟩ := h
  exact ⟨F', h1.on hb, h2.trans (Kept.of_below (F := F) hb (Nat.le_refl _)) (Grows.refl _ _), h3⟩
set_option maxRecDepth 100000 in
set_option maxHeartbeats 1600000 in
theorem commit_none (w : World) (lo x m last : Nat) (L : List UpL) (h : TabC w lo x m L last) (owner n : Nat) (hn : n < 4294967296) (hno : ∀ t ∈ L, ¬ (t.u.n = n ∧ t.u.owner = owner)) :
    Calls Try.prog 15 #[.pointer (some ⟨x, 0, none⟩), .int .u64 (owner : Int), .int .u32 (n : Int)] w fun e w' => e = .returned (.tuple #[.string ⟨#[]⟩, .slice none 0 0, .int .i64 130]) ∧ w = w' := by
  have OC := Lib.hid (own_no w lo x m last L h owner n hn hno)
  clear h hn hno
  go_enter Try.func15, Try.ntmps15
  go_wp2_with (fail)
  refine OC.out.mono ?_
  rintro e w2 ⟨rfl, rfl⟩
  go_wp2
  go_ret3
  exact ⟨rfl, rfl⟩
set_option maxRecDepth 100000 in
set_option maxHeartbeats 1600000 in
theorem commit_some (w : World) (lo x m : Nat) (L : List UpL) (s : TabV) (h : TabC w lo x m L s.last) (h2 : s.ups = L.map (·.u)) (t : UpL) (ht : t ∈ L) :
    Calls Try.prog 15 #[.pointer (some ⟨x, 0, none⟩), .int .u64 (t.u.owner : Int), .int .u32 (t.u.n : Int)] w fun e w' => CmPost lo x (fpT x m L) s t.u w e w' := by
  have OC := Lib.hid (own_yes w lo x m s.last L h t ht)
  have c0 : w.cell? ⟨x, 0, none⟩ = some (.map (some m)) := h.blk.cell 0
  have HM := Lib.hid h.map
  have hn := Lib.hid (h.each t ht).n32
  obtain ⟨va, vc, hv, hr, -, hlo⟩ := (h.each t ht).row.reads (by have := (h.each t ht).most; omega)
  have hblk := (h.each t ht).blk
  have hmt := h.m_not t ht
  have AFT := Lib.hid (fun (w2 : World) (hM : MapE w2 Try.prog 28 m (dropE (upE L) (keyS t.u.n))) (hk : Kept [m] w w2) =>
    show TPost lo x (fpT x m L) (s.cut t.u.n) w w2 ∧ w2.cell? ⟨t.g, 2, none⟩ = some (.slice va t.u.b.length vc) ∧ BReads w2 va t.u.b.length vc t.u.b ∧ Blk w2 t.g 67 t.cells from by
    have hb2 := hk.blk hblk (fun e => hmt (mem_fpU.2 (.inl (List.mem_singleton.1 e).symm)))
    have A2 := (h.each t ht).kept hk (fun b hb e => hmt (by rw [List.mem_singleton] at e; exact e ▸ hb))
    refine ⟨?_, by rw [← hv]; exact hb2.cell 2, ?_, hb2⟩
    · rw [upE_drop] at hM
      exact h.gone h2 (fun _ _ => rfl) hM hk
    · obtain ⟨va', vc', hv', hr', -⟩ := A2.row.reads (by have := A2.most; omega)
      rw [hv] at hv'
      simp only [Value.slice.injEq] at hv'
      obtain ⟨rfl, -, rfl⟩ := hv'
      exact hr')
  have FIN := Lib.hid (fun (w2 w3 : World) (e : Ending) (hT : TPost lo x (fpT x m L) (s.cut t.u.n) w w2) (hk : w.heap.size ≤ w2.heap.size) (hg : GCPost t.u.b w2 e w3) => show Below w2.heap.size w2 w3 ∧ (
      (∃ (p : SlL) , e = .returned (.tuple #[.slice p.a p.n p.c, .int .i64 0]) ∧ CmPost lo x (fpT x m L) s t.u w (.returned (.tuple #[.string t.u.name, .slice p.a p.n p.c, .int .i64 0])) w3) ∨
      (∃ er : Nat, er ≠ 0 ∧ e = .returned (.tuple #[.slice none 0 0, .int .i64 (er : Int)]) ∧ CmPost lo x (fpT x m L) s t.u w (.returned (.tuple #[.string ⟨#[]⟩, .slice none 0 0, .int .i64 (er : Int)])) w3)) from by
    obtain ⟨hb, hc⟩ := hg
    refine ⟨hb, ?_⟩
    rcases hc with ⟨p, xs, h3, rfl, h4⟩ | ⟨er, h3, h4, rfl⟩
    · exact .inl ⟨p, rfl, hT.on hb, .inl ⟨p, xs, h3, rfl, h4.mono fun k hk' _ => Nat.le_trans hk hk'⟩⟩
    · exact .inr ⟨er, h4, rfl, hT.on hb, .inr ⟨er, h3, h4, rfl⟩⟩)
  clear h h2 ht hv hr hlo hblk hmt
  obtain ⟨bl, hbl⟩ : ∃ bl, t.u.b.length = bl := ⟨_, rfl⟩
  rw [hbl] at AFT
  go_enter Try.func15, Try.ntmps15
  go_wp2_with (fail)
  refine OC.out.mono ?_
  rintro e w2 ⟨rfl, rfl⟩
  go_wp2_with (first | (at_delete; refine up_del _ rfl _ _ rfl m _ rfl HM.out t.u.n hn.out rfl ?_; intro w2 hM2 hk2; obtain ⟨T2, d2, R2, D2⟩ := AFT.out w2 hM2 hk2; have T2 := Lib.hid T2; have R2 := Lib.hid R2; have D2 := Lib.hid D2; have S2 := Lib.hid hk2.size; clear hM2 hk2) | fail)
  refine (mgetc_any va bl vc t.u.b w2 R2.out).mono ?_
  intro e w3 hg
  obtain ⟨hb3, hc⟩ := FIN.out w2 w3 e T2.out S2.out hg
  have e1 : w3.cell? ⟨t.g, 1, none⟩ = some (.string t.u.name) := ((Kept.of_below (F := []) hb3 (Nat.le_refl _)).blk D2.out (by simp)).cell 1
  clear hg hb3 d2
  rcases hc with ⟨p, rfl, hc⟩ | ⟨er, her, rfl, hc⟩
  · have HC := Lib.hid hc
    clear hc
    go_wp2
    go_ret3
    exact HC.out
  · have HC := Lib.hid hc
    clear hc
    go_wp2
    go_ret3
    exact HC.out
end Go.Proofs.Ytdlpifcfgfhagaa
