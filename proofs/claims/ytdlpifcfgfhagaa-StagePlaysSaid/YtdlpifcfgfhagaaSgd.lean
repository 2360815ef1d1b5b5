/-
  The program's table of uploads: Chunk, Abort, by walks over their texts.
-/
import Derived.Test.YtdlpifcfgfhagaaSgc
import Derived.Test.YtdlpifcfgfhagaaVp
namespace Go.Proofs.Ytdlpifcfgfhagaa
open Go.RowKit Go.ChangeShapes Go.WideShapes Go.ChangeAt Go.Maps

/-- What a call that may turn the table leaves. -/
def TPost (lo x : Nat) (F : List Nat) (s' : TabV) (w w' : World) : Prop := ∃ F', TabIs w' lo x F' s' ∧ Kept F w w' ∧ Grows w F F'
theorem TPost.same {lo x : Nat} {F : List Nat} {s : TabV} {w : World} (h : TabIs w lo x F s) : TPost lo x F s w w := ⟨F, h, Kept.refl _ _, Grows.refl _ _⟩
theorem own_find {s : TabV} {L : List UpL} (h2 : s.ups = L.map (·.u)) {owner n : Nat} {u : UpV} (h : s.own owner n = some u) : ∃ t ∈ L, t.u = u ∧ t.u.n = n ∧ t.u.owner = owner := by
  obtain ⟨h3, h4, h5⟩ := own_some h
  rw [h2] at h3
  obtain ⟨t, ht, rfl⟩ := List.mem_map.1 h3
  exact ⟨t, ht, rfl, h4, h5⟩
theorem own_lack {s : TabV} {L : List UpL} (h2 : s.ups = L.map (·.u)) {owner n : Nat} (h : s.own owner n = none) : ∀ t ∈ L, ¬ (t.u.n = n ∧ t.u.owner = owner) := fun t ht => own_none h t.u (by rw [h2]; exact List.mem_map.2 ⟨t, ht, rfl⟩)

set_option maxRecDepth 100000 in
set_option maxHeartbeats 1600000 in
theorem chunk_none (w : World) (lo x m last : Nat) (L : List UpL) (h : TabC w lo x m L last) (owner n page : Nat) (hn : n < 4294967296) (hno : ∀ t ∈ L, ¬ (t.u.n = n ∧ t.u.owner = owner)) (ba : Option Addr) (bn bc : Nat) :
    Calls Try.prog 13 #[.pointer (some ⟨x, 0, none⟩), .int .u64 (owner : Int), .int .u32 (n : Int), .int .u32 (page : Int), .slice ba bn bc] w fun e w' => e = .returned (.int .i64 130) ∧ w = w' := by
  have OC := Lib.hid (own_no w lo x m last L h owner n hn hno)
  clear h hn hno
  go_enter Try.func13, Try.ntmps13
  go_wp2_with (fail)
  refine OC.out.mono ?_
  rintro e w2 ⟨rfl, rfl⟩
  go_wp2
  go_ret
  exact ⟨rfl, rfl⟩
set_option maxRecDepth 100000 in
set_option maxHeartbeats 1600000 in
theorem chunk_page (w : World) (lo x m last : Nat) (L : List UpL) (h : TabC w lo x m L last) (t : UpL) (ht : t ∈ L) (hp : t.u.page ≤ 1000000) (page : Nat) (hne : page ≠ t.u.page + 1) (ba : Option Addr) (bn bc : Nat) :
    Calls Try.prog 13 #[.pointer (some ⟨x, 0, none⟩), .int .u64 (t.u.owner : Int), .int .u32 (t.u.n : Int), .int .u32 (page : Int), .slice ba bn bc] w fun e w' => e = .returned (.int .i64 130) ∧ w = w' := by
  have OC := Lib.hid (own_yes w lo x m last L h t ht)
  have c3 : w.cell? ⟨t.g, 3, none⟩ = some (.int .u32 (t.u.page : Int)) := (h.each t ht).blk.cell 3
  obtain ⟨p1, hp1⟩ : ∃ p1, t.u.page + 1 = p1 := ⟨_, rfl⟩
  have hpw : IntKind.u32.wrap ((t.u.page : Int) + 1) = (p1 : Int) := by rw [IntKind.wrap_u32]; omega
  have hne1 : ¬ page = p1 := by rw [← hp1]; exact hne
  clear h ht hp hp1 hne
  go_enter Try.func13, Try.ntmps13
  go_wp2_with (fail)
  refine OC.out.mono ?_
  rintro e w2 ⟨rfl, rfl⟩
  go_wp2
  go_ret
  exact ⟨rfl, rfl⟩
set_option maxRecDepth 100000 in
set_option maxHeartbeats 1600000 in
theorem chunk_full (w : World) (lo x m last : Nat) (L : List UpL) (h : TabC w lo x m L last) (t : UpL) (ht : t ∈ L) (hp : t.u.page ≤ 1000000) (page : Nat) (he : page = t.u.page + 1) (ba : Option Addr) (bn bc : Nat) (hbn : bn ≤ 140737488355328) (hl : 4096 < t.u.b.length + bn) :
    Calls Try.prog 13 #[.pointer (some ⟨x, 0, none⟩), .int .u64 (t.u.owner : Int), .int .u32 (t.u.n : Int), .int .u32 (page : Int), .slice ba bn bc] w fun e w' => e = .returned (.int .i64 4) ∧ w = w' := by
  have OC := Lib.hid (own_yes w lo x m last L h t ht)
  have hA := h.each t ht
  obtain ⟨va, vn, vc, hv, hvn⟩ := hA.row.parts
  have c2 : w.cell? ⟨t.g, 2, none⟩ = some (.slice va vn vc) := by rw [← hv]; exact hA.blk.cell 2
  have c3 : w.cell? ⟨t.g, 3, none⟩ = some (.int .u32 (t.u.page : Int)) := hA.blk.cell 3
  have hpw : IntKind.u32.wrap ((t.u.page : Int) + 1) = (page : Int) := by rw [IntKind.wrap_u32]; omega
  have hm := hA.most
  rw [hvn.out] at hl hm
  have hw : IntKind.i64.wrap ((vn : Int) + (bn : Int)) = ((vn + bn : Nat) : Int) := by rw [IntKind.wrap_i64]; omega
  obtain ⟨z, hz⟩ : ∃ z, vn + bn = z := ⟨_, rfl⟩
  rw [hz] at hw hl
  clear h ht hp he hA hv hvn hz hbn hm
  go_enter Try.func13, Try.ntmps13
  go_wp2_with (fail)
  refine OC.out.mono ?_
  rintro e w2 ⟨rfl, rfl⟩
  go_wp2
  go_ret
  exact ⟨rfl, rfl⟩
set_option maxRecDepth 100000 in
set_option maxHeartbeats 1600000 in
theorem chunk_ok (w : World) (lo x m last : Nat) (L : List UpL) (h : TabC w lo x m L last) (hlo : lo ≤ w.heap.size) (t : UpL) (ht : t ∈ L) (hp : t.u.page ≤ 1000000) (page : Nat) (he : page = t.u.page + 1) (ba : Option Addr) (bn bc : Nat) (xs : List Nat) (hb : BReads w ba bn bc xs) (hl : t.u.b.length + bn ≤ 4096) :
    Calls Try.prog 13 #[.pointer (some ⟨x, 0, none⟩), .int .u64 (t.u.owner : Int), .int .u32 (t.u.n : Int), .int .u32 (page : Int), .slice ba bn bc] w fun e w' => e = .returned (.int .i64 0) ∧
      ∃ t' : UpL, t'.g = t.g ∧ t'.u = t.u.put xs ∧ TabC w' lo x m (turnU L t') last ∧ Kept (fpU t) w w' ∧ ∀ k, t'.v.ownBlock = some k → t.v.ownBlock = some k ∨ w.heap.size ≤ k := by
  have OC := Lib.hid (own_yes w lo x m last L h t ht)
  have hA := h.each t ht
  have HR := Lib.hid hA.row
  obtain ⟨va, vn, vc, hv, hvn⟩ := hA.row.parts
  have HV := Lib.hid hv
  have HR := Lib.hid (show OwnV w lo 5 (.slice va vn vc) t.u.b from by rw [← hv]; exact HR.out)
  have c2 : w.cell? ⟨t.g, 2, none⟩ = some (.slice va vn vc) := by rw [← hv]; exact hA.blk.cell 2
  have c3 : w.cell? ⟨t.g, 3, none⟩ = some (.int .u32 (t.u.page : Int)) := hA.blk.cell 3
  have hpw : IntKind.u32.wrap ((t.u.page : Int) + 1) = (page : Int) := by rw [IntKind.wrap_u32]; omega
  have hl0 := hl
  rw [hvn.out] at hl
  have hw : IntKind.i64.wrap ((vn : Int) + (bn : Int)) = ((vn + bn : Nat) : Int) := by rw [IntKind.wrap_i64]; omega
  obtain ⟨z, hz⟩ : ∃ z, vn + bn = z := ⟨_, rfl⟩
  rw [hz] at hw hl
  have HB := Lib.hid hb
  have HL0 := Lib.hid hl0
  have HLO := Lib.hid hlo
  have TURN := Lib.hid (fun (w2 : World) (v' : Value) (ho : OwnV w2 lo 5 v' (t.u.b ++ xs)) (hg : w.grownBy w2 t.v.ownBlock) (hv' : v'.ownBlock = t.v.ownBlock ∨ v'.ownBlock = some w.heap.size) =>
    show ∃ w4, (w2.setCell ⟨t.g, 2, none⟩ v').setCell ⟨t.g, 3, none⟩ (.int .u32 (page : Int)) = w4 ∧ w2.cell? ⟨t.g, 2, none⟩ = some t.v ∧ (w2.setCell ⟨t.g, 2, none⟩ v').cell? ⟨t.g, 3, none⟩ = some (.int .u32 (t.u.page : Int)) ∧ w2.frozen? ⟨t.g, 2, none⟩ = false ∧ (w2.setCell ⟨t.g, 2, none⟩ v').frozen? ⟨t.g, 3, none⟩ = false ∧
      ∃ t' : UpL, t'.g = t.g ∧ t'.u = t.u.put xs ∧ TabC w4 lo x m (turnU L t') last ∧ Kept (fpU t) w w4 ∧ ∀ k, t'.v.ownBlock = some k → t.v.ownBlock = some k ∨ w.heap.size ≤ k from by
    have hgb : t.v.ownBlock ≠ some t.g := fun e => by
      obtain ⟨cs, hc⟩ := own_blk hA.row e
      exact hA.blk.ne hc (by decide) rfl
    have b2 : Blk w2 t.g 67 t.cells := hA.blk.grown hg hgb
    have b3 := b2.set 2 v'
    have b4 := b3.set 3 (.int .u32 (page : Int))
    have hgb' : v'.ownBlock ≠ some t.g := fun e => by
      rcases hv' with e1 | e1
      · exact hgb (e1 ▸ e)
      · rw [e1] at e
        have e2 := Option.some.inj e
        have e3 := hA.blk.lt
        omega
    have k2 : Kept (fpU t) w w2 := (Kept.refl _ _).grown hg fun k e => .inl (mem_fpU.2 (.inr e))
    have k4 : Kept (fpU t) w ((w2.setCell ⟨t.g, 2, none⟩ v').setCell ⟨t.g, 3, none⟩ (.int .u32 (page : Int))) := (k2.setCell _ _ (.inl (mem_fpU.2 (.inl rfl)))).setCell _ _ (.inl (mem_fpU.2 (.inl rfl)))
    have kk : Kept [t.g] w2 ((w2.setCell ⟨t.g, 2, none⟩ v').setCell ⟨t.g, 3, none⟩ (.int .u32 (page : Int))) := ((Kept.refl _ _).setCell _ _ (.inl (by simp))).setCell _ _ (.inl (by simp))
    have hvn2 : ∀ k, v'.ownBlock = some k → t.v.ownBlock = some k ∨ w.heap.size ≤ k := fun k e => by
      rcases hv' with e1 | e1
      · exact .inl (e1 ▸ e)
      · rw [e1] at e
        exact .inr (Nat.le_of_eq (Option.some.inj e))
    refine ⟨_, rfl, b2.cell 2, b3.cell 3, b2.frozen 2, b3.frozen 3, ⟨t.g, v', t.u.put xs⟩, rfl, rfl, ?_, k4, hvn2⟩
    refine h.turned ht rfl rfl ⟨?_, hA.glo, ho.kept kk (fun k e hk => ?_), hA.n32, hA.o64, ?_, ?_⟩ k4 hvn2
    · have e : UpL.cells ⟨t.g, v', t.u.put xs⟩ = (t.cells.set 2 v').set 3 (.int .u32 (page : Int)) := by
        rw [he]
        rfl
      rw [e]
      exact b4
    · rw [List.mem_singleton] at hk
      exact hgb' (hk ▸ e)
    · show t.u.page + 1 < 4294967296
      omega
    · show (t.u.b ++ xs).length ≤ 4096
      rw [List.length_append, hb.len]
      exact hl0)
  clear h ht hp he hA hvn hz hb hl0 hv hlo
  go_enter Try.func13, Try.ntmps13
  go_wp2_with (fail)
  refine OC.out.mono ?_
  rintro e w2 ⟨rfl, rfl⟩
  go_wp2_with (first | (at_builtin; refine app_bytes _ rfl (.tmp 40) (.tmp 41) 31 5 rfl Try.underlying31 byte_info lo _ t.u.b (by rfl) HR.out ba bn bc xs (by rfl) HB.out (by have := HL0.out; omega) HLO.out ?_) | fail)
  intro v' w2 ho hg hv'
  obtain ⟨a', n', c', rfl, -⟩ := ho.parts
  obtain ⟨w4, hw4, d2, d3, f2, f3, T⟩ := TURN.out w2 _ ho (by rw [HV.out]; exact hg) (by rw [HV.out]; exact hv')
  rw [HV.out] at d2
  have T := Lib.hid T
  clear ho hg hv'
  go_wp2
  go_ret
  exact ⟨rfl, T.out⟩
end Go.Proofs.Ytdlpifcfgfhagaa
