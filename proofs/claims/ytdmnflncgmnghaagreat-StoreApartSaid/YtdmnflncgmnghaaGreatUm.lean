/-
  The program's store: Create, by a walk over its text.
-/
import Derived.Test.YtdmnflncgmnghaaGreatUs
namespace Go.Proofs.YtdmnflncgmnghaaGreat
open Go.RowKit Go.Maps

theorem HeldIs.new {w : World} {lo gh N : Nat} (h : MapE w Tryz.prog 27 gh []) (hl : lo ≤ gh) : HeldIs w lo gh N [] [] :=
  ⟨h, by simp, by simp, List.Pairwise.nil, by simp, by simp, by simp, hl, by simp⟩
/-- A store with one collection more. -/
theorem StoreIs.add {w w1 w2 : World} {lo N g gc gp ver last c gn gh : Nat} {Fp : List Nat} {cf : ConfL} {Cs : List SColl} {Ps : List SPin} (h : StoreIs w lo N g gc gp Cs Ps ver last) (hlo : lo ≤ w.heap.size) (hb : Below w.heap.size w w1)
    (hc : Blk w1 c 105 (cf.cells ++ [.pointer (some ⟨gn, 0, none⟩), .map (some gh)])) (hp : PastIs w1 lo gn Fp PastV.new) (hh : MapE w1 Tryz.prog 27 gh []) (hc0 : w.heap.size ≤ c) (hg0 : w.heap.size ≤ gh) (hF0 : ∀ x ∈ Fp, w.heap.size ≤ x) (hcF : c ∉ Fp) (hgF : gh ∉ Fp)
    (hM : MapE w2 Tryz.prog 9 gc (putE (collE Cs) (keyT cf.name) (.pointer (some ⟨c, 0, none⟩)))) (hk : Kept [gc] w1 w2) (hn : ∀ p ∈ collE Cs, p.1 ≠ keyT cf.name) (hl : Cs.length < 8) (hd : cf.dim ≤ 255) :
    StoreIs w2 lo N g gc gp (⟨c, collFp c gh Fp [], cf, PastV.new, []⟩ :: Cs) Ps ver last ∧ Kept (storeFp g gc gp Cs) w w2 ∧ Grows w (storeFp g gc gp Cs) (storeFp g gc gp (⟨c, collFp c gh Fp [], cf, PastV.new, []⟩ :: Cs)) := by
  have hs := hb.size
  have hgc := h.colls.lt
  have hgp := h.pins.lt
  have hg := h.blk.lt
  have h1 := h.on hb
  have hne := h.ggc
  have hmem : ∀ x ∈ collFp c gh Fp [], w.heap.size ≤ x := fun x hx => by
    rcases mem_collFp.1 hx with rfl | hx | hx
    · exact hc0
    · rcases mem_heldFp.1 hx with rfl | ⟨v, hv⟩
      · exact hg0
      · cases hv
    · exact hF0 x hx
  have hcgh : gh ≠ c := hh.ne_blk hc
  have hC : CollAt w1 lo N c (collFp c gh Fp []) cf PastV.new [] := ⟨gn, gh, Fp, [], ⟨hc, hp, HeldIs.new hh (Nat.le_trans hlo hg0), Nat.le_trans hlo hc0, hcF, fun x hx hF => by
    rcases mem_heldFp.1 hx with rfl | ⟨v, hv⟩
    · exact hgF hF
    · cases hv⟩, rfl⟩
  have hgcF : ∀ {F : List Nat}, (∀ x ∈ F, w.heap.size ≤ x) → gc ∉ F := fun hF hx => by
    have := hF gc hx
    omega
  have hnot : ∀ p ∈ Ps, p.c ≠ c := fun q hq e => by
    obtain ⟨s, hs', e2⟩ := h.home q hq
    obtain ⟨gp', gh', Fp', H', h3, _⟩ := h.each s hs'
    have := h3.blk.lt
    omega
  refine ⟨{ h1 with
    blk := hk.blk h1.blk (by simpa using hne.1.symm)
    colls := ?_, pins := h1.pins.kept hk (by simpa using h.gcp.symm)
    each := ?_, apart := ?_, out := ?_, hcs := by simp; omega, held := ?_, home := ?_, dim := ?_ }, ?_, ?_⟩
  · have e : putE (collE Cs) (keyT cf.name) (.pointer (some ⟨c, 0, none⟩)) = collE Cs ++ [(keyT cf.name, .pointer (some ⟨c, 0, none⟩))] := by
      unfold putE
      rw [dropE_none hn]
    rw [e] at hM
    exact hM.perm (List.perm_append_singleton _ _)
  · intro t ht
    rcases List.mem_cons.1 ht with rfl | ht
    · exact hC.kept hk (fun x hx hF => hgcF hmem (by rw [← List.mem_singleton.1 hx]; exact hF))
    · exact (h1.each t ht).kept hk (fun x hx hF => (h.out t ht).2.1 (by rw [← List.mem_singleton.1 hx]; exact hF))
  · refine List.pairwise_cons.2 ⟨fun t ht x hx hF => ?_, h.apart⟩
    have h3 := hmem x hx
    have h4 := ((h.each t ht).lt x hF).2
    omega
  · intro t ht
    rcases List.mem_cons.1 ht with rfl | ht
    · refine ⟨fun hx => ?_, fun hx => ?_, fun hx => ?_⟩
      · have := hmem _ hx
        omega
      · have := hmem _ hx
        omega
      · have := hmem _ hx
        omega
    · exact h.out t ht
  · intro t ht
    rcases List.mem_cons.1 ht with rfl | ht
    · show [].Perm _
      rw [List.filter_eq_nil_iff.2 (fun q hq => by simpa using hnot q hq)]
      exact List.Perm.nil
    · exact h.held t ht
  · intro q hq
    obtain ⟨t, ht, e⟩ := h.home q hq
    exact ⟨t, List.mem_cons_of_mem _ ht, e⟩
  · intro t ht
    rcases List.mem_cons.1 ht with rfl | ht
    · exact hd
    · exact h.dim t ht
  · exact (Kept.of_below (F := storeFp g gc gp Cs) hb (Nat.le_refl _)).trans (hk.mono (fun x hx => mem_storeFp.2 (.inr (.inl (by simpa using hx))))) (Grows.refl _ _)
  · intro x hx
    rcases mem_storeFp.1 hx with e | e | e | ⟨t, ht, hF⟩
    · exact .inl (mem_storeFp.2 (.inl e))
    · exact .inl (mem_storeFp.2 (.inr (.inl e)))
    · exact .inl (mem_storeFp.2 (.inr (.inr (.inl e))))
    · rcases List.mem_cons.1 ht with rfl | ht
      · exact .inr (hmem x hF)
      · exact .inl (mem_storeFp.2 (.inr (.inr (.inr ⟨t, ht, hF⟩))))
/-- A lookup in the midst of a drawn region: the name isn't there. -/
theorem run_none {w : World} {gc : Nat} {E : List (Lit × Value)} {nm : ByteArray} (h : MapE w Tryz.prog 9 gc E) (hsz : nm.size ≤ maxLen) (hn : ∀ p ∈ E, p.1 ≠ keyT nm) : (Instr.lookup 77 (.map (some gc)) (.string nm) false).run Tryz.prog w = .ok (.pointer none) w := by
  obtain ⟨⟨es, h1, h2⟩, h3, h4⟩ := h
  obtain ⟨v', ps, hrun, hv'⟩ := h1.lookup (Maps.string_keyed Tryz.underlying9) Tryz.underlying77 (Tryz.zeroValue101 w) (show rawElem (.pointer none) = some (.held (.pointer none), []) from rfl) (keyOf_str nm hsz)
  rw [atKey_of_not_has (held_hasnt h2 hn)] at hv'
  cases hv'
  exact hrun
/-- 'm[k] = v' in the midst of a drawn region. -/
theorem put_run {w : World} {gc : Nat} {E : List (Lit × Value)} {nm : ByteArray} (h : MapE w Tryz.prog 9 gc E) (hsz : nm.size ≤ maxLen) (hl : E.length ≤ 1000000) (v : Value) : ∃ w', (Instr.mapUpdate 77 (.map (some gc)) (.string nm) v).run Tryz.prog w = .ok () w' ∧ MapE w' Tryz.prog 9 gc (putE E (keyT nm) v) ∧ Kept [gc] w w' := by
  have h0 := h
  obtain ⟨⟨es, h1, h2⟩, h3, h4⟩ := h
  obtain ⟨w', hrun, r1, r2⟩ := h1.update (Maps.string_keyed Tryz.underlying9) Tryz.underlying77 (by unfold maxLen; omega) (keyOf_str nm hsz) (show rawElem v = some (.held v, []) from rfl)
  exact ⟨w', hrun, h0.put (keyT_lit nm) r1 h2, kept_grown r2⟩
/-- The new collection's parts: the past made first. -/
theorem create_A {w3 wN w9 : World} {FN : List Nat} {gc : Nat} {E : List (Lit × Value)} {kl : Lit} {v : Value} {cs : List Value} (hbW : Below w3.heap.size w3 wN) (hN : PastIs wN w3.drew.heap.size w3.drew.heap.size FN PastV.new)
    (hM : MapE w9 Tryz.prog 9 gc (putE E kl v)) (hk : Kept [gc] ((wN.alloc (.map #[] 0)).alloc (.cells cs.toArray 105)) w9) :
    ∃ w1 F c gh, Below w3.heap.size w3 w1 ∧ Blk w1 c 105 cs ∧ PastIs w1 w3.heap.size w3.heap.size F PastV.new ∧ MapE w1 Tryz.prog 27 gh [] ∧ w3.heap.size ≤ c ∧ w3.heap.size ≤ gh ∧ (∀ x ∈ F, w3.heap.size ≤ x) ∧ c ∉ F ∧ gh ∉ F ∧ MapE w9 Tryz.prog 9 gc (putE E kl v) ∧ Kept [gc] w1 w9 ∧ c = wN.heap.size + 1 ∧ gh = wN.heap.size := by
  have hs := hbW.size
  have hN : PastIs wN w3.heap.size w3.heap.size FN PastV.new := hN
  have hlt := hN.lt
  have hb1 : Below wN.heap.size wN (wN.alloc (.map #[] 0)) := (Below.refl _ _).alloc (Nat.le_refl _) _
  have hb2 : Below (wN.alloc (.map #[] 0)).heap.size (wN.alloc (.map #[] 0)) ((wN.alloc (.map #[] 0)).alloc (.cells cs.toArray 105)) := (Below.refl _ _).alloc (Nat.le_refl _) _
  refine ⟨_, FN, wN.heap.size + 1, wN.heap.size, below_on hbW (below_on hb1 hb2), ?_, (hN.on hb1).on hb2, (MapE.made wN _ _).on hb2, by omega, by omega, fun x hx => (hlt x hx).1, fun hx => ?_, fun hx => ?_, hM, hk, rfl, rfl⟩
  · have := Blk.new (wN.alloc (.map #[] 0)) 105 cs.toArray
    simpa using this
  · have := (hlt _ hx).2
    omega
  · have := (hlt _ hx).2
    omega
/-- The map made first. -/
theorem create_B {w3 wN w9 : World} {FN : List Nat} {gc : Nat} {E : List (Lit × Value)} {kl : Lit} {v : Value} {cs : List Value} (hbN : Below (w3.alloc (.map #[] 0)).drew.heap.size (w3.alloc (.map #[] 0)).drew wN) (hN : PastIs wN (w3.alloc (.map #[] 0)).drew.heap.size (w3.alloc (.map #[] 0)).drew.heap.size FN PastV.new)
    (hM : MapE w9 Tryz.prog 9 gc (putE E kl v)) (hk : Kept [gc] (wN.alloc (.cells cs.toArray 105)) w9) :
    ∃ w1 F c gh, Below w3.heap.size w3 w1 ∧ Blk w1 c 105 cs ∧ PastIs w1 w3.heap.size (w3.heap.size + 1) F PastV.new ∧ MapE w1 Tryz.prog 27 gh [] ∧ w3.heap.size ≤ c ∧ w3.heap.size ≤ gh ∧ (∀ x ∈ F, w3.heap.size ≤ x) ∧ c ∉ F ∧ gh ∉ F ∧ MapE w9 Tryz.prog 9 gc (putE E kl v) ∧ Kept [gc] w1 w9 ∧ c = wN.heap.size ∧ gh = w3.heap.size := by
  have hs1 : (w3.alloc (.map #[] 0)).drew.heap.size = w3.heap.size + 1 := by simp
  rw [hs1] at hN
  have hs := hbN.size
  rw [hs1] at hs
  have hlt := hN.lt
  have hb0 : Below w3.heap.size w3 (w3.alloc (.map #[] 0)).drew := ((Below.refl w3.heap.size w3).alloc (Nat.le_refl _) _).drew
  have hb2 : Below wN.heap.size wN (wN.alloc (.cells cs.toArray 105)) := (Below.refl _ _).alloc (Nat.le_refl _) _
  refine ⟨_, FN, wN.heap.size, w3.heap.size, below_on (below_on hb0 hbN) hb2, Blk.new _ _ _, (hN.on hb2).mono (by omega), (((MapE.made w3 _ _).drew).on hbN).on hb2, by omega, Nat.le_refl _, fun x hx => ?_, fun hx => ?_, fun hx => ?_, hM, hk, rfl, rfl⟩
  · have := (hlt _ hx).1
    omega
  · have := (hlt _ hx).2
    omega
  · have := (hlt _ hx).1
    omega
set_option maxRecDepth 100000 in
set_option maxHeartbeats 6400000 in
theorem create_store (w : World) (lo N g gc gp ver last : Nat) (Cs : List SColl) (Ps : List SPin) (cf : ConfL) (hw : cf.Wf) (hok : cf.ok = true) (hn : ∀ p ∈ collE Cs, p.1 ≠ keyT cf.name) (hl : Cs.length < 8) (hlo : lo ≤ w.heap.size) (h : StoreIs w lo N g gc gp Cs Ps ver last) :
    Calls Tryz.prog 21 #[.pointer (some ⟨g, 0, none⟩), .agg cf.cells.toArray] w fun e w' => e = .returned (.int .i64 0) ∧ ∃ c F, StoreIs w' lo N g gc gp (⟨c, F, cf, PastV.new, []⟩ :: Cs) Ps ver last ∧ Kept (storeFp g gc gp Cs) w w' ∧ Grows w (storeFp g gc gp Cs) (storeFp g gc gp (⟨c, F, cf, PastV.new, []⟩ :: Cs)) := by
  have HCF := Lib.hid (show ∀ w, Calls Tryz.prog 44 #[.agg cf.cells.toArray] w fun e w' => e = .returned (.bool true) ∧ Below w.heap.size w w' from fun w => by
    have := mayBe_any w cf hw
    rw [hok] at this
    exact this)
  have hd : cf.dim ≤ 255 := hw.dim
  have hsz : cf.name.size ≤ maxLen := Nat.le_trans hw.size (by decide)
  have HADD := Lib.hid (fun w1 w2 c gn gh Fp => StoreIs.add (w := w) (w1 := w1) (w2 := w2) (c := c) (gn := gn) (gh := gh) (Fp := Fp) (cf := cf) (Cs := Cs) (Ps := Ps) h hlo)
  have HN := Lib.hid hn
  have HL := Lib.hid (show (collE Cs).length ≤ 1000000 from by unfold collE; rw [List.length_map]; omega)
  have HC := Lib.hid h
  obtain ⟨m, hm⟩ : ∃ m, Cs.length = m := ⟨_, rfl⟩
  have HLm := Lib.hid (show (collE Cs).length = m from by unfold collE; rw [List.length_map, hm])
  have hm8 : decide ((m : Int) ≥ 8) = false := decide_eq_false (by omega)
  have hm8' : decide ((8 : Int) ≤ (m : Int)) = false := decide_eq_false (by omega)
  obtain ⟨E, hE⟩ : ∃ E, collE Cs = E := ⟨_, rfl⟩
  rw [hE] at HLm HL HN
  have HE := Lib.hid hE
  obtain ⟨nm, d, mt, gr, l, wd⟩ := cf
  have hsz : nm.size ≤ maxLen := hsz
  have HCFF := Lib.hid (show ∀ w, Calls Tryz.prog 44 #[.agg #[.string nm, .int .u8 (d : Int), .int .u8 (mt : Int), .bool gr, .int .u8 (l : Int), .int .u16 (wd : Int)]] w fun e w' => e = .returned (.bool true) ∧ Below w.heap.size w w' from HCF.out)
  obtain ⟨w1, hw1⟩ : ∃ w1, w.alloc (.cells #[.string nm, .int .u8 (d : Int), .int .u8 (mt : Int), .bool gr, .int .u8 (l : Int), .int .u16 (wd : Int)] 36) = w1 := ⟨_, rfl⟩
  have B1 := Lib.hid (show Below w.heap.size w w1 from by rw [← hw1]; exact (Below.refl _ _).alloc (Nat.le_refl _) _)
  have X1 := Lib.hid (show Blk w1 w.heap.size 36 [.string nm, .int .u8 (d : Int), .int .u8 (mt : Int), .bool gr, .int .u8 (l : Int), .int .u16 (wd : Int)] from by rw [← hw1]; exact Blk.new _ _ _)
  have c0 : w1.cell? ⟨w.heap.size, 0, none⟩ = some (.string nm) := X1.out.cell 0
  have c1 : w1.cell? ⟨w.heap.size, 1, none⟩ = some (.int .u8 (d : Int)) := X1.out.cell 1
  have c2 : w1.cell? ⟨w.heap.size, 2, none⟩ = some (.int .u8 (mt : Int)) := X1.out.cell 2
  have c3 : w1.cell? ⟨w.heap.size, 3, none⟩ = some (.bool gr) := X1.out.cell 3
  have c4 : w1.cell? ⟨w.heap.size, 4, none⟩ = some (.int .u8 (l : Int)) := X1.out.cell 4
  have c5 : w1.cell? ⟨w.heap.size, 5, none⟩ = some (.int .u16 (wd : Int)) := X1.out.cell 5
  have HLO := Lib.hid hlo
  have hm88 : Cs.length < 8 := hl
  clear h hn hl hok hw HCF hE hm hlo
  show Calls _ _ #[_, .agg #[.string nm, .int .u8 (d : Int), .int .u8 (mt : Int), .bool gr, .int .u8 (l : Int), .int .u16 (wd : Int)]] _ _
  have hmm := @run_makeMap Tryz.prog
  go_enter Tryz.func21, Tryz.ntmps21
  go_wp2_with (fail)
  refine (HCFF.out _).mono ?_
  rintro e w2 ⟨rfl, hb2⟩
  have B2 := Lib.hid (below_on B1.out hb2)
  have X2 := Lib.hid ((Kept.of_below (F := []) hb2 (Nat.le_refl _)).blk X1.out (by simp))
  clear hb2 c0 c1 c2 c3 c4 c5 hw1
  have S2 := Lib.hid (HC.out.on B2.out)
  have k0 : w2.cell? ⟨w.heap.size, 0, none⟩ = some (.string nm) := X2.out.cell 0
  have k1 : w2.cell? ⟨w.heap.size, 1, none⟩ = some (.int .u8 (d : Int)) := X2.out.cell 1
  have k2 : w2.cell? ⟨w.heap.size, 2, none⟩ = some (.int .u8 (mt : Int)) := X2.out.cell 2
  have k3 : w2.cell? ⟨w.heap.size, 3, none⟩ = some (.bool gr) := X2.out.cell 3
  have k4 : w2.cell? ⟨w.heap.size, 4, none⟩ = some (.int .u8 (l : Int)) := X2.out.cell 4
  have k5 : w2.cell? ⟨w.heap.size, 5, none⟩ = some (.int .u16 (wd : Int)) := X2.out.cell 5
  have kg : w2.cell? ⟨g, 1, none⟩ = some (.map (some gc)) := S2.out.blk.cell 1
  have M2 := Lib.hid (show MapE w2 Tryz.prog 9 gc E from HE.out ▸ S2.out.colls)
  have HR := Lib.hid (fun m => run_none (M2.out.far (w' := w2.drewN m) rfl) hsz HN.out)
  have HRR := fun m => (HR.out m)
  go_wp2_with (fail)
  go_quiet (fail)
  have S3 := Lib.hid (S2.out.on (below_draws (Below.refl w2.heap.size w2) nq))
  have B3 := Lib.hid (below_draws B2.out nq)
  have X3 := Lib.hid (show Blk (w2.drewN nq) w.heap.size 36 [.string nm, .int .u8 (d : Int), .int .u8 (mt : Int), .bool gr, .int .u8 (l : Int), .int .u16 (wd : Int)] from X2.out)
  clear S2 B2 X2 M2 HR HRR k0 k1 k2 k3 k4 k5 kg
  generalize w2.drewN nq = w3 at S3 B3 X3 ⊢
  have k0 : w3.cell? ⟨w.heap.size, 0, none⟩ = some (.string nm) := X3.out.cell 0
  have k1 : w3.cell? ⟨w.heap.size, 1, none⟩ = some (.int .u8 (d : Int)) := X3.out.cell 1
  have k2 : w3.cell? ⟨w.heap.size, 2, none⟩ = some (.int .u8 (mt : Int)) := X3.out.cell 2
  have k3 : w3.cell? ⟨w.heap.size, 3, none⟩ = some (.bool gr) := X3.out.cell 3
  have k4 : w3.cell? ⟨w.heap.size, 4, none⟩ = some (.int .u8 (l : Int)) := X3.out.cell 4
  have k5 : w3.cell? ⟨w.heap.size, 5, none⟩ = some (.int .u16 (wd : Int)) := X3.out.cell 5
  have kg : w3.cell? ⟨g, 1, none⟩ = some (.map (some gc)) := S3.out.blk.cell 1
  have M3 := Lib.hid (show MapE w3 Tryz.prog 9 gc E from HE.out ▸ S3.out.colls)
  have HLO3 := Lib.hid (Nat.le_trans HLO.out B3.out.size)
  have hxl := X3.out.lt
  have hgl := S3.out.blk.lt
  go_wp2_with (first | (at_len; refine colls_len _ rfl _ rfl gc _ m HLm.out rfl M3.out ?_) | fail)
  go_region_law (first
    | (rw [if_pos (by rfl)]; go_simp; go_at_call 45; refine (new_is w3.drew).mono ?_; rintro e wN ⟨FN, rfl, hbN, hN⟩; have hbW : Below w3.heap.size w3 wN := (Below.refl w3.heap.size w3).drew.trans hbN; have XN := (Kept.of_below (F := []) hbW (Nat.le_refl _)).blk X3.out (by simp); have n0 : wN.cell? ⟨w.heap.size, 0, none⟩ = some (.string nm) := XN.cell 0; have n1 : wN.cell? ⟨w.heap.size, 1, none⟩ = some (.int .u8 (d : Int)) := XN.cell 1; have n2 : wN.cell? ⟨w.heap.size, 2, none⟩ = some (.int .u8 (mt : Int)) := XN.cell 2; have n3 : wN.cell? ⟨w.heap.size, 3, none⟩ = some (.bool gr) := XN.cell 3; have n4 : wN.cell? ⟨w.heap.size, 4, none⟩ = some (.int .u8 (l : Int)) := XN.cell 4; have n5 : wN.cell? ⟨w.heap.size, 5, none⟩ = some (.int .u16 (wd : Int)) := XN.cell 5; have ng : wN.cell? ⟨g, 1, none⟩ = some (.map (some gc)) := (S3.out.on hbW).blk.cell 1; have nl := XN.lt; have ngl := (S3.out.on hbW).blk.lt; clear XN; have hbX := (hbW.alloc hbW.size (.map #[] 0)).alloc (Nat.le_trans hbW.size (by simp)) (.cells #[.string nm, .int .u8 (d : Int), .int .u8 (mt : Int), .bool gr, .int .u8 (l : Int), .int .u16 (wd : Int), .pointer (some ⟨w3.heap.size, 0, none⟩), .map (some (wN.heap.size))] 105); obtain ⟨w9, hr9, hM9, hk9⟩ := put_run (M3.out.on hbX) hsz HL.out (.pointer (some ⟨wN.heap.size + 1, 0, none⟩)); have R := Lib.hid (create_A hbW hN hM9 hk9); clear hbW hbX hbN hN hM9 hk9)
    | (rw [if_pos (by rfl)]; go_simp; go_at_call 45; refine (new_is (w3.alloc (.map #[] 0)).drew).mono ?_; rintro e wN ⟨FN, rfl, hbN, hN⟩; have hbV := ((Below.refl w3.heap.size w3).alloc (Nat.le_refl _) (.map #[] 0)).drew; have hbW : Below w3.heap.size w3 wN := hbV.trans (hbN.mono (by simp)); have XN := (Kept.of_below (F := []) hbW (Nat.le_refl _)).blk X3.out (by simp); have n0 : wN.cell? ⟨w.heap.size, 0, none⟩ = some (.string nm) := XN.cell 0; have n1 : wN.cell? ⟨w.heap.size, 1, none⟩ = some (.int .u8 (d : Int)) := XN.cell 1; have n2 : wN.cell? ⟨w.heap.size, 2, none⟩ = some (.int .u8 (mt : Int)) := XN.cell 2; have n3 : wN.cell? ⟨w.heap.size, 3, none⟩ = some (.bool gr) := XN.cell 3; have n4 : wN.cell? ⟨w.heap.size, 4, none⟩ = some (.int .u8 (l : Int)) := XN.cell 4; have n5 : wN.cell? ⟨w.heap.size, 5, none⟩ = some (.int .u16 (wd : Int)) := XN.cell 5; have ng : wN.cell? ⟨g, 1, none⟩ = some (.map (some gc)) := (S3.out.on hbW).blk.cell 1; have nl := XN.lt; have ngl := (S3.out.on hbW).blk.lt; clear XN; have hbX := hbW.alloc hbW.size (.cells #[.string nm, .int .u8 (d : Int), .int .u8 (mt : Int), .bool gr, .int .u8 (l : Int), .int .u16 (wd : Int), .pointer (some ⟨w3.heap.size + 1, 0, none⟩), .map (some (w3.heap.size))] 105); obtain ⟨w9, hr9, hM9, hk9⟩ := put_run (M3.out.on hbX) hsz HL.out (.pointer (some ⟨wN.heap.size, 0, none⟩)); have R := Lib.hid (create_B hbN hN hM9 hk9); clear hbW hbX hbN hbV hN hM9 hk9))
  all_goals
    obtain ⟨wX, F, c, gh, r1, r2, r3, r4, r5, r6, r7, r8, r9, r10, r11, rfl, rfl⟩ := R.out
    have hs3 := B3.out.size
    have Z := Lib.hid (HADD.out wX w9 _ _ _ F (below_on B3.out r1) r2 (r3.mono HLO3.out) r4 (Nat.le_trans hs3 r5) (Nat.le_trans hs3 r6) (fun x hx => Nat.le_trans hs3 (r7 x hx)) r8 r9 (by rw [HE.out]; exact r10) r11 (by rw [HE.out]; exact HN.out) (by omega) hd)
    clear r1 r2 r3 r4 r5 r6 r7 r8 r9 r10 r11 R
    go_wp2
    go_ret
    exact ⟨rfl, _, _, Z.out⟩
end Go.Proofs.YtdmnflncgmnghaaGreat
