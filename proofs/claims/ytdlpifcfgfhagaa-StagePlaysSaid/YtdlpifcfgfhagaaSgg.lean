/-
  The program's table of uploads: Leave, Bytes, by walks over their texts.
-/
import Derived.Test.YtdlpifcfgfhagaaSgf
namespace Go.Proofs.Ytdlpifcfgfhagaa
open Go.RowKit Go.ChangeShapes Go.WideShapes Go.ChangeAt Go.Maps

theorem TPost.before {lo x : Nat} {F : List Nat} {s : TabV} {w w1 w2 : World} (hb : Below w.heap.size w w1) (h : TPost lo x F s w1 w2) : TPost lo x F s w w2 := by
  obtain ⟨F', h1, h2, h3⟩ := h
  exact ⟨F', h1, (Kept.of_below (F := F) hb (Nat.le_refl _)).trans h2 (Grows.refl _ _), fun b hb' => (h3 b hb').imp id fun h => Nat.le_trans hb.size h⟩
/-- Whose entry it is. -/
def ofP (L : List UpL) (owner : Nat) (kl : Lit) (_ : Value) : Bool := L.any fun t => (keyS t.u.n).sameKey kl && decide (t.u.owner = owner)
theorem ofP_is {L : List UpL} (hu : ∀ a ∈ L, ∀ b ∈ L, a.u.n = b.u.n → a = b) {owner : Nat} {t : UpL} (ht : t ∈ L) (v : Value) : ofP L owner (keyS t.u.n) v = decide (t.u.owner = owner) := by
  unfold ofP
  by_cases h : t.u.owner = owner
  · rw [decide_eq_true h, List.any_eq_true]
    exact ⟨t, ht, by rw [WideAt.sameKey_self (keyS_lit _), decide_eq_true h]; rfl⟩
  · rw [decide_eq_false h, List.any_eq_false]
    intro a ha e
    rw [Bool.and_eq_true] at e
    have h1 := hu a ha t ht (keyS_inj _ _ (WideAt.sameKey_eq e.1))
    subst h1
    exact h (of_decide_eq_true e.2)
theorem ofP_filter {L : List UpL} (hu : ∀ a ∈ L, ∀ b ∈ L, a.u.n = b.u.n → a = b) (owner : Nat) : (upE L).filter (fun p => !ofP L owner p.1 p.2) = upE (L.filter fun t => decide (t.u.owner ≠ owner)) := by
  unfold upE
  rw [List.filter_map]
  congr 1
  refine List.filter_congr fun t ht => ?_
  show (!ofP L owner (keyS t.u.n) _) = _
  rw [ofP_is hu ht]
  simp

set_option maxRecDepth 100000 in
set_option maxHeartbeats 1600000 in
theorem sleave_any (w : World) (lo x : Nat) (F : List Nat) (s : TabV) (h : TabIs w lo x F s) (owner : Nat) :
    Calls Try.prog 20 #[.pointer (some ⟨x, 0, none⟩), .int .u64 (owner : Int)] w fun e w' => e = .returned (.int .i64 ((s.ups.length - (s.leave owner).ups.length : Nat) : Int)) ∧ TPost lo x F (s.leave owner) w w' := by
  obtain ⟨w1, hw1⟩ : ∃ w1, w.alloc (.cells #[.int .u64 (owner : Int)] 34) = w1 := ⟨_, rfl⟩
  have b1 : Below w.heap.size w w1 := by rw [← hw1]; exact (Below.refl _ _).alloc (Nat.le_refl _) _
  have O1 : Blk w1 w.heap.size 34 [.int .u64 (owner : Int)] := by rw [← hw1]; exact Blk.new _ _ _
  obtain ⟨m, L, h1, h2, rfl⟩ := h.on b1
  have hu := h1.uniq
  obtain ⟨n, hn⟩ : ∃ n, s.ups.length = n := ⟨_, rfl⟩
  obtain ⟨k, hk⟩ : ∃ k, (s.leave owner).ups.length = k := ⟨_, rfl⟩
  obtain ⟨d, hd⟩ : ∃ d, n - k = d := ⟨_, rfl⟩
  have hkn : k ≤ n := by rw [← hk, ← hn]; exact List.length_filter_le _ _
  have hn4 : n ≤ 4 := by rw [← hn, h2, List.length_map]; exact h1.few
  have hsub : IntKind.i64.wrap ((n : Int) - (k : Int)) = (d : Int) := by rw [IntKind.wrap_i64]; omega
  have HL := Lib.hid (show (upE L).length = n from by rw [← hn, h2, upE_len, List.length_map])
  have c0 : w1.cell? ⟨x, 0, none⟩ = some (.map (some m)) := h1.blk.cell 0
  have HM := Lib.hid h1.map
  have AFT := Lib.hid (fun (w2 : World) (hM : MapE w2 Try.prog 28 m ((upE L).filter fun p => !ofP L owner p.1 p.2)) (hg : w1.grownBy w2 (some m)) =>
    show TPost lo x (fpT x m L) (s.leave owner) w w2 ∧ w2.cell? ⟨x, 0, none⟩ = some (.map (some m)) ∧ MapE w2 Try.prog 28 m (upE (L.filter fun t => decide (t.u.owner ≠ owner))) ∧ (upE (L.filter fun t => decide (t.u.owner ≠ owner))).length = k from by
    rw [ofP_filter hu] at hM
    refine ⟨TPost.before b1 (h1.gone h2 (fun _ _ => rfl) hM (kept_grown hg)), ((kept_grown hg).blk h1.blk (fun e => h1.xm (List.mem_singleton.1 e).symm)).cell 0, hM, ?_⟩
    rw [← hk, upE_len]
    unfold TabV.leave
    simp only
    rw [h2, List.filter_map, List.length_map]
    rfl)
  have DEL := Lib.hid (delfunc_up (ofP L owner) 34 (enters_of Try.func34 (by kernel_rfl) rfl) w.heap.size m (upE L) w1 h1.map (fun W key v kl hg hm => by
    obtain ⟨t, ht, e⟩ := List.mem_map.1 hm
    simp only [Prod.mk.injEq] at e
    obtain ⟨rfl, rfl⟩ := e
    rw [ofP_is hu ht]
    have kk := kept_grown hg
    refine leave1_any W key t.g w.heap.size t.u.owner owner ?_ ?_
    · exact (kk.blk (h1.each t ht).blk (fun e => h1.map.ne_blk (h1.each t ht).blk (List.mem_singleton.1 e).symm)).cell 0
    · exact (kk.blk O1 (fun e => h1.map.ne_blk O1 (List.mem_singleton.1 e).symm)).cell 0))
  have HW1 := Lib.hid hw1
  rw [hn, hk, hd]
  clear h h1 h2 hu hk hkn hn4 b1 O1 hw1 hn hd
  go_enter Try.func20, Try.ntmps20
  go_wp2_with (first | (rw [HW1.out]) | (at_len; refine up_len _ rfl _ rfl m _ _ HL.out rfl HM.out ?_) | fail)
  refine DEL.out.mono ?_
  rintro e w2 ⟨rfl, hM2, hg2⟩
  obtain ⟨T2, d0, M2, L2⟩ := AFT.out w2 hM2 hg2
  have T2 := Lib.hid T2
  have M2 := Lib.hid M2
  have L2 := Lib.hid L2
  clear hM2 hg2
  go_wp2_with (first | (at_len; refine up_len _ rfl _ rfl m _ _ L2.out rfl M2.out ?_) | fail)
  go_ret
  exact ⟨rfl, T2.out⟩

/-- The bytes of those that have come. -/
def sumU (L : List UpL) (left : Lit → Bool) : Nat := (L.map fun t => if left (keyS t.u.n) = true then 0 else t.u.b.length).sum
theorem sumU_same {L : List UpL} {l1 l2 : Lit → Bool} (h : ∀ t ∈ L, l1 (keyS t.u.n) = l2 (keyS t.u.n)) : sumU L l1 = sumU L l2 := by
  unfold sumU
  congr 1
  exact List.map_congr_left fun t ht => by rw [h t ht]
theorem sumU_step : ∀ {L : List UpL} {left : Lit → Bool} {t : UpL}, L.Pairwise (fun a b => a.u.n ≠ b.u.n) → t ∈ L → left (keyS t.u.n) = true → sumU L (fun z => left z && !z.sameKey (keyS t.u.n)) = sumU L left + t.u.b.length
  | [], _, _, _, h, _ => by simp at h
  | a :: L, left, t, hp, ht, hl => by
    obtain ⟨h1, h2⟩ := List.pairwise_cons.1 hp
    have cons : ∀ l : Lit → Bool, sumU (a :: L) l = (if l (keyS a.u.n) = true then 0 else a.u.b.length) + sumU L l := fun l => by simp [sumU]
    rw [cons, cons]
    rcases List.mem_cons.1 ht with e | ht
    · subst e
      have e1 : sumU L (fun z => left z && !z.sameKey (keyS t.u.n)) = sumU L left := sumU_same fun s hs => by
        rw [sameKey_ne (fun e => h1 s hs (keyS_inj _ _ e).symm)]
        simp
      rw [e1, hl, WideAt.sameKey_self (keyS_lit _)]
      simp
      omega
    · have e1 := sumU_step h2 ht hl
      rw [e1, sameKey_ne (fun e => h1 t ht (keyS_inj _ _ e))]
      simp only [Bool.not_false, Bool.and_true]
      omega
theorem sumU_none {L : List UpL} {left : Lit → Bool} (h : ∀ t ∈ L, left (keyS t.u.n) = true) : sumU L left = 0 := by
  have e : sumU L left = sumU L fun _ => true := sumU_same h
  rw [e]
  clear e h
  unfold sumU
  induction L with
  | nil => rfl
  | cons a L ih => simpa using ih
theorem sumU_all {L : List UpL} {s : TabV} {left : Lit → Bool} (h : ∀ kl, left kl = false) (h2 : s.ups = L.map (·.u)) : sumU L left = s.bytes := by
  unfold TabV.bytes sumU
  rw [h2, List.map_map]
  congr 1
  exact List.map_congr_left fun t _ => by rw [h]; rfl
theorem sumU_le {L : List UpL} (left : Lit → Bool) (hm : ∀ t ∈ L, t.u.b.length ≤ 4096) (h4 : L.length ≤ 4) : sumU L left ≤ 16384 := by
  have h1 : sumU L left ≤ _ := sum_le (l := L.map fun t => if left (keyS t.u.n) = true then 0 else t.u.b.length) (m := 4096) (by
    intro x hx
    obtain ⟨t, ht, rfl⟩ := List.mem_map.1 hx
    have := hm t ht
    split <;> omega)
  rw [List.length_map] at h1
  have := Nat.mul_le_mul_right 4096 h4
  omega
set_option maxRecDepth 100000 in
set_option maxHeartbeats 3200000 in
theorem sbytes_any (w : World) (lo x : Nat) (F : List Nat) (s : TabV) (h : TabIs w lo x F s) :
    Calls Try.prog 23 #[.pointer (some ⟨x, 0, none⟩)] w fun e w' => e = .returned (.int .i64 (s.bytes : Int)) ∧ Below w.heap.size w w' := by
  obtain ⟨m, L, h1, h2, -⟩ := h
  have c0 : w.cell? ⟨x, 0, none⟩ = some (.map (some m)) := h1.blk.cell 0
  obtain ⟨⟨es, hown, hp⟩, ha, hkl⟩ := h1.map
  have K := Maps.int_keyed (P := Try.prog) Try.underlying28
  obtain ⟨n, hn⟩ : ∃ n, (upE L).length = n := ⟨_, rfl⟩
  rw [hn] at hown
  have hp2 : L.Pairwise fun a b => a.u.n ≠ b.u.n := by
    have := h1.nums
    rw [List.pairwise_map] at this
    exact this
  have ENT : Aside _ := fun (w1 : World) (hg : w.grownBy w1 none) (kl : Lit) (c : Value) (left : Lit → Bool) (hlx : left kl = true) (hk : WideAt.IsKeyLit kl) (hat : ∀ zd, (DataW.map es).atKey kl zd = .held c) =>
    show ∃ (t : UpL) (va : Option Addr) (vn vc : Nat), c = .pointer (some ⟨t.g, 0, none⟩) ∧ w1.cell? ⟨t.g, 2, none⟩ = some (.slice va vn vc) ∧ vn ≤ 4096 ∧ sumU L (fun z => left z && !z.sameKey kl) = sumU L left + vn from by
    have hm : (kl, DataW.held c) ∈ es := by
      by_cases hh : has (DataW.map es) kl = true
      · rw [has_eq, List.any_eq_true] at hh
        obtain ⟨p, hpm, he⟩ := hh
        have e1 := WideAt.sameKey_eq he
        have e2 := (WideAt.atKey_mem .nil hk (perm_apart hp (heldE_apart ha)) (show (kl, p.2) ∈ es from by rw [← e1]; exact hpm)).symm.trans (hat .nil)
        rw [← e2, ← e1]
        exact hpm
      · exfalso
        have hh' : has (DataW.map es) kl = false := by simpa using hh
        have e1 := (atKey_of_not_has (z := (DataW.nil : DataW Value)) hh').symm.trans (hat .nil)
        cases e1
    obtain ⟨q, hq, hqe⟩ := (held_mem hp).1 hm
    obtain ⟨t, ht, rfl⟩ := List.mem_map.1 hq
    simp only [Prod.mk.injEq, DataW.held.injEq] at hqe
    obtain ⟨rfl, rfl⟩ := hqe
    obtain ⟨va, vn, vc, hv, hvn⟩ := (h1.each t ht).row.parts
    refine ⟨t, va, vn, vc, rfl, ?_, by rw [← hvn.out]; exact (h1.each t ht).most, ?_⟩
    · rw [← hv]
      exact (Blk.grown (h1.each t ht).blk hg (by simp)).cell 2
    · rw [sumU_step hp2 ht hlx, hvn.out]
  have LE : Aside _ := fun (left : Lit → Bool) => sumU_le (L := L) left (fun t ht => (h1.each t ht).most) h1.few
  have ALL : Aside _ := fun (left : Lit → Bool) (h : ∀ kl, left kl = false) => sumU_all (L := L) h h2
  have NONE : Aside _ := show sumU L (has (DataW.map es)) = 0 from sumU_none fun t ht => held_has hp (keyS_lit _) (upE_mem ht)
  have BEL : Aside _ := fun (w1 : World) (hg : w.grownBy w1 none) => show Below w.heap.size w w1 from ⟨hg.os, hg.tape, hg.output, hg.size, fun k hk => hg.block k hk (by simp)⟩
  clear h1 h2 hp ha hkl hp2 hn
  obtain ⟨D, hD⟩ : ∃ D, DataW.map es = D := ⟨_, rfl⟩
  rw [hD] at hown ENT NONE
  clear hD
  go_enter Try.func23, Try.ntmps23
  go_wp2_with (first
    | (at_range; refine wpList_range_own _ rfl _ 62 rfl 28 65 K Try.underlying62 rawElem m n _ rfl hown ?_; intro w0 hrg0 hg0 hs0)
    | fail)
  go_frame
  go_loopw [3] (fun s3 wr => ∃ (left : Lit → Bool) (cnt acc : Nat), s3 = .int .i64 (acc : Int) ∧ wr.ranges Try.prog 28 rawElem m w.heap.size n D left cnt ∧ w.grownBy wr none ∧ Hid (acc = sumU L left))
    (fun _ wr => wr.rangeLeft m w.heap.size)
  case atStart => exact ⟨_, _, 0, rfl, hrg0, hg0, NONE.out.symm⟩
  case round =>
    obtain ⟨left, cnt, acc, rfl, hrg, hgw, hacc⟩ := hrel
    go_wp2_with (first
      | (at_next; refine wpList_next_ranges _ rfl _ rfl 28 K rawElem id id (fun key _ _ => ⟨key, rfl⟩) (fun v _ _ => ⟨v, rfl⟩) m w.heap.size n _ _ _ rfl hrg ?_ ?_)
      | fail)
    · intro _ hl0
      have HA := Lib.hid (show acc = s.bytes from hacc.out.trans (ALL.out left hl0))
      clear hl0 hacc
      go_wp2
      go_ret
      exact ⟨by rw [← HA.out]; rfl, BEL.out _ hgw⟩
    · intro x c kl yd yp w1 cnt1 hkey hlx hv hat hrg1 hlt hg1 hs1 hen
      have hv2 : (DataW.held c, []) = (yd, yp) := Option.some.inj hv
      simp only [Prod.mk.injEq] at hv2
      obtain ⟨rfl, rfl⟩ := hv2
      have hgw1 := hgw.andThen hg1 (fun j hj => by cases hj; exact Or.inl (Nat.le_refl _))
      obtain ⟨t, va, vn, vc, rfl, d2, hvn, hstep⟩ := ENT.out w1 hgw1 kl c left hlx (K.key hkey) hat
      have hle := LE.out left
      rw [← hacc.out] at hstep hle
      have hadd : IntKind.i64.wrap ((acc : Int) + (vn : Int)) = ((acc + vn : Nat) : Int) := by rw [IntKind.wrap_i64]; omega
      have HS := Lib.hid hstep
      clear hstep hle hvn hacc
      go_wp2
      go_roundw
      case rel => exact ⟨_, cnt1, acc + vn, rfl, hrg1, hgw1, HS.out.symm⟩
      case measure => rw [hrg1.left_eq, hrg.left_eq]; exact hlt
end Go.Proofs.Ytdlpifcfgfhagaa
