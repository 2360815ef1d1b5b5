/-
  The library's Collect at hits, the program's least, each over whatever iterator that gives its hits to a body that goes on.
-/
import Derived.Test.YteaomjabanhblaaLw
import Derived.Test.YteaomjabanhblaaTr
import Derived.Test.YteaomjabanhblaaSq
import Derived.Maps.OwnIn
namespace Go.Proofs.Yteaomjabanhblaa
open Go.RowKit Go.Shelf

attribute [local go_sem] Oper.semAt_some

/-- A function of the program's that may be gone through. -/
def Enters (gf : Nat) : Prop := ∀ args w, (callFunc gf args).run Try.prog w = .ok (.enter gf args) w
theorem enters_wanted : Enters 34 := enters_of Try.func34 (by kernel_rfl) rfl

theorem putO_kept (W : World) (D : Nat) (o : Obj) : Kept [D] W (W.putObj D o) := put_kept W D o

/-- What AppendSeq's loop keeps: the slice in its box, its row the call's own. -/
def AppI (w : World) (F : List Nat) (pre : List Hit) (W : World) : Prop :=
  ∃ v, F = w.heap.size :: ownB v ∧ Blk W w.heap.size 32 [v] ∧ OwnB W (w.heap.size + 1) v pre ∧ Below w.heap.size w W
theorem appI_abide (w : World) (B : Nat) (hB : w.heap.size ≤ B) : Abide B (AppI w) := by
  rintro F pre W1 W2 G ⟨v, rfl, h1, h2, h3⟩ hk hG
  refine ⟨v, rfl, hk.blk h1 (fun hh => (hG _ hh).1 (by simp)), h2.kept hk (fun k hk' hh => (hG _ hh).1 (List.mem_cons_of_mem _ (mem_ownB.2 hk'))), h3.trans (hk.below (fun x hx => Nat.le_trans hB (hG x hx).2) h3.size)⟩
theorem appI_lt {w : World} {F : List Nat} {pre : List Hit} {W : World} (h : AppI w F pre W) : ∀ x ∈ F, w.heap.size ≤ x ∧ x < W.heap.size := by
  obtain ⟨v, rfl, h1, h2, h3⟩ := h
  intro x hx
  rcases List.mem_cons.1 hx with rfl | hx
  · exact ⟨Nat.le_refl _, h1.lt⟩
  · have := World.ownsRow.lt h2 x (mem_ownB.1 hx)
    exact ⟨by omega, this.2⟩

theorem app_hitIn {F : Fence} {n : Nat} {ops : Array Oper} {rest : List Oper} {o : Oper} {act : Act} {Q : Exit → Act → World → Prop} (w : World) (hg : o.guard = none) (s x : Operand)
    (hop : o.op = .call { callee := .builtin .append, args := #[s, x], argTypes := #[32, 32] }) (B : Nat) (v : Value) (xs : List Hit) (p : Hit) (hs : act.eval s = v)
    (hx : act.eval x = .slice (some ⟨w.heap.size, 0, none⟩) 1 1) (hown : OwnB w B v xs) (hB : B ≤ w.heap.size) (hl : xs.length ≤ 2000000)
    (K : ∀ v' w', OwnB w' B v' (xs ++ [p]) → (w.alloc (.cells #[.int .i64 p.1, .int .u32 p.2] 29)).grownBy w' v.ownBlock → (v'.ownBlock = v.ownBlock ∨ w.heap.size ≤ v'.ownBlock.getD w.heap.size) → wpListIn F n Try.prog ops Q rest (act.put o.dst v') w') :
    wpListIn F n Try.prog ops Q (o :: rest) act (w.alloc (.cells #[.int .i64 p.1, .int .u32 p.2] 29)) := by
  obtain ⟨i0, hi0, hz0, hz1, hz2⟩ := info_parts hit_info
  refine wpListIn_append_own_at _ hg s x 32 hop B 29 i0 _ 2 16 Try.underlying32 hi0 hz0 hz1 hz2 rfl (by omega) v xs.length (flat xs) hs (World.ownsRow.alloc hown _) ⟨w.heap.size, 0, none⟩ 1 1 [.int .i64 p.1, .int .u32 p.2] hx rfl
    (World.news_of_block (cs := #[.int .i64 p.1, .int .u32 p.2]) (t := 29) (fr := (0, 0)) (news_one w _)) (by simp [Value.oneCell']) (by unfold maxLen; omega) (by omega) (by simp; omega) ?_
  intro v' w1 h1 h2 _ h3
  exact K v' w1 (OwnB.snoc h1 rfl) h2 (by
    rcases h3 with h | h
    · exact .inl h
    · rw [h]
      exact .inr (by simp))

set_option maxRecDepth 100000 in
set_option maxHeartbeats 3200000 in
theorem appendSeq_in (d : Nat) (hd : 3 ≤ d) (w w0 : World) (gf : Nat) (lb : Array Value) (xs : List Hit) (hen : Enters gf) (hseq : GivesL Try.prog gf lb hitE xs w0) (hb0 : Below w0.heap.size w0 w) (hn : xs.length ≤ 1000000) :
    CallsIn Fence.wide d Try.prog 33 #[.slice none 0 0, .func (.func gf) #[] lb] w fun e w' => ∃ v, e = .returned v ∧ OwnB w' w.heap.size v xs ∧ Below w.heap.size w w' := by
  have HEN := Lib.hid hen
  have HSQ := Lib.hid hseq
  have HB0 := Lib.hid hb0
  have HN := Lib.hid hn
  clear hen hseq hb0 hn
  refine callsIn_of_wp_marks Try.func33 rfl trivial ?_ rfl
  simp only [Try.ntmps33, List.size_toArray, List.length_cons, List.length_nil, Nat.reduceAdd, Nat.reduceSub, Array.replicate_succ, Array.replicate_zero, List.push_toArray, List.append_toArray, List.nil_append, List.cons_append]
  gi_wp2
  obtain ⟨W0, hW0⟩ : ∃ W0, w.alloc (.cells #[.slice none 0 0] 32) = W0 := ⟨_, rfl⟩
  have hs0 : W0.heap.size = w.heap.size + 1 := by rw [← hW0]; simp
  have hB0 : Below w.heap.size w W0 := by rw [← hW0]; exact (Below.refl _ _).alloc (Nat.le_refl _) _
  have bb : Blk W0 w.heap.size 32 [.slice none 0 0] := by rw [← hW0]; exact Blk.new _ _ _
  rw [hW0]
  clear hW0
  refine wpIn_gives (by omega) (gf := gf) (lb := lb) rfl HEN.out HSQ.out (HB0.out.trans (hB0.mono HB0.out.size)) (fun _ => rfl) (AppI w) (appI_abide w _ (by omega)) (fun F pre W h x hx => ⟨Nat.le_trans HB0.out.size (appI_lt h x hx).1, (appI_lt h x hx).2⟩) [w.heap.size] (by simp; omega)
    ⟨.slice none 0 0, rfl, bb, OwnB.nil _ _, hB0⟩
    (fun x a' W => ∃ Bx, W0.heap.size + 2 ≤ Bx ∧ Blk W Bx 29 [.int .i64 x.1, .int .u32 x.2] ∧ a' = { tmps := #[.slice none 0 0, .func (.func gf) #[] lb, .pointer (some ⟨w.heap.size, 0, none⟩), undef, .slice none 0 0, .pointer (some ⟨Bx, 0, none⟩), .func (.func gf) #[] lb, .agg #[.int .i64 x.1, .int .u32 x.2], undef, undef, undef, undef, undef], defers := [] })
    (fun x a' W1 W2 h hk => by
      obtain ⟨Bx, h1, h2, h3⟩ := h
      exact ⟨Bx, h1, hk.blk h2 (by simp; omega), h3⟩) ?assign ?body ?done
  case assign =>
    intro l x W K hsz hK
    dsimp only [hitE]
    gi_wp2
    refine hK _ _ ((Kept.refl [] W).alloc _) ⟨W.heap.size, hsz, Blk.new W _ _, rfl⟩
  case body =>
    rintro l F pre x a' W ⟨v, rfl, h1, h2, h3⟩ ⟨Bx, hBx, dx, rfl⟩ hsz hp
    have k0 : W.cell? ⟨w.heap.size, 0, none⟩ = some v := h1.cell 0
    have x0 : W.cell? ⟨Bx, 0, none⟩ = some (.int .i64 x.1) := dx.cell 0
    have x1 : W.cell? ⟨Bx, 1, none⟩ = some (.int .u32 x.2) := dx.cell 1
    have hlen : pre.length ≤ 1000000 := by
      have := hp.length_le
      have := HN.out
      simp at *
      omega
    obtain ⟨va, vc, hv⟩ := h2.own.size
    obtain ⟨vn, hvn⟩ : ∃ vn, pre.length = vn := ⟨_, rfl⟩
    have HVN := Lib.hid hvn
    rw [hvn] at hv
    subst hv
    clear hvn
    have H1 := Lib.hid h1
    have H2 := Lib.hid h2
    have H3 := Lib.hid h3
    have DX := Lib.hid dx
    clear h1 h2 h3 dx hp
    have hle := H3.out.size
    have hnb : (Value.slice va vn vc).ownBlock ≠ some w.heap.size := fun hh => by
      have := (World.ownsRow.lt H2.out _ hh).1
      omega
    gi_wp2_with (first
      | (gi_at_builtin; refine app_hitIn W rfl (.tmp 8) (.tmp 10) rfl (w.heap.size + 1) (.slice va vn vc) pre x rfl rfl H2.out (by omega) (by omega) ?_; intro v' w1 hown1 hgrow1 hv1; have E1 := Lib.hid hown1; have E2 := Lib.hid hgrow1; have E3 := Lib.hid hv1; obtain ⟨va', vc', hv'⟩ := hown1.own.size; obtain ⟨vn', hvn'⟩ : ∃ vn', (pre ++ [x]).length = vn' := ⟨_, rfl⟩; rw [hvn'] at hv'; subst hv'; clear hvn' hown1 hgrow1 hv1; have E4 := Lib.hid ((H1.out.alloc _).grown E2.out (fun hh => hnb (by simpa using hh))); have z4 := E4.out.cell 0; have f4 := E4.out.frozen 0)
      | fail)
    have KK : Kept (w.heap.size :: ownB (.slice va vn vc)) W (w1.setCell ⟨w.heap.size, 0, none⟩ (.slice va' vn' vc')) :=
      (((Kept.refl _ W).alloc _).grown E2.out (fun k hk => .inl (List.mem_cons_of_mem _ (mem_ownB.2 hk)))).setCell _ _ (.inl (by simp))
    refine ⟨w.heap.size :: ownB (.slice va' vn' vc'), ⟨_, rfl, E4.out.set 0 _, E1.out.kept ((Kept.refl [w.heap.size] w1).setCell _ _ (.inl (by simp))) (fun k hk hh => ?_), H3.out.trans (KK.below (fun x hx => ?_) hle)⟩, KK, fun x hx => ?_⟩
    · have := (World.ownsRow.lt E1.out k hk).1
      rw [List.mem_singleton.1 hh] at this
      omega
    · rcases List.mem_cons.1 hx with rfl | hx
      · exact Nat.le_refl _
      · have := (World.ownsRow.lt H2.out x (mem_ownB.1 hx)).1
        omega
    · rcases List.mem_cons.1 hx with rfl | hx
      · exact .inl (by simp)
      · have hx' := mem_ownB.1 hx
        rcases E3.out with h | h
        · exact .inl (List.mem_cons_of_mem _ (mem_ownB.2 (h ▸ hx')))
        · rw [hx'] at h
          exact .inr h
  case done =>
    rintro D F W hD hFD ⟨v, rfl, h1, h2, h3⟩ hK
    have k0 : W.cell? ⟨w.heap.size, 0, none⟩ = some v := h1.cell 0
    have H1 := Lib.hid h1
    have H2 := Lib.hid h2
    have H3 := Lib.hid h3
    have KD := Lib.hid hK
    clear h1 h2 h3 hK
    gi_wp2
    refine ⟨by simp, .inl ⟨_, _, rfl, run_takeDeferred KD.out, ?_⟩⟩
    refine ⟨_, results_tmp rfl _ _ _, v, rfl, (H2.out.kept (putO_kept W D _) (fun k hk hh => hFD k (List.mem_cons_of_mem _ (mem_ownB.2 hk)) (List.mem_singleton.1 hh))).mono (by omega), H3.out.trans ((putO_kept W D _).below (fun x hx => ?_) H3.out.size)⟩
    rw [List.mem_singleton.1 hx]
    omega
theorem appendSeq_any (w w0 : World) (gf : Nat) (lb : Array Value) (xs : List Hit) (hen : Enters gf) (hseq : GivesL Try.prog gf lb hitE xs w0) (hb0 : Below w0.heap.size w0 w) (hn : xs.length ≤ 1000000) :
    Calls Try.prog 33 #[.slice none 0 0, .func (.func gf) #[] lb] w fun e w' => ∃ v, e = .returned v ∧ OwnB w' w.heap.size v xs ∧ Below w.heap.size w w' :=
  callsIn_wide.1 (appendSeq_in 9 (by omega) w w0 gf lb xs hen hseq hb0 hn)

set_option maxHeartbeats 1600000 in
theorem collect_any (w w0 : World) (gf : Nat) (lb : Array Value) (xs : List Hit) (hen : Enters gf) (hseq : GivesL Try.prog gf lb hitE xs w0) (hb0 : Below w0.heap.size w0 w) (hn : xs.length ≤ 1000000) :
    Calls Try.prog 23 #[.func (.func gf) #[] lb] w fun e w' => ∃ v, e = .returned v ∧ OwnB w' w.heap.size v xs ∧ Below w.heap.size w w' := by
  have C := Lib.hid (appendSeq_any w w0 gf lb xs hen hseq hb0 hn)
  clear hen hseq hb0 hn
  go_enter Try.func23, Try.ntmps23
  go_wp2_with (fail)
  refine C.out.mono ?_
  rintro e w1 ⟨v, rfl, h1, h2⟩
  have H1 := Lib.hid h1
  have H2 := Lib.hid h2
  clear h1 h2
  go_wp2
  go_ret
  exact ⟨v, rfl, H1.out, H2.out⟩

/-- What least's loop keeps: a selector in its box, of what has come. -/
def LeastI (w : World) (b room : Nat) (Bb : Nat) (F : List Nat) (pre : List Hit) (W : World) : Prop :=
  ∃ G, F = Bb :: G ∧ Blk W Bb 69 [.pointer (some ⟨b, 0, none⟩)] ∧ SelF W G b room (keepL room pre) ∧ (∀ x ∈ G, w.heap.size ≤ x ∧ x ≠ Bb) ∧ w.heap.size ≤ Bb ∧ Below w.heap.size w W
theorem leastI_abide (w : World) (b room Bb B : Nat) (hB : w.heap.size ≤ B) : Abide B (LeastI w b room Bb) := by
  rintro F pre W1 W2 G ⟨F', rfl, h1, h2, h3, h4, h5⟩ hk hG
  exact ⟨F', rfl, hk.blk h1 (fun hh => (hG _ hh).1 (by simp)), h2.kept hk (fun x hx hh => (hG _ hh).1 (List.mem_cons_of_mem _ hx)), h3, h4, h5.trans (hk.below (fun x hx => Nat.le_trans hB (hG x hx).2) h5.size)⟩
theorem leastI_lt {w : World} {b room Bb : Nat} {F : List Nat} {pre : List Hit} {W : World} (h : LeastI w b room Bb F pre W) : ∀ x ∈ F, w.heap.size ≤ x ∧ x < W.heap.size := by
  obtain ⟨G, rfl, h1, h2, h3, h4, h5⟩ := h
  intro x hx
  rcases List.mem_cons.1 hx with rfl | hx
  · exact ⟨h4, h1.lt⟩
  · exact ⟨(h3 x hx).1, h2.lt x hx⟩

set_option maxRecDepth 100000 in
set_option maxHeartbeats 3200000 in
theorem least_in (d : Nat) (hd : 3 ≤ d) (w w0 : World) (gf : Nat) (lb : Array Value) (xs : List Hit) (k : Int) (r : Nat) (hr : Hid ((r : Int) = min (max k 0) 256)) (hen : Enters gf) (hseq : GivesL Try.prog gf lb hitE xs w0) (hb0 : Below w0.heap.size w0 w) :
    CallsIn Fence.wide d Try.prog 26 #[.func (.func gf) #[] lb, .int .i64 k] w fun e w' => ∃ g n, e = .returned (.slice (some ⟨g, 0, none⟩) n n) ∧ Own w' 29 (.slice (some ⟨g, 0, none⟩) n n) (keepL r xs) ∧ Below w.heap.size w w' ∧ w.heap.size ≤ g := by
  have HEN := Lib.hid hen
  have HSQ := Lib.hid hseq
  have HB0 := Lib.hid hb0
  have CN := Lib.hid (sel_new k w r hr)
  have hr256 : r ≤ 256 := by
    have := hr.out
    omega
  have HR := Lib.hid hr256
  clear hen hseq hb0 hr hr256
  have hd1 : 1 ≤ d := by omega
  refine callsIn_of_wp_marks Try.func26 rfl trivial ?_ rfl
  simp only [Try.ntmps26, List.size_toArray, List.length_cons, List.length_nil, Nat.reduceAdd, Nat.reduceSub, Array.replicate_succ, Array.replicate_zero, List.push_toArray, List.append_toArray, List.nil_append, List.cons_append]
  gi_wp2
  refine ⟨trivial, (callsIn_wide.2 CN.out).mono ?_⟩
  rintro e w1 ⟨rfl, hS, hb1⟩
  have hs1 := hb1.size
  have hslt := hS.lt
  have HS := Lib.hid hS
  have HB1 := Lib.hid hb1
  clear hS hb1
  gi_wp2
  obtain ⟨W0, hW0⟩ : ∃ W0, w1.alloc (.cells #[.pointer (some ⟨w.heap.size + 1, 0, none⟩)] 69) = W0 := ⟨_, rfl⟩
  obtain ⟨Bb, hBb⟩ : ∃ Bb, w1.heap.size = Bb := ⟨_, rfl⟩
  have k0 : Kept [] w1 W0 := by rw [← hW0]; exact (Kept.refl [] w1).alloc _
  have hs0 : W0.heap.size = Bb + 1 := by rw [← hW0, ← hBb]; simp
  have hB0 : Below w.heap.size w W0 := HB1.out.trans (k0.below (by simp) hs1)
  have bb : Blk W0 Bb 69 [.pointer (some ⟨w.heap.size + 1, 0, none⟩)] := by rw [← hW0, ← hBb]; exact Blk.new _ _ _
  have hS0 : SelF W0 [w.heap.size, w.heap.size + 1] (w.heap.size + 1) r (keepL r []) := by
    rw [show keepL r [] = [] from by simp [keepL, sortL]]
    exact HS.out.kept k0 (by intro x _ hx; simp at hx)
  have hl1 := hslt w.heap.size (by simp)
  have hl2 := hslt (w.heap.size + 1) (by simp)
  rw [hBb] at hl1 hl2 hs1
  rw [hW0, hBb]
  clear hW0 k0 hslt
  refine wpIn_gives (by omega) (gf := gf) (lb := lb) rfl HEN.out HSQ.out (HB0.out.trans (hB0.mono HB0.out.size)) (fun _ => rfl) (LeastI w (w.heap.size + 1) r Bb) (leastI_abide w _ _ _ _ (by omega)) (fun F pre W h x hx => ⟨Nat.le_trans HB0.out.size (leastI_lt h x hx).1, (leastI_lt h x hx).2⟩) [Bb, w.heap.size, w.heap.size + 1]
    (by intro x hx; simp at hx; omega)
    ⟨[w.heap.size, w.heap.size + 1], rfl, bb, hS0, by intro x hx; simp at hx; omega, by omega, hB0⟩
    (fun x a' W => ∃ Bx, W0.heap.size + 2 ≤ Bx ∧ Blk W Bx 29 [.int .i64 x.1, .int .u32 x.2] ∧ a' = { tmps := #[.func (.func gf) #[] lb, .int .i64 k, undef, undef, .slice none 0 0, .pointer (some ⟨Bb, 0, none⟩), .pointer (some ⟨Bx, 0, none⟩), .int .i64 k, .pointer (some ⟨w.heap.size + 1, 0, none⟩), .func (.func gf) #[] lb, .agg #[.int .i64 x.1, .int .u32 x.2], undef, undef, undef, undef, undef], defers := [] })
    (fun x a' W1 W2 h hk => by
      obtain ⟨Bx, h1, h2, h3⟩ := h
      exact ⟨Bx, h1, hk.blk h2 (by simp; omega), h3⟩) ?assign ?body ?done
  case assign =>
    intro l x W K hsz hK
    dsimp only [hitE]
    gi_wp2
    refine hK _ _ ((Kept.refl [] W).alloc _) ⟨W.heap.size, hsz, Blk.new W _ _, ?_⟩
    rfl
  case body =>
    rintro l F pre x a' W ⟨G, rfl, h1, h2, h3, h4, h5⟩ ⟨Bx, hBx, dx, rfl⟩ hsz hp
    have k0 : W.cell? ⟨Bb, 0, none⟩ = some (.pointer (some ⟨w.heap.size + 1, 0, none⟩)) := h1.cell 0
    have x0 : W.cell? ⟨Bx, 0, none⟩ = some (.int .i64 x.1) := dx.cell 0
    have x1 : W.cell? ⟨Bx, 1, none⟩ = some (.int .u32 x.2) := dx.cell 1
    have H1 := Lib.hid h1
    have H2 := Lib.hid h2
    have H3 := Lib.hid h3
    have H5 := Lib.hid h5
    have CP := Lib.hid (sel_put G (w.heap.size + 1) r (keepL r pre) x W h2 (by have := h2.room_le; have := HR.out; omega))
    clear h1 h2 h3 h5 dx hp
    have hle := H5.out.size
    have hd2 : 1 ≤ d - 1 - 1 := by omega
    gi_wp2
    refine ⟨trivial, (CallsIn.inRound l (callsIn_wide.2 CP.out)).mono ?_⟩
    rintro e w2 ⟨rfl, G', h6, h7, h8⟩
    have H6 := Lib.hid h6
    have H7 := Lib.hid h7
    have H8 := Lib.hid h8
    clear h6 h7 h8
    gi_wp2
    have nb : Bb ∉ G := fun hh => (H3.out _ hh).2 rfl
    refine ⟨Bb :: G', ⟨G', rfl, H7.out.blk H1.out nb, by rw [keepL_snoc]; exact H6.out, fun x hx => ?_, h4, H5.out.trans (H7.out.below (fun x hx => (H3.out x hx).1) hle)⟩, H7.out.mono (fun x hx => List.mem_cons_of_mem _ hx), fun x hx => ?_⟩
    · rcases H8.out x hx with h | h
      · exact H3.out x h
      · have := H1.out.lt
        exact ⟨by omega, by omega⟩
    · rcases List.mem_cons.1 hx with rfl | hx
      · exact .inl (by simp)
      · rcases H8.out x hx with h | h
        · exact .inl (List.mem_cons_of_mem _ h)
        · exact .inr h
  case done =>
    rintro D F W hD hFD ⟨G, rfl, h1, h2, h3, h4, h5⟩ hK
    have k0 : W.cell? ⟨Bb, 0, none⟩ = some (.pointer (some ⟨w.heap.size + 1, 0, none⟩)) := h1.cell 0
    have H5 := Lib.hid h5
    have KD := Lib.hid hK
    have CL := Lib.hid (sel_list G (w.heap.size + 1) r (keepL r xs) W h2 (by have := h2.room_le; have := HR.out; omega))
    clear h1 h2 h3 h5 hK
    have hDW := (Array.getElem?_eq_some_iff.1 KD.out).1
    gi_wp2
    refine ⟨trivial, (callsIn_wide.2 CL.out).mono ?_⟩
    rintro e w2 ⟨g, rfl, h6, h7, h8⟩
    obtain ⟨n, hn⟩ : ∃ n, (keepL r xs).length = n := ⟨_, rfl⟩
    rw [hn] at h6
    have H6 := Lib.hid h6
    have H7 := Lib.hid h7
    have KD2 := Lib.hid ((h7.block D hDW).trans KD.out)
    clear h6 h7
    simp only [hn]
    gi_wp2
    refine ⟨by simp, .inl ⟨_, _, rfl, run_takeDeferred KD2.out, ?_⟩⟩
    have hle := H5.out.size
    refine ⟨_, results_tmp rfl _ _ _, g, n, rfl, H6.out.kept (putO_kept w2 D _) (fun k hk hh => ?_), (H5.out.trans (H7.out.mono hle)).trans ((putO_kept w2 D _).below (fun x hx => ?_) (Nat.le_trans hle H7.out.size)), by omega⟩
    · have : k = g := by simpa [Value.ownBlock] using hk.symm
      rw [List.mem_singleton.1 hh] at this
      omega
    · rw [List.mem_singleton.1 hx]
      omega
theorem least_any (w w0 : World) (gf : Nat) (lb : Array Value) (xs : List Hit) (k : Int) (r : Nat) (hr : Hid ((r : Int) = min (max k 0) 256)) (hen : Enters gf) (hseq : GivesL Try.prog gf lb hitE xs w0) (hb0 : Below w0.heap.size w0 w) :
    Calls Try.prog 26 #[.func (.func gf) #[] lb, .int .i64 k] w fun e w' => ∃ g n, e = .returned (.slice (some ⟨g, 0, none⟩) n n) ∧ Own w' 29 (.slice (some ⟨g, 0, none⟩) n n) (keepL r xs) ∧ Below w.heap.size w w' ∧ w.heap.size ≤ g :=
  callsIn_wide.1 (least_in 9 (by omega) w w0 gf lb xs k r hr hen hseq hb0)
end Go.Proofs.Yteaomjabanhblaa
