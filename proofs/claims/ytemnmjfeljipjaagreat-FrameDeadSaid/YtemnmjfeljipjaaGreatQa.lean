/-
  The program's writer of messages: its mathematics, its state, and each of its functions, by walks over their texts.
-/
import Derived.Test.YtemnmjfeljipjaaGreatMp
import Derived.Test.YtemnmjfeljipjaaGreatMk
import Derived.Test.YtemnmjfeljipjaaGreatVa
import Derived.Test.YtemnmjfeljipjaaGreatVc
import Derived.Deep.DeepMust
import Derived.Handy
import Derived.IntWalk
import Derived.Deep.AppendLies
import Derived.Deep.RegionLaw
import Derived.Test.YtemnmjfeljipjaaGreatMq
import Derived.BigGuardPart
namespace Go.Proofs.YtemnmjfeljipjaaGreat
open Go.RowKit Go.ChangeShapes Go.WideShapes Go.ChangeAt

/-- A thing is written behind what there was (the bytes, and whether something couldn't be written): at most m bytes more. -/
def WStep {α : Type} (C : Cod α) (m : Nat) (s : List Nat × Bool) (a : α) (s' : List Nat × Bool) : Prop :=
  s'.1.length ≤ s.1.length + m ∧ (s'.2 = false ↔ s.2 = false ∧ C.fits a) ∧ (s'.2 = false → s'.1 = s.1 ++ C.enc a)

theorem WStep.mono {α : Type} {C : Cod α} {m m' : Nat} {s s' : List Nat × Bool} {a : α} (h : WStep C m s a s') (hm : m ≤ m') : WStep C m' s a s' := ⟨by have := h.1; omega, h.2⟩
theorem WStep.pair {α β : Type} {A : Cod α} {B : Cod β} {m n : Nat} {s s1 s2 : List Nat × Bool} {a : α} {b : β} (h : WStep A m s a s1) (k : WStep B n s1 b s2) : WStep (cPair A B) (m + n) s (a, b) s2 := by
  obtain ⟨h1, h2, h3⟩ := h
  obtain ⟨k1, k2, k3⟩ := k
  refine ⟨by omega, ?_, fun e => ?_⟩
  · show s2.2 = false ↔ s.2 = false ∧ A.fits a ∧ B.fits b
    rw [k2, h2]
    exact ⟨fun h => ⟨h.1.1, h.1.2, h.2⟩, fun h => ⟨⟨h.1, h.2.1⟩, h.2.2⟩⟩
  · show s2.1 = s.1 ++ (A.enc a ++ B.enc b)
    rw [k3 e, h3 (k2.1 e).1, List.append_assoc]
theorem WStep.map {α β : Type} {A : Cod α} {to : α → β} {of : β → α} {hh : ∀ a, A.fits a → of (to a) = a} {m : Nat} {s s' : List Nat × Bool} {b : β} (h : WStep A m s (of b) s') (hb : to (of b) = b) : WStep (cMap A to of hh) m s b s' := by
  obtain ⟨h1, h2, h3⟩ := h
  refine ⟨h1, ?_, h3⟩
  show s'.2 = false ↔ s.2 = false ∧ A.fits (of b) ∧ to (of b) = b
  rw [h2]
  exact ⟨fun h => ⟨h.1, h.2, hb⟩, fun h => ⟨h.1, h.2.1⟩⟩
/-- What always fits. -/
theorem WStep.sure {α : Type} {C : Cod α} {m : Nat} {bs bs' : List Nat} {bad : Bool} {a : α} (hf : C.fits a) (hb : bs' = bs ++ C.enc a) (hm : (C.enc a).length ≤ m) : WStep C m (bs, bad) a (bs', bad) := by
  subst hb
  refine ⟨by rw [List.length_append]; simp; omega, ⟨fun h => ⟨h, hf⟩, fun h => h.1⟩, fun _ => rfl⟩
/-- What can't be written. -/
theorem WStep.never {α : Type} {C : Cod α} {m : Nat} {bs bs' : List Nat} {bad : Bool} {a : α} (hf : ¬ C.fits a) (hb : bs'.length ≤ bs.length + m) : WStep C m (bs, bad) a (bs', true) :=
  ⟨hb, ⟨fun h => by (cases h), fun h => absurd h.2 hf⟩, fun h => by (cases h)⟩

/-- Of a list i things are gone by. -/
def WMany {α : Type} (C : Cod α) (m : Nat) (l : List α) (i : Nat) (s s' : List Nat × Bool) : Prop :=
  s'.1.length ≤ s.1.length + 10 + i * m ∧ (s'.2 = false ↔ s.2 = false ∧ ∀ a ∈ l.take i, C.fits a) ∧ (s'.2 = false → s'.1 = s.1 ++ (vput l.length ++ encN C (l.take i)))
/-- A length is written. -/
def WLen (n : Nat) (s s' : List Nat × Bool) : Prop := s'.1.length ≤ s.1.length + 10 ∧ s'.2 = s.2 ∧ (s'.2 = false → s'.1 = s.1 ++ vput n)
theorem WStep.len {most n : Nat} {hm : most < 18446744073709551616} {s s' : List Nat × Bool} (h : WStep (cNum most hm) 10 s n s') (hn : n ≤ most) : WLen n s s' := by
  obtain ⟨h1, h2, h3⟩ := h
  refine ⟨h1, ?_, h3⟩
  have hf : (cNum most hm).fits n := hn
  cases e : s.2 <;> cases e' : s'.2
  · rfl
  · exact absurd (h2.2 ⟨e, hf⟩) (by rw [e']; simp)
  · have := (h2.1 e').1
    rw [e] at this
    cases this
  · rfl
theorem WMany.start {α : Type} {C : Cod α} {m : Nat} {l : List α} {s s' : List Nat × Bool} (h : WLen l.length s s') : WMany C m l 0 s s' := by
  obtain ⟨h1, h2, h3⟩ := h
  exact ⟨by omega, by simp [h2], fun e => by simp [encN, h3 e]⟩
/-- A text is written: its length, then its bytes. -/
theorem WLen.text {t : List Nat} {s s' : List Nat × Bool} (hb : ∀ b ∈ t, b < 256) (hl : t.length ≤ 4096) (h : WLen t.length s s') : WStep cStr 4106 s t (s'.1 ++ t, s'.2) := by
  obtain ⟨h1, h2, h3⟩ := h
  refine ⟨by rw [List.length_append]; omega, ?_, fun e => ?_⟩
  · simp only
    rw [h2]
    exact ⟨fun e => ⟨e, (cStr_fits t hb).2 hl⟩, fun e => e.1⟩
  · simp only at e ⊢
    rw [h3 e, cStr_enc, List.append_assoc]
theorem WStep.text_over {t : List Nat} {bs : List Nat} {bad : Bool} (hb : ∀ b ∈ t, b < 256) (hl : 4096 < t.length) : WStep cStr 4106 (bs, bad) t (bs, true) :=
  WStep.never (fun hf => by have := (cStr_fits t hb).1 hf; omega) (by omega)
theorem WMany.next {α : Type} {C : Cod α} {m : Nat} {l : List α} {i : Nat} {s s1 s2 : List Nat × Bool} {a : α} (h : WMany C m l i s s1) (hi : l[i]? = some a) (k : WStep C m s1 a s2) : WMany C m l (i + 1) s s2 := by
  obtain ⟨h1, h2, h3⟩ := h
  obtain ⟨k1, k2, k3⟩ := k
  have ht : l.take (i + 1) = l.take i ++ [a] := by rw [List.take_add_one, hi]; rfl
  refine ⟨by rw [Nat.add_mul]; omega, ?_, fun e => ?_⟩
  · rw [k2, h2, ht]
    constructor
    · rintro ⟨⟨h4, h5⟩, h6⟩
      refine ⟨h4, fun b hb => ?_⟩
      rcases List.mem_append.1 hb with hb | hb
      · exact h5 b hb
      · simp at hb
        rw [hb]
        exact h6
    · rintro ⟨h4, h5⟩
      exact ⟨⟨h4, fun b hb => h5 b (by simp [hb])⟩, h5 a (by simp)⟩
  · rw [k3 e, h3 (k2.1 e).1, ht, encN_snoc]
    simp [List.append_assoc]
theorem WMany.done {α : Type} {C : Cod α} {m i : Nat} {l : List α} {s s' : List Nat × Bool} (h : WMany C m l i s s') (hi : i = l.length) (hl : l.length ≤ 128) : WStep (cMany C) (10 + 128 * m) s l s' := by
  obtain ⟨h1, h2, h3⟩ := h
  subst hi
  rw [List.take_length] at h2 h3
  have := Nat.mul_le_mul_right m hl
  refine ⟨by omega, ?_, fun e => by rw [h3 e, cMany_enc]⟩
  rw [h2, cMany_fits]
  exact ⟨fun h => ⟨h.1, hl, h.2⟩, fun h => ⟨h.1, h.2.2⟩⟩
theorem WStep.over {α : Type} {C : Cod α} {m : Nat} {l : List α} {bs : List Nat} {bad : Bool} (hl : 128 < l.length) : WStep (cMany C) m (bs, bad) l (bs, true) :=
  WStep.never (fun hf => by have := ((cMany_fits C l).1 hf).1; omega) (by omega)

/-- A change is written: the flag, then the item, or its number if there is no more of it. -/
theorem WStep.change_item {m n : Nat} {s s1 s2 : List Nat × Bool} {i : ItemV} (h : WStep cFlag m s false s1) (k : WStep cItem n s1 i s2) : WStep cChange (m + n) s ⟨false, i⟩ s2 := by
  obtain ⟨h1, h2, h3⟩ := h
  obtain ⟨k1, k2, k3⟩ := k
  have hf : cFlag.fits false := ⟨Nat.zero_le 1, rfl⟩
  refine ⟨by omega, ?_, fun e => ?_⟩
  · rw [k2, h2, cChange_item]
    exact ⟨fun h => ⟨h.1.1, h.2⟩, fun h => ⟨⟨h.1, hf⟩, h.2⟩⟩
  · rw [k3 e, h3 (k2.1 e).1, cChange_enc_item, List.append_assoc]
theorem WStep.change_gone {m n : Nat} {s s1 s2 : List Nat × Bool} {i : ItemV} {more : Bool} (hm : more = true ↔ ¬ (i.vec = [] ∧ i.tags = [])) (h : WStep cFlag m s true s1) (k : WStep cU32 n (s1.1, s1.2 || more) i.id s2) : WStep cChange (m + n) s ⟨true, i⟩ s2 := by
  obtain ⟨h1, h2, h3⟩ := h
  obtain ⟨k1, k2, k3⟩ := k
  simp only at k1 k2 k3
  have hf : cFlag.fits true := ⟨Nat.le_refl 1, rfl⟩
  refine ⟨by omega, ?_, fun e => ?_⟩
  · rw [k2, cChange_gone, Bool.or_eq_false_iff, h2]
    constructor
    · rintro ⟨⟨⟨h4, _⟩, h5⟩, h6⟩
      refine ⟨h4, h6, ?_⟩
      by_cases hx : i.vec = [] ∧ i.tags = []
      · exact hx
      · rw [hm.2 hx] at h5
        cases h5
    · rintro ⟨h4, h5, h6⟩
      refine ⟨⟨⟨h4, hf⟩, ?_⟩, h5⟩
      cases more
      · rfl
      · exact absurd h6 (hm.1 rfl)
  · have h4 := (Bool.or_eq_false_iff.1 (k2.1 e).1).1
    rw [k3 e, h3 h4, cChange_enc_gone, List.append_assoc]
    rfl

/-- A field is taken out. -/
def Fld.wipe (f : Fld) (m : MsgV) : MsgV := f.set m (f.get (zeroM 0))
def wipeF : List Fld → MsgV → MsgV
  | [], m => m
  | f :: fs, m => wipeF fs (f.wipe m)
theorem wipeF_snoc (fs : List Fld) (f : Fld) (m : MsgV) : wipeF (fs ++ [f]) m = f.wipe (wipeF fs m) := by
  induction fs generalizing m with
  | nil => rfl
  | cons g fs ih => exact ih _
theorem wipeF_kind (fs : List Fld) (m : MsgV) : (wipeF fs m).kind = m.kind := by
  induction fs generalizing m with
  | nil => rfl
  | cons f fs ih => rw [wipeF, ih, Fld.wipe, Fld.set_kind]
theorem wipeF_other (fs : List Fld) (m : MsgV) (g : Fld) (h : ∀ f ∈ fs, f.no ≠ g.no) : g.get (wipeF fs m) = g.get m := by
  induction fs generalizing m with
  | nil => rfl
  | cons f fs ih =>
    rw [wipeF, ih _ (fun f' hf' => h f' (by simp [hf'])), Fld.wipe, Fld.get_other f g _ _ (h f (by simp))]
theorem Fld.no_inj {f g : Fld} (h : f.no = g.no) : f = g := by
  cases f <;> cases g <;> first | rfl | (exact absurd h (by decide))
theorem wipeF_in (fs : List Fld) (m : MsgV) (g : Fld) (h : g ∈ fs) : g.get (wipeF fs m) = g.get (zeroM 0) := by
  induction fs generalizing m with
  | nil => simp at h
  | cons f fs ih =>
    by_cases hg : g ∈ fs
    · exact ih _ hg
    · obtain rfl : g = f := by
        rcases List.mem_cons.1 h with h | h
        · exact h
        · exact absurd h hg
      rw [wipeF, wipeF_other _ _ _ (fun f' hf' e => hg (by rw [← Fld.no_inj e]; exact hf')), Fld.wipe, Fld.get_set]
theorem setF_other (fs : List Fld) (m x : MsgV) (g : Fld) (h : ∀ f ∈ fs, f.no ≠ g.no) : g.get (setF fs m x) = g.get m := by
  induction fs generalizing m with
  | nil => rfl
  | cons f fs ih =>
    rw [setF, ih _ (fun f' hf' => h f' (by simp [hf'])), Fld.get_other f g _ _ (h f (by simp))]
theorem setF_in (fs : List Fld) (m x : MsgV) (g : Fld) (h : g ∈ fs) : g.get (setF fs m x) = g.get x := by
  induction fs generalizing m with
  | nil => simp at h
  | cons f fs ih =>
    by_cases hg : g ∈ fs
    · exact ih _ hg
    · obtain rfl : g = f := by
        rcases List.mem_cons.1 h with h | h
        · exact h
        · exact absurd h hg
      rw [setF, setF_other _ _ _ _ (fun f' hf' e => hg (by rw [← Fld.no_inj e]; exact hf')), Fld.get_set]
theorem msg_ext {m x : MsgV} (hk : m.kind = x.kind) (h : ∀ f : Fld, f.get m = f.get x) : m = x := by
  cases m
  cases x
  simp only at hk
  subst hk
  have h0 := h .req; have h1 := h .caps; have h2 := h .token; have h3 := h .code; have h4 := h .n; have h5 := h .name; have h6 := h .conf; have h7 := h .changes; have h8 := h .id; have h9 := h .vec
  have h10 := h .k; have h11 := h .width; have h12 := h .filter; have h13 := h .num; have h14 := h .page; have h15 := h .bytes; have h16 := h .version; have h17 := h .names; have h18 := h .items; have h19 := h .hits
  simp only [Fld.get] at h0 h1 h2 h3 h4 h5 h6 h7 h8 h9 h10 h11 h12 h13 h14 h15 h16 h17 h18 h19
  subst h0 h1 h2 h3 h4 h5 h6 h7 h8 h9 h10 h11 h12 h13 h14 h15 h16 h17 h18 h19
  rfl
theorem Fld.get_zero (g : Fld) (k k' : Nat) : g.get (zeroM k) = g.get (zeroM k') := by cases g <;> rfl
/-- All is taken out just if there was no more than the kind's fields. -/
theorem wipe_only (fs : List Fld) (m : MsgV) : wipeF fs m = zeroM m.kind ↔ m = setF fs (zeroM m.kind) m := by
  constructor
  · intro h
    refine msg_ext (by rw [setF_kind]; rfl) fun g => ?_
    by_cases hg : g ∈ fs
    · rw [setF_in _ _ _ _ hg]
    · have hn : ∀ f ∈ fs, f.no ≠ g.no := fun f hf e => hg (by rw [← Fld.no_inj e]; exact hf)
      rw [setF_other _ _ _ _ hn, ← wipeF_other fs m g hn, h]
  · intro h
    refine msg_ext (wipeF_kind _ _) fun g => ?_
    by_cases hg : g ∈ fs
    · rw [wipeF_in _ _ _ hg]
      exact Fld.get_zero _ _ _
    · have hn : ∀ f ∈ fs, f.no ≠ g.no := fun f hf e => hg (by rw [← Fld.no_inj e]; exact hf)
      rw [wipeF_other _ _ _ hn]
      conv => lhs; rw [h]
      rw [setF_other _ _ _ _ hn]

/-- Of the fields i are written and taken out. -/
def PutI (fs : List Fld) (x : MsgV) (i : Nat) (y : MsgV) (s : List Nat × Bool) : Prop :=
  y = wipeF (fs.take i) x ∧ s.1.length ≤ i * 100000000 ∧ (s.2 = false ↔ fitF (fs.take i) x) ∧ (s.2 = false → s.1 = encF (fs.take i) x)
theorem apart_at : ∀ (fs : List Fld) (i : Nat) (f : Fld), Apartly fs → fs[i]? = some f → ∀ g ∈ fs.take i, g.no ≠ f.no
  | [], i, f, _, h, _, _ => by simp at h
  | g :: fs, 0, f, _, _, x, hx => by simp at hx
  | g :: fs, i + 1, f, ha, h, x, hx => by
    simp only [List.getElem?_cons_succ] at h
    simp only [List.take_succ_cons, List.mem_cons] at hx
    rcases hx with rfl | hx
    · exact ha.1 f (List.mem_of_getElem? h)
    · exact apart_at fs i f ha.2 h x hx
theorem PutI.next {fs : List Fld} {x y : MsgV} {i : Nat} {s s' : List Nat × Bool} {f : Fld} (ha : Apartly fs) (h : PutI fs x i y s) (hi : fs[i]? = some f) (k : WStep f.cod 100000000 s (f.get y) s') : PutI fs x (i + 1) (f.wipe y) s' := by
  obtain ⟨rfl, h1, h2, h3⟩ := h
  obtain ⟨k1, k2, k3⟩ := k
  have ht : fs.take (i + 1) = fs.take i ++ [f] := by rw [List.take_add_one, hi]; rfl
  have hg : f.get (wipeF (fs.take i) x) = f.get x := wipeF_other _ _ _ (apart_at fs i f ha hi)
  rw [hg] at k2 k3
  refine ⟨by rw [ht, wipeF_snoc], by omega, ?_, fun e => ?_⟩
  · rw [k2, h2, ht]
    constructor
    · rintro ⟨h4, h5⟩ g hg
      rcases List.mem_append.1 hg with hg | hg
      · exact h4 g hg
      · simp at hg
        rw [hg]
        exact h5
    · exact fun h => ⟨fun g hg => h g (by simp [hg]), h f (by simp)⟩
  · rw [k3 e, h3 (k2.1 e).1, ht]
    simp [encF]

theorem Rd.nil {ok : Nat → Prop} {w : World} {e : Sh} {sz : Nat} : Rd ok w (.slice e sz) [.slice SlL.nil.a SlL.nil.n SlL.nil.c] [] :=
  Rd.slice_mk ⟨none, 0, 0, rfl, rfl, by omega, by decide, Nat.le_refl _, fun _ => ⟨rfl, rfl⟩, .inl rfl⟩

/-- A field is taken out of the letters. -/
def Fld.wipeL : Fld → MsgL → MsgL
  | .req, m => { m with req := 0 } | .caps, m => { m with caps := 0 } | .token, m => { m with token := 0 } | .code, m => { m with code := 0 } | .n, m => { m with n := 0 }
  | .name, m => { m with name := ⟨#[]⟩ } | .conf, m => { m with cname := ⟨#[]⟩, dim := 0, metric := 0, graph := false, links := 0, cwidth := 0 }
  | .changes, m => { m with pch := SlL.nil, changes := [] } | .id, m => { m with id := 0 } | .vec, m => { m with pvec := SlL.nil, vec := [] }
  | .k, m => { m with k := 0 } | .width, m => { m with width := 0 } | .filter, m => { m with pall := SlL.nil, all := [], pany := SlL.nil, any := [], pno := SlL.nil, no := [] }
  | .num, m => { m with num := 0 } | .page, m => { m with page := 0 } | .bytes, m => { m with pbytes := SlL.nil, bytes := [] } | .version, m => { m with version := 0 }
  | .names, m => { m with pnames := SlL.nil, names := [] } | .items, m => { m with pitems := SlL.nil, items := [] } | .hits, m => { m with phits := SlL.nil, hits := [] }
theorem wipeL_toM (f : Fld) (m : MsgL) : (f.wipeL m).toM = f.wipe m.toM := by cases f <;> rfl
theorem wipeL_in (f : Fld) {ok : Nat → Prop} {w : World} {m : MsgL} (h : m.In ok w) : (f.wipeL m).In ok w := by
  cases f
  case req => exact { h with hreq := Nat.zero_le _ }
  case caps => exact { h with hcaps := Nat.zero_le _ }
  case token => exact { h with htoken := Nat.zero_le _ }
  case code => exact { h with hcode := Nat.zero_le _ }
  case n => exact { h with hn := Nat.zero_le _ }
  case name => exact { h with hname := Nat.zero_le _ }
  case conf => exact { h with hcname := Nat.zero_le _, hdim := Nat.zero_le _, hmetric := Nat.zero_le _, hlinks := Nat.zero_le _, hcwidth := Nat.zero_le _ }
  case changes => exact { h with hchanges := Rd.nil }
  case id => exact { h with hid := Nat.zero_le _ }
  case vec => exact { h with hvec := Rd.nil }
  case k => exact { h with hk := Nat.zero_le _ }
  case width => exact { h with hwidth := Nat.zero_le _ }
  case filter => exact { h with hall := Rd.nil, hany := Rd.nil, hno := Rd.nil }
  case num => exact { h with hnum := Nat.zero_le _ }
  case page => exact { h with hpage := Nat.zero_le _ }
  case bytes => exact { h with hbytes := Rd.nil }
  case version => exact { h with hversion := Nat.zero_le _ }
  case names => exact { h with hnames := Rd.nil }
  case items => exact { h with hitems := Rd.nil }
  case hits => exact { h with hhits := Rd.nil }
theorem wipeL_kind (f : Fld) (m : MsgL) : (f.wipeL m).kind = m.kind := by cases f <;> rfl

/-- A writer lies in block g: the bytes that it has written, and whether something couldn't be. -/
def WAt (w : World) (g B : Nat) (F : List Nat) (s : List Nat × Bool) : Prop :=
  B ≤ g ∧ ∃ v, Blk w g 83 [v, .bool s.2] ∧ OwnV w B 5 v s.1 ∧ F = g :: ownL v
theorem WAt.lt {w : World} {g B : Nat} {F : List Nat} {s : List Nat × Bool} (h : WAt w g B F s) : ∀ k ∈ F, B ≤ k ∧ k < w.heap.size := by
  obtain ⟨hg, v, hb, ho, rfl⟩ := h
  intro k hk
  rcases List.mem_cons.1 hk with rfl | hk
  · exact ⟨hg, hb.lt⟩
  · exact ho.lt k (mem_ownL.1 hk)
theorem WAt.kept {w w' : World} {g B : Nat} {F G : List Nat} {s : List Nat × Bool} (h : WAt w g B F s) (hk : Kept G w w') (hG : ∀ k ∈ F, k ∉ G) : WAt w' g B F s := by
  obtain ⟨hg, v, hb, ho, rfl⟩ := h
  exact ⟨hg, v, hk.blk hb (hG g (by simp)), ho.kept hk (fun k hk' => hG k (List.mem_cons_of_mem _ (mem_ownL.2 hk'))), rfl⟩
theorem WAt.on {w w' : World} {g B : Nat} {F : List Nat} {s : List Nat × Bool} (h : WAt w g B F s) (hb : Below w.heap.size w w') : WAt w' g B F s := h.kept (G := []) (Kept.of_below hb (Nat.le_refl _)) (by simp)
theorem WAt.below {w w' : World} {g B : Nat} {F : List Nat} {s : List Nat × Bool} (h : WAt w g B F s) (hk : Kept F w w') (hB : B ≤ w.heap.size) : Below B w w' := hk.below (fun k hk => (h.lt k hk).1) hB
theorem WAt.le {w : World} {g B : Nat} {F : List Nat} {s : List Nat × Bool} (h : WAt w g B F s) : B ≤ w.heap.size := by
  have := h.lt g (by obtain ⟨_, v, _, _, rfl⟩ := h; simp)
  omega
/-- What a call of the writer leaves: a thing written, or marked as one that can't be. -/
def WEnd {α : Type} (C : Cod α) (m : Nat) (g B : Nat) (F : List Nat) (s : List Nat × Bool) (a : α) (w w' : World) : Prop :=
  ∃ F' s', WAt w' g B F' s' ∧ WStep C m s a s' ∧ Kept F w w' ∧ Grows w F F'
def WPostW {α : Type} (C : Cod α) (m : Nat) (g B : Nat) (F : List Nat) (s : List Nat × Bool) (a : α) (w : World) (e : Ending) (w' : World) : Prop :=
  e = .returned (.tuple #[]) ∧ WEnd C m g B F s a w w'

theorem cNum_put {most : Nat} {hm : most < 18446744073709551616} (n : Nat) (h : n ≤ most) (bs : List Nat) (bad : Bool) : WStep (cNum most hm) 10 (bs, bad) n (bs ++ vput n, bad) :=
  WStep.sure (C := cNum most hm) h rfl (vput_len10 (n := n) (by omega))

theorem Wrote.undrew {B : Nat} {v v' : Value} {bs : List Nat} {w w' : World} (h : Wrote B v v' bs w.drew w') : Wrote B v v' bs w w' := ⟨h.1, (Kept.refl (ownL v) w).drew.trans h.2.1.out (Grows.refl _ _), h.2.2⟩
theorem Wrote.stored {g B : Nat} {v v' : Value} {bs' : List Nat} {bad : Bool} {w w' : World} (h : Wrote B v v' bs' w w') (hb : Blk w g 83 [v, .bool bad]) (hg : B ≤ g) (hne : g ∉ ownL v) :
    ∃ F', WAt (w'.setCell ⟨g, 0, none⟩ v') g B F' (bs', bad) ∧ Kept (g :: ownL v) w (w'.setCell ⟨g, 0, none⟩ v') ∧ Grows w (g :: ownL v) F' := by
  obtain ⟨h1, h2, h3⟩ := h
  have hb' := h2.out.blk hb hne
  have hne' : g ∉ ownL v' := fun hx => by
    rcases h3.out g hx with h | h
    · exact hne h
    · have := hb.lt; omega
  have hk : Kept [g] w' (w'.setCell ⟨g, 0, none⟩ v') := (Kept.refl _ _).setCell _ _ (.inl (by simp))
  refine ⟨g :: ownL v', ⟨hg, v', hb'.set 0 v', h1.kept hk (fun k hk' hx => ?_), rfl⟩, ?_, ?_⟩
  · simp at hx
    subst hx
    exact hne' (mem_ownL.2 hk')
  · exact (h2.out.mono (fun x hx => List.mem_cons_of_mem _ hx)).setCell _ _ (.inl (by simp))
  · intro k hk'
    rcases List.mem_cons.1 hk' with rfl | hk'
    · exact .inl (by simp)
    · rcases h3.out k hk' with h | h
      · exact .inl (List.mem_cons_of_mem _ h)
      · exact .inr h

theorem Wrote.wend {α : Type} {C : Cod α} {m g B : Nat} {v v' : Value} {bs bs' : List Nat} {bad : Bool} {a : α} {w w' : World} (h : Wrote B v v' bs' w w') (hb : Blk w g 83 [v, .bool bad]) (hg : B ≤ g) (hne : g ∉ ownL v) (ht : WStep C m (bs, bad) a (bs', bad)) :
    WEnd C m g B (g :: ownL v) (bs, bad) a w (w'.setCell ⟨g, 0, none⟩ v') := by
  obtain ⟨F', h1, h2, h3⟩ := h.stored hb hg hne
  exact ⟨F', _, h1, ht, h2, h3⟩

/-- A row of bytes never lies in the writer's block. -/
theorem WAt.apart {w : World} {g B : Nat} {v : Value} {bs : List Nat} {cs : List Value} (hb : Blk w g 83 cs) (ho : OwnV w B 5 v bs) : g ∉ ownL v := by
  intro hx
  have hx := mem_ownL.1 hx
  rcases ho.form with ⟨rfl, _⟩ | ⟨g', cap, rest, rfl, _, hb', _⟩
  · cases hx
  · simp only [Value.ownBlock, Option.some.injEq] at hx
    exact Blk.ne hb hb' (by decide) hx.symm


/-- A number's bytes appended, as one step of a region that draws: the source is a row of its own that isn't empty. -/
theorem step_put {P : Program} {ops : Array Oper} {o : Oper} {a : Act} {K : Act → World → Prop} {Q : Exit → Act → World → Prop} {E : Prop} (w w2 : World) (hgd : o.guard = none) (s x : Operand) (st : TypeId)
    (hop : o.op = .call { callee := .builtin .append, args := #[s, x], argTypes := #[st, st] }) (hu : P.underlying st = some (.slice 5)) (hi : (P.info? 5).map (fun i => (i.zero, i.size, i.bytes)) = some (some (.int .u8 0), 1, 1))
    (B : Nat) (v v2 : Value) (zs xs : List Nat) (hs : a.eval s = v) (hx : a.eval x = v2) (hown : OwnV w B 5 v zs) (hb : B ≤ w.heap.size) (h2 : OwnV w2 w.heap.size 5 v2 xs) (hbel : Below w.heap.size w w2) (h0 : 0 < xs.length) (hl : zs.length ≤ 1099511627776) (hl2 : xs.length ≤ 1099511627776)
    (h : ∀ v' w', Wrote B v v' (zs ++ xs) w w' → K (a.put o.dst v') w') : if Region.wanted o (yielded ops a.tmps) = true then Oper.wp P o a w2 K Q else E := by
  obtain ⟨i0, hi, hz0, hz1, hz2⟩ := info_parts hi
  obtain ⟨g2, c2, rfl, hg2, _⟩ := h2.head h0
  have hown2 := hown.on hbel
  refine step_append_lies w2 hgd s x st hop B 5 i0 _ 1 1 hu hi hz0 hz1 hz2 rfl (by decide) v zs.length (zs.map byteV) hs hown2.1 ⟨g2, 0, none⟩ xs.length c2 (xs.map byteV) hx (by simp) ?_ (map_byte_one xs) h0 (by unfold maxLen; omega) (by omega) (Nat.le_trans hb hbel.size) w2.heap.size rfl ?_
  · intro j u hj
    have hj' : j < xs.length := by have := (List.getElem?_eq_some_iff.1 hj).1; simpa using this
    rw [add_plain, Nat.zero_add, (h2.cellAt j hj').1, ← hj]
    simp [byteAt, byteV, List.getD, hj']
  · intro g cap w' ho hgr hat hlt
    refine h _ w' ⟨⟨?_, ?_⟩, ?_, ?_⟩
    · rw [List.length_append, List.map_append]
      exact ho
    · intro b hb
      rcases List.mem_append.1 hb with hb | hb
      · exact hown.2 b hb
      · exact h2.2 b hb
    · exact (Kept.of_below (F := ownL v) hbel (Nat.le_refl _)).grown hgr (fun k hk => .inl (mem_ownL.2 hk))
    · intro k hk
      have hk := mem_ownL.1 hk
      simp only [Value.ownBlock, Option.some.injEq] at hk
      subst hk
      rcases hat with hat | hat
      · exact .inl (mem_ownL.2 hat)
      · have := hbel.size
        exact .inr (by omega)

set_option maxRecDepth 100000 in
set_option maxHeartbeats 3200000 in
theorem wnum_any (most n g B : Nat) (hm : most < 18446744073709551616) (F : List Nat) (s : List Nat × Bool) (w : World) (h : WAt w g B F s) (hn : n ≤ most) (hl : s.1.length ≤ 549755813888) :
    Calls Tryz.prog 69 #[.pointer (some ⟨g, 0, none⟩), .int .u64 n] w fun e w' => WPostW (cNum most hm) 10 g B F s n w e w' := by
  obtain ⟨bs, bad⟩ := s
  have hBl := h.le
  obtain ⟨hg, v, hb, ho, rfl⟩ := h
  have hne := Lib.hid (WAt.apart hb ho)
  have c0 : w.cell? ⟨g, 0, none⟩ = some v := hb.cell 0
  have lt := hb.lt
  have f0 := hb.frozen 0
  have HB := Lib.hid hb
  have HO := Lib.hid ho
  have HL := Lib.hid (vput_len10 (n := n) (by omega))
  simp only at hl
  clear hb ho
  go_enter Tryz.func69, Tryz.ntmps69
  go_wp2
  go_region_law (first
    | (refine step_put w.drew _ (by rfl) (.tmp 8) (.tmp 10) 33 (by rfl) Tryz.underlying33 byte_info B v _ bs (vput n) (by rfl) (by rfl) HO.out hBl O2.out B2.out (vput_pos n) (by omega) (by have := HL.out; omega) ?_; intro v3 w3 hw3; obtain ⟨a3, n3, m3, rfl, _⟩ := hw3.1.parts; have W3 := Lib.hid hw3; have hb3 := hw3.2.1.out.blk HB.out hne.out; have k3 : w3.cell? ⟨g, 0, none⟩ = some v := hb3.cell 0; have f3 := hb3.frozen 0; have l3 := hb3.lt; clear hw3 hb3)
    | (rw [if_pos (by rfl)]; go_simp; go_at_call 60; refine (put_any n _ (by omega)).mono ?_; rintro e w2 ⟨v2, rfl, ho2, hb2⟩; have O2 := Lib.hid ho2; have B2 := Lib.hid hb2; have k0 : w2.cell? ⟨g, 0, none⟩ = some v := (hb2.cell (p := ⟨g, 0, none⟩) lt).trans c0; have k1 : g < w2.heap.size := Nat.lt_of_lt_of_le lt hb2.size; clear ho2 hb2))
  all_goals
    go_wp2
    go_end0
    refine ⟨rfl, ?_⟩
    exact Wrote.wend W3.out.undrew HB.out hg hne.out (cNum_put n hn bs bad)

theorem cInt_step {low high : Int} (n : Int) (h : low ≤ n ∧ n ≤ high) (h0 : -9223372036854775808 ≤ n) (h1 : n ≤ 9223372036854775807) (bs : List Nat) (bad : Bool) : WStep (cInt low high) 10 (bs, bad) n (bs ++ vput (vfold n), bad) :=
  WStep.sure (C := cInt low high) ((cInt_fits low high n h0 h1).2 h) (by rw [cInt_enc]) (by rw [cInt_enc]; exact vput_len10 (vfold_lt h0 h1))

set_option maxRecDepth 100000 in
set_option maxHeartbeats 3200000 in
theorem wwhole_any (low high n : Int) (g B : Nat) (F : List Nat) (s : List Nat × Bool) (w : World) (h : WAt w g B F s) (hn : low ≤ n ∧ n ≤ high) (h0 : -9223372036854775808 ≤ n) (h1 : n ≤ 9223372036854775807) (hl : s.1.length ≤ 549755813888) :
    Calls Tryz.prog 129 #[.pointer (some ⟨g, 0, none⟩), .int .i64 n] w fun e w' => WPostW (cInt low high) 10 g B F s n w e w' := by
  obtain ⟨bs, bad⟩ := s
  have hBl := h.le
  obtain ⟨hg, v, hb, ho, rfl⟩ := h
  have hne := Lib.hid (WAt.apart hb ho)
  have c0 : w.cell? ⟨g, 0, none⟩ = some v := hb.cell 0
  have lt := hb.lt
  have f0 := hb.frozen 0
  have HB := Lib.hid hb
  have HO := Lib.hid ho
  have HL := Lib.hid (vput_len10 (vfold_lt h0 h1))
  have HN := Lib.hid (cInt_step n hn h0 h1 bs bad)
  simp only at hl
  clear hb ho hn
  go_enter Tryz.func129, Tryz.ntmps129
  go_wp2
  go_region_law (first
    | (refine step_put w.drew _ (by rfl) (.tmp 8) (.tmp 10) 33 (by rfl) Tryz.underlying33 byte_info B v _ bs (vput (vfold n)) (by rfl) (by rfl) HO.out hBl O2.out B2.out (vput_pos _) (by omega) (by have := HL.out; omega) ?_; intro v3 w3 hw3; obtain ⟨a3, n3, m3, rfl, _⟩ := hw3.1.parts; have W3 := Lib.hid hw3; have hb3 := hw3.2.1.out.blk HB.out hne.out; have k3 : w3.cell? ⟨g, 0, none⟩ = some v := hb3.cell 0; have f3 := hb3.frozen 0; have l3 := hb3.lt; clear hw3 hb3)
    | (rw [if_pos (by rfl)]; go_simp; go_at_call 144; refine (putint_any n _ h0 h1).mono ?_; rintro e w2 ⟨v2, rfl, ho2, hb2⟩; have O2 := Lib.hid ho2; have B2 := Lib.hid hb2; have k0 : w2.cell? ⟨g, 0, none⟩ = some v := (hb2.cell (p := ⟨g, 0, none⟩) lt).trans c0; have k1 : g < w2.heap.size := Nat.lt_of_lt_of_le lt hb2.size; clear ho2 hb2))
  all_goals
    go_wp2
    go_end0
    refine ⟨rfl, ?_⟩
    exact Wrote.wend W3.out.undrew HB.out hg hne.out HN.out

theorem wflag_any (b : Bool) (g B : Nat) (F : List Nat) (s : List Nat × Bool) (w : World) (h : WAt w g B F s) (hl : s.1.length ≤ 549755813888) :
    Calls Tryz.prog 126 #[.pointer (some ⟨g, 0, none⟩), .bool b] w fun e w' => WPostW cFlag 10 g B F s b w e w' := by
  have H := Lib.hid h
  clear h
  go_enter Tryz.func126, Tryz.ntmps126
  cases b
  · go_wp2_with (fail)
    refine (wnum_any 1 0 g B (by decide) F s w H.out (by decide) hl).mono ?_
    rintro e w2 ⟨rfl, F', s', h1, h2, h3, h4⟩
    have H2 := Lib.hid (show WEnd cFlag 10 g B F s false w w2 from ⟨F', s', h1, WStep.map h2 rfl, h3, h4⟩)
    clear h1 h2 h3 h4
    go_wp2
    go_end0
    exact ⟨rfl, H2.out⟩
  · go_wp2_with (fail)
    refine (wnum_any 1 1 g B (by decide) F s w H.out (by decide) hl).mono ?_
    rintro e w2 ⟨rfl, F', s', h1, h2, h3, h4⟩
    have H2 := Lib.hid (show WEnd cFlag 10 g B F s true w w2 from ⟨F', s', h1, WStep.map h2 rfl, h3, h4⟩)
    clear h1 h2 h3 h4
    go_wp2
    go_end0
    exact ⟨rfl, H2.out⟩

/-- What is marked as wrong. -/
theorem WAt.mark {w : World} {g B : Nat} {F : List Nat} {s : List Nat × Bool} (h : WAt w g B F s) : WAt (w.setCell ⟨g, 1, none⟩ (.bool true)) g B F (s.1, true) ∧ Kept F w (w.setCell ⟨g, 1, none⟩ (.bool true)) := by
  obtain ⟨hg, v, hb, ho, rfl⟩ := h
  have hne := WAt.apart hb ho
  have hk : Kept [g] w (w.setCell ⟨g, 1, none⟩ (.bool true)) := (Kept.refl _ _).setCell _ _ (.inl (by simp))
  refine ⟨⟨hg, v, hb.set 1 (.bool true), ho.kept hk (fun k hk' hx => ?_), rfl⟩, hk.mono (by simp)⟩
  simp at hx
  subst hx
  exact hne (mem_ownL.2 hk')
theorem WAt.badCell {w : World} {g B : Nat} {F : List Nat} {s : List Nat × Bool} (h : WAt w g B F s) : w.cell? ⟨g, 1, none⟩ = some (.bool s.2) ∧ w.frozen? ⟨g, 1, none⟩ = false ∧ g < w.heap.size := by
  obtain ⟨hg, v, hb, ho, rfl⟩ := h
  exact ⟨hb.cell 1, hb.frozen 1, hb.lt⟩

set_option maxRecDepth 100000 in
set_option maxHeartbeats 3200000 in
/-- A length: it is written, or too great. -/
theorem wlen_any (n most g B : Nat) (F : List Nat) (s : List Nat × Bool) (w : World) (h : WAt w g B F s) (hn : n ≤ 9223372036854775807) (_ : most ≤ 100000) (hl : s.1.length ≤ 549755813888) :
    Calls Tryz.prog 124 #[.pointer (some ⟨g, 0, none⟩), .int .i64 n, .int .i64 most] w fun e w' =>
      (most < n ∧ e = .returned (.bool false) ∧ WAt w' g B F (s.1, true) ∧ Kept F w w') ∨ (n ≤ most ∧ e = .returned (.bool true) ∧ ∃ F' s', WAt w' g B F' s' ∧ WLen n s s' ∧ Kept F w w' ∧ Grows w F F') := by
  have H := Lib.hid h
  obtain ⟨c1, f1, lt⟩ := h.badCell
  have hwn : IntKind.u64.wrap (n : Int) = (n : Int) := by rw [IntKind.wrap_u64]; omega
  clear h
  go_enter Tryz.func124, Tryz.ntmps124
  by_cases hc : most < n
  · have hc' : (most : Int) < (n : Int) := by omega
    go_wp2
    go_ret
    exact .inl ⟨hc, rfl, H.out.mark⟩
  · have hc' : ¬ (most : Int) < (n : Int) := by omega
    go_wp2_with (fail)
    refine (wnum_any 9223372036854775807 n g B (by decide) F s w H.out hn hl).mono ?_
    rintro e w2 ⟨rfl, F', s', h1, h2, h3, h4⟩
    have H2 := Lib.hid (show ∃ F' s', WAt w2 g B F' s' ∧ WLen n s s' ∧ Kept F w w2 ∧ Grows w F F' from ⟨F', s', h1, h2.len hn, h3, h4⟩)
    clear h1 h2 h3 h4
    go_wp2
    go_ret
    exact .inr ⟨by omega, rfl, H2.out⟩

theorem WAt.opened {w : World} {g B : Nat} {F : List Nat} {s : List Nat × Bool} (h : WAt w g B F s) : ∃ v, w.cell? ⟨g, 0, none⟩ = some v ∧ w.frozen? ⟨g, 0, none⟩ = false ∧ g < w.heap.size ∧ B ≤ g ∧ Hid (Blk w g 83 [v, .bool s.2]) ∧ Hid (OwnV w B 5 v s.1) ∧ Hid (g ∉ ownL v) ∧ F = g :: ownL v := by
  obtain ⟨hg, v, hb, ho, rfl⟩ := h
  exact ⟨v, hb.cell 0, hb.frozen 0, hb.lt, hg, hb, ho, WAt.apart hb ho, rfl⟩
theorem app_wrote {B : Nat} {v v' : Value} {bs : List Nat} {w w' : World} (hown : OwnV w' B 5 v' bs) (hg : w.grownBy w' v.ownBlock) (hl : v'.ownBlock = v.ownBlock ∨ v'.ownBlock = some w.heap.size) : Wrote B v v' bs w w' := by
  refine ⟨hown, (Kept.refl _ _).grown hg (fun k hk => .inl (mem_ownL.2 hk)), ?_⟩
  intro k hk
  rcases hl with h5 | h5
  · exact .inl (mem_ownL.2 (by rw [← h5]; exact mem_ownL.1 hk))
  · have := mem_ownL.1 hk
    rw [h5] at this
    simp only [Option.some.injEq] at this
    exact .inr (by omega)

set_option maxRecDepth 100000 in
set_option maxHeartbeats 3200000 in
theorem wtext_any (x : ByteArray) (g B : Nat) (F : List Nat) (s : List Nat × Bool) (w : World) (h : WAt w g B F s) (hl : s.1.length ≤ 549755813888) (hsz : x.size ≤ maxLen) :
    Calls Tryz.prog 73 #[.pointer (some ⟨g, 0, none⟩), .string x] w fun e w' => WPostW cStr 4106 g B F s (strB x) w e w' := by
  have H := Lib.hid h
  obtain ⟨n, hn⟩ : ∃ n, x.size = n := ⟨_, rfl⟩
  have HSL := Lib.hid (strB_len x)
  have HSB := Lib.hid (strB_byte x)
  rw [hn] at HSL hsz
  have HN := Lib.hid hn
  have hsn := hn
  unfold maxLen at hsz
  clear h hn
  go_enter Tryz.func73, Tryz.ntmps73
  go_wp2_with (fail)
  refine (wlen_any n 4096 g B F s w H.out (by omega) (by decide) hl).mono ?_
  rintro e w2 (⟨hc, rfl, h2, k2⟩ | ⟨hc, rfl, F2, s2, h2, t2, k2, g2⟩)
  · have FIN := Lib.hid (show WEnd cStr 4106 g B F s (strB x) w w2 from ⟨F, _, h2, WStep.text_over HSB.out (by rw [HSL.out]; exact hc), k2, Grows.refl _ _⟩)
    clear h2 k2
    go_wp2
    go_end0
    exact ⟨rfl, FIN.out⟩
  · obtain ⟨v, c0, f0, lt, hg, HB, HO, HNE, rfl⟩ := h2.opened
    have T2 := Lib.hid (WLen.text HSB.out (by rw [HSL.out]; exact hc) (by rw [HSL.out]; exact t2))
    have L2 := Lib.hid t2.1
    have K2 := Lib.hid k2
    have G2 := Lib.hid g2
    have hB := h2.le
    clear h2 t2 k2 g2
    go_wp2_with (at_builtin; go_must (refine app_string _ rfl (.tmp 12) (.tmp 13) 33 9 5 rfl Tryz.underlying33 Tryz.underlying9 byte_info B v s2.1 (by rfl) HO.out x (by rfl) (by have := L2.out; rw [HN.out]; omega) hB ?_))
    intro v4 w4 hown hg4 hl4
    have hw4 := app_wrote hown hg4 hl4
    obtain ⟨a4, n4, m4, rfl, _⟩ := hown.parts
    have hb4 := hw4.2.1.out.blk HB.out HNE.out
    have k4 : w4.cell? ⟨g, 0, none⟩ = some v := hb4.cell 0
    have f4 := hb4.frozen 0
    have l4 := hb4.lt
    have W4 := Lib.hid hw4
    clear hown hg4 hl4 hw4 hb4
    go_wp2
    go_end0
    obtain ⟨F', h5, h6, h7⟩ := W4.out.stored HB.out hg HNE.out
    exact ⟨rfl, F', _, h5, T2.out, K2.out.trans h6 G2.out, G2.out.trans h7 K2.out.size⟩
-- GEN
theorem rd_ints_at {ok : Nat → Prop} {w : World} {k : IntKind} {sz : Nat} {a : Option Addr} {n c : Nat} {xs : List Int} (h : Rd ok w (.slice (.int k) sz) [.slice a n c] xs) (i : Nat) (hi : i < n) :
    ∃ (b off : Nat) (x : Int), a = some ⟨b, off, none⟩ ∧ b < w.heap.size ∧ xs[i]? = some x ∧ (Lit.int k x).wf = true ∧ w.cell? ⟨b, off + i, none⟩ = some (.int k x) := by
  obtain ⟨b, off, x, vs, ha, _, hlt, hx, hl, hc, hr⟩ := Rd.elem (e := .int k) h i hi
  obtain ⟨rfl, hw⟩ := Rd.int_is hr
  have := hc 0 Nat.zero_lt_one
  rw [show off + i * Sh.cells (.int k) + 0 = off + i by simp [Sh.cells]] at this
  exact ⟨b, off, x, ha, hlt, hx, hw, this⟩
theorem rd_strs_at {ok : Nat → Prop} {w : World} {sz : Nat} {a : Option Addr} {n c : Nat} {xs : List ByteArray} (h : Rd ok w (.slice .str sz) [.slice a n c] xs) (i : Nat) (hi : i < n) :
    ∃ (b off : Nat) (x : ByteArray), a = some ⟨b, off, none⟩ ∧ b < w.heap.size ∧ xs[i]? = some x ∧ x.size ≤ 140737488351232 ∧ w.cell? ⟨b, off + i, none⟩ = some (.string x) := by
  obtain ⟨b, off, x, vs, ha, _, hlt, hx, hl, hc, hr⟩ := Rd.elem (e := .str) h i hi
  obtain ⟨rfl, hw⟩ := Rd.str_is hr
  have := hc 0 (by decide)
  rw [show off + i * Sh.cells .str + 0 = off + i by simp [Sh.cells]] at this
  exact ⟨b, off, x, ha, hlt, hx, hw, this⟩
set_option maxRecDepth 100000 in
set_option maxHeartbeats 3200000 in
theorem wbytes_any (a : Option Addr) (n c : Nat) (bs : List Nat) (g B : Nat) (F : List Nat) (s : List Nat × Bool) (w : World) (h : WAt w g B F s) (hl : s.1.length ≤ 549755813888) (hr : ∀ w', Below B w w' → BReads w' a n c bs) :
    Calls Tryz.prog 83 #[.pointer (some ⟨g, 0, none⟩), .slice a n c] w fun e w' => WPostW cStr 4106 g B F s bs w e w' := by
  have H := Lib.hid h
  have hr0 := hr w (Below.refl _ _)
  have HSL := Lib.hid hr0.len
  have HSB := Lib.hid hr0.byte
  have hsm := hr0.small
  have HR := Lib.hid hr
  have hle := h.le
  clear h hr hr0
  go_enter Tryz.func83, Tryz.ntmps83
  go_wp2_with (fail)
  refine (wlen_any n 4096 g B F s w H.out (by omega) (by decide) hl).mono ?_
  rintro e w2 (⟨hc, rfl, h2, k2⟩ | ⟨hc, rfl, F2, s2, h2, t2, k2, g2⟩)
  · have FIN := Lib.hid (show WEnd cStr 4106 g B F s bs w w2 from ⟨F, _, h2, WStep.text_over HSB.out (by rw [HSL.out]; exact hc), k2, Grows.refl _ _⟩)
    clear h2 k2
    go_wp2
    go_end0
    exact ⟨rfl, FIN.out⟩
  · obtain ⟨v, c0, f0, lt, hg, HB, HO, HNE, rfl⟩ := h2.opened
    have T2 := Lib.hid (WLen.text HSB.out (by rw [HSL.out]; exact hc) (by rw [HSL.out]; exact t2))
    have L2 := Lib.hid t2.1
    have R2 := Lib.hid (HR.out w2 (H.out.below k2 hle))
    have K2 := Lib.hid k2
    have G2 := Lib.hid g2
    have hB := h2.le
    clear h2 t2 k2 g2
    go_wp2_with (at_builtin; go_must (refine app_bytes _ rfl (.tmp 12) (.tmp 13) 33 5 rfl Tryz.underlying33 byte_info B v s2.1 (by rfl) HO.out a n c bs (by rfl) R2.out (by have := L2.out; omega) hB ?_))
    intro v4 w4 hown hg4 hl4
    have hw4 := app_wrote hown hg4 hl4
    obtain ⟨a4, n4, m4, rfl, _⟩ := hown.parts
    have hb4 := hw4.2.1.out.blk HB.out HNE.out
    have k4 : w4.cell? ⟨g, 0, none⟩ = some v := hb4.cell 0
    have f4 := hb4.frozen 0
    have l4 := hb4.lt
    have W4 := Lib.hid hw4
    clear hown hg4 hl4 hw4 hb4
    go_wp2
    go_end0
    obtain ⟨F', h5, h6, h7⟩ := W4.out.stored HB.out hg HNE.out
    exact ⟨rfl, F', _, h5, T2.out, K2.out.trans h6 G2.out, G2.out.trans h7 K2.out.size⟩

set_option maxRecDepth 100000 in
set_option maxHeartbeats 3200000 in
theorem wlist_str (a : Option Addr) (n c : Nat) (xs : List ByteArray) (g B : Nat) (F : List Nat) (s : List Nat × Bool) (w : World) (h : WAt w g B F s) (hl : s.1.length ≤ 412316860416) (hx : Rd (· < B) w (.slice Sh.str 16) [.slice a n c] xs) :
    Calls Tryz.prog 130 #[.pointer (some ⟨g, 0, none⟩), .slice a n c, .func (.func 73) #[.pointer (some ⟨g, 0, none⟩)] #[]] w fun e w' => WPostW (cMany cStr) (10 + 128 * 4106) g B F s (xs.map strB) w e w' := by
  have H := Lib.hid h
  have HX := Lib.hid hx
  obtain ⟨_, _, _, hcs, hlen, hsm, _⟩ := Rd.slice_is (e := Sh.str) hx
  simp only [List.cons.injEq, Value.slice.injEq, and_true] at hcs
  obtain ⟨rfl, rfl, rfl⟩ := hcs
  have HL := hlen
  have HLB := Lib.hid (show (xs.map strB).length = n by rw [List.length_map]; exact hlen.out)
  have hle := h.le
  clear h hx hlen
  go_enter Tryz.func130, Tryz.ntmps130
  go_wp2_with (fail)
  refine (wlen_any n 128 g B F s w H.out (by omega) (by decide) (by omega)).mono ?_
  rintro e w2 (⟨hc, rfl, h2, k2⟩ | ⟨hc, rfl, F2, s2, h2, t2, k2, g2⟩)
  · have FIN := Lib.hid (show WEnd (cMany cStr) (10 + 128 * 4106) g B F s (xs.map strB) w w2 from ⟨F, _, h2, WStep.over (by rw [HLB.out]; exact hc), k2, Grows.refl _ _⟩)
    clear h2 k2
    go_wp2
    go_end0
    exact ⟨rfl, FIN.out⟩
  · have ST := Lib.hid (show ∃ F' s', WAt w2 g B F' s' ∧ WMany cStr 4106 (xs.map strB) 0 s s' ∧ Kept F w w2 ∧ Grows w F F' from ⟨F2, s2, h2, WMany.start (by rw [HLB.out]; exact t2), k2, g2⟩)
    clear h2 t2 k2 g2
    go_wp2_with (fail)
    go_loopw [7, 15] (fun _ s15 wr => ∃ i : Nat, s15 = .int .i64 i ∧ i ≤ n ∧ Hid (∃ F' s', WAt wr g B F' s' ∧ WMany cStr 4106 (xs.map strB) i s s' ∧ Kept F w wr ∧ Grows w F F')) (fun _ s15 _ => n - (intOf s15).toNat)
    case atStart => exact ⟨0, rfl, by omega, ST.out⟩
    case round =>
      clear ST
      obtain ⟨i, rfl, hi, HI⟩ := hrel
      obtain ⟨F3, s3, h3, t3, k3, g3⟩ := HI.out
      have hll : s3.1.length ≤ 549755813888 := by
        have h1 := t3.1
        have h2 : i * 4106 ≤ 128 * 4106 := Nat.mul_le_mul_right _ (by omega)
        omega
      have HXr := Lib.hid (HX.out.stay k3.size (fun k hk _ => (H.out.below k3 hle).block k hk) (fun _ h _ => h))
      have H3 := Lib.hid h3
      have T3 := Lib.hid t3
      have K3 := Lib.hid k3
      have G3 := Lib.hid g3
      clear h3 t3 k3 g3 HI
      by_cases hin : i < n
      · obtain ⟨b, off, x, rfl, hlt, hget, hsz, hcell⟩ := rd_strs_at HXr.out i hin
        have HG := Lib.hid (show (xs.map strB)[i]? = some (strB x) by rw [List.getElem?_map, hget, Option.map_some])
        clear hget 
        go_wp2_with (fail)
        refine (wtext_any x g B F3 s3 wr H3.out hll (by unfold maxLen; omega)).mono ?_
        rintro e w4 ⟨rfl, F4, s4, h4, t4, k4, g4⟩
        have NX := Lib.hid (show ∃ F' s', WAt w4 g B F' s' ∧ WMany cStr 4106 (xs.map strB) (i + 1) s s' ∧ Kept F w w4 ∧ Grows w F F' from ⟨F4, s4, h4, T3.out.next HG.out t4, K3.out.trans k4 G3.out, G3.out.trans g4 K3.out.size⟩)
        clear h4 t4 k4 g4 H3 T3 K3 G3
        go_wp2
        go_roundw
        case rel => exact ⟨i + 1, by go_num, by omega, NX.out⟩
        case measure => simp [intOf]; omega
      · have hin' : i = n := by omega
        subst hin'
        have FIN := Lib.hid (show WEnd (cMany cStr) (10 + 128 * 4106) g B F s (xs.map strB) w wr from ⟨F3, s3, H3.out, T3.out.done (by rw [HLB.out]) (by rw [HLB.out]; omega), K3.out, G3.out⟩)
        go_wp2
        go_end0
        exact ⟨rfl, FIN.out⟩

theorem wtexts_any (a : Option Addr) (n c : Nat) (xs : List ByteArray) (g B : Nat) (F : List Nat) (s : List Nat × Bool) (w : World) (h : WAt w g B F s) (hl : s.1.length ≤ 412316860416) (hx : Rd (· < B) w (.slice Sh.str 16) [.slice a n c] xs) :
    Calls Tryz.prog 85 #[.pointer (some ⟨g, 0, none⟩), .slice a n c] w fun e w' => WPostW (cMany cStr) (10 + 128 * 4106) g B F s (xs.map strB) w e w' := by
  have H := Lib.hid h
  have HX := Lib.hid hx
  clear h hx
  go_enter Tryz.func85, Tryz.ntmps85
  go_wp2_with (fail)
  refine (wlist_str a n c xs g B F s w H.out hl HX.out).mono ?_
  rintro e w2 ⟨rfl, F', s', h1, h2, h3, h4⟩
  have H2 := Lib.hid (show WEnd (cMany cStr) (10 + 128 * 4106) g B F s (xs.map strB) w w2 from ⟨F', s', h1, h2, h3, h4⟩)
  clear h1 h2 h3 h4
  go_wp2
  go_end0
  exact ⟨rfl, H2.out⟩

theorem i32_bounds {x : Int} (h : (Lit.int .i32 x).wf = true) : -2147483648 ≤ x ∧ x ≤ 2147483647 := by
  simp [Lit.wf, IntKind.min, IntKind.max, IntKind.signed, IntKind.bits] at h
  omega
set_option maxRecDepth 100000 in
theorem wvec1_any (x : Int) (bx g B : Nat) (F : List Nat) (s : List Nat × Bool) (w : World) (h : WAt w g B F s) (hl : s.1.length ≤ 549755813888) (hb : Blk w bx 124 [.pointer (some ⟨g, 0, none⟩)]) (hx : -2147483648 ≤ x ∧ x ≤ 2147483647) :
    Calls Tryz.prog 128 #[.int .i32 x, .pointer (some ⟨bx, 0, none⟩)] w fun e w' => WPostW (cInt (-2147483648) 2147483647) 10 g B F s x w e w' := by
  have H := Lib.hid h
  have c0 : w.cell? ⟨bx, 0, none⟩ = some (.pointer (some ⟨g, 0, none⟩)) := hb.cell 0
  have lt := hb.lt
  have hw : IntKind.i64.wrap x = x := by rw [IntKind.wrap_i64]; omega
  have HX := Lib.hid hx
  clear h hb hx
  go_enter Tryz.func128, Tryz.ntmps128
  go_wp2_with (fail)
  refine (wwhole_any (-2147483648) 2147483647 x g B F s w H.out HX.out (by have := HX.out; omega) (by have := HX.out; omega) hl).mono ?_
  rintro e w2 ⟨rfl, F', s', h1, h2, h3, h4⟩
  have H2 := Lib.hid (show WEnd (cInt (-2147483648) 2147483647) 10 g B F s x w w2 from ⟨F', s', h1, h2, h3, h4⟩)
  clear h1 h2 h3 h4
  go_wp2
  go_end0
  exact ⟨rfl, H2.out⟩

set_option maxRecDepth 100000 in
set_option maxHeartbeats 3200000 in
theorem wlist_i32 (a : Option Addr) (n c : Nat) (xs : List Int) (g B : Nat) (F : List Nat) (s : List Nat × Bool) (w : World) (bx : Nat) (HBX : Hid (Blk w bx 124 [.pointer (some ⟨g, 0, none⟩)])) (HBF : Hid (bx ∉ F)) (h : WAt w g B F s) (hl : s.1.length ≤ 412316860416) (hx : Rd (· < B) w (.slice (Sh.int .i32) 4) [.slice a n c] xs) :
    Calls Tryz.prog 127 #[.pointer (some ⟨g, 0, none⟩), .slice a n c, .func (.func 128) #[] #[.pointer (some ⟨bx, 0, none⟩)]] w fun e w' => WPostW (cMany (cInt (-2147483648) 2147483647)) (10 + 128 * 10) g B F s (xs.map id) w e w' := by
  have H := Lib.hid h
  have HX := Lib.hid hx
  obtain ⟨_, _, _, hcs, hlen, hsm, _⟩ := Rd.slice_is (e := (Sh.int .i32)) hx
  simp only [List.cons.injEq, Value.slice.injEq, and_true] at hcs
  obtain ⟨rfl, rfl, rfl⟩ := hcs
  have HL := hlen
  have HLB := Lib.hid (show (xs.map id).length = n by rw [List.length_map]; exact hlen.out)
  have hle := h.le
  clear h hx hlen
  go_enter Tryz.func127, Tryz.ntmps127
  go_wp2_with (fail)
  refine (wlen_any n 128 g B F s w H.out (by omega) (by decide) (by omega)).mono ?_
  rintro e w2 (⟨hc, rfl, h2, k2⟩ | ⟨hc, rfl, F2, s2, h2, t2, k2, g2⟩)
  · have FIN := Lib.hid (show WEnd (cMany (cInt (-2147483648) 2147483647)) (10 + 128 * 10) g B F s (xs.map id) w w2 from ⟨F, _, h2, WStep.over (by rw [HLB.out]; exact hc), k2, Grows.refl _ _⟩)
    clear h2 k2
    go_wp2
    go_end0
    exact ⟨rfl, FIN.out⟩
  · have ST := Lib.hid (show ∃ F' s', WAt w2 g B F' s' ∧ WMany (cInt (-2147483648) 2147483647) 10 (xs.map id) 0 s s' ∧ Kept F w w2 ∧ Grows w F F' from ⟨F2, s2, h2, WMany.start (by rw [HLB.out]; exact t2), k2, g2⟩)
    clear h2 t2 k2 g2
    go_wp2_with (fail)
    go_loopw [7, 15] (fun _ s15 wr => ∃ i : Nat, s15 = .int .i64 i ∧ i ≤ n ∧ Hid (∃ F' s', WAt wr g B F' s' ∧ WMany (cInt (-2147483648) 2147483647) 10 (xs.map id) i s s' ∧ Kept F w wr ∧ Grows w F F')) (fun _ s15 _ => n - (intOf s15).toNat)
    case atStart => exact ⟨0, rfl, by omega, ST.out⟩
    case round =>
      clear ST
      obtain ⟨i, rfl, hi, HI⟩ := hrel
      obtain ⟨F3, s3, h3, t3, k3, g3⟩ := HI.out
      have hll : s3.1.length ≤ 549755813888 := by
        have h1 := t3.1
        have h2 : i * 10 ≤ 128 * 10 := Nat.mul_le_mul_right _ (by omega)
        omega
      have HXr := Lib.hid (HX.out.stay k3.size (fun k hk _ => (H.out.below k3 hle).block k hk) (fun _ h _ => h))
      have H3 := Lib.hid h3
      have T3 := Lib.hid t3
      have K3 := Lib.hid k3
      have G3 := Lib.hid g3
      clear h3 t3 k3 g3 HI
      by_cases hin : i < n
      · obtain ⟨b, off, x, rfl, hlt, hget, hwf, hcell⟩ := rd_ints_at HXr.out i hin
        have HG := Lib.hid (show (xs.map id)[i]? = some (id x) by rw [List.getElem?_map, hget, Option.map_some])
        clear hget 
        go_wp2_with (fail)
        refine (wvec1_any x bx g B F3 s3 wr H3.out hll (K3.out.blk HBX.out HBF.out) (i32_bounds hwf)).mono ?_
        rintro e w4 ⟨rfl, F4, s4, h4, t4, k4, g4⟩
        have NX := Lib.hid (show ∃ F' s', WAt w4 g B F' s' ∧ WMany (cInt (-2147483648) 2147483647) 10 (xs.map id) (i + 1) s s' ∧ Kept F w w4 ∧ Grows w F F' from ⟨F4, s4, h4, T3.out.next HG.out t4, K3.out.trans k4 G3.out, G3.out.trans g4 K3.out.size⟩)
        clear h4 t4 k4 g4 H3 T3 K3 G3
        go_wp2
        go_roundw
        case rel => exact ⟨i + 1, by go_num, by omega, NX.out⟩
        case measure => simp [intOf]; omega
      · have hin' : i = n := by omega
        subst hin'
        have FIN := Lib.hid (show WEnd (cMany (cInt (-2147483648) 2147483647)) (10 + 128 * 10) g B F s (xs.map id) w wr from ⟨F3, s3, H3.out, T3.out.done (by rw [HLB.out]) (by rw [HLB.out]; omega), K3.out, G3.out⟩)
        go_wp2
        go_end0
        exact ⟨rfl, FIN.out⟩

set_option maxRecDepth 100000 in
theorem wvec_any (a : Option Addr) (n c : Nat) (xs : List Int) (g B : Nat) (F : List Nat) (s : List Nat × Bool) (w : World) (h : WAt w g B F s) (hl : s.1.length ≤ 412316860416) (hx : Rd (· < B) w (.slice (.int .i32) 4) [.slice a n c] xs) :
    Calls Tryz.prog 78 #[.pointer (some ⟨g, 0, none⟩), .slice a n c] w fun e w' => WPostW cVec (10 + 128 * 10) g B F s xs w e w' := by
  obtain ⟨w1, hw1⟩ : ∃ w1, w.alloc (.cells #[.pointer (some ⟨g, 0, none⟩)] 124) = w1 := ⟨_, rfl⟩
  have K1 := Lib.hid (show Kept F w w1 from by rw [← hw1]; exact (Kept.refl _ _).alloc _)
  have X1 := Lib.hid (show Blk w1 w.heap.size 124 [.pointer (some ⟨g, 0, none⟩)] from by rw [← hw1]; exact Blk.new w _ _)
  have H1 := Lib.hid (show WAt w1 g B F s from by rw [← hw1]; exact h.kept (G := []) ((Kept.refl _ _).alloc _) (by simp))
  have HX1 := Lib.hid (show Rd (· < B) w1 (.slice (.int .i32) 4) [.slice a n c] xs from by rw [← hw1]; exact Rd.alloc hx _)
  have HF := Lib.hid (show w.heap.size ∉ F from fun hf => by have := h.lt _ hf; omega)
  have c0 : w1.cell? ⟨w.heap.size, 0, none⟩ = some (.pointer (some ⟨g, 0, none⟩)) := X1.out.cell 0
  have lt := X1.out.lt
  have hs1 := K1.out.size
  clear h hx
  go_enter Tryz.func78, Tryz.ntmps78
  go_wp2_with (fail)
  try rw [hw1]
  clear hw1
  refine (wlist_i32 a n c xs g B F s w1 w.heap.size X1 HF H1.out hl HX1.out).mono ?_
  rintro e w2 ⟨rfl, F', s', h1, h2, h3, h4⟩
  rw [List.map_id] at h2
  have H2 := Lib.hid (show WEnd cVec (10 + 128 * 10) g B F s xs w w2 from ⟨F', s', h1, h2, K1.out.trans h3 (Grows.refl _ _), (Grows.refl _ _).trans h4 hs1⟩)
  clear h1 h2 h3 h4
  go_wp2
  go_end0
  exact ⟨rfl, H2.out⟩

theorem WStep.dead {α β : Type} {C : Cod α} {D : Cod β} {m : Nat} {bs : List Nat} {bad : Bool} {a : α} {b : β} {s' : List Nat × Bool} (h : WStep C m (bs, true) a s') (hf : ¬ D.fits b) : WStep D m (bs, bad) b s' := by
  obtain ⟨h1, h2, _⟩ := h
  have h0 : s'.2 ≠ false := fun e => by have := (h2.1 e).1; cases this
  exact ⟨h1, ⟨fun e => absurd e h0, fun e => absurd e.2 hf⟩, fun e => absurd e h0⟩
theorem WEnd.from {α : Type} {C : Cod α} {m g B : Nat} {F : List Nat} {s : List Nat × Bool} {a : α} {w w1 w2 : World} (h : WEnd C m g B F s a w1 w2) (k : Kept F w w1) : WEnd C m g B F s a w w2 := by
  obtain ⟨F', s', h1, h2, h3, h4⟩ := h
  exact ⟨F', s', h1, h2, k.trans h3 (Grows.refl _ _), (Grows.refl _ _).trans h4 k.size⟩

set_option maxRecDepth 100000 in
theorem wmetric_any (n g B : Nat) (F : List Nat) (s : List Nat × Bool) (w : World) (h : WAt w g B F s) (hl : s.1.length ≤ 549755813888) (hn : n ≤ 255) :
    Calls Tryz.prog 125 #[.pointer (some ⟨g, 0, none⟩), .int .u8 n] w fun e w' => WPostW (cNum 1 (by decide)) 10 g B F s n w e w' := by
  have H := Lib.hid h
  obtain ⟨c1, f1, lt⟩ := h.badCell
  have hwn : IntKind.u64.wrap (n : Int) = (n : Int) := by rw [IntKind.wrap_u64]; omega
  clear h
  go_enter Tryz.func125, Tryz.ntmps125
  by_cases hc : 1 < n
  · have hc' : (1 : Int) < (n : Int) := by omega
    obtain ⟨h1, k1⟩ := H.out.mark
    have H1 := Lib.hid h1
    have K1 := Lib.hid k1
    clear h1 k1
    go_wp2_with (fail)
    refine (wnum_any 255 n g B (by decide) F (s.1, true) _ H1.out hn hl).mono ?_
    rintro e w2 ⟨rfl, F', s', h1, h2, h3, h4⟩
    have H2 := Lib.hid (WEnd.from (show WEnd (cNum 1 (by decide)) 10 g B F s n _ w2 from ⟨F', s', h1, WStep.dead h2 (fun hf => by have : n ≤ 1 := hf; omega), h3, h4⟩) K1.out)
    clear h1 h2 h3 h4 K1 H1
    go_wp2
    go_end0
    exact ⟨rfl, H2.out⟩
  · have hc' : ¬ (1 : Int) < (n : Int) := by omega
    go_wp2_with (fail)
    refine (wnum_any 1 n g B (by decide) F s w H.out (by omega) hl).mono ?_
    rintro e w2 ⟨rfl, F', s', h1, h2, h3, h4⟩
    have H2 := Lib.hid (show WEnd (cNum 1 (by decide)) 10 g B F s n w w2 from ⟨F', s', h1, h2, h3, h4⟩)
    clear h1 h2 h3 h4
    go_wp2
    go_end0
    exact ⟨rfl, H2.out⟩

set_option maxRecDepth 100000 in
set_option maxHeartbeats 3200000 in
theorem wconf_any (x : ByteArray) (dim metric links width : Nat) (graph : Bool) (g B : Nat) (F : List Nat) (s : List Nat × Bool) (w : World) (h : WAt w g B F s) (hl : s.1.length ≤ 400000000000) (hx : x.size ≤ maxLen) (h1 : dim ≤ 255) (h2 : metric ≤ 255) (h3 : links ≤ 255) (h4 : width ≤ 65535) :
    Calls Tryz.prog 75 #[.pointer (some ⟨g, 0, none⟩), .agg #[.string x, .int .u8 (dim : Int), .int .u8 (metric : Int), .bool graph, .int .u8 (links : Int), .int .u16 (width : Int)]] w fun e w' => WPostW cConf (4106 + (10 + (10 + (10 + (10 + 10))))) g B F s ⟨strB x, dim, metric, graph, links, width⟩ w e w' := by
  have hB := h.le
  have hw1 : IntKind.u64.wrap (dim : Int) = (dim : Int) := by rw [IntKind.wrap_u64]; omega
  have hw2 : IntKind.u64.wrap (links : Int) = (links : Int) := by rw [IntKind.wrap_u64]; omega
  have hw3 : IntKind.u64.wrap (width : Int) = (width : Int) := by rw [IntKind.wrap_u64]; omega
  obtain ⟨w1, hw1⟩ : ∃ w1, w.alloc (.cells #[.string x, .int .u8 (dim : Int), .int .u8 (metric : Int), .bool graph, .int .u8 (links : Int), .int .u16 (width : Int)] 27) = w1 := ⟨_, rfl⟩
  have K0 := Lib.hid (show Kept F w w1 from by rw [← hw1]; exact (Kept.refl _ _).alloc _)
  have X1 := Lib.hid (show Blk w1 w.heap.size 27 [.string x, .int .u8 (dim : Int), .int .u8 (metric : Int), .bool graph, .int .u8 (links : Int), .int .u16 (width : Int)] from by rw [← hw1]; exact Blk.new w _ _)
  have H1 := Lib.hid (show WAt w1 g B F s from by rw [← hw1]; exact h.kept (G := []) ((Kept.refl _ _).alloc _) (by simp))
  have HF := Lib.hid (show w.heap.size ∉ F from fun hf => by have := h.lt _ hf; omega)
  have B1 := Lib.hid (show Below B w w1 from by rw [← hw1]; exact (Below.refl _ _).alloc hB _)
  have K1 := Lib.hid (Kept.refl F w1)
  have G1 := Lib.hid (Grows.refl w1 F)
  clear h
  go_enter Tryz.func75, Tryz.ntmps75
  have c0_1 : w1.cell? ⟨w.heap.size, 0, none⟩ = some (.string x) := (K1.out.blk X1.out HF.out).cell 0
  have lt1 := (K1.out.blk X1.out HF.out).lt
  go_wp2_with (fail)
  try rw [hw1]
  clear hw1
  refine (wtext_any x g B F s w1 H1.out (by omega) hx).mono ?_
  rintro e w2 ⟨rfl, F2, s2, h, t, k, gg⟩
  have H2 := Lib.hid h
  have T2 := Lib.hid t
  have K2 := Lib.hid (K1.out.trans k G1.out)
  have G2 := Lib.hid (G1.out.trans gg K1.out.size)
  have B2 := Lib.hid (B1.out.trans (H1.out.below k (H1.out.le)))
  have L2 := t.1
  clear h t k gg H1 lt1 c0_1
  have c1_2 : w2.cell? ⟨w.heap.size, 1, none⟩ = some (.int .u8 (dim : Int)) := (K2.out.blk X1.out HF.out).cell 1
  have lt2 := (K2.out.blk X1.out HF.out).lt
  go_wp2_with (fail)
  refine (wnum_any 255 dim g B (by decide) F2 s2 w2 H2.out h1 (by omega)).mono ?_
  rintro e w3 ⟨rfl, F3, s3, h, t, k, gg⟩
  have H3 := Lib.hid h
  have T3 := Lib.hid t
  have K3 := Lib.hid (K2.out.trans k G2.out)
  have G3 := Lib.hid (G2.out.trans gg K2.out.size)
  have B3 := Lib.hid (B2.out.trans (H2.out.below k (H2.out.le)))
  have L3 := t.1
  clear h t k gg H2 lt2 c1_2
  have c2_3 : w3.cell? ⟨w.heap.size, 2, none⟩ = some (.int .u8 (metric : Int)) := (K3.out.blk X1.out HF.out).cell 2
  have lt3 := (K3.out.blk X1.out HF.out).lt
  go_wp2_with (fail)
  refine (wmetric_any metric g B F3 s3 w3 H3.out (by omega) h2).mono ?_
  rintro e w4 ⟨rfl, F4, s4, h, t, k, gg⟩
  have H4 := Lib.hid h
  have T4 := Lib.hid t
  have K4 := Lib.hid (K3.out.trans k G3.out)
  have G4 := Lib.hid (G3.out.trans gg K3.out.size)
  have B4 := Lib.hid (B3.out.trans (H3.out.below k (H3.out.le)))
  have L4 := t.1
  clear h t k gg H3 lt3 c2_3
  have c3_4 : w4.cell? ⟨w.heap.size, 3, none⟩ = some (.bool graph) := (K4.out.blk X1.out HF.out).cell 3
  have lt4 := (K4.out.blk X1.out HF.out).lt
  go_wp2_with (fail)
  refine (wflag_any graph g B F4 s4 w4 H4.out (by omega)).mono ?_
  rintro e w5 ⟨rfl, F5, s5, h, t, k, gg⟩
  have H5 := Lib.hid h
  have T5 := Lib.hid t
  have K5 := Lib.hid (K4.out.trans k G4.out)
  have G5 := Lib.hid (G4.out.trans gg K4.out.size)
  have B5 := Lib.hid (B4.out.trans (H4.out.below k (H4.out.le)))
  have L5 := t.1
  clear h t k gg H4 lt4 c3_4
  have c4_5 : w5.cell? ⟨w.heap.size, 4, none⟩ = some (.int .u8 (links : Int)) := (K5.out.blk X1.out HF.out).cell 4
  have lt5 := (K5.out.blk X1.out HF.out).lt
  go_wp2_with (fail)
  refine (wnum_any 255 links g B (by decide) F5 s5 w5 H5.out h3 (by omega)).mono ?_
  rintro e w6 ⟨rfl, F6, s6, h, t, k, gg⟩
  have H6 := Lib.hid h
  have T6 := Lib.hid t
  have K6 := Lib.hid (K5.out.trans k G5.out)
  have G6 := Lib.hid (G5.out.trans gg K5.out.size)
  have B6 := Lib.hid (B5.out.trans (H5.out.below k (H5.out.le)))
  have L6 := t.1
  clear h t k gg H5 lt5 c4_5
  have c5_6 : w6.cell? ⟨w.heap.size, 5, none⟩ = some (.int .u16 (width : Int)) := (K6.out.blk X1.out HF.out).cell 5
  have lt6 := (K6.out.blk X1.out HF.out).lt
  go_wp2_with (fail)
  refine (wnum_any 65535 width g B (by decide) F6 s6 w6 H6.out h4 (by omega)).mono ?_
  rintro e w7 ⟨rfl, F7, s7, h, t, k, gg⟩
  have H7 := Lib.hid h
  have T7 := Lib.hid t
  have K7 := Lib.hid (K6.out.trans k G6.out)
  have G7 := Lib.hid (G6.out.trans gg K6.out.size)
  have B7 := Lib.hid (B6.out.trans (H6.out.below k (H6.out.le)))
  have L7 := t.1
  clear h t k gg H6 lt6 c5_6
  have FIN := Lib.hid (WEnd.from (show WEnd cConf (4106 + (10 + (10 + (10 + (10 + 10))))) g B F s ⟨strB x, dim, metric, graph, links, width⟩ w1 w7 from ⟨F7, s7, H7.out, WStep.map (T2.out.pair (T3.out.pair (T4.out.pair (T5.out.pair (T6.out.pair T7.out))))) rfl, K7.out, G7.out⟩) K0.out)
  clear T2 K2 G2 L2 T3 K3 G3 L3 T4 K4 G4 L4 T5 K5 G5 L5 T6 K6 G6 L6 T7 K7 G7 L7
  go_wp2
  go_end0
  exact ⟨rfl, FIN.out⟩

set_option maxRecDepth 100000 in
set_option maxHeartbeats 3200000 in
theorem wfilter_any (pa pb pc : SlL) (xa xb xc : List ByteArray) (g B : Nat) (F : List Nat) (s : List Nat × Bool) (w : World) (h : WAt w g B F s) (hl : s.1.length ≤ 400000000000) (ra0 : Rd (· < B) w shTags [.slice pa.a pa.n pa.c] xa) (rb0 : Rd (· < B) w shTags [.slice pb.a pb.n pb.c] xb) (rc0 : Rd (· < B) w shTags [.slice pc.a pc.n pc.c] xc) :
    Calls Tryz.prog 81 #[.pointer (some ⟨g, 0, none⟩), .agg #[.slice pa.a pa.n pa.c, .slice pb.a pb.n pb.c, .slice pc.a pc.n pc.c]] w fun e w' => WPostW cFilter ((10 + 128 * 4106) + ((10 + 128 * 4106) + (10 + 128 * 4106))) g B F s ⟨toTags xa, toTags xb, toTags xc⟩ w e w' := by
  have hB := h.le

  obtain ⟨w1, hw1⟩ : ∃ w1, w.alloc (.cells #[.slice pa.a pa.n pa.c, .slice pb.a pb.n pb.c, .slice pc.a pc.n pc.c] 32) = w1 := ⟨_, rfl⟩
  have K0 := Lib.hid (show Kept F w w1 from by rw [← hw1]; exact (Kept.refl _ _).alloc _)
  have X1 := Lib.hid (show Blk w1 w.heap.size 32 [.slice pa.a pa.n pa.c, .slice pb.a pb.n pb.c, .slice pc.a pc.n pc.c] from by rw [← hw1]; exact Blk.new w _ _)
  have H1 := Lib.hid (show WAt w1 g B F s from by rw [← hw1]; exact h.kept (G := []) ((Kept.refl _ _).alloc _) (by simp))
  have HF := Lib.hid (show w.heap.size ∉ F from fun hf => by have := h.lt _ hf; omega)
  have B1 := Lib.hid (show Below B w w1 from by rw [← hw1]; exact (Below.refl _ _).alloc hB _)
  have K1 := Lib.hid (Kept.refl F w1)
  have G1 := Lib.hid (Grows.refl w1 F)
  clear h
  go_enter Tryz.func81, Tryz.ntmps81
  have c0_1 : w1.cell? ⟨w.heap.size, 0, none⟩ = some (.slice pa.a pa.n pa.c) := (K1.out.blk X1.out HF.out).cell 0
  have lt1 := (K1.out.blk X1.out HF.out).lt
  go_wp2_with (fail)
  try rw [hw1]
  clear hw1
  refine (wtexts_any pa.a pa.n pa.c xa g B F s w1 H1.out (by omega) (ra0.stay B1.out.size (fun k hk _ => B1.out.block k hk) (fun _ h _ => h))).mono ?_
  rintro e w2 ⟨rfl, F2, s2, h, t, k, gg⟩
  have H2 := Lib.hid h
  have T2 := Lib.hid t
  have K2 := Lib.hid (K1.out.trans k G1.out)
  have G2 := Lib.hid (G1.out.trans gg K1.out.size)
  have B2 := Lib.hid (B1.out.trans (H1.out.below k (H1.out.le)))
  have L2 := t.1
  clear h t k gg H1 lt1 c0_1
  have c1_2 : w2.cell? ⟨w.heap.size, 1, none⟩ = some (.slice pb.a pb.n pb.c) := (K2.out.blk X1.out HF.out).cell 1
  have lt2 := (K2.out.blk X1.out HF.out).lt
  go_wp2_with (fail)
  refine (wtexts_any pb.a pb.n pb.c xb g B F2 s2 w2 H2.out (by omega) (rb0.stay B2.out.size (fun k hk _ => B2.out.block k hk) (fun _ h _ => h))).mono ?_
  rintro e w3 ⟨rfl, F3, s3, h, t, k, gg⟩
  have H3 := Lib.hid h
  have T3 := Lib.hid t
  have K3 := Lib.hid (K2.out.trans k G2.out)
  have G3 := Lib.hid (G2.out.trans gg K2.out.size)
  have B3 := Lib.hid (B2.out.trans (H2.out.below k (H2.out.le)))
  have L3 := t.1
  clear h t k gg H2 lt2 c1_2
  have c2_3 : w3.cell? ⟨w.heap.size, 2, none⟩ = some (.slice pc.a pc.n pc.c) := (K3.out.blk X1.out HF.out).cell 2
  have lt3 := (K3.out.blk X1.out HF.out).lt
  go_wp2_with (fail)
  refine (wtexts_any pc.a pc.n pc.c xc g B F3 s3 w3 H3.out (by omega) (rc0.stay B3.out.size (fun k hk _ => B3.out.block k hk) (fun _ h _ => h))).mono ?_
  rintro e w4 ⟨rfl, F4, s4, h, t, k, gg⟩
  have H4 := Lib.hid h
  have T4 := Lib.hid t
  have K4 := Lib.hid (K3.out.trans k G3.out)
  have G4 := Lib.hid (G3.out.trans gg K3.out.size)
  have B4 := Lib.hid (B3.out.trans (H3.out.below k (H3.out.le)))
  have L4 := t.1
  clear h t k gg H3 lt3 c2_3
  have FIN := Lib.hid (WEnd.from (show WEnd cFilter ((10 + 128 * 4106) + ((10 + 128 * 4106) + (10 + 128 * 4106))) g B F s ⟨toTags xa, toTags xb, toTags xc⟩ w1 w4 from ⟨F4, s4, H4.out, WStep.map (T2.out.pair (T3.out.pair T4.out)) rfl, K4.out, G4.out⟩) K0.out)
  clear T2 K2 G2 L2 T3 K3 G3 L3 T4 K4 G4 L4
  go_wp2
  go_end0
  exact ⟨rfl, FIN.out⟩

set_option maxRecDepth 100000 in
set_option maxHeartbeats 3200000 in
theorem witem_any (id : Nat) (a : Option Addr) (n c : Nat) (a2 : Option Addr) (n2 c2 : Nat) (vec : List Int) (tags : List ByteArray) (g B : Nat) (F : List Nat) (s : List Nat × Bool) (w : World) (h : WAt w g B F s) (hl : s.1.length ≤ 400000000000) (hid : id ≤ 4294967295) (ra0 : Rd (· < B) w shVec [.slice a n c] vec) (rb0 : Rd (· < B) w shTags [.slice a2 n2 c2] tags) :
    Calls Tryz.prog 89 #[.pointer (some ⟨g, 0, none⟩), .agg #[.int .u32 (id : Int), .slice a n c, .slice a2 n2 c2]] w fun e w' => WPostW cItem (10 + ((10 + 128 * 10) + (10 + 128 * 4106))) g B F s ⟨id, vec, toTags tags⟩ w e w' := by
  have hB := h.le
  have hwid : IntKind.u64.wrap (id : Int) = (id : Int) := by rw [IntKind.wrap_u64]; omega
  obtain ⟨w1, hw1⟩ : ∃ w1, w.alloc (.cells #[.int .u32 (id : Int), .slice a n c, .slice a2 n2 c2] 79) = w1 := ⟨_, rfl⟩
  have K0 := Lib.hid (show Kept F w w1 from by rw [← hw1]; exact (Kept.refl _ _).alloc _)
  have X1 := Lib.hid (show Blk w1 w.heap.size 79 [.int .u32 (id : Int), .slice a n c, .slice a2 n2 c2] from by rw [← hw1]; exact Blk.new w _ _)
  have H1 := Lib.hid (show WAt w1 g B F s from by rw [← hw1]; exact h.kept (G := []) ((Kept.refl _ _).alloc _) (by simp))
  have HF := Lib.hid (show w.heap.size ∉ F from fun hf => by have := h.lt _ hf; omega)
  have B1 := Lib.hid (show Below B w w1 from by rw [← hw1]; exact (Below.refl _ _).alloc hB _)
  have K1 := Lib.hid (Kept.refl F w1)
  have G1 := Lib.hid (Grows.refl w1 F)
  clear h
  go_enter Tryz.func89, Tryz.ntmps89
  have c0_1 : w1.cell? ⟨w.heap.size, 0, none⟩ = some (.int .u32 (id : Int)) := (K1.out.blk X1.out HF.out).cell 0
  have lt1 := (K1.out.blk X1.out HF.out).lt
  go_wp2_with (fail)
  try rw [hw1]
  clear hw1
  refine (wnum_any 4294967295 id g B (by decide) F s w1 H1.out hid (by omega)).mono ?_
  rintro e w2 ⟨rfl, F2, s2, h, t, k, gg⟩
  have H2 := Lib.hid h
  have T2 := Lib.hid t
  have K2 := Lib.hid (K1.out.trans k G1.out)
  have G2 := Lib.hid (G1.out.trans gg K1.out.size)
  have B2 := Lib.hid (B1.out.trans (H1.out.below k (H1.out.le)))
  have L2 := t.1
  clear h t k gg H1 lt1 c0_1
  have c1_2 : w2.cell? ⟨w.heap.size, 1, none⟩ = some (.slice a n c) := (K2.out.blk X1.out HF.out).cell 1
  have lt2 := (K2.out.blk X1.out HF.out).lt
  go_wp2_with (fail)
  refine (wvec_any a n c vec g B F2 s2 w2 H2.out (by omega) (ra0.stay B2.out.size (fun k hk _ => B2.out.block k hk) (fun _ h _ => h))).mono ?_
  rintro e w3 ⟨rfl, F3, s3, h, t, k, gg⟩
  have H3 := Lib.hid h
  have T3 := Lib.hid t
  have K3 := Lib.hid (K2.out.trans k G2.out)
  have G3 := Lib.hid (G2.out.trans gg K2.out.size)
  have B3 := Lib.hid (B2.out.trans (H2.out.below k (H2.out.le)))
  have L3 := t.1
  clear h t k gg H2 lt2 c1_2
  have c2_3 : w3.cell? ⟨w.heap.size, 2, none⟩ = some (.slice a2 n2 c2) := (K3.out.blk X1.out HF.out).cell 2
  have lt3 := (K3.out.blk X1.out HF.out).lt
  go_wp2_with (fail)
  refine (wtexts_any a2 n2 c2 tags g B F3 s3 w3 H3.out (by omega) (rb0.stay B3.out.size (fun k hk _ => B3.out.block k hk) (fun _ h _ => h))).mono ?_
  rintro e w4 ⟨rfl, F4, s4, h, t, k, gg⟩
  have H4 := Lib.hid h
  have T4 := Lib.hid t
  have K4 := Lib.hid (K3.out.trans k G3.out)
  have G4 := Lib.hid (G3.out.trans gg K3.out.size)
  have B4 := Lib.hid (B3.out.trans (H3.out.below k (H3.out.le)))
  have L4 := t.1
  clear h t k gg H3 lt3 c2_3
  have FIN := Lib.hid (WEnd.from (show WEnd cItem (10 + ((10 + 128 * 10) + (10 + 128 * 4106))) g B F s ⟨id, vec, toTags tags⟩ w1 w4 from ⟨F4, s4, H4.out, WStep.map (T2.out.pair (T3.out.pair T4.out)) rfl, K4.out, G4.out⟩) K0.out)
  clear T2 K2 G2 L2 T3 K3 G3 L3 T4 K4 G4 L4
  go_wp2
  go_end0
  exact ⟨rfl, FIN.out⟩

set_option maxRecDepth 100000 in
set_option maxHeartbeats 3200000 in
theorem whit_any (d : Int) (id : Nat) (g B : Nat) (F : List Nat) (s : List Nat × Bool) (w : World) (h : WAt w g B F s) (hl : s.1.length ≤ 400000000000) (hid : id ≤ 4294967295) (h1 : -9223372036854775808 ≤ d) (h2 : d ≤ 9223372036854775807) :
    Calls Tryz.prog 92 #[.pointer (some ⟨g, 0, none⟩), .agg #[.int .i64 d, .int .u32 (id : Int)]] w fun e w' => WPostW cHit (10 + 10) g B F s ⟨d, id⟩ w e w' := by
  have hB := h.le
  have hwid : IntKind.u64.wrap (id : Int) = (id : Int) := by rw [IntKind.wrap_u64]; omega
  obtain ⟨w1, hw1⟩ : ∃ w1, w.alloc (.cells #[.int .i64 d, .int .u32 (id : Int)] 159) = w1 := ⟨_, rfl⟩
  have K0 := Lib.hid (show Kept F w w1 from by rw [← hw1]; exact (Kept.refl _ _).alloc _)
  have X1 := Lib.hid (show Blk w1 w.heap.size 159 [.int .i64 d, .int .u32 (id : Int)] from by rw [← hw1]; exact Blk.new w _ _)
  have H1 := Lib.hid (show WAt w1 g B F s from by rw [← hw1]; exact h.kept (G := []) ((Kept.refl _ _).alloc _) (by simp))
  have HF := Lib.hid (show w.heap.size ∉ F from fun hf => by have := h.lt _ hf; omega)
  have B1 := Lib.hid (show Below B w w1 from by rw [← hw1]; exact (Below.refl _ _).alloc hB _)
  have K1 := Lib.hid (Kept.refl F w1)
  have G1 := Lib.hid (Grows.refl w1 F)
  clear h
  go_enter Tryz.func92, Tryz.ntmps92
  have c0_1 : w1.cell? ⟨w.heap.size, 0, none⟩ = some (.int .i64 d) := (K1.out.blk X1.out HF.out).cell 0
  have lt1 := (K1.out.blk X1.out HF.out).lt
  go_wp2_with (fail)
  try rw [hw1]
  clear hw1
  refine (wwhole_any (-9223372036854775808) 9223372036854775807 d g B F s w1 H1.out ⟨h1, h2⟩ h1 h2 (by omega)).mono ?_
  rintro e w2 ⟨rfl, F2, s2, h, t, k, gg⟩
  have H2 := Lib.hid h
  have T2 := Lib.hid t
  have K2 := Lib.hid (K1.out.trans k G1.out)
  have G2 := Lib.hid (G1.out.trans gg K1.out.size)
  have B2 := Lib.hid (B1.out.trans (H1.out.below k (H1.out.le)))
  have L2 := t.1
  clear h t k gg H1 lt1 c0_1
  have c1_2 : w2.cell? ⟨w.heap.size, 1, none⟩ = some (.int .u32 (id : Int)) := (K2.out.blk X1.out HF.out).cell 1
  have lt2 := (K2.out.blk X1.out HF.out).lt
  go_wp2_with (fail)
  refine (wnum_any 4294967295 id g B (by decide) F2 s2 w2 H2.out hid (by omega)).mono ?_
  rintro e w3 ⟨rfl, F3, s3, h, t, k, gg⟩
  have H3 := Lib.hid h
  have T3 := Lib.hid t
  have K3 := Lib.hid (K2.out.trans k G2.out)
  have G3 := Lib.hid (G2.out.trans gg K2.out.size)
  have B3 := Lib.hid (B2.out.trans (H2.out.below k (H2.out.le)))
  have L3 := t.1
  clear h t k gg H2 lt2 c1_2
  have FIN := Lib.hid (WEnd.from (show WEnd cHit (10 + 10) g B F s ⟨d, id⟩ w1 w3 from ⟨F3, s3, H3.out, WStep.map (T2.out.pair T3.out) rfl, K3.out, G3.out⟩) K0.out)
  clear T2 K2 G2 L2 T3 K3 G3 L3
  go_wp2
  go_end0
  exact ⟨rfl, FIN.out⟩

theorem WStep.change_more {m n : Nat} {s s1 s2 : List Nat × Bool} {i : ItemV} (hm : ¬ (i.vec = [] ∧ i.tags = [])) (h : WStep cFlag m s true s1) (k : WStep cU32 n (s1.1, true) i.id s2) : WStep cChange (m + n) s ⟨true, i⟩ s2 :=
  WStep.change_gone (more := true) ⟨fun _ => hm, fun _ => rfl⟩ h (by rw [Bool.or_true]; exact k)
theorem WStep.change_bare {m n : Nat} {s s1 s2 : List Nat × Bool} {i : ItemV} (hm : i.vec = [] ∧ i.tags = []) (h : WStep cFlag m s true s1) (k : WStep cU32 n s1 i.id s2) : WStep cChange (m + n) s ⟨true, i⟩ s2 :=
  WStep.change_gone (more := false) ⟨fun h => by (cases h), fun h => absurd hm h⟩ h (by rw [Bool.or_false]; exact k)

set_option maxRecDepth 100000 in
set_option maxHeartbeats 3200000 in
theorem wchange_any (gn : Bool) (id : Nat) (a : Option Addr) (n c : Nat) (a2 : Option Addr) (n2 m2 : Nat) (vec : List Int) (tags : List ByteArray) (g B : Nat) (F : List Nat) (s : List Nat × Bool) (w : World) (h : WAt w g B F s) (hl : s.1.length ≤ 390000000000)
    (hid : id ≤ 4294967295) (ra0 : Rd (· < B) w shVec [.slice a n c] vec) (rb0 : Rd (· < B) w shTags [.slice a2 n2 m2] tags) (E1 : Hid (vec.length = n)) (E2 : Hid (tags.length = n2)) (hn : n ≤ 140737488351232) (hn2 : n2 ≤ 140737488351232) :
    Calls Tryz.prog 110 #[.pointer (some ⟨g, 0, none⟩), .agg #[.bool gn, .int .u32 (id : Int), .slice a n c, .slice a2 n2 m2]] w fun e w' => WPostW cChange 600000 g B F s ⟨gn, ⟨id, vec, toTags tags⟩⟩ w e w' := by
  have hB := h.le
  have hwid : IntKind.u64.wrap (id : Int) = (id : Int) := by rw [IntKind.wrap_u64]; omega
  obtain ⟨w1, hw1⟩ : ∃ w1, w.alloc (.cells #[.bool gn, .int .u32 (id : Int), .slice a n c, .slice a2 n2 m2] 106) = w1 := ⟨_, rfl⟩
  have K0 := Lib.hid (show Kept F w w1 from by rw [← hw1]; exact (Kept.refl _ _).alloc _)
  have X1 := Lib.hid (show Blk w1 w.heap.size 106 [.bool gn, .int .u32 (id : Int), .slice a n c, .slice a2 n2 m2] from by rw [← hw1]; exact Blk.new w _ _)
  have H1 := Lib.hid (show WAt w1 g B F s from by rw [← hw1]; exact h.kept (G := []) ((Kept.refl _ _).alloc _) (by simp))
  have HF := Lib.hid (show w.heap.size ∉ F from fun hf => by have := h.lt _ hf; omega)
  have B1 := Lib.hid (show Below B w w1 from by rw [← hw1]; exact (Below.refl _ _).alloc hB _)
  have RA := Lib.hid ra0
  have RB := Lib.hid rb0
  have c0 : w1.cell? ⟨w.heap.size, 0, none⟩ = some (.bool gn) := X1.out.cell 0
  have lt := X1.out.lt
  clear h ra0 rb0
  go_enter Tryz.func110, Tryz.ntmps110
  go_wp2_with (fail)
  try rw [hw1]
  clear hw1
  refine (wflag_any gn g B F s w1 H1.out (by omega)).mono ?_
  rintro e w2 ⟨rfl, F2, s2, h, t, k, gg⟩
  have H2 := Lib.hid h
  have T2 := Lib.hid t
  have K2 := Lib.hid k
  have G2 := Lib.hid gg
  have B2 := Lib.hid (B1.out.trans (H1.out.below k H1.out.le))
  have L2 := t.1
  clear h t k gg c0 lt H1
  have X2 := Lib.hid (K2.out.blk X1.out HF.out)
  have c0 : w2.cell? ⟨w.heap.size, 0, none⟩ = some (.bool gn) := X2.out.cell 0
  have c1 : w2.cell? ⟨w.heap.size, 1, none⟩ = some (.int .u32 (id : Int)) := X2.out.cell 1
  have c2 : w2.cell? ⟨w.heap.size, 2, none⟩ = some (.slice a n c) := X2.out.cell 2
  have c3 : w2.cell? ⟨w.heap.size, 3, none⟩ = some (.slice a2 n2 m2) := X2.out.cell 3
  have lt := X2.out.lt
  cases gn
  · go_wp2_with (fail)
    refine (witem_any id a n c a2 n2 _ vec tags g B F2 s2 w2 H2.out (by omega) hid (RA.out.stay B2.out.size (fun k hk _ => B2.out.block k hk) (fun _ h _ => h)) (RB.out.stay B2.out.size (fun k hk _ => B2.out.block k hk) (fun _ h _ => h))).mono ?_
    rintro e w3 ⟨rfl, F3, s3, h, t, k, gg⟩
    have FIN := Lib.hid (WEnd.from (show WEnd cChange 600000 g B F s ⟨false, ⟨id, vec, toTags tags⟩⟩ w1 w3 from ⟨F3, s3, h, (WStep.change_item T2.out t).mono (by decide), K2.out.trans k G2.out, G2.out.trans gg K2.out.size⟩) K0.out)
    clear h t k gg c0 c1 c2 c3 lt
    go_wp2
    go_end0
    exact ⟨rfl, FIN.out⟩
  · obtain ⟨b1, f1, lg⟩ := H2.out.badCell
    have hm : (0 < n ∨ 0 < n2) ∨ (n = 0 ∧ n2 = 0) := by omega
    rcases hm with hm | ⟨rfl, rfl⟩
    · obtain ⟨hm2, km2⟩ := H2.out.mark
      obtain ⟨w3, hw3⟩ : ∃ w3, w2.setCell ⟨g, 1, none⟩ (.bool true) = w3 := ⟨_, rfl⟩
      rw [hw3] at hm2 km2
      have H3 := Lib.hid hm2
      have K3 := Lib.hid (K2.out.trans km2 G2.out)
      have X3 := Lib.hid (K3.out.blk X1.out HF.out)
      have d1 : w3.cell? ⟨w.heap.size, 1, none⟩ = some (.int .u32 (id : Int)) := X3.out.cell 1
      have lt3 := X3.out.lt
      have hmore := Lib.hid (show ¬ (vec = [] ∧ toTags tags = []) from by
        rintro ⟨e1, e2⟩
        have h1 := E1.out
        have h2 := E2.out
        have e3 : tags = [] := by simpa [toTags] using e2
        rw [e1] at h1
        rw [e3] at h2
        simp at h1 h2
        omega)
      clear hm2 km2
      have hN : (n = 0 ∧ 0 < n2) ∨ 0 < n := by omega
      rcases hN with ⟨rfl, hN⟩ | hN
      all_goals
        go_wp2_with (fail)
        try rw [hw3]
        clear hw3
        refine (wnum_any 4294967295 id g B (by decide) F2 (s2.1, true) w3 H3.out hid (show s2.1.length ≤ 549755813888 by omega)).mono ?_
        rintro e w4 ⟨rfl, F4, s4, h, t, k, gg⟩
        have FIN := Lib.hid (WEnd.from (show WEnd cChange 600000 g B F s ⟨true, ⟨id, vec, toTags tags⟩⟩ w1 w4 from ⟨F4, s4, h, (WStep.change_more (i := ⟨id, vec, toTags tags⟩) hmore.out T2.out t).mono (by decide), K3.out.trans k G2.out, G2.out.trans gg K3.out.size⟩) K0.out)
        clear h t k gg
        go_wp2
        go_end0
        exact ⟨rfl, FIN.out⟩
    · have hmore := Lib.hid (show vec = [] ∧ toTags tags = [] from by
        have h1 : vec = [] := List.eq_nil_of_length_eq_zero E1.out
        have h2 : tags = [] := List.eq_nil_of_length_eq_zero E2.out
        subst h1
        subst h2
        simp [toTags])
      go_wp2_with (fail)
      refine (wnum_any 4294967295 id g B (by decide) F2 s2 w2 H2.out hid (by omega)).mono ?_
      rintro e w4 ⟨rfl, F4, s4, h, t, k, gg⟩
      have FIN := Lib.hid (WEnd.from (show WEnd cChange 600000 g B F s ⟨true, ⟨id, vec, toTags tags⟩⟩ w1 w4 from ⟨F4, s4, h, (WStep.change_bare (i := ⟨id, vec, toTags tags⟩) hmore.out T2.out t).mono (by decide), K2.out.trans k G2.out, G2.out.trans gg K2.out.size⟩) K0.out)
      clear h t k gg
      go_wp2
      go_end0
      exact ⟨rfl, FIN.out⟩

set_option maxRecDepth 100000 in
set_option maxHeartbeats 3200000 in
theorem wlist_items (a : Option Addr) (n c : Nat) (xs : List shItem.T) (g B : Nat) (F : List Nat) (s : List Nat × Bool) (w : World) (h : WAt w g B F s) (hl : s.1.length ≤ 380000000000) (hx : Rd (· < B) w (.slice shItem 56) [.slice a n c] xs) :
    Calls Tryz.prog 87 #[.pointer (some ⟨g, 0, none⟩), .slice a n c, .func (.func 89) #[.pointer (some ⟨g, 0, none⟩)] #[]] w fun e w' => WPostW (cMany cItem) (10 + 128 * (10 + ((10 + 128 * 10) + (10 + 128 * 4106)))) g B F s (xs.map toItem) w e w' := by
  have H := Lib.hid h
  have HX := Lib.hid hx
  obtain ⟨_, _, _, hcs, hlen, hsm, _⟩ := Rd.slice_is (e := shItem) hx
  simp only [List.cons.injEq, Value.slice.injEq, and_true] at hcs
  obtain ⟨rfl, rfl, rfl⟩ := hcs
  have HL := hlen
  have HLB := Lib.hid (show (xs.map toItem).length = n by rw [List.length_map]; exact hlen.out)
  have hle := h.le
  clear h hx hlen
  go_enter Tryz.func87, Tryz.ntmps87
  go_wp2_with (fail)
  refine (wlen_any n 128 g B F s w H.out (by omega) (by decide) (by omega)).mono ?_
  rintro e w2 (⟨hc, rfl, h2, k2⟩ | ⟨hc, rfl, F2, s2, h2, t2, k2, g2⟩)
  · have FIN := Lib.hid (show WEnd (cMany cItem) (10 + 128 * (10 + ((10 + 128 * 10) + (10 + 128 * 4106)))) g B F s (xs.map toItem) w w2 from ⟨F, _, h2, WStep.over (by rw [HLB.out]; exact hc), k2, Grows.refl _ _⟩)
    clear h2 k2
    go_wp2
    go_end0
    exact ⟨rfl, FIN.out⟩
  · have ST := Lib.hid (show ∃ F' s', WAt w2 g B F' s' ∧ WMany cItem (10 + ((10 + 128 * 10) + (10 + 128 * 4106))) (xs.map toItem) 0 s s' ∧ Kept F w w2 ∧ Grows w F F' from ⟨F2, s2, h2, WMany.start (by rw [HLB.out]; exact t2), k2, g2⟩)
    clear h2 t2 k2 g2
    go_wp2_with (fail)
    go_loopw [7, 15] (fun _ s15 wr => ∃ i : Nat, s15 = .int .i64 i ∧ i ≤ n ∧ Hid (∃ F' s', WAt wr g B F' s' ∧ WMany cItem (10 + ((10 + 128 * 10) + (10 + 128 * 4106))) (xs.map toItem) i s s' ∧ Kept F w wr ∧ Grows w F F')) (fun _ s15 _ => n - (intOf s15).toNat)
    case atStart => exact ⟨0, rfl, by omega, ST.out⟩
    case round =>
      clear ST
      obtain ⟨i, rfl, hi, HI⟩ := hrel
      obtain ⟨F3, s3, h3, t3, k3, g3⟩ := HI.out
      have hll : s3.1.length ≤ 390000000000 := by
        have h1 := t3.1
        have h2 : i * (10 + ((10 + 128 * 10) + (10 + 128 * 4106))) ≤ 128 * (10 + ((10 + 128 * 10) + (10 + 128 * 4106))) := Nat.mul_le_mul_right _ (by omega)
        omega
      have HXr := Lib.hid (HX.out.stay k3.size (fun k hk _ => (H.out.below k3 hle).block k hk) (fun _ h _ => h))
      have H3 := Lib.hid h3
      have T3 := Lib.hid t3
      have K3 := Lib.hid k3
      have G3 := Lib.hid g3
      clear h3 t3 k3 g3 HI
      by_cases hin : i < n
      · obtain ⟨b, off, x, c0, c1, c2, rfl, hlt, hget, hr, k0, k1, k2⟩ := rd_item_at HXr.out i hin
        obtain ⟨id, vec, tags, a1, n1, d1, a2, n2, d2, rfl, hcs, hid, rv, rt, _, _, _, _⟩ := rd_item hr.out
        simp only [List.cons.injEq, and_true] at hcs
        obtain ⟨rfl, rfl, rfl⟩ := hcs
        have RV := Lib.hid rv
        have RT := Lib.hid rt
        have HG := Lib.hid (show (xs.map toItem)[i]? = some (toItem ((id : Int), vec, tags, ())) by rw [List.getElem?_map, hget]; rfl)
        clear hget rv rt hr
        obtain ⟨wq, hwq⟩ : ∃ wq, wr.alloc (.cells #[.int .u32 (id : Int), .slice a1 n1 d1, .slice a2 n2 d2] 79) = wq := ⟨_, rfl⟩
        have H3 := Lib.hid (show WAt wq g B F3 s3 from by rw [← hwq]; exact H3.out.kept (G := []) ((Kept.refl _ _).alloc _) (by simp))
        have K3 := Lib.hid (show Kept F w wq from by rw [← hwq]; exact K3.out.alloc _)
        have XQ := Lib.hid (show Blk wq wr.heap.size 79 [.int .u32 (id : Int), .slice a1 n1 d1, .slice a2 n2 d2] from by rw [← hwq]; exact Blk.new wr _ _)
        have q0 : wq.cell? ⟨wr.heap.size, 0, none⟩ = some (.int .u32 (id : Int)) := XQ.out.cell 0
        have q1 : wq.cell? ⟨wr.heap.size, 1, none⟩ = some (.slice a1 n1 d1) := XQ.out.cell 1
        have q2 : wq.cell? ⟨wr.heap.size, 2, none⟩ = some (.slice a2 n2 d2) := XQ.out.cell 2
        have lq := XQ.out.lt
        have RV := Lib.hid (show Rd (· < B) wq shVec [.slice a1 n1 d1] vec from by rw [← hwq]; exact RV.out.alloc _)
        have RT := Lib.hid (show Rd (· < B) wq shTags [.slice a2 n2 d2] tags from by rw [← hwq]; exact RT.out.alloc _)
        go_wp2_with (fail)
        try rw [hwq]
        clear hwq
        refine (witem_any id a1 n1 d1 a2 n2 d2 vec tags g B F3 s3 wq H3.out (by omega) hid RV.out RT.out).mono ?_
        rintro e w4 ⟨rfl, F4, s4, h4, t4, k4, g4⟩
        have NX := Lib.hid (show ∃ F' s', WAt w4 g B F' s' ∧ WMany cItem (10 + ((10 + 128 * 10) + (10 + 128 * 4106))) (xs.map toItem) (i + 1) s s' ∧ Kept F w w4 ∧ Grows w F F' from ⟨F4, s4, h4, T3.out.next HG.out t4, K3.out.trans k4 G3.out, G3.out.trans g4 K3.out.size⟩)
        clear h4 t4 k4 g4 H3 T3 K3 G3
        go_wp2
        go_roundw
        case rel => exact ⟨i + 1, by go_num, by omega, NX.out⟩
        case measure => simp [intOf]; omega
      · have hin' : i = n := by omega
        subst hin'
        have FIN := Lib.hid (show WEnd (cMany cItem) (10 + 128 * (10 + ((10 + 128 * 10) + (10 + 128 * 4106)))) g B F s (xs.map toItem) w wr from ⟨F3, s3, H3.out, T3.out.done (by rw [HLB.out]) (by rw [HLB.out]; omega), K3.out, G3.out⟩)
        go_wp2
        go_end0
        exact ⟨rfl, FIN.out⟩

set_option maxRecDepth 100000 in
set_option maxHeartbeats 3200000 in
theorem wlist_hits (a : Option Addr) (n c : Nat) (xs : List shHit.T) (g B : Nat) (F : List Nat) (s : List Nat × Bool) (w : World) (h : WAt w g B F s) (hl : s.1.length ≤ 380000000000) (hx : Rd (· < B) w (.slice shHit 16) [.slice a n c] xs) :
    Calls Tryz.prog 90 #[.pointer (some ⟨g, 0, none⟩), .slice a n c, .func (.func 92) #[.pointer (some ⟨g, 0, none⟩)] #[]] w fun e w' => WPostW (cMany cHit) (10 + 128 * (10 + 10)) g B F s (xs.map toHit) w e w' := by
  have H := Lib.hid h
  have HX := Lib.hid hx
  obtain ⟨_, _, _, hcs, hlen, hsm, _⟩ := Rd.slice_is (e := shHit) hx
  simp only [List.cons.injEq, Value.slice.injEq, and_true] at hcs
  obtain ⟨rfl, rfl, rfl⟩ := hcs
  have HL := hlen
  have HLB := Lib.hid (show (xs.map toHit).length = n by rw [List.length_map]; exact hlen.out)
  have hle := h.le
  clear h hx hlen
  go_enter Tryz.func90, Tryz.ntmps90
  go_wp2_with (fail)
  refine (wlen_any n 128 g B F s w H.out (by omega) (by decide) (by omega)).mono ?_
  rintro e w2 (⟨hc, rfl, h2, k2⟩ | ⟨hc, rfl, F2, s2, h2, t2, k2, g2⟩)
  · have FIN := Lib.hid (show WEnd (cMany cHit) (10 + 128 * (10 + 10)) g B F s (xs.map toHit) w w2 from ⟨F, _, h2, WStep.over (by rw [HLB.out]; exact hc), k2, Grows.refl _ _⟩)
    clear h2 k2
    go_wp2
    go_end0
    exact ⟨rfl, FIN.out⟩
  · have ST := Lib.hid (show ∃ F' s', WAt w2 g B F' s' ∧ WMany cHit (10 + 10) (xs.map toHit) 0 s s' ∧ Kept F w w2 ∧ Grows w F F' from ⟨F2, s2, h2, WMany.start (by rw [HLB.out]; exact t2), k2, g2⟩)
    clear h2 t2 k2 g2
    go_wp2_with (fail)
    go_loopw [7, 15] (fun _ s15 wr => ∃ i : Nat, s15 = .int .i64 i ∧ i ≤ n ∧ Hid (∃ F' s', WAt wr g B F' s' ∧ WMany cHit (10 + 10) (xs.map toHit) i s s' ∧ Kept F w wr ∧ Grows w F F')) (fun _ s15 _ => n - (intOf s15).toNat)
    case atStart => exact ⟨0, rfl, by omega, ST.out⟩
    case round =>
      clear ST
      obtain ⟨i, rfl, hi, HI⟩ := hrel
      obtain ⟨F3, s3, h3, t3, k3, g3⟩ := HI.out
      have hll : s3.1.length ≤ 390000000000 := by
        have h1 := t3.1
        have h2 : i * (10 + 10) ≤ 128 * (10 + 10) := Nat.mul_le_mul_right _ (by omega)
        omega
      have HXr := Lib.hid (HX.out.stay k3.size (fun k hk _ => (H.out.below k3 hle).block k hk) (fun _ h _ => h))
      have H3 := Lib.hid h3
      have T3 := Lib.hid t3
      have K3 := Lib.hid k3
      have G3 := Lib.hid g3
      clear h3 t3 k3 g3 HI
      by_cases hin : i < n
      · obtain ⟨b, off, x, d, id, rfl, hlt, hget, hto, hd1, hd2, hid, k0, k1⟩ := rd_hit_at HXr.out i hin
        have HG := Lib.hid (show (xs.map toHit)[i]? = some ⟨d, id⟩ by rw [List.getElem?_map, hget, Option.map_some, hto])
        clear hget hto
        obtain ⟨wq, hwq⟩ : ∃ wq, wr.alloc (.cells #[.int .i64 d, .int .u32 (id : Int)] 159) = wq := ⟨_, rfl⟩
        have H3 := Lib.hid (show WAt wq g B F3 s3 from by rw [← hwq]; exact H3.out.kept (G := []) ((Kept.refl _ _).alloc _) (by simp))
        have K3 := Lib.hid (show Kept F w wq from by rw [← hwq]; exact K3.out.alloc _)
        have XQ := Lib.hid (show Blk wq wr.heap.size 159 [.int .i64 d, .int .u32 (id : Int)] from by rw [← hwq]; exact Blk.new wr _ _)
        have q0 : wq.cell? ⟨wr.heap.size, 0, none⟩ = some (.int .i64 d) := XQ.out.cell 0
        have q1 : wq.cell? ⟨wr.heap.size, 1, none⟩ = some (.int .u32 (id : Int)) := XQ.out.cell 1
        have lq := XQ.out.lt
        go_wp2_with (fail)
        try rw [hwq]
        clear hwq
        refine (whit_any d id g B F3 s3 wq H3.out (by omega) hid hd1 hd2).mono ?_
        rintro e w4 ⟨rfl, F4, s4, h4, t4, k4, g4⟩
        have NX := Lib.hid (show ∃ F' s', WAt w4 g B F' s' ∧ WMany cHit (10 + 10) (xs.map toHit) (i + 1) s s' ∧ Kept F w w4 ∧ Grows w F F' from ⟨F4, s4, h4, T3.out.next HG.out t4, K3.out.trans k4 G3.out, G3.out.trans g4 K3.out.size⟩)
        clear h4 t4 k4 g4 H3 T3 K3 G3
        go_wp2
        go_roundw
        case rel => exact ⟨i + 1, by go_num, by omega, NX.out⟩
        case measure => simp [intOf]; omega
      · have hin' : i = n := by omega
        subst hin'
        have FIN := Lib.hid (show WEnd (cMany cHit) (10 + 128 * (10 + 10)) g B F s (xs.map toHit) w wr from ⟨F3, s3, H3.out, T3.out.done (by rw [HLB.out]) (by rw [HLB.out]; omega), K3.out, G3.out⟩)
        go_wp2
        go_end0
        exact ⟨rfl, FIN.out⟩

theorem rd_item_parts {ok : Nat → Prop} {w : World} {id : Nat} {a : Option Addr} {n c : Nat} {a' : Option Addr} {n' c' : Nat} {vec : List Int} {tags : List ByteArray} (h : Rd ok w shItem [.int .u32 (id : Int), .slice a n c, .slice a' n' c'] ((id : Int), vec, tags, ())) :
    Rd ok w shVec [.slice a n c] vec ∧ Rd ok w shTags [.slice a' n' c'] tags := by
  obtain ⟨id2, vec2, tags2, a1, n1, c1, a2, n2, c2, hx, hcs, _, r1, r2, _⟩ := rd_item h
  simp only [List.cons.injEq, Value.slice.injEq, and_true] at hcs
  obtain ⟨_, ⟨rfl, rfl, rfl⟩, ⟨rfl, rfl, rfl⟩⟩ := hcs
  have h1 : vec = vec2 := congrArg (fun x : Int × List Int × List ByteArray × Unit => x.2.1) hx
  have h2 : tags = tags2 := congrArg (fun x : Int × List Int × List ByteArray × Unit => x.2.2.1) hx
  subst h1
  subst h2
  exact ⟨r1, r2⟩

set_option maxRecDepth 100000 in
set_option maxHeartbeats 3200000 in
theorem wlist_changes (a : Option Addr) (n c : Nat) (xs : List shChange.T) (g B : Nat) (F : List Nat) (s : List Nat × Bool) (w : World) (h : WAt w g B F s) (hl : s.1.length ≤ 380000000000) (hx : Rd (· < B) w (.slice shChange 64) [.slice a n c] xs) :
    Calls Tryz.prog 109 #[.pointer (some ⟨g, 0, none⟩), .slice a n c, .func (.func 110) #[.pointer (some ⟨g, 0, none⟩)] #[]] w fun e w' => WPostW (cMany cChange) (10 + 128 * 600000) g B F s (xs.map toChange) w e w' := by
  have H := Lib.hid h
  have HX := Lib.hid hx
  obtain ⟨_, _, _, hcs, hlen, hsm, _⟩ := Rd.slice_is (e := shChange) hx
  simp only [List.cons.injEq, Value.slice.injEq, and_true] at hcs
  obtain ⟨rfl, rfl, rfl⟩ := hcs
  have HL := hlen
  have HLB := Lib.hid (show (xs.map toChange).length = n by rw [List.length_map]; exact hlen.out)
  have hle := h.le
  clear h hx hlen
  go_enter Tryz.func109, Tryz.ntmps109
  go_wp2_with (fail)
  refine (wlen_any n 128 g B F s w H.out (by omega) (by decide) (by omega)).mono ?_
  rintro e w2 (⟨hc, rfl, h2, k2⟩ | ⟨hc, rfl, F2, s2, h2, t2, k2, g2⟩)
  · have FIN := Lib.hid (show WEnd (cMany cChange) (10 + 128 * 600000) g B F s (xs.map toChange) w w2 from ⟨F, _, h2, WStep.over (by rw [HLB.out]; exact hc), k2, Grows.refl _ _⟩)
    clear h2 k2
    go_wp2
    go_end0
    exact ⟨rfl, FIN.out⟩
  · have ST := Lib.hid (show ∃ F' s', WAt w2 g B F' s' ∧ WMany cChange 600000 (xs.map toChange) 0 s s' ∧ Kept F w w2 ∧ Grows w F F' from ⟨F2, s2, h2, WMany.start (by rw [HLB.out]; exact t2), k2, g2⟩)
    clear h2 t2 k2 g2
    go_wp2_with (fail)
    go_loopw [7, 15] (fun _ s15 wr => ∃ i : Nat, s15 = .int .i64 i ∧ i ≤ n ∧ Hid (∃ F' s', WAt wr g B F' s' ∧ WMany cChange 600000 (xs.map toChange) i s s' ∧ Kept F w wr ∧ Grows w F F')) (fun _ s15 _ => n - (intOf s15).toNat)
    case atStart => exact ⟨0, rfl, by omega, ST.out⟩
    case round =>
      clear ST
      obtain ⟨i, rfl, hi, HI⟩ := hrel
      obtain ⟨F3, s3, h3, t3, k3, g3⟩ := HI.out
      have hll : s3.1.length ≤ 390000000000 := by
        have h1 := t3.1
        have h2 : i * 600000 ≤ 128 * 600000 := Nat.mul_le_mul_right _ (by omega)
        omega
      have HXr := Lib.hid (HX.out.stay k3.size (fun k hk _ => (H.out.below k3 hle).block k hk) (fun _ h _ => h))
      have H3 := Lib.hid h3
      have T3 := Lib.hid t3
      have K3 := Lib.hid k3
      have G3 := Lib.hid g3
      clear h3 t3 k3 g3 HI
      by_cases hin : i < n
      · obtain ⟨b, off, x, gn, id, vec, tags, a1, n1, d1, a2, n2, d2, rfl, _, hlt, hget, hto, hid, hr, E1, E2, l1, l2, k0, k1, k2, k3⟩ := rd_change_at HXr.out i hin
        obtain ⟨rv, rt⟩ := rd_item_parts hr.out
        have RV := Lib.hid rv
        have RT := Lib.hid rt
        have HG := Lib.hid (show (xs.map toChange)[i]? = some ⟨gn, ⟨id, vec, toTags tags⟩⟩ by rw [List.getElem?_map, hget, Option.map_some, hto])
        clear hget hto rv rt hr
        obtain ⟨wq, hwq⟩ : ∃ wq, wr.alloc (.cells #[.bool gn, .int .u32 (id : Int), .slice a1 n1 d1, .slice a2 n2 d2] 106) = wq := ⟨_, rfl⟩
        have H3 := Lib.hid (show WAt wq g B F3 s3 from by rw [← hwq]; exact H3.out.kept (G := []) ((Kept.refl _ _).alloc _) (by simp))
        have K3 := Lib.hid (show Kept F w wq from by rw [← hwq]; exact K3.out.alloc _)
        have XQ := Lib.hid (show Blk wq wr.heap.size 106 [.bool gn, .int .u32 (id : Int), .slice a1 n1 d1, .slice a2 n2 d2] from by rw [← hwq]; exact Blk.new wr _ _)
        have q0 : wq.cell? ⟨wr.heap.size, 0, none⟩ = some (.bool gn) := XQ.out.cell 0
        have q1 : wq.cell? ⟨wr.heap.size, 1, none⟩ = some (.int .u32 (id : Int)) := XQ.out.cell 1
        have q2 : wq.cell? ⟨wr.heap.size, 2, none⟩ = some (.slice a1 n1 d1) := XQ.out.cell 2
        have q3 : wq.cell? ⟨wr.heap.size, 3, none⟩ = some (.slice a2 n2 d2) := XQ.out.cell 3
        have lq := XQ.out.lt
        have RV := Lib.hid (show Rd (· < B) wq shVec [.slice a1 n1 d1] vec from by rw [← hwq]; exact RV.out.alloc _)
        have RT := Lib.hid (show Rd (· < B) wq shTags [.slice a2 n2 d2] tags from by rw [← hwq]; exact RT.out.alloc _)
        go_wp2_with (fail)
        try rw [hwq]
        clear hwq
        refine (wchange_any gn id a1 n1 d1 a2 n2 d2 vec tags g B F3 s3 wq H3.out (by omega) hid RV.out RT.out E1 E2 l1 l2).mono ?_
        rintro e w4 ⟨rfl, F4, s4, h4, t4, k4, g4⟩
        have NX := Lib.hid (show ∃ F' s', WAt w4 g B F' s' ∧ WMany cChange 600000 (xs.map toChange) (i + 1) s s' ∧ Kept F w w4 ∧ Grows w F F' from ⟨F4, s4, h4, T3.out.next HG.out t4, K3.out.trans k4 G3.out, G3.out.trans g4 K3.out.size⟩)
        clear h4 t4 k4 g4 H3 T3 K3 G3
        go_wp2
        go_roundw
        case rel => exact ⟨i + 1, by go_num, by omega, NX.out⟩
        case measure => simp [intOf]; omega
      · have hin' : i = n := by omega
        subst hin'
        have FIN := Lib.hid (show WEnd (cMany cChange) (10 + 128 * 600000) g B F s (xs.map toChange) w wr from ⟨F3, s3, H3.out, T3.out.done (by rw [HLB.out]) (by rw [HLB.out]; omega), K3.out, G3.out⟩)
        go_wp2
        go_end0
        exact ⟨rfl, FIN.out⟩

theorem wchanges_any (a : Option Addr) (n c : Nat) (xs : List shChange.T) (g B : Nat) (F : List Nat) (s : List Nat × Bool) (w : World) (h : WAt w g B F s) (hl : s.1.length ≤ 380000000000) (hx : Rd (· < B) w (.slice shChange 64) [.slice a n c] xs) :
    Calls Tryz.prog 54 #[.pointer (some ⟨g, 0, none⟩), .slice a n c] w fun e w' => WPostW (cMany cChange) (10 + 128 * 600000) g B F s (xs.map toChange) w e w' := by
  have H := Lib.hid h
  have HX := Lib.hid hx
  clear h hx
  go_enter Tryz.func54, Tryz.ntmps54
  go_wp2_with (fail)
  refine (wlist_changes a n c xs g B F s w H.out hl HX.out).mono ?_
  rintro e w2 ⟨rfl, F', s', h1, h2, h3, h4⟩
  have H2 := Lib.hid (show WEnd (cMany cChange) (10 + 128 * 600000) g B F s (xs.map toChange) w w2 from ⟨F', s', h1, h2, h3, h4⟩)
  clear h1 h2 h3 h4
  go_wp2
  go_end0
  exact ⟨rfl, H2.out⟩

set_option maxRecDepth 100000 in
/-- The writer's end: what was written, if all of it could be. -/
theorem wend_good (g B : Nat) (F : List Nat) (bs : List Nat) (w : World) (h : WAt w g B F (bs, false)) :
    Calls Tryz.prog 39 #[.pointer (some ⟨g, 0, none⟩)] w fun e w' => w' = w ∧ ∃ v, e = .returned (.tuple #[v, .bool true]) ∧ OwnV w B 5 v bs := by
  obtain ⟨c1, _, lt⟩ := h.badCell
  obtain ⟨v, c0, _, _, _, HB, HO, _, _⟩ := h.opened
  obtain ⟨a, n, c, rfl, _⟩ := HO.out.parts
  clear h
  go_enter Tryz.func39, Tryz.ntmps39
  go_wp2
  go_ret2
  exact ⟨rfl, _, rfl, HO.out⟩
theorem wend_bad (g B : Nat) (F : List Nat) (bs : List Nat) (w : World) (h : WAt w g B F (bs, true)) :
    Calls Tryz.prog 39 #[.pointer (some ⟨g, 0, none⟩)] w fun e w' => w' = w ∧ e = .returned (.tuple #[.slice none 0 0, .bool false]) := by
  obtain ⟨c1, _, lt⟩ := h.badCell
  clear h
  go_enter Tryz.func39, Tryz.ntmps39
  go_wp2
  go_ret2
  exact ⟨rfl, rfl⟩

theorem take_u32 (x : Nat) (g i : Nat) (w : World) (h : w.cell? ⟨g, i, none⟩ = some (.int .u32 (x : Int))) (hf : w.frozen? ⟨g, i, none⟩ = false) :
    Calls Tryz.prog 70 #[.pointer (some ⟨g, i, none⟩)] w fun e w' => e = .returned (.int .u32 (x : Int)) ∧ w' = w.setCell ⟨g, i, none⟩ (.int .u32 0) := by
  go_enter Tryz.func70, Tryz.ntmps70
  go_wp2
  go_ret
  exact ⟨rfl, rfl⟩

theorem take_u64 (x : Nat) (g i : Nat) (w : World) (h : w.cell? ⟨g, i, none⟩ = some (.int .u64 (x : Int))) (hf : w.frozen? ⟨g, i, none⟩ = false) :
    Calls Tryz.prog 71 #[.pointer (some ⟨g, i, none⟩)] w fun e w' => e = .returned (.int .u64 (x : Int)) ∧ w' = w.setCell ⟨g, i, none⟩ (.int .u64 0) := by
  go_enter Tryz.func71, Tryz.ntmps71
  go_wp2
  go_ret
  exact ⟨rfl, rfl⟩

theorem take_u8 (x : Nat) (g i : Nat) (w : World) (h : w.cell? ⟨g, i, none⟩ = some (.int .u8 (x : Int))) (hf : w.frozen? ⟨g, i, none⟩ = false) :
    Calls Tryz.prog 72 #[.pointer (some ⟨g, i, none⟩)] w fun e w' => e = .returned (.int .u8 (x : Int)) ∧ w' = w.setCell ⟨g, i, none⟩ (.int .u8 0) := by
  go_enter Tryz.func72, Tryz.ntmps72
  go_wp2
  go_ret
  exact ⟨rfl, rfl⟩

theorem take_u16 (x : Nat) (g i : Nat) (w : World) (h : w.cell? ⟨g, i, none⟩ = some (.int .u16 (x : Int))) (hf : w.frozen? ⟨g, i, none⟩ = false) :
    Calls Tryz.prog 80 #[.pointer (some ⟨g, i, none⟩)] w fun e w' => e = .returned (.int .u16 (x : Int)) ∧ w' = w.setCell ⟨g, i, none⟩ (.int .u16 0) := by
  go_enter Tryz.func80, Tryz.ntmps80
  go_wp2
  go_ret
  exact ⟨rfl, rfl⟩

theorem take_str (x : ByteArray) (g i : Nat) (w : World) (h : w.cell? ⟨g, i, none⟩ = some (.string x)) (hf : w.frozen? ⟨g, i, none⟩ = false) :
    Calls Tryz.prog 74 #[.pointer (some ⟨g, i, none⟩)] w fun e w' => e = .returned (.string x) ∧ w' = w.setCell ⟨g, i, none⟩ (.string ⟨#[]⟩) := by
  go_enter Tryz.func74, Tryz.ntmps74
  go_wp2
  go_ret
  exact ⟨rfl, rfl⟩

theorem take_changes (a : Option Addr) (n c : Nat) (g i : Nat) (w : World) (h : w.cell? ⟨g, i, none⟩ = some (.slice a n c)) (hf : w.frozen? ⟨g, i, none⟩ = false) :
    Calls Tryz.prog 77 #[.pointer (some ⟨g, i, none⟩)] w fun e w' => e = .returned (.slice a n c) ∧ w' = w.setCell ⟨g, i, none⟩ (.slice none 0 0) := by
  go_enter Tryz.func77, Tryz.ntmps77
  go_wp2
  go_ret
  exact ⟨rfl, rfl⟩

theorem take_vec (a : Option Addr) (n c : Nat) (g i : Nat) (w : World) (h : w.cell? ⟨g, i, none⟩ = some (.slice a n c)) (hf : w.frozen? ⟨g, i, none⟩ = false) :
    Calls Tryz.prog 79 #[.pointer (some ⟨g, i, none⟩)] w fun e w' => e = .returned (.slice a n c) ∧ w' = w.setCell ⟨g, i, none⟩ (.slice none 0 0) := by
  go_enter Tryz.func79, Tryz.ntmps79
  go_wp2
  go_ret
  exact ⟨rfl, rfl⟩

theorem take_bytes (a : Option Addr) (n c : Nat) (g i : Nat) (w : World) (h : w.cell? ⟨g, i, none⟩ = some (.slice a n c)) (hf : w.frozen? ⟨g, i, none⟩ = false) :
    Calls Tryz.prog 84 #[.pointer (some ⟨g, i, none⟩)] w fun e w' => e = .returned (.slice a n c) ∧ w' = w.setCell ⟨g, i, none⟩ (.slice none 0 0) := by
  go_enter Tryz.func84, Tryz.ntmps84
  go_wp2
  go_ret
  exact ⟨rfl, rfl⟩

theorem take_strs (a : Option Addr) (n c : Nat) (g i : Nat) (w : World) (h : w.cell? ⟨g, i, none⟩ = some (.slice a n c)) (hf : w.frozen? ⟨g, i, none⟩ = false) :
    Calls Tryz.prog 86 #[.pointer (some ⟨g, i, none⟩)] w fun e w' => e = .returned (.slice a n c) ∧ w' = w.setCell ⟨g, i, none⟩ (.slice none 0 0) := by
  go_enter Tryz.func86, Tryz.ntmps86
  go_wp2
  go_ret
  exact ⟨rfl, rfl⟩

theorem take_items (a : Option Addr) (n c : Nat) (g i : Nat) (w : World) (h : w.cell? ⟨g, i, none⟩ = some (.slice a n c)) (hf : w.frozen? ⟨g, i, none⟩ = false) :
    Calls Tryz.prog 88 #[.pointer (some ⟨g, i, none⟩)] w fun e w' => e = .returned (.slice a n c) ∧ w' = w.setCell ⟨g, i, none⟩ (.slice none 0 0) := by
  go_enter Tryz.func88, Tryz.ntmps88
  go_wp2
  go_ret
  exact ⟨rfl, rfl⟩

theorem take_hits (a : Option Addr) (n c : Nat) (g i : Nat) (w : World) (h : w.cell? ⟨g, i, none⟩ = some (.slice a n c)) (hf : w.frozen? ⟨g, i, none⟩ = false) :
    Calls Tryz.prog 91 #[.pointer (some ⟨g, i, none⟩)] w fun e w' => e = .returned (.slice a n c) ∧ w' = w.setCell ⟨g, i, none⟩ (.slice none 0 0) := by
  go_enter Tryz.func91, Tryz.ntmps91
  go_wp2
  go_ret
  exact ⟨rfl, rfl⟩

set_option maxRecDepth 100000 in
set_option maxHeartbeats 3200000 in
theorem take_conf (x : ByteArray) (dim metric links width : Nat) (graph : Bool) (g i : Nat) (w : World) (c0 : w.cell? ⟨g, i, none⟩ = some (.string x)) (f0 : w.frozen? ⟨g, i, none⟩ = false) (c1 : w.cell? ⟨g, i + 1, none⟩ = some (.int .u8 (dim : Int))) (f1 : w.frozen? ⟨g, i + 1, none⟩ = false) (c2 : w.cell? ⟨g, i + 2, none⟩ = some (.int .u8 (metric : Int))) (f2 : w.frozen? ⟨g, i + 2, none⟩ = false) (c3 : w.cell? ⟨g, i + 3, none⟩ = some (.bool graph)) (f3 : w.frozen? ⟨g, i + 3, none⟩ = false) (c4 : w.cell? ⟨g, i + 4, none⟩ = some (.int .u8 (links : Int))) (f4 : w.frozen? ⟨g, i + 4, none⟩ = false) (c5 : w.cell? ⟨g, i + 5, none⟩ = some (.int .u16 (width : Int))) (f5 : w.frozen? ⟨g, i + 5, none⟩ = false) (hl : g < w.heap.size) :
    Calls Tryz.prog 76 #[.pointer (some ⟨g, i, none⟩)] w fun e w' => e = .returned (.agg #[.string x, .int .u8 (dim : Int), .int .u8 (metric : Int), .bool graph, .int .u8 (links : Int), .int .u16 (width : Int)]) ∧ Kept [g] w w' ∧ ∀ cs, Blk w g 37 cs → Blk w' g 37 (((((((cs.set i (.string ⟨#[]⟩)).set (i + 1) (.int .u8 0)).set (i + 2) (.int .u8 0)).set (i + 3) (.bool false)).set (i + 4) (.int .u8 0)).set (i + 5) (.int .u16 0))) := by
  have HL := Lib.hid hl
  obtain ⟨w1, hw1⟩ : ∃ w1, w.alloc (.cells #[.string ⟨#[]⟩, .int .u8 0, .int .u8 0, .bool false, .int .u8 0, .int .u16 0] 27) = w1 := ⟨_, rfl⟩
  have k01 : Kept [] w w1 := by rw [← hw1]; exact (Kept.refl _ _).alloc _
  have A1 := Lib.hid (show Blk w1 w.heap.size 27 [.string ⟨#[]⟩, .int .u8 0, .int .u8 0, .bool false, .int .u8 0, .int .u16 0] from by rw [← hw1]; exact Blk.new w _ _)
  obtain ⟨r1, hr1⟩ : ∃ r1, w1.heap.size = r1 := ⟨_, rfl⟩
  obtain ⟨w2, hw2⟩ : ∃ w2, w1.alloc (.cells #[.string ⟨#[]⟩, .int .u8 0, .int .u8 0, .bool false, .int .u8 0, .int .u16 0] 27) = w2 := ⟨_, rfl⟩
  have k12 : Kept [] w1 w2 := by rw [← hw2]; exact (Kept.refl _ _).alloc _
  have C2 := Lib.hid (show Blk w2 r1 27 [.string ⟨#[]⟩, .int .u8 0, .int .u8 0, .bool false, .int .u8 0, .int .u16 0] from by rw [← hw2, ← hr1]; exact Blk.new w1 _ _)
  obtain ⟨r2, hr2⟩ : ∃ r2, w2.heap.size = r2 := ⟨_, rfl⟩
  obtain ⟨w3, hw3⟩ : ∃ w3, w2.alloc (.cells #[.string x, .int .u8 (dim : Int), .int .u8 (metric : Int), .bool graph, .int .u8 (links : Int), .int .u16 (width : Int)] 27) = w3 := ⟨_, rfl⟩
  have k23 : Kept [] w2 w3 := by rw [← hw3]; exact (Kept.refl _ _).alloc _
  have D3 := Lib.hid (show Blk w3 r2 27 [.string x, .int .u8 (dim : Int), .int .u8 (metric : Int), .bool graph, .int .u8 (links : Int), .int .u16 (width : Int)] from by rw [← hw3, ← hr2]; exact Blk.new w2 _ _)
  have e1 : w.heap.size < r1 := by rw [← hr1]; exact A1.out.lt
  have e2 : r1 < r2 := by rw [← hr2]; exact C2.out.lt
  have l2 : g < w2.heap.size := by omega
  have l3 : g < w3.heap.size := by have := k23.size; omega
  have C3 := Lib.hid (k23.blk C2.out (by simp))
  have A3 := Lib.hid (k23.blk (k12.blk A1.out (by simp)) (by simp))
  have k03 : Kept [] w w3 := (k01.trans k12 (Grows.refl _ _)).trans k23 (Grows.refl _ _)
  have k02 : Kept [] w w2 := k01.trans k12 (Grows.refl _ _)
  have m0 : w2.cell? ⟨g, i, none⟩ = some (.string x) := (k02.cell (p := ⟨g, i, none⟩) hl (by simp)).trans c0
  have m1 : w2.cell? ⟨g, i + 1, none⟩ = some (.int .u8 (dim : Int)) := (k02.cell (p := ⟨g, i + 1, none⟩) hl (by simp)).trans c1
  have m2 : w2.cell? ⟨g, i + 2, none⟩ = some (.int .u8 (metric : Int)) := (k02.cell (p := ⟨g, i + 2, none⟩) hl (by simp)).trans c2
  have m3 : w2.cell? ⟨g, i + 3, none⟩ = some (.bool graph) := (k02.cell (p := ⟨g, i + 3, none⟩) hl (by simp)).trans c3
  have m4 : w2.cell? ⟨g, i + 4, none⟩ = some (.int .u8 (links : Int)) := (k02.cell (p := ⟨g, i + 4, none⟩) hl (by simp)).trans c4
  have m5 : w2.cell? ⟨g, i + 5, none⟩ = some (.int .u16 (width : Int)) := (k02.cell (p := ⟨g, i + 5, none⟩) hl (by simp)).trans c5
  have n0 : w3.cell? ⟨g, i, none⟩ = some (.string x) := (k03.cell (p := ⟨g, i, none⟩) hl (by simp)).trans c0
  have n1 : w3.cell? ⟨g, i + 1, none⟩ = some (.int .u8 (dim : Int)) := (k03.cell (p := ⟨g, i + 1, none⟩) hl (by simp)).trans c1
  have n2 : w3.cell? ⟨g, i + 2, none⟩ = some (.int .u8 (metric : Int)) := (k03.cell (p := ⟨g, i + 2, none⟩) hl (by simp)).trans c2
  have n3 : w3.cell? ⟨g, i + 3, none⟩ = some (.bool graph) := (k03.cell (p := ⟨g, i + 3, none⟩) hl (by simp)).trans c3
  have n4 : w3.cell? ⟨g, i + 4, none⟩ = some (.int .u8 (links : Int)) := (k03.cell (p := ⟨g, i + 4, none⟩) hl (by simp)).trans c4
  have n5 : w3.cell? ⟨g, i + 5, none⟩ = some (.int .u16 (width : Int)) := (k03.cell (p := ⟨g, i + 5, none⟩) hl (by simp)).trans c5
  have o0 : w3.frozen? ⟨g, i, none⟩ = false := (World.frozen?_of_block (w := w) (a := ⟨g, i, none⟩) (k03.block g hl (by simp))).trans f0
  have o1 : w3.frozen? ⟨g, i + 1, none⟩ = false := (World.frozen?_of_block (w := w) (a := ⟨g, i + 1, none⟩) (k03.block g hl (by simp))).trans f1
  have o2 : w3.frozen? ⟨g, i + 2, none⟩ = false := (World.frozen?_of_block (w := w) (a := ⟨g, i + 2, none⟩) (k03.block g hl (by simp))).trans f2
  have o3 : w3.frozen? ⟨g, i + 3, none⟩ = false := (World.frozen?_of_block (w := w) (a := ⟨g, i + 3, none⟩) (k03.block g hl (by simp))).trans f3
  have o4 : w3.frozen? ⟨g, i + 4, none⟩ = false := (World.frozen?_of_block (w := w) (a := ⟨g, i + 4, none⟩) (k03.block g hl (by simp))).trans f4
  have o5 : w3.frozen? ⟨g, i + 5, none⟩ = false := (World.frozen?_of_block (w := w) (a := ⟨g, i + 5, none⟩) (k03.block g hl (by simp))).trans f5
  have p0 : w3.cell? ⟨r1, 0, none⟩ = some (.string ⟨#[]⟩) := C3.out.cell 0
  have p1 : w3.cell? ⟨r1, 1, none⟩ = some (.int .u8 0) := C3.out.cell 1
  have p2 : w3.cell? ⟨r1, 2, none⟩ = some (.int .u8 0) := C3.out.cell 2
  have p3 : w3.cell? ⟨r1, 3, none⟩ = some (.bool false) := C3.out.cell 3
  have p4 : w3.cell? ⟨r1, 4, none⟩ = some (.int .u8 0) := C3.out.cell 4
  have p5 : w3.cell? ⟨r1, 5, none⟩ = some (.int .u16 0) := C3.out.cell 5
  have lp := C3.out.lt
  obtain ⟨w4, hw4⟩ : ∃ w4, ((((((w3.setCell ⟨g, i, none⟩ (.string ⟨#[]⟩)).setCell ⟨g, i + 1, none⟩ (.int .u8 0)).setCell ⟨g, i + 2, none⟩ (.int .u8 0)).setCell ⟨g, i + 3, none⟩ (.bool false)).setCell ⟨g, i + 4, none⟩ (.int .u8 0)).setCell ⟨g, i + 5, none⟩ (.int .u16 0)) = w4 := ⟨_, rfl⟩
  have k34 : Kept [g] w3 w4 := by
    rw [← hw4]
    exact (((((((Kept.refl _ _).setCell _ _ (.inl (by simp))).setCell _ _ (.inl (by simp))).setCell _ _ (.inl (by simp))).setCell _ _ (.inl (by simp))).setCell _ _ (.inl (by simp))).setCell _ _ (.inl (by simp)))
  have D4 := Lib.hid (k34.blk D3.out (by simp; omega))
  have A4 := Lib.hid (k34.blk A3.out (by simp; omega))
  have s0 : w4.cell? ⟨r2, 0, none⟩ = some (.string x) := D4.out.cell 0
  have s1 : w4.cell? ⟨r2, 1, none⟩ = some (.int .u8 (dim : Int)) := D4.out.cell 1
  have s2 : w4.cell? ⟨r2, 2, none⟩ = some (.int .u8 (metric : Int)) := D4.out.cell 2
  have s3 : w4.cell? ⟨r2, 3, none⟩ = some (.bool graph) := D4.out.cell 3
  have s4 : w4.cell? ⟨r2, 4, none⟩ = some (.int .u8 (links : Int)) := D4.out.cell 4
  have s5 : w4.cell? ⟨r2, 5, none⟩ = some (.int .u16 (width : Int)) := D4.out.cell 5
  have t0 : w4.cell? ⟨w.heap.size, 0, none⟩ = some (.string ⟨#[]⟩) := A4.out.cell 0
  have t1 : w4.cell? ⟨w.heap.size, 1, none⟩ = some (.int .u8 0) := A4.out.cell 1
  have t2 : w4.cell? ⟨w.heap.size, 2, none⟩ = some (.int .u8 0) := A4.out.cell 2
  have t3 : w4.cell? ⟨w.heap.size, 3, none⟩ = some (.bool false) := A4.out.cell 3
  have t4 : w4.cell? ⟨w.heap.size, 4, none⟩ = some (.int .u8 0) := A4.out.cell 4
  have t5 : w4.cell? ⟨w.heap.size, 5, none⟩ = some (.int .u16 0) := A4.out.cell 5
  have u0 := A4.out.frozen 0
  have u1 := A4.out.frozen 1
  have u2 := A4.out.frozen 2
  have u3 := A4.out.frozen 3
  have u4 := A4.out.frozen 4
  have u5 := A4.out.frozen 5
  have la4 := A4.out.lt
  have ld4 := D4.out.lt
  obtain ⟨w5, hw5⟩ : ∃ w5, ((((((w4.setCell ⟨w.heap.size, 0, none⟩ (.string x)).setCell ⟨w.heap.size, 1, none⟩ (.int .u8 (dim : Int))).setCell ⟨w.heap.size, 2, none⟩ (.int .u8 (metric : Int))).setCell ⟨w.heap.size, 3, none⟩ (.bool graph)).setCell ⟨w.heap.size, 4, none⟩ (.int .u8 (links : Int))).setCell ⟨w.heap.size, 5, none⟩ (.int .u16 (width : Int))) = w5 := ⟨_, rfl⟩
  have k45 : Kept [w.heap.size] w4 w5 := by
    rw [← hw5]
    exact (((((((Kept.refl _ _).setCell _ _ (.inl (by simp))).setCell _ _ (.inl (by simp))).setCell _ _ (.inl (by simp))).setCell _ _ (.inl (by simp))).setCell _ _ (.inl (by simp))).setCell _ _ (.inl (by simp)))
  have A5 := Lib.hid (show Blk w5 w.heap.size 27 [.string x, .int .u8 (dim : Int), .int .u8 (metric : Int), .bool graph, .int .u8 (links : Int), .int .u16 (width : Int)] from by rw [← hw5]; exact ((((((A4.out.set 0 (.string x)).set 1 (.int .u8 (dim : Int))).set 2 (.int .u8 (metric : Int))).set 3 (.bool graph)).set 4 (.int .u8 (links : Int))).set 5 (.int .u16 (width : Int))))
  have v0 : w5.cell? ⟨w.heap.size, 0, none⟩ = some (.string x) := A5.out.cell 0
  have v1 : w5.cell? ⟨w.heap.size, 1, none⟩ = some (.int .u8 (dim : Int)) := A5.out.cell 1
  have v2 : w5.cell? ⟨w.heap.size, 2, none⟩ = some (.int .u8 (metric : Int)) := A5.out.cell 2
  have v3 : w5.cell? ⟨w.heap.size, 3, none⟩ = some (.bool graph) := A5.out.cell 3
  have v4 : w5.cell? ⟨w.heap.size, 4, none⟩ = some (.int .u8 (links : Int)) := A5.out.cell 4
  have v5 : w5.cell? ⟨w.heap.size, 5, none⟩ = some (.int .u16 (width : Int)) := A5.out.cell 5
  have FIN := Lib.hid (show Kept [g] w w5 ∧ ∀ cs, Blk w g 37 cs → Blk w5 g 37 (((((((cs.set i (.string ⟨#[]⟩)).set (i + 1) (.int .u8 0)).set (i + 2) (.int .u8 0)).set (i + 3) (.bool false)).set (i + 4) (.int .u8 0)).set (i + 5) (.int .u16 0))) from by
    refine ⟨((k03.mono (by simp)).trans k34 (Grows.refl _ _)).trans k45 (fun k hk => .inr (by simp at hk; omega)), fun cs hb => ?_⟩
    have h3 := k03.blk hb (by simp)
    have h4 : Blk w4 g 37 (((((((cs.set i (.string ⟨#[]⟩)).set (i + 1) (.int .u8 0)).set (i + 2) (.int .u8 0)).set (i + 3) (.bool false)).set (i + 4) (.int .u8 0)).set (i + 5) (.int .u16 0))) := by rw [← hw4]; exact ((((((h3.set (i) (.string ⟨#[]⟩)).set (i + 1) (.int .u8 0)).set (i + 2) (.int .u8 0)).set (i + 3) (.bool false)).set (i + 4) (.int .u8 0)).set (i + 5) (.int .u16 0))
    exact k45.blk h4 (by simp; omega))
  clear hl k01 k12 k02 k03 k23 k34 k45 A1 C2 D3 C3 A3 D4 A4 HL
  go_enter Tryz.func76, Tryz.ntmps76
  go_wp2
  refine bodyPost_ret (v := .agg #[.string x, .int .u8 (dim : Int), .int .u8 (metric : Int), .bool graph, .int .u8 (links : Int), .int .u16 (width : Int)]) (by simp [results, Tryz.results76, go_sem, v0, v1, v2, v3, v4, v5]) rfl ?_
  exact ⟨rfl, FIN.out⟩

set_option maxRecDepth 100000 in
set_option maxHeartbeats 3200000 in
theorem take_filter (pa pb pc : SlL) (g i : Nat) (w : World) (c0 : w.cell? ⟨g, i, none⟩ = some (.slice pa.a pa.n pa.c)) (f0 : w.frozen? ⟨g, i, none⟩ = false) (c1 : w.cell? ⟨g, i + 1, none⟩ = some (.slice pb.a pb.n pb.c)) (f1 : w.frozen? ⟨g, i + 1, none⟩ = false) (c2 : w.cell? ⟨g, i + 2, none⟩ = some (.slice pc.a pc.n pc.c)) (f2 : w.frozen? ⟨g, i + 2, none⟩ = false) (hl : g < w.heap.size) :
    Calls Tryz.prog 82 #[.pointer (some ⟨g, i, none⟩)] w fun e w' => e = .returned (.agg #[.slice pa.a pa.n pa.c, .slice pb.a pb.n pb.c, .slice pc.a pc.n pc.c]) ∧ Kept [g] w w' ∧ ∀ cs, Blk w g 37 cs → Blk w' g 37 ((((cs.set i (.slice none 0 0)).set (i + 1) (.slice none 0 0)).set (i + 2) (.slice none 0 0))) := by
  have HL := Lib.hid hl
  obtain ⟨w1, hw1⟩ : ∃ w1, w.alloc (.cells #[.slice none 0 0, .slice none 0 0, .slice none 0 0] 32) = w1 := ⟨_, rfl⟩
  have k01 : Kept [] w w1 := by rw [← hw1]; exact (Kept.refl _ _).alloc _
  have A1 := Lib.hid (show Blk w1 w.heap.size 32 [.slice none 0 0, .slice none 0 0, .slice none 0 0] from by rw [← hw1]; exact Blk.new w _ _)
  obtain ⟨r1, hr1⟩ : ∃ r1, w1.heap.size = r1 := ⟨_, rfl⟩
  obtain ⟨w2, hw2⟩ : ∃ w2, w1.alloc (.cells #[.slice none 0 0, .slice none 0 0, .slice none 0 0] 32) = w2 := ⟨_, rfl⟩
  have k12 : Kept [] w1 w2 := by rw [← hw2]; exact (Kept.refl _ _).alloc _
  have C2 := Lib.hid (show Blk w2 r1 32 [.slice none 0 0, .slice none 0 0, .slice none 0 0] from by rw [← hw2, ← hr1]; exact Blk.new w1 _ _)
  obtain ⟨r2, hr2⟩ : ∃ r2, w2.heap.size = r2 := ⟨_, rfl⟩
  obtain ⟨w3, hw3⟩ : ∃ w3, w2.alloc (.cells #[.slice pa.a pa.n pa.c, .slice pb.a pb.n pb.c, .slice pc.a pc.n pc.c] 32) = w3 := ⟨_, rfl⟩
  have k23 : Kept [] w2 w3 := by rw [← hw3]; exact (Kept.refl _ _).alloc _
  have D3 := Lib.hid (show Blk w3 r2 32 [.slice pa.a pa.n pa.c, .slice pb.a pb.n pb.c, .slice pc.a pc.n pc.c] from by rw [← hw3, ← hr2]; exact Blk.new w2 _ _)
  have e1 : w.heap.size < r1 := by rw [← hr1]; exact A1.out.lt
  have e2 : r1 < r2 := by rw [← hr2]; exact C2.out.lt
  have l2 : g < w2.heap.size := by omega
  have l3 : g < w3.heap.size := by have := k23.size; omega
  have C3 := Lib.hid (k23.blk C2.out (by simp))
  have A3 := Lib.hid (k23.blk (k12.blk A1.out (by simp)) (by simp))
  have k03 : Kept [] w w3 := (k01.trans k12 (Grows.refl _ _)).trans k23 (Grows.refl _ _)
  have k02 : Kept [] w w2 := k01.trans k12 (Grows.refl _ _)
  have m0 : w2.cell? ⟨g, i, none⟩ = some (.slice pa.a pa.n pa.c) := (k02.cell (p := ⟨g, i, none⟩) hl (by simp)).trans c0
  have m1 : w2.cell? ⟨g, i + 1, none⟩ = some (.slice pb.a pb.n pb.c) := (k02.cell (p := ⟨g, i + 1, none⟩) hl (by simp)).trans c1
  have m2 : w2.cell? ⟨g, i + 2, none⟩ = some (.slice pc.a pc.n pc.c) := (k02.cell (p := ⟨g, i + 2, none⟩) hl (by simp)).trans c2
  have n0 : w3.cell? ⟨g, i, none⟩ = some (.slice pa.a pa.n pa.c) := (k03.cell (p := ⟨g, i, none⟩) hl (by simp)).trans c0
  have n1 : w3.cell? ⟨g, i + 1, none⟩ = some (.slice pb.a pb.n pb.c) := (k03.cell (p := ⟨g, i + 1, none⟩) hl (by simp)).trans c1
  have n2 : w3.cell? ⟨g, i + 2, none⟩ = some (.slice pc.a pc.n pc.c) := (k03.cell (p := ⟨g, i + 2, none⟩) hl (by simp)).trans c2
  have o0 : w3.frozen? ⟨g, i, none⟩ = false := (World.frozen?_of_block (w := w) (a := ⟨g, i, none⟩) (k03.block g hl (by simp))).trans f0
  have o1 : w3.frozen? ⟨g, i + 1, none⟩ = false := (World.frozen?_of_block (w := w) (a := ⟨g, i + 1, none⟩) (k03.block g hl (by simp))).trans f1
  have o2 : w3.frozen? ⟨g, i + 2, none⟩ = false := (World.frozen?_of_block (w := w) (a := ⟨g, i + 2, none⟩) (k03.block g hl (by simp))).trans f2
  have p0 : w3.cell? ⟨r1, 0, none⟩ = some (.slice none 0 0) := C3.out.cell 0
  have p1 : w3.cell? ⟨r1, 1, none⟩ = some (.slice none 0 0) := C3.out.cell 1
  have p2 : w3.cell? ⟨r1, 2, none⟩ = some (.slice none 0 0) := C3.out.cell 2
  have lp := C3.out.lt
  obtain ⟨w4, hw4⟩ : ∃ w4, (((w3.setCell ⟨g, i, none⟩ (.slice none 0 0)).setCell ⟨g, i + 1, none⟩ (.slice none 0 0)).setCell ⟨g, i + 2, none⟩ (.slice none 0 0)) = w4 := ⟨_, rfl⟩
  have k34 : Kept [g] w3 w4 := by
    rw [← hw4]
    exact ((((Kept.refl _ _).setCell _ _ (.inl (by simp))).setCell _ _ (.inl (by simp))).setCell _ _ (.inl (by simp)))
  have D4 := Lib.hid (k34.blk D3.out (by simp; omega))
  have A4 := Lib.hid (k34.blk A3.out (by simp; omega))
  have s0 : w4.cell? ⟨r2, 0, none⟩ = some (.slice pa.a pa.n pa.c) := D4.out.cell 0
  have s1 : w4.cell? ⟨r2, 1, none⟩ = some (.slice pb.a pb.n pb.c) := D4.out.cell 1
  have s2 : w4.cell? ⟨r2, 2, none⟩ = some (.slice pc.a pc.n pc.c) := D4.out.cell 2
  have t0 : w4.cell? ⟨w.heap.size, 0, none⟩ = some (.slice none 0 0) := A4.out.cell 0
  have t1 : w4.cell? ⟨w.heap.size, 1, none⟩ = some (.slice none 0 0) := A4.out.cell 1
  have t2 : w4.cell? ⟨w.heap.size, 2, none⟩ = some (.slice none 0 0) := A4.out.cell 2
  have u0 := A4.out.frozen 0
  have u1 := A4.out.frozen 1
  have u2 := A4.out.frozen 2
  have la4 := A4.out.lt
  have ld4 := D4.out.lt
  obtain ⟨w5, hw5⟩ : ∃ w5, (((w4.setCell ⟨w.heap.size, 0, none⟩ (.slice pa.a pa.n pa.c)).setCell ⟨w.heap.size, 1, none⟩ (.slice pb.a pb.n pb.c)).setCell ⟨w.heap.size, 2, none⟩ (.slice pc.a pc.n pc.c)) = w5 := ⟨_, rfl⟩
  have k45 : Kept [w.heap.size] w4 w5 := by
    rw [← hw5]
    exact ((((Kept.refl _ _).setCell _ _ (.inl (by simp))).setCell _ _ (.inl (by simp))).setCell _ _ (.inl (by simp)))
  have A5 := Lib.hid (show Blk w5 w.heap.size 32 [.slice pa.a pa.n pa.c, .slice pb.a pb.n pb.c, .slice pc.a pc.n pc.c] from by rw [← hw5]; exact (((A4.out.set 0 (.slice pa.a pa.n pa.c)).set 1 (.slice pb.a pb.n pb.c)).set 2 (.slice pc.a pc.n pc.c)))
  have v0 : w5.cell? ⟨w.heap.size, 0, none⟩ = some (.slice pa.a pa.n pa.c) := A5.out.cell 0
  have v1 : w5.cell? ⟨w.heap.size, 1, none⟩ = some (.slice pb.a pb.n pb.c) := A5.out.cell 1
  have v2 : w5.cell? ⟨w.heap.size, 2, none⟩ = some (.slice pc.a pc.n pc.c) := A5.out.cell 2
  have FIN := Lib.hid (show Kept [g] w w5 ∧ ∀ cs, Blk w g 37 cs → Blk w5 g 37 ((((cs.set i (.slice none 0 0)).set (i + 1) (.slice none 0 0)).set (i + 2) (.slice none 0 0))) from by
    refine ⟨((k03.mono (by simp)).trans k34 (Grows.refl _ _)).trans k45 (fun k hk => .inr (by simp at hk; omega)), fun cs hb => ?_⟩
    have h3 := k03.blk hb (by simp)
    have h4 : Blk w4 g 37 ((((cs.set i (.slice none 0 0)).set (i + 1) (.slice none 0 0)).set (i + 2) (.slice none 0 0))) := by rw [← hw4]; exact (((h3.set (i) (.slice none 0 0)).set (i + 1) (.slice none 0 0)).set (i + 2) (.slice none 0 0))
    exact k45.blk h4 (by simp; omega))
  clear hl k01 k12 k02 k03 k23 k34 k45 A1 C2 D3 C3 A3 D4 A4 HL
  go_enter Tryz.func82, Tryz.ntmps82
  go_wp2
  refine bodyPost_ret (v := .agg #[.slice pa.a pa.n pa.c, .slice pb.a pb.n pb.c, .slice pc.a pc.n pc.c]) (by simp [results, Tryz.results82, go_sem, v0, v1, v2]) rfl ?_
  exact ⟨rfl, FIN.out⟩

/-- What the writing of a field leaves. -/
def FPost (f : Fld) (m : MsgL) (gx g B : Nat) (F : List Nat) (s : List Nat × Bool) (w : World) (e : Ending) (w' : World) : Prop :=
  e = .returned (.tuple #[]) ∧ ∃ F' s', WAt w' g B F' s' ∧ WStep f.cod 100000000 s (f.get m.toM) s' ∧ Blk w' gx 37 (f.wipeL m).cells ∧ Kept (gx :: F) w w' ∧ Grows w F F'
theorem FPost.mk {f : Fld} {m : MsgL} {gx g B k : Nat} {F : List Nat} {s : List Nat × Bool} {w w1 w2 : World} (hx : Blk w1 gx 37 (f.wipeL m).cells) (hF : gx ∉ F) (k1 : Kept [gx] w w1) (hk : k ≤ 100000000) (h : WEnd f.cod k g B F s (f.get m.toM) w1 w2) : FPost f m gx g B F s w (.returned (.tuple #[])) w2 := by
  obtain ⟨F', s', h1, h2, h3, h4⟩ := h
  exact ⟨rfl, F', s', h1, h2.mono hk, h3.blk hx hF, (k1.mono (by simp)).trans (h3.mono (fun x hx => List.mem_cons_of_mem _ hx)) (Grows.refl _ _), (Grows.refl _ _).trans h4 k1.size⟩

set_option maxRecDepth 100000 in
set_option maxHeartbeats 3200000 in
theorem wfield_req (m : MsgL) (gx g B : Nat) (F : List Nat) (s : List Nat × Bool) (w : World) (h : WAt w g B F s) (hl : s.1.length ≤ 370000000000) (hx : Blk w gx 37 m.cells) (hgx : B ≤ gx) (hF : gx ∉ F) (hm : m.In (· < B) w) :
    Calls Tryz.prog 37 #[.pointer (some ⟨g, 0, none⟩), .int .u8 0, .pointer (some ⟨gx, 0, none⟩)] w fun e w' => FPost .req m gx g B F s w e w' := by
  have H := Lib.hid h
  have HF := Lib.hid hF
  have HM := Lib.hid hm
  have lx := hx.lt
  have c0 : w.cell? ⟨gx, 1, none⟩ = some (.int .u32 (m.req : Int)) := hx.cell 1
  have f0 := hx.frozen 1
  obtain ⟨w1, hw1⟩ : ∃ w1, w.setCell ⟨gx, 1, none⟩ (.int .u32 0) = w1 := ⟨_, rfl⟩
  have k01 : Kept [gx] w w1 := by rw [← hw1]; exact (Kept.refl _ _).setCell _ _ (.inl (by simp))
  have X1 := Lib.hid (show Blk w1 gx 37 (Fld.req.wipeL m).cells from by rw [← hw1]; exact hx.set 1 (.int .u32 0))
  have H1 := Lib.hid (H.out.kept k01 (fun k hk hx => by simp at hx; subst hx; exact HF.out hk))
  have K1 := Lib.hid k01
  have HI := Lib.hid (HM.out.kept k01 (fun k hk ho => by simp at hk; omega))
  clear k01
  have hwn : IntKind.u64.wrap (m.req : Int) = (m.req : Int) := by rw [IntKind.wrap_u64]; have := HM.out.hreq; omega
  clear h hx hF hm
  go_enter Tryz.func37, Tryz.ntmps37
  go_wp2_with (fail)
  refine (take_u32 m.req gx 1 w c0 f0).mono ?_
  rintro e w2 ⟨rfl, rfl⟩
  rw [hw1]
  clear hw1 c0 f0
  go_wp2_with (fail)
  refine (wnum_any 4294967295 m.req g B (by decide) F s w1 H1.out HI.out.hreq (by omega)).mono ?_
  rintro e w3 ⟨rfl, hend⟩
  have FIN := Lib.hid (FPost.mk (f := .req) (m := m) X1.out HF.out K1.out (by decide) hend)
  clear hend
  go_wp2
  go_end0
  exact FIN.out

set_option maxRecDepth 100000 in
set_option maxHeartbeats 3200000 in
theorem wfield_caps (m : MsgL) (gx g B : Nat) (F : List Nat) (s : List Nat × Bool) (w : World) (h : WAt w g B F s) (hl : s.1.length ≤ 370000000000) (hx : Blk w gx 37 m.cells) (hgx : B ≤ gx) (hF : gx ∉ F) (hm : m.In (· < B) w) :
    Calls Tryz.prog 37 #[.pointer (some ⟨g, 0, none⟩), .int .u8 1, .pointer (some ⟨gx, 0, none⟩)] w fun e w' => FPost .caps m gx g B F s w e w' := by
  have H := Lib.hid h
  have HF := Lib.hid hF
  have HM := Lib.hid hm
  have lx := hx.lt
  have c0 : w.cell? ⟨gx, 2, none⟩ = some (.int .u32 (m.caps : Int)) := hx.cell 2
  have f0 := hx.frozen 2
  obtain ⟨w1, hw1⟩ : ∃ w1, w.setCell ⟨gx, 2, none⟩ (.int .u32 0) = w1 := ⟨_, rfl⟩
  have k01 : Kept [gx] w w1 := by rw [← hw1]; exact (Kept.refl _ _).setCell _ _ (.inl (by simp))
  have X1 := Lib.hid (show Blk w1 gx 37 (Fld.caps.wipeL m).cells from by rw [← hw1]; exact hx.set 2 (.int .u32 0))
  have H1 := Lib.hid (H.out.kept k01 (fun k hk hx => by simp at hx; subst hx; exact HF.out hk))
  have K1 := Lib.hid k01
  have HI := Lib.hid (HM.out.kept k01 (fun k hk ho => by simp at hk; omega))
  clear k01
  have hwn : IntKind.u64.wrap (m.caps : Int) = (m.caps : Int) := by rw [IntKind.wrap_u64]; have := HM.out.hcaps; omega
  clear h hx hF hm
  go_enter Tryz.func37, Tryz.ntmps37
  go_wp2_with (fail)
  refine (take_u32 m.caps gx 2 w c0 f0).mono ?_
  rintro e w2 ⟨rfl, rfl⟩
  rw [hw1]
  clear hw1 c0 f0
  go_wp2_with (fail)
  refine (wnum_any 4294967295 m.caps g B (by decide) F s w1 H1.out HI.out.hcaps (by omega)).mono ?_
  rintro e w3 ⟨rfl, hend⟩
  have FIN := Lib.hid (FPost.mk (f := .caps) (m := m) X1.out HF.out K1.out (by decide) hend)
  clear hend
  go_wp2
  go_end0
  exact FIN.out

set_option maxRecDepth 100000 in
set_option maxHeartbeats 3200000 in
theorem wfield_token (m : MsgL) (gx g B : Nat) (F : List Nat) (s : List Nat × Bool) (w : World) (h : WAt w g B F s) (hl : s.1.length ≤ 370000000000) (hx : Blk w gx 37 m.cells) (hgx : B ≤ gx) (hF : gx ∉ F) (hm : m.In (· < B) w) :
    Calls Tryz.prog 37 #[.pointer (some ⟨g, 0, none⟩), .int .u8 2, .pointer (some ⟨gx, 0, none⟩)] w fun e w' => FPost .token m gx g B F s w e w' := by
  have H := Lib.hid h
  have HF := Lib.hid hF
  have HM := Lib.hid hm
  have lx := hx.lt
  have c0 : w.cell? ⟨gx, 3, none⟩ = some (.int .u64 (m.token : Int)) := hx.cell 3
  have f0 := hx.frozen 3
  obtain ⟨w1, hw1⟩ : ∃ w1, w.setCell ⟨gx, 3, none⟩ (.int .u64 0) = w1 := ⟨_, rfl⟩
  have k01 : Kept [gx] w w1 := by rw [← hw1]; exact (Kept.refl _ _).setCell _ _ (.inl (by simp))
  have X1 := Lib.hid (show Blk w1 gx 37 (Fld.token.wipeL m).cells from by rw [← hw1]; exact hx.set 3 (.int .u64 0))
  have H1 := Lib.hid (H.out.kept k01 (fun k hk hx => by simp at hx; subst hx; exact HF.out hk))
  have K1 := Lib.hid k01
  have HI := Lib.hid (HM.out.kept k01 (fun k hk ho => by simp at hk; omega))
  clear k01
  clear h hx hF hm
  go_enter Tryz.func37, Tryz.ntmps37
  go_wp2_with (fail)
  refine (take_u64 m.token gx 3 w c0 f0).mono ?_
  rintro e w2 ⟨rfl, rfl⟩
  rw [hw1]
  clear hw1 c0 f0
  go_wp2_with (fail)
  refine (wnum_any 18446744073709551615 m.token g B (by decide) F s w1 H1.out HI.out.htoken (by omega)).mono ?_
  rintro e w3 ⟨rfl, hend⟩
  have FIN := Lib.hid (FPost.mk (f := .token) (m := m) X1.out HF.out K1.out (by decide) hend)
  clear hend
  go_wp2
  go_end0
  exact FIN.out

set_option maxRecDepth 100000 in
set_option maxHeartbeats 3200000 in
theorem wfield_code (m : MsgL) (gx g B : Nat) (F : List Nat) (s : List Nat × Bool) (w : World) (h : WAt w g B F s) (hl : s.1.length ≤ 370000000000) (hx : Blk w gx 37 m.cells) (hgx : B ≤ gx) (hF : gx ∉ F) (hm : m.In (· < B) w) :
    Calls Tryz.prog 37 #[.pointer (some ⟨g, 0, none⟩), .int .u8 3, .pointer (some ⟨gx, 0, none⟩)] w fun e w' => FPost .code m gx g B F s w e w' := by
  have H := Lib.hid h
  have HF := Lib.hid hF
  have HM := Lib.hid hm
  have lx := hx.lt
  have c0 : w.cell? ⟨gx, 4, none⟩ = some (.int .u8 (m.code : Int)) := hx.cell 4
  have f0 := hx.frozen 4
  obtain ⟨w1, hw1⟩ : ∃ w1, w.setCell ⟨gx, 4, none⟩ (.int .u8 0) = w1 := ⟨_, rfl⟩
  have k01 : Kept [gx] w w1 := by rw [← hw1]; exact (Kept.refl _ _).setCell _ _ (.inl (by simp))
  have X1 := Lib.hid (show Blk w1 gx 37 (Fld.code.wipeL m).cells from by rw [← hw1]; exact hx.set 4 (.int .u8 0))
  have H1 := Lib.hid (H.out.kept k01 (fun k hk hx => by simp at hx; subst hx; exact HF.out hk))
  have K1 := Lib.hid k01
  have HI := Lib.hid (HM.out.kept k01 (fun k hk ho => by simp at hk; omega))
  clear k01
  have hwn : IntKind.u64.wrap (m.code : Int) = (m.code : Int) := by rw [IntKind.wrap_u64]; have := HM.out.hcode; omega
  clear h hx hF hm
  go_enter Tryz.func37, Tryz.ntmps37
  go_wp2_with (fail)
  refine (take_u8 m.code gx 4 w c0 f0).mono ?_
  rintro e w2 ⟨rfl, rfl⟩
  rw [hw1]
  clear hw1 c0 f0
  go_wp2_with (fail)
  refine (wnum_any 255 m.code g B (by decide) F s w1 H1.out HI.out.hcode (by omega)).mono ?_
  rintro e w3 ⟨rfl, hend⟩
  have FIN := Lib.hid (FPost.mk (f := .code) (m := m) X1.out HF.out K1.out (by decide) hend)
  clear hend
  go_wp2
  go_end0
  exact FIN.out

set_option maxRecDepth 100000 in
set_option maxHeartbeats 3200000 in
theorem wfield_n (m : MsgL) (gx g B : Nat) (F : List Nat) (s : List Nat × Bool) (w : World) (h : WAt w g B F s) (hl : s.1.length ≤ 370000000000) (hx : Blk w gx 37 m.cells) (hgx : B ≤ gx) (hF : gx ∉ F) (hm : m.In (· < B) w) :
    Calls Tryz.prog 37 #[.pointer (some ⟨g, 0, none⟩), .int .u8 4, .pointer (some ⟨gx, 0, none⟩)] w fun e w' => FPost .n m gx g B F s w e w' := by
  have H := Lib.hid h
  have HF := Lib.hid hF
  have HM := Lib.hid hm
  have lx := hx.lt
  have c0 : w.cell? ⟨gx, 5, none⟩ = some (.int .u32 (m.n : Int)) := hx.cell 5
  have f0 := hx.frozen 5
  obtain ⟨w1, hw1⟩ : ∃ w1, w.setCell ⟨gx, 5, none⟩ (.int .u32 0) = w1 := ⟨_, rfl⟩
  have k01 : Kept [gx] w w1 := by rw [← hw1]; exact (Kept.refl _ _).setCell _ _ (.inl (by simp))
  have X1 := Lib.hid (show Blk w1 gx 37 (Fld.n.wipeL m).cells from by rw [← hw1]; exact hx.set 5 (.int .u32 0))
  have H1 := Lib.hid (H.out.kept k01 (fun k hk hx => by simp at hx; subst hx; exact HF.out hk))
  have K1 := Lib.hid k01
  have HI := Lib.hid (HM.out.kept k01 (fun k hk ho => by simp at hk; omega))
  clear k01
  have hwn : IntKind.u64.wrap (m.n : Int) = (m.n : Int) := by rw [IntKind.wrap_u64]; have := HM.out.hn; omega
  clear h hx hF hm
  go_enter Tryz.func37, Tryz.ntmps37
  go_wp2_with (fail)
  refine (take_u32 m.n gx 5 w c0 f0).mono ?_
  rintro e w2 ⟨rfl, rfl⟩
  rw [hw1]
  clear hw1 c0 f0
  go_wp2_with (fail)
  refine (wnum_any 4294967295 m.n g B (by decide) F s w1 H1.out HI.out.hn (by omega)).mono ?_
  rintro e w3 ⟨rfl, hend⟩
  have FIN := Lib.hid (FPost.mk (f := .n) (m := m) X1.out HF.out K1.out (by decide) hend)
  clear hend
  go_wp2
  go_end0
  exact FIN.out

set_option maxRecDepth 100000 in
set_option maxHeartbeats 3200000 in
theorem wfield_name (m : MsgL) (gx g B : Nat) (F : List Nat) (s : List Nat × Bool) (w : World) (h : WAt w g B F s) (hl : s.1.length ≤ 370000000000) (hx : Blk w gx 37 m.cells) (hgx : B ≤ gx) (hF : gx ∉ F) (hm : m.In (· < B) w) :
    Calls Tryz.prog 37 #[.pointer (some ⟨g, 0, none⟩), .int .u8 5, .pointer (some ⟨gx, 0, none⟩)] w fun e w' => FPost .name m gx g B F s w e w' := by
  have H := Lib.hid h
  have HF := Lib.hid hF
  have HM := Lib.hid hm
  have lx := hx.lt
  have c0 : w.cell? ⟨gx, 6, none⟩ = some (.string m.name) := hx.cell 6
  have f0 := hx.frozen 6
  obtain ⟨w1, hw1⟩ : ∃ w1, w.setCell ⟨gx, 6, none⟩ (.string ⟨#[]⟩) = w1 := ⟨_, rfl⟩
  have k01 : Kept [gx] w w1 := by rw [← hw1]; exact (Kept.refl _ _).setCell _ _ (.inl (by simp))
  have X1 := Lib.hid (show Blk w1 gx 37 (Fld.name.wipeL m).cells from by rw [← hw1]; exact hx.set 6 (.string ⟨#[]⟩))
  have H1 := Lib.hid (H.out.kept k01 (fun k hk hx => by simp at hx; subst hx; exact HF.out hk))
  have K1 := Lib.hid k01
  have HI := Lib.hid (HM.out.kept k01 (fun k hk ho => by simp at hk; omega))
  clear k01
  clear h hx hF hm
  go_enter Tryz.func37, Tryz.ntmps37
  go_wp2_with (fail)
  refine (take_str m.name gx 6 w c0 f0).mono ?_
  rintro e w2 ⟨rfl, rfl⟩
  rw [hw1]
  clear hw1 c0 f0
  go_wp2_with (fail)
  refine (wtext_any m.name g B F s w1 H1.out (by omega) (by unfold maxLen; have := HI.out.hname; omega)).mono ?_
  rintro e w3 ⟨rfl, hend⟩
  have FIN := Lib.hid (FPost.mk (f := .name) (m := m) X1.out HF.out K1.out (by decide) hend)
  clear hend
  go_wp2
  go_end0
  exact FIN.out

set_option maxRecDepth 100000 in
set_option maxHeartbeats 3200000 in
theorem wfield_conf (m : MsgL) (gx g B : Nat) (F : List Nat) (s : List Nat × Bool) (w : World) (h : WAt w g B F s) (hl : s.1.length ≤ 370000000000) (hx : Blk w gx 37 m.cells) (hgx : B ≤ gx) (hF : gx ∉ F) (hm : m.In (· < B) w) :
    Calls Tryz.prog 37 #[.pointer (some ⟨g, 0, none⟩), .int .u8 6, .pointer (some ⟨gx, 0, none⟩)] w fun e w' => FPost .conf m gx g B F s w e w' := by
  have H := Lib.hid h
  have HF := Lib.hid hF
  have HM := Lib.hid hm
  have lx := hx.lt
  have HXX := Lib.hid hx
  clear h hx hF hm
  go_enter Tryz.func37, Tryz.ntmps37
  go_wp2_with (fail)
  refine (take_conf m.cname m.dim m.metric m.links m.cwidth m.graph gx 7 w (HXX.out.cell 7) (HXX.out.frozen 7) (HXX.out.cell 8) (HXX.out.frozen 8) (HXX.out.cell 9) (HXX.out.frozen 9) (HXX.out.cell 10) (HXX.out.frozen 10) (HXX.out.cell 11) (HXX.out.frozen 11) (HXX.out.cell 12) (HXX.out.frozen 12) HXX.out.lt).mono ?_
  rintro e w1 ⟨rfl, k01, hset⟩
  have X1 := Lib.hid (show Blk w1 gx 37 (Fld.conf.wipeL m).cells from hset _ HXX.out)
  have H1 := Lib.hid (H.out.kept k01 (fun k hk hx => by simp at hx; subst hx; exact HF.out hk))
  have K1 := Lib.hid k01
  have HI := Lib.hid (HM.out.kept k01 (fun k hk ho => by simp at hk; omega))
  clear hset k01
  go_wp2_with (fail)
  refine (wconf_any m.cname m.dim m.metric m.links m.cwidth m.graph g B F s w1 H1.out (by omega) (by unfold maxLen; have := HI.out.hcname; omega) HI.out.hdim HI.out.hmetric HI.out.hlinks HI.out.hcwidth).mono ?_
  rintro e w3 ⟨rfl, hend⟩
  have FIN := Lib.hid (FPost.mk (f := .conf) (m := m) X1.out HF.out K1.out (by decide) hend)
  clear hend
  go_wp2
  go_end0
  exact FIN.out

set_option maxRecDepth 100000 in
set_option maxHeartbeats 3200000 in
theorem wfield_changes (m : MsgL) (gx g B : Nat) (F : List Nat) (s : List Nat × Bool) (w : World) (h : WAt w g B F s) (hl : s.1.length ≤ 370000000000) (hx : Blk w gx 37 m.cells) (hgx : B ≤ gx) (hF : gx ∉ F) (hm : m.In (· < B) w) :
    Calls Tryz.prog 37 #[.pointer (some ⟨g, 0, none⟩), .int .u8 7, .pointer (some ⟨gx, 0, none⟩)] w fun e w' => FPost .changes m gx g B F s w e w' := by
  have H := Lib.hid h
  have HF := Lib.hid hF
  have HM := Lib.hid hm
  have lx := hx.lt
  have c0 : w.cell? ⟨gx, 13, none⟩ = some (.slice m.pch.a m.pch.n m.pch.c) := hx.cell 13
  have f0 := hx.frozen 13
  obtain ⟨w1, hw1⟩ : ∃ w1, w.setCell ⟨gx, 13, none⟩ (.slice none 0 0) = w1 := ⟨_, rfl⟩
  have k01 : Kept [gx] w w1 := by rw [← hw1]; exact (Kept.refl _ _).setCell _ _ (.inl (by simp))
  have X1 := Lib.hid (show Blk w1 gx 37 (Fld.changes.wipeL m).cells from by rw [← hw1]; exact hx.set 13 (.slice none 0 0))
  have H1 := Lib.hid (H.out.kept k01 (fun k hk hx => by simp at hx; subst hx; exact HF.out hk))
  have K1 := Lib.hid k01
  have HI := Lib.hid (HM.out.kept k01 (fun k hk ho => by simp at hk; omega))
  clear k01
  clear h hx hF hm
  go_enter Tryz.func37, Tryz.ntmps37
  go_wp2_with (fail)
  refine (take_changes m.pch.a m.pch.n m.pch.c gx 13 w c0 f0).mono ?_
  rintro e w2 ⟨rfl, rfl⟩
  rw [hw1]
  clear hw1 c0 f0
  go_wp2_with (fail)
  refine (wchanges_any m.pch.a m.pch.n m.pch.c m.changes g B F s w1 H1.out (by omega) HI.out.hchanges).mono ?_
  rintro e w3 ⟨rfl, hend⟩
  have FIN := Lib.hid (FPost.mk (f := .changes) (m := m) X1.out HF.out K1.out (by decide) hend)
  clear hend
  go_wp2
  go_end0
  exact FIN.out

set_option maxRecDepth 100000 in
set_option maxHeartbeats 3200000 in
theorem wfield_id (m : MsgL) (gx g B : Nat) (F : List Nat) (s : List Nat × Bool) (w : World) (h : WAt w g B F s) (hl : s.1.length ≤ 370000000000) (hx : Blk w gx 37 m.cells) (hgx : B ≤ gx) (hF : gx ∉ F) (hm : m.In (· < B) w) :
    Calls Tryz.prog 37 #[.pointer (some ⟨g, 0, none⟩), .int .u8 8, .pointer (some ⟨gx, 0, none⟩)] w fun e w' => FPost .id m gx g B F s w e w' := by
  have H := Lib.hid h
  have HF := Lib.hid hF
  have HM := Lib.hid hm
  have lx := hx.lt
  have c0 : w.cell? ⟨gx, 14, none⟩ = some (.int .u32 (m.id : Int)) := hx.cell 14
  have f0 := hx.frozen 14
  obtain ⟨w1, hw1⟩ : ∃ w1, w.setCell ⟨gx, 14, none⟩ (.int .u32 0) = w1 := ⟨_, rfl⟩
  have k01 : Kept [gx] w w1 := by rw [← hw1]; exact (Kept.refl _ _).setCell _ _ (.inl (by simp))
  have X1 := Lib.hid (show Blk w1 gx 37 (Fld.id.wipeL m).cells from by rw [← hw1]; exact hx.set 14 (.int .u32 0))
  have H1 := Lib.hid (H.out.kept k01 (fun k hk hx => by simp at hx; subst hx; exact HF.out hk))
  have K1 := Lib.hid k01
  have HI := Lib.hid (HM.out.kept k01 (fun k hk ho => by simp at hk; omega))
  clear k01
  have hwn : IntKind.u64.wrap (m.id : Int) = (m.id : Int) := by rw [IntKind.wrap_u64]; have := HM.out.hid; omega
  clear h hx hF hm
  go_enter Tryz.func37, Tryz.ntmps37
  go_wp2_with (fail)
  refine (take_u32 m.id gx 14 w c0 f0).mono ?_
  rintro e w2 ⟨rfl, rfl⟩
  rw [hw1]
  clear hw1 c0 f0
  go_wp2_with (fail)
  refine (wnum_any 4294967295 m.id g B (by decide) F s w1 H1.out HI.out.hid (by omega)).mono ?_
  rintro e w3 ⟨rfl, hend⟩
  have FIN := Lib.hid (FPost.mk (f := .id) (m := m) X1.out HF.out K1.out (by decide) hend)
  clear hend
  go_wp2
  go_end0
  exact FIN.out

set_option maxRecDepth 100000 in
set_option maxHeartbeats 3200000 in
theorem wfield_vec (m : MsgL) (gx g B : Nat) (F : List Nat) (s : List Nat × Bool) (w : World) (h : WAt w g B F s) (hl : s.1.length ≤ 370000000000) (hx : Blk w gx 37 m.cells) (hgx : B ≤ gx) (hF : gx ∉ F) (hm : m.In (· < B) w) :
    Calls Tryz.prog 37 #[.pointer (some ⟨g, 0, none⟩), .int .u8 9, .pointer (some ⟨gx, 0, none⟩)] w fun e w' => FPost .vec m gx g B F s w e w' := by
  have H := Lib.hid h
  have HF := Lib.hid hF
  have HM := Lib.hid hm
  have lx := hx.lt
  have c0 : w.cell? ⟨gx, 15, none⟩ = some (.slice m.pvec.a m.pvec.n m.pvec.c) := hx.cell 15
  have f0 := hx.frozen 15
  obtain ⟨w1, hw1⟩ : ∃ w1, w.setCell ⟨gx, 15, none⟩ (.slice none 0 0) = w1 := ⟨_, rfl⟩
  have k01 : Kept [gx] w w1 := by rw [← hw1]; exact (Kept.refl _ _).setCell _ _ (.inl (by simp))
  have X1 := Lib.hid (show Blk w1 gx 37 (Fld.vec.wipeL m).cells from by rw [← hw1]; exact hx.set 15 (.slice none 0 0))
  have H1 := Lib.hid (H.out.kept k01 (fun k hk hx => by simp at hx; subst hx; exact HF.out hk))
  have K1 := Lib.hid k01
  have HI := Lib.hid (HM.out.kept k01 (fun k hk ho => by simp at hk; omega))
  clear k01
  clear h hx hF hm
  go_enter Tryz.func37, Tryz.ntmps37
  go_wp2_with (fail)
  refine (take_vec m.pvec.a m.pvec.n m.pvec.c gx 15 w c0 f0).mono ?_
  rintro e w2 ⟨rfl, rfl⟩
  rw [hw1]
  clear hw1 c0 f0
  go_wp2_with (fail)
  refine (wvec_any m.pvec.a m.pvec.n m.pvec.c m.vec g B F s w1 H1.out (by omega) HI.out.hvec).mono ?_
  rintro e w3 ⟨rfl, hend⟩
  have FIN := Lib.hid (FPost.mk (f := .vec) (m := m) X1.out HF.out K1.out (by decide) hend)
  clear hend
  go_wp2
  go_end0
  exact FIN.out

set_option maxRecDepth 100000 in
set_option maxHeartbeats 3200000 in
theorem wfield_k (m : MsgL) (gx g B : Nat) (F : List Nat) (s : List Nat × Bool) (w : World) (h : WAt w g B F s) (hl : s.1.length ≤ 370000000000) (hx : Blk w gx 37 m.cells) (hgx : B ≤ gx) (hF : gx ∉ F) (hm : m.In (· < B) w) :
    Calls Tryz.prog 37 #[.pointer (some ⟨g, 0, none⟩), .int .u8 10, .pointer (some ⟨gx, 0, none⟩)] w fun e w' => FPost .k m gx g B F s w e w' := by
  have H := Lib.hid h
  have HF := Lib.hid hF
  have HM := Lib.hid hm
  have lx := hx.lt
  have c0 : w.cell? ⟨gx, 16, none⟩ = some (.int .u16 (m.k : Int)) := hx.cell 16
  have f0 := hx.frozen 16
  obtain ⟨w1, hw1⟩ : ∃ w1, w.setCell ⟨gx, 16, none⟩ (.int .u16 0) = w1 := ⟨_, rfl⟩
  have k01 : Kept [gx] w w1 := by rw [← hw1]; exact (Kept.refl _ _).setCell _ _ (.inl (by simp))
  have X1 := Lib.hid (show Blk w1 gx 37 (Fld.k.wipeL m).cells from by rw [← hw1]; exact hx.set 16 (.int .u16 0))
  have H1 := Lib.hid (H.out.kept k01 (fun k hk hx => by simp at hx; subst hx; exact HF.out hk))
  have K1 := Lib.hid k01
  have HI := Lib.hid (HM.out.kept k01 (fun k hk ho => by simp at hk; omega))
  clear k01
  have hwn : IntKind.u64.wrap (m.k : Int) = (m.k : Int) := by rw [IntKind.wrap_u64]; have := HM.out.hk; omega
  clear h hx hF hm
  go_enter Tryz.func37, Tryz.ntmps37
  go_wp2_with (fail)
  refine (take_u16 m.k gx 16 w c0 f0).mono ?_
  rintro e w2 ⟨rfl, rfl⟩
  rw [hw1]
  clear hw1 c0 f0
  go_wp2_with (fail)
  refine (wnum_any 65535 m.k g B (by decide) F s w1 H1.out HI.out.hk (by omega)).mono ?_
  rintro e w3 ⟨rfl, hend⟩
  have FIN := Lib.hid (FPost.mk (f := .k) (m := m) X1.out HF.out K1.out (by decide) hend)
  clear hend
  go_wp2
  go_end0
  exact FIN.out

set_option maxRecDepth 100000 in
set_option maxHeartbeats 3200000 in
theorem wfield_width (m : MsgL) (gx g B : Nat) (F : List Nat) (s : List Nat × Bool) (w : World) (h : WAt w g B F s) (hl : s.1.length ≤ 370000000000) (hx : Blk w gx 37 m.cells) (hgx : B ≤ gx) (hF : gx ∉ F) (hm : m.In (· < B) w) :
    Calls Tryz.prog 37 #[.pointer (some ⟨g, 0, none⟩), .int .u8 11, .pointer (some ⟨gx, 0, none⟩)] w fun e w' => FPost .width m gx g B F s w e w' := by
  have H := Lib.hid h
  have HF := Lib.hid hF
  have HM := Lib.hid hm
  have lx := hx.lt
  have c0 : w.cell? ⟨gx, 17, none⟩ = some (.int .u16 (m.width : Int)) := hx.cell 17
  have f0 := hx.frozen 17
  obtain ⟨w1, hw1⟩ : ∃ w1, w.setCell ⟨gx, 17, none⟩ (.int .u16 0) = w1 := ⟨_, rfl⟩
  have k01 : Kept [gx] w w1 := by rw [← hw1]; exact (Kept.refl _ _).setCell _ _ (.inl (by simp))
  have X1 := Lib.hid (show Blk w1 gx 37 (Fld.width.wipeL m).cells from by rw [← hw1]; exact hx.set 17 (.int .u16 0))
  have H1 := Lib.hid (H.out.kept k01 (fun k hk hx => by simp at hx; subst hx; exact HF.out hk))
  have K1 := Lib.hid k01
  have HI := Lib.hid (HM.out.kept k01 (fun k hk ho => by simp at hk; omega))
  clear k01
  have hwn : IntKind.u64.wrap (m.width : Int) = (m.width : Int) := by rw [IntKind.wrap_u64]; have := HM.out.hwidth; omega
  clear h hx hF hm
  go_enter Tryz.func37, Tryz.ntmps37
  go_wp2_with (fail)
  refine (take_u16 m.width gx 17 w c0 f0).mono ?_
  rintro e w2 ⟨rfl, rfl⟩
  rw [hw1]
  clear hw1 c0 f0
  go_wp2_with (fail)
  refine (wnum_any 65535 m.width g B (by decide) F s w1 H1.out HI.out.hwidth (by omega)).mono ?_
  rintro e w3 ⟨rfl, hend⟩
  have FIN := Lib.hid (FPost.mk (f := .width) (m := m) X1.out HF.out K1.out (by decide) hend)
  clear hend
  go_wp2
  go_end0
  exact FIN.out

set_option maxRecDepth 100000 in
set_option maxHeartbeats 3200000 in
theorem wfield_filter (m : MsgL) (gx g B : Nat) (F : List Nat) (s : List Nat × Bool) (w : World) (h : WAt w g B F s) (hl : s.1.length ≤ 370000000000) (hx : Blk w gx 37 m.cells) (hgx : B ≤ gx) (hF : gx ∉ F) (hm : m.In (· < B) w) :
    Calls Tryz.prog 37 #[.pointer (some ⟨g, 0, none⟩), .int .u8 12, .pointer (some ⟨gx, 0, none⟩)] w fun e w' => FPost .filter m gx g B F s w e w' := by
  have H := Lib.hid h
  have HF := Lib.hid hF
  have HM := Lib.hid hm
  have lx := hx.lt
  have HXX := Lib.hid hx
  clear h hx hF hm
  go_enter Tryz.func37, Tryz.ntmps37
  go_wp2_with (fail)
  refine (take_filter m.pall m.pany m.pno gx 18 w (HXX.out.cell 18) (HXX.out.frozen 18) (HXX.out.cell 19) (HXX.out.frozen 19) (HXX.out.cell 20) (HXX.out.frozen 20) HXX.out.lt).mono ?_
  rintro e w1 ⟨rfl, k01, hset⟩
  have X1 := Lib.hid (show Blk w1 gx 37 (Fld.filter.wipeL m).cells from hset _ HXX.out)
  have H1 := Lib.hid (H.out.kept k01 (fun k hk hx => by simp at hx; subst hx; exact HF.out hk))
  have K1 := Lib.hid k01
  have HI := Lib.hid (HM.out.kept k01 (fun k hk ho => by simp at hk; omega))
  clear hset k01
  go_wp2_with (fail)
  refine (wfilter_any m.pall m.pany m.pno m.all m.any m.no g B F s w1 H1.out (by omega) HI.out.hall HI.out.hany HI.out.hno).mono ?_
  rintro e w3 ⟨rfl, hend⟩
  have FIN := Lib.hid (FPost.mk (f := .filter) (m := m) X1.out HF.out K1.out (by decide) hend)
  clear hend
  go_wp2
  go_end0
  exact FIN.out

set_option maxRecDepth 100000 in
set_option maxHeartbeats 3200000 in
theorem wfield_num (m : MsgL) (gx g B : Nat) (F : List Nat) (s : List Nat × Bool) (w : World) (h : WAt w g B F s) (hl : s.1.length ≤ 370000000000) (hx : Blk w gx 37 m.cells) (hgx : B ≤ gx) (hF : gx ∉ F) (hm : m.In (· < B) w) :
    Calls Tryz.prog 37 #[.pointer (some ⟨g, 0, none⟩), .int .u8 13, .pointer (some ⟨gx, 0, none⟩)] w fun e w' => FPost .num m gx g B F s w e w' := by
  have H := Lib.hid h
  have HF := Lib.hid hF
  have HM := Lib.hid hm
  have lx := hx.lt
  have c0 : w.cell? ⟨gx, 21, none⟩ = some (.int .u32 (m.num : Int)) := hx.cell 21
  have f0 := hx.frozen 21
  obtain ⟨w1, hw1⟩ : ∃ w1, w.setCell ⟨gx, 21, none⟩ (.int .u32 0) = w1 := ⟨_, rfl⟩
  have k01 : Kept [gx] w w1 := by rw [← hw1]; exact (Kept.refl _ _).setCell _ _ (.inl (by simp))
  have X1 := Lib.hid (show Blk w1 gx 37 (Fld.num.wipeL m).cells from by rw [← hw1]; exact hx.set 21 (.int .u32 0))
  have H1 := Lib.hid (H.out.kept k01 (fun k hk hx => by simp at hx; subst hx; exact HF.out hk))
  have K1 := Lib.hid k01
  have HI := Lib.hid (HM.out.kept k01 (fun k hk ho => by simp at hk; omega))
  clear k01
  have hwn : IntKind.u64.wrap (m.num : Int) = (m.num : Int) := by rw [IntKind.wrap_u64]; have := HM.out.hnum; omega
  clear h hx hF hm
  go_enter Tryz.func37, Tryz.ntmps37
  go_wp2_with (fail)
  refine (take_u32 m.num gx 21 w c0 f0).mono ?_
  rintro e w2 ⟨rfl, rfl⟩
  rw [hw1]
  clear hw1 c0 f0
  go_wp2_with (fail)
  refine (wnum_any 4294967295 m.num g B (by decide) F s w1 H1.out HI.out.hnum (by omega)).mono ?_
  rintro e w3 ⟨rfl, hend⟩
  have FIN := Lib.hid (FPost.mk (f := .num) (m := m) X1.out HF.out K1.out (by decide) hend)
  clear hend
  go_wp2
  go_end0
  exact FIN.out

set_option maxRecDepth 100000 in
set_option maxHeartbeats 3200000 in
theorem wfield_page (m : MsgL) (gx g B : Nat) (F : List Nat) (s : List Nat × Bool) (w : World) (h : WAt w g B F s) (hl : s.1.length ≤ 370000000000) (hx : Blk w gx 37 m.cells) (hgx : B ≤ gx) (hF : gx ∉ F) (hm : m.In (· < B) w) :
    Calls Tryz.prog 37 #[.pointer (some ⟨g, 0, none⟩), .int .u8 14, .pointer (some ⟨gx, 0, none⟩)] w fun e w' => FPost .page m gx g B F s w e w' := by
  have H := Lib.hid h
  have HF := Lib.hid hF
  have HM := Lib.hid hm
  have lx := hx.lt
  have c0 : w.cell? ⟨gx, 22, none⟩ = some (.int .u32 (m.page : Int)) := hx.cell 22
  have f0 := hx.frozen 22
  obtain ⟨w1, hw1⟩ : ∃ w1, w.setCell ⟨gx, 22, none⟩ (.int .u32 0) = w1 := ⟨_, rfl⟩
  have k01 : Kept [gx] w w1 := by rw [← hw1]; exact (Kept.refl _ _).setCell _ _ (.inl (by simp))
  have X1 := Lib.hid (show Blk w1 gx 37 (Fld.page.wipeL m).cells from by rw [← hw1]; exact hx.set 22 (.int .u32 0))
  have H1 := Lib.hid (H.out.kept k01 (fun k hk hx => by simp at hx; subst hx; exact HF.out hk))
  have K1 := Lib.hid k01
  have HI := Lib.hid (HM.out.kept k01 (fun k hk ho => by simp at hk; omega))
  clear k01
  have hwn : IntKind.u64.wrap (m.page : Int) = (m.page : Int) := by rw [IntKind.wrap_u64]; have := HM.out.hpage; omega
  clear h hx hF hm
  go_enter Tryz.func37, Tryz.ntmps37
  go_wp2_with (fail)
  refine (take_u32 m.page gx 22 w c0 f0).mono ?_
  rintro e w2 ⟨rfl, rfl⟩
  rw [hw1]
  clear hw1 c0 f0
  go_wp2_with (fail)
  refine (wnum_any 4294967295 m.page g B (by decide) F s w1 H1.out HI.out.hpage (by omega)).mono ?_
  rintro e w3 ⟨rfl, hend⟩
  have FIN := Lib.hid (FPost.mk (f := .page) (m := m) X1.out HF.out K1.out (by decide) hend)
  clear hend
  go_wp2
  go_end0
  exact FIN.out

set_option maxRecDepth 100000 in
set_option maxHeartbeats 3200000 in
theorem wfield_bytes (m : MsgL) (gx g B : Nat) (F : List Nat) (s : List Nat × Bool) (w : World) (h : WAt w g B F s) (hl : s.1.length ≤ 370000000000) (hx : Blk w gx 37 m.cells) (hgx : B ≤ gx) (hF : gx ∉ F) (hm : m.In (· < B) w) :
    Calls Tryz.prog 37 #[.pointer (some ⟨g, 0, none⟩), .int .u8 15, .pointer (some ⟨gx, 0, none⟩)] w fun e w' => FPost .bytes m gx g B F s w e w' := by
  have H := Lib.hid h
  have HF := Lib.hid hF
  have HM := Lib.hid hm
  have lx := hx.lt
  have c0 : w.cell? ⟨gx, 23, none⟩ = some (.slice m.pbytes.a m.pbytes.n m.pbytes.c) := hx.cell 23
  have f0 := hx.frozen 23
  obtain ⟨w1, hw1⟩ : ∃ w1, w.setCell ⟨gx, 23, none⟩ (.slice none 0 0) = w1 := ⟨_, rfl⟩
  have k01 : Kept [gx] w w1 := by rw [← hw1]; exact (Kept.refl _ _).setCell _ _ (.inl (by simp))
  have X1 := Lib.hid (show Blk w1 gx 37 (Fld.bytes.wipeL m).cells from by rw [← hw1]; exact hx.set 23 (.slice none 0 0))
  have H1 := Lib.hid (H.out.kept k01 (fun k hk hx => by simp at hx; subst hx; exact HF.out hk))
  have K1 := Lib.hid k01
  have HI := Lib.hid (HM.out.kept k01 (fun k hk ho => by simp at hk; omega))
  clear k01
  clear h hx hF hm
  go_enter Tryz.func37, Tryz.ntmps37
  go_wp2_with (fail)
  refine (take_bytes m.pbytes.a m.pbytes.n m.pbytes.c gx 23 w c0 f0).mono ?_
  rintro e w2 ⟨rfl, rfl⟩
  rw [hw1]
  clear hw1 c0 f0
  go_wp2_with (fail)
  refine (wbytes_any m.pbytes.a m.pbytes.n m.pbytes.c (m.bytes.map Int.toNat) g B F s w1 H1.out (by omega) (fun w' hb => (HI.out.under hb).hbytes.bytes.1)).mono ?_
  rintro e w3 ⟨rfl, hend⟩
  have FIN := Lib.hid (FPost.mk (f := .bytes) (m := m) X1.out HF.out K1.out (by decide) hend)
  clear hend
  go_wp2
  go_end0
  exact FIN.out

set_option maxRecDepth 100000 in
set_option maxHeartbeats 3200000 in
theorem wfield_version (m : MsgL) (gx g B : Nat) (F : List Nat) (s : List Nat × Bool) (w : World) (h : WAt w g B F s) (hl : s.1.length ≤ 370000000000) (hx : Blk w gx 37 m.cells) (hgx : B ≤ gx) (hF : gx ∉ F) (hm : m.In (· < B) w) :
    Calls Tryz.prog 37 #[.pointer (some ⟨g, 0, none⟩), .int .u8 16, .pointer (some ⟨gx, 0, none⟩)] w fun e w' => FPost .version m gx g B F s w e w' := by
  have H := Lib.hid h
  have HF := Lib.hid hF
  have HM := Lib.hid hm
  have lx := hx.lt
  have c0 : w.cell? ⟨gx, 24, none⟩ = some (.int .u64 (m.version : Int)) := hx.cell 24
  have f0 := hx.frozen 24
  obtain ⟨w1, hw1⟩ : ∃ w1, w.setCell ⟨gx, 24, none⟩ (.int .u64 0) = w1 := ⟨_, rfl⟩
  have k01 : Kept [gx] w w1 := by rw [← hw1]; exact (Kept.refl _ _).setCell _ _ (.inl (by simp))
  have X1 := Lib.hid (show Blk w1 gx 37 (Fld.version.wipeL m).cells from by rw [← hw1]; exact hx.set 24 (.int .u64 0))
  have H1 := Lib.hid (H.out.kept k01 (fun k hk hx => by simp at hx; subst hx; exact HF.out hk))
  have K1 := Lib.hid k01
  have HI := Lib.hid (HM.out.kept k01 (fun k hk ho => by simp at hk; omega))
  clear k01
  clear h hx hF hm
  go_enter Tryz.func37, Tryz.ntmps37
  go_wp2_with (fail)
  refine (take_u64 m.version gx 24 w c0 f0).mono ?_
  rintro e w2 ⟨rfl, rfl⟩
  rw [hw1]
  clear hw1 c0 f0
  go_wp2_with (fail)
  refine (wnum_any 18446744073709551615 m.version g B (by decide) F s w1 H1.out HI.out.hversion (by omega)).mono ?_
  rintro e w3 ⟨rfl, hend⟩
  have FIN := Lib.hid (FPost.mk (f := .version) (m := m) X1.out HF.out K1.out (by decide) hend)
  clear hend
  go_wp2
  go_end0
  exact FIN.out

set_option maxRecDepth 100000 in
set_option maxHeartbeats 3200000 in
theorem wfield_names (m : MsgL) (gx g B : Nat) (F : List Nat) (s : List Nat × Bool) (w : World) (h : WAt w g B F s) (hl : s.1.length ≤ 370000000000) (hx : Blk w gx 37 m.cells) (hgx : B ≤ gx) (hF : gx ∉ F) (hm : m.In (· < B) w) :
    Calls Tryz.prog 37 #[.pointer (some ⟨g, 0, none⟩), .int .u8 17, .pointer (some ⟨gx, 0, none⟩)] w fun e w' => FPost .names m gx g B F s w e w' := by
  have H := Lib.hid h
  have HF := Lib.hid hF
  have HM := Lib.hid hm
  have lx := hx.lt
  have c0 : w.cell? ⟨gx, 25, none⟩ = some (.slice m.pnames.a m.pnames.n m.pnames.c) := hx.cell 25
  have f0 := hx.frozen 25
  obtain ⟨w1, hw1⟩ : ∃ w1, w.setCell ⟨gx, 25, none⟩ (.slice none 0 0) = w1 := ⟨_, rfl⟩
  have k01 : Kept [gx] w w1 := by rw [← hw1]; exact (Kept.refl _ _).setCell _ _ (.inl (by simp))
  have X1 := Lib.hid (show Blk w1 gx 37 (Fld.names.wipeL m).cells from by rw [← hw1]; exact hx.set 25 (.slice none 0 0))
  have H1 := Lib.hid (H.out.kept k01 (fun k hk hx => by simp at hx; subst hx; exact HF.out hk))
  have K1 := Lib.hid k01
  have HI := Lib.hid (HM.out.kept k01 (fun k hk ho => by simp at hk; omega))
  clear k01
  clear h hx hF hm
  go_enter Tryz.func37, Tryz.ntmps37
  go_wp2_with (fail)
  refine (take_strs m.pnames.a m.pnames.n m.pnames.c gx 25 w c0 f0).mono ?_
  rintro e w2 ⟨rfl, rfl⟩
  rw [hw1]
  clear hw1 c0 f0
  go_wp2_with (fail)
  refine (wtexts_any m.pnames.a m.pnames.n m.pnames.c m.names g B F s w1 H1.out (by omega) HI.out.hnames).mono ?_
  rintro e w3 ⟨rfl, hend⟩
  have FIN := Lib.hid (FPost.mk (f := .names) (m := m) X1.out HF.out K1.out (by decide) hend)
  clear hend
  go_wp2
  go_end0
  exact FIN.out

set_option maxRecDepth 100000 in
set_option maxHeartbeats 3200000 in
theorem wfield_items (m : MsgL) (gx g B : Nat) (F : List Nat) (s : List Nat × Bool) (w : World) (h : WAt w g B F s) (hl : s.1.length ≤ 370000000000) (hx : Blk w gx 37 m.cells) (hgx : B ≤ gx) (hF : gx ∉ F) (hm : m.In (· < B) w) :
    Calls Tryz.prog 37 #[.pointer (some ⟨g, 0, none⟩), .int .u8 18, .pointer (some ⟨gx, 0, none⟩)] w fun e w' => FPost .items m gx g B F s w e w' := by
  have H := Lib.hid h
  have HF := Lib.hid hF
  have HM := Lib.hid hm
  have lx := hx.lt
  have c0 : w.cell? ⟨gx, 26, none⟩ = some (.slice m.pitems.a m.pitems.n m.pitems.c) := hx.cell 26
  have f0 := hx.frozen 26
  obtain ⟨w1, hw1⟩ : ∃ w1, w.setCell ⟨gx, 26, none⟩ (.slice none 0 0) = w1 := ⟨_, rfl⟩
  have k01 : Kept [gx] w w1 := by rw [← hw1]; exact (Kept.refl _ _).setCell _ _ (.inl (by simp))
  have X1 := Lib.hid (show Blk w1 gx 37 (Fld.items.wipeL m).cells from by rw [← hw1]; exact hx.set 26 (.slice none 0 0))
  have H1 := Lib.hid (H.out.kept k01 (fun k hk hx => by simp at hx; subst hx; exact HF.out hk))
  have K1 := Lib.hid k01
  have HI := Lib.hid (HM.out.kept k01 (fun k hk ho => by simp at hk; omega))
  clear k01
  clear h hx hF hm
  go_enter Tryz.func37, Tryz.ntmps37
  go_wp2_with (fail)
  refine (take_items m.pitems.a m.pitems.n m.pitems.c gx 26 w c0 f0).mono ?_
  rintro e w2 ⟨rfl, rfl⟩
  rw [hw1]
  clear hw1 c0 f0
  go_wp2_with (fail)
  refine (wlist_items m.pitems.a m.pitems.n m.pitems.c m.items g B F s w1 H1.out (by omega) HI.out.hitems).mono ?_
  rintro e w3 ⟨rfl, hend⟩
  have FIN := Lib.hid (FPost.mk (f := .items) (m := m) X1.out HF.out K1.out (by decide) hend)
  clear hend
  go_wp2
  go_end0
  exact FIN.out

set_option maxRecDepth 100000 in
set_option maxHeartbeats 3200000 in
theorem wfield_hits (m : MsgL) (gx g B : Nat) (F : List Nat) (s : List Nat × Bool) (w : World) (h : WAt w g B F s) (hl : s.1.length ≤ 370000000000) (hx : Blk w gx 37 m.cells) (hgx : B ≤ gx) (hF : gx ∉ F) (hm : m.In (· < B) w) :
    Calls Tryz.prog 37 #[.pointer (some ⟨g, 0, none⟩), .int .u8 19, .pointer (some ⟨gx, 0, none⟩)] w fun e w' => FPost .hits m gx g B F s w e w' := by
  have H := Lib.hid h
  have HF := Lib.hid hF
  have HM := Lib.hid hm
  have lx := hx.lt
  have c0 : w.cell? ⟨gx, 27, none⟩ = some (.slice m.phits.a m.phits.n m.phits.c) := hx.cell 27
  have f0 := hx.frozen 27
  obtain ⟨w1, hw1⟩ : ∃ w1, w.setCell ⟨gx, 27, none⟩ (.slice none 0 0) = w1 := ⟨_, rfl⟩
  have k01 : Kept [gx] w w1 := by rw [← hw1]; exact (Kept.refl _ _).setCell _ _ (.inl (by simp))
  have X1 := Lib.hid (show Blk w1 gx 37 (Fld.hits.wipeL m).cells from by rw [← hw1]; exact hx.set 27 (.slice none 0 0))
  have H1 := Lib.hid (H.out.kept k01 (fun k hk hx => by simp at hx; subst hx; exact HF.out hk))
  have K1 := Lib.hid k01
  have HI := Lib.hid (HM.out.kept k01 (fun k hk ho => by simp at hk; omega))
  clear k01
  clear h hx hF hm
  go_enter Tryz.func37, Tryz.ntmps37
  go_wp2_with (fail)
  refine (take_hits m.phits.a m.phits.n m.phits.c gx 27 w c0 f0).mono ?_
  rintro e w2 ⟨rfl, rfl⟩
  rw [hw1]
  clear hw1 c0 f0
  go_wp2_with (fail)
  refine (wlist_hits m.phits.a m.phits.n m.phits.c m.hits g B F s w1 H1.out (by omega) HI.out.hhits).mono ?_
  rintro e w3 ⟨rfl, hend⟩
  have FIN := Lib.hid (FPost.mk (f := .hits) (m := m) X1.out HF.out K1.out (by decide) hend)
  clear hend
  go_wp2
  go_end0
  exact FIN.out

/-- A field is taken out and written. -/
theorem wfield_any (f : Fld) (m : MsgL) (gx g B : Nat) (F : List Nat) (s : List Nat × Bool) (w : World) (h : WAt w g B F s) (hl : s.1.length ≤ 370000000000) (hx : Blk w gx 37 m.cells) (hgx : B ≤ gx) (hF : gx ∉ F) (hm : m.In (· < B) w) :
    Calls Tryz.prog 37 #[.pointer (some ⟨g, 0, none⟩), .int .u8 (f.no : Int), .pointer (some ⟨gx, 0, none⟩)] w fun e w' => FPost f m gx g B F s w e w' := by
  cases f
  · exact wfield_req m gx g B F s w h hl hx hgx hF hm
  · exact wfield_caps m gx g B F s w h hl hx hgx hF hm
  · exact wfield_token m gx g B F s w h hl hx hgx hF hm
  · exact wfield_code m gx g B F s w h hl hx hgx hF hm
  · exact wfield_n m gx g B F s w h hl hx hgx hF hm
  · exact wfield_name m gx g B F s w h hl hx hgx hF hm
  · exact wfield_conf m gx g B F s w h hl hx hgx hF hm
  · exact wfield_changes m gx g B F s w h hl hx hgx hF hm
  · exact wfield_id m gx g B F s w h hl hx hgx hF hm
  · exact wfield_vec m gx g B F s w h hl hx hgx hF hm
  · exact wfield_k m gx g B F s w h hl hx hgx hF hm
  · exact wfield_width m gx g B F s w h hl hx hgx hF hm
  · exact wfield_filter m gx g B F s w h hl hx hgx hF hm
  · exact wfield_num m gx g B F s w h hl hx hgx hF hm
  · exact wfield_page m gx g B F s w h hl hx hgx hF hm
  · exact wfield_bytes m gx g B F s w h hl hx hgx hF hm
  · exact wfield_version m gx g B F s w h hl hx hgx hF hm
  · exact wfield_names m gx g B F s w h hl hx hgx hF hm
  · exact wfield_items m gx g B F s w h hl hx hgx hF hm
  · exact wfield_hits m gx g B F s w h hl hx hgx hF hm
end Go.Proofs.YtemnmjfeljipjaaGreat
