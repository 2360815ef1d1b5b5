/-
  Of XQa what a seat holds that lacks some functions (made by tools/autopick.py).
-/
import Derived.Test.YtdlpifcfgfhagaaMp
import Derived.Test.YtdlpifcfgfhagaaMk
import Derived.Test.YtdlpifcfgfhagaaVa
import Derived.Test.YtdlpifcfgfhagaaVc
import Derived.Deep.DeepMust
import Derived.Handy
import Derived.IntWalk
import Derived.Deep.AppendLies
import Derived.Deep.RegionLaw
import Derived.Test.YtdlpifcfgfhagaaMq
import Derived.BigGuardPart
namespace Go.Proofs.Ytdlpifcfgfhagaa
open Go.RowKit Go.ChangeShapes Go.WideShapes Go.ChangeAt

/-- A thing is written behind what there was (the bytes, and whether something couldn't be written): at most m bytes more. -/
def WStep {α : Type} (C : Cod α) (m : Nat) (s : List Nat × Bool) (a : α) (s' : List Nat × Bool) : Prop :=
  s'.1.length ≤ s.1.length + m ∧ (s'.2 = false ↔ s.2 = false ∧ C.fits a) ∧ (s'.2 = false → s'.1 = s.1 ++ C.enc a)

theorem WStep.mono {α : Type} {C : Cod α} {m m' : Nat} {s s' : List Nat × Bool} {a : α} (h : WStep C m s a s') (hm : m ≤ m') : WStep C m' s a s' := ⟨by have := h.1; omega, h.2⟩
theorem WStep.pair {α β : Type} {A : Cod α} {B : Cod β} {m n : Nat} {s s1 s2 : List Nat × Bool} {a : α} {b : β} (h : WStep A m s a s1) (k : WStep B n s1 b s2) : WStep (cPair A B) (m + n) s (a, b) s2 := by
  obtain ⟨h1, h2, h3⟩ := h
  obtain ⟨k1, k2, k3⟩ := k
  refine ⟨by omega, ?_, fun e => ?_⟩
  · show s2.2 = false ↔ s.2 = false ∧ A.fits a ∧ B.fits b
    rw [k2, h2]
    exact ⟨fun h => ⟨h.1.1, h.1.2, h.2⟩, fun h => ⟨⟨h.1, h.2.1⟩, h.2.2⟩⟩
  · show s2.1 = s.1 ++ (A.enc a ++ B.enc b)
    rw [k3 e, h3 (k2.1 e).1, List.append_assoc]
theorem WStep.map {α β : Type} {A : Cod α} {to : α → β} {of : β → α} {hh : ∀ a, A.fits a → of (to a) = a} {m : Nat} {s s' : List Nat × Bool} {b : β} (h : WStep A m s (of b) s') (hb : to (of b) = b) : WStep (cMap A to of hh) m s b s' := by
  obtain ⟨h1, h2, h3⟩ := h
  refine ⟨h1, ?_, h3⟩
  show s'.2 = false ↔ s.2 = false ∧ A.fits (of b) ∧ to (of b) = b
  rw [h2]
  exact ⟨fun h => ⟨h.1, h.2, hb⟩, fun h => ⟨h.1, h.2.1⟩⟩
/-- What always fits. -/
theorem WStep.sure {α : Type} {C : Cod α} {m : Nat} {bs bs' : List Nat} {bad : Bool} {a : α} (hf : C.fits a) (hb : bs' = bs ++ C.enc a) (hm : (C.enc a).length ≤ m) : WStep C m (bs, bad) a (bs', bad) := by
  subst hb
  refine ⟨by rw [List.length_append]; simp; omega, ⟨fun h => ⟨h, hf⟩, fun h => h.1⟩, fun _ => rfl⟩
/-- What can't be written. -/
theorem WStep.never {α : Type} {C : Cod α} {m : Nat} {bs bs' : List Nat} {bad : Bool} {a : α} (hf : ¬ C.fits a) (hb : bs'.length ≤ bs.length + m) : WStep C m (bs, bad) a (bs', true) :=
  ⟨hb, ⟨fun h => by (cases h), fun h => absurd h.2 hf⟩, fun h => by (cases h)⟩

/-- Of a list i things are gone by. -/
def WMany {α : Type} (C : Cod α) (m : Nat) (l : List α) (i : Nat) (s s' : List Nat × Bool) : Prop :=
  s'.1.length ≤ s.1.length + 10 + i * m ∧ (s'.2 = false ↔ s.2 = false ∧ ∀ a ∈ l.take i, C.fits a) ∧ (s'.2 = false → s'.1 = s.1 ++ (vput l.length ++ encN C (l.take i)))
/-- A length is written. -/
def WLen (n : Nat) (s s' : List Nat × Bool) : Prop := s'.1.length ≤ s.1.length + 10 ∧ s'.2 = s.2 ∧ (s'.2 = false → s'.1 = s.1 ++ vput n)
theorem WStep.len {most n : Nat} {hm : most < 18446744073709551616} {s s' : List Nat × Bool} (h : WStep (cNum most hm) 10 s n s') (hn : n ≤ most) : WLen n s s' := by
  obtain ⟨h1, h2, h3⟩ := h
  refine ⟨h1, ?_, h3⟩
  have hf : (cNum most hm).fits n := hn
  cases e : s.2 <;> cases e' : s'.2
  · rfl
  · exact absurd (h2.2 ⟨e, hf⟩) (by rw [e']; simp)
  · have := (h2.1 e').1
    rw [e] at this
    cases this
  · rfl
theorem WMany.start {α : Type} {C : Cod α} {m : Nat} {l : List α} {s s' : List Nat × Bool} (h : WLen l.length s s') : WMany C m l 0 s s' := by
  obtain ⟨h1, h2, h3⟩ := h
  exact ⟨by omega, by simp [h2], fun e => by simp [encN, h3 e]⟩
/-- A text is written: its length, then its bytes. -/
theorem WLen.text {t : List Nat} {s s' : List Nat × Bool} (hb : ∀ b ∈ t, b < 256) (hl : t.length ≤ 4096) (h : WLen t.length s s') : WStep cStr 4106 s t (s'.1 ++ t, s'.2) := by
  obtain ⟨h1, h2, h3⟩ := h
  refine ⟨by rw [List.length_append]; omega, ?_, fun e => ?_⟩
  · simp only
    rw [h2]
    exact ⟨fun e => ⟨e, (cStr_fits t hb).2 hl⟩, fun e => e.1⟩
  · simp only at e ⊢
    rw [h3 e, cStr_enc, List.append_assoc]
theorem WStep.text_over {t : List Nat} {bs : List Nat} {bad : Bool} (hb : ∀ b ∈ t, b < 256) (hl : 4096 < t.length) : WStep cStr 4106 (bs, bad) t (bs, true) :=
  WStep.never (fun hf => by have := (cStr_fits t hb).1 hf; omega) (by omega)
theorem WMany.next {α : Type} {C : Cod α} {m : Nat} {l : List α} {i : Nat} {s s1 s2 : List Nat × Bool} {a : α} (h : WMany C m l i s s1) (hi : l[i]? = some a) (k : WStep C m s1 a s2) : WMany C m l (i + 1) s s2 := by
  obtain ⟨h1, h2, h3⟩ := h
  obtain ⟨k1, k2, k3⟩ := k
  have ht : l.take (i + 1) = l.take i ++ [a] := by rw [List.take_add_one, hi]; rfl
  refine ⟨by rw [Nat.add_mul]; omega, ?_, fun e => ?_⟩
  · rw [k2, h2, ht]
    constructor
    · rintro ⟨⟨h4, h5⟩, h6⟩
      refine ⟨h4, fun b hb => ?_⟩
      rcases List.mem_append.1 hb with hb | hb
      · exact h5 b hb
      · simp at hb
        rw [hb]
        exact h6
    · rintro ⟨h4, h5⟩
      exact ⟨⟨h4, fun b hb => h5 b (by simp [hb])⟩, h5 a (by simp)⟩
  · rw [k3 e, h3 (k2.1 e).1, ht, encN_snoc]
    simp [List.append_assoc]
theorem WMany.done {α : Type} {C : Cod α} {m i : Nat} {l : List α} {s s' : List Nat × Bool} (h : WMany C m l i s s') (hi : i = l.length) (hl : l.length ≤ 128) : WStep (cMany C) (10 + 128 * m) s l s' := by
  obtain ⟨h1, h2, h3⟩ := h
  subst hi
  rw [List.take_length] at h2 h3
  have := Nat.mul_le_mul_right m hl
  refine ⟨by omega, ?_, fun e => by rw [h3 e, cMany_enc]⟩
  rw [h2, cMany_fits]
  exact ⟨fun h => ⟨h.1, hl, h.2⟩, fun h => ⟨h.1, h.2.2⟩⟩
theorem WStep.over {α : Type} {C : Cod α} {m : Nat} {l : List α} {bs : List Nat} {bad : Bool} (hl : 128 < l.length) : WStep (cMany C) m (bs, bad) l (bs, true) :=
  WStep.never (fun hf => by have := ((cMany_fits C l).1 hf).1; omega) (by omega)

/-- A change is written: the flag, then the item, or its number if there is no more of it. -/
theorem WStep.change_item {m n : Nat} {s s1 s2 : List Nat × Bool} {i : ItemV} (h : WStep cFlag m s false s1) (k : WStep cItem n s1 i s2) : WStep cChange (m + n) s ⟨false, i⟩ s2 := by
  obtain ⟨h1, h2, h3⟩ := h
  obtain ⟨k1, k2, k3⟩ := k
  have hf : cFlag.fits false := ⟨Nat.zero_le 1, rfl⟩
  refine ⟨by omega, ?_, fun e => ?_⟩
  · rw [k2, h2, cChange_item]
    exact ⟨fun h => ⟨h.1.1, h.2⟩, fun h => ⟨⟨h.1, hf⟩, h.2⟩⟩
  · rw [k3 e, h3 (k2.1 e).1, cChange_enc_item, List.append_assoc]
theorem WStep.change_gone {m n : Nat} {s s1 s2 : List Nat × Bool} {i : ItemV} {more : Bool} (hm : more = true ↔ ¬ (i.vec = [] ∧ i.tags = [])) (h : WStep cFlag m s true s1) (k : WStep cU32 n (s1.1, s1.2 || more) i.id s2) : WStep cChange (m + n) s ⟨true, i⟩ s2 := by
  obtain ⟨h1, h2, h3⟩ := h
  obtain ⟨k1, k2, k3⟩ := k
  simp only at k1 k2 k3
  have hf : cFlag.fits true := ⟨Nat.le_refl 1, rfl⟩
  refine ⟨by omega, ?_, fun e => ?_⟩
  · rw [k2, cChange_gone, Bool.or_eq_false_iff, h2]
    constructor
    · rintro ⟨⟨⟨h4, _⟩, h5⟩, h6⟩
      refine ⟨h4, h6, ?_⟩
      by_cases hx : i.vec = [] ∧ i.tags = []
      · exact hx
      · rw [hm.2 hx] at h5
        cases h5
    · rintro ⟨h4, h5, h6⟩
      refine ⟨⟨⟨h4, hf⟩, ?_⟩, h5⟩
      cases more
      · rfl
      · exact absurd h6 (hm.1 rfl)
  · have h4 := (Bool.or_eq_false_iff.1 (k2.1 e).1).1
    rw [k3 e, h3 h4, cChange_enc_gone, List.append_assoc]
    rfl

/-- A field is taken out. -/
def Fld.wipe (f : Fld) (m : MsgV) : MsgV := f.set m (f.get (zeroM 0))
def wipeF : List Fld → MsgV → MsgV
  | [], m => m
  | f :: fs, m => wipeF fs (f.wipe m)
theorem wipeF_snoc (fs : List Fld) (f : Fld) (m : MsgV) : wipeF (fs ++ [f]) m = f.wipe (wipeF fs m) := by
  induction fs generalizing m with
  | nil => rfl
  | cons g fs ih => exact ih _
theorem wipeF_kind (fs : List Fld) (m : MsgV) : (wipeF fs m).kind = m.kind := by
  induction fs generalizing m with
  | nil => rfl
  | cons f fs ih => rw [wipeF, ih, Fld.wipe, Fld.set_kind]
theorem wipeF_other (fs : List Fld) (m : MsgV) (g : Fld) (h : ∀ f ∈ fs, f.no ≠ g.no) : g.get (wipeF fs m) = g.get m := by
  induction fs generalizing m with
  | nil => rfl
  | cons f fs ih =>
    rw [wipeF, ih _ (fun f' hf' => h f' (by simp [hf'])), Fld.wipe, Fld.get_other f g _ _ (h f (by simp))]
theorem Fld.no_inj {f g : Fld} (h : f.no = g.no) : f = g := by
  cases f <;> cases g <;> first | rfl | (exact absurd h (by decide))
theorem wipeF_in (fs : List Fld) (m : MsgV) (g : Fld) (h : g ∈ fs) : g.get (wipeF fs m) = g.get (zeroM 0) := by
  induction fs generalizing m with
  | nil => simp at h
  | cons f fs ih =>
    by_cases hg : g ∈ fs
    · exact ih _ hg
    · obtain rfl : g = f := by
        rcases List.mem_cons.1 h with h | h
        · exact h
        · exact absurd h hg
      rw [wipeF, wipeF_other _ _ _ (fun f' hf' e => hg (by rw [← Fld.no_inj e]; exact hf')), Fld.wipe, Fld.get_set]
theorem setF_other (fs : List Fld) (m x : MsgV) (g : Fld) (h : ∀ f ∈ fs, f.no ≠ g.no) : g.get (setF fs m x) = g.get m := by
  induction fs generalizing m with
  | nil => rfl
  | cons f fs ih =>
    rw [setF, ih _ (fun f' hf' => h f' (by simp [hf'])), Fld.get_other f g _ _ (h f (by simp))]
theorem setF_in (fs : List Fld) (m x : MsgV) (g : Fld) (h : g ∈ fs) : g.get (setF fs m x) = g.get x := by
  induction fs generalizing m with
  | nil => simp at h
  | cons f fs ih =>
    by_cases hg : g ∈ fs
    · exact ih _ hg
    · obtain rfl : g = f := by
        rcases List.mem_cons.1 h with h | h
        · exact h
        · exact absurd h hg
      rw [setF, setF_other _ _ _ _ (fun f' hf' e => hg (by rw [← Fld.no_inj e]; exact hf')), Fld.get_set]
theorem msg_ext {m x : MsgV} (hk : m.kind = x.kind) (h : ∀ f : Fld, f.get m = f.get x) : m = x := by
  cases m
  cases x
  simp only at hk
  subst hk
  have h0 := h .req; have h1 := h .caps; have h2 := h .token; have h3 := h .code; have h4 := h .n; have h5 := h .name; have h6 := h .conf; have h7 := h .changes; have h8 := h .id; have h9 := h .vec
  have h10 := h .k; have h11 := h .width; have h12 := h .filter; have h13 := h .num; have h14 := h .page; have h15 := h .bytes; have h16 := h .version; have h17 := h .names; have h18 := h .items; have h19 := h .hits
  simp only [Fld.get] at h0 h1 h2 h3 h4 h5 h6 h7 h8 h9 h10 h11 h12 h13 h14 h15 h16 h17 h18 h19
  subst h0 h1 h2 h3 h4 h5 h6 h7 h8 h9 h10 h11 h12 h13 h14 h15 h16 h17 h18 h19
  rfl
theorem Fld.get_zero (g : Fld) (k k' : Nat) : g.get (zeroM k) = g.get (zeroM k') := by cases g <;> rfl
/-- All is taken out just if there was no more than the kind's fields. -/
theorem wipe_only (fs : List Fld) (m : MsgV) : wipeF fs m = zeroM m.kind ↔ m = setF fs (zeroM m.kind) m := by
  constructor
  · intro h
    refine msg_ext (by rw [setF_kind]; rfl) fun g => ?_
    by_cases hg : g ∈ fs
    · rw [setF_in _ _ _ _ hg]
    · have hn : ∀ f ∈ fs, f.no ≠ g.no := fun f hf e => hg (by rw [← Fld.no_inj e]; exact hf)
      rw [setF_other _ _ _ _ hn, ← wipeF_other fs m g hn, h]
  · intro h
    refine msg_ext (wipeF_kind _ _) fun g => ?_
    by_cases hg : g ∈ fs
    · rw [wipeF_in _ _ _ hg]
      exact Fld.get_zero _ _ _
    · have hn : ∀ f ∈ fs, f.no ≠ g.no := fun f hf e => hg (by rw [← Fld.no_inj e]; exact hf)
      rw [wipeF_other _ _ _ hn]
      conv => lhs; rw [h]
      rw [setF_other _ _ _ _ hn]

/-- Of the fields i are written and taken out. -/
def PutI (fs : List Fld) (x : MsgV) (i : Nat) (y : MsgV) (s : List Nat × Bool) : Prop :=
  y = wipeF (fs.take i) x ∧ s.1.length ≤ i * 100000000 ∧ (s.2 = false ↔ fitF (fs.take i) x) ∧ (s.2 = false → s.1 = encF (fs.take i) x)
theorem apart_at : ∀ (fs : List Fld) (i : Nat) (f : Fld), Apartly fs → fs[i]? = some f → ∀ g ∈ fs.take i, g.no ≠ f.no
  | [], i, f, _, h, _, _ => by simp at h
  | g :: fs, 0, f, _, _, x, hx => by simp at hx
  | g :: fs, i + 1, f, ha, h, x, hx => by
    simp only [List.getElem?_cons_succ] at h
    simp only [List.take_succ_cons, List.mem_cons] at hx
    rcases hx with rfl | hx
    · exact ha.1 f (List.mem_of_getElem? h)
    · exact apart_at fs i f ha.2 h x hx
theorem PutI.next {fs : List Fld} {x y : MsgV} {i : Nat} {s s' : List Nat × Bool} {f : Fld} (ha : Apartly fs) (h : PutI fs x i y s) (hi : fs[i]? = some f) (k : WStep f.cod 100000000 s (f.get y) s') : PutI fs x (i + 1) (f.wipe y) s' := by
  obtain ⟨rfl, h1, h2, h3⟩ := h
  obtain ⟨k1, k2, k3⟩ := k
  have ht : fs.take (i + 1) = fs.take i ++ [f] := by rw [List.take_add_one, hi]; rfl
  have hg : f.get (wipeF (fs.take i) x) = f.get x := wipeF_other _ _ _ (apart_at fs i f ha hi)
  rw [hg] at k2 k3
  refine ⟨by rw [ht, wipeF_snoc], by omega, ?_, fun e => ?_⟩
  · rw [k2, h2, ht]
    constructor
    · rintro ⟨h4, h5⟩ g hg
      rcases List.mem_append.1 hg with hg | hg
      · exact h4 g hg
      · simp at hg
        rw [hg]
        exact h5
    · exact fun h => ⟨fun g hg => h g (by simp [hg]), h f (by simp)⟩
  · rw [k3 e, h3 (k2.1 e).1, ht]
    simp [encF]

theorem Rd.nil {ok : Nat → Prop} {w : World} {e : Sh} {sz : Nat} : Rd ok w (.slice e sz) [.slice SlL.nil.a SlL.nil.n SlL.nil.c] [] :=
  Rd.slice_mk ⟨none, 0, 0, rfl, rfl, by omega, by decide, Nat.le_refl _, fun _ => ⟨rfl, rfl⟩, .inl rfl⟩

/-- A field is taken out of the letters. -/
def Fld.wipeL : Fld → MsgL → MsgL
  | .req, m => { m with req := 0 } | .caps, m => { m with caps := 0 } | .token, m => { m with token := 0 } | .code, m => { m with code := 0 } | .n, m => { m with n := 0 }
  | .name, m => { m with name := ⟨#[]⟩ } | .conf, m => { m with cname := ⟨#[]⟩, dim := 0, metric := 0, graph := false, links := 0, cwidth := 0 }
  | .changes, m => { m with pch := SlL.nil, changes := [] } | .id, m => { m with id := 0 } | .vec, m => { m with pvec := SlL.nil, vec := [] }
  | .k, m => { m with k := 0 } | .width, m => { m with width := 0 } | .filter, m => { m with pall := SlL.nil, all := [], pany := SlL.nil, any := [], pno := SlL.nil, no := [] }
  | .num, m => { m with num := 0 } | .page, m => { m with page := 0 } | .bytes, m => { m with pbytes := SlL.nil, bytes := [] } | .version, m => { m with version := 0 }
  | .names, m => { m with pnames := SlL.nil, names := [] } | .items, m => { m with pitems := SlL.nil, items := [] } | .hits, m => { m with phits := SlL.nil, hits := [] }
theorem wipeL_toM (f : Fld) (m : MsgL) : (f.wipeL m).toM = f.wipe m.toM := by cases f <;> rfl
theorem wipeL_in (f : Fld) {ok : Nat → Prop} {w : World} {m : MsgL} (h : m.In ok w) : (f.wipeL m).In ok w := by
  cases f
  case req => exact { h with hreq := Nat.zero_le _ }
  case caps => exact { h with hcaps := Nat.zero_le _ }
  case token => exact { h with htoken := Nat.zero_le _ }
  case code => exact { h with hcode := Nat.zero_le _ }
  case n => exact { h with hn := Nat.zero_le _ }
  case name => exact { h with hname := Nat.zero_le _ }
  case conf => exact { h with hcname := Nat.zero_le _, hdim := Nat.zero_le _, hmetric := Nat.zero_le _, hlinks := Nat.zero_le _, hcwidth := Nat.zero_le _ }
  case changes => exact { h with hchanges := Rd.nil }
  case id => exact { h with hid := Nat.zero_le _ }
  case vec => exact { h with hvec := Rd.nil }
  case k => exact { h with hk := Nat.zero_le _ }
  case width => exact { h with hwidth := Nat.zero_le _ }
  case filter => exact { h with hall := Rd.nil, hany := Rd.nil, hno := Rd.nil }
  case num => exact { h with hnum := Nat.zero_le _ }
  case page => exact { h with hpage := Nat.zero_le _ }
  case bytes => exact { h with hbytes := Rd.nil }
  case version => exact { h with hversion := Nat.zero_le _ }
  case names => exact { h with hnames := Rd.nil }
  case items => exact { h with hitems := Rd.nil }
  case hits => exact { h with hhits := Rd.nil }
theorem wipeL_kind (f : Fld) (m : MsgL) : (f.wipeL m).kind = m.kind := by cases f <;> rfl

/-- A writer lies in block g: the bytes that it has written, and whether something couldn't be. -/
def WAt (w : World) (g B : Nat) (F : List Nat) (s : List Nat × Bool) : Prop :=
  B ≤ g ∧ ∃ v, Blk w g 87 [v, .bool s.2] ∧ OwnV w B 5 v s.1 ∧ F = g :: ownL v
theorem WAt.lt {w : World} {g B : Nat} {F : List Nat} {s : List Nat × Bool} (h : WAt w g B F s) : ∀ k ∈ F, B ≤ k ∧ k < w.heap.size := by
  obtain ⟨hg, v, hb, ho, rfl⟩ := h
  intro k hk
  rcases List.mem_cons.1 hk with rfl | hk
  · exact ⟨hg, hb.lt⟩
  · exact ho.lt k (mem_ownL.1 hk)
theorem WAt.kept {w w' : World} {g B : Nat} {F G : List Nat} {s : List Nat × Bool} (h : WAt w g B F s) (hk : Kept G w w') (hG : ∀ k ∈ F, k ∉ G) : WAt w' g B F s := by
  obtain ⟨hg, v, hb, ho, rfl⟩ := h
  exact ⟨hg, v, hk.blk hb (hG g (by simp)), ho.kept hk (fun k hk' => hG k (List.mem_cons_of_mem _ (mem_ownL.2 hk'))), rfl⟩
theorem WAt.on {w w' : World} {g B : Nat} {F : List Nat} {s : List Nat × Bool} (h : WAt w g B F s) (hb : Below w.heap.size w w') : WAt w' g B F s := h.kept (G := []) (Kept.of_below hb (Nat.le_refl _)) (by simp)
theorem WAt.below {w w' : World} {g B : Nat} {F : List Nat} {s : List Nat × Bool} (h : WAt w g B F s) (hk : Kept F w w') (hB : B ≤ w.heap.size) : Below B w w' := hk.below (fun k hk => (h.lt k hk).1) hB
theorem WAt.le {w : World} {g B : Nat} {F : List Nat} {s : List Nat × Bool} (h : WAt w g B F s) : B ≤ w.heap.size := by
  have := h.lt g (by obtain ⟨_, v, _, _, rfl⟩ := h; simp)
  omega
/-- What a call of the writer leaves: a thing written, or marked as one that can't be. -/
def WEnd {α : Type} (C : Cod α) (m : Nat) (g B : Nat) (F : List Nat) (s : List Nat × Bool) (a : α) (w w' : World) : Prop :=
  ∃ F' s', WAt w' g B F' s' ∧ WStep C m s a s' ∧ Kept F w w' ∧ Grows w F F'
def WPostW {α : Type} (C : Cod α) (m : Nat) (g B : Nat) (F : List Nat) (s : List Nat × Bool) (a : α) (w : World) (e : Ending) (w' : World) : Prop :=
  e = .returned (.tuple #[]) ∧ WEnd C m g B F s a w w'

theorem cNum_put {most : Nat} {hm : most < 18446744073709551616} (n : Nat) (h : n ≤ most) (bs : List Nat) (bad : Bool) : WStep (cNum most hm) 10 (bs, bad) n (bs ++ vput n, bad) :=
  WStep.sure (C := cNum most hm) h rfl (vput_len10 (n := n) (by omega))

theorem Wrote.undrew {B : Nat} {v v' : Value} {bs : List Nat} {w w' : World} (h : Wrote B v v' bs w.drew w') : Wrote B v v' bs w w' := ⟨h.1, (Kept.refl (ownL v) w).drew.trans h.2.1.out (Grows.refl _ _), h.2.2⟩
theorem Wrote.stored {g B : Nat} {v v' : Value} {bs' : List Nat} {bad : Bool} {w w' : World} (h : Wrote B v v' bs' w w') (hb : Blk w g 87 [v, .bool bad]) (hg : B ≤ g) (hne : g ∉ ownL v) :
    ∃ F', WAt (w'.setCell ⟨g, 0, none⟩ v') g B F' (bs', bad) ∧ Kept (g :: ownL v) w (w'.setCell ⟨g, 0, none⟩ v') ∧ Grows w (g :: ownL v) F' := by
  obtain ⟨h1, h2, h3⟩ := h
  have hb' := h2.out.blk hb hne
  have hne' : g ∉ ownL v' := fun hx => by
    rcases h3.out g hx with h | h
    · exact hne h
    · have := hb.lt; omega
  have hk : Kept [g] w' (w'.setCell ⟨g, 0, none⟩ v') := (Kept.refl _ _).setCell _ _ (.inl (by simp))
  refine ⟨g :: ownL v', ⟨hg, v', hb'.set 0 v', h1.kept hk (fun k hk' hx => ?_), rfl⟩, ?_, ?_⟩
  · simp at hx
    subst hx
    exact hne' (mem_ownL.2 hk')
  · exact (h2.out.mono (fun x hx => List.mem_cons_of_mem _ hx)).setCell _ _ (.inl (by simp))
  · intro k hk'
    rcases List.mem_cons.1 hk' with rfl | hk'
    · exact .inl (by simp)
    · rcases h3.out k hk' with h | h
      · exact .inl (List.mem_cons_of_mem _ h)
      · exact .inr h

theorem Wrote.wend {α : Type} {C : Cod α} {m g B : Nat} {v v' : Value} {bs bs' : List Nat} {bad : Bool} {a : α} {w w' : World} (h : Wrote B v v' bs' w w') (hb : Blk w g 87 [v, .bool bad]) (hg : B ≤ g) (hne : g ∉ ownL v) (ht : WStep C m (bs, bad) a (bs', bad)) :
    WEnd C m g B (g :: ownL v) (bs, bad) a w (w'.setCell ⟨g, 0, none⟩ v') := by
  obtain ⟨F', h1, h2, h3⟩ := h.stored hb hg hne
  exact ⟨F', _, h1, ht, h2, h3⟩

/-- A row of bytes never lies in the writer's block. -/
theorem WAt.apart {w : World} {g B : Nat} {v : Value} {bs : List Nat} {cs : List Value} (hb : Blk w g 87 cs) (ho : OwnV w B 5 v bs) : g ∉ ownL v := by
  intro hx
  have hx := mem_ownL.1 hx
  rcases ho.form with ⟨rfl, _⟩ | ⟨g', cap, rest, rfl, _, hb', _⟩
  · cases hx
  · simp only [Value.ownBlock, Option.some.injEq] at hx
    exact Blk.ne hb hb' (by decide) hx.symm

/-- A number's bytes appended, as one step of a region that draws: the source is a row of its own that isn't empty. -/
theorem step_put {P : Program} {ops : Array Oper} {o : Oper} {a : Act} {K : Act → World → Prop} {Q : Exit → Act → World → Prop} {E : Prop} (w w2 : World) (hgd : o.guard = none) (s x : Operand) (st : TypeId)
    (hop : o.op = .call { callee := .builtin .append, args := #[s, x], argTypes := #[st, st] }) (hu : P.underlying st = some (.slice 5)) (hi : (P.info? 5).map (fun i => (i.zero, i.size, i.bytes)) = some (some (.int .u8 0), 1, 1))
    (B : Nat) (v v2 : Value) (zs xs : List Nat) (hs : a.eval s = v) (hx : a.eval x = v2) (hown : OwnV w B 5 v zs) (hb : B ≤ w.heap.size) (h2 : OwnV w2 w.heap.size 5 v2 xs) (hbel : Below w.heap.size w w2) (h0 : 0 < xs.length) (hl : zs.length ≤ 1099511627776) (hl2 : xs.length ≤ 1099511627776)
    (h : ∀ v' w', Wrote B v v' (zs ++ xs) w w' → K (a.put o.dst v') w') : if Region.wanted o (yielded ops a.tmps) = true then Oper.wp P o a w2 K Q else E := by
  obtain ⟨i0, hi, hz0, hz1, hz2⟩ := info_parts hi
  obtain ⟨g2, c2, rfl, hg2, _⟩ := h2.head h0
  have hown2 := hown.on hbel
  refine step_append_lies w2 hgd s x st hop B 5 i0 _ 1 1 hu hi hz0 hz1 hz2 rfl (by decide) v zs.length (zs.map byteV) hs hown2.1 ⟨g2, 0, none⟩ xs.length c2 (xs.map byteV) hx (by simp) ?_ (map_byte_one xs) h0 (by unfold maxLen; omega) (by omega) (Nat.le_trans hb hbel.size) w2.heap.size rfl ?_
  · intro j u hj
    have hj' : j < xs.length := by have := (List.getElem?_eq_some_iff.1 hj).1; simpa using this
    rw [add_plain, Nat.zero_add, (h2.cellAt j hj').1, ← hj]
    simp [byteAt, byteV, List.getD, hj']
  · intro g cap w' ho hgr hat hlt
    refine h _ w' ⟨⟨?_, ?_⟩, ?_, ?_⟩
    · rw [List.length_append, List.map_append]
      exact ho
    · intro b hb
      rcases List.mem_append.1 hb with hb | hb
      · exact hown.2 b hb
      · exact h2.2 b hb
    · exact (Kept.of_below (F := ownL v) hbel (Nat.le_refl _)).grown hgr (fun k hk => .inl (mem_ownL.2 hk))
    · intro k hk
      have hk := mem_ownL.1 hk
      simp only [Value.ownBlock, Option.some.injEq] at hk
      subst hk
      rcases hat with hat | hat
      · exact .inl (mem_ownL.2 hat)
      · have := hbel.size
        exact .inr (by omega)

set_option maxRecDepth 100000 in
set_option maxHeartbeats 3200000 in
theorem wnum_any (most n g B : Nat) (hm : most < 18446744073709551616) (F : List Nat) (s : List Nat × Bool) (w : World) (h : WAt w g B F s) (hn : n ≤ most) (hl : s.1.length ≤ 549755813888) :
    Calls Try.prog 57 #[.pointer (some ⟨g, 0, none⟩), .int .u64 n] w fun e w' => WPostW (cNum most hm) 10 g B F s n w e w' := by
  obtain ⟨bs, bad⟩ := s
  have hBl := h.le
  obtain ⟨hg, v, hb, ho, rfl⟩ := h
  have hne := Lib.hid (WAt.apart hb ho)
  have c0 : w.cell? ⟨g, 0, none⟩ = some v := hb.cell 0
  have lt := hb.lt
  have f0 := hb.frozen 0
  have HB := Lib.hid hb
  have HO := Lib.hid ho
  have HL := Lib.hid (vput_len10 (n := n) (by omega))
  simp only at hl
  clear hb ho
  go_enter Try.func57, Try.ntmps57
  go_wp2
  go_region_law (first
    | (refine step_put w.drew _ (by rfl) (.tmp 8) (.tmp 10) 31 (by rfl) Try.underlying31 byte_info B v _ bs (vput n) (by rfl) (by rfl) HO.out hBl O2.out B2.out (vput_pos n) (by omega) (by have := HL.out; omega) ?_; intro v3 w3 hw3; obtain ⟨a3, n3, m3, rfl, _⟩ := hw3.1.parts; have W3 := Lib.hid hw3; have hb3 := hw3.2.1.out.blk HB.out hne.out; have k3 : w3.cell? ⟨g, 0, none⟩ = some v := hb3.cell 0; have f3 := hb3.frozen 0; have l3 := hb3.lt; clear hw3 hb3)
    | (rw [if_pos (by rfl)]; go_simp; go_at_call 66; refine (put_any n _ (by omega)).mono ?_; rintro e w2 ⟨v2, rfl, ho2, hb2⟩; have O2 := Lib.hid ho2; have B2 := Lib.hid hb2; have k0 : w2.cell? ⟨g, 0, none⟩ = some v := (hb2.cell (p := ⟨g, 0, none⟩) lt).trans c0; have k1 : g < w2.heap.size := Nat.lt_of_lt_of_le lt hb2.size; clear ho2 hb2))
  all_goals
    go_wp2
    go_end0
    refine ⟨rfl, ?_⟩
    exact Wrote.wend W3.out.undrew HB.out hg hne.out (cNum_put n hn bs bad)

theorem cInt_step {low high : Int} (n : Int) (h : low ≤ n ∧ n ≤ high) (h0 : -9223372036854775808 ≤ n) (h1 : n ≤ 9223372036854775807) (bs : List Nat) (bad : Bool) : WStep (cInt low high) 10 (bs, bad) n (bs ++ vput (vfold n), bad) :=
  WStep.sure (C := cInt low high) ((cInt_fits low high n h0 h1).2 h) (by rw [cInt_enc]) (by rw [cInt_enc]; exact vput_len10 (vfold_lt h0 h1))

set_option maxRecDepth 100000 in
set_option maxHeartbeats 3200000 in
theorem wwhole_any (low high n : Int) (g B : Nat) (F : List Nat) (s : List Nat × Bool) (w : World) (h : WAt w g B F s) (hn : low ≤ n ∧ n ≤ high) (h0 : -9223372036854775808 ≤ n) (h1 : n ≤ 9223372036854775807) (hl : s.1.length ≤ 549755813888) :
    Calls Try.prog 78 #[.pointer (some ⟨g, 0, none⟩), .int .i64 n] w fun e w' => WPostW (cInt low high) 10 g B F s n w e w' := by
  obtain ⟨bs, bad⟩ := s
  have hBl := h.le
  obtain ⟨hg, v, hb, ho, rfl⟩ := h
  have hne := Lib.hid (WAt.apart hb ho)
  have c0 : w.cell? ⟨g, 0, none⟩ = some v := hb.cell 0
  have lt := hb.lt
  have f0 := hb.frozen 0
  have HB := Lib.hid hb
  have HO := Lib.hid ho
  have HL := Lib.hid (vput_len10 (vfold_lt h0 h1))
  have HN := Lib.hid (cInt_step n hn h0 h1 bs bad)
  simp only at hl
  clear hb ho hn
  go_enter Try.func78, Try.ntmps78
  go_wp2
  go_region_law (first
    | (refine step_put w.drew _ (by rfl) (.tmp 8) (.tmp 10) 31 (by rfl) Try.underlying31 byte_info B v _ bs (vput (vfold n)) (by rfl) (by rfl) HO.out hBl O2.out B2.out (vput_pos _) (by omega) (by have := HL.out; omega) ?_; intro v3 w3 hw3; obtain ⟨a3, n3, m3, rfl, _⟩ := hw3.1.parts; have W3 := Lib.hid hw3; have hb3 := hw3.2.1.out.blk HB.out hne.out; have k3 : w3.cell? ⟨g, 0, none⟩ = some v := hb3.cell 0; have f3 := hb3.frozen 0; have l3 := hb3.lt; clear hw3 hb3)
    | (rw [if_pos (by rfl)]; go_simp; go_at_call 84; refine (putint_any n _ h0 h1).mono ?_; rintro e w2 ⟨v2, rfl, ho2, hb2⟩; have O2 := Lib.hid ho2; have B2 := Lib.hid hb2; have k0 : w2.cell? ⟨g, 0, none⟩ = some v := (hb2.cell (p := ⟨g, 0, none⟩) lt).trans c0; have k1 : g < w2.heap.size := Nat.lt_of_lt_of_le lt hb2.size; clear ho2 hb2))
  all_goals
    go_wp2
    go_end0
    refine ⟨rfl, ?_⟩
    exact Wrote.wend W3.out.undrew HB.out hg hne.out HN.out

theorem wflag_any (b : Bool) (g B : Nat) (F : List Nat) (s : List Nat × Bool) (w : World) (h : WAt w g B F s) (hl : s.1.length ≤ 549755813888) :
    Calls Try.prog 55 #[.pointer (some ⟨g, 0, none⟩), .bool b] w fun e w' => WPostW cFlag 10 g B F s b w e w' := by
  have H := Lib.hid h
  clear h
  go_enter Try.func55, Try.ntmps55
  cases b
  · go_wp2_with (fail)
    refine (wnum_any 1 0 g B (by decide) F s w H.out (by decide) hl).mono ?_
    rintro e w2 ⟨rfl, F', s', h1, h2, h3, h4⟩
    have H2 := Lib.hid (show WEnd cFlag 10 g B F s false w w2 from ⟨F', s', h1, WStep.map h2 rfl, h3, h4⟩)
    clear h1 h2 h3 h4
    go_wp2
    go_end0
    exact ⟨rfl, H2.out⟩
  · go_wp2_with (fail)
    refine (wnum_any 1 1 g B (by decide) F s w H.out (by decide) hl).mono ?_
    rintro e w2 ⟨rfl, F', s', h1, h2, h3, h4⟩
    have H2 := Lib.hid (show WEnd cFlag 10 g B F s true w w2 from ⟨F', s', h1, WStep.map h2 rfl, h3, h4⟩)
    clear h1 h2 h3 h4
    go_wp2
    go_end0
    exact ⟨rfl, H2.out⟩

/-- What is marked as wrong. -/
theorem WAt.mark {w : World} {g B : Nat} {F : List Nat} {s : List Nat × Bool} (h : WAt w g B F s) : WAt (w.setCell ⟨g, 1, none⟩ (.bool true)) g B F (s.1, true) ∧ Kept F w (w.setCell ⟨g, 1, none⟩ (.bool true)) := by
  obtain ⟨hg, v, hb, ho, rfl⟩ := h
  have hne := WAt.apart hb ho
  have hk : Kept [g] w (w.setCell ⟨g, 1, none⟩ (.bool true)) := (Kept.refl _ _).setCell _ _ (.inl (by simp))
  refine ⟨⟨hg, v, hb.set 1 (.bool true), ho.kept hk (fun k hk' hx => ?_), rfl⟩, hk.mono (by simp)⟩
  simp at hx
  subst hx
  exact hne (mem_ownL.2 hk')
theorem WAt.badCell {w : World} {g B : Nat} {F : List Nat} {s : List Nat × Bool} (h : WAt w g B F s) : w.cell? ⟨g, 1, none⟩ = some (.bool s.2) ∧ w.frozen? ⟨g, 1, none⟩ = false ∧ g < w.heap.size := by
  obtain ⟨hg, v, hb, ho, rfl⟩ := h
  exact ⟨hb.cell 1, hb.frozen 1, hb.lt⟩

set_option maxRecDepth 100000 in
set_option maxHeartbeats 3200000 in
/-- A length: it is written, or too great. -/
theorem wlen_any (n most g B : Nat) (F : List Nat) (s : List Nat × Bool) (w : World) (h : WAt w g B F s) (hn : n ≤ 9223372036854775807) (_ : most ≤ 100000) (hl : s.1.length ≤ 549755813888) :
    Calls Try.prog 54 #[.pointer (some ⟨g, 0, none⟩), .int .i64 n, .int .i64 most] w fun e w' =>
      (most < n ∧ e = .returned (.bool false) ∧ WAt w' g B F (s.1, true) ∧ Kept F w w') ∨ (n ≤ most ∧ e = .returned (.bool true) ∧ ∃ F' s', WAt w' g B F' s' ∧ WLen n s s' ∧ Kept F w w' ∧ Grows w F F') := by
  have H := Lib.hid h
  obtain ⟨c1, f1, lt⟩ := h.badCell
  have hwn : IntKind.u64.wrap (n : Int) = (n : Int) := by rw [IntKind.wrap_u64]; omega
  clear h
  go_enter Try.func54, Try.ntmps54
  by_cases hc : most < n
  · have hc' : (most : Int) < (n : Int) := by omega
    go_wp2
    go_ret
    exact .inl ⟨hc, rfl, H.out.mark⟩
  · have hc' : ¬ (most : Int) < (n : Int) := by omega
    go_wp2_with (fail)
    refine (wnum_any 9223372036854775807 n g B (by decide) F s w H.out hn hl).mono ?_
    rintro e w2 ⟨rfl, F', s', h1, h2, h3, h4⟩
    have H2 := Lib.hid (show ∃ F' s', WAt w2 g B F' s' ∧ WLen n s s' ∧ Kept F w w2 ∧ Grows w F F' from ⟨F', s', h1, h2.len hn, h3, h4⟩)
    clear h1 h2 h3 h4
    go_wp2
    go_ret
    exact .inr ⟨by omega, rfl, H2.out⟩

theorem WAt.opened {w : World} {g B : Nat} {F : List Nat} {s : List Nat × Bool} (h : WAt w g B F s) : ∃ v, w.cell? ⟨g, 0, none⟩ = some v ∧ w.frozen? ⟨g, 0, none⟩ = false ∧ g < w.heap.size ∧ B ≤ g ∧ Hid (Blk w g 87 [v, .bool s.2]) ∧ Hid (OwnV w B 5 v s.1) ∧ Hid (g ∉ ownL v) ∧ F = g :: ownL v := by
  obtain ⟨hg, v, hb, ho, rfl⟩ := h
  exact ⟨v, hb.cell 0, hb.frozen 0, hb.lt, hg, hb, ho, WAt.apart hb ho, rfl⟩
theorem app_wrote {B : Nat} {v v' : Value} {bs : List Nat} {w w' : World} (hown : OwnV w' B 5 v' bs) (hg : w.grownBy w' v.ownBlock) (hl : v'.ownBlock = v.ownBlock ∨ v'.ownBlock = some w.heap.size) : Wrote B v v' bs w w' := by
  refine ⟨hown, (Kept.refl _ _).grown hg (fun k hk => .inl (mem_ownL.2 hk)), ?_⟩
  intro k hk
  rcases hl with h5 | h5
  · exact .inl (mem_ownL.2 (by rw [← h5]; exact mem_ownL.1 hk))
  · have := mem_ownL.1 hk
    rw [h5] at this
    simp only [Option.some.injEq] at this
    exact .inr (by omega)

set_option maxRecDepth 100000 in
set_option maxHeartbeats 3200000 in
theorem wtext_any (x : ByteArray) (g B : Nat) (F : List Nat) (s : List Nat × Bool) (w : World) (h : WAt w g B F s) (hl : s.1.length ≤ 549755813888) (hsz : x.size ≤ maxLen) :
    Calls Try.prog 80 #[.pointer (some ⟨g, 0, none⟩), .string x] w fun e w' => WPostW cStr 4106 g B F s (strB x) w e w' := by
  have H := Lib.hid h
  obtain ⟨n, hn⟩ : ∃ n, x.size = n := ⟨_, rfl⟩
  have HSL := Lib.hid (strB_len x)
  have HSB := Lib.hid (strB_byte x)
  rw [hn] at HSL hsz
  have HN := Lib.hid hn
  have hsn := hn
  unfold maxLen at hsz
  clear h hn
  go_enter Try.func80, Try.ntmps80
  go_wp2_with (fail)
  refine (wlen_any n 4096 g B F s w H.out (by omega) (by decide) hl).mono ?_
  rintro e w2 (⟨hc, rfl, h2, k2⟩ | ⟨hc, rfl, F2, s2, h2, t2, k2, g2⟩)
  · have FIN := Lib.hid (show WEnd cStr 4106 g B F s (strB x) w w2 from ⟨F, _, h2, WStep.text_over HSB.out (by rw [HSL.out]; exact hc), k2, Grows.refl _ _⟩)
    clear h2 k2
    go_wp2
    go_end0
    exact ⟨rfl, FIN.out⟩
  · obtain ⟨v, c0, f0, lt, hg, HB, HO, HNE, rfl⟩ := h2.opened
    have T2 := Lib.hid (WLen.text HSB.out (by rw [HSL.out]; exact hc) (by rw [HSL.out]; exact t2))
    have L2 := Lib.hid t2.1
    have K2 := Lib.hid k2
    have G2 := Lib.hid g2
    have hB := h2.le
    clear h2 t2 k2 g2
    go_wp2_with (at_builtin; go_must (refine app_string _ rfl (.tmp 12) (.tmp 13) 31 9 5 rfl Try.underlying31 Try.underlying9 byte_info B v s2.1 (by rfl) HO.out x (by rfl) (by have := L2.out; rw [HN.out]; omega) hB ?_))
    intro v4 w4 hown hg4 hl4
    have hw4 := app_wrote hown hg4 hl4
    obtain ⟨a4, n4, m4, rfl, _⟩ := hown.parts
    have hb4 := hw4.2.1.out.blk HB.out HNE.out
    have k4 : w4.cell? ⟨g, 0, none⟩ = some v := hb4.cell 0
    have f4 := hb4.frozen 0
    have l4 := hb4.lt
    have W4 := Lib.hid hw4
    clear hown hg4 hl4 hw4 hb4
    go_wp2
    go_end0
    obtain ⟨F', h5, h6, h7⟩ := W4.out.stored HB.out hg HNE.out
    exact ⟨rfl, F', _, h5, T2.out, K2.out.trans h6 G2.out, G2.out.trans h7 K2.out.size⟩
-- GEN
theorem rd_ints_at {ok : Nat → Prop} {w : World} {k : IntKind} {sz : Nat} {a : Option Addr} {n c : Nat} {xs : List Int} (h : Rd ok w (.slice (.int k) sz) [.slice a n c] xs) (i : Nat) (hi : i < n) :
    ∃ (b off : Nat) (x : Int), a = some ⟨b, off, none⟩ ∧ b < w.heap.size ∧ xs[i]? = some x ∧ (Lit.int k x).wf = true ∧ w.cell? ⟨b, off + i, none⟩ = some (.int k x) := by
  obtain ⟨b, off, x, vs, ha, _, hlt, hx, hl, hc, hr⟩ := Rd.elem (e := .int k) h i hi
  obtain ⟨rfl, hw⟩ := Rd.int_is hr
  have := hc 0 Nat.zero_lt_one
  rw [show off + i * Sh.cells (.int k) + 0 = off + i by simp [Sh.cells]] at this
  exact ⟨b, off, x, ha, hlt, hx, hw, this⟩
theorem rd_strs_at {ok : Nat → Prop} {w : World} {sz : Nat} {a : Option Addr} {n c : Nat} {xs : List ByteArray} (h : Rd ok w (.slice .str sz) [.slice a n c] xs) (i : Nat) (hi : i < n) :
    ∃ (b off : Nat) (x : ByteArray), a = some ⟨b, off, none⟩ ∧ b < w.heap.size ∧ xs[i]? = some x ∧ x.size ≤ 140737488351232 ∧ w.cell? ⟨b, off + i, none⟩ = some (.string x) := by
  obtain ⟨b, off, x, vs, ha, _, hlt, hx, hl, hc, hr⟩ := Rd.elem (e := .str) h i hi
  obtain ⟨rfl, hw⟩ := Rd.str_is hr
  have := hc 0 (by decide)
  rw [show off + i * Sh.cells .str + 0 = off + i by simp [Sh.cells]] at this
  exact ⟨b, off, x, ha, hlt, hx, hw, this⟩
set_option maxRecDepth 100000 in
set_option maxHeartbeats 3200000 in
theorem wlist_str (a : Option Addr) (n c : Nat) (xs : List ByteArray) (g B : Nat) (F : List Nat) (s : List Nat × Bool) (w : World) (h : WAt w g B F s) (hl : s.1.length ≤ 412316860416) (hx : Rd (· < B) w (.slice Sh.str 16) [.slice a n c] xs) :
    Calls Try.prog 79 #[.pointer (some ⟨g, 0, none⟩), .slice a n c, .func (.func 80) #[.pointer (some ⟨g, 0, none⟩)] #[]] w fun e w' => WPostW (cMany cStr) (10 + 128 * 4106) g B F s (xs.map strB) w e w' := by
  have H := Lib.hid h
  have HX := Lib.hid hx
  obtain ⟨_, _, _, hcs, hlen, hsm, _⟩ := Rd.slice_is (e := Sh.str) hx
  simp only [List.cons.injEq, Value.slice.injEq, and_true] at hcs
  obtain ⟨rfl, rfl, rfl⟩ := hcs
  have HL := hlen
  have HLB := Lib.hid (show (xs.map strB).length = n by rw [List.length_map]; exact hlen.out)
  have hle := h.le
  clear h hx hlen
  go_enter Try.func79, Try.ntmps79
  go_wp2_with (fail)
  refine (wlen_any n 128 g B F s w H.out (by omega) (by decide) (by omega)).mono ?_
  rintro e w2 (⟨hc, rfl, h2, k2⟩ | ⟨hc, rfl, F2, s2, h2, t2, k2, g2⟩)
  · have FIN := Lib.hid (show WEnd (cMany cStr) (10 + 128 * 4106) g B F s (xs.map strB) w w2 from ⟨F, _, h2, WStep.over (by rw [HLB.out]; exact hc), k2, Grows.refl _ _⟩)
    clear h2 k2
    go_wp2
    go_end0
    exact ⟨rfl, FIN.out⟩
  · have ST := Lib.hid (show ∃ F' s', WAt w2 g B F' s' ∧ WMany cStr 4106 (xs.map strB) 0 s s' ∧ Kept F w w2 ∧ Grows w F F' from ⟨F2, s2, h2, WMany.start (by rw [HLB.out]; exact t2), k2, g2⟩)
    clear h2 t2 k2 g2
    go_wp2_with (fail)
    go_loopw [7, 15] (fun _ s15 wr => ∃ i : Nat, s15 = .int .i64 i ∧ i ≤ n ∧ Hid (∃ F' s', WAt wr g B F' s' ∧ WMany cStr 4106 (xs.map strB) i s s' ∧ Kept F w wr ∧ Grows w F F')) (fun _ s15 _ => n - (intOf s15).toNat)
    case atStart => exact ⟨0, rfl, by omega, ST.out⟩
    case round =>
      clear ST
      obtain ⟨i, rfl, hi, HI⟩ := hrel
      obtain ⟨F3, s3, h3, t3, k3, g3⟩ := HI.out
      have hll : s3.1.length ≤ 549755813888 := by
        have h1 := t3.1
        have h2 : i * 4106 ≤ 128 * 4106 := Nat.mul_le_mul_right _ (by omega)
        omega
      have HXr := Lib.hid (HX.out.stay k3.size (fun k hk _ => (H.out.below k3 hle).block k hk) (fun _ h _ => h))
      have H3 := Lib.hid h3
      have T3 := Lib.hid t3
      have K3 := Lib.hid k3
      have G3 := Lib.hid g3
      clear h3 t3 k3 g3 HI
      by_cases hin : i < n
      · obtain ⟨b, off, x, rfl, hlt, hget, hsz, hcell⟩ := rd_strs_at HXr.out i hin
        have HG := Lib.hid (show (xs.map strB)[i]? = some (strB x) by rw [List.getElem?_map, hget, Option.map_some])
        clear hget 
        go_wp2_with (fail)
        refine (wtext_any x g B F3 s3 wr H3.out hll (by unfold maxLen; omega)).mono ?_
        rintro e w4 ⟨rfl, F4, s4, h4, t4, k4, g4⟩
        have NX := Lib.hid (show ∃ F' s', WAt w4 g B F' s' ∧ WMany cStr 4106 (xs.map strB) (i + 1) s s' ∧ Kept F w w4 ∧ Grows w F F' from ⟨F4, s4, h4, T3.out.next HG.out t4, K3.out.trans k4 G3.out, G3.out.trans g4 K3.out.size⟩)
        clear h4 t4 k4 g4 H3 T3 K3 G3
        go_wp2
        go_roundw
        case rel => exact ⟨i + 1, by go_num, by omega, NX.out⟩
        case measure => simp [intOf]; omega
      · have hin' : i = n := by omega
        subst hin'
        have FIN := Lib.hid (show WEnd (cMany cStr) (10 + 128 * 4106) g B F s (xs.map strB) w wr from ⟨F3, s3, H3.out, T3.out.done (by rw [HLB.out]) (by rw [HLB.out]; omega), K3.out, G3.out⟩)
        go_wp2
        go_end0
        exact ⟨rfl, FIN.out⟩

theorem wtexts_any (a : Option Addr) (n c : Nat) (xs : List ByteArray) (g B : Nat) (F : List Nat) (s : List Nat × Bool) (w : World) (h : WAt w g B F s) (hl : s.1.length ≤ 412316860416) (hx : Rd (· < B) w (.slice Sh.str 16) [.slice a n c] xs) :
    Calls Try.prog 65 #[.pointer (some ⟨g, 0, none⟩), .slice a n c] w fun e w' => WPostW (cMany cStr) (10 + 128 * 4106) g B F s (xs.map strB) w e w' := by
  have H := Lib.hid h
  have HX := Lib.hid hx
  clear h hx
  go_enter Try.func65, Try.ntmps65
  go_wp2_with (fail)
  refine (wlist_str a n c xs g B F s w H.out hl HX.out).mono ?_
  rintro e w2 ⟨rfl, F', s', h1, h2, h3, h4⟩
  have H2 := Lib.hid (show WEnd (cMany cStr) (10 + 128 * 4106) g B F s (xs.map strB) w w2 from ⟨F', s', h1, h2, h3, h4⟩)
  clear h1 h2 h3 h4
  go_wp2
  go_end0
  exact ⟨rfl, H2.out⟩

theorem i32_bounds {x : Int} (h : (Lit.int .i32 x).wf = true) : -2147483648 ≤ x ∧ x ≤ 2147483647 := by
  simp [Lit.wf, IntKind.min, IntKind.max, IntKind.signed, IntKind.bits] at h
  omega
set_option maxRecDepth 100000 in
theorem wvec1_any (x : Int) (bx g B : Nat) (F : List Nat) (s : List Nat × Bool) (w : World) (h : WAt w g B F s) (hl : s.1.length ≤ 549755813888) (hb : Blk w bx 97 [.pointer (some ⟨g, 0, none⟩)]) (hx : -2147483648 ≤ x ∧ x ≤ 2147483647) :
    Calls Try.prog 77 #[.int .i32 x, .pointer (some ⟨bx, 0, none⟩)] w fun e w' => WPostW (cInt (-2147483648) 2147483647) 10 g B F s x w e w' := by
  have H := Lib.hid h
  have c0 : w.cell? ⟨bx, 0, none⟩ = some (.pointer (some ⟨g, 0, none⟩)) := hb.cell 0
  have lt := hb.lt
  have hw : IntKind.i64.wrap x = x := by rw [IntKind.wrap_i64]; omega
  have HX := Lib.hid hx
  clear h hb hx
  go_enter Try.func77, Try.ntmps77
  go_wp2_with (fail)
  refine (wwhole_any (-2147483648) 2147483647 x g B F s w H.out HX.out (by have := HX.out; omega) (by have := HX.out; omega) hl).mono ?_
  rintro e w2 ⟨rfl, F', s', h1, h2, h3, h4⟩
  have H2 := Lib.hid (show WEnd (cInt (-2147483648) 2147483647) 10 g B F s x w w2 from ⟨F', s', h1, h2, h3, h4⟩)
  clear h1 h2 h3 h4
  go_wp2
  go_end0
  exact ⟨rfl, H2.out⟩

set_option maxRecDepth 100000 in
set_option maxHeartbeats 3200000 in
theorem wlist_i32 (a : Option Addr) (n c : Nat) (xs : List Int) (g B : Nat) (F : List Nat) (s : List Nat × Bool) (w : World) (bx : Nat) (HBX : Hid (Blk w bx 97 [.pointer (some ⟨g, 0, none⟩)])) (HBF : Hid (bx ∉ F)) (h : WAt w g B F s) (hl : s.1.length ≤ 412316860416) (hx : Rd (· < B) w (.slice (Sh.int .i32) 4) [.slice a n c] xs) :
    Calls Try.prog 76 #[.pointer (some ⟨g, 0, none⟩), .slice a n c, .func (.func 77) #[] #[.pointer (some ⟨bx, 0, none⟩)]] w fun e w' => WPostW (cMany (cInt (-2147483648) 2147483647)) (10 + 128 * 10) g B F s (xs.map id) w e w' := by
  have H := Lib.hid h
  have HX := Lib.hid hx
  obtain ⟨_, _, _, hcs, hlen, hsm, _⟩ := Rd.slice_is (e := (Sh.int .i32)) hx
  simp only [List.cons.injEq, Value.slice.injEq, and_true] at hcs
  obtain ⟨rfl, rfl, rfl⟩ := hcs
  have HL := hlen
  have HLB := Lib.hid (show (xs.map id).length = n by rw [List.length_map]; exact hlen.out)
  have hle := h.le
  clear h hx hlen
  go_enter Try.func76, Try.ntmps76
  go_wp2_with (fail)
  refine (wlen_any n 128 g B F s w H.out (by omega) (by decide) (by omega)).mono ?_
  rintro e w2 (⟨hc, rfl, h2, k2⟩ | ⟨hc, rfl, F2, s2, h2, t2, k2, g2⟩)
  · have FIN := Lib.hid (show WEnd (cMany (cInt (-2147483648) 2147483647)) (10 + 128 * 10) g B F s (xs.map id) w w2 from ⟨F, _, h2, WStep.over (by rw [HLB.out]; exact hc), k2, Grows.refl _ _⟩)
    clear h2 k2
    go_wp2
    go_end0
    exact ⟨rfl, FIN.out⟩
  · have ST := Lib.hid (show ∃ F' s', WAt w2 g B F' s' ∧ WMany (cInt (-2147483648) 2147483647) 10 (xs.map id) 0 s s' ∧ Kept F w w2 ∧ Grows w F F' from ⟨F2, s2, h2, WMany.start (by rw [HLB.out]; exact t2), k2, g2⟩)
    clear h2 t2 k2 g2
    go_wp2_with (fail)
    go_loopw [7, 15] (fun _ s15 wr => ∃ i : Nat, s15 = .int .i64 i ∧ i ≤ n ∧ Hid (∃ F' s', WAt wr g B F' s' ∧ WMany (cInt (-2147483648) 2147483647) 10 (xs.map id) i s s' ∧ Kept F w wr ∧ Grows w F F')) (fun _ s15 _ => n - (intOf s15).toNat)
    case atStart => exact ⟨0, rfl, by omega, ST.out⟩
    case round =>
      clear ST
      obtain ⟨i, rfl, hi, HI⟩ := hrel
      obtain ⟨F3, s3, h3, t3, k3, g3⟩ := HI.out
      have hll : s3.1.length ≤ 549755813888 := by
        have h1 := t3.1
        have h2 : i * 10 ≤ 128 * 10 := Nat.mul_le_mul_right _ (by omega)
        omega
      have HXr := Lib.hid (HX.out.stay k3.size (fun k hk _ => (H.out.below k3 hle).block k hk) (fun _ h _ => h))
      have H3 := Lib.hid h3
      have T3 := Lib.hid t3
      have K3 := Lib.hid k3
      have G3 := Lib.hid g3
      clear h3 t3 k3 g3 HI
      by_cases hin : i < n
      · obtain ⟨b, off, x, rfl, hlt, hget, hwf, hcell⟩ := rd_ints_at HXr.out i hin
        have HG := Lib.hid (show (xs.map id)[i]? = some (id x) by rw [List.getElem?_map, hget, Option.map_some])
        clear hget 
        go_wp2_with (fail)
        refine (wvec1_any x bx g B F3 s3 wr H3.out hll (K3.out.blk HBX.out HBF.out) (i32_bounds hwf)).mono ?_
        rintro e w4 ⟨rfl, F4, s4, h4, t4, k4, g4⟩
        have NX := Lib.hid (show ∃ F' s', WAt w4 g B F' s' ∧ WMany (cInt (-2147483648) 2147483647) 10 (xs.map id) (i + 1) s s' ∧ Kept F w w4 ∧ Grows w F F' from ⟨F4, s4, h4, T3.out.next HG.out t4, K3.out.trans k4 G3.out, G3.out.trans g4 K3.out.size⟩)
        clear h4 t4 k4 g4 H3 T3 K3 G3
        go_wp2
        go_roundw
        case rel => exact ⟨i + 1, by go_num, by omega, NX.out⟩
        case measure => simp [intOf]; omega
      · have hin' : i = n := by omega
        subst hin'
        have FIN := Lib.hid (show WEnd (cMany (cInt (-2147483648) 2147483647)) (10 + 128 * 10) g B F s (xs.map id) w wr from ⟨F3, s3, H3.out, T3.out.done (by rw [HLB.out]) (by rw [HLB.out]; omega), K3.out, G3.out⟩)
        go_wp2
        go_end0
        exact ⟨rfl, FIN.out⟩

set_option maxRecDepth 100000 in
theorem wvec_any (a : Option Addr) (n c : Nat) (xs : List Int) (g B : Nat) (F : List Nat) (s : List Nat × Bool) (w : World) (h : WAt w g B F s) (hl : s.1.length ≤ 412316860416) (hx : Rd (· < B) w (.slice (.int .i32) 4) [.slice a n c] xs) :
    Calls Try.prog 64 #[.pointer (some ⟨g, 0, none⟩), .slice a n c] w fun e w' => WPostW cVec (10 + 128 * 10) g B F s xs w e w' := by
  obtain ⟨w1, hw1⟩ : ∃ w1, w.alloc (.cells #[.pointer (some ⟨g, 0, none⟩)] 97) = w1 := ⟨_, rfl⟩
  have K1 := Lib.hid (show Kept F w w1 from by rw [← hw1]; exact (Kept.refl _ _).alloc _)
  have X1 := Lib.hid (show Blk w1 w.heap.size 97 [.pointer (some ⟨g, 0, none⟩)] from by rw [← hw1]; exact Blk.new w _ _)
  have H1 := Lib.hid (show WAt w1 g B F s from by rw [← hw1]; exact h.kept (G := []) ((Kept.refl _ _).alloc _) (by simp))
  have HX1 := Lib.hid (show Rd (· < B) w1 (.slice (.int .i32) 4) [.slice a n c] xs from by rw [← hw1]; exact Rd.alloc hx _)
  have HF := Lib.hid (show w.heap.size ∉ F from fun hf => by have := h.lt _ hf; omega)
  have c0 : w1.cell? ⟨w.heap.size, 0, none⟩ = some (.pointer (some ⟨g, 0, none⟩)) := X1.out.cell 0
  have lt := X1.out.lt
  have hs1 := K1.out.size
  clear h hx
  go_enter Try.func64, Try.ntmps64
  go_wp2_with (fail)
  try rw [hw1]
  clear hw1
  refine (wlist_i32 a n c xs g B F s w1 w.heap.size X1 HF H1.out hl HX1.out).mono ?_
  rintro e w2 ⟨rfl, F', s', h1, h2, h3, h4⟩
  rw [List.map_id] at h2
  have H2 := Lib.hid (show WEnd cVec (10 + 128 * 10) g B F s xs w w2 from ⟨F', s', h1, h2, K1.out.trans h3 (Grows.refl _ _), (Grows.refl _ _).trans h4 hs1⟩)
  clear h1 h2 h3 h4
  go_wp2
  go_end0
  exact ⟨rfl, H2.out⟩

theorem WStep.dead {α β : Type} {C : Cod α} {D : Cod β} {m : Nat} {bs : List Nat} {bad : Bool} {a : α} {b : β} {s' : List Nat × Bool} (h : WStep C m (bs, true) a s') (hf : ¬ D.fits b) : WStep D m (bs, bad) b s' := by
  obtain ⟨h1, h2, _⟩ := h
  have h0 : s'.2 ≠ false := fun e => by have := (h2.1 e).1; cases this
  exact ⟨h1, ⟨fun e => absurd e h0, fun e => absurd e.2 hf⟩, fun e => absurd e h0⟩
theorem WEnd.from {α : Type} {C : Cod α} {m g B : Nat} {F : List Nat} {s : List Nat × Bool} {a : α} {w w1 w2 : World} (h : WEnd C m g B F s a w1 w2) (k : Kept F w w1) : WEnd C m g B F s a w w2 := by
  obtain ⟨F', s', h1, h2, h3, h4⟩ := h
  exact ⟨F', s', h1, h2, k.trans h3 (Grows.refl _ _), (Grows.refl _ _).trans h4 k.size⟩

set_option maxRecDepth 100000 in
set_option maxHeartbeats 3200000 in
theorem witem_any (id : Nat) (a : Option Addr) (n c : Nat) (a2 : Option Addr) (n2 c2 : Nat) (vec : List Int) (tags : List ByteArray) (g B : Nat) (F : List Nat) (s : List Nat × Bool) (w : World) (h : WAt w g B F s) (hl : s.1.length ≤ 400000000000) (hid : id ≤ 4294967295) (ra0 : Rd (· < B) w shVec [.slice a n c] vec) (rb0 : Rd (· < B) w shTags [.slice a2 n2 c2] tags) :
    Calls Try.prog 56 #[.pointer (some ⟨g, 0, none⟩), .agg #[.int .u32 (id : Int), .slice a n c, .slice a2 n2 c2]] w fun e w' => WPostW cItem (10 + ((10 + 128 * 10) + (10 + 128 * 4106))) g B F s ⟨id, vec, toTags tags⟩ w e w' := by
  have hB := h.le
  have hwid : IntKind.u64.wrap (id : Int) = (id : Int) := by rw [IntKind.wrap_u64]; omega
  obtain ⟨w1, hw1⟩ : ∃ w1, w.alloc (.cells #[.int .u32 (id : Int), .slice a n c, .slice a2 n2 c2] 79) = w1 := ⟨_, rfl⟩
  have K0 := Lib.hid (show Kept F w w1 from by rw [← hw1]; exact (Kept.refl _ _).alloc _)
  have X1 := Lib.hid (show Blk w1 w.heap.size 79 [.int .u32 (id : Int), .slice a n c, .slice a2 n2 c2] from by rw [← hw1]; exact Blk.new w _ _)
  have H1 := Lib.hid (show WAt w1 g B F s from by rw [← hw1]; exact h.kept (G := []) ((Kept.refl _ _).alloc _) (by simp))
  have HF := Lib.hid (show w.heap.size ∉ F from fun hf => by have := h.lt _ hf; omega)
  have B1 := Lib.hid (show Below B w w1 from by rw [← hw1]; exact (Below.refl _ _).alloc hB _)
  have K1 := Lib.hid (Kept.refl F w1)
  have G1 := Lib.hid (Grows.refl w1 F)
  clear h
  go_enter Try.func56, Try.ntmps56
  have c0_1 : w1.cell? ⟨w.heap.size, 0, none⟩ = some (.int .u32 (id : Int)) := (K1.out.blk X1.out HF.out).cell 0
  have lt1 := (K1.out.blk X1.out HF.out).lt
  go_wp2_with (fail)
  try rw [hw1]
  clear hw1
  refine (wnum_any 4294967295 id g B (by decide) F s w1 H1.out hid (by omega)).mono ?_
  rintro e w2 ⟨rfl, F2, s2, h, t, k, gg⟩
  have H2 := Lib.hid h
  have T2 := Lib.hid t
  have K2 := Lib.hid (K1.out.trans k G1.out)
  have G2 := Lib.hid (G1.out.trans gg K1.out.size)
  have B2 := Lib.hid (B1.out.trans (H1.out.below k (H1.out.le)))
  have L2 := t.1
  clear h t k gg H1 lt1 c0_1
  have c1_2 : w2.cell? ⟨w.heap.size, 1, none⟩ = some (.slice a n c) := (K2.out.blk X1.out HF.out).cell 1
  have lt2 := (K2.out.blk X1.out HF.out).lt
  go_wp2_with (fail)
  refine (wvec_any a n c vec g B F2 s2 w2 H2.out (by omega) (ra0.stay B2.out.size (fun k hk _ => B2.out.block k hk) (fun _ h _ => h))).mono ?_
  rintro e w3 ⟨rfl, F3, s3, h, t, k, gg⟩
  have H3 := Lib.hid h
  have T3 := Lib.hid t
  have K3 := Lib.hid (K2.out.trans k G2.out)
  have G3 := Lib.hid (G2.out.trans gg K2.out.size)
  have B3 := Lib.hid (B2.out.trans (H2.out.below k (H2.out.le)))
  have L3 := t.1
  clear h t k gg H2 lt2 c1_2
  have c2_3 : w3.cell? ⟨w.heap.size, 2, none⟩ = some (.slice a2 n2 c2) := (K3.out.blk X1.out HF.out).cell 2
  have lt3 := (K3.out.blk X1.out HF.out).lt
  go_wp2_with (fail)
  refine (wtexts_any a2 n2 c2 tags g B F3 s3 w3 H3.out (by omega) (rb0.stay B3.out.size (fun k hk _ => B3.out.block k hk) (fun _ h _ => h))).mono ?_
  rintro e w4 ⟨rfl, F4, s4, h, t, k, gg⟩
  have H4 := Lib.hid h
  have T4 := Lib.hid t
  have K4 := Lib.hid (K3.out.trans k G3.out)
  have G4 := Lib.hid (G3.out.trans gg K3.out.size)
  have B4 := Lib.hid (B3.out.trans (H3.out.below k (H3.out.le)))
  have L4 := t.1
  clear h t k gg H3 lt3 c2_3
  have FIN := Lib.hid (WEnd.from (show WEnd cItem (10 + ((10 + 128 * 10) + (10 + 128 * 4106))) g B F s ⟨id, vec, toTags tags⟩ w1 w4 from ⟨F4, s4, H4.out, WStep.map (T2.out.pair (T3.out.pair T4.out)) rfl, K4.out, G4.out⟩) K0.out)
  clear T2 K2 G2 L2 T3 K3 G3 L3 T4 K4 G4 L4
  go_wp2
  go_end0
  exact ⟨rfl, FIN.out⟩

theorem WStep.change_more {m n : Nat} {s s1 s2 : List Nat × Bool} {i : ItemV} (hm : ¬ (i.vec = [] ∧ i.tags = [])) (h : WStep cFlag m s true s1) (k : WStep cU32 n (s1.1, true) i.id s2) : WStep cChange (m + n) s ⟨true, i⟩ s2 :=
  WStep.change_gone (more := true) ⟨fun _ => hm, fun _ => rfl⟩ h (by rw [Bool.or_true]; exact k)
theorem WStep.change_bare {m n : Nat} {s s1 s2 : List Nat × Bool} {i : ItemV} (hm : i.vec = [] ∧ i.tags = []) (h : WStep cFlag m s true s1) (k : WStep cU32 n s1 i.id s2) : WStep cChange (m + n) s ⟨true, i⟩ s2 :=
  WStep.change_gone (more := false) ⟨fun h => by (cases h), fun h => absurd hm h⟩ h (by rw [Bool.or_false]; exact k)

set_option maxRecDepth 100000 in
set_option maxHeartbeats 3200000 in
theorem wchange_any (gn : Bool) (id : Nat) (a : Option Addr) (n c : Nat) (a2 : Option Addr) (n2 m2 : Nat) (vec : List Int) (tags : List ByteArray) (g B : Nat) (F : List Nat) (s : List Nat × Bool) (w : World) (h : WAt w g B F s) (hl : s.1.length ≤ 390000000000)
    (hid : id ≤ 4294967295) (ra0 : Rd (· < B) w shVec [.slice a n c] vec) (rb0 : Rd (· < B) w shTags [.slice a2 n2 m2] tags) (E1 : Hid (vec.length = n)) (E2 : Hid (tags.length = n2)) (hn : n ≤ 140737488351232) (hn2 : n2 ≤ 140737488351232) :
    Calls Try.prog 45 #[.pointer (some ⟨g, 0, none⟩), .agg #[.bool gn, .int .u32 (id : Int), .slice a n c, .slice a2 n2 m2]] w fun e w' => WPostW cChange 600000 g B F s ⟨gn, ⟨id, vec, toTags tags⟩⟩ w e w' := by
  have hB := h.le
  have hwid : IntKind.u64.wrap (id : Int) = (id : Int) := by rw [IntKind.wrap_u64]; omega
  obtain ⟨w1, hw1⟩ : ∃ w1, w.alloc (.cells #[.bool gn, .int .u32 (id : Int), .slice a n c, .slice a2 n2 m2] 81) = w1 := ⟨_, rfl⟩
  have K0 := Lib.hid (show Kept F w w1 from by rw [← hw1]; exact (Kept.refl _ _).alloc _)
  have X1 := Lib.hid (show Blk w1 w.heap.size 81 [.bool gn, .int .u32 (id : Int), .slice a n c, .slice a2 n2 m2] from by rw [← hw1]; exact Blk.new w _ _)
  have H1 := Lib.hid (show WAt w1 g B F s from by rw [← hw1]; exact h.kept (G := []) ((Kept.refl _ _).alloc _) (by simp))
  have HF := Lib.hid (show w.heap.size ∉ F from fun hf => by have := h.lt _ hf; omega)
  have B1 := Lib.hid (show Below B w w1 from by rw [← hw1]; exact (Below.refl _ _).alloc hB _)
  have RA := Lib.hid ra0
  have RB := Lib.hid rb0
  have c0 : w1.cell? ⟨w.heap.size, 0, none⟩ = some (.bool gn) := X1.out.cell 0
  have lt := X1.out.lt
  clear h ra0 rb0
  go_enter Try.func45, Try.ntmps45
  go_wp2_with (fail)
  try rw [hw1]
  clear hw1
  refine (wflag_any gn g B F s w1 H1.out (by omega)).mono ?_
  rintro e w2 ⟨rfl, F2, s2, h, t, k, gg⟩
  have H2 := Lib.hid h
  have T2 := Lib.hid t
  have K2 := Lib.hid k
  have G2 := Lib.hid gg
  have B2 := Lib.hid (B1.out.trans (H1.out.below k H1.out.le))
  have L2 := t.1
  clear h t k gg c0 lt H1
  have X2 := Lib.hid (K2.out.blk X1.out HF.out)
  have c0 : w2.cell? ⟨w.heap.size, 0, none⟩ = some (.bool gn) := X2.out.cell 0
  have c1 : w2.cell? ⟨w.heap.size, 1, none⟩ = some (.int .u32 (id : Int)) := X2.out.cell 1
  have c2 : w2.cell? ⟨w.heap.size, 2, none⟩ = some (.slice a n c) := X2.out.cell 2
  have c3 : w2.cell? ⟨w.heap.size, 3, none⟩ = some (.slice a2 n2 m2) := X2.out.cell 3
  have lt := X2.out.lt
  cases gn
  · go_wp2_with (fail)
    refine (witem_any id a n c a2 n2 _ vec tags g B F2 s2 w2 H2.out (by omega) hid (RA.out.stay B2.out.size (fun k hk _ => B2.out.block k hk) (fun _ h _ => h)) (RB.out.stay B2.out.size (fun k hk _ => B2.out.block k hk) (fun _ h _ => h))).mono ?_
    rintro e w3 ⟨rfl, F3, s3, h, t, k, gg⟩
    have FIN := Lib.hid (WEnd.from (show WEnd cChange 600000 g B F s ⟨false, ⟨id, vec, toTags tags⟩⟩ w1 w3 from ⟨F3, s3, h, (WStep.change_item T2.out t).mono (by decide), K2.out.trans k G2.out, G2.out.trans gg K2.out.size⟩) K0.out)
    clear h t k gg c0 c1 c2 c3 lt
    go_wp2
    go_end0
    exact ⟨rfl, FIN.out⟩
  · obtain ⟨b1, f1, lg⟩ := H2.out.badCell
    have hm : (0 < n ∨ 0 < n2) ∨ (n = 0 ∧ n2 = 0) := by omega
    rcases hm with hm | ⟨rfl, rfl⟩
    · obtain ⟨hm2, km2⟩ := H2.out.mark
      obtain ⟨w3, hw3⟩ : ∃ w3, w2.setCell ⟨g, 1, none⟩ (.bool true) = w3 := ⟨_, rfl⟩
      rw [hw3] at hm2 km2
      have H3 := Lib.hid hm2
      have K3 := Lib.hid (K2.out.trans km2 G2.out)
      have X3 := Lib.hid (K3.out.blk X1.out HF.out)
      have d1 : w3.cell? ⟨w.heap.size, 1, none⟩ = some (.int .u32 (id : Int)) := X3.out.cell 1
      have lt3 := X3.out.lt
      have hmore := Lib.hid (show ¬ (vec = [] ∧ toTags tags = []) from by
        rintro ⟨e1, e2⟩
        have h1 := E1.out
        have h2 := E2.out
        have e3 : tags = [] := by simpa [toTags] using e2
        rw [e1] at h1
        rw [e3] at h2
        simp at h1 h2
        omega)
      clear hm2 km2
      have hN : (n = 0 ∧ 0 < n2) ∨ 0 < n := by omega
      rcases hN with ⟨rfl, hN⟩ | hN
      all_goals
        go_wp2_with (fail)
        try rw [hw3]
        clear hw3
        refine (wnum_any 4294967295 id g B (by decide) F2 (s2.1, true) w3 H3.out hid (show s2.1.length ≤ 549755813888 by omega)).mono ?_
        rintro e w4 ⟨rfl, F4, s4, h, t, k, gg⟩
        have FIN := Lib.hid (WEnd.from (show WEnd cChange 600000 g B F s ⟨true, ⟨id, vec, toTags tags⟩⟩ w1 w4 from ⟨F4, s4, h, (WStep.change_more (i := ⟨id, vec, toTags tags⟩) hmore.out T2.out t).mono (by decide), K3.out.trans k G2.out, G2.out.trans gg K3.out.size⟩) K0.out)
        clear h t k gg
        go_wp2
        go_end0
        exact ⟨rfl, FIN.out⟩
    · have hmore := Lib.hid (show vec = [] ∧ toTags tags = [] from by
        have h1 : vec = [] := List.eq_nil_of_length_eq_zero E1.out
        have h2 : tags = [] := List.eq_nil_of_length_eq_zero E2.out
        subst h1
        subst h2
        simp [toTags])
      go_wp2_with (fail)
      refine (wnum_any 4294967295 id g B (by decide) F2 s2 w2 H2.out hid (by omega)).mono ?_
      rintro e w4 ⟨rfl, F4, s4, h, t, k, gg⟩
      have FIN := Lib.hid (WEnd.from (show WEnd cChange 600000 g B F s ⟨true, ⟨id, vec, toTags tags⟩⟩ w1 w4 from ⟨F4, s4, h, (WStep.change_bare (i := ⟨id, vec, toTags tags⟩) hmore.out T2.out t).mono (by decide), K2.out.trans k G2.out, G2.out.trans gg K2.out.size⟩) K0.out)
      clear h t k gg
      go_wp2
      go_end0
      exact ⟨rfl, FIN.out⟩

theorem rd_item_parts {ok : Nat → Prop} {w : World} {id : Nat} {a : Option Addr} {n c : Nat} {a' : Option Addr} {n' c' : Nat} {vec : List Int} {tags : List ByteArray} (h : Rd ok w shItem [.int .u32 (id : Int), .slice a n c, .slice a' n' c'] ((id : Int), vec, tags, ())) :
    Rd ok w shVec [.slice a n c] vec ∧ Rd ok w shTags [.slice a' n' c'] tags := by
  obtain ⟨id2, vec2, tags2, a1, n1, c1, a2, n2, c2, hx, hcs, _, r1, r2, _⟩ := rd_item h
  simp only [List.cons.injEq, Value.slice.injEq, and_true] at hcs
  obtain ⟨_, ⟨rfl, rfl, rfl⟩, ⟨rfl, rfl, rfl⟩⟩ := hcs
  have h1 : vec = vec2 := congrArg (fun x : Int × List Int × List ByteArray × Unit => x.2.1) hx
  have h2 : tags = tags2 := congrArg (fun x : Int × List Int × List ByteArray × Unit => x.2.2.1) hx
  subst h1
  subst h2
  exact ⟨r1, r2⟩

set_option maxRecDepth 100000 in
set_option maxHeartbeats 3200000 in
theorem wlist_changes (a : Option Addr) (n c : Nat) (xs : List shChange.T) (g B : Nat) (F : List Nat) (s : List Nat × Bool) (w : World) (h : WAt w g B F s) (hl : s.1.length ≤ 380000000000) (hx : Rd (· < B) w (.slice shChange 64) [.slice a n c] xs) :
    Calls Try.prog 44 #[.pointer (some ⟨g, 0, none⟩), .slice a n c, .func (.func 45) #[.pointer (some ⟨g, 0, none⟩)] #[]] w fun e w' => WPostW (cMany cChange) (10 + 128 * 600000) g B F s (xs.map toChange) w e w' := by
  have H := Lib.hid h
  have HX := Lib.hid hx
  obtain ⟨_, _, _, hcs, hlen, hsm, _⟩ := Rd.slice_is (e := shChange) hx
  simp only [List.cons.injEq, Value.slice.injEq, and_true] at hcs
  obtain ⟨rfl, rfl, rfl⟩ := hcs
  have HL := hlen
  have HLB := Lib.hid (show (xs.map toChange).length = n by rw [List.length_map]; exact hlen.out)
  have hle := h.le
  clear h hx hlen
  go_enter Try.func44, Try.ntmps44
  go_wp2_with (fail)
  refine (wlen_any n 128 g B F s w H.out (by omega) (by decide) (by omega)).mono ?_
  rintro e w2 (⟨hc, rfl, h2, k2⟩ | ⟨hc, rfl, F2, s2, h2, t2, k2, g2⟩)
  · have FIN := Lib.hid (show WEnd (cMany cChange) (10 + 128 * 600000) g B F s (xs.map toChange) w w2 from ⟨F, _, h2, WStep.over (by rw [HLB.out]; exact hc), k2, Grows.refl _ _⟩)
    clear h2 k2
    go_wp2
    go_end0
    exact ⟨rfl, FIN.out⟩
  · have ST := Lib.hid (show ∃ F' s', WAt w2 g B F' s' ∧ WMany cChange 600000 (xs.map toChange) 0 s s' ∧ Kept F w w2 ∧ Grows w F F' from ⟨F2, s2, h2, WMany.start (by rw [HLB.out]; exact t2), k2, g2⟩)
    clear h2 t2 k2 g2
    go_wp2_with (fail)
    go_loopw [7, 15] (fun _ s15 wr => ∃ i : Nat, s15 = .int .i64 i ∧ i ≤ n ∧ Hid (∃ F' s', WAt wr g B F' s' ∧ WMany cChange 600000 (xs.map toChange) i s s' ∧ Kept F w wr ∧ Grows w F F')) (fun _ s15 _ => n - (intOf s15).toNat)
    case atStart => exact ⟨0, rfl, by omega, ST.out⟩
    case round =>
      clear ST
      obtain ⟨i, rfl, hi, HI⟩ := hrel
      obtain ⟨F3, s3, h3, t3, k3, g3⟩ := HI.out
      have hll : s3.1.length ≤ 390000000000 := by
        have h1 := t3.1
        have h2 : i * 600000 ≤ 128 * 600000 := Nat.mul_le_mul_right _ (by omega)
        omega
      have HXr := Lib.hid (HX.out.stay k3.size (fun k hk _ => (H.out.below k3 hle).block k hk) (fun _ h _ => h))
      have H3 := Lib.hid h3
      have T3 := Lib.hid t3
      have K3 := Lib.hid k3
      have G3 := Lib.hid g3
      clear h3 t3 k3 g3 HI
      by_cases hin : i < n
      · obtain ⟨b, off, x, gn, id, vec, tags, a1, n1, d1, a2, n2, d2, rfl, _, hlt, hget, hto, hid, hr, E1, E2, l1, l2, k0, k1, k2, k3⟩ := rd_change_at HXr.out i hin
        obtain ⟨rv, rt⟩ := rd_item_parts hr.out
        have RV := Lib.hid rv
        have RT := Lib.hid rt
        have HG := Lib.hid (show (xs.map toChange)[i]? = some ⟨gn, ⟨id, vec, toTags tags⟩⟩ by rw [List.getElem?_map, hget, Option.map_some, hto])
        clear hget hto rv rt hr
        obtain ⟨wq, hwq⟩ : ∃ wq, wr.alloc (.cells #[.bool gn, .int .u32 (id : Int), .slice a1 n1 d1, .slice a2 n2 d2] 81) = wq := ⟨_, rfl⟩
        have H3 := Lib.hid (show WAt wq g B F3 s3 from by rw [← hwq]; exact H3.out.kept (G := []) ((Kept.refl _ _).alloc _) (by simp))
        have K3 := Lib.hid (show Kept F w wq from by rw [← hwq]; exact K3.out.alloc _)
        have XQ := Lib.hid (show Blk wq wr.heap.size 81 [.bool gn, .int .u32 (id : Int), .slice a1 n1 d1, .slice a2 n2 d2] from by rw [← hwq]; exact Blk.new wr _ _)
        have q0 : wq.cell? ⟨wr.heap.size, 0, none⟩ = some (.bool gn) := XQ.out.cell 0
        have q1 : wq.cell? ⟨wr.heap.size, 1, none⟩ = some (.int .u32 (id : Int)) := XQ.out.cell 1
        have q2 : wq.cell? ⟨wr.heap.size, 2, none⟩ = some (.slice a1 n1 d1) := XQ.out.cell 2
        have q3 : wq.cell? ⟨wr.heap.size, 3, none⟩ = some (.slice a2 n2 d2) := XQ.out.cell 3
        have lq := XQ.out.lt
        have RV := Lib.hid (show Rd (· < B) wq shVec [.slice a1 n1 d1] vec from by rw [← hwq]; exact RV.out.alloc _)
        have RT := Lib.hid (show Rd (· < B) wq shTags [.slice a2 n2 d2] tags from by rw [← hwq]; exact RT.out.alloc _)
        go_wp2_with (fail)
        try rw [hwq]
        clear hwq
        refine (wchange_any gn id a1 n1 d1 a2 n2 d2 vec tags g B F3 s3 wq H3.out (by omega) hid RV.out RT.out E1 E2 l1 l2).mono ?_
        rintro e w4 ⟨rfl, F4, s4, h4, t4, k4, g4⟩
        have NX := Lib.hid (show ∃ F' s', WAt w4 g B F' s' ∧ WMany cChange 600000 (xs.map toChange) (i + 1) s s' ∧ Kept F w w4 ∧ Grows w F F' from ⟨F4, s4, h4, T3.out.next HG.out t4, K3.out.trans k4 G3.out, G3.out.trans g4 K3.out.size⟩)
        clear h4 t4 k4 g4 H3 T3 K3 G3
        go_wp2
        go_roundw
        case rel => exact ⟨i + 1, by go_num, by omega, NX.out⟩
        case measure => simp [intOf]; omega
      · have hin' : i = n := by omega
        subst hin'
        have FIN := Lib.hid (show WEnd (cMany cChange) (10 + 128 * 600000) g B F s (xs.map toChange) w wr from ⟨F3, s3, H3.out, T3.out.done (by rw [HLB.out]) (by rw [HLB.out]; omega), K3.out, G3.out⟩)
        go_wp2
        go_end0
        exact ⟨rfl, FIN.out⟩

theorem wchanges_any (a : Option Addr) (n c : Nat) (xs : List shChange.T) (g B : Nat) (F : List Nat) (s : List Nat × Bool) (w : World) (h : WAt w g B F s) (hl : s.1.length ≤ 380000000000) (hx : Rd (· < B) w (.slice shChange 64) [.slice a n c] xs) :
    Calls Try.prog 36 #[.pointer (some ⟨g, 0, none⟩), .slice a n c] w fun e w' => WPostW (cMany cChange) (10 + 128 * 600000) g B F s (xs.map toChange) w e w' := by
  have H := Lib.hid h
  have HX := Lib.hid hx
  clear h hx
  go_enter Try.func36, Try.ntmps36
  go_wp2_with (fail)
  refine (wlist_changes a n c xs g B F s w H.out hl HX.out).mono ?_
  rintro e w2 ⟨rfl, F', s', h1, h2, h3, h4⟩
  have H2 := Lib.hid (show WEnd (cMany cChange) (10 + 128 * 600000) g B F s (xs.map toChange) w w2 from ⟨F', s', h1, h2, h3, h4⟩)
  clear h1 h2 h3 h4
  go_wp2
  go_end0
  exact ⟨rfl, H2.out⟩

set_option maxRecDepth 100000 in
/-- The writer's end: what was written, if all of it could be. -/
theorem wend_good (g B : Nat) (F : List Nat) (bs : List Nat) (w : World) (h : WAt w g B F (bs, false)) :
    Calls Try.prog 37 #[.pointer (some ⟨g, 0, none⟩)] w fun e w' => w' = w ∧ ∃ v, e = .returned (.tuple #[v, .bool true]) ∧ OwnV w B 5 v bs := by
  obtain ⟨c1, _, lt⟩ := h.badCell
  obtain ⟨v, c0, _, _, _, HB, HO, _, _⟩ := h.opened
  obtain ⟨a, n, c, rfl, _⟩ := HO.out.parts
  clear h
  go_enter Try.func37, Try.ntmps37
  go_wp2
  go_ret2
  exact ⟨rfl, _, rfl, HO.out⟩
theorem wend_bad (g B : Nat) (F : List Nat) (bs : List Nat) (w : World) (h : WAt w g B F (bs, true)) :
    Calls Try.prog 37 #[.pointer (some ⟨g, 0, none⟩)] w fun e w' => w' = w ∧ e = .returned (.tuple #[.slice none 0 0, .bool false]) := by
  obtain ⟨c1, _, lt⟩ := h.badCell
  clear h
  go_enter Try.func37, Try.ntmps37
  go_wp2
  go_ret2
  exact ⟨rfl, rfl⟩

end Go.Proofs.Ytdlpifcfgfhagaa
