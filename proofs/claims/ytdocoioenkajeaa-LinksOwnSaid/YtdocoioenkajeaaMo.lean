/-
  The mathematics of messages: each kind's fields, one behind the other; what is put is read back, what was read is put, what is cut is an end, what is more is more. No program stands here.
-/
import Derived.Test.YtdocoioenkajeaaMn
namespace Go.Proofs.Ytdocoioenkajeaa

structure MsgV where
  kind : Nat
  req : Nat
  caps : Nat
  token : Nat
  code : Nat
  n : Nat
  name : List Nat
  conf : ConfV
  changes : List ChangeV
  id : Nat
  vec : List Int
  k : Nat
  width : Nat
  filter : FilterV
  num : Nat
  page : Nat
  bytes : List Nat
  version : Nat
  names : List (List Nat)
  items : List ItemV
  hits : List HitV
/-- The message of a kind of which all else is zero. -/
def zeroM (kind : Nat) : MsgV := ⟨kind, 0, 0, 0, 0, 0, [], ⟨[], 0, 0, false, 0, 0⟩, [], 0, [], 0, 0, ⟨[], [], []⟩, 0, 0, [], 0, [], [], []⟩

inductive Fld where
  | req | caps | token | code | n | name | conf | changes | id | vec | k | width | filter | num | page | bytes | version | names | items | hits
def Fld.no : Fld → Nat
  | .req => 0 | .caps => 1 | .token => 2 | .code => 3 | .n => 4 | .name => 5 | .conf => 6 | .changes => 7 | .id => 8 | .vec => 9 | .k => 10 | .width => 11 | .filter => 12 | .num => 13 | .page => 14 | .bytes => 15 | .version => 16 | .names => 17 | .items => 18 | .hits => 19
def Fld.T : Fld → Type
  | .req | .caps | .token | .code | .n | .id | .k | .width | .num | .page | .version => Nat
  | .name | .bytes => List Nat
  | .conf => ConfV
  | .changes => List ChangeV
  | .vec => List Int
  | .filter => FilterV
  | .names => List (List Nat)
  | .items => List ItemV
  | .hits => List HitV
def Fld.cod : (f : Fld) → Cod f.T
  | .req | .caps | .n | .id | .num | .page => cU32
  | .token | .version => cU64
  | .code => cU8
  | .k | .width => cU16
  | .name | .bytes => cStr
  | .conf => cConf
  | .changes => cMany cChange
  | .vec => cVec
  | .filter => cFilter
  | .names => cStrs
  | .items => cMany cItem
  | .hits => cMany cHit
def Fld.get : (f : Fld) → MsgV → f.T
  | .req, m => m.req | .caps, m => m.caps | .token, m => m.token | .code, m => m.code | .n, m => m.n | .name, m => m.name | .conf, m => m.conf | .changes, m => m.changes | .id, m => m.id | .vec, m => m.vec
  | .k, m => m.k | .width, m => m.width | .filter, m => m.filter | .num, m => m.num | .page, m => m.page | .bytes, m => m.bytes | .version, m => m.version | .names, m => m.names | .items, m => m.items | .hits, m => m.hits
def Fld.set : (f : Fld) → MsgV → f.T → MsgV
  | .req, m, v => { m with req := v } | .caps, m, v => { m with caps := v } | .token, m, v => { m with token := v } | .code, m, v => { m with code := v } | .n, m, v => { m with n := v } | .name, m, v => { m with name := v }
  | .conf, m, v => { m with conf := v } | .changes, m, v => { m with changes := v } | .id, m, v => { m with id := v } | .vec, m, v => { m with vec := v } | .k, m, v => { m with k := v } | .width, m, v => { m with width := v }
  | .filter, m, v => { m with filter := v } | .num, m, v => { m with num := v } | .page, m, v => { m with page := v } | .bytes, m, v => { m with bytes := v } | .version, m, v => { m with version := v } | .names, m, v => { m with names := v }
  | .items, m, v => { m with items := v } | .hits, m, v => { m with hits := v }
theorem Fld.get_set (f : Fld) (m : MsgV) (v : f.T) : f.get (f.set m v) = v := by cases f <;> rfl
theorem Fld.get_other (f g : Fld) (m : MsgV) (v : f.T) (h : f.no ≠ g.no) : g.get (f.set m v) = g.get m := by
  cases f <;> cases g <;> first | rfl | exact absurd rfl h
theorem Fld.set_kind (f : Fld) (m : MsgV) (v : f.T) : (f.set m v).kind = m.kind := by cases f <;> rfl

/-- The fields of a kind, in their order. -/
def formM (kind : Nat) : Option (List Fld) :=
  match kind with
  | 1 => some [.caps]
  | 2 => some [.caps, .token, .n]
  | 3 => some [.token, .n]
  | 4 => some [.n]
  | 5 => some [.code]
  | 6 => some [.code]
  | 7 => some [.n]
  | 8 => some [.n]
  | 9 => some [.n]
  | 10 => some [.n]
  | 11 => some [.req, .conf]
  | 12 => some [.req, .name]
  | 13 => some [.req]
  | 14 => some [.req, .name, .changes]
  | 15 => some [.req, .name, .id]
  | 16 => some [.req, .name, .vec, .k, .width, .filter]
  | 17 => some [.req, .name, .vec, .filter]
  | 18 => some [.req, .num, .page, .k]
  | 19 => some [.req, .num]
  | 20 => some [.req, .name]
  | 21 => some [.req, .num, .page, .bytes]
  | 22 => some [.req, .num]
  | 23 => some [.req, .num]
  | 24 => some [.req, .code, .version, .num, .names, .items, .hits]
  | _ => none
/-- No field stands twice. -/
def Apartly : List Fld → Prop
  | [] => True
  | f :: fs => (∀ g ∈ fs, f.no ≠ g.no) ∧ Apartly fs
theorem form_apart (kind : Nat) (fs : List Fld) (h : formM kind = some fs) : Apartly fs := by
  unfold formM at h
  split at h <;> first | (cases h; simp [Apartly, Fld.no]) | cases h

def encF (fs : List Fld) (x : MsgV) : List Nat := (fs.map fun f => f.cod.enc (f.get x)).flatten
def fitF (fs : List Fld) (x : MsgV) : Prop := ∀ f ∈ fs, f.cod.fits (f.get x)
def setF : List Fld → MsgV → MsgV → MsgV
  | [], m, _ => m
  | f :: fs, m, x => setF fs (f.set m (f.get x)) x
def decF : List Fld → MsgV → List Nat → (MsgV × List Nat) ⊕ Nat
  | [], m, l => .inl (m, l)
  | f :: fs, m, l => match f.cod.dec l with
    | .inr e => .inr e
    | .inl (v, r) => decF fs (f.set m v) r

theorem setF_kind (fs : List Fld) (m x : MsgV) : (setF fs m x).kind = m.kind := by
  induction fs generalizing m with
  | nil => rfl
  | cons f fs ih => rw [setF, ih, Fld.set_kind]
theorem backF (fs : List Fld) (m x : MsgV) (r : List Nat) (h : fitF fs x) : decF fs m (encF fs x ++ r) = .inl (setF fs m x, r) := by
  induction fs generalizing m with
  | nil => simp [decF, encF, setF]
  | cons f fs ih =>
    have e : encF (f :: fs) x ++ r = f.cod.enc (f.get x) ++ (encF fs x ++ r) := by simp [encF]
    rw [e, decF, f.cod.back _ _ (h f (by simp))]
    simp only
    rw [ih _ (fun g hg => h g (by simp [hg]))]
    rfl
theorem decF_other (fs : List Fld) (m m' : MsgV) (l r : List Nat) (h : decF fs m l = .inl (m', r)) (g : Fld) (hg : ∀ f ∈ fs, f.no ≠ g.no) : g.get m' = g.get m := by
  induction fs generalizing m l with
  | nil =>
    simp only [decF, Sum.inl.injEq, Prod.mk.injEq] at h
    rw [h.1]
  | cons f fs ih =>
    simp only [decF] at h
    cases hd : f.cod.dec l with
    | inr e => rw [hd] at h; cases h
    | inl x =>
      obtain ⟨v, r'⟩ := x
      rw [hd] at h
      rw [ih _ _ h (fun f' hf' => hg f' (by simp [hf'])), Fld.get_other f g m v (hg f (by simp))]
theorem onlyF (fs : List Fld) (m m' : MsgV) (l r : List Nat) (ha : Apartly fs) (hl : ∀ b ∈ l, b < 256) (h : decF fs m l = .inl (m', r)) : fitF fs m' ∧ l = encF fs m' ++ r ∧ m' = setF fs m m' := by
  induction fs generalizing m l with
  | nil =>
    simp only [decF, Sum.inl.injEq, Prod.mk.injEq] at h
    obtain ⟨rfl, rfl⟩ := h
    exact ⟨fun _ hf => by simp at hf, by simp [encF], rfl⟩
  | cons f fs ih =>
    simp only [decF] at h
    cases hd : f.cod.dec l with
    | inr e => rw [hd] at h; cases h
    | inl x =>
      obtain ⟨v, r'⟩ := x
      rw [hd] at h
      simp only at h
      obtain ⟨h1, h2⟩ := f.cod.only l v r' hl hd
      obtain ⟨h3, h4, h5⟩ := ih (f.set m v) r' ha.2 (fun b hb => hl b (by rw [h2]; simp [hb])) h
      have hv : f.get m' = v := by
        rw [decF_other fs _ _ _ _ h f (fun g hg => (ha.1 g hg).symm), Fld.get_set]
      refine ⟨fun g hg => ?_, ?_, ?_⟩
      · rcases List.mem_cons.1 hg with rfl | hg
        · rw [hv]; exact h1
        · exact h3 g hg
      · rw [h2]
        have e : encF (f :: fs) m' = f.cod.enc (f.get m') ++ encF fs m' := by simp [encF]
        rw [e, hv, List.append_assoc, ← h4]
      · rw [setF, hv]
        exact h5
theorem cutF (fs : List Fld) (m x : MsgV) (k : Nat) (h : fitF fs x) (hk : k < (encF fs x).length) : decF fs m ((encF fs x).take k) = .inr 40 := by
  induction fs generalizing m k with
  | nil => simp [encF] at hk
  | cons f fs ih =>
    have e : encF (f :: fs) x = f.cod.enc (f.get x) ++ encF fs x := by simp [encF]
    rw [e] at hk ⊢
    rw [decF]
    by_cases hka : k < (f.cod.enc (f.get x)).length
    · rw [List.take_append_of_le_length (by omega), f.cod.cut _ k (h f (by simp)) hka]
    · have e2 : (f.cod.enc (f.get x) ++ encF fs x).take k = f.cod.enc (f.get x) ++ (encF fs x).take (k - (f.cod.enc (f.get x)).length) := by
        rw [List.take_append, List.take_of_length_le (by omega)]
      rw [e2, f.cod.back _ _ (h f (by simp))]
      simp only
      exact ih _ _ (fun g hg => h g (by simp [hg])) (by rw [List.length_append] at hk; omega)

/-- What bytes are read as, as a message of a kind. -/
def readM (kind : Nat) (l : List Nat) : MsgV ⊕ Nat :=
  match formM kind with
  | none => .inr 61
  | some fs => match decF fs (zeroM kind) l with
    | .inr e => .inr e
    | .inl (m, r) => if r = [] then .inl m else .inr 60
/-- A message can be written, and its bytes. -/
def fitM (x : MsgV) : Prop := ∃ fs, formM x.kind = some fs ∧ x = setF fs (zeroM x.kind) x ∧ fitF fs x
def bytesM (x : MsgV) : List Nat := encF ((formM x.kind).getD []) x

theorem readM_back (x : MsgV) (h : fitM x) : readM x.kind (bytesM x) = .inl x := by
  obtain ⟨fs, h1, h2, h3⟩ := h
  have hb := backF fs (zeroM x.kind) x [] h3
  rw [List.append_nil, ← h2] at hb
  simp only [readM, bytesM, h1, Option.getD_some, hb, if_true]
theorem readM_more (x : MsgV) (h : fitM x) (r : List Nat) (hr : r ≠ []) : readM x.kind (bytesM x ++ r) = .inr 60 := by
  obtain ⟨fs, h1, h2, h3⟩ := h
  have hb := backF fs (zeroM x.kind) x r h3
  simp only [readM, bytesM, h1, Option.getD_some, hb, if_neg hr]
theorem readM_cut (x : MsgV) (h : fitM x) (k : Nat) (hk : k < (bytesM x).length) : readM x.kind ((bytesM x).take k) = .inr 40 := by
  obtain ⟨fs, h1, h2, h3⟩ := h
  simp only [bytesM, h1, Option.getD_some] at hk ⊢
  simp only [readM, h1, cutF fs (zeroM x.kind) x k h3 hk]
theorem readM_only (kind : Nat) (l : List Nat) (x : MsgV) (hl : ∀ b ∈ l, b < 256) (h : readM kind l = .inl x) : x.kind = kind ∧ fitM x ∧ bytesM x = l := by
  unfold readM at h
  cases hf : formM kind with
  | none => rw [hf] at h; cases h
  | some fs =>
    rw [hf] at h
    simp only at h
    cases hd : decF fs (zeroM kind) l with
    | inr e => rw [hd] at h; cases h
    | inl y =>
      obtain ⟨m, r⟩ := y
      rw [hd] at h
      simp only at h
      by_cases hr : r = []
      · rw [if_pos hr] at h
        simp only [Sum.inl.injEq] at h
        subst h
        subst hr
        obtain ⟨h1, h2, h3⟩ := onlyF fs _ _ _ _ (form_apart kind fs hf) hl hd
        have hk : m.kind = kind := by
          have := congrArg MsgV.kind h3
          rw [setF_kind] at this
          exact this
        refine ⟨hk, ⟨fs, by rw [hk]; exact hf, by rw [hk]; exact h3, h1⟩, ?_⟩
        simp only [bytesM, hk, hf, Option.getD_some]
        rw [h2, List.append_nil]
      · rw [if_neg hr] at h
        cases h
end Go.Proofs.Ytdocoioenkajeaa
