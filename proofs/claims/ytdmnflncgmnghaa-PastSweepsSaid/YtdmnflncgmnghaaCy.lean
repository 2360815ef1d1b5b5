/-
  Layer 8's statements' own words: what an op is read as; lists of items that are told; a past that knows each version.
-/
import Derived.Test.YtdmnflncgmnghaaCx
import Derived.Test.YtdmnflncgmnghaaCq
import Derived.Test.YtdmnflncgmnghaaJp
import Derived.Test.YtdmnflncgmnghaaJv
import Derived.Test.YtdmnflncgmnghaaPr
import Derived.Test.YtdmnflncgmnghaaSn
namespace Go.Proofs.Ytdmnflncgmnghaa
open Go.RowKit Go.ChangeShapes Go.WideShapes Go.ChangeAt

def shOp : Sh := st [.int .u8, .int .i8, shItem, .slice (.int .u64) 8]
def shOps : Sh := .slice shOp 88
set_option maxRecDepth 100000 in
theorem fit_ops : (shOps.fit Try.prog).1 22 = true := by kernel_rfl
section
variable {H : Type} {enc : TypeId × Value → H} {W : World} {base : Nat} {ts : Array TypeId} {args : Array Value} {ds : List (DataW H)} {p : List MemPlace}
/-- A list of ops that comes in. -/
theorem Given.ops (g : Given enc Try.prog W base ts args ds p) (j : Nat) (ht : ts[j]? = some 22) : ∃ (a : Option Addr) (n c : Nat) (xs : List shOp.T), args[j]? = some (.slice a n c) ∧ Rd (· < W.heap.size) W shOps [.slice a n c] xs := by
  obtain ⟨v, x, e1, hx⟩ := g.sh1 j ht shOps fit_ops (.inl ⟨_, Try.underlying22⟩)
  obtain ⟨a, n, c, hcs, _, _, h⟩ := Rd.slice_is (e := shOp) hx
  simp only [List.cons.injEq, and_true] at hcs
  subst hcs
  exact ⟨a, n, c, x, e1, h.mono fun _ _ hk => hk⟩
end
theorem i8_of {ok : Nat → Prop} {w : World} {cs : List Value} {x : Int} (h : Rd ok w (.int .i8) cs x) : cs = [.int .i8 x] ∧ -128 ≤ x ∧ x ≤ 127 := by
  obtain ⟨h1, hw⟩ := Rd.int_part h
  simp [Lit.wf, IntKind.min, IntKind.max, IntKind.signed, IntKind.bits] at hw
  exact ⟨h1, by omega, by omega⟩
theorem u8_of {ok : Nat → Prop} {w : World} {cs : List Value} {x : Int} (h : Rd ok w (.int .u8) cs x) : ∃ n : Nat, cs = [.int .u8 (n : Int)] ∧ n ≤ 255 := by
  obtain ⟨h1, hw⟩ := Rd.int_part h
  simp [Lit.wf, IntKind.min, IntKind.max, IntKind.signed, IntKind.bits] at hw
  obtain ⟨n, rfl⟩ := Int.eq_ofNat_of_zero_le (a := x) (by omega)
  exact ⟨n, h1, by omega⟩
/-- What is read of an op in a list. -/
theorem rd_op_at {B : Nat} {w : World} {a : Option Addr} {n c : Nat} {xs : List shOp.T} (h : Rd (· < B) w shOps [.slice a n c] xs) (i : Nat) (hi : i < n) :
    ∃ (b off : Nat) (k : Nat) (ah : Int) (x : ItL) (ka : Option Addr) (kn kc : Nat) (keep : List Int), a = some ⟨b, off, none⟩ ∧ b < B ∧ b < w.heap.size ∧ k ≤ 255 ∧ -128 ≤ ah ∧ ah ≤ 127 ∧ Hid (x.In (· < B) w) ∧ Hid (Rd (· < B) w (.slice (.int .u64) 8) [.slice ka kn kc] keep) ∧
      w.cell? ⟨b, off + i * 6, none⟩ = some (.int .u8 (k : Int)) ∧ w.cell? ⟨b, off + i * 6 + 1, none⟩ = some (.int .i8 ah) ∧ w.cell? ⟨b, off + i * 6 + 2, none⟩ = some (.int .u32 (x.id : Int)) ∧ w.cell? ⟨b, off + i * 6 + 3, none⟩ = some (.slice x.pv.1 x.pv.2.1 x.pv.2.2) ∧ w.cell? ⟨b, off + i * 6 + 4, none⟩ = some (.slice x.pt.1 x.pt.2.1 x.pt.2.2) ∧ w.cell? ⟨b, off + i * 6 + 5, none⟩ = some (.slice ka kn kc) := by
  obtain ⟨b, off, x, vs, ha, hok, hlt, hx, hl, hc, hr⟩ := Rd.elem (e := shOp) h i hi
  obtain ⟨k, ah, it, keep, u⟩ := x
  obtain ⟨c1, c2, rfl, h1, h2⟩ := Rd.pair_is hr
  obtain ⟨c3, c4, rfl, h3, h4⟩ := Rd.pair_is h2
  obtain ⟨c5, c6, rfl, h5, h6⟩ := Rd.pair_is h4
  obtain ⟨c7, c8, rfl, h7, h8⟩ := Rd.pair_is h6
  obtain ⟨kk, rfl, hk⟩ := u8_of (x := k) h1
  obtain ⟨rfl, hb1, hb2⟩ := i8_of (x := ah) h3
  obtain ⟨id, vec, tags, a1, n1, k1, a2, n2, k2, rfl, rfl, hid, r1, r2, _, _, _, _⟩ := rd_item h5
  obtain ⟨ka, kn, kc, rfl, _, _, r3⟩ := Rd.slice_is (e := .int .u64) (xs := keep) h7
  obtain rfl := Rd.unit_is h8
  exact ⟨b, off, kk, ah, ⟨id, (a1, n1, k1), (a2, n2, k2), vec, tags⟩, ka, kn, kc, keep, ha, hok, hlt, hk, hb1, hb2, ⟨by show id < 4294967296; omega, r1, r2⟩, r3, hc 0 (by decide), hc 1 (by decide), hc 2 (by decide), hc 3 (by decide), hc 4 (by decide), hc 5 (by decide)⟩
/-- .. in whatever world that keeps what lay below. -/
theorem rd_op_in {w : World} {a : Option Addr} {n c : Nat} {xs : List shOp.T} (h : Rd (· < w.heap.size) w shOps [.slice a n c] xs) (i : Nat) (hi : i < n) :
    ∃ (b off : Nat) (k : Nat) (ah : Int) (x : ItL), a = some ⟨b, off, none⟩ ∧ b < w.heap.size ∧ k ≤ 255 ∧ -128 ≤ ah ∧ ah ≤ 127 ∧ Hid (∀ wr, Below w.heap.size w wr → b < wr.heap.size ∧ x.In (· < w.heap.size) wr ∧
      wr.cell? ⟨b, off + i * 6, none⟩ = some (.int .u8 (k : Int)) ∧ wr.cell? ⟨b, off + i * 6 + 1, none⟩ = some (.int .i8 ah) ∧ wr.cell? ⟨b, off + i * 6 + 2, none⟩ = some (.int .u32 (x.id : Int)) ∧ wr.cell? ⟨b, off + i * 6 + 3, none⟩ = some (.slice x.pv.1 x.pv.2.1 x.pv.2.2) ∧ wr.cell? ⟨b, off + i * 6 + 4, none⟩ = some (.slice x.pt.1 x.pt.2.1 x.pt.2.2)) := by
  obtain ⟨b, off, k, ah, x, ka, kn, kc, keep, ha, hb, _, hk, h1, h2, hx, _, c0, c1, c2, c3, c4, _⟩ := rd_op_at h i hi
  refine ⟨b, off, k, ah, x, ha, hb, hk, h1, h2, fun wr hw => ⟨Nat.lt_of_lt_of_le hb hw.size, hx.out.under hw, ?_, ?_, ?_, ?_, ?_⟩⟩
  · exact (hw.cell (p := ⟨b, _, none⟩) hb).trans c0
  · exact (hw.cell (p := ⟨b, _, none⟩) hb).trans c1
  · exact (hw.cell (p := ⟨b, _, none⟩) hb).trans c2
  · exact (hw.cell (p := ⟨b, _, none⟩) hb).trans c3
  · exact (hw.cell (p := ⟨b, _, none⟩) hb).trans c4
end Go.Proofs.Ytdmnflncgmnghaa
