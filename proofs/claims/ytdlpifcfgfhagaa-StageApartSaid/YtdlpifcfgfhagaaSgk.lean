/-
  StageApart holds: nobody but its owner brings anything to an upload, or ends it.
-/
import Derived.Test.YtdlpifcfgfhagaaRows
import Derived.Test.YtdlpifcfgfhagaaSgh
namespace Go.Proofs.Ytdlpifcfgfhagaa
open Go.ChangeShapes Go.WideShapes Go.ChangeAt Go.RowKit

def oneT (owner : Nat) (b : List Nat) (page : Nat) : TabV := ⟨[⟨1, owner, ⟨#[97]⟩, b, page⟩], 1⟩
theorem oneT_own (owner o n : Nat) (b : List Nat) (page : Nat) : (oneT owner b page).own o n = if 1 = n ∧ owner = o then some ⟨1, owner, ⟨#[97]⟩, b, page⟩ else none := by
  show List.find? (fun u : UpV => u.is o n) [⟨1, owner, ⟨#[97]⟩, b, page⟩] = _
  unfold List.find?
  by_cases h : 1 = n ∧ owner = o
  · rw [if_pos h, show UpV.is ⟨1, owner, ⟨#[97]⟩, b, page⟩ o n = true from decide_eq_true h]
  · rw [if_neg h, show UpV.is ⟨1, owner, ⟨#[97]⟩, b, page⟩ o n = false from decide_eq_false h]
    rfl
theorem oneT_no {owner o n : Nat} {b : List Nat} {page : Nat} (h : ¬ (1 = n ∧ owner = o)) (pg : Nat) (xs : List Nat) : (oneT owner b page).own o n = none ∧ (oneT owner b page).chunkE o n pg xs = 130 ∧ (oneT owner b page).chunk o n pg xs = oneT owner b page ∧ (oneT owner b page).abortE o n = 130 ∧ (oneT owner b page).abort o n = oneT owner b page := by
  have h1 : (oneT owner b page).own o n = none := by rw [oneT_own, if_neg h]
  have h2 : (oneT owner b page).chunkE o n pg xs = 130 := by unfold TabV.chunkE; rw [h1]
  refine ⟨h1, h2, ?_, ?_, ?_⟩
  · unfold TabV.chunk
    rw [h2]
    rfl
  · unfold TabV.abortE
    rw [h1]
  · unfold TabV.abort
    rw [h1]
theorem oneT_first (owner : Nat) : (oneT owner [] 0).chunkE owner 1 1 [0] = 0 ∧ (oneT owner [] 0).chunk owner 1 1 [0] = oneT owner [0] 1 := by
  have h1 : (oneT owner [] 0).own owner 1 = some ⟨1, owner, ⟨#[97]⟩, [], 0⟩ := by rw [oneT_own, if_pos ⟨rfl, rfl⟩]
  have h2 : (oneT owner [] 0).chunkE owner 1 1 [0] = 0 := by
    unfold TabV.chunkE
    rw [h1]
    rfl
  refine ⟨h2, ?_⟩
  unfold TabV.chunk
  rw [if_pos h2]
  rfl
theorem oneT_leave {owner o : Nat} {b : List Nat} {page : Nat} (h : owner ≠ o) : (oneT owner b page).leave o = oneT owner b page := by
  unfold TabV.leave oneT
  simp [h]
theorem oneT_gone (owner : Nat) (b : List Nat) (page : Nat) : (oneT owner b page).leave owner = ⟨[], 1⟩ := by
  unfold TabV.leave oneT
  simp
theorem args5t {args : Array Value} {a b c d e : Value} (h : args.size = 5) (h0 : args[0]? = some a) (h1 : args[1]? = some b) (h2 : args[2]? = some c) (h3 : args[3]? = some d) (h4 : args[4]? = some e) : args = #[a, b, c, d, e] := by
  apply Array.ext (by simpa using h)
  intro i g1 g2
  have : i = 0 ∨ i = 1 ∨ i = 2 ∨ i = 3 ∨ i = 4 := by simp at g2; omega
  rcases this with rfl | rfl | rfl | rfl | rfl
  · simpa using (Array.getElem?_eq_some_iff.1 h0).2
  · simpa using (Array.getElem?_eq_some_iff.1 h1).2
  · simpa using (Array.getElem?_eq_some_iff.1 h2).2
  · simpa using (Array.getElem?_eq_some_iff.1 h3).2
  · simpa using (Array.getElem?_eq_some_iff.1 h4).2
set_option maxRecDepth 100000 in
set_option maxHeartbeats 12800000 in
theorem apart_walk (owner other n page : Nat) (a : Option Addr) (bn bc : Nat) (bs : List Nat) (w : World) (ho : owner < 18446744073709551616) (_hp : other < 18446744073709551616) (hn : n < 4294967296) (hx : BReads w a bn bc bs) :
    Calls Try.prog 6 #[.int .u64 (owner : Int), .int .u64 (other : Int), .int .u32 (n : Int), .int .u32 (page : Int), .slice a bn bc] w fun e w' => e = .returned (.bool true) ∧ Below w.heap.size w w' := by
  have HX := Lib.hid hx
  clear hx
  go_enter Try.func6, Try.ntmps6
  go_wp2_with (fail)
  refine (alive13 w).mono ?_
  rintro e w1 ⟨rfl, hb1⟩
  by_cases hoo : owner = other
  · subst hoo
    have B1 := Lib.hid hb1
    go_wp2
    go_ret
    exact ⟨rfl, B1.out⟩
  have hob : ((owner : Int) == (other : Int)) = false := by rw [beq_eq_false_iff_ne]; omega
  by_cases hl : 4000 < bn
  · have hlb : (4000 : Int) < (bn : Int) := by omega
    have B1 := Lib.hid hb1
    go_wp2
    go_ret
    exact ⟨rfl, B1.out⟩
  have hlb : ¬ (4000 : Int) < (bn : Int) := by omega
  go_wp2_with (fail)
  refine (s_new w w1 hb1).mono ?_
  rintro e w2 ⟨x, rfl, h2⟩
  have H2 := Lib.hid h2
  clear hb1 h2
  go_wp2_with (fail)
  refine (s_begin H2.out (by decide) owner ho ⟨#[97]⟩).mono ?_
  rintro e w3 (⟨hl, -, -⟩ | ⟨-, rfl, h3⟩)
  · exact absurd hl (by decide)
  have H3 := Lib.hid (show SAt w 1 x (oneT owner [] 0) w3 from h3)
  clear h3 H2
  rw [show (({ ups := [], last := 0 } : TabV).last + 1) = 1 from rfl]
  go_wp2_with (fail)
  have Z3 := Lib.hid (zero_byte w3)
  have A3 := Lib.hid (H3.out.on ((Below.refl _ w3).alloc (Nat.le_refl _) (.cells #[.int .u8 0] 5)))
  refine (s_chunk A3.out (by decide) owner 1 1 (by decide) Z3.out).mono ?_
  rw [(oneT_first owner).1, (oneT_first owner).2]
  rintro e w4 ⟨rfl, h4⟩
  have H4 := Lib.hid h4
  clear h4 Z3 A3 H3
  have hno : ¬ (1 = 1 ∧ owner = other) := fun h => hoo h.2
  have NO := Lib.hid (fun (pg : Nat) (xs : List Nat) => oneT_no (b := [0]) (page := 1) hno pg xs)
  clear hno
  go_wp2_with (fail)
  refine (s_commit H4.out other 1 (by decide)).mono ?_
  rintro e w5 (⟨-, rfl, h5⟩ | ⟨u, ho, -, -⟩)
  rotate_left
  · exact absurd ho (by rw [(NO.out 0 []).1]; simp)
  have H5 := Lib.hid h5
  clear h5 H4
  go_wp2_with (fail)
  refine (s_chunk H5.out (by decide) other 1 page (by decide) (HX.out.on H5.out.below)).mono ?_
  rw [(NO.out page bs).2.1, (NO.out page bs).2.2.1]
  rintro e w6 ⟨rfl, h6⟩
  have H6 := Lib.hid h6
  clear h6 H5
  go_wp2_with (fail)
  refine (s_abort H6.out other 1 (by decide)).mono ?_
  rw [(NO.out page bs).2.2.2.1, (NO.out page bs).2.2.2.2]
  rintro e w7 ⟨rfl, h7⟩
  have H7 := Lib.hid h7
  clear h7 H6
  go_wp2_with (fail)
  refine (s_leave H7.out other).mono ?_
  rw [oneT_leave hoo]
  rintro e w8 ⟨rfl, h8⟩
  have H8 := Lib.hid h8
  clear h8 H7 NO
  rw [show (oneT owner [0] 1).ups.length - (oneT owner [0] 1).ups.length = 0 from rfl]
  have REST : ∀ w9, SAt w 3 x (oneT owner [0] 1) w9 → SAt w 3 x (oneT owner [0] 1) w9 := fun _ h => h
  clear REST
  by_cases hn1 : n = 1
  · subst hn1
    go_wp2_with (fail)
    refine (s_len H8.out).mono ?_
    rw [show (oneT owner [0] 1).ups.length = 1 from rfl]
    rintro e w11 ⟨rfl, rfl⟩
    go_wp2_with (fail)
    refine (s_bytes H8.out).mono ?_
    rw [show (oneT owner [0] 1).bytes = 1 from rfl]
    rintro e w12 ⟨rfl, h9, -⟩
    have H9 := Lib.hid h9
    clear h9
    go_wp2_with (fail)
    refine (s_leave H9.out owner).mono ?_
    rw [oneT_gone, show (oneT owner [0] 1).ups.length - (({ ups := [], last := 1 } : TabV).ups).length = 1 from rfl]
    rintro e w13 ⟨rfl, h9⟩
    have H10 := Lib.hid h9
    clear h9
    go_wp2_with (fail)
    refine (s_len H10.out).mono ?_
    rw [show (({ ups := [], last := 1 } : TabV).ups).length = 0 from rfl]
    rintro e w14 ⟨rfl, rfl⟩
    have BF := Lib.hid H10.out.below
    go_wp2
    go_ret
    exact ⟨rfl, BF.out⟩
  · have hnb : ¬ (n : Int) = 1 := by omega
    have hno : ¬ (1 = n ∧ owner = owner) := fun h => hn1 h.1.symm
    have NO := Lib.hid (fun (pg : Nat) (xs : List Nat) => oneT_no (b := [0]) (page := 1) hno pg xs)
    clear hno
    go_wp2_with (fail)
    refine (s_chunk H8.out (by decide) owner n 1 hn (HX.out.on H8.out.below)).mono ?_
    rw [(NO.out 1 bs).2.1, (NO.out 1 bs).2.2.1]
    rintro e w9 ⟨rfl, h9⟩
    have H8 := Lib.hid h9
    clear h9
    go_wp2_with (fail)
    refine (s_abort H8.out owner n hn).mono ?_
    rw [(NO.out 1 bs).2.2.2.1, (NO.out 1 bs).2.2.2.2]
    rintro e w10 ⟨rfl, h9⟩
    have H8 := Lib.hid h9
    clear h9 NO
    go_wp2_with (fail)
    refine (s_len H8.out).mono ?_
    rw [show (oneT owner [0] 1).ups.length = 1 from rfl]
    rintro e w11 ⟨rfl, rfl⟩
    go_wp2_with (fail)
    refine (s_bytes H8.out).mono ?_
    rw [show (oneT owner [0] 1).bytes = 1 from rfl]
    rintro e w12 ⟨rfl, h9, -⟩
    have H9 := Lib.hid h9
    clear h9
    go_wp2_with (fail)
    refine (s_leave H9.out owner).mono ?_
    rw [oneT_gone, show (oneT owner [0] 1).ups.length - (({ ups := [], last := 1 } : TabV).ups).length = 1 from rfl]
    rintro e w13 ⟨rfl, h9⟩
    have H10 := Lib.hid h9
    clear h9
    go_wp2_with (fail)
    refine (s_len H10.out).mono ?_
    rw [show (({ ups := [], last := 1 } : TabV).ups).length = 0 from rfl]
    rintro e w14 ⟨rfl, rfl⟩
    have BF := Lib.hid H10.out.below
    go_wp2
    go_ret
    exact ⟨rfl, BF.out⟩

theorem apart_row : Rows.StageApartSaid :=
  OpenClaim.holds_of_wide 6 Try.f6 rfl rfl rfl rfl rfl rfl rfl ⟨rfl, rfl, rfl, rfl, rfl⟩ rfl rfl rfl rfl rfl (by kernel_rfl) Try.func6 (by kernel_rfl)
    (of_decide_eq_true (by kernel_rfl)) (by unfold Func.isWrapper; rw [if_neg (of_decide_eq_false (by kernel_rfl))]; exact ⟨rfl, rfl⟩)
    (fun os started H enc _ => lift (C := Try.checked) (s := Rows.stageApartSpec) (conds := Rows.stageApartRow.domain) os started H enc prog_own (by kernel_rfl) Try.func6 prog_laid rfl Try.underlying4 rfl
      (fun ds hl => by
        have hl : ds.length = 5 := hl
        match ds, hl with
        | [_, _, _, _, _], _ => rfl)
      (of_decide_eq_true (by kernel_rfl))
      (ChangeSpec.witness6 (enc := enc) (C := Try.checked) false ⟨#[], #[.int .u64 0, .int .u64 0, .int .u32 0, .int .u32 0, .slice none 0 0], []⟩ 8 (by kernel_rfl) (by kernel_rfl) (by kernel_rfl) (by kernel_rfl))
      (fun W base args ds p g => by
        rw [Try.params6] at g
        obtain ⟨ow, e0, h0⟩ := g.u64 0 rfl Try.underlying34
        obtain ⟨ot, e1, h1⟩ := g.u64 1 rfl Try.underlying34
        obtain ⟨n, e2, h2⟩ := g.u32 2 rfl Try.underlying28
        obtain ⟨pg, e3, h3⟩ := g.u32 3 rfl Try.underlying28
        obtain ⟨a, bn, bc, bs, e4, hb, -⟩ := g.bytes 4 rfl Try.underlying31 Try.underlying5 (by kernel_rfl) (by kernel_rfl)
        rw [args5t g.count e0 e1 e2 e3 e4]
        exact apart_walk ow ot n pg a bn bc bs W h0 h1 h2 hb))
end Go.Proofs.Ytdlpifcfgfhagaa
