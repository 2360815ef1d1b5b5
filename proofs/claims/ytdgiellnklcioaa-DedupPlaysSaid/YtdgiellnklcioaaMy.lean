/-
  The document's Great of messages: it tells some Bool and changes nothing. By a walk over its text.
-/
import Derived.Test.YtdgiellnklcioaaSv
import Derived.Test.YtdgiellnklcioaaSo
import Derived.Test.YtdgiellnklcioaaMk
import Derived.BigGuardPart
import Derived.BigCall
import Derived.Deep.DeepMust
import Derived.Deep.DeepCutAuto
namespace Go.Proofs.Ytdgiellnklcioaa
open Go.RowKit

theorem rd_item_lens {ok : Nat → Prop} {w : World} {a : Option Addr} {n c : Nat} {xs : List shItem.T} (h : Rd ok w shItems [.slice a n c] xs) (i : Nat) (hi : i < n) :
    ∃ (b off : Nat) (a1 : Option Addr) (n1 k1 : Nat) (a2 : Option Addr) (n2 k2 : Nat) (tags : List ByteArray), a = some ⟨b, off, none⟩ ∧ b < w.heap.size ∧ n1 ≤ 140737488351232 ∧ Hid (Rd ok w shTags [.slice a2 n2 k2] tags) ∧ w.cell? ⟨b, off + i * 3 + 1, none⟩ = some (.slice a1 n1 k1) ∧ w.cell? ⟨b, off + i * 3 + 2, none⟩ = some (.slice a2 n2 k2) := by
  obtain ⟨b, off, x, c0, c1, c2, ha, hlt, _, hy, _, h1, h2⟩ := rd_item_in h i hi
  obtain ⟨id, vec, tags, a1, n1, k1, a2, n2, k2, _, hcs, _, _, rt, _, _, l1, _⟩ := rd_item hy.out
  simp only [List.cons.injEq, and_true] at hcs
  obtain ⟨rfl, rfl, rfl⟩ := hcs
  exact ⟨b, off, a1, n1, k1, a2, n2, k2, tags, ha, hlt, l1, rt, h1, h2⟩
theorem sl_len {ok : Nat → Prop} {w : World} {e : Sh} {sz : Nat} {s : SlL} {xs : List e.T} (h : Rd ok w (.slice e sz) [.slice s.a s.n s.c] xs) : s.n ≤ 140737488351232 := by
  obtain ⟨_, _, _, hcs, _, h1, _⟩ := Rd.slice_is h
  simp only [List.cons.injEq, Value.slice.injEq, and_true] at hcs
  rw [hcs.2.1]
  exact h1

set_option maxRecDepth 100000 in
set_option maxHeartbeats 12800000 in
theorem great_msg {ok : Nat → Prop} (m : MsgL) (w : World) (h : m.In ok w) :
    Calls Try.prog 9 #[.agg m.cells.toArray] w fun e w' => SomeG e ∧ Below w.heap.size w w' := by
  have HM := Lib.hid h
  have z1 := h.hname
  have z2 := h.hcname
  have z3 := sl_len (e := .int .u8) h.hbytes
  have z4 := sl_len (e := .int .i32) h.hvec
  have z5 := sl_len (e := shHit) h.hhits
  have z6 := sl_len (e := shChange) h.hchanges
  have z7 := sl_len (e := shItem) h.hitems
  clear h
  obtain ⟨M, hM⟩ : ∃ M, m.cells.toArray = M := ⟨_, rfl⟩
  rw [hM]
  obtain ⟨w1, hw1⟩ : ∃ w1, w.alloc (.cells M 45) = w1 := ⟨_, rfl⟩
  have X1 := Lib.hid (show Blk w1 w.heap.size 45 m.cells from by rw [← hw1, ← hM]; exact Blk.new w 45 m.cells.toArray)
  have B1 := Lib.hid (show Below w.heap.size w w1 from by rw [← hw1]; exact (Below.refl _ _).alloc (Nat.le_refl _) _)
  have HM1 := Lib.hid (HM.out.on B1.out)
  have c6 : w1.cell? ⟨w.heap.size, 6, none⟩ = some (.string m.name) := X1.out.cell 6
  have c7 : w1.cell? ⟨w.heap.size, 7, none⟩ = some (.string m.cname) := X1.out.cell 7
  have c23 : w1.cell? ⟨w.heap.size, 23, none⟩ = some (.slice m.pbytes.a m.pbytes.n m.pbytes.c) := X1.out.cell 23
  have c15 : w1.cell? ⟨w.heap.size, 15, none⟩ = some (.slice m.pvec.a m.pvec.n m.pvec.c) := X1.out.cell 15
  have c27 : w1.cell? ⟨w.heap.size, 27, none⟩ = some (.slice m.phits.a m.phits.n m.phits.c) := X1.out.cell 27
  have c13 : w1.cell? ⟨w.heap.size, 13, none⟩ = some (.slice m.pch.a m.pch.n m.pch.c) := X1.out.cell 13
  have c26 : w1.cell? ⟨w.heap.size, 26, none⟩ = some (.slice m.pitems.a m.pitems.n m.pitems.c) := X1.out.cell 26
  have c25 : w1.cell? ⟨w.heap.size, 25, none⟩ = some (.slice m.pnames.a m.pnames.n m.pnames.c) := X1.out.cell 25
  have c18 : w1.cell? ⟨w.heap.size, 18, none⟩ = some (.slice m.pall.a m.pall.n m.pall.c) := X1.out.cell 18
  have c19 : w1.cell? ⟨w.heap.size, 19, none⟩ = some (.slice m.pany.a m.pany.n m.pany.c) := X1.out.cell 19
  have c20 : w1.cell? ⟨w.heap.size, 20, none⟩ = some (.slice m.pno.a m.pno.n m.pno.c) := X1.out.cell 20
  obtain ⟨ia, hia⟩ : ∃ ia, m.pitems.a = ia := ⟨_, rfl⟩
  have HMI := Lib.hid (show Rd ok w1 shItems [.slice ia m.pitems.n m.pitems.c] m.items from by rw [← hia]; exact HM1.out.hitems)
  rw [hia] at c26
  clear hia
  have hl : w.heap.size < w1.heap.size := X1.out.lt
  have HMM := Lib.hid hM
  clear hM
  go_enter Try.func9, Try.ntmps9
  go_upto_region 1 with fail
  try rw [hw1]
  clear hw1
  go_cut [3] (fun s3 wx => ∃ n0 : Int, s3 = .int .i64 n0 ∧ 0 ≤ n0 ∧ n0 ≤ 300000 ∧ wx = w1)
  case first =>
    go_wp2
    all_goals (go_meet; exact ⟨_, rfl, by go_num, by go_num, rfl⟩)
  case rest =>
    obtain ⟨n0, rfl, hn0, hn1, rfl⟩ := hcut
    go_upto_region 2 with fail
    go_cut [66] (fun s66 wx => ∃ g : Bool, s66 = .bool g ∧ wx = wc)
    case first =>
      have hlx := X1.out.lt
      by_cases h1 : (50000 : Int) < n0
      · have dh1 : decide ((50000 : Int) < n0) = true := decide_eq_true h1
        go_wp2
        go_meet
        exact ⟨_, rfl, rfl⟩
      have dh1 : decide ((50000 : Int) < n0) = false := decide_eq_false h1
      by_cases h2 : (400 : Int) < (m.pch.n : Int)
      · have dh2 : decide ((400 : Int) < (m.pch.n : Int)) = true := decide_eq_true h2
        go_wp2
        go_meet
        exact ⟨_, rfl, rfl⟩
      have dh2 : decide ((400 : Int) < (m.pch.n : Int)) = false := decide_eq_false h2
      by_cases h3 : (400 : Int) < (m.pitems.n : Int)
      · have dh3 : decide ((400 : Int) < (m.pitems.n : Int)) = true := decide_eq_true h3
        go_wp2
        go_meet
        exact ⟨_, rfl, rfl⟩
      have dh3 : decide ((400 : Int) < (m.pitems.n : Int)) = false := decide_eq_false h3
      go_wp2_with (fail)
      refine (great03 m.pnames.a m.pnames.n m.pnames.c m.names _ HM1.out.hnames).mono ?_
      rintro e w' ⟨⟨g0, rfl⟩, rfl⟩
      cases g0
      rotate_left
      · go_wp2
        go_meet
        exact ⟨_, rfl, rfl⟩
      go_wp2_with (fail)
      refine (great03 m.pall.a m.pall.n m.pall.c m.all _ HM1.out.hall).mono ?_
      rintro e w' ⟨⟨g1, rfl⟩, rfl⟩
      cases g1
      rotate_left
      · go_wp2
        go_meet
        exact ⟨_, rfl, rfl⟩
      go_wp2_with (fail)
      refine (great03 m.pany.a m.pany.n m.pany.c m.any _ HM1.out.hany).mono ?_
      rintro e w' ⟨⟨g2, rfl⟩, rfl⟩
      cases g2
      rotate_left
      · go_wp2
        go_meet
        exact ⟨_, rfl, rfl⟩
      go_wp2_with (fail)
      refine (great03 m.pno.a m.pno.n m.pno.c m.no _ HM1.out.hno).mono ?_
      rintro e w' ⟨⟨g3, rfl⟩, rfl⟩
      go_wp2
      go_meet
      exact ⟨_, rfl, rfl⟩
    case rest =>
      obtain ⟨g, rfl, rfl⟩ := hcut
      cases g
      · go_wp2_with (fail)
        go_loop [3, 4] (fun s3 s4 => ∃ (i : Nat) (q : Int), s3 = .int .i64 q ∧ s4 = .int .i64 i ∧ i ≤ m.pitems.n ∧ 0 ≤ q ∧ q ≤ 400000) (fun _ s4 => m.pitems.n - (intOf s4).toNat)
        case atStart => exact ⟨0, n0, rfl, rfl, Nat.zero_le _, by omega, by omega⟩
        case round =>
          obtain ⟨i, q, rfl, rfl, hi, h0, h1⟩ := hrel
          by_cases hc : i < m.pitems.n
          · by_cases hm : q < 50000
            · obtain ⟨b, off, a1, n1, k1, a2, n2, k2, tags, rfl, hlt, hn1, HT, hc1, hc2⟩ := rd_item_lens HMI.out i hc
              go_wp2_with (fail)
              all_goals
                refine (great03 a2 n2 k2 tags _ HT.out).mono ?_
                rintro e w' ⟨⟨g, rfl⟩, rfl⟩
                cases g
                · go_wp2
                  go_round
                  case rel => exact ⟨i + 1, _, rfl, by go_num, by omega, by go_num, by go_num⟩
                  case measure => simp [intOf]; omega
                · go_wp2
                  go_ret
                  exact ⟨⟨_, rfl⟩, B1.out⟩
            · have hd : decide ((50000 : Int) ≤ q) = true := decide_eq_true (by omega)
              have hlx := X1.out.lt
              go_wp2_with (go_at_call 21; go_must (refine (greatChanges m.pch.a m.pch.n m.pch.c m.changes _ HM1.out.hchanges).mono ?_; rintro e w' ⟨⟨g, rfl⟩, rfl⟩))
              all_goals
                go_ret
                exact ⟨⟨_, rfl⟩, B1.out⟩
          · go_wp2_with (go_at_call 21; go_must (refine (greatChanges m.pch.a m.pch.n m.pch.c m.changes _ HM1.out.hchanges).mono ?_; rintro e w' ⟨⟨g, rfl⟩, rfl⟩))
            all_goals
              go_ret
              exact ⟨⟨_, rfl⟩, B1.out⟩
      · go_wp2
        go_ret
        exact ⟨⟨_, rfl⟩, B1.out⟩
end Go.Proofs.Ytdgiellnklcioaa
