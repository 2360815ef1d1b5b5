/-
  The document's Same of messages, by a walk over its text.
-/
import Derived.Test.YtdgiellnklcioaaSo
import Derived.Test.YtdgiellnklcioaaMk
import Derived.Deep.DeepCutAuto
import Derived.BigGuardPart
import Derived.BigCall
import Derived.Test.YtdgiellnklcioaaSu
namespace Go.Proofs.Ytdgiellnklcioaa
open Go.RowKit

theorem run_eql_conf (a0 b0 : ByteArray) (a1 b1 a2 b2 a4 b4 a5 b5 : Int) (a3 b3 : Bool) (w : World) (z : Bool) (hz : ((a0.toList == b0.toList) && ((a1 == b1) && ((a2 == b2) && ((a3 == b3) && ((a4 == b4) && (a5 == b5)))))) = z) :
    (binOp .eql 35 (.agg #[.string a0, .int .u8 a1, .int .u8 a2, .bool a3, .int .u8 a4, .int .u16 a5]) (.agg #[.string b0, .int .u8 b1, .int .u8 b2, .bool b3, .int .u8 b4, .int .u16 b5])).run Try.prog w = .ok (.bool z) w := by
  subst hz
  simp [go_sem]
  by_cases h0 : a0.toList = b0.toList
  · by_cases h1 : a1 = b1
    · by_cases h2 : a2 = b2
      · by_cases h3 : a3 = b3
        · by_cases h4 : a4 = b4
          · by_cases h5 : a5 = b5 <;> simp [h0, h1, h2, h3, h4, h5]
          · simp [h0, h1, h2, h3, h4]
        · simp [h0, h1, h2, h3]
      · simp [h0, h1, h2]
    · simp [h0, h1]
  · simp [h0]
def One (m p : MsgL) : Prop := m.kind = p.kind ∧ m.req = p.req ∧ m.caps = p.caps ∧ m.token = p.token ∧ m.code = p.code ∧ m.n = p.n ∧ m.name = p.name ∧ (m.cname = p.cname ∧ m.dim = p.dim ∧ m.metric = p.metric ∧ m.graph = p.graph ∧ m.links = p.links ∧ m.cwidth = p.cwidth) ∧ m.changes.map toChange = p.changes.map toChange ∧ m.id = p.id ∧ m.vec = p.vec
def Two (m p : MsgL) : Prop := m.k = p.k ∧ m.width = p.width ∧ m.all = p.all ∧ m.any = p.any ∧ m.no = p.no ∧ m.num = p.num ∧ m.page = p.page ∧ m.bytes = p.bytes
def Three (m p : MsgL) : Prop := m.version = p.version ∧ m.names = p.names ∧ m.items.map toItem = p.items.map toItem ∧ m.hits = p.hits
theorem toHit_inj {w : World} {ok ok' : Nat → Prop} {s s' : SlL} {xs ys : List shHit.T} (h : Rd ok w shHits [.slice s.a s.n s.c] xs) (h' : Rd ok' w shHits [.slice s'.a s'.n s'.c] ys) (e : xs.map toHit = ys.map toHit) : xs = ys := by
  have each : ∀ {ok : Nat → Prop} {s : SlL} {xs : List shHit.T}, Rd ok w shHits [.slice s.a s.n s.c] xs → ∀ (i : Nat) (x : shHit.T), xs[i]? = some x → ∃ (d : Int) (id : Nat), x = (d, (id : Int), ()) := by
    intro ok s xs h i x hx
    obtain ⟨_, _, _, hcs, hl, _⟩ := Rd.slice_is (e := shHit) h
    simp only [List.cons.injEq, Value.slice.injEq, and_true] at hcs
    obtain ⟨h1, h2, h3⟩ := hcs
    have hl' : xs.length = s.n := by rw [h2]; exact hl.out
    have hi : i < s.n := by rw [← hl']; exact (List.getElem?_eq_some_iff.1 hx).1
    obtain ⟨_, _, y, d, id, _, _, hy, hye, _⟩ := rd_hit_in h i hi
    rw [hx] at hy
    exact ⟨d, id, by rw [Option.some.inj hy]; exact hye⟩
  apply List.ext_getElem?
  intro i
  have hi := congrArg (fun l => l[i]?) e
  simp only [List.getElem?_map] at hi
  cases hx : xs[i]? with
  | none =>
    rw [hx] at hi
    cases hy : ys[i]? with
    | none => rfl
    | some y => rw [hy] at hi; cases hi
  | some x =>
    rw [hx] at hi
    cases hy : ys[i]? with
    | none => rw [hy] at hi; cases hi
    | some y =>
      rw [hy] at hi
      obtain ⟨d, id, rfl⟩ := each h i x hx
      obtain ⟨d', id', rfl⟩ := each h' i y hy
      have := Option.some.inj hi
      have h1 : d = d' := congrArg HitV.dist this
      have h2 : (Int.toNat (id : Int)) = (Int.toNat (id' : Int)) := congrArg HitV.id this
      simp only [Int.toNat_natCast] at h2
      rw [h1, h2]
theorem bytes_inj {w : World} {ok ok' : Nat → Prop} {s s' : SlL} {xs ys : List Int} (h : Rd ok w shBytes [.slice s.a s.n s.c] xs) (h' : Rd ok' w shBytes [.slice s'.a s'.n s'.c] ys) (e : xs.map Int.toNat = ys.map Int.toNat) : xs = ys := by
  rw [← (Rd.bytes h).2, ← (Rd.bytes h').2, e]
theorem toM_eq {w : World} {ok ok' : Nat → Prop} {m p : MsgL} (h : m.In ok w) (h' : p.In ok' w) : m.toM = p.toM ↔ One m p ∧ Two m p ∧ Three m p := by
  unfold MsgL.toM One Two Three
  rw [MsgV.mk.injEq, ConfV.mk.injEq, FilterV.mk.injEq]
  constructor
  · rintro ⟨h1, h2, h3, h4, h5, h6, h7, ⟨h8, h9, h10, h11, h12, h13⟩, h14, h15, h16, h17, h18, ⟨h19, h20, h21⟩, h22, h23, h24, h25, h26, h27, h28⟩
    exact ⟨⟨h1, h2, h3, h4, h5, h6, strB_inj h7, ⟨strB_inj h8, h9, h10, h11, h12, h13⟩, h14, h15, h16⟩, ⟨h17, h18, toTags_inj h19, toTags_inj h20, toTags_inj h21, h22, h23, bytes_inj h.hbytes h'.hbytes h24⟩, h25, toTags_inj h26, h27, toHit_inj h.hhits h'.hhits h28⟩
  · rintro ⟨⟨h1, h2, h3, h4, h5, h6, h7, ⟨h8, h9, h10, h11, h12, h13⟩, h14, h15, h16⟩, ⟨h17, h18, h19, h20, h21, h22, h23, h24⟩, h25, h26, h27, h28⟩
    simp only [h1, h2, h3, h4, h5, h6, h7, h8, h9, h10, h11, h12, h13, h14, h15, h16, h17, h18, h19, h20, h21, h22, h23, h24, h25, h26, h27, h28, and_self]

set_option maxRecDepth 100000 in
set_option maxHeartbeats 6400000 in
theorem sameMsg {ok ok' : Nat → Prop} (m p : MsgL) (w : World) (h : m.In ok w) (h' : p.In ok' w) :
    Calls Try.prog 12 #[.agg m.cells.toArray, .agg p.cells.toArray] w fun e w' => Tells (m.toM = p.toM) w e w' := by
  have HM := Lib.hid h
  have HP := Lib.hid h'
  have HEQ := Lib.hid (toM_eq h h')
  clear h h'
  show Calls _ _ #[.agg #[.int .u8 (m.kind : Int), .int .u32 (m.req : Int), .int .u32 (m.caps : Int), .int .u64 (m.token : Int), .int .u8 (m.code : Int), .int .u32 (m.n : Int), .string m.name, .string m.cname, .int .u8 (m.dim : Int), .int .u8 (m.metric : Int), .bool m.graph, .int .u8 (m.links : Int), .int .u16 (m.cwidth : Int), .slice m.pch.a m.pch.n m.pch.c, .int .u32 (m.id : Int), .slice m.pvec.a m.pvec.n m.pvec.c, .int .u16 (m.k : Int), .int .u16 (m.width : Int), .slice m.pall.a m.pall.n m.pall.c, .slice m.pany.a m.pany.n m.pany.c, .slice m.pno.a m.pno.n m.pno.c, .int .u32 (m.num : Int), .int .u32 (m.page : Int), .slice m.pbytes.a m.pbytes.n m.pbytes.c, .int .u64 (m.version : Int), .slice m.pnames.a m.pnames.n m.pnames.c, .slice m.pitems.a m.pitems.n m.pitems.c, .slice m.phits.a m.phits.n m.phits.c], .agg #[.int .u8 (p.kind : Int), .int .u32 (p.req : Int), .int .u32 (p.caps : Int), .int .u64 (p.token : Int), .int .u8 (p.code : Int), .int .u32 (p.n : Int), .string p.name, .string p.cname, .int .u8 (p.dim : Int), .int .u8 (p.metric : Int), .bool p.graph, .int .u8 (p.links : Int), .int .u16 (p.cwidth : Int), .slice p.pch.a p.pch.n p.pch.c, .int .u32 (p.id : Int), .slice p.pvec.a p.pvec.n p.pvec.c, .int .u16 (p.k : Int), .int .u16 (p.width : Int), .slice p.pall.a p.pall.n p.pall.c, .slice p.pany.a p.pany.n p.pany.c, .slice p.pno.a p.pno.n p.pno.c, .int .u32 (p.num : Int), .int .u32 (p.page : Int), .slice p.pbytes.a p.pbytes.n p.pbytes.c, .int .u64 (p.version : Int), .slice p.pnames.a p.pnames.n p.pnames.c, .slice p.pitems.a p.pitems.n p.pitems.c, .slice p.phits.a p.phits.n p.phits.c]] _ _
  obtain ⟨w1, hw1⟩ : ∃ w1, (w.alloc (.cells #[.int .u8 (m.kind : Int), .int .u32 (m.req : Int), .int .u32 (m.caps : Int), .int .u64 (m.token : Int), .int .u8 (m.code : Int), .int .u32 (m.n : Int), .string m.name, .string m.cname, .int .u8 (m.dim : Int), .int .u8 (m.metric : Int), .bool m.graph, .int .u8 (m.links : Int), .int .u16 (m.cwidth : Int), .slice m.pch.a m.pch.n m.pch.c, .int .u32 (m.id : Int), .slice m.pvec.a m.pvec.n m.pvec.c, .int .u16 (m.k : Int), .int .u16 (m.width : Int), .slice m.pall.a m.pall.n m.pall.c, .slice m.pany.a m.pany.n m.pany.c, .slice m.pno.a m.pno.n m.pno.c, .int .u32 (m.num : Int), .int .u32 (m.page : Int), .slice m.pbytes.a m.pbytes.n m.pbytes.c, .int .u64 (m.version : Int), .slice m.pnames.a m.pnames.n m.pnames.c, .slice m.pitems.a m.pitems.n m.pitems.c, .slice m.phits.a m.phits.n m.phits.c] 45)).alloc (.cells #[.int .u8 (p.kind : Int), .int .u32 (p.req : Int), .int .u32 (p.caps : Int), .int .u64 (p.token : Int), .int .u8 (p.code : Int), .int .u32 (p.n : Int), .string p.name, .string p.cname, .int .u8 (p.dim : Int), .int .u8 (p.metric : Int), .bool p.graph, .int .u8 (p.links : Int), .int .u16 (p.cwidth : Int), .slice p.pch.a p.pch.n p.pch.c, .int .u32 (p.id : Int), .slice p.pvec.a p.pvec.n p.pvec.c, .int .u16 (p.k : Int), .int .u16 (p.width : Int), .slice p.pall.a p.pall.n p.pall.c, .slice p.pany.a p.pany.n p.pany.c, .slice p.pno.a p.pno.n p.pno.c, .int .u32 (p.num : Int), .int .u32 (p.page : Int), .slice p.pbytes.a p.pbytes.n p.pbytes.c, .int .u64 (p.version : Int), .slice p.pnames.a p.pnames.n p.pnames.c, .slice p.pitems.a p.pitems.n p.pitems.c, .slice p.phits.a p.phits.n p.phits.c] 45) = w1 := ⟨_, rfl⟩
  have B1 := Lib.hid (show Below w.heap.size w w1 from by rw [← hw1]; exact ((Below.refl _ _).alloc (Nat.le_refl _) _).alloc (by simp) _)
  have X1 := Lib.hid (show Blk w1 w.heap.size 45 m.cells from by rw [← hw1]; exact (Blk.new w _ _).alloc _)
  have X2 := Lib.hid (show Blk w1 (w.heap.size + 1) 45 p.cells from by
    rw [← hw1]
    have := Blk.new (w.alloc (.cells #[.int .u8 (m.kind : Int), .int .u32 (m.req : Int), .int .u32 (m.caps : Int), .int .u64 (m.token : Int), .int .u8 (m.code : Int), .int .u32 (m.n : Int), .string m.name, .string m.cname, .int .u8 (m.dim : Int), .int .u8 (m.metric : Int), .bool m.graph, .int .u8 (m.links : Int), .int .u16 (m.cwidth : Int), .slice m.pch.a m.pch.n m.pch.c, .int .u32 (m.id : Int), .slice m.pvec.a m.pvec.n m.pvec.c, .int .u16 (m.k : Int), .int .u16 (m.width : Int), .slice m.pall.a m.pall.n m.pall.c, .slice m.pany.a m.pany.n m.pany.c, .slice m.pno.a m.pno.n m.pno.c, .int .u32 (m.num : Int), .int .u32 (m.page : Int), .slice m.pbytes.a m.pbytes.n m.pbytes.c, .int .u64 (m.version : Int), .slice m.pnames.a m.pnames.n m.pnames.c, .slice m.pitems.a m.pitems.n m.pitems.c, .slice m.phits.a m.phits.n m.phits.c] 45)) 45 #[.int .u8 (p.kind : Int), .int .u32 (p.req : Int), .int .u32 (p.caps : Int), .int .u64 (p.token : Int), .int .u8 (p.code : Int), .int .u32 (p.n : Int), .string p.name, .string p.cname, .int .u8 (p.dim : Int), .int .u8 (p.metric : Int), .bool p.graph, .int .u8 (p.links : Int), .int .u16 (p.cwidth : Int), .slice p.pch.a p.pch.n p.pch.c, .int .u32 (p.id : Int), .slice p.pvec.a p.pvec.n p.pvec.c, .int .u16 (p.k : Int), .int .u16 (p.width : Int), .slice p.pall.a p.pall.n p.pall.c, .slice p.pany.a p.pany.n p.pany.c, .slice p.pno.a p.pno.n p.pno.c, .int .u32 (p.num : Int), .int .u32 (p.page : Int), .slice p.pbytes.a p.pbytes.n p.pbytes.c, .int .u64 (p.version : Int), .slice p.pnames.a p.pnames.n p.pnames.c, .slice p.pitems.a p.pitems.n p.pitems.c, .slice p.phits.a p.phits.n p.phits.c]
    rw [show (w.alloc (.cells #[.int .u8 (m.kind : Int), .int .u32 (m.req : Int), .int .u32 (m.caps : Int), .int .u64 (m.token : Int), .int .u8 (m.code : Int), .int .u32 (m.n : Int), .string m.name, .string m.cname, .int .u8 (m.dim : Int), .int .u8 (m.metric : Int), .bool m.graph, .int .u8 (m.links : Int), .int .u16 (m.cwidth : Int), .slice m.pch.a m.pch.n m.pch.c, .int .u32 (m.id : Int), .slice m.pvec.a m.pvec.n m.pvec.c, .int .u16 (m.k : Int), .int .u16 (m.width : Int), .slice m.pall.a m.pall.n m.pall.c, .slice m.pany.a m.pany.n m.pany.c, .slice m.pno.a m.pno.n m.pno.c, .int .u32 (m.num : Int), .int .u32 (m.page : Int), .slice m.pbytes.a m.pbytes.n m.pbytes.c, .int .u64 (m.version : Int), .slice m.pnames.a m.pnames.n m.pnames.c, .slice m.pitems.a m.pitems.n m.pitems.c, .slice m.phits.a m.phits.n m.phits.c] 45)).heap.size = w.heap.size + 1 by simp] at this
    exact this)
  go_enter Try.func12, Try.ntmps12
  go_upto_region 1 with fail
  try rw [hw1]
  clear hw1
  go_cut [2, 3, 5] (fun s2 s3 s5 wx => s2 = .pointer (some ⟨w.heap.size, 0, none⟩) ∧ s3 = .pointer (some ⟨w.heap.size + 1, 0, none⟩) ∧ ∃ z : Bool, s5 = .bool z ∧ ∃ wy, wy = wx ∧ Hid ((z = true ↔ One m p) ∧ Below w.heap.size w wx ∧ Blk wx w.heap.size 45 m.cells ∧ Blk wx (w.heap.size + 1) 45 p.cells))
  case first =>
    have ckind : w1.cell? ⟨w.heap.size, 0, none⟩ = some (.int .u8 (m.kind : Int)) := X1.out.cell 0
    have creq : w1.cell? ⟨w.heap.size, 1, none⟩ = some (.int .u32 (m.req : Int)) := X1.out.cell 1
    have ccaps : w1.cell? ⟨w.heap.size, 2, none⟩ = some (.int .u32 (m.caps : Int)) := X1.out.cell 2
    have ctoken : w1.cell? ⟨w.heap.size, 3, none⟩ = some (.int .u64 (m.token : Int)) := X1.out.cell 3
    have ccode : w1.cell? ⟨w.heap.size, 4, none⟩ = some (.int .u8 (m.code : Int)) := X1.out.cell 4
    have cn : w1.cell? ⟨w.heap.size, 5, none⟩ = some (.int .u32 (m.n : Int)) := X1.out.cell 5
    have cname : w1.cell? ⟨w.heap.size, 6, none⟩ = some (.string m.name) := X1.out.cell 6
    have ccname : w1.cell? ⟨w.heap.size, 7, none⟩ = some (.string m.cname) := X1.out.cell 7
    have cdim : w1.cell? ⟨w.heap.size, 8, none⟩ = some (.int .u8 (m.dim : Int)) := X1.out.cell 8
    have cmetric : w1.cell? ⟨w.heap.size, 9, none⟩ = some (.int .u8 (m.metric : Int)) := X1.out.cell 9
    have cgraph : w1.cell? ⟨w.heap.size, 10, none⟩ = some (.bool m.graph) := X1.out.cell 10
    have clinks : w1.cell? ⟨w.heap.size, 11, none⟩ = some (.int .u8 (m.links : Int)) := X1.out.cell 11
    have ccwidth : w1.cell? ⟨w.heap.size, 12, none⟩ = some (.int .u16 (m.cwidth : Int)) := X1.out.cell 12
    have cchanges : w1.cell? ⟨w.heap.size, 13, none⟩ = some (.slice m.pch.a m.pch.n m.pch.c) := X1.out.cell 13
    have cid : w1.cell? ⟨w.heap.size, 14, none⟩ = some (.int .u32 (m.id : Int)) := X1.out.cell 14
    have cvec : w1.cell? ⟨w.heap.size, 15, none⟩ = some (.slice m.pvec.a m.pvec.n m.pvec.c) := X1.out.cell 15
    have dkind : w1.cell? ⟨w.heap.size + 1, 0, none⟩ = some (.int .u8 (p.kind : Int)) := X2.out.cell 0
    have dreq : w1.cell? ⟨w.heap.size + 1, 1, none⟩ = some (.int .u32 (p.req : Int)) := X2.out.cell 1
    have dcaps : w1.cell? ⟨w.heap.size + 1, 2, none⟩ = some (.int .u32 (p.caps : Int)) := X2.out.cell 2
    have dtoken : w1.cell? ⟨w.heap.size + 1, 3, none⟩ = some (.int .u64 (p.token : Int)) := X2.out.cell 3
    have dcode : w1.cell? ⟨w.heap.size + 1, 4, none⟩ = some (.int .u8 (p.code : Int)) := X2.out.cell 4
    have dn : w1.cell? ⟨w.heap.size + 1, 5, none⟩ = some (.int .u32 (p.n : Int)) := X2.out.cell 5
    have dname : w1.cell? ⟨w.heap.size + 1, 6, none⟩ = some (.string p.name) := X2.out.cell 6
    have dcname : w1.cell? ⟨w.heap.size + 1, 7, none⟩ = some (.string p.cname) := X2.out.cell 7
    have ddim : w1.cell? ⟨w.heap.size + 1, 8, none⟩ = some (.int .u8 (p.dim : Int)) := X2.out.cell 8
    have dmetric : w1.cell? ⟨w.heap.size + 1, 9, none⟩ = some (.int .u8 (p.metric : Int)) := X2.out.cell 9
    have dgraph : w1.cell? ⟨w.heap.size + 1, 10, none⟩ = some (.bool p.graph) := X2.out.cell 10
    have dlinks : w1.cell? ⟨w.heap.size + 1, 11, none⟩ = some (.int .u8 (p.links : Int)) := X2.out.cell 11
    have dcwidth : w1.cell? ⟨w.heap.size + 1, 12, none⟩ = some (.int .u16 (p.cwidth : Int)) := X2.out.cell 12
    have dchanges : w1.cell? ⟨w.heap.size + 1, 13, none⟩ = some (.slice p.pch.a p.pch.n p.pch.c) := X2.out.cell 13
    have did : w1.cell? ⟨w.heap.size + 1, 14, none⟩ = some (.int .u32 (p.id : Int)) := X2.out.cell 14
    have dvec : w1.cell? ⟨w.heap.size + 1, 15, none⟩ = some (.slice p.pvec.a p.pvec.n p.pvec.c) := X2.out.cell 15
    have lt1 := X2.out.lt
    have lt0 := X1.out.lt
    by_cases ekind : m.kind = p.kind
    rotate_left
    · replace ekind := Lib.hid ekind
      have qkind : ((m.kind : Int) == (p.kind : Int)) = false := by have := ekind.out; simp; omega
      have NOT := Lib.hid (show ¬ One m p from fun hh => ekind.out (hh.1))
      go_wp2
      go_meet
      exact ⟨rfl, rfl, false, rfl, _, rfl, ⟨⟨fun h => (nomatch h), fun h => absurd h NOT.out⟩, B1.out, X1.out, X2.out⟩⟩
    replace ekind := Lib.hid ekind
    have qkind : ((m.kind : Int) == (p.kind : Int)) = true := by have := ekind.out; simp [this]
    by_cases ereq : m.req = p.req
    rotate_left
    · replace ereq := Lib.hid ereq
      have qreq : ((m.req : Int) == (p.req : Int)) = false := by have := ereq.out; simp; omega
      have NOT := Lib.hid (show ¬ One m p from fun hh => ereq.out (hh.2.1))
      go_wp2
      go_meet
      exact ⟨rfl, rfl, false, rfl, _, rfl, ⟨⟨fun h => (nomatch h), fun h => absurd h NOT.out⟩, B1.out, X1.out, X2.out⟩⟩
    replace ereq := Lib.hid ereq
    have qreq : ((m.req : Int) == (p.req : Int)) = true := by have := ereq.out; simp [this]
    by_cases ecaps : m.caps = p.caps
    rotate_left
    · replace ecaps := Lib.hid ecaps
      have qcaps : ((m.caps : Int) == (p.caps : Int)) = false := by have := ecaps.out; simp; omega
      have NOT := Lib.hid (show ¬ One m p from fun hh => ecaps.out (hh.2.2.1))
      go_wp2
      go_meet
      exact ⟨rfl, rfl, false, rfl, _, rfl, ⟨⟨fun h => (nomatch h), fun h => absurd h NOT.out⟩, B1.out, X1.out, X2.out⟩⟩
    replace ecaps := Lib.hid ecaps
    have qcaps : ((m.caps : Int) == (p.caps : Int)) = true := by have := ecaps.out; simp [this]
    by_cases etoken : m.token = p.token
    rotate_left
    · replace etoken := Lib.hid etoken
      have qtoken : ((m.token : Int) == (p.token : Int)) = false := by have := etoken.out; simp; omega
      have NOT := Lib.hid (show ¬ One m p from fun hh => etoken.out (hh.2.2.2.1))
      go_wp2
      go_meet
      exact ⟨rfl, rfl, false, rfl, _, rfl, ⟨⟨fun h => (nomatch h), fun h => absurd h NOT.out⟩, B1.out, X1.out, X2.out⟩⟩
    replace etoken := Lib.hid etoken
    have qtoken : ((m.token : Int) == (p.token : Int)) = true := by have := etoken.out; simp [this]
    by_cases ecode : m.code = p.code
    rotate_left
    · replace ecode := Lib.hid ecode
      have qcode : ((m.code : Int) == (p.code : Int)) = false := by have := ecode.out; simp; omega
      have NOT := Lib.hid (show ¬ One m p from fun hh => ecode.out (hh.2.2.2.2.1))
      go_wp2
      go_meet
      exact ⟨rfl, rfl, false, rfl, _, rfl, ⟨⟨fun h => (nomatch h), fun h => absurd h NOT.out⟩, B1.out, X1.out, X2.out⟩⟩
    replace ecode := Lib.hid ecode
    have qcode : ((m.code : Int) == (p.code : Int)) = true := by have := ecode.out; simp [this]
    by_cases en : m.n = p.n
    rotate_left
    · replace en := Lib.hid en
      have qn : ((m.n : Int) == (p.n : Int)) = false := by have := en.out; simp; omega
      have NOT := Lib.hid (show ¬ One m p from fun hh => en.out (hh.2.2.2.2.2.1))
      go_wp2
      go_meet
      exact ⟨rfl, rfl, false, rfl, _, rfl, ⟨⟨fun h => (nomatch h), fun h => absurd h NOT.out⟩, B1.out, X1.out, X2.out⟩⟩
    replace en := Lib.hid en
    have qn : ((m.n : Int) == (p.n : Int)) = true := by have := en.out; simp [this]
    by_cases ename : m.name = p.name
    rotate_left
    · replace ename := Lib.hid ename
      have qname := bytes_no ename.out
      have NOT := Lib.hid (show ¬ One m p from fun hh => ename.out (hh.2.2.2.2.2.2.1))
      go_wp2
      go_meet
      exact ⟨rfl, rfl, false, rfl, _, rfl, ⟨⟨fun h => (nomatch h), fun h => absurd h NOT.out⟩, B1.out, X1.out, X2.out⟩⟩
    replace ename := Lib.hid ename
    have qname := bytes_yes ename.out
    by_cases econf : (m.cname = p.cname ∧ m.dim = p.dim ∧ m.metric = p.metric ∧ m.graph = p.graph ∧ m.links = p.links ∧ m.cwidth = p.cwidth)
    rotate_left
    · replace econf := Lib.hid econf
      have qconf := fun w => run_eql_conf m.cname p.cname (m.dim : Int) (p.dim : Int) (m.metric : Int) (p.metric : Int) (m.links : Int) (p.links : Int) (m.cwidth : Int) (p.cwidth : Int) m.graph p.graph w false (by
        rw [← Bool.not_eq_true]
        intro hh
        simp only [Bool.and_eq_true, beq_iff_eq, Int.ofNat_inj] at hh
        exact econf.out ⟨(Lib.bytes_beq_iff _ _).1 (by simpa using hh.1), hh.2.1, hh.2.2.1, hh.2.2.2.1, hh.2.2.2.2.1, hh.2.2.2.2.2⟩)
      have NOT := Lib.hid (show ¬ One m p from fun hh => econf.out (hh.2.2.2.2.2.2.2.1))
      go_wp2
      go_meet
      exact ⟨rfl, rfl, false, rfl, _, rfl, ⟨⟨fun h => (nomatch h), fun h => absurd h NOT.out⟩, B1.out, X1.out, X2.out⟩⟩
    replace econf := Lib.hid econf
    have qconf := fun w => run_eql_conf m.cname p.cname (m.dim : Int) (p.dim : Int) (m.metric : Int) (p.metric : Int) (m.links : Int) (p.links : Int) (m.cwidth : Int) (p.cwidth : Int) m.graph p.graph w true (by obtain ⟨e1, e2, e3, e4, e5, e6⟩ := econf.out; simp [e1, e2, e3, e4, e5, e6])
    go_wp2_with (fail)
    refine (sameChanges m.pch.a p.pch.a m.pch.n p.pch.n m.pch.c p.pch.c m.changes p.changes w1 (HM.out.hchanges.on B1.out) (HP.out.hchanges.on B1.out)).mono ?_
    rintro e w1x ⟨zchanges, rfl, hz, hb⟩
    have Zchanges := Lib.hid hz
    have B1x := Lib.hid (below_on B1.out hb)
    have X1x := Lib.hid ((Kept.of_below (F := []) hb (Nat.le_refl _)).blk X1.out (by simp))
    have X2x := Lib.hid ((Kept.of_below (F := []) hb (Nat.le_refl _)).blk X2.out (by simp))
    clear hz hb ckind dkind creq dreq ccaps dcaps ctoken dtoken ccode dcode cn dn cname dname ccname dcname cdim ddim cmetric dmetric cgraph dgraph clinks dlinks ccwidth dcwidth cchanges dchanges cid did cvec dvec lt1 lt0
    cases zchanges
    · have echanges := Lib.hid (show ¬ m.changes.map toChange = p.changes.map toChange from fun h => nomatch Zchanges.out.2 h)
      have NOT := Lib.hid (show ¬ One m p from fun hh => echanges.out (hh.2.2.2.2.2.2.2.2.1))
      go_wp2
      go_meet
      exact ⟨rfl, rfl, false, rfl, _, rfl, ⟨⟨fun h => (nomatch h), fun h => absurd h NOT.out⟩, B1x.out, X1x.out, X2x.out⟩⟩
    have echanges := Lib.hid (Zchanges.out.1 rfl)
    have cid : w1x.cell? ⟨w.heap.size, 14, none⟩ = some (.int .u32 (m.id : Int)) := X1x.out.cell 14
    have cvec : w1x.cell? ⟨w.heap.size, 15, none⟩ = some (.slice m.pvec.a m.pvec.n m.pvec.c) := X1x.out.cell 15
    have did : w1x.cell? ⟨w.heap.size + 1, 14, none⟩ = some (.int .u32 (p.id : Int)) := X2x.out.cell 14
    have dvec : w1x.cell? ⟨w.heap.size + 1, 15, none⟩ = some (.slice p.pvec.a p.pvec.n p.pvec.c) := X2x.out.cell 15
    have lt1 := X2x.out.lt
    have lt0 := X1x.out.lt
    by_cases eid : m.id = p.id
    rotate_left
    · replace eid := Lib.hid eid
      have qid : ((m.id : Int) == (p.id : Int)) = false := by have := eid.out; simp; omega
      have NOT := Lib.hid (show ¬ One m p from fun hh => eid.out (hh.2.2.2.2.2.2.2.2.2.1))
      go_wp2
      go_meet
      exact ⟨rfl, rfl, false, rfl, _, rfl, ⟨⟨fun h => (nomatch h), fun h => absurd h NOT.out⟩, B1x.out, X1x.out, X2x.out⟩⟩
    replace eid := Lib.hid eid
    have qid : ((m.id : Int) == (p.id : Int)) = true := by have := eid.out; simp [this]
    go_wp2_with (fail)
    refine (same01 m.pvec.a p.pvec.a m.pvec.n p.pvec.n m.pvec.c p.pvec.c m.vec p.vec w1x (HM.out.hvec.on B1x.out) (HP.out.hvec.on B1x.out)).mono ?_
    rintro e w1xx ⟨zvec, rfl, hz, hb⟩
    have Zvec := Lib.hid hz
    have B1xx := Lib.hid (below_on B1x.out hb)
    have X1xx := Lib.hid ((Kept.of_below (F := []) hb (Nat.le_refl _)).blk X1x.out (by simp))
    have X2xx := Lib.hid ((Kept.of_below (F := []) hb (Nat.le_refl _)).blk X2x.out (by simp))
    clear hz hb cid did cvec dvec lt1 lt0
    have IFF := Lib.hid (show zvec = true ↔ One m p from ⟨fun h => ⟨ekind.out, ereq.out, ecaps.out, etoken.out, ecode.out, en.out, ename.out, econf.out, echanges.out, eid.out, Zvec.out.1 h⟩, fun h => Zvec.out.2 (h.2.2.2.2.2.2.2.2.2.2)⟩)
    go_wp2
    go_meet
    exact ⟨rfl, rfl, zvec, rfl, _, rfl, ⟨(show zvec = true ↔ One m p by have h := IFF.out; first | exact h | simpa using h), B1xx.out, X1xx.out, X2xx.out⟩⟩
  case rest =>
    clear B1 X1 X2
    obtain ⟨rfl, rfl, z1, rfl, wq, rfl, HR⟩ := hcut
    obtain ⟨ha, hb, hc, hd⟩ := HR.out
    have ONE := Lib.hid ha
    have B2 := Lib.hid hb
    have Y1 := Lib.hid hc
    have Y2 := Lib.hid hd
    clear ha hb hc hd HR
    go_upto_region 2 with fail
    go_cut [6] (fun s6 wx => ∃ z : Bool, s6 = .bool z ∧ ∃ wy, wy = wx ∧ Hid ((z = true ↔ Two m p) ∧ Below w.heap.size w wx ∧ Blk wx w.heap.size 45 m.cells ∧ Blk wx (w.heap.size + 1) 45 p.cells))
    case first =>
      have ck : wq.cell? ⟨w.heap.size, 16, none⟩ = some (.int .u16 (m.k : Int)) := Y1.out.cell 16
      have cwidth : wq.cell? ⟨w.heap.size, 17, none⟩ = some (.int .u16 (m.width : Int)) := Y1.out.cell 17
      have call : wq.cell? ⟨w.heap.size, 18, none⟩ = some (.slice m.pall.a m.pall.n m.pall.c) := Y1.out.cell 18
      have cany : wq.cell? ⟨w.heap.size, 19, none⟩ = some (.slice m.pany.a m.pany.n m.pany.c) := Y1.out.cell 19
      have cno : wq.cell? ⟨w.heap.size, 20, none⟩ = some (.slice m.pno.a m.pno.n m.pno.c) := Y1.out.cell 20
      have cnum : wq.cell? ⟨w.heap.size, 21, none⟩ = some (.int .u32 (m.num : Int)) := Y1.out.cell 21
      have cpage : wq.cell? ⟨w.heap.size, 22, none⟩ = some (.int .u32 (m.page : Int)) := Y1.out.cell 22
      have cbytes : wq.cell? ⟨w.heap.size, 23, none⟩ = some (.slice m.pbytes.a m.pbytes.n m.pbytes.c) := Y1.out.cell 23
      have dk : wq.cell? ⟨w.heap.size + 1, 16, none⟩ = some (.int .u16 (p.k : Int)) := Y2.out.cell 16
      have dwidth : wq.cell? ⟨w.heap.size + 1, 17, none⟩ = some (.int .u16 (p.width : Int)) := Y2.out.cell 17
      have dall : wq.cell? ⟨w.heap.size + 1, 18, none⟩ = some (.slice p.pall.a p.pall.n p.pall.c) := Y2.out.cell 18
      have dany : wq.cell? ⟨w.heap.size + 1, 19, none⟩ = some (.slice p.pany.a p.pany.n p.pany.c) := Y2.out.cell 19
      have dno : wq.cell? ⟨w.heap.size + 1, 20, none⟩ = some (.slice p.pno.a p.pno.n p.pno.c) := Y2.out.cell 20
      have dnum : wq.cell? ⟨w.heap.size + 1, 21, none⟩ = some (.int .u32 (p.num : Int)) := Y2.out.cell 21
      have dpage : wq.cell? ⟨w.heap.size + 1, 22, none⟩ = some (.int .u32 (p.page : Int)) := Y2.out.cell 22
      have dbytes : wq.cell? ⟨w.heap.size + 1, 23, none⟩ = some (.slice p.pbytes.a p.pbytes.n p.pbytes.c) := Y2.out.cell 23
      have lt1 := Y2.out.lt
      have lt0 := Y1.out.lt
      by_cases ek : m.k = p.k
      rotate_left
      · replace ek := Lib.hid ek
        have qk : ((m.k : Int) == (p.k : Int)) = false := by have := ek.out; simp; omega
        have NOT := Lib.hid (show ¬ Two m p from fun hh => ek.out (hh.1))
        go_wp2
        go_meet
        exact ⟨false, rfl, _, rfl, ⟨⟨fun h => (nomatch h), fun h => absurd h NOT.out⟩, B2.out, Y1.out, Y2.out⟩⟩
      replace ek := Lib.hid ek
      have qk : ((m.k : Int) == (p.k : Int)) = true := by have := ek.out; simp [this]
      by_cases ewidth : m.width = p.width
      rotate_left
      · replace ewidth := Lib.hid ewidth
        have qwidth : ((m.width : Int) == (p.width : Int)) = false := by have := ewidth.out; simp; omega
        have NOT := Lib.hid (show ¬ Two m p from fun hh => ewidth.out (hh.2.1))
        go_wp2
        go_meet
        exact ⟨false, rfl, _, rfl, ⟨⟨fun h => (nomatch h), fun h => absurd h NOT.out⟩, B2.out, Y1.out, Y2.out⟩⟩
      replace ewidth := Lib.hid ewidth
      have qwidth : ((m.width : Int) == (p.width : Int)) = true := by have := ewidth.out; simp [this]
      go_wp2_with (fail)
      refine (same03 m.pall.a p.pall.a m.pall.n p.pall.n m.pall.c p.pall.c m.all p.all wq (HM.out.hall.on B2.out) (HP.out.hall.on B2.out)).mono ?_
      rintro e wqx ⟨zall, rfl, hz, hb⟩
      have Zall := Lib.hid hz
      have B2x := Lib.hid (below_on B2.out hb)
      have Y1x := Lib.hid ((Kept.of_below (F := []) hb (Nat.le_refl _)).blk Y1.out (by simp))
      have Y2x := Lib.hid ((Kept.of_below (F := []) hb (Nat.le_refl _)).blk Y2.out (by simp))
      clear hz hb ck dk cwidth dwidth call dall cany dany cno dno cnum dnum cpage dpage cbytes dbytes lt1 lt0
      cases zall
      · have eall := Lib.hid (show ¬ m.all = p.all from fun h => nomatch Zall.out.2 h)
        have NOT := Lib.hid (show ¬ Two m p from fun hh => eall.out (hh.2.2.1))
        go_wp2
        go_meet
        exact ⟨false, rfl, _, rfl, ⟨⟨fun h => (nomatch h), fun h => absurd h NOT.out⟩, B2x.out, Y1x.out, Y2x.out⟩⟩
      have eall := Lib.hid (Zall.out.1 rfl)
      have cany : wqx.cell? ⟨w.heap.size, 19, none⟩ = some (.slice m.pany.a m.pany.n m.pany.c) := Y1x.out.cell 19
      have cno : wqx.cell? ⟨w.heap.size, 20, none⟩ = some (.slice m.pno.a m.pno.n m.pno.c) := Y1x.out.cell 20
      have cnum : wqx.cell? ⟨w.heap.size, 21, none⟩ = some (.int .u32 (m.num : Int)) := Y1x.out.cell 21
      have cpage : wqx.cell? ⟨w.heap.size, 22, none⟩ = some (.int .u32 (m.page : Int)) := Y1x.out.cell 22
      have cbytes : wqx.cell? ⟨w.heap.size, 23, none⟩ = some (.slice m.pbytes.a m.pbytes.n m.pbytes.c) := Y1x.out.cell 23
      have dany : wqx.cell? ⟨w.heap.size + 1, 19, none⟩ = some (.slice p.pany.a p.pany.n p.pany.c) := Y2x.out.cell 19
      have dno : wqx.cell? ⟨w.heap.size + 1, 20, none⟩ = some (.slice p.pno.a p.pno.n p.pno.c) := Y2x.out.cell 20
      have dnum : wqx.cell? ⟨w.heap.size + 1, 21, none⟩ = some (.int .u32 (p.num : Int)) := Y2x.out.cell 21
      have dpage : wqx.cell? ⟨w.heap.size + 1, 22, none⟩ = some (.int .u32 (p.page : Int)) := Y2x.out.cell 22
      have dbytes : wqx.cell? ⟨w.heap.size + 1, 23, none⟩ = some (.slice p.pbytes.a p.pbytes.n p.pbytes.c) := Y2x.out.cell 23
      have lt1 := Y2x.out.lt
      have lt0 := Y1x.out.lt
      go_wp2_with (fail)
      refine (same03 m.pany.a p.pany.a m.pany.n p.pany.n m.pany.c p.pany.c m.any p.any wqx (HM.out.hany.on B2x.out) (HP.out.hany.on B2x.out)).mono ?_
      rintro e wqxx ⟨zany, rfl, hz, hb⟩
      have Zany := Lib.hid hz
      have B2xx := Lib.hid (below_on B2x.out hb)
      have Y1xx := Lib.hid ((Kept.of_below (F := []) hb (Nat.le_refl _)).blk Y1x.out (by simp))
      have Y2xx := Lib.hid ((Kept.of_below (F := []) hb (Nat.le_refl _)).blk Y2x.out (by simp))
      clear hz hb cany dany cno dno cnum dnum cpage dpage cbytes dbytes lt1 lt0
      cases zany
      · have eany := Lib.hid (show ¬ m.any = p.any from fun h => nomatch Zany.out.2 h)
        have NOT := Lib.hid (show ¬ Two m p from fun hh => eany.out (hh.2.2.2.1))
        go_wp2
        go_meet
        exact ⟨false, rfl, _, rfl, ⟨⟨fun h => (nomatch h), fun h => absurd h NOT.out⟩, B2xx.out, Y1xx.out, Y2xx.out⟩⟩
      have eany := Lib.hid (Zany.out.1 rfl)
      have cno : wqxx.cell? ⟨w.heap.size, 20, none⟩ = some (.slice m.pno.a m.pno.n m.pno.c) := Y1xx.out.cell 20
      have cnum : wqxx.cell? ⟨w.heap.size, 21, none⟩ = some (.int .u32 (m.num : Int)) := Y1xx.out.cell 21
      have cpage : wqxx.cell? ⟨w.heap.size, 22, none⟩ = some (.int .u32 (m.page : Int)) := Y1xx.out.cell 22
      have cbytes : wqxx.cell? ⟨w.heap.size, 23, none⟩ = some (.slice m.pbytes.a m.pbytes.n m.pbytes.c) := Y1xx.out.cell 23
      have dno : wqxx.cell? ⟨w.heap.size + 1, 20, none⟩ = some (.slice p.pno.a p.pno.n p.pno.c) := Y2xx.out.cell 20
      have dnum : wqxx.cell? ⟨w.heap.size + 1, 21, none⟩ = some (.int .u32 (p.num : Int)) := Y2xx.out.cell 21
      have dpage : wqxx.cell? ⟨w.heap.size + 1, 22, none⟩ = some (.int .u32 (p.page : Int)) := Y2xx.out.cell 22
      have dbytes : wqxx.cell? ⟨w.heap.size + 1, 23, none⟩ = some (.slice p.pbytes.a p.pbytes.n p.pbytes.c) := Y2xx.out.cell 23
      have lt1 := Y2xx.out.lt
      have lt0 := Y1xx.out.lt
      go_wp2_with (fail)
      refine (same03 m.pno.a p.pno.a m.pno.n p.pno.n m.pno.c p.pno.c m.no p.no wqxx (HM.out.hno.on B2xx.out) (HP.out.hno.on B2xx.out)).mono ?_
      rintro e wqxxx ⟨zno, rfl, hz, hb⟩
      have Zno := Lib.hid hz
      have B2xxx := Lib.hid (below_on B2xx.out hb)
      have Y1xxx := Lib.hid ((Kept.of_below (F := []) hb (Nat.le_refl _)).blk Y1xx.out (by simp))
      have Y2xxx := Lib.hid ((Kept.of_below (F := []) hb (Nat.le_refl _)).blk Y2xx.out (by simp))
      clear hz hb cno dno cnum dnum cpage dpage cbytes dbytes lt1 lt0
      cases zno
      · have eno := Lib.hid (show ¬ m.no = p.no from fun h => nomatch Zno.out.2 h)
        have NOT := Lib.hid (show ¬ Two m p from fun hh => eno.out (hh.2.2.2.2.1))
        go_wp2
        go_meet
        exact ⟨false, rfl, _, rfl, ⟨⟨fun h => (nomatch h), fun h => absurd h NOT.out⟩, B2xxx.out, Y1xxx.out, Y2xxx.out⟩⟩
      have eno := Lib.hid (Zno.out.1 rfl)
      have cnum : wqxxx.cell? ⟨w.heap.size, 21, none⟩ = some (.int .u32 (m.num : Int)) := Y1xxx.out.cell 21
      have cpage : wqxxx.cell? ⟨w.heap.size, 22, none⟩ = some (.int .u32 (m.page : Int)) := Y1xxx.out.cell 22
      have cbytes : wqxxx.cell? ⟨w.heap.size, 23, none⟩ = some (.slice m.pbytes.a m.pbytes.n m.pbytes.c) := Y1xxx.out.cell 23
      have dnum : wqxxx.cell? ⟨w.heap.size + 1, 21, none⟩ = some (.int .u32 (p.num : Int)) := Y2xxx.out.cell 21
      have dpage : wqxxx.cell? ⟨w.heap.size + 1, 22, none⟩ = some (.int .u32 (p.page : Int)) := Y2xxx.out.cell 22
      have dbytes : wqxxx.cell? ⟨w.heap.size + 1, 23, none⟩ = some (.slice p.pbytes.a p.pbytes.n p.pbytes.c) := Y2xxx.out.cell 23
      have lt1 := Y2xxx.out.lt
      have lt0 := Y1xxx.out.lt
      by_cases enum : m.num = p.num
      rotate_left
      · replace enum := Lib.hid enum
        have qnum : ((m.num : Int) == (p.num : Int)) = false := by have := enum.out; simp; omega
        have NOT := Lib.hid (show ¬ Two m p from fun hh => enum.out (hh.2.2.2.2.2.1))
        go_wp2
        go_meet
        exact ⟨false, rfl, _, rfl, ⟨⟨fun h => (nomatch h), fun h => absurd h NOT.out⟩, B2xxx.out, Y1xxx.out, Y2xxx.out⟩⟩
      replace enum := Lib.hid enum
      have qnum : ((m.num : Int) == (p.num : Int)) = true := by have := enum.out; simp [this]
      by_cases epage : m.page = p.page
      rotate_left
      · replace epage := Lib.hid epage
        have qpage : ((m.page : Int) == (p.page : Int)) = false := by have := epage.out; simp; omega
        have NOT := Lib.hid (show ¬ Two m p from fun hh => epage.out (hh.2.2.2.2.2.2.1))
        go_wp2
        go_meet
        exact ⟨false, rfl, _, rfl, ⟨⟨fun h => (nomatch h), fun h => absurd h NOT.out⟩, B2xxx.out, Y1xxx.out, Y2xxx.out⟩⟩
      replace epage := Lib.hid epage
      have qpage : ((m.page : Int) == (p.page : Int)) = true := by have := epage.out; simp [this]
      by_cases ebytes : m.bytes = p.bytes
      rotate_left
      · replace ebytes := Lib.hid ebytes
        have kc1 : (convert 41 9 (.slice m.pbytes.a m.pbytes.n m.pbytes.c)).run Try.prog wqxxx = .ok (.string (strOfB (m.bytes.map Int.toNat))) wqxxx := (Rd.bytes (HM.out.hbytes.on B2xxx.out)).1.str 41 5 Try.underlying41 Try.underlying5 9 Try.underlying9
        have kc2 : (convert 41 9 (.slice p.pbytes.a p.pbytes.n p.pbytes.c)).run Try.prog wqxxx = .ok (.string (strOfB (p.bytes.map Int.toNat))) wqxxx := (Rd.bytes (HP.out.hbytes.on B2xxx.out)).1.str 41 5 Try.underlying41 Try.underlying5 9 Try.underlying9
        obtain ⟨S1, hS1⟩ : ∃ S1, strOfB (m.bytes.map Int.toNat) = S1 := ⟨_, rfl⟩
        obtain ⟨S2, hS2⟩ : ∃ S2, strOfB (p.bytes.map Int.toNat) = S2 := ⟨_, rfl⟩
        rw [hS1] at kc1
        rw [hS2] at kc2
        have qb := bytes_no (show S1 ≠ S2 from fun h => ebytes.out (bytes_inj HM.out.hbytes HP.out.hbytes (strOfB_inj (Rd.bytes HM.out.hbytes).1.byte (Rd.bytes HP.out.hbytes).1.byte (by rw [hS1, hS2, h]))))
        clear hS1 hS2
        have NOT := Lib.hid (show ¬ Two m p from fun hh => ebytes.out (hh.2.2.2.2.2.2.2))
        go_wp2
        go_meet
        exact ⟨false, rfl, _, rfl, ⟨⟨fun h => (nomatch h), fun h => absurd h NOT.out⟩, B2xxx.out, Y1xxx.out, Y2xxx.out⟩⟩
      replace ebytes := Lib.hid ebytes
      have kc1 : (convert 41 9 (.slice m.pbytes.a m.pbytes.n m.pbytes.c)).run Try.prog wqxxx = .ok (.string (strOfB (m.bytes.map Int.toNat))) wqxxx := (Rd.bytes (HM.out.hbytes.on B2xxx.out)).1.str 41 5 Try.underlying41 Try.underlying5 9 Try.underlying9
      have kc2 : (convert 41 9 (.slice p.pbytes.a p.pbytes.n p.pbytes.c)).run Try.prog wqxxx = .ok (.string (strOfB (p.bytes.map Int.toNat))) wqxxx := (Rd.bytes (HP.out.hbytes.on B2xxx.out)).1.str 41 5 Try.underlying41 Try.underlying5 9 Try.underlying9
      obtain ⟨S1, hS1⟩ : ∃ S1, strOfB (m.bytes.map Int.toNat) = S1 := ⟨_, rfl⟩
      obtain ⟨S2, hS2⟩ : ∃ S2, strOfB (p.bytes.map Int.toNat) = S2 := ⟨_, rfl⟩
      rw [hS1] at kc1
      rw [hS2] at kc2
      have qb := bytes_yes (show S1 = S2 by rw [← hS1, ← hS2, ebytes.out])
      clear hS1 hS2
      have IFF := Lib.hid (show true = true ↔ Two m p from ⟨fun _ => ⟨ek.out, ewidth.out, eall.out, eany.out, eno.out, enum.out, epage.out, ebytes.out⟩, fun _ => rfl⟩)
      go_wp2
      go_meet
      exact ⟨true, rfl, _, rfl, ⟨(show true = true ↔ Two m p by have h := IFF.out; first | exact h | simpa using h), B2xxx.out, Y1xxx.out, Y2xxx.out⟩⟩
    case rest =>
      clear B2 Y1 Y2
      obtain ⟨z2, rfl, wv, rfl, HR⟩ := hcut
      obtain ⟨ha, hb, hc, hd⟩ := HR.out
      have TWO := Lib.hid ha
      have B3 := Lib.hid hb
      have V1 := Lib.hid hc
      have V2 := Lib.hid hd
      clear ha hb hc hd HR
      cases z1
      · have NOT := Lib.hid (show ¬ m.toM = p.toM from fun h => nomatch ONE.out.2 (HEQ.out.1 h).1)
        go_wp2
        go_ret
        exact tells_no NOT.out B3.out
      cases z2
      · have NOT := Lib.hid (show ¬ m.toM = p.toM from fun h => nomatch TWO.out.2 (HEQ.out.1 h).2.1)
        go_wp2
        go_ret
        exact tells_no NOT.out B3.out
      have cversion : wv.cell? ⟨w.heap.size, 24, none⟩ = some (.int .u64 (m.version : Int)) := V1.out.cell 24
      have cnames : wv.cell? ⟨w.heap.size, 25, none⟩ = some (.slice m.pnames.a m.pnames.n m.pnames.c) := V1.out.cell 25
      have citems : wv.cell? ⟨w.heap.size, 26, none⟩ = some (.slice m.pitems.a m.pitems.n m.pitems.c) := V1.out.cell 26
      have chits : wv.cell? ⟨w.heap.size, 27, none⟩ = some (.slice m.phits.a m.phits.n m.phits.c) := V1.out.cell 27
      have dversion : wv.cell? ⟨w.heap.size + 1, 24, none⟩ = some (.int .u64 (p.version : Int)) := V2.out.cell 24
      have dnames : wv.cell? ⟨w.heap.size + 1, 25, none⟩ = some (.slice p.pnames.a p.pnames.n p.pnames.c) := V2.out.cell 25
      have ditems : wv.cell? ⟨w.heap.size + 1, 26, none⟩ = some (.slice p.pitems.a p.pitems.n p.pitems.c) := V2.out.cell 26
      have dhits : wv.cell? ⟨w.heap.size + 1, 27, none⟩ = some (.slice p.phits.a p.phits.n p.phits.c) := V2.out.cell 27
      have lt1 := V2.out.lt
      have lt0 := V1.out.lt
      by_cases eversion : m.version = p.version
      rotate_left
      · replace eversion := Lib.hid eversion
        have qversion : ((m.version : Int) == (p.version : Int)) = false := by have := eversion.out; simp; omega
        have NOT := Lib.hid (show ¬ Three m p from fun hh => eversion.out (hh.1))
        have FIN := Lib.hid (show ¬ m.toM = p.toM from fun h => nomatch (⟨fun h => (nomatch h), fun h => absurd h NOT.out⟩ : false = true ↔ Three m p).2 (HEQ.out.1 h).2.2)
        go_wp2
        go_ret
        exact tells_no FIN.out B3.out
      replace eversion := Lib.hid eversion
      have qversion : ((m.version : Int) == (p.version : Int)) = true := by have := eversion.out; simp [this]
      go_wp2_with (fail)
      refine (same03 m.pnames.a p.pnames.a m.pnames.n p.pnames.n m.pnames.c p.pnames.c m.names p.names wv (HM.out.hnames.on B3.out) (HP.out.hnames.on B3.out)).mono ?_
      rintro e wvx ⟨znames, rfl, hz, hb⟩
      have Znames := Lib.hid hz
      have B3x := Lib.hid (below_on B3.out hb)
      have V1x := Lib.hid ((Kept.of_below (F := []) hb (Nat.le_refl _)).blk V1.out (by simp))
      have V2x := Lib.hid ((Kept.of_below (F := []) hb (Nat.le_refl _)).blk V2.out (by simp))
      clear hz hb cversion dversion cnames dnames citems ditems chits dhits lt1 lt0
      cases znames
      · have enames := Lib.hid (show ¬ m.names = p.names from fun h => nomatch Znames.out.2 h)
        have NOT := Lib.hid (show ¬ Three m p from fun hh => enames.out (hh.2.1))
        have FIN := Lib.hid (show ¬ m.toM = p.toM from fun h => nomatch (⟨fun h => (nomatch h), fun h => absurd h NOT.out⟩ : false = true ↔ Three m p).2 (HEQ.out.1 h).2.2)
        go_wp2
        go_ret
        exact tells_no FIN.out B3x.out
      have enames := Lib.hid (Znames.out.1 rfl)
      have citems : wvx.cell? ⟨w.heap.size, 26, none⟩ = some (.slice m.pitems.a m.pitems.n m.pitems.c) := V1x.out.cell 26
      have chits : wvx.cell? ⟨w.heap.size, 27, none⟩ = some (.slice m.phits.a m.phits.n m.phits.c) := V1x.out.cell 27
      have ditems : wvx.cell? ⟨w.heap.size + 1, 26, none⟩ = some (.slice p.pitems.a p.pitems.n p.pitems.c) := V2x.out.cell 26
      have dhits : wvx.cell? ⟨w.heap.size + 1, 27, none⟩ = some (.slice p.phits.a p.phits.n p.phits.c) := V2x.out.cell 27
      have lt1 := V2x.out.lt
      have lt0 := V1x.out.lt
      go_wp2_with (fail)
      refine (sameItems m.pitems.a p.pitems.a m.pitems.n p.pitems.n m.pitems.c p.pitems.c m.items p.items wvx (HM.out.hitems.on B3x.out) (HP.out.hitems.on B3x.out)).mono ?_
      rintro e wvxx ⟨zitems, rfl, hz, hb⟩
      have Zitems := Lib.hid hz
      have B3xx := Lib.hid (below_on B3x.out hb)
      have V1xx := Lib.hid ((Kept.of_below (F := []) hb (Nat.le_refl _)).blk V1x.out (by simp))
      have V2xx := Lib.hid ((Kept.of_below (F := []) hb (Nat.le_refl _)).blk V2x.out (by simp))
      clear hz hb citems ditems chits dhits lt1 lt0
      cases zitems
      · have eitems := Lib.hid (show ¬ m.items.map toItem = p.items.map toItem from fun h => nomatch Zitems.out.2 h)
        have NOT := Lib.hid (show ¬ Three m p from fun hh => eitems.out (hh.2.2.1))
        have FIN := Lib.hid (show ¬ m.toM = p.toM from fun h => nomatch (⟨fun h => (nomatch h), fun h => absurd h NOT.out⟩ : false = true ↔ Three m p).2 (HEQ.out.1 h).2.2)
        go_wp2
        go_ret
        exact tells_no FIN.out B3xx.out
      have eitems := Lib.hid (Zitems.out.1 rfl)
      have chits : wvxx.cell? ⟨w.heap.size, 27, none⟩ = some (.slice m.phits.a m.phits.n m.phits.c) := V1xx.out.cell 27
      have dhits : wvxx.cell? ⟨w.heap.size + 1, 27, none⟩ = some (.slice p.phits.a p.phits.n p.phits.c) := V2xx.out.cell 27
      have lt1 := V2xx.out.lt
      have lt0 := V1xx.out.lt
      go_wp2_with (fail)
      refine (same02 m.phits.a p.phits.a m.phits.n p.phits.n m.phits.c p.phits.c m.hits p.hits wvxx (HM.out.hhits.on B3xx.out) (HP.out.hhits.on B3xx.out)).mono ?_
      rintro e wvxxx ⟨zhits, rfl, hz, hb⟩
      have Zhits := Lib.hid hz
      have B3xxx := Lib.hid (below_on B3xx.out hb)
      have V1xxx := Lib.hid ((Kept.of_below (F := []) hb (Nat.le_refl _)).blk V1xx.out (by simp))
      have V2xxx := Lib.hid ((Kept.of_below (F := []) hb (Nat.le_refl _)).blk V2xx.out (by simp))
      clear hz hb chits dhits lt1 lt0
      have IFF := Lib.hid (show zhits = true ↔ Three m p from ⟨fun h => ⟨eversion.out, enames.out, eitems.out, Zhits.out.1 h⟩, fun h => Zhits.out.2 (h.2.2.2)⟩)
      have FIN := Lib.hid (show zhits = true ↔ m.toM = p.toM from ⟨fun h => HEQ.out.2 ⟨ONE.out.1 (by first | rfl | trivial), TWO.out.1 (by first | rfl | trivial), (show zhits = true ↔ Three m p by have h := IFF.out; first | exact h | simpa using h).1 h⟩, fun h => (show zhits = true ↔ Three m p by have h := IFF.out; first | exact h | simpa using h).2 (HEQ.out.1 h).2.2⟩)
      go_wp2
      go_ret
      exact ⟨_, rfl, FIN.out, B3xxx.out⟩
end Go.Proofs.Ytdgiellnklcioaa
