/-
  A message's cells by letters, and the message that they read as. No program stands here.
-/
import Derived.Test.YtdgiellnklcioaaMg
namespace Go.Proofs.Ytdgiellnklcioaa
open Go.RowKit

def shBytes : Sh := .slice (.int .u8) 1
/-- A slice's parts. -/
structure SlL where
  a : Option Addr
  n : Nat
  c : Nat
def SlL.v (s : SlL) : Value := .slice s.a s.n s.c
def SlL.nil : SlL := ⟨none, 0, 0⟩
structure MsgL where
  kind : Nat
  req : Nat
  caps : Nat
  token : Nat
  code : Nat
  n : Nat
  name : ByteArray
  cname : ByteArray
  dim : Nat
  metric : Nat
  graph : Bool
  links : Nat
  cwidth : Nat
  pch : SlL
  changes : List shChange.T
  id : Nat
  pvec : SlL
  vec : List Int
  k : Nat
  width : Nat
  pall : SlL
  all : List ByteArray
  pany : SlL
  any : List ByteArray
  pno : SlL
  no : List ByteArray
  num : Nat
  page : Nat
  pbytes : SlL
  bytes : List Int
  version : Nat
  pnames : SlL
  names : List ByteArray
  pitems : SlL
  items : List shItem.T
  phits : SlL
  hits : List shHit.T
def MsgL.cells (m : MsgL) : List Value := [.int .u8 (m.kind : Int), .int .u32 (m.req : Int), .int .u32 (m.caps : Int), .int .u64 (m.token : Int), .int .u8 (m.code : Int), .int .u32 (m.n : Int), .string m.name, .string m.cname, .int .u8 (m.dim : Int), .int .u8 (m.metric : Int), .bool m.graph, .int .u8 (m.links : Int), .int .u16 (m.cwidth : Int), .slice m.pch.a m.pch.n m.pch.c, .int .u32 (m.id : Int), .slice m.pvec.a m.pvec.n m.pvec.c, .int .u16 (m.k : Int), .int .u16 (m.width : Int), .slice m.pall.a m.pall.n m.pall.c, .slice m.pany.a m.pany.n m.pany.c, .slice m.pno.a m.pno.n m.pno.c, .int .u32 (m.num : Int), .int .u32 (m.page : Int), .slice m.pbytes.a m.pbytes.n m.pbytes.c, .int .u64 (m.version : Int), .slice m.pnames.a m.pnames.n m.pnames.c, .slice m.pitems.a m.pitems.n m.pitems.c, .slice m.phits.a m.phits.n m.phits.c]
/-- The message as mathematics has it. -/
def MsgL.toM (m : MsgL) : MsgV := ⟨m.kind, m.req, m.caps, m.token, m.code, m.n, strB m.name, ⟨strB m.cname, m.dim, m.metric, m.graph, m.links, m.cwidth⟩, m.changes.map toChange, m.id, m.vec, m.k, m.width, ⟨toTags m.all, toTags m.any, toTags m.no⟩, m.num, m.page, m.bytes.map Int.toNat, m.version, toTags m.names, m.items.map toItem, m.hits.map toHit⟩
/-- The message's letters say what is read in w. -/
structure MsgL.In (ok : Nat → Prop) (w : World) (m : MsgL) : Prop where
  hkind : m.kind ≤ 255
  hreq : m.req ≤ 4294967295
  hcaps : m.caps ≤ 4294967295
  htoken : m.token ≤ 18446744073709551615
  hcode : m.code ≤ 255
  hn : m.n ≤ 4294967295
  hname : m.name.size ≤ 140737488351232
  hcname : m.cname.size ≤ 140737488351232
  hdim : m.dim ≤ 255
  hmetric : m.metric ≤ 255
  hlinks : m.links ≤ 255
  hcwidth : m.cwidth ≤ 65535
  hchanges : Rd ok w shChanges [.slice m.pch.a m.pch.n m.pch.c] m.changes
  hid : m.id ≤ 4294967295
  hvec : Rd ok w shVec [.slice m.pvec.a m.pvec.n m.pvec.c] m.vec
  hk : m.k ≤ 65535
  hwidth : m.width ≤ 65535
  hall : Rd ok w shTags [.slice m.pall.a m.pall.n m.pall.c] m.all
  hany : Rd ok w shTags [.slice m.pany.a m.pany.n m.pany.c] m.any
  hno : Rd ok w shTags [.slice m.pno.a m.pno.n m.pno.c] m.no
  hnum : m.num ≤ 4294967295
  hpage : m.page ≤ 4294967295
  hbytes : Rd ok w shBytes [.slice m.pbytes.a m.pbytes.n m.pbytes.c] m.bytes
  hversion : m.version ≤ 18446744073709551615
  hnames : Rd ok w shTags [.slice m.pnames.a m.pnames.n m.pnames.c] m.names
  hitems : Rd ok w shItems [.slice m.pitems.a m.pitems.n m.pitems.c] m.items
  hhits : Rd ok w shHits [.slice m.phits.a m.phits.n m.phits.c] m.hits
section
variable {ok ok' : Nat → Prop} {w w' : World} {m : MsgL}
theorem MsgL.In.stay (h : m.In ok w) (hs : w.heap.size ≤ w'.heap.size) (hb : ∀ k, ok k → k < w.heap.size → w'.heap[k]? = w.heap[k]?) (hok : ∀ k, ok k → k < w.heap.size → ok' k) : m.In ok' w' :=
  ⟨h.hkind, h.hreq, h.hcaps, h.htoken, h.hcode, h.hn, h.hname, h.hcname, h.hdim, h.hmetric, h.hlinks, h.hcwidth, h.hchanges.stay hs hb hok, h.hid, h.hvec.stay hs hb hok, h.hk, h.hwidth, h.hall.stay hs hb hok, h.hany.stay hs hb hok, h.hno.stay hs hb hok, h.hnum, h.hpage, h.hbytes.stay hs hb hok, h.hversion, h.hnames.stay hs hb hok, h.hitems.stay hs hb hok, h.hhits.stay hs hb hok⟩
theorem MsgL.In.on (h : m.In ok w) (hb : Below w.heap.size w w') : m.In ok w' := h.stay hb.size (fun k _ hk => hb.block k hk) (fun _ h _ => h)
theorem MsgL.In.kept {F : List Nat} (h : m.In ok w) (hk : Kept F w w') (hF : ∀ k ∈ F, ¬ ok k) : m.In ok w' := h.stay hk.size (fun k ho hlt => hk.block k hlt (fun hx => hF k hx ho)) (fun _ h _ => h)
theorem MsgL.In.under {B : Nat} (h : m.In (· < B) w) (hb : Below B w w') : m.In (· < B) w' := h.stay hb.size (fun k hk _ => hb.block k hk) (fun _ h _ => h)
theorem MsgL.In.mono (h : m.In ok w) (ho : ∀ k, ok k → k < w.heap.size → ok' k) : m.In ok' w := h.stay (Nat.le_refl _) (fun _ _ _ => rfl) ho
theorem MsgL.In.lt (h : m.In ok w) : m.In (· < w.heap.size) w := h.mono fun _ _ hk => hk

theorem num_u8 {cs : List Value} {x : Int} (h : Rd ok w (.int .u8) cs x) : ∃ n : Nat, x = (n : Int) ∧ cs = [.int .u8 (n : Int)] ∧ n ≤ 255 := by
  obtain ⟨rfl, hw⟩ := Rd.int_is h
  obtain ⟨k, hk⟩ := Int.eq_ofNat_of_zero_le (u8_wf hw).1
  have hk2 := (u8_wf hw).2
  subst hk
  exact ⟨k, rfl, rfl, by omega⟩
theorem num_u16 {cs : List Value} {x : Int} (h : Rd ok w (.int .u16) cs x) : ∃ n : Nat, x = (n : Int) ∧ cs = [.int .u16 (n : Int)] ∧ n ≤ 65535 := by
  obtain ⟨rfl, hw⟩ := Rd.int_is h
  obtain ⟨k, hk⟩ := Int.eq_ofNat_of_zero_le (u16_wf hw).1
  have hk2 := (u16_wf hw).2
  subst hk
  exact ⟨k, rfl, rfl, by omega⟩
theorem num_u32 {cs : List Value} {x : Int} (h : Rd ok w (.int .u32) cs x) : ∃ n : Nat, x = (n : Int) ∧ cs = [.int .u32 (n : Int)] ∧ n ≤ 4294967295 := by
  obtain ⟨rfl, hw⟩ := Rd.int_is h
  obtain ⟨k, hk⟩ := Int.eq_ofNat_of_zero_le (u32_wf hw).1
  have hk2 := (u32_wf hw).2
  subst hk
  exact ⟨k, rfl, rfl, by omega⟩
theorem num_u64 {cs : List Value} {x : Int} (h : Rd ok w (.int .u64) cs x) : ∃ n : Nat, x = (n : Int) ∧ cs = [.int .u64 (n : Int)] ∧ n ≤ 18446744073709551615 := by
  obtain ⟨rfl, hw⟩ := Rd.int_is h
  obtain ⟨k, hk⟩ := Int.eq_ofNat_of_zero_le (u64_wf hw).1
  have hk2 := (u64_wf hw).2
  subst hk
  exact ⟨k, rfl, rfl, by omega⟩
theorem sl_is {e : Sh} {sz : Nat} {cs : List Value} {xs : List e.T} (h : Rd ok w (.slice e sz) cs xs) : ∃ s : SlL, cs = [.slice s.a s.n s.c] ∧ Rd ok w (.slice e sz) [.slice s.a s.n s.c] xs := by
  obtain ⟨a, n, c, rfl, _, _, h2⟩ := Rd.slice_is h
  exact ⟨⟨a, n, c⟩, rfl, h2⟩
set_option maxRecDepth 100000 in
theorem rd_msg {cs : List Value} {x : shMsg.T} (h : Rd ok w shMsg cs x) : ∃ m : MsgL, cs = m.cells ∧ m.In ok w := by
  obtain ⟨c0, r0, rfl, a0, h0⟩ := Rd.pair_is h
  obtain ⟨nkind, _, rfl, bkind⟩ := num_u8 a0
  obtain ⟨c1, r1, rfl, a1, h1⟩ := Rd.pair_is h0
  obtain ⟨nreq, _, rfl, breq⟩ := num_u32 a1
  obtain ⟨c2, r2, rfl, a2, h2⟩ := Rd.pair_is h1
  obtain ⟨ncaps, _, rfl, bcaps⟩ := num_u32 a2
  obtain ⟨c3, r3, rfl, a3, h3⟩ := Rd.pair_is h2
  obtain ⟨ntoken, _, rfl, btoken⟩ := num_u64 a3
  obtain ⟨c4, r4, rfl, a4, h4⟩ := Rd.pair_is h3
  obtain ⟨ncode, _, rfl, bcode⟩ := num_u8 a4
  obtain ⟨c5, r5, rfl, a5, h5⟩ := Rd.pair_is h4
  obtain ⟨nn, _, rfl, bn⟩ := num_u32 a5
  obtain ⟨c6, r6, rfl, a6, h6⟩ := Rd.pair_is h5
  obtain ⟨rfl, bname⟩ := Rd.str_is a6
  obtain ⟨c7, r7, rfl, a7, h7⟩ := Rd.pair_is h6
  obtain ⟨c8, r8, rfl, a8, h8⟩ := Rd.pair_is a7
  obtain ⟨rfl, bcname⟩ := Rd.str_is a8
  obtain ⟨c9, r9, rfl, a9, h9⟩ := Rd.pair_is h8
  obtain ⟨ndim, _, rfl, bdim⟩ := num_u8 a9
  obtain ⟨c10, r10, rfl, a10, h10⟩ := Rd.pair_is h9
  obtain ⟨nmetric, _, rfl, bmetric⟩ := num_u8 a10
  obtain ⟨c11, r11, rfl, a11, h11⟩ := Rd.pair_is h10
  obtain rfl := Rd.bool_is a11
  obtain ⟨c12, r12, rfl, a12, h12⟩ := Rd.pair_is h11
  obtain ⟨nlinks, _, rfl, blinks⟩ := num_u8 a12
  obtain ⟨c13, r13, rfl, a13, h13⟩ := Rd.pair_is h12
  obtain ⟨ncwidth, _, rfl, bcwidth⟩ := num_u16 a13
  obtain rfl := Rd.unit_is h13
  obtain ⟨c14, r14, rfl, a14, h14⟩ := Rd.pair_is h7
  obtain ⟨spch, rfl, bchanges⟩ := sl_is (e := shChange) a14
  obtain ⟨c15, r15, rfl, a15, h15⟩ := Rd.pair_is h14
  obtain ⟨nid, _, rfl, bid⟩ := num_u32 a15
  obtain ⟨c16, r16, rfl, a16, h16⟩ := Rd.pair_is h15
  obtain ⟨spvec, rfl, bvec⟩ := sl_is (e := .int .i32) a16
  obtain ⟨c17, r17, rfl, a17, h17⟩ := Rd.pair_is h16
  obtain ⟨nk, _, rfl, bk⟩ := num_u16 a17
  obtain ⟨c18, r18, rfl, a18, h18⟩ := Rd.pair_is h17
  obtain ⟨nwidth, _, rfl, bwidth⟩ := num_u16 a18
  obtain ⟨c19, r19, rfl, a19, h19⟩ := Rd.pair_is h18
  obtain ⟨c20, r20, rfl, a20, h20⟩ := Rd.pair_is a19
  obtain ⟨spall, rfl, ball⟩ := sl_is (e := .str) a20
  obtain ⟨c21, r21, rfl, a21, h21⟩ := Rd.pair_is h20
  obtain ⟨spany, rfl, bany⟩ := sl_is (e := .str) a21
  obtain ⟨c22, r22, rfl, a22, h22⟩ := Rd.pair_is h21
  obtain ⟨spno, rfl, bno⟩ := sl_is (e := .str) a22
  obtain rfl := Rd.unit_is h22
  obtain ⟨c23, r23, rfl, a23, h23⟩ := Rd.pair_is h19
  obtain ⟨nnum, _, rfl, bnum⟩ := num_u32 a23
  obtain ⟨c24, r24, rfl, a24, h24⟩ := Rd.pair_is h23
  obtain ⟨npage, _, rfl, bpage⟩ := num_u32 a24
  obtain ⟨c25, r25, rfl, a25, h25⟩ := Rd.pair_is h24
  obtain ⟨spbytes, rfl, bbytes⟩ := sl_is (e := .int .u8) a25
  obtain ⟨c26, r26, rfl, a26, h26⟩ := Rd.pair_is h25
  obtain ⟨nversion, _, rfl, bversion⟩ := num_u64 a26
  obtain ⟨c27, r27, rfl, a27, h27⟩ := Rd.pair_is h26
  obtain ⟨spnames, rfl, bnames⟩ := sl_is (e := .str) a27
  obtain ⟨c28, r28, rfl, a28, h28⟩ := Rd.pair_is h27
  obtain ⟨spitems, rfl, bitems⟩ := sl_is (e := shItem) a28
  obtain ⟨c29, r29, rfl, a29, h29⟩ := Rd.pair_is h28
  obtain ⟨sphits, rfl, bhits⟩ := sl_is (e := shHit) a29
  obtain rfl := Rd.unit_is h29
  exact ⟨⟨nkind, nreq, ncaps, ntoken, ncode, nn, _, _, ndim, nmetric, _, nlinks, ncwidth, spch, _, nid, spvec, _, nk, nwidth, spall, _, spany, _, spno, _, nnum, npage, spbytes, _, nversion, spnames, _, spitems, _, sphits, _⟩, rfl, ⟨bkind, breq, bcaps, btoken, bcode, bn, bname, bcname, bdim, bmetric, blinks, bcwidth, bchanges, bid, bvec, bk, bwidth, ball, bany, bno, bnum, bpage, bbytes, bversion, bnames, bitems, bhits⟩⟩
end
end Go.Proofs.Ytdgiellnklcioaa
