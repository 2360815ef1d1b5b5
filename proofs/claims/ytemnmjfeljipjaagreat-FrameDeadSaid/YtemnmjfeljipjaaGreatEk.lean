/-
  General: b[k:h] of bytes; a struct's result through a cell beside two more results. No program stands here.
-/
import Derived.Test.YtemnmjfeljipjaaGreatVt
namespace Go.Proofs.YtemnmjfeljipjaaGreat
open Go.RowKit Go.ChangeShapes Go.WideShapes Go.ChangeAt

theorem cut2_bytes {P : Program} (t e : TypeId) (hu : P.underlying t = some (.slice e)) (he : P.elem t = e) (hi : (P.info? e).map (fun i => (i.zero, i.size, i.bytes)) = some (some (.int .u8 0), 1, 1))
    (a : Option Addr) (n c k h : Nat) (l m : Int) (hl : l = (k : Int)) (hm : m = (h : Int)) (hk : k ≤ h) (hn : h ≤ n) (hc : n ≤ c) :
    ∃ a', (∀ w, (Instr.slice t (.slice a n c) (some (.int .i64 l)) (some (.int .i64 m)) none).run P w = .ok (.slice a' (h - k) (c - k)) w) ∧ ∀ w bs, BReads w a n c bs → BReads w a' (h - k) (c - k) ((bs.drop k).take (h - k)) := by
  obtain ⟨i0, hi, hz0, hz1, hz2⟩ := info_parts hi
  refine ⟨if c = k then a else a.map (·.add k), fun w => ?_, fun w bs hb => ?_⟩
  · have hs : (sizeOf (P.elem t)).run P w = .ok 1 w := by
      rw [he]
      simp [sizeOf, typeInfo, hi, hz1]
    rw [run_slice_lh (P := P) w t a n c (by rw [he]; exact hu) .i64 .i64 l m (by omega) (by omega) (by omega), hs]
    subst hl hm
    simp [Result.andThen, sliced]
  · have key : BReads w (if c = k then a else a.map (·.add k)) (n - k) (c - k) (bs.drop k) := by
      have hroom := hb.room
      have hlen := hb.len
      refine ⟨by simp; omega, by have := hb.small; omega, fun b hbm => hb.byte b (List.mem_of_mem_drop hbm), fun e => ?_, by omega, ?_⟩
      · split at e
        · omega
        · have ha : a = none := by cases a <;> simp at e ⊢
          have := hb.nilOk ha
          omega
      · by_cases hn : n - k = 0
        · exact .inl hn
        · rcases hb.cells with h0 | ⟨b, off, rfl, hlt, hc⟩
          · omega
          · refine .inr ⟨b, off + k, ?_, hlt, fun i hi => ?_⟩
            · rw [if_neg (by omega)]
              simp [add_plain]
            · rw [Nat.add_assoc, hc (k + i) (by omega)]
              simp [byteAt, List.getD]
    exact key.take (by omega)
theorem results_row_tmp2 {P : Program} {fn : Func} {p q r : Tmp} {ty : TypeId} (h : fn.results = #[.cell p ty, .tmp q, .tmp r]) (tmps : Array Value) (w : World) (g : Nat) (t : TypeId) (cs : Array Value) (fr : Nat × Nat) (d : TypeDesc)
    (hp : tmps.getD p undef = .pointer (some ⟨g, 0, none⟩)) (hg : w.heap[g]? = some (.cells cs t fr))
    (hu : P.underlying ty = some d) (hd : (match d with | .struct _ | .array _ _ => true | _ => false) = true) (hi : (P.info? ty).map (·.size) = some cs.size) (v : Value) (hv : tmps.getD q undef = v) (u : Value) (hr : tmps.getD r undef = u) :
    (results fn tmps).run P w = .ok (.tuple #[.agg cs, v, u]) w := by
  have hp' : tmps[p]?.getD undef = .pointer (some ⟨g, 0, none⟩) := by simpa using hp
  have hv' : tmps[q]?.getD undef = v := by simpa using hv
  have hr' : tmps[r]?.getD undef = u := by simpa using hr
  simp [results, h, hp', hv', hr', asAddr, run_loadVar_row w g t ty cs fr d hg hu hd hi]
end Go.Proofs.YtemnmjfeljipjaaGreat
