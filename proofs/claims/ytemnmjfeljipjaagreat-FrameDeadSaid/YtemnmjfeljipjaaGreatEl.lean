/-
  How many bytes a message has at most. No program stands here.
-/
import Derived.Test.YtemnmjfeljipjaaGreatMp
namespace Go.Proofs.YtemnmjfeljipjaaGreat
open Go.RowKit

theorem many_len2 {α : Type} (C : Cod α) (m : Nat) (hm : ∀ a, C.fits a → (C.enc a).length ≤ m) (l : List α) (h : (cMany C).fits l) : ((cMany C).enc l).length ≤ 10 + 128 * m := by
  obtain ⟨h1, h2⟩ := (cMany_fits C l).1 h
  have h3 := vput_len10 (n := l.length) (by omega)
  have h4 := encN_len C l m (fun c hc => hm c (h2 c hc))
  have h5 : l.length * m ≤ 128 * m := Nat.mul_le_mul_right _ h1
  rw [cMany_enc, List.length_append]
  omega
theorem cNum_len {most : Nat} {hm : most < 18446744073709551616} (n : Nat) (h : (cNum most hm).fits n) : ((cNum most hm).enc n).length ≤ 10 := vput_len10 (n := n) (by have : n ≤ most := h; omega)
theorem fld_len (f : Fld) (x : MsgV) (h : f.cod.fits (f.get x)) : (f.cod.enc (f.get x)).length ≤ 110000000 := by
  cases f
  case conf =>
    have h : cConf.fits x.conf := h
    show (cConf.enc x.conf).length ≤ _
    obtain ⟨⟨h1, h2, h3, h4, h5, h6⟩, _⟩ := h
    have e : cConf.enc x.conf = cStr.enc x.conf.name ++ (vput x.conf.dim ++ (vput x.conf.metric ++ (cFlag.enc x.conf.graph ++ (vput x.conf.links ++ vput x.conf.width)))) := rfl
    have l1 : (cStr.enc x.conf.name).length ≤ 4106 := cStr_len _ h1
    have l2 := cNum_len (most := 255) (hm := by decide) _ h2
    have l3 := cNum_len (most := 1) (hm := by decide) _ h3
    have l4 := cFlag_len x.conf.graph
    have l5 := cNum_len (most := 255) (hm := by decide) _ h5
    have l6 := cNum_len (most := 65535) (hm := by decide) _ h6
    have l2 : (vput x.conf.dim).length ≤ 10 := l2
    have l3 : (vput x.conf.metric).length ≤ 10 := l3
    have l5 : (vput x.conf.links).length ≤ 10 := l5
    have l6 : (vput x.conf.width).length ≤ 10 := l6
    rw [e]
    simp only [List.length_append]
    omega
  case filter =>
    have h : cFilter.fits x.filter := h
    show (cFilter.enc x.filter).length ≤ _
    obtain ⟨⟨h1, h2, h3⟩, _⟩ := h
    have e : cFilter.enc x.filter = cStrs.enc x.filter.all ++ (cStrs.enc x.filter.any ++ cStrs.enc x.filter.no) := rfl
    have l1 : (cStrs.enc x.filter.all).length ≤ 600000 := cStrs_len _ h1
    have l2 : (cStrs.enc x.filter.any).length ≤ 600000 := cStrs_len _ h2
    have l3 : (cStrs.enc x.filter.no).length ≤ 600000 := cStrs_len _ h3
    rw [e]
    simp only [List.length_append]
    omega
  case changes => exact Nat.le_trans (many_len2 cChange 800000 cChange_len _ h) (by decide)
  case vec => exact Nat.le_trans (cVec_len _ h) (by decide)
  case names => exact Nat.le_trans (cStrs_len _ h) (by decide)
  case items => exact Nat.le_trans (many_len2 cItem 700000 cItem_len _ h) (by decide)
  case hits => exact Nat.le_trans (many_len2 cHit 20 cHit_len _ h) (by decide)
  case name => exact Nat.le_trans (cStr_len _ h) (by decide)
  case bytes => exact Nat.le_trans (cStr_len _ h) (by decide)
  all_goals exact Nat.le_trans (cNum_len (hm := by decide) _ h) (by decide)
theorem encF_len (fs : List Fld) (x : MsgV) (h : fitF fs x) : (encF fs x).length ≤ fs.length * 110000000 := by
  induction fs with
  | nil => simp [encF]
  | cons f fs ih =>
    have e : encF (f :: fs) x = f.cod.enc (f.get x) ++ encF fs x := by simp [encF]
    have h1 := fld_len f x (h f (by simp))
    have h2 := ih (fun g hg => h g (by simp [hg]))
    rw [e, List.length_append, List.length_cons]
    omega
end Go.Proofs.YtemnmjfeljipjaaGreat
