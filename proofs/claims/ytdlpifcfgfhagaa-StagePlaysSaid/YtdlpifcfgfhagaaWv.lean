/-
  The document's Get and GetInt of numbers, by walks over their texts.
-/
import Derived.Test.YtdlpifcfgfhagaaVe
import Derived.Test.YtdlpifcfgfhagaaVb
import Derived.IntWalk
namespace Go.Proofs.Ytdlpifcfgfhagaa
open Go.RowKit

set_option maxRecDepth 100000 in
set_option maxHeartbeats 6400000 in
theorem rget_any (a : Option Addr) (n c : Nat) (bs : List Nat) (w : World) (h : BReads w a n c bs) :
    Calls Try.prog 51 #[.slice a n c] w fun e w' => GotV bs w e w' := by
  have HS := Lib.hid h.small
  have HC := Lib.hid h.cells
  have HL := Lib.hid h.len
  have HA := Lib.hid h.at_lt
  have HR := Lib.hid h
  have hroom := h.room
  clear h
  have hsm : n ≤ 140737488355328 := HS.out
  go_enter Try.func51, Try.ntmps51
  go_wp2
  go_loop [5] (fun s5 => ∃ k : Nat, k ≤ n ∧ k ≤ 10 ∧ s5 = .int .i64 k ∧ Hid (goesOn bs k)) (fun s5 => n - (intOf s5).toNat)
  case atStart => exact ⟨0, Nat.zero_le _, by omega, rfl, fun i hi => by omega⟩
  case round =>
    obtain ⟨k, hk, hk10, rfl, HG⟩ := hrel
    by_cases hc10 : k = 10
    · subst hc10
      have HV := Lib.hid (vget_ten HG.out (by rw [HL.out]; exact hk))
      by_cases hc : 10 < n
      all_goals
        go_wp2
        go_ret3
        exact ⟨by rw [HV.out]; rfl, Below.refl _ _⟩
    by_cases hc : k < n
    · rcases HC.out with h0 | ⟨b, off, rfl, hlt, hcl⟩
      · omega
      obtain ⟨p, hp⟩ : ∃ p, byteAt bs k = p := ⟨_, rfl⟩
      have hcell := hcl k hc
      have hp256 := HA.out k
      rw [hp] at hcell hp256
      have HP := Lib.hid hp
      have HCL := Lib.hid hcl
      clear hcl hp
      by_cases hp1 : 128 ≤ p
      · go_wp2
        go_round
        case rel => exact ⟨k + 1, by omega, by omega, by go_num, fun i hi => by
          rcases Nat.lt_or_ge i k with h1 | h1
          · exact HG.out i h1
          · have : i = k := by omega
            subst this
            rw [HP.out]; exact hp1⟩
        case measure => simp [intOf]; omega
      · by_cases h9 : k = 9 ∧ 1 < p
        · obtain ⟨rfl, hp2⟩ := h9
          have HV := Lib.hid (vget_nine HG.out (by rw [HL.out]; exact hc) (by rw [HP.out]; exact hp2))
          go_wp2
          go_ret3
          exact ⟨by rw [HV.out]; rfl, Below.refl _ _⟩
        · have hk9 : k ≤ 9 := by omega
          have HP9 := Lib.hid (show k = 9 → byteAt bs k ≤ 1 from fun e => by rw [HP.out]; omega)
          have HT := Lib.hid (vval_end_lt (by rw [HL.out]; exact hc) hk9 (by rw [HP.out]; omega) HP9.out)
          have HV := Lib.hid (vget_end HG.out (by rw [HL.out]; exact hc) hk9 (by rw [HP.out]; omega) HP9.out HR.out.byte)
          by_cases hq : k = 9
          · have hb9 : ((k : Int) == 9) = true := by simp; omega
            have hn9 : 9 < n := by omega
            have hcell9 : w.cell? ⟨b, off + 9, none⟩ = some (.int .u8 (p : Int)) := by rw [← hq]; exact hcell
            have hp2 : p ≤ 1 := by omega
            clear hq h9
            go_wp2
            go_loop [6, 7] (fun s6 s7 => ∃ (i : Int) (V : Nat), s7 = .int .i64 i ∧ -1 ≤ i ∧ i ≤ k ∧ s6 = .int .u64 V ∧ Hid (vval ((bs.take (k + 1)).drop (i + 1).toNat) = V)) (fun _ s7 => (intOf s7 + 1).toNat)
            case atStart => exact ⟨k, 0, rfl, by omega, by omega, rfl, by
              unfold Hid
              rw [show ((k : Int) + 1).toNat = k + 1 by omega, List.drop_eq_nil_of_le (by simp; omega)]
              rfl⟩
            case round =>
              obtain ⟨i, V, rfl, hi0, hi1, rfl, HW⟩ := hrel
              by_cases hi : 0 ≤ i
              · obtain ⟨j, rfl⟩ := Int.eq_ofNat_of_zero_le hi
                have hj : j ≤ k := by omega
                obtain ⟨q, hq⟩ : ∃ q, byteAt bs j = q := ⟨_, rfl⟩
                have hcj := HCL.out j (by omega)
                have hq256 := HA.out j
                rw [hq] at hcj hq256
                have HJ := Lib.hid (vval_drop_at bs k j (by rw [HL.out]; exact hc) hj)
                obtain ⟨U, hU⟩ : ∃ U, vval ((bs.take (k + 1)).drop j) = U := ⟨_, rfl⟩
                have hUV : q % 128 + 128 * V = U := by
                  rw [← hU, HJ.out, hq, ← HW.out]
                  rw [show (((j : Nat) : Int) + 1).toNat = j + 1 by omega]
                have hU64 : U < 18446744073709551616 := by
                  have h1 := vval_drop_le (bs.take (k + 1)) j
                  have h2 := HT.out
                  omega
                have hsum : IntKind.u64.wrap (IntKind.u64.wrap ((V : Int) * 128) + (q : Int) % 128) = (U : Int) := by
                  rw [IntKind.wrap_u64, IntKind.wrap_u64]
                  omega
                have HU := Lib.hid hU
                clear hq hU hUV hU64
                go_wp2
                go_round
                case rel => exact ⟨(j : Int) - 1, U, by go_num, by omega, by omega, rfl, by
                  unfold Hid
                  rw [show ((j : Int) - 1 + 1).toNat = j by omega]
                  exact HU.out⟩
                case measure => (try simp [intOf]); (try omega)
              · have hi' : i = -1 := by omega
                subst hi'
                have HU := Lib.hid (show vval (bs.take (k + 1)) = V from HW.out)
                clear HW
                have hw1 : IntKind.i64.wrap ((k : Int) + 1) = (k : Int) + 1 := IntWalk.i64_in _ (by omega)
                have hw2 : 0 ≤ (k : Int) + 1 := by omega
                have hw3 : ((k : Int) + 1).toNat = k + 1 := by omega
                have hw4 : (k : Int) + 1 ≤ c := by omega
                have hw5 : k + 1 ≤ c := by omega
                have HS1 := Lib.hid (fun (w' : World) (hb : Below w.heap.size w w') => (HR.out.take (k := k + 1) (by omega)).on hb |>.str (P := Try.prog) 31 5 Try.underlying31 Try.underlying5 9 Try.underlying9)
                go_wp2
                have kw := HS1.out w.drew (Below.refl _ _).drew
                by_cases hE : vput V = bs.take (k + 1)
                · have HE := Lib.hid hE
                  have hbq := strOfB_beq (vput_byte V) (fun b hb => HR.out.byte b (List.mem_of_mem_take hb) : ∀ b ∈ bs.take (k + 1), b < 256)
                  rw [decide_eq_true hE] at hbq
                  clear hE
                  go_region_with (go_at_call 61; refine (rput_any V _ (by rw [← HU.out]; exact HT.out)).mono ?_; rintro e w2 ⟨v, rfl, ho, hb⟩; have kv := ho.str (P := Try.prog) (by have := vput_len10 (n := V) (by rw [← HU.out]; exact HT.out); omega) 31 5 Try.underlying31 Try.underlying5 9 Try.underlying9; have kx := HS1.out w2 ((Below.refl _ _).drew.trans hb); have HB := Lib.hid hb; clear hb ho)
                  all_goals
                    clear kv kx
                    go_wp2
                    go_ret3
                    exact ⟨by rw [HV.out, HU.out, if_pos HE.out]; rfl, (Below.refl _ _).drew.trans HB.out⟩
                · have HE := Lib.hid hE
                  have hbq := strOfB_beq (vput_byte V) (fun b hb => HR.out.byte b (List.mem_of_mem_take hb) : ∀ b ∈ bs.take (k + 1), b < 256)
                  rw [decide_eq_false hE] at hbq
                  clear hE
                  go_region_with (go_at_call 61; refine (rput_any V _ (by rw [← HU.out]; exact HT.out)).mono ?_; rintro e w2 ⟨v, rfl, ho, hb⟩; have kv := ho.str (P := Try.prog) (by have := vput_len10 (n := V) (by rw [← HU.out]; exact HT.out); omega) 31 5 Try.underlying31 Try.underlying5 9 Try.underlying9; have kx := HS1.out w2 ((Below.refl _ _).drew.trans hb); have HB := Lib.hid hb; clear hb ho)
                  all_goals
                    clear kv kx
                    go_wp2
                    go_ret3
                    exact ⟨by rw [HV.out, HU.out, if_neg HE.out]; rfl, (Below.refl _ _).drew.trans HB.out⟩
          · have hb9 : ((k : Int) == 9) = false := by simp; omega
            clear h9 hq
            go_wp2
            go_loop [6, 7] (fun s6 s7 => ∃ (i : Int) (V : Nat), s7 = .int .i64 i ∧ -1 ≤ i ∧ i ≤ k ∧ s6 = .int .u64 V ∧ Hid (vval ((bs.take (k + 1)).drop (i + 1).toNat) = V)) (fun _ s7 => (intOf s7 + 1).toNat)
            case atStart => exact ⟨k, 0, rfl, by omega, by omega, rfl, by
              unfold Hid
              rw [show ((k : Int) + 1).toNat = k + 1 by omega, List.drop_eq_nil_of_le (by simp; omega)]
              rfl⟩
            case round =>
              obtain ⟨i, V, rfl, hi0, hi1, rfl, HW⟩ := hrel
              by_cases hi : 0 ≤ i
              · obtain ⟨j, rfl⟩ := Int.eq_ofNat_of_zero_le hi
                have hj : j ≤ k := by omega
                obtain ⟨q, hq⟩ : ∃ q, byteAt bs j = q := ⟨_, rfl⟩
                have hcj := HCL.out j (by omega)
                have hq256 := HA.out j
                rw [hq] at hcj hq256
                have HJ := Lib.hid (vval_drop_at bs k j (by rw [HL.out]; exact hc) hj)
                obtain ⟨U, hU⟩ : ∃ U, vval ((bs.take (k + 1)).drop j) = U := ⟨_, rfl⟩
                have hUV : q % 128 + 128 * V = U := by
                  rw [← hU, HJ.out, hq, ← HW.out]
                  rw [show (((j : Nat) : Int) + 1).toNat = j + 1 by omega]
                have hU64 : U < 18446744073709551616 := by
                  have h1 := vval_drop_le (bs.take (k + 1)) j
                  have h2 := HT.out
                  omega
                have hsum : IntKind.u64.wrap (IntKind.u64.wrap ((V : Int) * 128) + (q : Int) % 128) = (U : Int) := by
                  rw [IntKind.wrap_u64, IntKind.wrap_u64]
                  omega
                have HU := Lib.hid hU
                clear hq hU hUV hU64
                go_wp2
                go_round
                case rel => exact ⟨(j : Int) - 1, U, by go_num, by omega, by omega, rfl, by
                  unfold Hid
                  rw [show ((j : Int) - 1 + 1).toNat = j by omega]
                  exact HU.out⟩
                case measure => (try simp [intOf]); (try omega)
              · have hi' : i = -1 := by omega
                subst hi'
                have HU := Lib.hid (show vval (bs.take (k + 1)) = V from HW.out)
                clear HW
                have hw1 : IntKind.i64.wrap ((k : Int) + 1) = (k : Int) + 1 := IntWalk.i64_in _ (by omega)
                have hw2 : 0 ≤ (k : Int) + 1 := by omega
                have hw3 : ((k : Int) + 1).toNat = k + 1 := by omega
                have hw4 : (k : Int) + 1 ≤ c := by omega
                have hw5 : k + 1 ≤ c := by omega
                have HS1 := Lib.hid (fun (w' : World) (hb : Below w.heap.size w w') => (HR.out.take (k := k + 1) (by omega)).on hb |>.str (P := Try.prog) 31 5 Try.underlying31 Try.underlying5 9 Try.underlying9)
                go_wp2
                have kw := HS1.out w.drew (Below.refl _ _).drew
                by_cases hE : vput V = bs.take (k + 1)
                · have HE := Lib.hid hE
                  have hbq := strOfB_beq (vput_byte V) (fun b hb => HR.out.byte b (List.mem_of_mem_take hb) : ∀ b ∈ bs.take (k + 1), b < 256)
                  rw [decide_eq_true hE] at hbq
                  clear hE
                  go_region_with (go_at_call 61; refine (rput_any V _ (by rw [← HU.out]; exact HT.out)).mono ?_; rintro e w2 ⟨v, rfl, ho, hb⟩; have kv := ho.str (P := Try.prog) (by have := vput_len10 (n := V) (by rw [← HU.out]; exact HT.out); omega) 31 5 Try.underlying31 Try.underlying5 9 Try.underlying9; have kx := HS1.out w2 ((Below.refl _ _).drew.trans hb); have HB := Lib.hid hb; clear hb ho)
                  all_goals
                    clear kv kx
                    go_wp2
                    go_ret3
                    exact ⟨by rw [HV.out, HU.out, if_pos HE.out]; rfl, (Below.refl _ _).drew.trans HB.out⟩
                · have HE := Lib.hid hE
                  have hbq := strOfB_beq (vput_byte V) (fun b hb => HR.out.byte b (List.mem_of_mem_take hb) : ∀ b ∈ bs.take (k + 1), b < 256)
                  rw [decide_eq_false hE] at hbq
                  clear hE
                  go_region_with (go_at_call 61; refine (rput_any V _ (by rw [← HU.out]; exact HT.out)).mono ?_; rintro e w2 ⟨v, rfl, ho, hb⟩; have kv := ho.str (P := Try.prog) (by have := vput_len10 (n := V) (by rw [← HU.out]; exact HT.out); omega) 31 5 Try.underlying31 Try.underlying5 9 Try.underlying9; have kx := HS1.out w2 ((Below.refl _ _).drew.trans hb); have HB := Lib.hid hb; clear hb ho)
                  all_goals
                    clear kv kx
                    go_wp2
                    go_ret3
                    exact ⟨by rw [HV.out, HU.out, if_neg HE.out]; rfl, (Below.refl _ _).drew.trans HB.out⟩
    · have hkn : k = n := by omega
      subst hkn
      have HV := Lib.hid (vget_all HG.out HL.out.symm (by omega))
      by_cases h9 : k = 9
      · subst h9
        go_wp2
        go_ret3
        exact ⟨by rw [HV.out]; rfl, Below.refl _ _⟩
      · go_wp2
        go_ret3
        exact ⟨by rw [HV.out]; rfl, Below.refl _ _⟩

theorem rget_eq (a : Option Addr) (n c : Nat) (bs : List Nat) (w : World) (r1 r2 r3 : Nat) (h : BReads w a n c bs) (hr : vget 0 0 bs = (r1, r2, r3)) :
    Calls Try.prog 51 #[.slice a n c] w fun e w' => e = .returned (.tuple #[.int .u64 r1, .int .i64 r2, .int .i64 r3]) ∧ Below w.heap.size w w' := by
  have := rget_any a n c bs w h
  unfold GotV at this
  rw [hr] at this
  exact this

set_option maxRecDepth 100000 in
set_option maxHeartbeats 1600000 in
theorem rgetint_any (a : Option Addr) (n c : Nat) (bs : List Nat) (w : World) (h : BReads w a n c bs) :
    Calls Try.prog 75 #[.slice a n c] w fun e w' => GotIV bs w e w' := by
  have HR := Lib.hid h
  have HU := Lib.hid (vget_lt bs)
  clear h
  obtain ⟨r1, r2, r3, hr⟩ : ∃ r1 r2 r3, vget 0 0 bs = (r1, r2, r3) := ⟨_, _, _, rfl⟩
  have HE := Lib.hid hr
  rw [hr] at HU
  clear hr
  obtain ⟨m, hm⟩ : ∃ m, r1 / 2 = m := ⟨_, rfl⟩
  have hmb : m ≤ 9223372036854775807 := by have := HU.out; simp only at this; omega
  rcases open_bounds r1 HU.out with ⟨h2, h3⟩ | ⟨h2, h3⟩
  all_goals
    rw [hm] at h3
    have H3 := Lib.hid h3
    have hrem : ((r1 : Int) % 2) = ((r1 % 2 : Nat) : Int) := by omega
    rw [h2] at hrem
    have hquo : (r1 : Int) / 2 = (m : Int) := by omega
    have HMB := Lib.hid hmb
    have hmi : (m : Int) ≤ 9223372036854775807 := by omega
    clear h2 h3 hm hmb
    go_enter Try.func75, Try.ntmps75
    go_wp2_with (fail)
    refine (rget_eq a n c bs w r1 r2 r3 HR.out HE.out).mono ?_
    rintro e w' ⟨rfl, hb⟩
    have HB := Lib.hid hb
    clear hb
    go_wp2
    go_ret3
    exact ⟨by rw [HE.out, gotIV, H3.out]; rfl, HB.out⟩
end Go.Proofs.Ytdlpifcfgfhagaa
