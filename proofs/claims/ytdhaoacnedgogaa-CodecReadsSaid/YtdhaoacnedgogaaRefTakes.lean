/- The contracts of the document's Take and Text: they answer what the program's do. -/
import Derived.Test.YtdhaoacnedgogaaTexts
namespace Go.Proofs.Ytdhaoacnedgogaa.Vm
open Go.RowKit

theorem ref_step (k acc cc u : Nat) (hk : k ≤ 9) (ha : acc < 128 ^ k) (h9 : k = 9 → cc % 128 ≤ 1) (hu : u = 128 ^ k) :
    IntKind.u64.wrap ((acc : Int) + IntKind.u64.wrap ((cc : Int) % 128 * (u : Int))) = ((acc + 128 ^ k * (cc % 128) : Nat) : Int) := by
  have h64 := step_64 k acc (cc % 128) hk ha (by omega) h9
  subst hu
  have e : ((cc : Int) % 128 * ((128 ^ k : Nat) : Int)) = ((128 ^ k * (cc % 128) : Nat) : Int) := by
    rw [Nat.mul_comm]
    push_cast
    rfl
  rw [e, IntKind.wrap_u64, IntKind.wrap_u64]
  omega

theorem ref_unit (k u : Nat) (hk : k ≤ 8) (hu : u = 128 ^ k) : IntKind.u64.wrap ((u : Int) * 128) = ((128 ^ (k + 1) : Nat) : Int) := by
  have h := pow_le9 (k := k + 1) (by omega)
  rw [Nat.pow_succ] at h ⊢
  rw [IntKind.wrap_u64, hu]
  omega

set_option maxRecDepth 100000 in
set_option maxHeartbeats 400000 in
theorem rtake_out (a : Option Addr) (n c B : Nat) (zs : List Nat) (p : Int) (w : World) (h : Row .u8 w B a n c zs) (hp : p < 0 ∨ (n : Int) < p) :
    Calls Try.prog 59 #[.slice a n c, .int .i64 p] w fun e w' =>
      e = .returned (.tuple #[.int .u64 ((takeS zs p).1 : Nat), .int .i64 ((takeS zs p).2.1 : Nat), .int .i64 ((takeS zs p).2.2 : Nat)]) ∧ w = w' := by
  have e : takeS zs p = (0, 0, 1) := by unfold takeS; rw [h.1, if_pos hp]
  have HE := Lib.hid e
  clear e
  by_cases h0 : p < 0
  · go_enter Try.func59, Try.ntmps59
    go_wp2_with fail
    go_ret3
    exact ⟨fin3 HE.out, rfl⟩
  · have h1 : (n : Int) < p := by omega
    clear hp
    go_enter Try.func59, Try.ntmps59
    go_wp2_with fail
    go_ret3
    exact ⟨fin3 HE.out, rfl⟩


set_option maxRecDepth 100000 in
set_option maxHeartbeats 400000 in
theorem rtake_in (a : Option Addr) (n c B : Nat) (zs : List Nat) (p : Nat) (w : World) (h : Row .u8 w B a n c zs) (hz : ∀ x ∈ zs, x < 256) (hp : p ≤ n) :
    Calls Try.prog 59 #[.slice a n c, .int .i64 p] w fun e w' =>
      e = .returned (.tuple #[.int .u64 ((takeS zs p).1 : Nat), .int .i64 ((takeS zs p).2.1 : Nat), .int .i64 ((takeS zs p).2.2 : Nat)]) ∧ w = w' := by
  have hm := h.2.2.1
  have hnc := h.2.1
  have hl := h.1
  unfold maxLen at hm
  have hT := takeS_in zs p (by omega)
  generalize takeS zs p = R at hT
  have HT := Lib.hid hT
  have HL := Lib.hid hl
  have HZ := Lib.hid hz
  clear hT hl hz
  have e0 : decide ((p : Int) < 0) = false := by simp
  have e1 : decide (n < p) = false := by simp; omega
  go_enter Try.func59, Try.ntmps59
  go_wp2_with fail
  go_loop [7, 8, 9] (fun t s i => ∃ k acc u : Nat, k ≤ 9 ∧ p + k ≤ n ∧ acc < 128 ^ k ∧ i = .int .i64 k ∧ t = .int .u64 acc ∧ s = .int .u64 u ∧ Hid (u = 128 ^ k) ∧ Hid (decTo k acc (zs.drop (p + k)) = dec 0 (zs.drop p))) (fun _ _ i => n - (intOf i).toNat)
  case atStart => exact ⟨0, 0, 1, by omega, by omega, by omega, rfl, rfl, rfl, rfl, decTo_start _⟩
  case round =>
    obtain ⟨k, acc, u, hk, hkn, hacc, rfl, rfl, rfl, HU, HD⟩ := hrel
    by_cases hlt : p + k < n
    · obtain ⟨b, off, rfl, hb, hcs⟩ := h.cells (by omega)
      have hcell := hcs (p + k) hlt
      clear hcs
      have hd : zs.drop (p + k) = zs.getD (p + k) 0 :: zs.drop (p + k + 1) := by
        have := HL.out
        rw [List.drop_eq_getElem_cons (by omega)]; simp [List.getD, show p + k < zs.length by omega]
      have hc : zs.getD (p + k) 0 < 256 := HZ.out _ (by
        have := HL.out
        simp [List.getD, show p + k < zs.length by omega])
      generalize zs.getD (p + k) 0 = cc at hd hc hcell
      have HK := Lib.hid hd
      clear hd
      by_cases hb1 : Bad k cc
      · have HR : Hid (R = (0, 0, 3)) := HT.out.trans (takeTo_err (HD.out.symm.trans (by rw [HK.out]; exact decTo_bad k acc cc _ hb1)) (by omega))
        rcases hb1 with ⟨h1, h2⟩ | ⟨h1, h2⟩
        · have e2 : ((cc : Int) == 0) = true := by simp; omega
          have e2' : decide ((0 : Int) < (k : Int)) = true := by simp; omega
          clear h2
          go_wp2_with fail
          go_ret3
          exact ⟨fin3 HR.out, rfl⟩
        · subst h1
          have e2 : ((cc : Int) == 0) = false := by simp; omega
          have e4 : decide ((1 : Int) < (cc : Int)) = true := by simp; omega
          go_wp2_with fail
          go_ret3
          exact ⟨fin3 HR.out, rfl⟩
      · have HB := Lib.hid hb1
        have g1 : k = 0 ∨ cc ≠ 0 := by unfold Bad at hb1; omega
        have g2 : k ≠ 9 ∨ cc ≤ 1 := by unfold Bad at hb1; omega
        clear hb1
        have HG := Lib.hid g1
        have HG2 := Lib.hid g2
        clear g1 g2
        have HS := Lib.hid (ref_step k acc cc u (by omega) hacc (by have := HG2.out; omega) HU.out)
        have HLT := Lib.hid (step_lt k acc (cc % 128) hacc (by omega))
        by_cases hc2 : cc < 128
        · have HR : Hid (R = (acc + 128 ^ k * cc, p + (k + 1), 0)) := HT.out.trans (takeTo_ok (HD.out.symm.trans (by rw [HK.out]; exact decTo_last k acc cc _ HB.out hc2)))
          by_cases hk0 : k = 0
          · subst hk0
            rw [Nat.add_zero] at hcell
            go_wp2_with fail
            go_ret3
            exact ⟨fin3' HR.out (by rw [HS.out, Nat.mod_eq_of_lt hc2]) (by omega), rfl⟩
          · by_cases hk9 : k = 9
            · obtain rfl : cc = 1 := by have := HG.out; have := HG2.out; omega
              subst hk9
              clear hk0
              go_wp2_with fail
              go_ret3
              exact ⟨fin3' HR.out (by have := HS.out; rw [show ((1 : Nat) : Int) % 128 * (u : Int) = (u : Int) by omega] at this; exact this) (by omega), rfl⟩
            · have hk1 : decide ((0 : Int) < (k : Int)) = true := by simp; omega
              have hk1' : 0 < k := by omega
              have e2 : ((cc : Int) == 0) = false := by have := HG.out; simp; omega
              have e3 : ((k : Int) == 9) = false := by simp; omega
              clear hk0 hk9
              go_wp2_with fail
              go_ret3
              exact ⟨fin3' HR.out (by rw [HS.out, Nat.mod_eq_of_lt hc2]) (by omega), rfl⟩
        · have hk8 : k ≤ 8 := by have := HG2.out; omega
          have HV := Lib.hid (ref_unit k u hk8 HU.out)
          have HN : Hid (decTo (k + 1) (acc + 128 ^ k * (cc % 128)) (zs.drop (p + k + 1)) = dec 0 (zs.drop p)) := by
            unfold Hid; have := HD.out; rw [HK.out, decTo_more k acc cc _ HB.out hc2] at this; exact this
          by_cases hk0 : k = 0
          · subst hk0
            rw [Nat.add_zero] at hcell
            go_wp2_with fail
            go_round
            case rel => exact ⟨1, acc + 128 ^ 0 * (cc % 128), 128 ^ 1, by omega, by omega, HLT.out, rfl, by rw [HS.out], by rw [HV.out], rfl, HN⟩
            case measure => simp [intOf]; omega
          · have hk1 : decide ((0 : Int) < (k : Int)) = true := by simp; omega
            have hk1' : 0 < k := by omega
            have e2 : ((cc : Int) == 0) = false := by have := HG.out; simp; omega
            have e3 : ((k : Int) == 9) = false := by simp; omega
            clear hk0
            go_wp2_with fail
            go_round
            case rel => exact ⟨k + 1, acc + 128 ^ k * (cc % 128), 128 ^ (k + 1), by omega, by omega, HLT.out, by go_num, by rw [HS.out], by rw [HV.out], rfl, HN⟩
            case measure => simp [intOf]; omega
    · go_wp2_with fail
      go_ret3
      have hkn : p + k = n := by omega
      exact ⟨fin3 (HT.out.trans (takeTo_err (e := 2) (HD.out.symm.trans (by rw [hkn, List.drop_of_length_le (by rw [HL.out]; omega)]; exact decTo_nil _ _)) (by omega))), rfl⟩
/-- The document's Take, whatever the place. -/
theorem rtake_any (a : Option Addr) (n c B : Nat) (zs : List Nat) (p : Int) (w : World) (h : Row .u8 w B a n c zs) (hz : ∀ x ∈ zs, x < 256) :
    Calls Try.prog 59 #[.slice a n c, .int .i64 p] w fun e w' =>
      e = .returned (.tuple #[.int .u64 ((takeS zs p).1 : Nat), .int .i64 ((takeS zs p).2.1 : Nat), .int .i64 ((takeS zs p).2.2 : Nat)]) ∧ w = w' := by
  by_cases hp : p < 0 ∨ (n : Int) < p
  · exact rtake_out a n c B zs p w h hp
  · obtain ⟨q, rfl⟩ := Int.eq_ofNat_of_zero_le (show 0 ≤ p by omega)
    exact rtake_in a n c B zs q w h hz (by omega)

end Go.Proofs.Ytdhaoacnedgogaa.Vm
