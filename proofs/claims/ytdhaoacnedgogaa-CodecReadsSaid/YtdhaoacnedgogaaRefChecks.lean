/- The contracts of the document's Check and four. -/
import Derived.Test.YtdhaoacnedgogaaChecks
import Derived.Test.YtdhaoacnedgogaaOwns
namespace Go.Proofs.Ytdhaoacnedgogaa.Vm
open Go.RowKit

theorem step_odd {c : Nat} (h : c < 4294967296) (ho : c % 2 = 1) : bits BinOp.xor IntKind.u32 ((c : Int) / 2) 3988292384 = (step c : Nat) := by
  have h2 := u32_xor_nat (c / 2) 3988292384 (by omega) (by omega)
  unfold step
  rw [ho, Nat.one_mul, ← h2]
  congr 1
theorem step_even {c : Nat} (ho : c % 2 = 0) : ((c : Int) / 2) = (step c : Nat) := by
  unfold step
  rw [ho, Nat.zero_mul, Nat.xor_zero]
  omega
theorem xor_byte (c x : Nat) (hc : c < 4294967296) (hx : x < 256) : bits BinOp.xor IntKind.u32 (c : Int) (x : Int) = ((c ^^^ x : Nat) : Int) := u32_xor_nat c x hc (by omega)

set_option maxRecDepth 100000 in
set_option maxHeartbeats 400000 in
theorem rcheck_any (a : Option Addr) (n c B : Nat) (zs : List Nat) (w : World) (h : Row .u8 w B a n c zs) (hz : ∀ x ∈ zs, x < 256) :
    Calls Try.prog 33 #[.slice a n c] w fun e w' => e = .returned (.int .u32 (crc zs : Nat)) ∧ w = w' := by
  have hm := h.2.2.1
  have hnc := h.2.1
  unfold maxLen at hm
  have HL := Lib.hid h.1
  have HZ := Lib.hid hz
  clear hz
  go_enter Try.func33, Try.ntmps33
  go_wp2
  go_loop [3, 4] (fun v i => ∃ k d : Nat, k ≤ n ∧ d < 4294967296 ∧ i = .int .i64 k ∧ v = .int .u32 d ∧ Hid (d = crcS 4294967295 (zs.take k))) (fun _ i => n - (intOf i).toNat)
  case atStart => exact ⟨0, 4294967295, Nat.zero_le _, by omega, rfl, by go_num, by unfold Hid; simp [crcS]⟩
  case round =>
    obtain ⟨k, d, hk, hd, rfl, rfl, HD⟩ := hrel
    by_cases hlt : k < n
    · obtain ⟨b, off, rfl, hb, hcs⟩ := h.cells (by omega)
      have hcell := hcs k hlt
      clear hcs
      have hx : zs.getD k 0 < 256 := HZ.out _ (by have := HL.out; simp [List.getD, show k < zs.length by omega])
      have HN := Lib.hid (crcS_snoc zs k (by have := HL.out; omega) 4294967295)
      generalize zs.getD k 0 = x at hcell hx HN
      have hxb := xor_byte d x hd hx
      have hdx : d ^^^ x < 4294967296 := xor_lt32 hd (by omega)
      have HN' : Hid (crcS 4294967295 (zs.take (k + 1)) = steps 8 (d ^^^ x)) := by unfold Hid; rw [HN.out, ← HD.out]
      clear HN
      generalize d ^^^ x = y at *
      go_wp2
      go_loop [3, 5] (fun v j => ∃ m c' : Nat, m ≤ 8 ∧ c' < 4294967296 ∧ j = .int .i64 m ∧ v = .int .u32 c' ∧ Hid (c' = steps m y)) (fun _ j => 8 - (intOf j).toNat)
      case atStart => exact ⟨0, y, by omega, hdx, rfl, rfl, rfl⟩
      case round =>
        obtain ⟨m, q, hm8, hq, rfl, rfl, HQ⟩ := hrel
        by_cases hlt8 : m < 8
        · have HS := Lib.hid ((steps_succ m y).trans (by rw [← HQ.out]))
          have hsl := step_lt32 hq
          rcases Nat.mod_two_eq_zero_or_one q with ho | ho
          · have e1 : ((q : Int) % 2 == 1) = false := by simp; omega
            have HV := Lib.hid (step_even ho)
            clear ho
            go_wp2
            go_round
            case rel => exact ⟨m + 1, step q, by omega, hsl, by go_num, by rw [HV.out], HS.out.symm⟩
            case measure => simp [intOf]; omega
          · have e1 : ((q : Int) % 2 == 1) = true := by simp; omega
            have HV := Lib.hid (step_odd hq ho)
            clear ho
            go_wp2
            go_round
            case rel => exact ⟨m + 1, step q, by omega, hsl, by go_num, by rw [HV.out], HS.out.symm⟩
            case measure => simp [intOf]; omega
        · obtain rfl : m = 8 := by omega
          go_wp2
          go_round
          case rel => exact ⟨k + 1, q, by omega, hq, by go_num, rfl, by unfold Hid; rw [HN'.out, HQ.out]⟩
          case measure => simp [intOf]; omega
    · go_wp2
      go_ret
      have hkn : k = n := by omega
      have hd2 : d = crcS 4294967295 zs := by have := HD.out; rwa [List.take_of_length_le (by rw [HL.out]; omega)] at this
      exact ⟨ret_u32 (by unfold crc; rw [← hd2]; first | rfl | omega | simp), rfl⟩

/-- Four bytes in a new row are owned. -/
theorem own_four (w : World) (c : Nat) (X0 X1 X2 X3 : Int) (h0 : X0 = (c % 256 : Nat)) (h1 : X1 = (c / 256 % 256 : Nat)) (h2 : X2 = (c / 65536 % 256 : Nat)) (h3 : X3 = (c / 16777216 % 256 : Nat)) :
    Own (w.alloc (.cells #[.int .u8 X0, .int .u8 X1, .int .u8 X2, .int .u8 X3] 5)) w.heap.size (.slice (some ⟨w.heap.size, 0, none⟩) 4 4) (four c) := by
  subst h0 h1 h2 h3
  exact ⟨rfl, .inr ⟨w.heap.size, 4, _, rfl, Nat.le_refl _, heap_alloc_new w _, Nat.le_refl _, by simp [maxLen], rfl, rfl⟩⟩

end Go.Proofs.Ytdhaoacnedgogaa.Vm
