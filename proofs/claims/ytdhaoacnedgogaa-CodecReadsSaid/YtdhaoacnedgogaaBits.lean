/- The bits of variable-length numbers: what is shifted and joined is a sum. No program is named here. -/
import Derived.Laws.BitsAllLaws
import Derived.Laws.Bits64
import Derived.Test.YtdhaoacnedgogaaMath
namespace Go.Proofs.Ytdhaoacnedgogaa.Vm

theorem pow_128 (k : Nat) : 2 ^ (7 * k) = 128 ^ k := by rw [Nat.pow_mul]

theorem step_lt (k acc x : Nat) (ha : acc < 128 ^ k) (hx : x < 128) : acc + 128 ^ k * x < 128 ^ (k + 1) := by
  rw [Nat.pow_succ]
  have : 128 ^ k * x ≤ 128 ^ k * 127 := Nat.mul_le_mul_left _ (by omega)
  omega

theorem pow_le9 {k : Nat} (h : k ≤ 9) : 128 ^ k ≤ 9223372036854775808 := by
  have : 128 ^ k ≤ 128 ^ 9 := Nat.pow_le_pow_right (by omega) h
  simpa using this

theorem step_64 (k acc x : Nat) (hk : k ≤ 9) (ha : acc < 128 ^ k) (hx : x < 128) (h9 : k = 9 → x ≤ 1) : acc + 128 ^ k * x < 18446744073709551616 := by
  by_cases h : k = 9
  · subst h
    have := h9 rfl
    have h1 : 128 ^ 9 * x ≤ 128 ^ 9 * 1 := Nat.mul_le_mul_left _ this
    have e : (128 : Nat) ^ 9 = 9223372036854775808 := by decide
    rw [e] at h1 ha ⊢
    omega
  · have h1 := step_lt k acc x ha hx
    have h2 : 128 ^ (k + 1) ≤ 9223372036854775808 := pow_le9 (by omega)
    omega

theorem or_step (k acc cc : Nat) (hk : k ≤ 9) (ha : acc < 128 ^ k) (h9 : k = 9 → cc % 128 ≤ 1) :
    bits BinOp.or IntKind.u64 (acc : Int) (IntKind.u64.wrap ((cc : Int) % 128 * 2 ^ (7 * k))) = ((acc + 128 ^ k * (cc % 128) : Nat) : Int) := by
  have hx : cc % 128 < 128 := by omega
  have h64 := step_64 k acc (cc % 128) hk ha hx h9
  have hp := pow_le9 hk
  have e : ((cc : Int) % 128 * 2 ^ (7 * k)) = ((128 ^ k * (cc % 128) : Nat) : Int) := by
    rw [← pow_128]
    push_cast
    rw [Int.mul_comm]
  rw [e, IntKind.wrap_u64, Int.emod_eq_of_lt (by omega) (by omega), u64_or_nat acc _ (by omega) (by omega), Nat.or_comm,
    nat_join (7 * k) (128 ^ k * (cc % 128)) acc (by rw [pow_128]; exact Nat.mul_mod_right _ _) (by rw [pow_128]; exact ha), Nat.add_comm]

theorem or_step0 (cc : Nat) : bits BinOp.or IntKind.u64 0 ((cc : Int) % 128) = ((cc % 128 : Nat) : Int) := by
  have h := or_step 0 0 cc (by omega) (by omega) (by omega)
  simp only [Nat.mul_zero, Int.pow_zero, Int.mul_one, Nat.pow_zero, Nat.one_mul, Nat.zero_add] at h
  rw [IntKind.wrap_u64, Int.emod_eq_of_lt (by omega) (by omega)] at h
  exact h

theorem or_step9 (acc : Nat) (ha : acc < 128 ^ 9) : bits BinOp.or IntKind.u64 (acc : Int) 9223372036854775808 = ((acc + 128 ^ 9 : Nat) : Int) := by
  have h := or_step 9 acc 1 (by omega) ha (by omega)
  simpa [IntKind.wrap_u64] using h

/-- The low byte of a number, with the high bit laid. -/
theorem or_high (n : Nat) : bits BinOp.or IntKind.u8 (((n % 256 : Nat)) : Int) 128 = ((n % 128 + 128 : Nat) : Int) := by
  have h := u8_or_nat (n % 256) 128 (by omega) (by omega)
  rw [show ((128 : Nat) : Int) = 128 from rfl] at h
  rw [h]
  have e : ∀ m : Fin 256, m.val ||| 128 = m.val % 128 + 128 := by decide +kernel
  have := e ⟨n % 256, by omega⟩
  simp only at this
  rw [this]
  congr 1
  omega
theorem or_high' (n : Nat) : bits BinOp.or IntKind.u8 ((n : Int) % 256) 128 = ((n % 128 + 128 : Nat) : Int) := by
  rw [← or_high n]
  congr 1
end Go.Proofs.Ytdhaoacnedgogaa.Vm
