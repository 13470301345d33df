/- The document's Tick. -/
import Derived.Test.YtplnaaokapilpaaDoorSegMath
import Derived.Deep.LoopGhost
import Derived.Lib.Hide
import Derived.BigRegion
namespace Go.Proofs.YtplnaaokapilpaaDoor.Vm
open Go Go.RowKit
set_option maxRecDepth 100000

theorem bytesOf_beq (s : ByteArray) (l : List UInt8) : (s.toList == l) = decide (bytesOf s = l.map UInt8.toNat) := by
  rw [ByteArray.toList_eq]
  unfold bytesOf
  by_cases h : s.data.toList = l
  · simp [h]
  · have h2 : s.data.toList.map UInt8.toNat ≠ l.map UInt8.toNat := fun e => h ((List.map_inj_right (f := UInt8.toNat) (fun a b hab => UInt8.toNat_inj.1 hab)).1 e)
    simp [h, h2]
theorem prefix_is (s : ByteArray) (k : Nat) (l : List UInt8) : ((s.extract 0 k).toList == l) = decide ((bytesOf s).take k = l.map UInt8.toNat) := by
  rw [bytesOf_beq, bytesOf_extract, List.drop_zero, Nat.sub_zero]
theorem rest_is (s : ByteArray) (k : Nat) : bytesOf (s.extract k s.size) = (bytesOf s).drop k := by
  rw [bytesOf_extract, List.take_of_length_le (by rw [List.length_drop, bytesOf_len]; omega)]
theorem valF_take {l : List Nat} {k : Nat} (hk : k < l.length) : valF 0 (l.take (k + 1)) = 10 * valF 0 (l.take k) + (l.getD k 0 - 48) := by
  rw [List.take_add_one, List.getElem?_eq_getElem hk]
  simp only [Option.toList, List.getD, List.getElem?_eq_getElem hk, Option.getD_some]
  exact valF_snoc _ _ _
theorem digs_take {l : List Nat} {k : Nat} (hk : k < l.length) (h : ∀ x ∈ l.take k, 48 ≤ x ∧ x ≤ 57) (hx : 48 ≤ l.getD k 0 ∧ l.getD k 0 ≤ 57) : ∀ x ∈ l.take (k + 1), 48 ≤ x ∧ x ≤ 57 := by
  intro x hxm
  rw [List.take_add_one, List.getElem?_eq_getElem hk] at hxm
  rcases List.mem_append.1 hxm with h1 | h1
  · exact h x h1
  · simp at h1
    rw [h1]
    simpa [List.getD, hk] using hx
theorem valF_small {l : List Nat} {k : Nat} (hk : k ≤ 10) (hl : k ≤ l.length) (h : ∀ x ∈ l.take k, 48 ≤ x ∧ x ≤ 57) : valF 0 (l.take k) < 10000000000 := by
  have h1 := valF_lt (l.take k) 0 0 h (by omega)
  rw [List.length_take, Nat.min_eq_left hl, Nat.zero_add] at h1
  have h2 : 10 ^ k ≤ 10 ^ 10 := Nat.pow_le_pow_right (by omega) hk
  omega
theorem all_not {l : List Nat} {k : Nat} (hk : k < l.length) (h : ¬ (48 ≤ l.getD k 0 ∧ l.getD k 0 ≤ 57)) : l.all isDig = false := by
  rw [List.all_eq_false]
  exact ⟨l.getD k 0, by simp [List.getD, hk], by unfold isDig; simpa using h⟩
theorem all_yes {l : List Nat} (h : ∀ x ∈ l.take l.length, 48 ≤ x ∧ x ≤ 57) : l.all isDig = true := by
  rw [List.take_length] at h
  rw [List.all_eq_true]
  exact fun x hx => decide_eq_true (h x hx)

end Go.Proofs.YtplnaaokapilpaaDoor.Vm
