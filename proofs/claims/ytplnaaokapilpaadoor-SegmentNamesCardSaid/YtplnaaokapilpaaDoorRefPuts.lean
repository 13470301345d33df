/- The bits of variable-length numbers: what is shifted and joined is a sum. No program is named here. The contract of varint.Put: the bytes of the numbers, in new memory. The contract of varint.Bytes: a length and the bytes behind it, in new memory. The contracts of the document's Put (one number), All and Bytes: the same bytes as the program's. -/
import Derived.Test.YtplnaaokapilpaaDoorMath
import Derived.Test.YtplnaaokapilpaaDoorChecked
import Derived.Test.YtplnaaokapilpaaDoorWords
import Derived.Test.YtplnaaokapilpaaDoorOwns
import Derived.Test.YtplnaaokapilpaaDoorStrs
import Derived.Laws.BitsAllLaws
import Derived.Lib.AppendStr
import Derived.Laws.Bits64
import Derived.Lib.Hide
namespace Go.Proofs.YtplnaaokapilpaaDoor.Vm

theorem pow_128 (k : Nat) : 2 ^ (7 * k) = 128 ^ k := by rw [Nat.pow_mul]

theorem step_lt (k acc x : Nat) (ha : acc < 128 ^ k) (hx : x < 128) : acc + 128 ^ k * x < 128 ^ (k + 1) := by
  rw [Nat.pow_succ]
  have : 128 ^ k * x ≤ 128 ^ k * 127 := Nat.mul_le_mul_left _ (by omega)
  omega

theorem pow_le9 {k : Nat} (h : k ≤ 9) : 128 ^ k ≤ 9223372036854775808 := by
  have : 128 ^ k ≤ 128 ^ 9 := Nat.pow_le_pow_right (by omega) h
  simpa using this

theorem step_64 (k acc x : Nat) (hk : k ≤ 9) (ha : acc < 128 ^ k) (hx : x < 128) (h9 : k = 9 → x ≤ 1) : acc + 128 ^ k * x < 18446744073709551616 := by
  by_cases h : k = 9
  · subst h
    have := h9 rfl
    have h1 : 128 ^ 9 * x ≤ 128 ^ 9 * 1 := Nat.mul_le_mul_left _ this
    have e : (128 : Nat) ^ 9 = 9223372036854775808 := by decide
    rw [e] at h1 ha ⊢
    omega
  · have h1 := step_lt k acc x ha hx
    have h2 : 128 ^ (k + 1) ≤ 9223372036854775808 := pow_le9 (by omega)
    omega

theorem or_step (k acc cc : Nat) (hk : k ≤ 9) (ha : acc < 128 ^ k) (h9 : k = 9 → cc % 128 ≤ 1) :
    bits BinOp.or IntKind.u64 (acc : Int) (IntKind.u64.wrap ((cc : Int) % 128 * 2 ^ (7 * k))) = ((acc + 128 ^ k * (cc % 128) : Nat) : Int) := by
  have hx : cc % 128 < 128 := by omega
  have h64 := step_64 k acc (cc % 128) hk ha hx h9
  have hp := pow_le9 hk
  have e : ((cc : Int) % 128 * 2 ^ (7 * k)) = ((128 ^ k * (cc % 128) : Nat) : Int) := by
    rw [← pow_128]
    push_cast
    rw [Int.mul_comm]
  rw [e, IntKind.wrap_u64, Int.emod_eq_of_lt (by omega) (by omega), u64_or_nat acc _ (by omega) (by omega), Nat.or_comm,
    nat_join (7 * k) (128 ^ k * (cc % 128)) acc (by rw [pow_128]; exact Nat.mul_mod_right _ _) (by rw [pow_128]; exact ha), Nat.add_comm]

theorem or_step0 (cc : Nat) : bits BinOp.or IntKind.u64 0 ((cc : Int) % 128) = ((cc % 128 : Nat) : Int) := by
  have h := or_step 0 0 cc (by omega) (by omega) (by omega)
  simp only [Nat.mul_zero, Int.pow_zero, Int.mul_one, Nat.pow_zero, Nat.one_mul, Nat.zero_add] at h
  rw [IntKind.wrap_u64, Int.emod_eq_of_lt (by omega) (by omega)] at h
  exact h

theorem or_step9 (acc : Nat) (ha : acc < 128 ^ 9) : bits BinOp.or IntKind.u64 (acc : Int) 9223372036854775808 = ((acc + 128 ^ 9 : Nat) : Int) := by
  have h := or_step 9 acc 1 (by omega) ha (by omega)
  simpa [IntKind.wrap_u64] using h

/-- The low byte of a number, with the high bit laid. -/
theorem or_high (n : Nat) : bits BinOp.or IntKind.u8 (((n % 256 : Nat)) : Int) 128 = ((n % 128 + 128 : Nat) : Int) := by
  have h := u8_or_nat (n % 256) 128 (by omega) (by omega)
  rw [show ((128 : Nat) : Int) = 128 from rfl] at h
  rw [h]
  have e : ∀ m : Fin 256, m.val ||| 128 = m.val % 128 + 128 := by decide +kernel
  have := e ⟨n % 256, by omega⟩
  simp only at this
  rw [this]
  congr 1
  omega
theorem or_high' (n : Nat) : bits BinOp.or IntKind.u8 ((n : Int) % 256) 128 = ((n % 128 + 128 : Nat) : Int) := by
  rw [← or_high n]
  congr 1
end Go.Proofs.YtplnaaokapilpaaDoor.Vm

namespace Go.Proofs.YtplnaaokapilpaaDoor.Vm
open Go.RowKit

theorem encs_len (l : List Nat) (h : ∀ x ∈ l, x < 18446744073709551616) : (encs l).length ≤ 10 * l.length := by
  induction l with
  | nil => simp [encs]
  | cons x r ih =>
    have h1 := (enc_len64 (h x (List.mem_cons_self ..))).2
    have h2 := ih (fun y hy => h y (List.mem_cons_of_mem _ hy))
    simp only [encs, List.flatMap_cons, List.length_append, List.length_cons] at h2 ⊢
    omega

theorem encs_snoc (l : List Nat) (k : Nat) (hk : k < l.length) : encs (l.take (k + 1)) = encs (l.take k) ++ enc (l.getD k 0) := by
  rw [List.take_succ_eq_append_getElem hk]
  unfold encs
  rw [List.flatMap_append]
  simp [List.getD, hk]

set_option maxRecDepth 100000 in
set_option maxHeartbeats 400000 in
theorem put_any (a : Option Addr) (n c : Nat) (zs : List Nat) (w : World) (h : Row .u64 w w.heap.size a n c zs) (hz : ∀ x ∈ zs, x < 18446744073709551616) (hn : n ≤ 65536) :
    Calls Tryd.prog 23 #[.slice a n c] w fun e w' => ∃ v, e = .returned v ∧ Own w' w.heap.size v (encs zs) ∧ Below w.heap.size w w' := by
  obtain ⟨i0, hi0, hz0, hz1, hz2⟩ := info_parts info_u8
  have hl := h.1
  have HL := Lib.hid hl
  have HZ := Lib.hid hz
  clear hl hz
  go_enter Tryd.func23, Tryd.ntmps23
  go_wp2
  go_loopw [3, 8] (fun v i wr => ∃ k : Nat, k ≤ n ∧ i = .int .i64 k ∧ Own wr w.heap.size v (encs (zs.take k)) ∧ Below w.heap.size w wr) (fun _ i _ => n - (intOf i).toNat)
  case atStart => exact ⟨0, Nat.zero_le _, rfl, World.ownsRow_nil _ _ _ _, Below.refl _ _⟩
  case round =>
    obtain ⟨k, hk, rfl, hown, hbel⟩ := hrel
    by_cases hlt : k < n
    · obtain ⟨b, off, rfl, hb, hcs⟩ := h.cells (by omega)
      have hcell : wr.cell? ⟨b, off + k, none⟩ = _ := (hbel.cell (p := ⟨b, off + k, none⟩) hb).trans (hcs k hlt)
      clear hcs
      generalize hx : zs.getD k 0 = x at hcell
      have HX := Lib.hid hx
      clear hx
      have hx64 : x < 18446744073709551616 := by
        rw [← HX.out]; refine HZ.out _ ?_; have := HL.out; simp [List.getD, show k < zs.length by omega]
      have he : encs (zs.take k) ++ enc x = encs (zs.take (k + 1)) := by rw [encs_snoc zs k (by have := HL.out; omega), HX.out]
      have hlen : (encs (zs.take (k + 1))).length ≤ 655360 := by
        have := encs_len (zs.take (k + 1)) (fun y hy => HZ.out y (List.mem_of_mem_take hy))
        have := HL.out
        simp only [List.length_take] at *
        omega
      have HE := Lib.hid he
      have hlen0 : (encs (zs.take k)).length ≤ 655360 := by rw [← he, List.length_append] at hlen; omega
      generalize hfin : encs (zs.take (k + 1)) = fin at HE hlen
      have HFIN := Lib.hid hfin
      clear hfin
      clear he
      generalize encs (zs.take k) = out0 at HE hown hlen0
      go_wp2
      go_loopw [3, 5] (fun v t wi => ∃ (m : Nat) (out : List Nat), m < 18446744073709551616 ∧ out.length ≤ 655360 ∧ t = .int .u64 m ∧ Own wi w.heap.size v out ∧ Below w.heap.size w wi ∧ Hid (out ++ enc m = fin)) (fun _ t _ => (intOf t).toNat)
      case atStart => exact ⟨x, out0, hx64, hlen0, rfl, hown, hbel, HE⟩
      case round =>
        obtain ⟨m, out, hm, hout, rfl, hown', hbel', HM⟩ := hrel
        by_cases hbig : 128 ≤ m
        · have hdb : decide ((128 : Int) ≤ (m : Int)) = true := by simp; omega
          go_wp2_with (at_builtin; refine wpList_append_own _ rfl (.tmp 14) (.tmp 18) 27 rfl w.heap.size 5 i0 (.int .u8 0) 1 1 Tryd.underlying27 hi0 hz0 hz1 hz2 rfl (by decide) _ _ _ rfl (World.ownsRow.alloc hown' _) ⟨wr.heap.size, 0, none⟩ 1 1 [.int .u8 (bits BinOp.or IntKind.u8 ((m : Int) % 256) 128)] rfl rfl (one_cell _ _ _) (by simp [Value.oneCell']) (by simp only [maxLen]; omega) (by omega) (by have := hbel'.size; simp; omega) ?_; intro v' w1 hown1 hgrow1 _)
          have R := push_step (or_high' m) hown' hbel' (Nat.le_refl _) hown1 hgrow1
          clear hown1 hgrow1 hown' hbel'
          go_wp2
          go_roundw
          case rel => exact ⟨m / 128, out ++ [m % 128 + 128], by omega, by have := congrArg List.length HM.out; have := (enc_len64 hm).1; simp at *; omega, by go_num, R.1, R.2, by have := HM.out; rw [enc_big hbig] at this; unfold Hid; simpa using this⟩
          case measure => simp [intOf]; omega
        · have hdb : decide ((128 : Int) ≤ (m : Int)) = false := by simp; omega
          go_wp2_with (at_builtin; refine wpList_append_own _ rfl (.tmp 22) (.tmp 25) 27 rfl w.heap.size 5 i0 (.int .u8 0) 1 1 Tryd.underlying27 hi0 hz0 hz1 hz2 rfl (by decide) _ _ _ rfl (World.ownsRow.alloc hown' _) ⟨wr.heap.size, 0, none⟩ 1 1 [.int .u8 (m : Int)] rfl rfl (one_cell _ _ _) (by simp [Value.oneCell']) (by simp only [maxLen]; omega) (by omega) (by have := hbel'.size; simp; omega) ?_; intro v' w1 hown1 hgrow1 _)
          have R := push_step rfl hown' hbel' (Nat.le_refl _) hown1 hgrow1
          clear hown1 hgrow1 hown' hbel'
          go_wp2
          go_roundw
          case rel => exact ⟨k + 1, by omega, by go_num, by rw [HFIN.out, ← HM.out, enc_small (by omega)]; exact R.1, R.2⟩
          case measure => simp [intOf]; omega
    · go_wp2
      go_ret
      have hkn : k = n := by omega
      exact ⟨_, rfl, by have := hown; rw [List.take_of_length_le (by rw [HL.out]; omega)] at this; exact this, hbel⟩
end Go.Proofs.YtplnaaokapilpaaDoor.Vm

namespace Go.Proofs.YtplnaaokapilpaaDoor.Vm
open Go.RowKit

theorem strCells_u8s (s : ByteArray) : Lib.strCells s = u8s (bytesOf s) := by simp [Lib.strCells, u8s, bytesOf]

end Go.Proofs.YtplnaaokapilpaaDoor.Vm

namespace Go.Proofs.YtplnaaokapilpaaDoor.Vm
open Go.RowKit

set_option maxRecDepth 100000 in
set_option maxHeartbeats 400000 in
theorem rput_any (k : Nat) : ∀ (n : Nat) (w : World), n < 128 ^ (k + 1) → n < 18446744073709551616 →
    Calls Tryd.prog 25 #[.int .u64 n] w fun e w' => ∃ v, e = .returned v ∧ Own w' w.heap.size v (enc n) ∧ Below w.heap.size w w' := by
  obtain ⟨i0, hi0, hz0, hz1, hz2⟩ := info_parts info_u8
  induction k with
  | zero =>
    intro n w h1 h2
    have h3 : n < 128 := by omega
    clear h1
    go_enter Tryd.func25, Tryd.ntmps25
    go_wp2_with fail
    go_ret
    exact ⟨_, rfl, by rw [enc_small h3]; exact own_new w n, (Below.refl _ _).alloc (Nat.le_refl _) _⟩
  | succ k ih =>
    intro n w h1 h2
    by_cases h3 : n < 128
    · clear h1
      have IH := Lib.hid ih
      clear ih
      go_enter Tryd.func25, Tryd.ntmps25
      go_wp2_with fail
      go_ret
      exact ⟨_, rfl, by rw [enc_small h3]; exact own_new w n, (Below.refl _ _).alloc (Nat.le_refl _) _⟩
    · have h4 : n / 128 < 128 ^ (k + 1) := by rw [Nat.div_lt_iff_lt_mul (by omega)]; rw [Nat.pow_succ] at h1; omega
      have IH0 : ∀ w, Calls Tryd.prog 25 #[.int .u64 ((n : Int) / 128)] w fun e w' => ∃ v, e = .returned v ∧ Own w' w.heap.size v (enc (n / 128)) ∧ Below w.heap.size w w' := by
        intro w
        have := ih (n / 128) w h4 (by omega)
        rw [show ((n / 128 : Nat) : Int) = (n : Int) / 128 by omega] at this
        exact this
      have IH := Lib.hid IH0
      have hl := (enc_len64 (n := n / 128) (by omega))
      clear ih h1 h4 IH0
      go_enter Tryd.func25, Tryd.ntmps25
      go_wp2_with fail
      refine (IH.out _).mono ?_
      rintro e w1 ⟨v, rfl, hown, hbel⟩
      obtain ⟨g, cap, rfl, hb, hg, hr⟩ := hown.form (by omega)
      have hown0 := own_new w (n % 128 + 128)
      rw [show ((n % 128 + 128 : Nat) : Int) = (n : Int) % 128 + 128 by omega] at hown0
      have hown1 : Own w1 w.heap.size _ _ := own_below hown0 hbel (by intro k hk; simp [Value.ownBlock] at hk; simp; omega)
      have hbel1 : Below w.heap.size w w1 := ((Below.refl _ w).alloc (Nat.le_refl _) _).trans (hbel.mono (by simp))
      clear hown hown0 hbel
      have HRC := Lib.hid (row_cells hr)
      clear hr
      go_wp2_with (at_builtin; refine wpList_append_own _ rfl (.tmp 12) (.tmp 15) 27 rfl w.heap.size 5 i0 (.int .u8 0) 1 1 Tryd.underlying27 hi0 hz0 hz1 hz2 rfl (by decide) _ _ _ rfl hown1 ⟨g, 0, none⟩ (enc (n / 128)).length cap (u8s (enc (n / 128))) rfl (by simp [u8s_len]) HRC.out (u8s_one _) (by simp only [maxLen]; simp; omega) (by simp; omega) hbel1.size ?_; intro v' w2 hown2 hgrow2 _)
      go_ret
      refine ⟨_, rfl, ?_, hbel1.grown hgrow2 hbel1.size (fun k hk => (World.ownsRow.lt hown1 k hk).1)⟩
      rw [show enc n = [n % 128 + 128] ++ enc (n / 128) from enc_big (by omega)]
      unfold Own
      rw [List.length_append, u8s_append]
      exact hown2

/-- The document's Put of any number. -/
theorem rput_one (n : Nat) (w : World) (h : n < 18446744073709551616) :
    Calls Tryd.prog 25 #[.int .u64 n] w fun e w' => ∃ v, e = .returned v ∧ Own w' w.heap.size v (enc n) ∧ Below w.heap.size w w' := rput_any 9 n w (by omega) h

end Go.Proofs.YtplnaaokapilpaaDoor.Vm
