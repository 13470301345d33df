/- The contract of varint.Put: the bytes of the numbers, in new memory. -/
import Derived.Test.YtdhaoacnedgogaaChecked
import Derived.Test.YtdhaoacnedgogaaMath
import Derived.Test.YtdhaoacnedgogaaWords
import Derived.Test.YtdhaoacnedgogaaOwns
import Derived.Test.YtdhaoacnedgogaaBits
import Derived.Lib.Hide
namespace Go.Proofs.Ytdhaoacnedgogaa.Vm
open Go.RowKit

theorem encs_len (l : List Nat) (h : ∀ x ∈ l, x < 18446744073709551616) : (encs l).length ≤ 10 * l.length := by
  induction l with
  | nil => simp [encs]
  | cons x r ih =>
    have h1 := (enc_len64 (h x (List.mem_cons_self ..))).2
    have h2 := ih (fun y hy => h y (List.mem_cons_of_mem _ hy))
    simp only [encs, List.flatMap_cons, List.length_append, List.length_cons] at h2 ⊢
    omega

theorem encs_snoc (l : List Nat) (k : Nat) (hk : k < l.length) : encs (l.take (k + 1)) = encs (l.take k) ++ enc (l.getD k 0) := by
  rw [List.take_succ_eq_append_getElem hk]
  unfold encs
  rw [List.flatMap_append]
  simp [List.getD, hk]

set_option maxRecDepth 100000 in
set_option maxHeartbeats 400000 in
theorem put_any (a : Option Addr) (n c : Nat) (zs : List Nat) (w : World) (h : Row .u64 w w.heap.size a n c zs) (hz : ∀ x ∈ zs, x < 18446744073709551616) (hn : n ≤ 65536) :
    Calls Try.prog 24 #[.slice a n c] w fun e w' => ∃ v, e = .returned v ∧ Own w' w.heap.size v (encs zs) ∧ Below w.heap.size w w' := by
  obtain ⟨i0, hi0, hz0, hz1, hz2⟩ := info_parts info_u8
  have hl := h.1
  have HL := Lib.hid hl
  have HZ := Lib.hid hz
  clear hl hz
  go_enter Try.func24, Try.ntmps24
  go_wp2
  go_loopw [3, 8] (fun v i wr => ∃ k : Nat, k ≤ n ∧ i = .int .i64 k ∧ Own wr w.heap.size v (encs (zs.take k)) ∧ Below w.heap.size w wr) (fun _ i _ => n - (intOf i).toNat)
  case atStart => exact ⟨0, Nat.zero_le _, rfl, World.ownsRow_nil _ _ _ _, Below.refl _ _⟩
  case round =>
    obtain ⟨k, hk, rfl, hown, hbel⟩ := hrel
    by_cases hlt : k < n
    · obtain ⟨b, off, rfl, hb, hcs⟩ := h.cells (by omega)
      have hcell : wr.cell? ⟨b, off + k, none⟩ = _ := (hbel.cell (p := ⟨b, off + k, none⟩) hb).trans (hcs k hlt)
      clear hcs
      generalize hx : zs.getD k 0 = x at hcell
      have HX := Lib.hid hx
      clear hx
      have hx64 : x < 18446744073709551616 := by
        rw [← HX.out]; refine HZ.out _ ?_; have := HL.out; simp [List.getD, show k < zs.length by omega]
      have he : encs (zs.take k) ++ enc x = encs (zs.take (k + 1)) := by rw [encs_snoc zs k (by have := HL.out; omega), HX.out]
      have hlen : (encs (zs.take (k + 1))).length ≤ 655360 := by
        have := encs_len (zs.take (k + 1)) (fun y hy => HZ.out y (List.mem_of_mem_take hy))
        have := HL.out
        simp only [List.length_take] at *
        omega
      have HE := Lib.hid he
      have hlen0 : (encs (zs.take k)).length ≤ 655360 := by rw [← he, List.length_append] at hlen; omega
      generalize hfin : encs (zs.take (k + 1)) = fin at HE hlen
      have HFIN := Lib.hid hfin
      clear hfin
      clear he
      generalize encs (zs.take k) = out0 at HE hown hlen0
      go_wp2
      go_loopw [3, 5] (fun v t wi => ∃ (m : Nat) (out : List Nat), m < 18446744073709551616 ∧ out.length ≤ 655360 ∧ t = .int .u64 m ∧ Own wi w.heap.size v out ∧ Below w.heap.size w wi ∧ Hid (out ++ enc m = fin)) (fun _ t _ => (intOf t).toNat)
      case atStart => exact ⟨x, out0, hx64, hlen0, rfl, hown, hbel, HE⟩
      case round =>
        obtain ⟨m, out, hm, hout, rfl, hown', hbel', HM⟩ := hrel
        by_cases hbig : 128 ≤ m
        · have hdb : decide ((128 : Int) ≤ (m : Int)) = true := by simp; omega
          go_wp2_with (at_builtin; refine wpList_append_own _ rfl (.tmp 14) (.tmp 18) 35 rfl w.heap.size 5 i0 (.int .u8 0) 1 1 Try.underlying35 hi0 hz0 hz1 hz2 rfl (by decide) _ _ _ rfl (World.ownsRow.alloc hown' _) ⟨wr.heap.size, 0, none⟩ 1 1 [.int .u8 (bits BinOp.or IntKind.u8 ((m : Int) % 256) 128)] rfl rfl (one_cell _ _ _) (by simp [Value.oneCell']) (by simp only [maxLen]; omega) (by omega) (by have := hbel'.size; simp; omega) ?_; intro v' w1 hown1 hgrow1 _)
          have R := push_step (or_high' m) hown' hbel' (Nat.le_refl _) hown1 hgrow1
          clear hown1 hgrow1 hown' hbel'
          go_wp2
          go_roundw
          case rel => exact ⟨m / 128, out ++ [m % 128 + 128], by omega, by have := congrArg List.length HM.out; have := (enc_len64 hm).1; simp at *; omega, by go_num, R.1, R.2, by have := HM.out; rw [enc_big hbig] at this; unfold Hid; simpa using this⟩
          case measure => simp [intOf]; omega
        · have hdb : decide ((128 : Int) ≤ (m : Int)) = false := by simp; omega
          go_wp2_with (at_builtin; refine wpList_append_own _ rfl (.tmp 22) (.tmp 25) 35 rfl w.heap.size 5 i0 (.int .u8 0) 1 1 Try.underlying35 hi0 hz0 hz1 hz2 rfl (by decide) _ _ _ rfl (World.ownsRow.alloc hown' _) ⟨wr.heap.size, 0, none⟩ 1 1 [.int .u8 (m : Int)] rfl rfl (one_cell _ _ _) (by simp [Value.oneCell']) (by simp only [maxLen]; omega) (by omega) (by have := hbel'.size; simp; omega) ?_; intro v' w1 hown1 hgrow1 _)
          have R := push_step rfl hown' hbel' (Nat.le_refl _) hown1 hgrow1
          clear hown1 hgrow1 hown' hbel'
          go_wp2
          go_roundw
          case rel => exact ⟨k + 1, by omega, by go_num, by rw [HFIN.out, ← HM.out, enc_small (by omega)]; exact R.1, R.2⟩
          case measure => simp [intOf]; omega
    · go_wp2
      go_ret
      have hkn : k = n := by omega
      exact ⟨_, rfl, by have := hown; rw [List.take_of_length_le (by rw [HL.out]; omega)] at this; exact this, hbel⟩
end Go.Proofs.Ytdhaoacnedgogaa.Vm
