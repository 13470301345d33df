/- The contracts of the document's Put (one number), All and Bytes: the same bytes as the program's. -/
import Derived.Test.YtdhaoacnedgogaaBytes
import Derived.Test.YtdhaoacnedgogaaMath
import Derived.Test.YtdhaoacnedgogaaBits
import Derived.Test.YtdhaoacnedgogaaOwns
namespace Go.Proofs.Ytdhaoacnedgogaa.Vm
open Go.RowKit

set_option maxRecDepth 100000 in
set_option maxHeartbeats 400000 in
theorem rput_any (k : Nat) : ∀ (n : Nat) (w : World), n < 128 ^ (k + 1) → n < 18446744073709551616 →
    Calls Try.prog 31 #[.int .u64 n] w fun e w' => ∃ v, e = .returned v ∧ Own w' w.heap.size v (enc n) ∧ Below w.heap.size w w' := by
  obtain ⟨i0, hi0, hz0, hz1, hz2⟩ := info_parts info_u8
  induction k with
  | zero =>
    intro n w h1 h2
    have h3 : n < 128 := by omega
    clear h1
    go_enter Try.func31, Try.ntmps31
    go_wp2_with fail
    go_ret
    exact ⟨_, rfl, by rw [enc_small h3]; exact own_new w n, (Below.refl _ _).alloc (Nat.le_refl _) _⟩
  | succ k ih =>
    intro n w h1 h2
    by_cases h3 : n < 128
    · clear h1
      have IH := Lib.hid ih
      clear ih
      go_enter Try.func31, Try.ntmps31
      go_wp2_with fail
      go_ret
      exact ⟨_, rfl, by rw [enc_small h3]; exact own_new w n, (Below.refl _ _).alloc (Nat.le_refl _) _⟩
    · have h4 : n / 128 < 128 ^ (k + 1) := by rw [Nat.div_lt_iff_lt_mul (by omega)]; rw [Nat.pow_succ] at h1; omega
      have IH0 : ∀ w, Calls Try.prog 31 #[.int .u64 ((n : Int) / 128)] w fun e w' => ∃ v, e = .returned v ∧ Own w' w.heap.size v (enc (n / 128)) ∧ Below w.heap.size w w' := by
        intro w
        have := ih (n / 128) w h4 (by omega)
        rw [show ((n / 128 : Nat) : Int) = (n : Int) / 128 by omega] at this
        exact this
      have IH := Lib.hid IH0
      have hl := (enc_len64 (n := n / 128) (by omega))
      clear ih h1 h4 IH0
      go_enter Try.func31, Try.ntmps31
      go_wp2_with fail
      refine (IH.out _).mono ?_
      rintro e w1 ⟨v, rfl, hown, hbel⟩
      obtain ⟨g, cap, rfl, hb, hg, hr⟩ := hown.form (by omega)
      have hown0 := own_new w (n % 128 + 128)
      rw [show ((n % 128 + 128 : Nat) : Int) = (n : Int) % 128 + 128 by omega] at hown0
      have hown1 : Own w1 w.heap.size _ _ := own_below hown0 hbel (by intro k hk; simp [Value.ownBlock] at hk; simp; omega)
      have hbel1 : Below w.heap.size w w1 := ((Below.refl _ w).alloc (Nat.le_refl _) _).trans (hbel.mono (by simp))
      clear hown hown0 hbel
      have HRC := Lib.hid (row_cells hr)
      clear hr
      go_wp2_with (at_builtin; refine wpList_append_own _ rfl (.tmp 12) (.tmp 15) 35 rfl w.heap.size 5 i0 (.int .u8 0) 1 1 Try.underlying35 hi0 hz0 hz1 hz2 rfl (by decide) _ _ _ rfl hown1 ⟨g, 0, none⟩ (enc (n / 128)).length cap (u8s (enc (n / 128))) rfl (by simp [u8s_len]) HRC.out (u8s_one _) (by simp only [maxLen]; simp; omega) (by simp; omega) hbel1.size ?_; intro v' w2 hown2 hgrow2 _)
      go_ret
      refine ⟨_, rfl, ?_, hbel1.grown hgrow2 hbel1.size (fun k hk => (World.ownsRow.lt hown1 k hk).1)⟩
      rw [show enc n = [n % 128 + 128] ++ enc (n / 128) from enc_big (by omega)]
      unfold Own
      rw [List.length_append, u8s_append]
      exact hown2

/-- The document's Put of any number. -/
theorem rput_one (n : Nat) (w : World) (h : n < 18446744073709551616) :
    Calls Try.prog 31 #[.int .u64 n] w fun e w' => ∃ v, e = .returned v ∧ Own w' w.heap.size v (enc n) ∧ Below w.heap.size w w' := rput_any 9 n w (by omega) h

end Go.Proofs.Ytdhaoacnedgogaa.Vm
