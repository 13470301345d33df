/- tuggerlaw01.VarintOne returns true for every input: what is taken, put again, is the bytes it was taken of. -/
import Derived.Test.YtjoklnimciaggaaAwake
import Derived.Test.YtjoklnimciaggaaSames
import Derived.Deep.RegionWith
namespace Go.Proofs.Ytjoklnimciaggaa.Vm
open Go.RowKit

/-- varint.Put of one number in a new row. -/
theorem put_one (w : World) (x : Nat) (hx : x < 18446744073709551616) (t : TypeId) : Calls Try.prog 16 #[.slice (some ⟨w.heap.size, 0, none⟩) 1 1] (w.alloc (.cells #[.int .u64 (x : Nat)] t)) fun e w' =>
    ∃ a n c, e = .returned (.slice a n c) ∧ Row .u8 w' w'.heap.size a n c (enc x) ∧ Below w.heap.size w w' := by
  refine (put_any _ 1 1 [x] _ ((row_one .u64 w x t).mono (by simp)) (by simpa using hx) (by omega)).mono ?_
  rintro e w1 ⟨v, rfl, hown, hbel⟩
  rw [show encs [x] = enc x by simp [encs]] at hown
  obtain ⟨a, c, rfl⟩ := own_slice hown
  exact ⟨a, _, c, rfl, Row.of_own (e := 5) hown, ((Below.refl _ w).alloc (Nat.le_refl _) _).trans (hbel.mono (by simp))⟩

theorem below_drewN {B : Nat} {a w : World} (h : Below B a w) (n : Nat) : Below B a (w.drewN n) := ⟨h.os, h.tape, h.output, h.size, h.block⟩

theorem takeS_two {zs : List Nat} {q : Nat} (hq : q ≤ zs.length) (he : (takeS zs q).2.2 ≠ 0) : (takeS zs q).2.2 = 2 ∨ (takeS zs q).2.2 = 3 := by
  unfold takeS at he ⊢
  rw [if_neg (by omega)] at he ⊢
  by_cases h2 : (dec 0 (zs.drop (q : Int).toNat)).2.2 = 0
  · rw [if_pos h2] at he; simp at he
  · rw [if_neg h2]; exact (dec_err 0 _ h2).2.2

set_option maxRecDepth 100000 in
set_option maxHeartbeats 400000 in
theorem one_walk (a0 : Option Addr) (len0 cap0 : Nat) (z0 : List Int) (a1 : Int) (w : World) (w0 : IsRow .u8 w a0 len0 cap0 z0) (w1 : (Lit.int .i64 a1).wf = true) :
    Calls Try.prog 6 #[.slice a0 len0 cap0, .int .i64 a1] w fun e w' => e = .returned (.bool true) ∧ Below w.heap.size w w' := by
  have hr := Row.of_isRow w0 (fun n hn => (bounds_u8 (w0.wf n hn)).1)
  have hz : ∀ x ∈ (z0.take len0).map Int.toNat, x < 256 := by
    intro x hx
    obtain ⟨n, hn, rfl⟩ := List.mem_map.1 hx
    have := bounds_u8 (w0.wf n (List.mem_of_mem_take hn))
    omega
  have hb := bounds_i64 w1
  clear w0 w1
  generalize (z0.take len0).map Int.toNat = zs at hr hz
  have hm := hr.2.2.1
  have hlc := hr.2.1
  unfold maxLen at hm
  have HR := Lib.hid hr
  have HZ := Lib.hid hz
  clear hr hz
  by_cases hout : 400 < len0 ∨ a1 < 0 ∨ (len0 : Int) < a1
  · by_cases c1 : 400 < len0
    · have HO := Lib.hid hout
      clear hout
      go_enter Try.func6, Try.ntmps6
      go_wp2_with fail
      refine (awake_any w).mono ?_
      rintro e w1 ⟨rfl, hbel⟩
      go_wp2_with fail
      go_ret
      exact ⟨rfl, hbel⟩
    · by_cases c2 : a1 < 0
      · clear hout
        go_enter Try.func6, Try.ntmps6
        go_wp2_with fail
        refine (awake_any w).mono ?_
        rintro e w1 ⟨rfl, hbel⟩
        go_wp2_with fail
        go_ret
        exact ⟨rfl, hbel⟩
      · have c3 : (len0 : Int) < a1 := by omega
        clear hout
        go_enter Try.func6, Try.ntmps6
        go_wp2_with fail
        refine (awake_any w).mono ?_
        rintro e w1 ⟨rfl, hbel⟩
        go_wp2_with fail
        go_ret
        exact ⟨rfl, hbel⟩
  · obtain ⟨q, rfl⟩ := Int.eq_ofNat_of_zero_le (show 0 ≤ a1 by omega)
    have c1 : len0 ≤ 400 := by omega
    have c3 : q ≤ len0 := by omega
    clear hout
    have hT : ∀ w1, Below w.heap.size w w1 → Calls Try.prog 8 #[.slice a0 len0 cap0, .int .i64 q] w1 _ := fun w1 hb => take_in a0 len0 cap0 _ zs q w1 (HR.out.below hb) HZ.out c3
    have hok := takeS_ok (p := q) HZ.out
    have herr := @takeS_err zs q
    have hlen : zs.length = len0 := HR.out.1
    obtain ⟨x, p, er, hD⟩ : ∃ x p er, takeS zs q = (x, p, er) := ⟨_, _, _, rfl⟩
    rw [hD, hlen] at hok
    rw [hD] at herr
    simp only [hD] at hT
    simp only [Int.toNat_natCast] at hok herr
    have HT := Lib.hid hT
    clear hT
    by_cases he : er = 0
    · subst he
      obtain ⟨_, h1, h2, h3, h4, h5⟩ := hok rfl
      have H5 := Lib.hid h5
      clear hok herr h5 hD hlen
      go_enter Try.func6, Try.ntmps6
      go_wp2_with fail
      refine (awake_any w).mono ?_
      rintro e w1 ⟨rfl, hbel⟩
      go_wp2_with fail
      refine (HT.out w1 hbel).mono ?_
      rintro e w1' ⟨rfl, rfl⟩
      go_wp2_with fail
      obtain ⟨b, off, rfl, hb, hcs⟩ := HR.out.cells (by omega)
      clear hcs
      have hput : Calls Try.prog 16 #[.slice (some ⟨w1.heap.size, 0, none⟩) 1 1] (w1.alloc (.cells #[.int .u64 (x : Nat)] 24)).drew fun e w' =>
          ∃ a n c, e = .returned (.slice a n c) ∧ Row .u8 w' w'.heap.size a n c (enc x) ∧ Below w1.heap.size w1.drew w' := put_one w1.drew x h4 24
      have HP := Lib.hid hput
      clear hput
      have hsame : ∀ w2 a2 n2 c2, Row .u8 w2 w2.heap.size a2 n2 c2 (enc x) → Below w1.heap.size w1.drew w2 →
          Calls Try.prog 15 #[.slice a2 n2 c2, .slice (some ⟨b, off + q, none⟩) (p - q) (cap0 - q)] w2 fun e w' => e = .returned (.bool true) ∧ ∃ m, w' = w2.drewN m := by
        intro w2 a2 n2 c2 hr2 hbel2
        have hb2 : Below w.heap.size w w2 := hbel.drew.trans (hbel2.mono hbel.size)
        have hp := HR.out.part (lo := q) (hi := p) (mx := cap0) (a' := some ⟨b, off + q, none⟩) (by omega) (by omega) (by omega) (Nat.le_refl _) (fun b' off' e1 _ => by injection e1 with e1; injection e1 with e1 e2; subst e1 e2; rfl)
        have := same_any a2 _ n2 c2 _ _ w2.heap.size _ _ w2 hr2 ((hp.below hb2).mono hb2.size)
        rw [sameB, decide_eq_true H5.out] at this
        exact this
      have HS := Lib.hid hsame
      clear hsame
      go_region_with (first
        | (go_at_call 16; refine HP.out.mono ?_; rintro e w2 ⟨a2, n2, c2, rfl, hr2, hbel2⟩; have HR2 := Lib.hid hr2; clear hr2)
        | (go_at_call 15; refine (HS.out w2 a2 n2 c2 HR2.out hbel2).mono ?_; rintro e w3 ⟨rfl, m, rfl⟩))
      all_goals
        go_wp2_with fail
        go_ret
        exact ⟨rfl, below_drewN (hbel.drew.trans (hbel2.mono hbel.size)) m⟩
    · obtain ⟨e1, e2⟩ : x = 0 ∧ p = 0 := by have := herr he; simp at this; exact this
      subst e1 e2
      clear hok herr
      have hcase : er = 2 ∨ er = 3 := by
        have := takeS_two (zs := zs) (q := q) (by omega) (by rw [hD]; exact he)
        rw [hD] at this
        exact this
      clear he hD hlen
      rcases hcase with rfl | rfl
      all_goals
        go_enter Try.func6, Try.ntmps6
        go_wp2_with fail
        refine (awake_any w).mono ?_
        rintro e w1 ⟨rfl, hbel⟩
        go_wp2_with fail
        refine (HT.out w1 hbel).mono ?_
        rintro e w1' ⟨rfl, rfl⟩
        go_wp2_with fail
        go_ret
        exact ⟨rfl, hbel⟩
end Go.Proofs.Ytjoklnimciaggaa.Vm
