/- The contract of grid.Print. -/
import Derived.Test.YteibhacpghobpaaRights
import Derived.Test.YteibhacpghobpaaParses
import Derived.Test.YteibhacpghobpaaGoes
import Derived.Test.YteibhacpghobpaaPrintMath
namespace Go.Proofs.Yteibhacpghobpaa.Vm
open Go.RowKit

theorem ret_str {a b : ByteArray} (h : a = b) : Ending.returned (.string a) = .returned (.string b) := by rw [h]
theorem printS_no {W H : Int} {l : List Nat} (h : rightS W H l = false) : printS W H l = [] := by unfold printS; rw [h]; rfl

set_option maxRecDepth 100000 in
set_option maxHeartbeats 800000 in
theorem print_any (W H : Int) (s : ByteArray) (w : World) (hs : s.size ≤ maxLen) :
    Calls Try.prog 12 #[gridV W H s] w fun e w' => e = .returned (.string (strOf (printS W H (bytesOf s)))) ∧ Below w.heap.size w w' := by
  obtain ⟨i0, hi0, hz0, hz1, hz2⟩ := info_parts info_u8
  have hB : Below w.heap.size w (w.alloc (gridO W H s)) := (Below.refl _ _).alloc (Nat.le_refl _) _
  have hri := fun w => right_any W H s w hs
  unfold maxLen at hs
  cases hr : rightS W H (bytesOf s)
  · have HE := Lib.hid (printS_no hr)
    rw [hr] at hri
    have HR := Lib.hid hri
    clear hri hr
    go_enter Try.func12, Try.ntmps12
    go_wp2_with fail
    refine (HR.out _).mono ?_
    rintro e w1 ⟨rfl, hb⟩
    have hb2 := hB.trans (hb.mono hB.size)
    go_wp2_with fail
    go_ret
    exact ⟨ret_str (by rw [HE.out]; rfl), hb2⟩
  rw [hr] at hri
  have HR := Lib.hid hri
  have hok := Okay.of hr
  have HOK := Lib.hid hok
  have hle := hok.le
  obtain ⟨v, rfl⟩ := Int.eq_ofNat_of_zero_le (show 0 ≤ W by have := hok.w1; omega)
  obtain ⟨h, rfl⟩ := Int.eq_ofNat_of_zero_le (show 0 ≤ H by have := hok.h1; omega)
  have hv1 : 1 ≤ v := by have := hok.w1; omega
  have hv2 : v ≤ 256 := by have := hok.w2; omega
  have hh1 : 1 ≤ h := by have := hok.h1; omega
  have hh2 : h ≤ 256 := by have := hok.h2; omega
  have hlen : (bytesOf s).length = v * h := by rw [bytesOf_len]; have := hok.len; exact_mod_cast this
  have HE : Hid (printS v h (bytesOf s) = printK v (bytesOf s) s.size) := by
    unfold Hid printS
    rw [if_pos hr, ← bytesOf_len, printK_all (by omega) hlen]; rfl
  have HL := Lib.hid (bytesOf_len s)
  have hp0 : (0 : Int) ≤ ((v : Int) + 1) * h := Int.mul_nonneg (by omega) (by omega)
  have hprod : (v + 1) * h ≤ 65792 := Nat.le_trans (Nat.mul_le_mul (show v + 1 ≤ 257 by omega) hh2) (by omega)
  have hcast : (((v + 1) * h : Nat) : Int) = ((v : Int) + 1) * h := by rw [Int.natCast_mul, Int.natCast_add]; rfl
  have hp1 : ((v : Int) + 1) * h ≤ 65792 := by rw [← hcast]; omega
  have HCAST := Lib.hid hcast
  clear hcast
  have hlast := fun (k : Nat) w (hk : k ≤ 65536) => lastOfRow_any v h k s w (by omega) (by omega) (by omega) (by omega)
  have HLA := Lib.hid hlast
  clear hri hr hok hlen hlast
  go_enter Try.func12, Try.ntmps12
  go_wp2_with fail
  refine (HR.out _).mono ?_
  rintro e w1 ⟨rfl, hb⟩
  have hb2 := hB.trans (hb.mono hB.size)
  obtain ⟨hc, hfz⟩ := bcell hb
  have hz : w.heap.size < w1.heap.size := by have := hb.size; simp at this; omega
  obtain ⟨w2, hmk, hown2, hg2⟩ := run_make_own (P := Try.prog) w1 w1.heap.size 44 5 i0 _ 1 Try.underlying44 hi0 hz0 hz1 .i64 .i64 ((v + 1) * h) (by rw [hz2]; omega) (by unfold maxLen; omega) (Nat.le_refl _)
  rw [HCAST.out] at hmk
  have hbel2 : Below w1.heap.size w1 w2 := (Below.refl _ _).grown hg2 (Nat.le_refl _) (fun k hk => by simp at hk)
  have hs12 := hbel2.size
  have hcg : ∀ o, w1.cell? ⟨w.heap.size, o, none⟩ = (w.alloc (gridO v h s)).cell? ⟨w.heap.size, o, none⟩ := fun o => hc _ _ (by simp)
  have Hcg := Lib.hid hcg
  obtain ⟨hc2, hfz2⟩ := bcell hbel2
  clear hg2 hcg
  go_wp2_with fail
  go_loopw [3] (fun v' wr => ∃ (k : Nat) (out : List Nat), k ≤ s.size ∧ out.length ≤ 2 * k ∧ wr.heap[w2.heap.size]? = some (.stringIter s k) ∧ Own wr w1.heap.size v' out ∧ Below w1.heap.size w1 wr ∧ Hid (out = printK v (bytesOf s) k)) (fun _ wr => s.size - wr.iterPos w2.heap.size)
  case atStart => exact ⟨0, [], Nat.zero_le _, Nat.zero_le _, World.iter_heap _ _ _, World.ownsRow.alloc hown2 _, hbel2.alloc hs12 _, rfl⟩
  case round =>
    obtain ⟨k, out, hk, hol, hit, hown, hbel, HO⟩ := hrel
    have hpos : wr.iterPos w2.heap.size = k := by simp [World.iterPos, hit]
    have HPOS := Lib.hid hpos
    clear hpos
    by_cases hlt : k < s.size
    · have hat := bytesOf_at s k hlt
      have ha : (s[k]'hlt).toNat < 128 := letterS_lt (HOK.out.at hlt)
      have hnx := fun ty => Lib.run_next_ascii_at (P := Try.prog) wr w2.heap.size s k ty hit hlt ha
      generalize (s[k]'hlt).toNat = c at hat hnx ha
      have hPK : printK v (bytesOf s) (k + 1) = out ++ [c] ++ (if k % v = v - 1 then [10] else []) := by rw [printK, ← HO.out, hat]
      have hLAk := fun w => HLA.out k w (by omega)
      have hbool : ((k : Int) % v == (v : Int) - 1) = decide (k % v = v - 1) := by
        rw [Bool.eq_iff_iff, beq_iff_eq, decide_eq_true_eq]; omega
      rw [hbool] at hLAk
      have hit2 := Lib.iterAt_heap wr _ s k (k + 1) hit
      have hown2' : Own (wr.iterAt w2.heap.size s (k + 1)) w1.heap.size u3 out := own_iterAt hown hit _
      have hbel2' : Below w1.heap.size w1 (wr.iterAt w2.heap.size s (k + 1)) := Lib.below_iterAt hbel hs12 _ _
      have HNX := Lib.hid hnx
      clear hnx hown hbel hit HO hat hbool
      generalize hwi : wr.iterAt w2.heap.size s (k + 1) = wi at HNX hit2 hown2' hbel2'
      have HWI := Lib.hid hwi
      have hnx := HNX.out
      clear HNX hwi
      have hitlt : w2.heap.size < wi.heap.size := (Array.getElem?_eq_some_iff.1 hit2).1
      by_cases hrow : k % v = v - 1
      · rw [if_pos hrow] at hPK
        rw [decide_eq_true hrow] at hLAk
        have HPK := Lib.hid hPK
        have HLAk := Lib.hid hLAk
        clear hPK hLAk hrow
        go_wp2_with (at_builtin; refine wpList_append_own _ rfl (.tmp 23) (.tmp 26) 44 rfl w1.heap.size 5 i0 (.int .u8 0) 1 1 Try.underlying44 hi0 hz0 hz1 hz2 rfl (by decide) _ _ _ rfl (World.ownsRow.alloc hown2' _) ⟨wi.heap.size, 0, none⟩ 1 1 [.int .u8 (c : Int)] rfl rfl (one_cell _ _ _) (by simp [Value.oneCell']) (by simp only [maxLen]; omega) (by omega) (by have := hbel2'.size; simp; omega) ?_; intro v' w3 hown3 hgrow3 _; have RR := push_step rfl hown2' hbel2' (Nat.le_refl _) hown3 hgrow3; have hit3 : w3.heap[w2.heap.size]? = some (.stringIter s (k + 1)) := (hgrow3.block _ (by simp; omega) (own_ne_iter hown2' hit2)).trans ((heap_keep hitlt).trans hit2); clear hown3 hgrow3 hown2' hbel2'; obtain ⟨hc3, hfz3⟩ := bcell RR.2)
        refine (HLAk.out _).mono ?_
        rintro e w4 ⟨rfl, hb4⟩
        have hbel4 : Below w1.heap.size w1 w4 := RR.2.trans (hb4.mono RR.2.size)
        have hown4 : Own w4 w1.heap.size v' (out ++ [c]) := own_below RR.1 hb4 (fun g hg => (World.ownsRow.lt RR.1 g hg).2)
        have hit4 : w4.heap[w2.heap.size]? = some (.stringIter s (k + 1)) := (hb4.block _ (Array.getElem?_eq_some_iff.1 hit3).1).trans hit3
        have hitlt4 : w2.heap.size < w4.heap.size := (Array.getElem?_eq_some_iff.1 hit4).1
        have hl4 : (out ++ [c]).length = out.length + 1 := by simp
        clear hc3 hfz3 hb4 RR hit3
        generalize hout4 : out ++ [c] = out4 at hown4 HPK hl4
        have HL4 := Lib.hid hl4
        have hl4' : out4.length ≤ 2 * k + 1 := by omega
        clear hout4 hl4
        go_wp2_with (at_builtin; refine wpList_append_own _ rfl (.tmp 31) (.tmp 32) 44 rfl w1.heap.size 5 i0 (.int .u8 0) 1 1 Try.underlying44 hi0 hz0 hz1 hz2 rfl (by decide) _ _ _ rfl (World.ownsRow.alloc hown4 _) ⟨w4.heap.size, 0, none⟩ 1 1 [.int .u8 10] rfl rfl (one_cell _ _ _) (by simp [Value.oneCell']) (by simp only [maxLen]; omega) (by omega) (by have := hbel4.size; simp; omega) ?_; intro v5 w5 hown5 hgrow5 _; have RR5 := push_step (x := 10) rfl hown4 hbel4 (Nat.le_refl _) hown5 hgrow5; have hit5 : w5.heap[w2.heap.size]? = some (.stringIter s (k + 1)) := (hgrow5.block _ (by simp; omega) (own_ne_iter hown4 hit4)).trans ((heap_keep hitlt4).trans hit4); clear hown5 hgrow5 hown4 hbel4)
        go_roundw
        case rel => exact ⟨k + 1, out4 ++ [10], by omega, by simp; omega, hit5, RR5.1, RR5.2, HPK.out.symm⟩
        case measure => rw [World.iterPos, hit5, HPOS.out]; simp only []; omega
      · rw [if_neg hrow, List.append_nil] at hPK
        rw [decide_eq_false hrow] at hLAk
        have HPK := Lib.hid hPK
        have HLAk := Lib.hid hLAk
        clear hPK hLAk hrow
        go_wp2_with (at_builtin; refine wpList_append_own _ rfl (.tmp 23) (.tmp 26) 44 rfl w1.heap.size 5 i0 (.int .u8 0) 1 1 Try.underlying44 hi0 hz0 hz1 hz2 rfl (by decide) _ _ _ rfl (World.ownsRow.alloc hown2' _) ⟨wi.heap.size, 0, none⟩ 1 1 [.int .u8 (c : Int)] rfl rfl (one_cell _ _ _) (by simp [Value.oneCell']) (by simp only [maxLen]; omega) (by omega) (by have := hbel2'.size; simp; omega) ?_; intro v' w3 hown3 hgrow3 _; have RR := push_step rfl hown2' hbel2' (Nat.le_refl _) hown3 hgrow3; have hit3 : w3.heap[w2.heap.size]? = some (.stringIter s (k + 1)) := (hgrow3.block _ (by simp; omega) (own_ne_iter hown2' hit2)).trans ((heap_keep hitlt).trans hit2); clear hown3 hgrow3 hown2' hbel2'; obtain ⟨hc3, hfz3⟩ := bcell RR.2)
        refine (HLAk.out _).mono ?_
        rintro e w4 ⟨rfl, hb4⟩
        have hbel4 : Below w1.heap.size w1 w4 := RR.2.trans (hb4.mono RR.2.size)
        have hown4 : Own w4 w1.heap.size v' (out ++ [c]) := own_below RR.1 hb4 (fun g hg => (World.ownsRow.lt RR.1 g hg).2)
        have hit4 : w4.heap[w2.heap.size]? = some (.stringIter s (k + 1)) := (hb4.block _ (Array.getElem?_eq_some_iff.1 hit3).1).trans hit3
        have hitlt4 : w2.heap.size < w4.heap.size := (Array.getElem?_eq_some_iff.1 hit4).1
        have hl4 : (out ++ [c]).length = out.length + 1 := by simp
        clear hc3 hfz3 hb4 RR hit3
        generalize hout4 : out ++ [c] = out4 at hown4 HPK hl4
        have HL4 := Lib.hid hl4
        have hl4' : out4.length ≤ 2 * k + 1 := by omega
        clear hout4 hl4
        go_wp2_with fail
        go_roundw
        case rel => exact ⟨k + 1, out4, by omega, by omega, hit4, hown4, hbel4, HPK.out.symm⟩
        case measure => rw [World.iterPos, hit4, HPOS.out]; simp only []; omega
    · have hnx := fun ty => Lib.run_next_end_at (P := Try.prog) wr w2.heap.size s k ty hit hlt
      obtain rfl : k = s.size := by omega
      obtain ⟨a, cp, rfl⟩ := own_slice hown
      have hcv := conv_row (P := Try.prog) 44 5 9 Try.underlying44 Try.underlying5 Try.underlying9 (Row.of_own (e := 5) hown)
      have hb3 := hb2.trans (hbel.mono hb2.size)
      clear hown hown2
      go_wp2_with fail
      go_ret
      exact ⟨ret_str (by rw [HE.out, HO.out]), hb3⟩
end Go.Proofs.Yteibhacpghobpaa.Vm
