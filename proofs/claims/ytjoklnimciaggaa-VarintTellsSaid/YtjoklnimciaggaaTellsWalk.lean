/- tuggerlaw01.VarintTells returns true for every input: numbers, many of them, and texts are read as the document has it. -/
import Derived.Test.YtjoklnimciaggaaManys
import Derived.Test.YtjoklnimciaggaaAwake
namespace Go.Proofs.Ytjoklnimciaggaa.Vm
open Go.RowKit

set_option maxRecDepth 100000 in
set_option maxHeartbeats 800000 in
theorem tells_walk (a0 : Option Addr) (len0 cap0 : Nat) (z0 : List Int) (p m : Int) (most : Int) (w : World) (w0 : IsRow .u8 w a0 len0 cap0 z0) (wp : (Lit.int .i64 p).wf = true) (wm : (Lit.int .i64 m).wf = true) (w2 : (Lit.int .u64 most).wf = true) :
    Calls Try.prog 3 #[.slice a0 len0 cap0, .agg #[.int .i64 p, .int .i64 m], .int .u64 most] w fun e w' => e = .returned (.bool true) ∧ Below w.heap.size w w' := by
  have hr := Row.of_isRow w0 (fun n hn => (bounds_u8 (w0.wf n hn)).1)
  have hz : ∀ x ∈ (z0.take len0).map Int.toNat, x < 256 := by
    intro x hx
    obtain ⟨n, hn, rfl⟩ := List.mem_map.1 hx
    have := bounds_u8 (w0.wf n (List.mem_of_mem_take hn))
    omega
  have hb := bounds_u64 w2
  clear w0 w2 wp wm
  generalize (z0.take len0).map Int.toNat = zs at hr hz
  obtain ⟨t, rfl⟩ := Int.eq_ofNat_of_zero_le hb.1
  have ht : t < 18446744073709551616 := by omega
  clear hb
  have hm := hr.2.2.1
  have hlc := hr.2.1
  unfold maxLen at hm
  have HR := Lib.hid hr
  have HZ := Lib.hid hz
  clear hr hz
  have hbelA : Below w.heap.size w (w.alloc (.cells #[.int .i64 p, .int .i64 m] 23)) := (Below.refl _ w).alloc (Nat.le_refl _) _
  have hAw := awake_any (w.alloc (.cells #[.int .i64 p, .int .i64 m] 23))
  have hA : Calls Try.prog 7 #[] (w.alloc (.cells #[.int .i64 p, .int .i64 m] 23)) fun e w1 => e = .returned (.bool true) ∧ Below w.heap.size w w1 ∧
      w.heap.size < w1.heap.size ∧ w1.cell? ⟨w.heap.size, 0, none⟩ = some (.int .i64 p) ∧ w1.cell? ⟨w.heap.size, 1, none⟩ = some (.int .i64 m) := by
    refine hAw.mono ?_
    rintro e w1 ⟨rfl, hb⟩
    have hs := hb.size
    refine ⟨rfl, hbelA.trans (hb.mono (by simp)), by simp at hs; omega, ?_, ?_⟩
    · rw [hb.cell (p := ⟨w.heap.size, 0, none⟩) (by simp)]; simp
    · rw [hb.cell (p := ⟨w.heap.size, 1, none⟩) (by simp)]; simp
  have HA := Lib.hid hA
  clear hA hAw hbelA
  by_cases hout : 400 < len0
  · go_enter Try.func3, Try.ntmps3
    go_wp2_with fail
    refine HA.out.mono ?_
    rintro e w1 ⟨rfl, hbel, hs1, hc0, hc1⟩
    go_wp2_with fail
    go_ret
    exact ⟨rfl, hbel⟩
  · go_enter Try.func3, Try.ntmps3
    go_wp2_with fail
    refine HA.out.mono ?_
    rintro e w1 ⟨rfl, hbel, hs1, hc0, hc1⟩
    have HR1 := Lib.hid ((HR.out.below hbel).mono hbel.size)
    have HT1 := Lib.hid (take_any a0 len0 cap0 _ zs p w1 HR1.out HZ.out)
    have HT2 := Lib.hid (rtake_any a0 len0 cap0 _ zs p w1 HR1.out HZ.out)
    have HM1 := Lib.hid (many_any a0 len0 cap0 zs p m t w1 HR1.out HZ.out ht)
    generalize takeS zs p = T at HT1 HT2
    go_wp2_with fail
    refine HT1.out.mono ?_
    rintro e w1' ⟨rfl, rfl⟩
    go_wp2_with fail
    refine HT2.out.mono ?_
    rintro e w1' ⟨rfl, rfl⟩
    go_wp2_with fail
    refine HM1.out.mono ?_
    rintro e w2 ⟨v1, rfl, hown1, hbel2⟩
    obtain ⟨x1, k1, rfl⟩ := own_slice hown1
    have hc0' : w2.cell? ⟨w.heap.size, 0, none⟩ = some (.int .i64 p) := (hbel2.cell (p := ⟨w.heap.size, 0, none⟩) hs1).trans hc0
    have hc1' : w2.cell? ⟨w.heap.size, 1, none⟩ = some (.int .i64 m) := (hbel2.cell (p := ⟨w.heap.size, 1, none⟩) hs1).trans hc1
    have HRA := Lib.hid (Row.of_own (e := 3) hown1)
    have HR2 := Lib.hid ((HR1.out.below hbel2).mono hbel2.size)
    have HM2 := Lib.hid (rmany_any a0 len0 cap0 zs p m t w2 HR2.out HZ.out ht)
    clear hown1 hc0 hc1 HT1 HT2 HM1
    generalize manyS zs p m t = M at HM2 HRA
    go_wp2_with fail
    refine HM2.out.mono ?_
    rintro e w3 ⟨v2, rfl, hown2, hbel3⟩
    obtain ⟨x2, k2, rfl⟩ := own_slice hown2
    have hs2 := hbel2.size
    have hc0 : w3.cell? ⟨w.heap.size, 0, none⟩ = some (.int .i64 p) := (hbel3.cell (p := ⟨w.heap.size, 0, none⟩) (show w.heap.size < w2.heap.size by omega)).trans hc0'
    clear hc0' hc1'
    have HRB := Lib.hid (Row.of_own (e := 3) hown2)
    have HRA' := Lib.hid ((HRA.out.below hbel3).mono hbel3.size)
    have HR3 := Lib.hid ((HR2.out.below hbel3).mono hbel3.size)
    have HX1 := Lib.hid (text_any a0 len0 cap0 _ zs p w3 HR3.out HZ.out)
    have HX2 := Lib.hid (rtext_any a0 len0 cap0 _ zs p w3 HR3.out HZ.out)
    have HI := Lib.hid (ints_any _ _ _ _ _ _ _ _ _ w3 HRA'.out HRB.out)
    rw [sameB, decide_eq_true rfl] at HI
    clear hown2 HM2 HRA HRA' HRB HR2 HR1
    generalize textS zs p = X at HX1 HX2
    go_wp2_with fail
    refine HX1.out.mono ?_
    rintro e w3' ⟨rfl, rfl⟩
    go_wp2_with fail
    refine HX2.out.mono ?_
    rintro e w3' ⟨rfl, rfl⟩
    go_wp2_with fail
    refine HI.out.mono ?_
    rintro e w4 ⟨rfl, d, rfl⟩
    go_wp2_with fail
    go_ret
    refine ⟨?_, ?_⟩
    · simp
    · have hb3 := hbel.trans ((hbel2.mono hbel.size).trans (hbel3.mono (Nat.le_trans hbel.size hbel2.size)))
      exact ⟨hb3.os, hb3.tape, hb3.output, hb3.size, hb3.block⟩
end Go.Proofs.Ytjoklnimciaggaa.Vm
