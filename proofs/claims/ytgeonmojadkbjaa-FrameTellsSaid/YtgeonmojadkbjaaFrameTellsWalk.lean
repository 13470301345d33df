/- tuggerlaw02.FrameTells returns true for every input: checksums, frames, and what stands in bytes, as the document has them. -/
import Derived.Test.YtgeonmojadkbjaaAwakeTwo
import Derived.Test.YtgeonmojadkbjaaRefScans
import Derived.Test.YtgeonmojadkbjaaAlls
namespace Go.Proofs.Ytgeonmojadkbjaa.Vm
open Go.RowKit

theorem all_same {w : World} {B : Nat} {a1 a2 : Option Addr} {n1 c1 n2 c2 : Nat} {xs : List (List Nat)} (h1 : Rows w B a1 n1 c1 xs) (h2 : Rows w B a2 n2 c2 xs) :
    Calls Try.prog 12 #[.slice a1 n1 c1, .slice a2 n2 c2] w fun e w' => e = .returned (.bool true) ∧ ∃ m, w' = w.drewN m := by
  have := all_any a1 a2 n1 c1 n2 c2 B xs xs w h1 h2
  rwa [decide_eq_true rfl] at this

set_option maxRecDepth 100000 in
set_option maxHeartbeats 1600000 in
theorem frame_tells_walk (a0 : Option Addr) (len0 cap0 : Nat) (z0 : List Int) (w : World) (w0 : IsRow .u8 w a0 len0 cap0 z0) :
    Calls Try.prog 3 #[.slice a0 len0 cap0] w fun e w' => e = .returned (.bool true) ∧ Below w.heap.size w w' := by
  have hr := Row.of_isRow w0 (fun n hn => (bounds_u8 (w0.wf n hn)).1)
  have hz : ∀ x ∈ (z0.take len0).map Int.toNat, x < 256 := by
    intro x hx
    obtain ⟨n, hn, rfl⟩ := List.mem_map.1 hx
    have := bounds_u8 (w0.wf n (List.mem_of_mem_take hn))
    omega
  clear w0
  generalize (z0.take len0).map Int.toNat = zs at hr hz
  have hm := hr.2.2.1
  have hlc := hr.2.1
  unfold maxLen at hm
  have HR := Lib.hid hr
  have HZ := Lib.hid hz
  clear hr hz
  by_cases c1 : 3000 < len0
  · go_enter Try.func3, Try.ntmps3
    go_wp2_with fail
    refine (awake_two w).mono ?_
    rintro e w1 ⟨rfl, hbel⟩
    go_wp2_with fail
    go_ret
    exact ⟨rfl, hbel⟩
  · have c2 : len0 ≤ 3000 := by omega
    clear c1
    go_enter Try.func3, Try.ntmps3
    go_wp2_with fail
    refine (awake_two w).mono ?_
    rintro e w1 ⟨rfl, hbel1⟩
    go_wp2_with fail
    refine (fput_any a0 len0 cap0 zs w1 ((HR.out.below hbel1).mono hbel1.size) HZ.out (by omega)).mono ?_
    rintro e w2 ⟨v2, rfl, hown2, hbel2⟩
    obtain ⟨a2, k2, rfl, hr2⟩ := hown2.slice
    have HR2 := Lib.hid hr2
    have hB2 : Below w.heap.size w w2 := hbel1.trans (hbel2.mono hbel1.size)
    clear hr2 hown2 hbel2 hbel1
    go_wp2_with fail
    refine (rfput_any a0 len0 cap0 zs w2 ((HR.out.below hB2).mono hB2.size) HZ.out (by omega)).mono ?_
    rintro e w3 ⟨v3, rfl, hown3, hbel3⟩
    obtain ⟨a3, k3, rfl, hr3⟩ := hown3.slice
    have HS := Lib.hid (same_same ((HR2.out.below hbel3).mono hbel3.size) hr3)
    have hB3 : Below w.heap.size w w3 := hB2.trans (hbel3.mono hB2.size)
    clear hr3 hown3 hbel3 hB2 HR2
    go_wp2_with fail
    refine HS.out.mono ?_
    rintro e w4 ⟨rfl, d1, rfl⟩
    have hB4 := below_drewN hB3 d1
    clear HS hB3
    generalize w3.drewN d1 = w4 at *
    go_wp2_with fail
    refine (scan_any a0 len0 cap0 zs w4 ((HR.out.below hB4).mono hB4.size) HZ.out (by omega)).mono ?_
    rintro e w5 ⟨v5, rfl, hown5, hbel5⟩
    obtain ⟨a5, k5, rfl, hr5⟩ := hown5.rows
    have HR5 := Lib.hid hr5
    have hB5 : Below w.heap.size w w5 := hB4.trans (hbel5.mono hB4.size)
    clear hr5 hown5 hbel5 hB4
    go_wp2_with fail
    refine (rscan_any a0 len0 cap0 zs w5 ((HR.out.below hB5).mono hB5.size) HZ.out (by omega)).mono ?_
    rintro e w6 ⟨v6, rfl, hown6, hbel6⟩
    obtain ⟨a6, k6, rfl, hr6⟩ := hown6.rows
    have HA := Lib.hid (all_same ((HR5.out.below hbel6).mono hbel6.size) hr6)
    have hB6 : Below w.heap.size w w6 := hB5.trans (hbel6.mono hB5.size)
    clear hr6 hown6 hbel6 hB5 HR5
    go_wp2_with fail
    refine HA.out.mono ?_
    rintro e w7 ⟨rfl, d2, rfl⟩
    have hB7 := below_drewN hB6 d2
    clear HA hB6
    generalize w6.drewN d2 = w7 at *
    go_wp2_with fail
    refine (fcheck_any a0 len0 cap0 _ zs w7 ((HR.out.below hB7).mono hB7.size) (Nat.le_refl _) HZ.out).mono ?_
    rintro e w8 ⟨rfl, hbel8⟩
    have hB8 : Below w.heap.size w w8 := hB7.trans (hbel8.mono hB7.size)
    clear hbel8 hB7
    go_wp2_with fail
    refine (rcheck_any a0 len0 cap0 _ zs w8 (HR.out.below hB8) HZ.out).mono ?_
    rintro e w9 ⟨rfl, rfl⟩
    go_wp2_with fail
    go_ret
    refine ⟨?_, hB8⟩
    simp
end Go.Proofs.Ytgeonmojadkbjaa.Vm
