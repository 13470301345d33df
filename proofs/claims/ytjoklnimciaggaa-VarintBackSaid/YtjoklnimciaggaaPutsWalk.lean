/- tuggerlaw01.VarintPuts returns true for every input: numbers and texts as bytes, and signs, as the document has them. -/
import Derived.Test.YtjoklnimciaggaaRefPuts
import Derived.Test.YtjoklnimciaggaaOneWalk
namespace Go.Proofs.Ytjoklnimciaggaa.Vm
open Go.RowKit

/-- A contract that leaves bytes in new memory, as its caller reads them. -/
theorem as_row {f : FuncId} {args : Array Value} {w : World} {l : List Nat} (h : Calls Try.prog f args w fun e w' => ∃ v, e = .returned v ∧ Own w' w.heap.size v l ∧ Below w.heap.size w w') :
    Calls Try.prog f args w fun e w' => ∃ a n c, e = .returned (.slice a n c) ∧ Row .u8 w' w'.heap.size a n c l ∧ Below w.heap.size w w' :=
  h.mono fun e w' ⟨v, he, hown, hbel⟩ => by
    obtain ⟨a, c, rfl⟩ := own_slice hown
    exact ⟨a, _, c, he, Row.of_own (e := 5) hown, hbel⟩

theorem same_same {w : World} {B : Nat} {a1 a2 : Option Addr} {n1 c1 n2 c2 : Nat} {xs : List Nat} (h1 : Row .u8 w B a1 n1 c1 xs) (h2 : Row .u8 w B a2 n2 c2 xs) :
    Calls Try.prog 15 #[.slice a1 n1 c1, .slice a2 n2 c2] w fun e w' => e = .returned (.bool true) ∧ ∃ m, w' = w.drewN m := by
  have := same_any a1 a2 n1 c1 n2 c2 B xs xs w h1 h2
  rw [sameB, decide_eq_true rfl] at this
  exact this

set_option maxRecDepth 100000 in
set_option maxHeartbeats 400000 in
theorem puts_walk (a0 : Option Addr) (len0 cap0 : Nat) (z0 : List Int) (a1 : Int) (a2 : ByteArray) (w : World) (w0 : IsRow .u64 w a0 len0 cap0 z0) (w1 : (Lit.int .i64 a1).wf = true) (w2 : a2.size ≤ maxLen) :
    Calls Try.prog 4 #[.slice a0 len0 cap0, .int .i64 a1, .string a2] w fun e w' => e = .returned (.bool true) ∧ Below w.heap.size w w' := by
  have hr := Row.of_isRow w0 (fun n hn => (bounds_u64 (w0.wf n hn)).1)
  have hz : ∀ x ∈ (z0.take len0).map Int.toNat, x < 18446744073709551616 := by
    intro x hx
    obtain ⟨n, hn, rfl⟩ := List.mem_map.1 hx
    have := bounds_u64 (w0.wf n (List.mem_of_mem_take hn))
    omega
  have hb := bounds_i64 w1
  obtain ⟨hb1, hb2⟩ := hb
  clear w0 w1
  generalize (z0.take len0).map Int.toNat = zs at hr hz
  have hm := hr.2.2.1
  have hlc := hr.2.1
  unfold maxLen at hm w2
  have HR := Lib.hid hr
  have HZ := Lib.hid hz
  clear hr hz
  by_cases hout : 100 < len0 ∨ 1000 < a2.size
  · by_cases c1 : 100 < len0
    · clear hout
      go_enter Try.func4, Try.ntmps4
      go_wp2_with fail
      refine (awake_any w).mono ?_
      rintro e w1 ⟨rfl, hbel⟩
      go_wp2_with fail
      go_ret
      exact ⟨rfl, hbel⟩
    · have c2 : 1000 < a2.size := by omega
      clear hout
      go_enter Try.func4, Try.ntmps4
      go_wp2_with fail
      refine (awake_any w).mono ?_
      rintro e w1 ⟨rfl, hbel⟩
      go_wp2_with fail
      go_ret
      exact ⟨rfl, hbel⟩
  · have c1 : len0 ≤ 100 := by omega
    have c2 : a2.size ≤ 1000 := by omega
    clear hout
    go_enter Try.func4, Try.ntmps4
    go_wp2_with fail
    refine (awake_any w).mono ?_
    rintro e w1 ⟨rfl, hbel1⟩
    have HR1 := Lib.hid ((HR.out.below hbel1).mono hbel1.size)
    go_wp2_with fail
    refine (as_row (put_any a0 len0 cap0 zs w1 HR1.out HZ.out (by omega))).mono ?_
    rintro e w2 ⟨x1, m1, k1, rfl, hr2, hbel2⟩
    have HR2 := Lib.hid hr2
    have HR3 := Lib.hid ((HR1.out.below hbel2).mono hbel2.size)
    clear hr2
    go_wp2_with fail
    refine (as_row (rall_any a0 len0 cap0 zs w2 HR3.out HZ.out (by omega))).mono ?_
    rintro e w3 ⟨x2, m2, k2, rfl, hr3, hbel3⟩
    have HS := Lib.hid (same_same ((HR2.out.below hbel3).mono hbel3.size) hr3)
    clear hr3
    go_wp2_with fail
    refine HS.out.mono ?_
    rintro e w4 ⟨rfl, d1, rfl⟩
    have hB4 : Below w.heap.size w (w3.drewN d1) := below_drewN (hbel1.trans ((hbel2.mono hbel1.size).trans (hbel3.mono (Nat.le_trans hbel1.size hbel2.size)))) d1
    clear HS HR2 HR3 HR1
    go_wp2_with fail
    refine (as_row (bytes_any a2 (w3.drewN d1) (by omega))).mono ?_
    rintro e w5 ⟨x3, m3, k3, rfl, hr5, hbel5⟩
    have HR5 := Lib.hid hr5
    clear hr5
    go_wp2_with fail
    refine (as_row (rbytes_any a2 w5 (by omega))).mono ?_
    rintro e w6 ⟨x4, m4, k4, rfl, hr6, hbel6⟩
    have HS := Lib.hid (same_same ((HR5.out.below hbel6).mono hbel6.size) hr6)
    clear hr6
    go_wp2_with fail
    refine HS.out.mono ?_
    rintro e w7 ⟨rfl, d2, rfl⟩
    have hB7 : Below w.heap.size w (w6.drewN d2) := below_drewN (hB4.trans ((hbel5.mono hB4.size).trans (hbel6.mono (Nat.le_trans hB4.size hbel5.size)))) d2
    clear HS HR5
    go_wp2_with fail
    refine (zig_any a1 _ hb1 hb2).mono ?_
    rintro e w8 ⟨rfl, rfl⟩
    go_wp2_with fail
    refine (rzig_any a1 _ hb1 hb2).mono ?_
    rintro e w8 ⟨rfl, rfl⟩
    go_wp2_with fail
    refine (zag_any (IntKind.u64.wrap a1) _ (by rw [IntKind.wrap_u64]; omega) (by rw [IntKind.wrap_u64]; omega)).mono ?_
    rintro e w8 ⟨rfl, rfl⟩
    go_wp2_with fail
    refine (rzag_any (IntKind.u64.wrap a1) _ (by rw [IntKind.wrap_u64]; omega) (by rw [IntKind.wrap_u64]; omega)).mono ?_
    rintro e w8 ⟨rfl, rfl⟩
    go_wp2_with fail
    go_ret
    refine ⟨?_, hB7⟩
    simp
end Go.Proofs.Ytjoklnimciaggaa.Vm
