/- The contract of layer 12's Pairs. -/
import Derived.Test.YtacigmjdppoonaaPairRows
import Derived.Test.YtacigmjdppoonaaRefNears
import Derived.ChangeKeysEq
namespace Go.Proofs.Ytacigmjdppoonaa.Vm
open Go Go.RowKit
set_option maxRecDepth 100000

theorem eq_pairI (x y : Int) (hx : (Lit.int .i64 x).wf = true) (hy : (Lit.int .i64 y).wf = true) (w : World) : (Op.equal 42 (.agg #[.int .i64 x, .int .i64 y]) (.agg #[.int .i64 x, .int .i64 y])).run Try.prog w = .ok true w := by
  obtain ⟨i0, hi0, _, _, _⟩ := info_parts info_int
  have h1 := run_equalIn_array (P := Try.prog) (w := w) (d := 9999) (t := 42) (e := 3) (n := 2) (i := i0) (xs := #[.int .i64 x, .int .i64 y]) (ys := #[.int .i64 x, .int .i64 y]) (hu := Try.underlying42) (hi := hi0)
  have hp : Try.prog.plainKey 3 = true := by kernel_rfl
  have hc : Try.prog.cellsOf 3 = 1 := by kernel_rfl
  have hk : (List.range 2).mapM (fun i => Try.prog.keyLits 1 3 (((#[.int .i64 x, .int .i64 y] : Array Value).toList.drop (i * Try.prog.cellsOf 3)).take (Try.prog.cellsOf 3))) = some [[Lit.int .i64 x], [Lit.int .i64 y]] := by
    rw [hc]
    simp [List.range, List.range.loop, Program.keyLits, Try.underlying3, hx, hy]
  obtain ⟨r, hr, hiff⟩ := run_eqItems_plain w 9998 hp #[.int .i64 x, .int .i64 y] #[.int .i64 x, .int .i64 y] (List.range 2) _ _ hk hk
  have hrt : r = true := hiff.2 rfl
  subst hrt
  exact h1.trans hr

theorem ne_pairI (x y : Int) (hx : (Lit.int .i64 x).wf = true) (hy : (Lit.int .i64 y).wf = true) (w : World) : (binOp .neq 42 (.agg #[.int .i64 x, .int .i64 y]) (.agg #[.int .i64 x, .int .i64 y])).run Try.prog w = .ok (.bool false) w := by
  simp only [binOp]
  simp [eq_pairI x y hx hy w, Result.andThen]

set_option maxHeartbeats 2000000 in
theorem pairs12_any (a1 a2 : Option Addr) (n c1 c2 B : Nat) (l : List (Nat × Nat)) (w : World) (h1 : RowP w B a1 n c1 l) (h2 : RowP w B a2 n c2 l) (hn : n ≤ 10000000) (hb : ∀ p ∈ l, p.1 ≤ 1000000 ∧ p.2 ≤ 1000000) :
    Calls Try.prog 16 #[.slice a1 n c1, .slice a2 n c2] w fun e w' => e = .returned (.bool true) ∧ ∃ m, w' = w.drewN m := by
  have HC1 := Lib.hid (fun h => h1.cells h)
  have HC2 := Lib.hid (fun h => h2.cells h)
  have HLN := Lib.hid h1.1
  have hm1 := h1.2.1
  have hm2 := h2.2.1
  have hx1 := h1.2.2.1
  have hx2 := h2.2.2.1
  unfold maxLen at hx1 hx2
  have e0 : ((n : Int) != (n : Int)) = false := by simp
  clear h1 h2
  go_enter Try.func16, Try.ntmps16
  go_wp2_with fail
  go_loopg [5] n (fun gg v wr => ∃ k : Nat, k + gg = n ∧ v = .int .i64 k ∧ Hid (∃ m, wr = w.drewN m))
  case atStart => exact ⟨0, by omega, rfl, 0, rfl⟩
  case round =>
    obtain ⟨k, hk, rfl, HD⟩ := hrel
    by_cases hlt : k < n
    · obtain ⟨b1, o1, rfl, hb1, hc1⟩ := HC1.out (by omega)
      obtain ⟨b2, o2, rfl, hb2, hc2⟩ := HC2.out (by omega)
      obtain ⟨md, hwd⟩ := HD.out
      have q1 : wr.cell? ⟨b1, o1 + k * 2, none⟩ = some (.int .i64 ((l.getD k (0, 0)).1 : Nat)) := by rw [hwd]; exact (hc1 k hlt).1
      have q2 : wr.cell? ⟨b1, o1 + k * 2 + 1, none⟩ = some (.int .i64 ((l.getD k (0, 0)).2 : Nat)) := by rw [hwd]; exact (hc1 k hlt).2
      have q3 : wr.cell? ⟨b2, o2 + k * 2, none⟩ = some (.int .i64 ((l.getD k (0, 0)).1 : Nat)) := by rw [hwd]; exact (hc2 k hlt).1
      have q4 : wr.cell? ⟨b2, o2 + k * 2 + 1, none⟩ = some (.int .i64 ((l.getD k (0, 0)).2 : Nat)) := by rw [hwd]; exact (hc2 k hlt).2
      have HWD := Lib.hid hwd
      have hxy := hb (l.getD k (0, 0)) (by have hkl : k < l.length := by rw [HLN.out]; exact hlt
                                           simp [List.getD, hkl])
      generalize (l.getD k (0, 0)).1 = x at q1 q3 hxy
      generalize (l.getD k (0, 0)).2 = y at q2 q4 hxy
      have hkn : (k : Int) < (n : Int) := by omega
      clear hc1 hc2 hwd
      have HEQ := fun V => ne_pairI (x : Int) (y : Int) (WalkArith.wf_i64 (by omega)) (WalkArith.wf_i64 (by omega)) V
      clear hxy
      go_wp2_with fail
      go_quiet (fail)
      have HQ : Hid (wr.drewN nq = w.drewN (md + nq)) := by unfold Hid; rw [HWD.out, World.drewN_drewN]
      clear q1 q2 q3 q4 HEQ
      go_wp2_with fail
      go_roundg (gk - 1)
      case rel => exact ⟨k + 1, by omega, by go_num, _, HQ.out⟩
      case measure => omega
    · obtain rfl : k = n := by omega
      obtain ⟨m, hm⟩ := HD.out
      have HM := Lib.hid hm
      clear hm
      go_wp2_with fail
      go_ret
      exact ⟨rfl, _, HM.out⟩
end Go.Proofs.Ytacigmjdppoonaa.Vm
