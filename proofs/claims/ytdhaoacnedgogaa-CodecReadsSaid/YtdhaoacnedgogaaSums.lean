/- The contract of frame.byteSums: the table of the bytes' checksums. -/
import Derived.Test.YtdhaoacnedgogaaChecked
import Derived.Test.YtdhaoacnedgogaaCrc
import Derived.Test.YtdhaoacnedgogaaWords
import Derived.Lib.Hide
import Derived.Laws.BitsAllLaws
import Derived.Laws.Bits64
import Derived.Laws.ResultCell
import Derived.Deep.WholeRow
import Derived.Deep.QuietTactic
import Derived.BigQuiet
namespace Go.Proofs.Ytdhaoacnedgogaa.Vm
open Go.RowKit

theorem info_tab : (Try.prog.info? 86).map (fun i => (i.zero, i.size)) = some (some (.agg (Array.replicate 256 (.int .u32 0))), 256) := by kernel_rfl

/-- The table, as far as k. -/
def tabV (k : Nat) : Array Value := Array.ofFn (n := 256) fun i => .int .u32 ((if i.val < k then tab i.val else 0 : Nat) : Int)
theorem tabV_size (k : Nat) : (tabV k).size = 256 := by simp [tabV]
theorem tabV_zero : tabV 0 = Array.replicate 256 (.int .u32 0) := by
  apply Array.ext
  · simp [tabV]
  · intro i h1 h2; simp [tabV]
theorem tabV_set (k : Nat) : (tabV k).setIfInBounds k (.int .u32 (tab k : Nat)) = tabV (k + 1) := by
  apply Array.ext
  · simp [tabV]
  · intro i h1 h2
    simp only [tabV, Array.size_setIfInBounds, Array.size_ofFn] at h1 h2
    simp only [tabV, Array.getElem_ofFn]
    by_cases h : k = i
    · subst h; simp
    · have : (i < k + 1) = (i < k) := by simp; omega
      rw [Array.getElem_setIfInBounds_ne (by simpa using h1) h]
      simp [this]
theorem tabV_one (k : Nat) : (tabV k).all (·.oneCell') = true := by
  rw [Array.all_eq_true]
  intro i h
  simp [tabV, Value.oneCell']
theorem tabV_at (i : Nat) (h : i < 256) : (tabV 256)[i]? = some (.int .u32 (tab i : Nat)) := by
  simp [tabV, h]

theorem step_u32 (c : Nat) (h : c < 4294967296) : bits BinOp.xor IntKind.u32 ((c : Int) / 2) ((c : Int) % 2 * 3988292384) = (step c : Nat) := by
  have h2 := u32_xor_nat (c / 2) (c % 2 * 3988292384) (by omega) (by omega)
  unfold step
  rw [← h2]
  congr 1

/-- A whole array out of a block. -/
theorem wp_load_row {P : Program} {o : Oper} {a : Act} {w : World} {next : Act → World → Prop} {Q : Exit → Act → World → Prop} (t : TypeId) (x : Operand) (ho : o.op = .load t x) (g n : Nat) (e tb : TypeId) (c : Array Value)
    (hx : a.eval x = .pointer (some ⟨g, 0, none⟩)) (hg : w.heap[g]? = some (.cells c tb (0, 0))) (hu : P.underlying t = some (.array n e)) (hi : (P.info? t).map (·.size) = some c.size)
    (h : next (a.put o.dst (.agg c)) w) : o.wp P a w next Q := by
  have hr := run_loadVar_row (P := P) w g tb t c (0, 0) _ hg hu rfl hi
  unfold Oper.wp execOp
  simp only [ho, hx, Instr.loadAt, Instr.sureAddr, Sem.run_bind, Sem.run_pure, Result.andThen, hr]
  exact h
/-- A whole array into a block. -/
theorem store_row {P : Program} {w : World} {g : Nat} {tb : TypeId} {c c' : Array Value} (hg : w.heap[g]? = some (.cells c tb (0, 0))) (hs : c.size = c'.size) (h1 : c'.all (·.oneCell') = true) :
    (storeCells ⟨g, 0, none⟩ c'.toList).run P w = .ok () (w.setRow g c') := by
  have := run_storeCells_from (P := P) g tb c'.toList 0 c w hg (by simp; omega) (fun v hv => (Array.all_eq_true_iff_forall_mem.1 h1) v (by simpa using hv))
  simpa [hs] using this

/-- A result that lies in a cell. -/
theorem results_cell {fn : Func} {p : Tmp} {ty : TypeId} (h : fn.results = #[.cell p ty]) (tmps : Array Value) (P : Program) (w : World) :
    (results fn tmps).run P w = ((asAddr (tmps.getD p undef)).run P w).andThen fun a w₁ => ((loadVar ty a).run P w₁).andThen fun v w₂ => .ok v w₂ := by
  simp only [results, h]
  simp [Sem.run_bind, Result.andThen]
  cases (asAddr (tmps[p]?.getD undef)).run P w with
  | ok a w1 => simp only []; cases (loadVar ty a).run P w1 <;> rfl
  | halt h w1 => rfl

set_option maxRecDepth 100000 in
set_option maxHeartbeats 400000 in
theorem sums_any (w : World) : Calls Try.prog 47 #[] w fun e w' => e = .returned (.agg (tabV 256)) ∧ Below w.heap.size w w' := by
  obtain ⟨hzero, hsize⟩ := zero_of_info info_tab
  go_enter Try.func47, Try.ntmps47
  go_wp2
  rw [← tabV_zero]
  obtain ⟨Z, hZ⟩ : ∃ Z, tabV 0 = Z := ⟨_, rfl⟩
  rw [hZ]
  have HZ := Lib.hid hZ
  clear hZ
  go_loopw [4] (fun i wr => ∃ (k : Nat) (T : Array Value), k ≤ 256 ∧ i = .int .i64 k ∧ wr = (w.alloc (.cells Z 86)).alloc (.cells T 86) ∧ Hid (T = tabV k)) (fun i _ => 256 - (intOf i).toNat)
  case atStart => exact ⟨0, Z, by omega, rfl, rfl, HZ.out.symm⟩
  case round =>
    obtain ⟨k, T, hk, rfl, rfl, HT⟩ := hrel
    by_cases hlt : k < 256
    · go_wp2
      go_loop [3, 9] (fun c j => ∃ m c' : Nat, m ≤ 8 ∧ c' < 4294967296 ∧ j = .int .i64 m ∧ c = .int .u32 c' ∧ Hid (c' = steps m k)) (fun _ j => 8 - (intOf j).toNat)
      case atStart => exact ⟨0, k, by omega, by omega, rfl, by go_num, rfl⟩
      case round =>
        obtain ⟨m, c, hm, hc, rfl, rfl, HC⟩ := hrel
        by_cases hm8 : m < 8
        · go_wp2
          exact ⟨⟨m + 1, step c, by omega, step_lt32 hc, by go_num, by rw [step_u32 c hc], by unfold Hid; rw [steps_succ, ← HC.out]⟩, by simp [intOf]; omega⟩
        · obtain rfl : m = 8 := by omega
          have hcell : T[k]? = some (.int .u32 0) := by rw [HT.out]; simp [tabV, hlt]
          go_wp2
          go_roundw
          case rel => exact ⟨k + 1, T.setIfInBounds k (.int .u32 c), by omega, by go_num, rfl, by unfold Hid; rw [HT.out, HC.out]; exact tabV_set k⟩
          case measure => simp [intOf]; omega
    · obtain rfl : k = 256 := by omega
      go_wp2
      have hZs : Z.size = 256 := by rw [← HZ.out, tabV_size]
      have hTs : T.size = 256 := by rw [HT.out, tabV_size]
      have hg1 : ((w.alloc (.cells Z 86)).alloc (.cells T 86)).heap[w.heap.size + 1]? = some (.cells T 86 (0, 0)) := by
        have := heap_alloc_last (w.alloc (.cells Z 86)) (.cells T 86)
        rwa [show (w.alloc (.cells Z 86)).heap.size = w.heap.size + 1 by simp] at this
      have hg0 : ((w.alloc (.cells Z 86)).alloc (.cells T 86)).heap[w.heap.size]? = some (.cells Z 86 (0, 0)) := by
        show ((w.heap.push _).push _)[w.heap.size]? = _
        simp [Array.getElem?_push]
      refine wp_load_row 86 (.tmp 1) rfl (w.heap.size + 1) 256 29 86 T rfl hg1 Try.underlying86 (by rw [hTs]; exact hsize) ?_
      have hst := store_row (P := Try.prog) (c' := T) hg0 (by rw [hTs, hZs]) (by rw [HT.out]; exact tabV_one _)
      have HG := Lib.hid (setRow_heap _ _ _ T _ _ hg0)
      have HTS := Lib.hid hTs
      have HSZ := Lib.hid hsize
      have HB : Below w.heap.size w (((w.alloc (.cells Z 86)).alloc (.cells T 86)).setRow w.heap.size T) :=
        ((((Below.refl _ w).alloc (Nat.le_refl _) _).alloc (by simp) _)).trans ⟨rfl, rfl, rfl, by simp [World.setRow], fun k hk => setRow_other _ _ k _ (by omega)⟩
      clear hg0 hg1 hTs hZs hsize hzero
      go_wp2
      have hld := run_loadVar_row (P := Try.prog) _ w.heap.size 86 86 T (0, 0) _ HG.out Try.underlying86 rfl (by rw [HTS.out]; exact HSZ.out)
      refine bodyPost_ret (v := .agg T) ?_ rfl ⟨by rw [HT.out], HB⟩
      rw [results_cell rfl]
      simp [asAddr, Result.andThen, hld]
end Go.Proofs.Ytdhaoacnedgogaa.Vm
