/- The contracts of the table's method check, frame.Check, frame.word and frame.broken. -/
import Derived.Test.YtdhaoacnedgogaaSums
namespace Go.Proofs.Ytdhaoacnedgogaa.Vm
open Go.RowKit

theorem steps8_tab (c x : Nat) (hx : x < 256) : steps 8 (c ^^^ x) = c / 256 ^^^ tab (c % 256 ^^^ x) := by rw [tab, steps8 c x hx]
theorem tab_lt {j : Nat} (h : j < 256) : tab j < 4294967296 := by rw [tab]; exact steps_lt 8 j (by omega)
theorem xor_lt32 {a b : Nat} (ha : a < 4294967296) (hb : b < 4294967296) : a ^^^ b < 4294967296 := Nat.xor_lt_two_pow (n := 32) ha hb
theorem ret_u32 {a b : Int} (h : a = b) : Ending.returned (.int .u32 a) = .returned (.int .u32 b) := by rw [h]
theorem max_u32 : IntKind.u32.max = ((4294967295 : Nat) : Int) := by decide
theorem not_u32 {d : Nat} (hd : d < 4294967296) : bits BinOp.xor IntKind.u32 IntKind.u32.max (d : Int) = ((4294967295 - d : Nat) : Int) := by
  rw [max_u32, u32_xor_nat 4294967295 d (by omega) hd, not32 hd, Nat.xor_comm]
theorem or_u32 (k a b : Nat) (ha : a < 2 ^ k) (hb : 2 ^ k * b < 4294967296) (ha2 : a < 4294967296) (X Y : Int) (hX : X = a) (hY : Y = (2 ^ k * b : Nat)) : bits BinOp.or IntKind.u32 X Y = ((a + 2 ^ k * b : Nat) : Int) := by
  rw [hX, hY, u32_or_nat a (2 ^ k * b) ha2 hb, Nat.or_comm, nat_join k (2 ^ k * b) a (Nat.mul_mod_right _ _) ha, Nat.add_comm]
theorem word_bits (x0 x1 x2 x3 : Nat) (g0 : x0 < 256) (g1 : x1 < 256) (g2 : x2 < 256) (g3 : x3 < 256) :
    bits BinOp.or IntKind.u32 (bits BinOp.or IntKind.u32 (bits BinOp.or IntKind.u32 (x0 : Int) ((x1 : Int) * 256)) ((x2 : Int) * 65536)) ((x3 : Int) * 16777216) = (num [x0, x1, x2, x3] : Nat) := by
  have e1 := or_u32 8 x0 x1 (by omega) (by omega) (by omega) (x0 : Int) ((x1 : Int) * 256) rfl (by omega)
  have e2 := or_u32 16 (x0 + 2 ^ 8 * x1) x2 (by omega) (by omega) (by omega) _ ((x2 : Int) * 65536) e1 (by omega)
  have e3 := or_u32 24 (x0 + 2 ^ 8 * x1 + 2 ^ 16 * x2) x3 (by omega) (by omega) (by omega) _ ((x3 : Int) * 16777216) e2 (by omega)
  rw [e3]
  congr 1
  simp only [num]
  omega

/-- The table lies in block g. -/
def Tab (w : World) (g : Nat) : Prop := w.heap[g]? = some (.cells (tabV 256) 86 (0, 0))
theorem Tab.cell {w : World} {g : Nat} (h : Tab w g) {j : Nat} (hj : j < 256) : w.cell? ⟨g, j, none⟩ = some (.int .u32 (tab j : Nat)) := by
  rw [cell_of_row w g j _ _ (0, 0) h, tabV_at j hj]
theorem Tab.below {w w' : World} {g B : Nat} (h : Tab w g) (hb : Below B w w') (hg : g < B) : Tab w' g := by
  unfold Tab
  rw [hb.block g hg]
  exact h

theorem low_u8 (c x : Nat) (hx : x < 256) : bits BinOp.xor IntKind.u8 ((c : Int) % 256) (x : Int) = ((c % 256 ^^^ x : Nat) : Int) := u8_xor_nat (c % 256) x (by omega) hx

set_option maxRecDepth 100000 in
set_option maxHeartbeats 400000 in
theorem check_any (g : Nat) (a : Option Addr) (n c B : Nat) (zs : List Nat) (w : World) (ht : Tab w g) (h : Row .u8 w B a n c zs) (hz : ∀ x ∈ zs, x < 256) :
    Calls Try.prog 48 #[.pointer (some ⟨g, 0, none⟩), .slice a n c] w fun e w' => e = .returned (.int .u32 (crc zs : Nat)) ∧ w = w' := by
  have hm := h.2.2.1
  have hnc := h.2.1
  unfold maxLen at hm
  have HL := Lib.hid h.1
  have HZ := Lib.hid hz
  have HT := Lib.hid ht
  clear hz ht
  go_enter Try.func48, Try.ntmps48
  go_wp2
  go_loop [5, 10] (fun v i => ∃ k d : Nat, k ≤ n ∧ d < 4294967296 ∧ i = .int .i64 k ∧ v = .int .u32 d ∧ Hid (d = crcS 4294967295 (zs.take k))) (fun _ i => n - (intOf i).toNat)
  case atStart => exact ⟨0, 4294967295, Nat.zero_le _, by omega, rfl, by go_num, by unfold Hid; simp [crcS]⟩
  case round =>
    obtain ⟨k, d, hk, hd, rfl, rfl, HD⟩ := hrel
    by_cases hlt : k < n
    · obtain ⟨b, off, rfl, hb, hcs⟩ := h.cells (by omega)
      have hcell := hcs k hlt
      clear hcs
      have hx : zs.getD k 0 < 256 := HZ.out _ (by have := HL.out; simp [List.getD, show k < zs.length by omega])
      have HN := Lib.hid (crcS_snoc zs k (by have := HL.out; omega) 4294967295)
      generalize zs.getD k 0 = x at hcell hx HN
      have hj : d % 256 ^^^ x < 256 := Nat.xor_lt_two_pow (n := 8) (by omega) hx
      have hlow := low_u8 d x hx
      have htc := HT.out.cell hj
      have htl := tab_lt hj
      have HE := Lib.hid (steps8_tab d x hx)
      generalize d % 256 ^^^ x = j at *
      have hu := u32_xor_nat (d / 256) (tab j) (by omega) htl
      have HU := Lib.hid hu
      clear hu
      generalize tab j = tj at *
      go_wp2
      refine ⟨⟨k + 1, d / 256 ^^^ tj, by omega, xor_lt32 (by omega) htl, by go_num, ?_, ?_⟩, by simp [intOf]; omega⟩
      · rw [← HU.out]; congr 2
      · unfold Hid; rw [HN.out, ← HD.out, HE.out]
    · go_wp2
      go_ret
      have hkn : k = n := by omega
      have hd2 : d = crcS 4294967295 zs := by have := HD.out; rwa [List.take_of_length_le (by rw [HL.out]; omega)] at this
      exact ⟨ret_u32 (by rw [not_u32 hd]; unfold crc; rw [← hd2]), rfl⟩



set_option maxRecDepth 100000 in
set_option maxHeartbeats 400000 in
theorem fcheck_any (a : Option Addr) (n c B : Nat) (zs : List Nat) (w : World) (h : Row .u8 w B a n c zs) (hB : B ≤ w.heap.size) (hz : ∀ x ∈ zs, x < 256) :
    Calls Try.prog 32 #[.slice a n c] w fun e w' => e = .returned (.int .u32 (crc zs : Nat)) ∧ Below w.heap.size w w' := by
  obtain ⟨hzero, hsize⟩ := zero_of_info info_tab
  obtain ⟨Z, hZ⟩ : ∃ Z, Array.replicate 256 (Value.int .u32 0) = Z := ⟨_, rfl⟩
  rw [hZ] at hzero
  have hZs : Z.size = 256 := by rw [← hZ]; simp
  have HZS := Lib.hid hZs
  clear hZ hZs
  go_enter Try.func32, Try.ntmps32
  go_wp2_with fail
  refine (sums_any w).mono ?_
  rintro e w1 ⟨rfl, hbel⟩
  obtain ⟨T, hT⟩ : ∃ T, tabV 256 = T := ⟨_, rfl⟩
  rw [hT]
  have hTs : T.size = 256 := by rw [← hT, tabV_size]
  have hst := run_storeCells_new (P := Try.prog) w1 86 Z T (by rw [hTs]; exact hsize) (by rw [hTs, HZS.out]) (by rw [← hT]; exact tabV_one _)
  have HT := Lib.hid hT
  clear hT
  have HC := Lib.hid (check_any w1.heap.size a n c w.heap.size zs (w1.alloc (.cells T 86)) (by unfold Tab; rw [HT.out]; exact heap_alloc_last w1 _) (((h.mono hB).below hbel).alloc hbel.size _) hz)
  have HB : Below w.heap.size w (w1.alloc (.cells T 86)) := hbel.alloc hbel.size _
  clear hz hsize
  go_wp2_with fail
  refine HC.out.mono ?_
  rintro e w2 ⟨rfl, rfl⟩
  go_wp2_with fail
  go_ret
  exact ⟨rfl, HB⟩
end Go.Proofs.Ytdhaoacnedgogaa.Vm
