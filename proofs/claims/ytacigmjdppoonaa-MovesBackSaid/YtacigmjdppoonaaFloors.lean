/- The contracts of both Floors, of grid.lets and grid.lastOfRow. -/
import Derived.Test.YtacigmjdppoonaaLetters
import Derived.Test.YtacigmjdppoonaaOwns
import Derived.Deep.QuietTactic
import Derived.BigQuiet
namespace Go.Proofs.Ytacigmjdppoonaa.Vm
open Go.RowKit

/-- A grid, as a value. -/
abbrev gridV (W H : Int) (s : ByteArray) : Value := .agg #[.int .i64 W, .int .i64 H, .string s]
/-- A grid's block. -/
abbrev gridO (W H : Int) (s : ByteArray) : Obj := .cells #[.int .i64 W, .int .i64 H, .string s] 23

theorem bcell {W w1 : World} (hb : Below W.heap.size W w1) : (∀ b o, b < W.heap.size → w1.cell? ⟨b, o, none⟩ = W.cell? ⟨b, o, none⟩) ∧ (∀ b o, b < W.heap.size → w1.frozen? ⟨b, o, none⟩ = W.frozen? ⟨b, o, none⟩) :=
  ⟨fun b o h => hb.cell (p := ⟨b, o, none⟩) h, fun b o h => hb.frozen (p := ⟨b, o, none⟩) h⟩

theorem floorS_neg {l : List Nat} {c : Int} (h : c < 0) : floorS l c = false := by unfold floorS; rw [decide_eq_false (by omega)]; rfl
theorem floorS_big {l : List Nat} {c : Int} (h : (l.length : Int) ≤ c) : floorS l c = false := by unfold floorS; rw [decide_eq_false (by omega)]; rfl
theorem floorS_at {s : ByteArray} {k : Nat} (h : k < s.size) : floorS (bytesOf s) (k : Int) = ((s[k]'h).toNat != 35) := by
  unfold floorS
  rw [decide_eq_true (by rw [bytesOf_len]; omega), Int.toNat_natCast, bytesOf_at s k h]; rfl
theorem floorS_in {l : List Nat} {c : Int} (h : floorS l c = true) : 0 ≤ c ∧ c < (l.length : Int) := by
  unfold floorS at h
  rw [Bool.and_eq_true, decide_eq_true_eq] at h
  exact h.1

set_option maxRecDepth 100000 in
set_option maxHeartbeats 400000 in
theorem floor_any (W H c : Int) (s : ByteArray) (w : World) (hs : s.size ≤ maxLen) :
    Calls Try.prog 31 #[gridV W H s, .int .i64 c] w fun e w' => e = .returned (.bool (floorS (bytesOf s) c)) ∧ Below w.heap.size w w' := by
  unfold maxLen at hs
  by_cases h0 : 0 ≤ c
  · obtain ⟨k, rfl⟩ := Int.eq_ofNat_of_zero_le h0
    by_cases hk : k < s.size
    · by_cases hx : (s[k]'hk).toNat = 35
      · have e1 : (((s[k]'hk).toNat : Int) != 35) = false := by simp; omega
        have HF := Lib.hid ((floorS_at hk).trans (bne_eq_false_iff_eq.2 hx))
        clear hx
        go_enter Try.func31, Try.ntmps31
        go_wp2
        go_ret
        exact ⟨ret_bool HF.out.symm, (Below.refl _ _).alloc (Nat.le_refl _) _⟩
      · have e1 : (((s[k]'hk).toNat : Int) != 35) = true := by rw [bne_iff_ne]; omega
        have HF := Lib.hid ((floorS_at hk).trans (bne_iff_ne.2 hx))
        clear hx
        go_enter Try.func31, Try.ntmps31
        go_wp2
        go_ret
        exact ⟨ret_bool HF.out.symm, (Below.refl _ _).alloc (Nat.le_refl _) _⟩
    · have HF := Lib.hid (floorS_big (l := bytesOf s) (c := k) (by rw [bytesOf_len]; omega))
      go_enter Try.func31, Try.ntmps31
      go_wp2
      go_ret
      exact ⟨ret_bool HF.out.symm, (Below.refl _ _).alloc (Nat.le_refl _) _⟩
  · have HF := Lib.hid (floorS_neg (l := bytesOf s) (c := c) (by omega))
    go_enter Try.func31, Try.ntmps31
    go_wp2
    go_ret
    exact ⟨ret_bool HF.out.symm, (Below.refl _ _).alloc (Nat.le_refl _) _⟩

set_option maxRecDepth 100000 in
set_option maxHeartbeats 400000 in
theorem rfloor_any (W H c : Int) (s : ByteArray) (w : World) (hs : s.size ≤ maxLen) :
    Calls Try.prog 35 #[gridV W H s, .int .i64 c] w fun e w' => e = .returned (.bool (floorS (bytesOf s) c)) ∧ Below w.heap.size w w' := by
  unfold maxLen at hs
  by_cases h0 : 0 ≤ c
  · obtain ⟨k, rfl⟩ := Int.eq_ofNat_of_zero_le h0
    by_cases hk : k < s.size
    · by_cases hx : (s[k]'hk).toNat = 35
      · have e1 : (((s[k]'hk).toNat : Int) != 35) = false := by simp; omega
        have HF := Lib.hid ((floorS_at hk).trans (bne_eq_false_iff_eq.2 hx))
        clear hx
        go_enter Try.func35, Try.ntmps35
        go_wp2
        go_ret
        exact ⟨ret_bool HF.out.symm, (Below.refl _ _).alloc (Nat.le_refl _) _⟩
      · have e1 : (((s[k]'hk).toNat : Int) != 35) = true := by rw [bne_iff_ne]; omega
        have HF := Lib.hid ((floorS_at hk).trans (bne_iff_ne.2 hx))
        clear hx
        go_enter Try.func35, Try.ntmps35
        go_wp2
        go_ret
        exact ⟨ret_bool HF.out.symm, (Below.refl _ _).alloc (Nat.le_refl _) _⟩
    · have HF := Lib.hid (floorS_big (l := bytesOf s) (c := k) (by rw [bytesOf_len]; omega))
      go_enter Try.func35, Try.ntmps35
      go_wp2
      go_ret
      exact ⟨ret_bool HF.out.symm, (Below.refl _ _).alloc (Nat.le_refl _) _⟩
  · have HF := Lib.hid (floorS_neg (l := bytesOf s) (c := c) (by omega))
    go_enter Try.func35, Try.ntmps35
    go_wp2
    go_ret
    exact ⟨ret_bool HF.out.symm, (Below.refl _ _).alloc (Nat.le_refl _) _⟩

/-- May a cell of that letter be left that way? -/
def letsB (x : Nat) (way : Int) : Bool := decide (way = 0 ∨ ¬ Barred x way)

theorem letsB_mk {x : Nat} {way : Int} {b : Bool} (h : (way = 0 ∨ ¬ Barred x way) ↔ b = true) : b = letsB x way := by
  unfold letsB
  cases b
  · exact (decide_eq_false (fun h2 => by simpa using h.1 h2)).symm
  · exact (decide_eq_true (h.2 rfl)).symm

set_option maxRecDepth 100000 in
set_option maxHeartbeats 400000 in
theorem lets_any (x : Nat) (way : Int) (w : World) :
    Calls Try.prog 32 #[.int .u8 (x : Nat), .int .i64 way] w fun e w' => e = .returned (.bool (letsB x way)) ∧ w = w' := by
  by_cases h0 : way = 0
  · subst h0
    go_enter Try.func32, Try.ntmps32
    go_wp2
    go_ret
    exact ⟨ret_bool (letsB_mk (by simp)), rfl⟩
  · have e0 : (way == 0) = false := by simpa using h0
    by_cases h1 : x = 94
    · subst h1
      go_enter Try.func32, Try.ntmps32
      go_wp2
      go_ret
      exact ⟨ret_bool (letsB_mk (by unfold Barred; rw [beq_iff_eq]; omega)), rfl⟩
    · have e1 : ((x : Int) == 94) = false := by simp; omega
      by_cases h2 : x = 62
      · subst h2
        clear h1
        go_enter Try.func32, Try.ntmps32
        go_wp2
        go_ret
        exact ⟨ret_bool (letsB_mk (by unfold Barred; rw [beq_iff_eq]; omega)), rfl⟩
      · have e2 : ((x : Int) == 62) = false := by simp; omega
        by_cases h3 : x = 118
        · subst h3
          clear h1 h2
          go_enter Try.func32, Try.ntmps32
          go_wp2
          go_ret
          exact ⟨ret_bool (letsB_mk (by unfold Barred; rw [beq_iff_eq]; omega)), rfl⟩
        · have e3 : ((x : Int) == 118) = false := by simp; omega
          by_cases h4 : x = 60
          · subst h4
            clear h1 h2 h3
            go_enter Try.func32, Try.ntmps32
            go_wp2
            go_ret
            exact ⟨ret_bool (letsB_mk (by unfold Barred; rw [beq_iff_eq]; omega)), rfl⟩
          · have e4 : ((x : Int) == 60) = false := by simp; omega
            have HN := Lib.hid (⟨h0, h1, h2, h3, h4⟩ : way ≠ 0 ∧ x ≠ 94 ∧ x ≠ 62 ∧ x ≠ 118 ∧ x ≠ 60)
            clear h0 h1 h2 h3 h4
            go_enter Try.func32, Try.ntmps32
            go_wp2
            go_ret
            exact ⟨ret_bool (letsB_mk (by have := HN.out; unfold Barred; simp only [iff_true]; omega)), rfl⟩

set_option maxRecDepth 100000 in
set_option maxHeartbeats 400000 in
theorem lastOfRow_any (W H c : Int) (s : ByteArray) (w : World) (hW : 1 ≤ W) (hW2 : W ≤ 256) (hc : 0 ≤ c) (hc2 : c ≤ 1000000) :
    Calls Try.prog 40 #[gridV W H s, .int .i64 c] w fun e w' => e = .returned (.bool (c % W == W - 1)) ∧ Below w.heap.size w w' := by
  go_enter Try.func40, Try.ntmps40
  go_wp2
  go_quiet (fail)
  go_wp2
  go_ret
  refine ⟨rfl, ?_⟩
  · exact below_drewN ((Below.refl _ _).alloc (Nat.le_refl _) _) _
end Go.Proofs.Ytacigmjdppoonaa.Vm
