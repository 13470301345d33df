/- Operations as they lie in a slice; what 'light' says of them. -/
import Derived.Test.YtkfjbpcngmipnaaTold13
import Derived.Deep.QuietTactic
import Derived.BigQuiet
namespace Go.Proofs.Ytkfjbpcngmipnaa.Vm
open Go Go.RowKit
set_option maxRecDepth 100000

def zop : OpS × OpV := (⟨0, ⟨#[]⟩, ⟨#[]⟩, [], 0, []⟩, ⟨none, 0, 0, none, 0, 0⟩)
/-- The slice '.slice a n c' holds these operations, below B. -/
def RowO (w : World) (B : Nat) (a : Option Addr) (n c : Nat) (l : List (OpS × OpV)) : Prop :=
  l.length = n ∧ n ≤ c ∧ c ≤ maxLen ∧ (0 < n → ∃ b off, a = some ⟨b, off, none⟩ ∧ b < B ∧ ∀ i, i < n → (∀ j y, (opL (l.getD i zop).1 (l.getD i zop).2)[j]? = some y → w.cell? ⟨b, off + i * 6 + j, none⟩ = some y) ∧ OpIn w B (l.getD i zop).1 (l.getD i zop).2)
theorem RowO.below {w w' : World} {B : Nat} {a : Option Addr} {n c : Nat} {l : List (OpS × OpV)} (h : RowO w B a n c l) (hb : Below B w w') : RowO w' B a n c l :=
  ⟨h.1, h.2.1, h.2.2.1, fun hn => by
    obtain ⟨b, off, e, hlt, hc⟩ := h.2.2.2 hn
    exact ⟨b, off, e, hlt, fun i hi => ⟨fun j y hj => (hb.cell (p := ⟨b, off + i * 6 + j, none⟩) hlt).trans ((hc i hi).1 j y hj), (hc i hi).2.below hb⟩⟩⟩
/-- The six cells of one operation. -/
theorem RowO.at {w : World} {B : Nat} {a : Option Addr} {n c : Nat} {l : List (OpS × OpV)} (h : RowO w B a n c l) {i : Nat} (hi : i < n) : ∃ b off x v, a = some ⟨b, off, none⟩ ∧ b < B ∧ l.getD i zop = (x, v) ∧ OpIn w B x v ∧
    w.cell? ⟨b, off + i * 6, none⟩ = some (.int .i64 x.act) ∧ w.cell? ⟨b, off + i * 6 + 1, none⟩ = some (.string x.A) ∧ w.cell? ⟨b, off + i * 6 + 2, none⟩ = some (.string x.B) ∧ w.cell? ⟨b, off + i * 6 + 3, none⟩ = some (.slice v.da v.dn v.dc) ∧ w.cell? ⟨b, off + i * 6 + 4, none⟩ = some (.int .i64 x.n) ∧ w.cell? ⟨b, off + i * 6 + 5, none⟩ = some (.slice v.ka v.kn v.kc) := by
  obtain ⟨b, off, e, hlt, hc⟩ := h.2.2.2 (by omega)
  obtain ⟨h1, h2⟩ := hc i hi
  exact ⟨b, off, _, _, e, hlt, rfl, h2, h1 0 _ rfl, h1 1 _ rfl, h1 2 _ rfl, h1 3 _ rfl, h1 4 _ rfl, h1 5 _ rfl⟩

set_option maxHeartbeats 2000000 in
theorem light13_any (a : Option Addr) (n c B : Nat) (l : List (OpS × OpV)) (w : World) (h : RowO w B a n c l) :
    Calls Try.prog 7 #[.slice a n c] w fun e w' => ∃ b, e = .returned (.bool b) ∧ (b = true → n ≤ 40) ∧ ∃ m, w' = w.drewN m := by
  have hnc := h.2.1
  have hcm := h.2.2.1
  unfold maxLen at hcm
  have HA := Lib.hid (fun i hi => h.at (i := i) hi)
  clear h
  go_enter Try.func7, Try.ntmps7
  go_wp2_with fail
  go_loopg [3, 4] n (fun gg v3 v4 wr => ∃ (i m : Nat) (z : Int), i + gg = n ∧ v3 = .int .i64 z ∧ v4 = .int .i64 i ∧ wr = w.drewN m)
  case atStart => exact ⟨0, 0, 0, by omega, rfl, rfl, rfl⟩
  case round =>
    obtain ⟨i, m, z, hig, rfl, rfl, rfl⟩ := hrel
    by_cases hi : i < n ∧ i < 60
    · have hii : (i : Int) < (n : Int) := by omega
      have hin : i < n := hi.1
      have d1 : decide ((i : Int) < (n : Int)) = true := by rw [decide_eq_true_eq]; exact hii
      have d2 : decide ((i : Int) < 60) = true := by rw [decide_eq_true_eq]; omega
      obtain ⟨b, off, x, v, rfl, _, _, _, _, p1, p2, p3, _, p5⟩ := HA.out i hin
      clear hi
      go_wp2_with fail
      go_quiet (fail)
      go_wp2_with fail
      go_roundg (gk - 1)
      case rel => exact ⟨i + 1, m + nq, _, by omega, rfl, by first | rfl | go_num, by first | rfl | rw [World.drewN_drewN]⟩
      case measure => omega
    · by_cases hn : n ≤ 40
      · have d3 : decide ((n : Int) ≤ 40) = true := by rw [decide_eq_true_eq]; omega
        have HN := Lib.hid hn
        obtain rfl : i = n := by omega
        have d1 : decide ((i : Int) < (i : Int)) = false := by simp
        clear hi hn
        go_wp2_with fail
        go_ret
        exact ⟨_, rfl, fun _ => HN.out, m, rfl⟩
      · have d3 : decide ((n : Int) ≤ 40) = false := by rw [decide_eq_false_iff_not]; omega
        by_cases hin : i < n
        · have hii : (i : Int) < (n : Int) := by omega
          have d1 : decide ((i : Int) < (n : Int)) = true := by rw [decide_eq_true_eq]; exact hii
          have d2 : decide ((i : Int) < 60) = false := by rw [decide_eq_false_iff_not]; omega
          clear hi hn
          go_wp2_with fail
          go_ret
          exact ⟨_, rfl, (fun h => by cases h), m, rfl⟩
        · obtain rfl : i = n := by omega
          have d1 : decide ((i : Int) < (i : Int)) = false := by simp
          clear hi hn
          go_wp2_with fail
          go_ret
          exact ⟨_, rfl, (fun h => by cases h), m, rfl⟩
end Go.Proofs.Ytkfjbpcngmipnaa.Vm
