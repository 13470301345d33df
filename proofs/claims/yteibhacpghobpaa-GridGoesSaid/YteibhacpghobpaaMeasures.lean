/- The contract of grid.measure. -/
import Derived.Test.YteibhacpghobpaaFloors
import Derived.Test.YteibhacpghobpaaMeasMath
import Derived.Laws.RangeAny
namespace Go.Proofs.Yteibhacpghobpaa.Vm
open Go.RowKit

/-- What measure answers: the sides, if the text has the form of a map. -/
def MeasPost (w : World) (l : List Nat) (e : Ending) (w' : World) : Prop :=
  (∃ (W H : Nat) (cells : List Nat), measS l = some (W, H, cells) ∧ W ≤ l.length ∧ H ≤ l.length ∧ e = .returned (.tuple #[.int .i64 W, .int .i64 H, .bool true]) ∧ Below w.heap.size w w') ∨
  (measS l = none ∧ ∃ W H : Int, e = .returned (.tuple #[.int .i64 W, .int .i64 H, .bool false]) ∧ Below w.heap.size w w')

theorem measPost_no {w w' : World} {l : List Nat} {W H : Int} (h : measS l = none) (hb : Below w.heap.size w w') : MeasPost w l (.returned (.tuple #[.int .i64 W, .int .i64 H, .bool false])) w' := .inr ⟨h, W, H, rfl, hb⟩
theorem measPost_yes {w w' : World} {l : List Nat} {W H : Nat} {cells : List Nat} (h : measS l = some (W, H, cells)) (hW : W ≤ l.length) (hH : H ≤ l.length) (hb : Below w.heap.size w w') : MeasPost w l (.returned (.tuple #[.int .i64 W, .int .i64 H, .bool true])) w' := .inl ⟨W, H, cells, h, hW, hH, rfl, hb⟩

theorem below_iter (w : World) (s : ByteArray) (k : Nat) : Below w.heap.size w (w.iter s k) := (Below.refl _ _).alloc (Nat.le_refl _) _

set_option maxRecDepth 100000 in
set_option maxHeartbeats 800000 in
theorem measure_any (s : ByteArray) (w : World) (hs : s.size ≤ maxLen) : Calls Try.prog 25 #[.string s] w (MeasPost w (bytesOf s)) := by
  unfold maxLen at hs
  have HL := Lib.hid (bytesOf_len s)
  go_enter Try.func25, Try.ntmps25
  go_wp2
  go_loopw [2, 3, 5] (fun a b c wr => ∃ (k W H : Nat) (cells row : List Nat) (m : Nat), k ≤ s.size ∧ m ≤ k ∧ W ≤ k ∧ H ≤ k ∧ a = .int .i64 W ∧ b = .int .i64 H ∧ c = .int .i64 m ∧ wr = w.iter s k ∧ Hid (row.length = k - m) ∧ Hid (Meas (bytesOf s) k W H cells row)) (fun _ _ _ wr => s.size - wr.iterPos w.heap.size)
  case atStart => exact ⟨0, 0, 0, [], [], 0, Nat.zero_le _, Nat.le_refl _, Nat.le_refl _, Nat.le_refl _, rfl, rfl, rfl, rfl, rfl, Meas.start _⟩
  case round =>
    obtain ⟨k, W, H, cells, row, m, hk, hm, hW, hH, rfl, rfl, rfl, rfl, HR, HM⟩ := hrel
    by_cases hlt : k < s.size
    · have hat := bytesOf_at s k hlt
      have hkl : k < (bytesOf s).length := by rw [HL.out]; exact hlt
      by_cases ha : (s[k]'hlt).toNat < 128
      · have hnx := fun ty => run_next_ascii (P := Try.prog) w s k ty hlt ha
        generalize (s[k]'hlt).toNat = c at hat hnx
        have HA := Lib.hid hat
        clear hat
        by_cases hc : c = 10
        · subst hc
          by_cases hg : row = [] ∨ (0 < H ∧ row.length ≠ W)
          · have HN := Lib.hid (HM.out.uneven hkl HA.out hg)
            have h2 : k = m ∨ (0 < H ∧ ((k : Int) - m != W) = true ∧ m < k) := by
              rcases Nat.lt_or_ge m k with h | h
              · right
                rcases hg with rfl | ⟨g1, g2⟩
                · have := HR.out; simp at this; omega
                · exact ⟨g1, by rw [bne_iff_ne]; have := HR.out; omega, h⟩
              · left; omega
            clear hg HR HM HA
            rcases h2 with rfl | ⟨h2, h3, h4⟩
            · have e0 : ((k : Int) - k == 0) = true := by simp
              go_wp2
              go_ret3
              exact measPost_no HN.out (below_iter w s _)
            · have e0 : ((k : Int) - m == 0) = false := by rw [beq_eq_false_iff_ne]; omega
              go_wp2
              go_ret3
              exact measPost_no HN.out (below_iter w s _)
          · have HN := Lib.hid (HM.out.line hkl HA.out hg)
            have h2 : m < k := by
              rcases Nat.lt_or_ge m k with h | h
              · exact h
              · exact absurd (List.length_eq_zero_iff.1 (by rw [HR.out]; omega)) (fun h => hg (.inl h))
            have h3 : H = 0 ∨ ((k : Int) - m != W) = false := by
              rcases Nat.eq_zero_or_pos H with h | h
              · exact .inl h
              · right
                have : row.length = W := Decidable.byContradiction fun h2 => hg (.inr ⟨h, h2⟩)
                rw [bne_eq_false_iff_eq]
                have := HR.out
                omega
            have e0 : ((k : Int) - m == 0) = false := by rw [beq_eq_false_iff_ne]; omega
            clear hg HM HA
            rcases h3 with rfl | h3
            · go_wp2
              go_roundw
              case rel => exact ⟨k + 1, row.length, 1, cells ++ row, [], k + 1, by omega, by omega, by have := HR.out; omega, by omega, by rw [HR.out]; go_num, by go_num, by go_num, rfl, by unfold Hid; simp, HN.out⟩
              case measure => simp; omega
            · have h5 : 0 < H ∨ H = 0 := by omega
              rcases h5 with h5 | rfl
              all_goals
                go_wp2
                go_roundw
                case rel => exact ⟨k + 1, row.length, _ + 1, cells ++ row, [], k + 1, by omega, by omega, by have := HR.out; omega, by omega, by rw [HR.out]; go_num, by go_num, by go_num, rfl, by unfold Hid; simp, HN.out⟩
                case measure => simp; omega
        · have e0 : ((c : Int) != 10) = true := by rw [bne_iff_ne]; omega
          have hisl := fun w => isLetter_any c w
          cases hl : letterS c
          · have HN := Lib.hid (HM.out.bad hkl HA.out hc hl)
            rw [hl] at hisl
            have HI := Lib.hid hisl
            clear hisl hl HM HA hc
            go_wp2_with fail
            refine (HI.out _).mono ?_
            rintro e w1 ⟨rfl, rfl⟩
            go_wp2
            go_ret3
            exact measPost_no HN.out (below_iter w s _)
          · have HN := Lib.hid (HM.out.letter hkl HA.out hl)
            rw [hl] at hisl
            have HI := Lib.hid hisl
            clear hisl hl HM HA hc
            go_wp2_with fail
            refine (HI.out _).mono ?_
            rintro e w1 ⟨rfl, rfl⟩
            go_wp2
            go_roundw
            case rel => exact ⟨k + 1, W, H, cells, row ++ [c], m, by omega, by omega, by omega, by omega, rfl, rfl, rfl, rfl, by unfold Hid; have := HR.out; simp; omega, HN.out⟩
            case measure => simp; omega
      · have hd := decode_high s k hlt (by omega)
        have hnx := fun ty => run_next_any (P := Try.prog) w s k ty hlt
        have HN := Lib.hid (HM.out.bad hkl hat (by omega) (letter_big (by omega)))
        generalize (Utf8.decode s k).1 = r at hd hnx
        generalize (Utf8.decode s k).2 = n at hd hnx
        have hisl := fun w => isLetter_any r w
        rw [letter_big hd.1] at hisl
        have HI := Lib.hid hisl
        have e0 : ((r : Int) != 10) = true := by rw [bne_iff_ne]; omega
        clear hisl HM hat hd
        go_wp2_with fail
        refine (HI.out _).mono ?_
        rintro e w1 ⟨rfl, rfl⟩
        go_wp2
        go_ret3
        exact measPost_no HN.out (below_iter w s _)
    · have hnx := fun ty => run_next_end (P := Try.prog) w s k ty hlt
      obtain rfl : k = s.size := by omega
      have HD := HM.out
      rw [← HL.out] at HD
      have HD2 := HD.done
      have hlen := HL.out
      clear HD HM
      by_cases hH0 : 0 < H
      · by_cases hmk : m = s.size
        · have HN := Lib.hid (HD2.trans (if_pos ⟨hH0, List.length_eq_zero_iff.1 (by rw [HR.out]; omega)⟩))
          subst hmk
          clear HD2 hlen HR
          go_wp2
          go_ret3
          exact measPost_yes HN.out (by rw [HL.out]; omega) (by rw [HL.out]; omega) (below_iter w s _)
        · have HN := Lib.hid (HD2.trans (if_neg (by rintro ⟨_, rfl⟩; have := HR.out; simp at this; omega)))
          have e0 : ((m : Int) == s.size) = false := by rw [beq_eq_false_iff_ne]; omega
          clear HD2 hlen HR hmk
          go_wp2
          go_ret3
          exact measPost_no HN.out (below_iter w s _)
      · have HN := Lib.hid (HD2.trans (if_neg (by rintro ⟨h, _⟩; exact hH0 h)))
        obtain rfl : H = 0 := by omega
        clear HD2 hlen HR
        go_wp2
        go_ret3
        exact measPost_no HN.out (below_iter w s _)
end Go.Proofs.Yteibhacpghobpaa.Vm
