/- The contract of the document's Clash (tuggerref08). -/
import Derived.Test.YtccdblbnphmpjaaGateMath
import Derived.Test.YtccdblbnphmpjaaOwnIs
import Derived.Test.YtccdblbnphmpjaaWords
import Derived.Deep.LoopGhost
namespace Go.Proofs.Ytccdblbnphmpjaa.Vm
open Go Go.RowKit

set_option maxRecDepth 100000 in
set_option maxHeartbeats 4000000 in
theorem rclash_le (a1 a2 : Option Addr) (n1 c1 n2 c2 B : Nat) (fr to : List Int) (w : World) (h1 : RowZ .i64 w B a1 n1 c1 fr) (h2 : RowZ .i64 w B a2 n2 c2 to) (hn1 : n1 ≤ 1000000) (hn2 : n2 ≤ 1000000) (hlt : ¬ n2 < n1) :
    Calls Try.prog 11 #[.slice a1 n1 c1, .slice a2 n2 c2] w fun e w' => ∃ x y, e = .returned (.tuple #[.int .i64 x, .int .i64 y]) ∧ ClashIs fr to n1 x y ∧ ∃ d, w' = w.drewN d := by
  have HC1 := Lib.hid (fun h => h1.cells h)
  have HC2 := Lib.hid (fun h => h2.cells h)
  have hm1 := h1.2.2.1
  have hm2 := h2.2.2.1
  have hc1 := h1.2.1
  have hc2 := h2.2.1
  unfold maxLen at hm1 hm2
  clear h1 h2
  go_enter Try.func11, Try.ntmps11
  go_wp2
  go_loopw [7] (fun v wr => ∃ i d : Nat, i ≤ n1 ∧ v = .int .i64 i ∧ wr = w.drewN d ∧ Hid (∀ j l, j < i → j < l → l < n1 → ¬ MeetP fr to j l)) (fun v _ => n1 - (intOf v).toNat)
  case atStart => exact ⟨0, 0, Nat.zero_le _, rfl, rfl, fun j l hj => absurd hj (Nat.not_lt_zero _)⟩
  case round =>
    obtain ⟨i, d, hi, rfl, rfl, HO⟩ := hrel
    by_cases hil : i < n1
    · obtain ⟨b, off, rfl, hb, hcs⟩ := HC1.out (by omega)
      obtain ⟨b', off', rfl, hb', hcs'⟩ := HC2.out (by omega)
      have hfi := hcs i (by omega)
      have hti := hcs' i (by omega)
      have HF := Lib.hid hcs
      have HT := Lib.hid hcs'
      clear hcs hcs' HC1 HC2
      generalize efi : fr.getD i 0 = fi at hfi
      generalize eti : to.getD i 0 = ti at hti
      have EFI := Lib.hid efi
      have ETI := Lib.hid eti
      clear efi eti
      go_wp2
      go_loopw [8] (fun v wr => ∃ j e : Nat, i + 1 ≤ j ∧ j ≤ n1 ∧ v = .int .i64 j ∧ wr = w.drewN e ∧ Hid (∀ l, i < l → l < j → ¬ MeetP fr to i l)) (fun v _ => n1 - (intOf v).toNat)
      case atStart => exact ⟨i + 1, d, Nat.le_refl _, by omega, by go_num, rfl, fun l z1 z2 => by omega⟩
      case round =>
        obtain ⟨j, e, hj, hjn, rfl, rfl, HJ⟩ := hrel
        by_cases hjl : j < n1
        · have hfk := HF.out j (by omega)
          have htk := HT.out j (by omega)
          generalize efk : fr.getD j 0 = fk at hfk
          generalize etk : to.getD j 0 = tk at htk
          have EFK := Lib.hid efk
          have ETK := Lib.hid etk
          clear efk etk
          by_cases f1 : ti = tk
          · have g1 : (ti == tk) = true := by simpa using f1
            have F1 := Lib.hid f1
            clear f1
            go_wp2
            go_quiet (fail)
            go_wp2
            go_ret2
            exact ⟨_, _, rfl, .inr ⟨i, j, rfl, rfl, by omega, hjl, .inl (by rw [ETI.out, ETK.out]; exact F1.out), HO.out, HJ.out⟩, _, by simp only [World.drewN_drewN]; rfl⟩
          · have g1 : (ti == tk) = false := by simpa using f1
            have F1 := Lib.hid f1
            clear f1
            by_cases f2 : ti = fk
            · have g2 : (ti == fk) = true := by simpa using f2
              have F2 := Lib.hid f2
              clear f2
              by_cases f3 : tk = fi
              · have g3 : (tk == fi) = true := by simpa using f3
                have F3 := Lib.hid f3
                clear f3
                go_wp2
                go_quiet (fail)
                go_wp2
                go_ret2
                exact ⟨_, _, rfl, .inr ⟨i, j, rfl, rfl, by omega, hjl, .inr ⟨by rw [ETI.out, EFK.out]; exact F2.out, by rw [ETK.out, EFI.out]; exact F3.out⟩, HO.out, HJ.out⟩, _, by simp only [World.drewN_drewN]; rfl⟩
              · have g3 : (tk == fi) = false := by simpa using f3
                have F3 := Lib.hid f3
                clear f3
                have HS : Hid (¬ MeetP fr to i j) := by
                  rintro (z | ⟨z1, z2⟩)
                  · rw [ETI.out, ETK.out] at z; exact F1.out z
                  · rw [ETI.out, EFK.out] at z1; rw [ETK.out, EFI.out] at z2; exact F3.out z2
                go_wp2
                go_quiet (fail)
                go_wp2
                go_roundw
                case rel => exact ⟨j + 1, _, by omega, by omega, by go_num, rfl, meets_row HJ.out HS.out⟩
                case measure => simp [intOf]; omega
            · have g2 : (ti == fk) = false := by simpa using f2
              have F2 := Lib.hid f2
              clear f2
              have HS : Hid (¬ MeetP fr to i j) := by
                rintro (z | ⟨z1, z2⟩)
                · rw [ETI.out, ETK.out] at z; exact F1.out z
                · rw [ETI.out, EFK.out] at z1; rw [ETK.out, EFI.out] at z2; exact F2.out z1
              go_wp2
              go_quiet (fail)
              go_wp2
              go_roundw
              case rel => exact ⟨j + 1, _, by omega, by omega, by go_num, rfl, meets_row HJ.out HS.out⟩
              case measure => simp [intOf]; omega
        · obtain rfl : j = n1 := by omega
          have HR := Lib.hid (meets_all HO.out HJ.out)
          go_wp2
          go_roundw
          case rel => exact ⟨i + 1, _, by omega, by go_num, rfl, HR.out⟩
          case measure => simp [intOf]; omega
    · obtain rfl : i = n1 := by omega
      go_wp2
      go_ret2
      exact ⟨_, _, rfl, .inl ⟨rfl, rfl, fun j l z1 z2 => HO.out j l (by omega) z1 z2⟩, _, rfl⟩

set_option maxRecDepth 100000 in
set_option maxHeartbeats 4000000 in
theorem rclash_gt (a1 a2 : Option Addr) (n1 c1 n2 c2 B : Nat) (fr to : List Int) (w : World) (h1 : RowZ .i64 w B a1 n1 c1 fr) (h2 : RowZ .i64 w B a2 n2 c2 to) (hn1 : n1 ≤ 1000000) (hn2 : n2 ≤ 1000000) (hlt : n2 < n1) :
    Calls Try.prog 11 #[.slice a1 n1 c1, .slice a2 n2 c2] w fun e w' => ∃ x y, e = .returned (.tuple #[.int .i64 x, .int .i64 y]) ∧ ClashIs fr to n2 x y ∧ ∃ d, w' = w.drewN d := by
  have HC1 := Lib.hid (fun h => h1.cells h)
  have HC2 := Lib.hid (fun h => h2.cells h)
  have hm1 := h1.2.2.1
  have hm2 := h2.2.2.1
  have hc1 := h1.2.1
  have hc2 := h2.2.1
  unfold maxLen at hm1 hm2
  clear h1 h2
  go_enter Try.func11, Try.ntmps11
  go_wp2
  go_loopw [7] (fun v wr => ∃ i d : Nat, i ≤ n2 ∧ v = .int .i64 i ∧ wr = w.drewN d ∧ Hid (∀ j l, j < i → j < l → l < n2 → ¬ MeetP fr to j l)) (fun v _ => n2 - (intOf v).toNat)
  case atStart => exact ⟨0, 0, Nat.zero_le _, rfl, rfl, fun j l hj => absurd hj (Nat.not_lt_zero _)⟩
  case round =>
    obtain ⟨i, d, hi, rfl, rfl, HO⟩ := hrel
    by_cases hil : i < n2
    · obtain ⟨b, off, rfl, hb, hcs⟩ := HC1.out (by omega)
      obtain ⟨b', off', rfl, hb', hcs'⟩ := HC2.out (by omega)
      have hfi := hcs i (by omega)
      have hti := hcs' i (by omega)
      have HF := Lib.hid hcs
      have HT := Lib.hid hcs'
      clear hcs hcs' HC1 HC2
      generalize efi : fr.getD i 0 = fi at hfi
      generalize eti : to.getD i 0 = ti at hti
      have EFI := Lib.hid efi
      have ETI := Lib.hid eti
      clear efi eti
      go_wp2
      go_loopw [8] (fun v wr => ∃ j e : Nat, i + 1 ≤ j ∧ j ≤ n2 ∧ v = .int .i64 j ∧ wr = w.drewN e ∧ Hid (∀ l, i < l → l < j → ¬ MeetP fr to i l)) (fun v _ => n2 - (intOf v).toNat)
      case atStart => exact ⟨i + 1, d, Nat.le_refl _, by omega, by go_num, rfl, fun l z1 z2 => by omega⟩
      case round =>
        obtain ⟨j, e, hj, hjn, rfl, rfl, HJ⟩ := hrel
        by_cases hjl : j < n2
        · have hfk := HF.out j (by omega)
          have htk := HT.out j (by omega)
          generalize efk : fr.getD j 0 = fk at hfk
          generalize etk : to.getD j 0 = tk at htk
          have EFK := Lib.hid efk
          have ETK := Lib.hid etk
          clear efk etk
          by_cases f1 : ti = tk
          · have g1 : (ti == tk) = true := by simpa using f1
            have F1 := Lib.hid f1
            clear f1
            go_wp2
            go_quiet (fail)
            go_wp2
            go_ret2
            exact ⟨_, _, rfl, .inr ⟨i, j, rfl, rfl, by omega, hjl, .inl (by rw [ETI.out, ETK.out]; exact F1.out), HO.out, HJ.out⟩, _, by simp only [World.drewN_drewN]; rfl⟩
          · have g1 : (ti == tk) = false := by simpa using f1
            have F1 := Lib.hid f1
            clear f1
            by_cases f2 : ti = fk
            · have g2 : (ti == fk) = true := by simpa using f2
              have F2 := Lib.hid f2
              clear f2
              by_cases f3 : tk = fi
              · have g3 : (tk == fi) = true := by simpa using f3
                have F3 := Lib.hid f3
                clear f3
                go_wp2
                go_quiet (fail)
                go_wp2
                go_ret2
                exact ⟨_, _, rfl, .inr ⟨i, j, rfl, rfl, by omega, hjl, .inr ⟨by rw [ETI.out, EFK.out]; exact F2.out, by rw [ETK.out, EFI.out]; exact F3.out⟩, HO.out, HJ.out⟩, _, by simp only [World.drewN_drewN]; rfl⟩
              · have g3 : (tk == fi) = false := by simpa using f3
                have F3 := Lib.hid f3
                clear f3
                have HS : Hid (¬ MeetP fr to i j) := by
                  rintro (z | ⟨z1, z2⟩)
                  · rw [ETI.out, ETK.out] at z; exact F1.out z
                  · rw [ETI.out, EFK.out] at z1; rw [ETK.out, EFI.out] at z2; exact F3.out z2
                go_wp2
                go_quiet (fail)
                go_wp2
                go_roundw
                case rel => exact ⟨j + 1, _, by omega, by omega, by go_num, rfl, meets_row HJ.out HS.out⟩
                case measure => simp [intOf]; omega
            · have g2 : (ti == fk) = false := by simpa using f2
              have F2 := Lib.hid f2
              clear f2
              have HS : Hid (¬ MeetP fr to i j) := by
                rintro (z | ⟨z1, z2⟩)
                · rw [ETI.out, ETK.out] at z; exact F1.out z
                · rw [ETI.out, EFK.out] at z1; rw [ETK.out, EFI.out] at z2; exact F2.out z1
              go_wp2
              go_quiet (fail)
              go_wp2
              go_roundw
              case rel => exact ⟨j + 1, _, by omega, by omega, by go_num, rfl, meets_row HJ.out HS.out⟩
              case measure => simp [intOf]; omega
        · obtain rfl : j = n2 := by omega
          have HR := Lib.hid (meets_all HO.out HJ.out)
          go_wp2
          go_roundw
          case rel => exact ⟨i + 1, _, by omega, by go_num, rfl, HR.out⟩
          case measure => simp [intOf]; omega
    · obtain rfl : i = n2 := by omega
      go_wp2
      go_ret2
      exact ⟨_, _, rfl, .inl ⟨rfl, rfl, fun j l z1 z2 => HO.out j l (by omega) z1 z2⟩, _, rfl⟩

theorem rclash_any (a1 a2 : Option Addr) (n1 c1 n2 c2 B : Nat) (fr to : List Int) (w : World) (h1 : RowZ .i64 w B a1 n1 c1 fr) (h2 : RowZ .i64 w B a2 n2 c2 to) (hn1 : n1 ≤ 1000000) (hn2 : n2 ≤ 1000000) :
    Calls Try.prog 11 #[.slice a1 n1 c1, .slice a2 n2 c2] w fun e w' => ∃ x y, e = .returned (.tuple #[.int .i64 x, .int .i64 y]) ∧ ClashIs fr to (min n1 n2) x y ∧ ∃ d, w' = w.drewN d := by
  by_cases h : n2 < n1
  · rw [Nat.min_eq_right (by omega)]
    exact rclash_gt a1 a2 n1 c1 n2 c2 B fr to w h1 h2 hn1 hn2 h
  · rw [Nat.min_eq_left (by omega)]
    exact rclash_le a1 a2 n1 c1 n2 c2 B fr to w h1 h2 hn1 hn2 h
end Go.Proofs.Ytccdblbnphmpjaa.Vm
