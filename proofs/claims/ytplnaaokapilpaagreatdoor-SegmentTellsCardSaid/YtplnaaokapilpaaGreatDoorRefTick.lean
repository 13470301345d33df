/- The document's Tick. -/
import Derived.Test.YtplnaaokapilpaaGreatDoorSegMath
import Derived.Deep.LoopGhost
import Derived.Lib.Hide
import Derived.BigRegion
set_option linter.unusedVariables false
set_option linter.unusedSimpArgs false
namespace Go.Proofs.YtplnaaokapilpaaGreatDoor.Vm
open Go Go.RowKit
set_option maxRecDepth 100000

theorem bytesOf_beq (s : ByteArray) (l : List UInt8) : (s.toList == l) = decide (bytesOf s = l.map UInt8.toNat) := by
  rw [ByteArray.toList_eq]
  unfold bytesOf
  by_cases h : s.data.toList = l
  · simp [h]
  · have h2 : s.data.toList.map UInt8.toNat ≠ l.map UInt8.toNat := fun e => h ((List.map_inj_right (f := UInt8.toNat) (fun a b hab => UInt8.toNat_inj.1 hab)).1 e)
    simp [h, h2]
theorem prefix_is (s : ByteArray) (k : Nat) (l : List UInt8) : ((s.extract 0 k).toList == l) = decide ((bytesOf s).take k = l.map UInt8.toNat) := by
  rw [bytesOf_beq, bytesOf_extract, List.drop_zero, Nat.sub_zero]
theorem rest_is (s : ByteArray) (k : Nat) : bytesOf (s.extract k s.size) = (bytesOf s).drop k := by
  rw [bytesOf_extract, List.take_of_length_le (by rw [List.length_drop, bytesOf_len]; omega)]
theorem valF_take {l : List Nat} {k : Nat} (hk : k < l.length) : valF 0 (l.take (k + 1)) = 10 * valF 0 (l.take k) + (l.getD k 0 - 48) := by
  rw [List.take_add_one, List.getElem?_eq_getElem hk]
  simp only [Option.toList, List.getD, List.getElem?_eq_getElem hk, Option.getD_some]
  exact valF_snoc _ _ _
theorem digs_take {l : List Nat} {k : Nat} (hk : k < l.length) (h : ∀ x ∈ l.take k, 48 ≤ x ∧ x ≤ 57) (hx : 48 ≤ l.getD k 0 ∧ l.getD k 0 ≤ 57) : ∀ x ∈ l.take (k + 1), 48 ≤ x ∧ x ≤ 57 := by
  intro x hxm
  rw [List.take_add_one, List.getElem?_eq_getElem hk] at hxm
  rcases List.mem_append.1 hxm with h1 | h1
  · exact h x h1
  · simp at h1
    rw [h1]
    simpa [List.getD, hk] using hx
theorem valF_small {l : List Nat} {k : Nat} (hk : k ≤ 10) (hl : k ≤ l.length) (h : ∀ x ∈ l.take k, 48 ≤ x ∧ x ≤ 57) : valF 0 (l.take k) < 10000000000 := by
  have h1 := valF_lt (l.take k) 0 0 h (by omega)
  rw [List.length_take, Nat.min_eq_left hl, Nat.zero_add] at h1
  have h2 : 10 ^ k ≤ 10 ^ 10 := Nat.pow_le_pow_right (by omega) hk
  omega
theorem all_not {l : List Nat} {k : Nat} (hk : k < l.length) (h : ¬ (48 ≤ l.getD k 0 ∧ l.getD k 0 ≤ 57)) : l.all isDig = false := by
  rw [List.all_eq_false]
  exact ⟨l.getD k 0, by simp [List.getD, hk], by unfold isDig; simpa using h⟩
theorem all_yes {l : List Nat} (h : ∀ x ∈ l.take l.length, 48 ≤ x ∧ x ≤ 57) : l.all isDig = true := by
  rw [List.take_length] at h
  rw [List.all_eq_true]
  exact fun x hx => decide_eq_true (h x hx)

set_option maxHeartbeats 4000000 in
theorem rtick14_any (s : ByteArray) (w : World) (hs : s.size ≤ 1099511627776) :
    Calls Tryz.prog 15 #[.string s] w fun e w' => e = .returned (.tuple #[.int .i64 (tickN (bytesOf s)).1, .int .i64 (tickN (bytesOf s)).2]) ∧ w' = w := by
  have HL := Lib.hid (bytesOf_len s)
  by_cases hA : s.size = 14 ∧ (bytesOf s).take 4 = segB
  · obtain ⟨hsz, hpre⟩ := hA
    have HKS : Hid (kindS (bytesOf s) = (1, (bytesOf s).drop 4)) := by
      unfold Hid kindS
      rw [if_neg (fun e => by have := e.1; rw [HL.out] at this; omega), if_pos ⟨by rw [HL.out]; exact hsz, hpre⟩]
    have hp1 : ((s.extract 0 4).toList == [115, 101, 103, 45]) = true := by rw [prefix_is]; exact decide_eq_true hpre
    have HRB : Hid (bytesOf (s.extract 4 14) = (bytesOf s).drop 4) := by have := rest_is s 4; rwa [hsz] at this
    have HRS : Hid ((s.extract 4 14).size = 10) := by unfold Hid; rw [← bytesOf_len, HRB.out, List.length_drop, HL.out, hsz]
    have z1 : (4 : Int) ≤ (s.size : Int) := by omega
    have z2 : 4 ≤ s.size := by omega
    have hszi : ((s.size : Int) == 14) = true := by rw [hsz]; rfl
    have hszj : ((s.size : Int) == 15) = false := by rw [hsz]; rfl
    have HTS : Hid (tickN (bytesOf s) = if ((bytesOf s).drop 4).all isDig = false then (0, 0) else if 2147483647 < valF 0 ((bytesOf s).drop 4) then (0, 0) else (1, ((valF 0 ((bytesOf s).drop 4) : Nat) : Int))) := by
      unfold Hid tickN
      rw [HKS.out]
      simp
    rw [← HRB.out] at HTS
    clear HRB HKS hpre
    generalize tickN (bytesOf s) = ts at *
    go_enter Tryz.func15, Tryz.ntmps15
    go_wp2_with fail
    generalize s.extract 4 14 = r at *
    have hrs := HRS.out
    have HBA := Lib.hid (fun k h => bytesOf_at r k h)
    have HRL : Hid ((bytesOf r).length = 10) := by unfold Hid; rw [bytesOf_len, hrs]
    clear HRS
    go_loopg [6, 7] 10 (fun gg v6 v7 wr => ∃ k : Nat, k + gg = 10 ∧ v7 = .int .i64 k ∧ v6 = .int .i64 (valF 0 ((bytesOf r).take k) : Nat) ∧ wr = w ∧ Hid (∀ x ∈ (bytesOf r).take k, 48 ≤ x ∧ x ≤ 57))
    case atStart => exact ⟨0, by omega, rfl, rfl, rfl, fun x hx => by simp at hx⟩
    case round =>
      obtain ⟨k, hkg, rfl, rfl, rfl, HD⟩ := hrel
      by_cases hk : k < 10
      · have hki : (k : Int) < 10 := by omega
        have hkr : k < r.size := by omega
        have d1 : decide ((k : Int) < (r.size : Int)) = true := by rw [decide_eq_true_eq]; omega
        have hat := HBA.out k hkr
        have hvs := valF_small (l := bytesOf r) (k := k) (by omega) (by rw [HRL.out]; omega) HD.out
        have hvt := valF_take (l := bytesOf r) (k := k) (by rw [HRL.out]; omega)
        have HDT := Lib.hid (digs_take (l := bytesOf r) (k := k) (by rw [HRL.out]; omega) HD.out)
        have HNO := Lib.hid (all_not (l := bytesOf r) (k := k) (by rw [HRL.out]; omega))
        rw [hat] at hvt HDT HNO
        have HVT := Lib.hid hvt
        have hx256 : (r[k]'hkr).toNat < 256 := (r[k]'hkr).toNat_lt
        clear hvt hat
        generalize valF 0 ((bytesOf r).take k) = v at *
        by_cases hx : 48 ≤ (r[k]'hkr).toNat ∧ (r[k]'hkr).toNat ≤ 57
        · have e1 : decide (((r[k]'hkr).toNat : Int) < 48) = false := by rw [decide_eq_false_iff_not]; omega
          have e2 : decide ((57 : Int) < ((r[k]'hkr).toNat : Int)) = false := by rw [decide_eq_false_iff_not]; omega
          have e3 : IntKind.u8.wrap (((r[k]'hkr).toNat : Int) - 48) = (((r[k]'hkr).toNat - 48 : Nat) : Int) := by rw [IntKind.wrap_u8]; omega
          have e4 : IntKind.i64.wrap (10 * (v : Int)) = ((10 * v : Nat) : Int) := by rw [IntKind.wrap_i64]; omega
          have e5 : IntKind.i64.wrap (((10 * v : Nat) : Int) + (((r[k]'hkr).toNat - 48 : Nat) : Int)) = ((10 * v + ((r[k]'hkr).toNat - 48) : Nat) : Int) := by rw [IntKind.wrap_i64]; omega
          have e6 : IntKind.i64.wrap ((((r[k]'hkr).toNat - 48 : Nat) : Int)) = (((r[k]'hkr).toNat - 48 : Nat) : Int) := by rw [IntKind.wrap_i64]; omega
          have g1 : ¬ (r[k]'hkr).toNat < 48 := by omega
          have g2 : ¬ 57 < (r[k]'hkr).toNat := by omega
          go_wp2_with fail
          go_roundg (gk - 1)
          case rel => exact ⟨k + 1, by omega, by first | rfl | go_num, by rw [HVT.out, Int.natCast_add, Int.natCast_mul]; rfl, rfl, HDT.out hx⟩
          case measure => omega
        · have HTZ : Hid (ts = (0, 0)) := by unfold Hid; rw [HTS.out, if_pos (HNO.out hx)]
          by_cases h48 : (r[k]'hkr).toNat < 48
          · have e1 : decide (((r[k]'hkr).toNat : Int) < 48) = true := by rw [decide_eq_true_eq]; omega
            clear hx HTS
            go_wp2_with fail
            exact bodyPost_ret (v := .tuple #[.int .i64 0, .int .i64 0]) (by simp [results, Tryz.results15, go_sem]) rfl ⟨by rw [HTZ.out], rfl⟩
          · have e1 : decide (((r[k]'hkr).toNat : Int) < 48) = false := by rw [decide_eq_false_iff_not]; omega
            have e2 : decide ((57 : Int) < ((r[k]'hkr).toNat : Int)) = true := by rw [decide_eq_true_eq]; omega
            clear hx HTS
            go_wp2_with fail
            exact bodyPost_ret (v := .tuple #[.int .i64 0, .int .i64 0]) (by simp [results, Tryz.results15, go_sem]) rfl ⟨by rw [HTZ.out], rfl⟩
      · obtain rfl : k = 10 := by omega
        have d1 : decide ((10 : Int) < (r.size : Int)) = false := by rw [decide_eq_false_iff_not]; omega
        have hT := HTS.out
        rw [if_neg (by rw [all_yes (by rw [HRL.out]; exact HD.out)]; simp)] at hT
        have e : (bytesOf r).take 10 = bytesOf r := List.take_of_length_le (by rw [HRL.out]; omega)
        rw [e]
        clear e HTS
        generalize valF 0 (bytesOf r) = v at *
        by_cases hv : 2147483647 < v
        · have HTZ : Hid (ts = (0, 0)) := by rw [if_pos hv] at hT; exact hT
          have e1 : decide ((2147483647 : Int) < (v : Int)) = true := by rw [decide_eq_true_eq]; omega
          clear hT
          go_wp2_with fail
          exact bodyPost_ret (v := .tuple #[.int .i64 0, .int .i64 0]) (by simp [results, Tryz.results15, go_sem]) rfl ⟨by rw [HTZ.out], rfl⟩
        · have HTZ : Hid (ts = (1, (v : Int))) := by rw [if_neg hv] at hT; exact hT
          have e1 : decide ((2147483647 : Int) < (v : Int)) = false := by rw [decide_eq_false_iff_not]; omega
          clear hT
          go_wp2_with fail
          exact bodyPost_ret (v := .tuple #[.int .i64 1, .int .i64 (v : Int)]) (by simp [results, Tryz.results15, go_sem]) rfl ⟨by rw [HTZ.out], rfl⟩
  · by_cases hB : s.size = 15 ∧ (bytesOf s).take 5 = snapB
    · obtain ⟨hsz, hpre⟩ := hB
      have HKS : Hid (kindS (bytesOf s) = (2, (bytesOf s).drop 5)) := by
        unfold Hid kindS
        rw [if_pos ⟨by rw [HL.out]; exact hsz, hpre⟩]
      have hp1 : ((s.extract 0 5).toList == [115, 110, 97, 112, 45]) = true := by rw [prefix_is]; exact decide_eq_true hpre
      have HRB : Hid (bytesOf (s.extract 5 15) = (bytesOf s).drop 5) := by have := rest_is s 5; rwa [hsz] at this
      have HRS : Hid ((s.extract 5 15).size = 10) := by unfold Hid; rw [← bytesOf_len, HRB.out, List.length_drop, HL.out, hsz]
      have z1 : (5 : Int) ≤ (s.size : Int) := by omega
      have z2 : 5 ≤ s.size := by omega
      have hszi : ((s.size : Int) == 14) = false := by rw [hsz]; rfl
      have hszj : ((s.size : Int) == 15) = true := by rw [hsz]; rfl
      have HTS : Hid (tickN (bytesOf s) = if ((bytesOf s).drop 5).all isDig = false then (0, 0) else if 2147483647 < valF 0 ((bytesOf s).drop 5) then (0, 0) else (2, ((valF 0 ((bytesOf s).drop 5) : Nat) : Int))) := by
        unfold Hid tickN
        rw [HKS.out]
        simp
      rw [← HRB.out] at HTS
      clear HRB HKS hpre
      generalize tickN (bytesOf s) = ts at *
      go_enter Tryz.func15, Tryz.ntmps15
      go_wp2_with fail
      generalize s.extract 5 15 = r at *
      have hrs := HRS.out
      have HBA := Lib.hid (fun k h => bytesOf_at r k h)
      have HRL : Hid ((bytesOf r).length = 10) := by unfold Hid; rw [bytesOf_len, hrs]
      clear HRS
      go_loopg [6, 7] 10 (fun gg v6 v7 wr => ∃ k : Nat, k + gg = 10 ∧ v7 = .int .i64 k ∧ v6 = .int .i64 (valF 0 ((bytesOf r).take k) : Nat) ∧ wr = w ∧ Hid (∀ x ∈ (bytesOf r).take k, 48 ≤ x ∧ x ≤ 57))
      case atStart => exact ⟨0, by omega, rfl, rfl, rfl, fun x hx => by simp at hx⟩
      case round =>
        obtain ⟨k, hkg, rfl, rfl, rfl, HD⟩ := hrel
        by_cases hk : k < 10
        · have hki : (k : Int) < 10 := by omega
          have hkr : k < r.size := by omega
          have d1 : decide ((k : Int) < (r.size : Int)) = true := by rw [decide_eq_true_eq]; omega
          have hat := HBA.out k hkr
          have hvs := valF_small (l := bytesOf r) (k := k) (by omega) (by rw [HRL.out]; omega) HD.out
          have hvt := valF_take (l := bytesOf r) (k := k) (by rw [HRL.out]; omega)
          have HDT := Lib.hid (digs_take (l := bytesOf r) (k := k) (by rw [HRL.out]; omega) HD.out)
          have HNO := Lib.hid (all_not (l := bytesOf r) (k := k) (by rw [HRL.out]; omega))
          rw [hat] at hvt HDT HNO
          have HVT := Lib.hid hvt
          have hx256 : (r[k]'hkr).toNat < 256 := (r[k]'hkr).toNat_lt
          clear hvt hat
          generalize valF 0 ((bytesOf r).take k) = v at *
          by_cases hx : 48 ≤ (r[k]'hkr).toNat ∧ (r[k]'hkr).toNat ≤ 57
          · have e1 : decide (((r[k]'hkr).toNat : Int) < 48) = false := by rw [decide_eq_false_iff_not]; omega
            have e2 : decide ((57 : Int) < ((r[k]'hkr).toNat : Int)) = false := by rw [decide_eq_false_iff_not]; omega
            have e3 : IntKind.u8.wrap (((r[k]'hkr).toNat : Int) - 48) = (((r[k]'hkr).toNat - 48 : Nat) : Int) := by rw [IntKind.wrap_u8]; omega
            have e4 : IntKind.i64.wrap (10 * (v : Int)) = ((10 * v : Nat) : Int) := by rw [IntKind.wrap_i64]; omega
            have e5 : IntKind.i64.wrap (((10 * v : Nat) : Int) + (((r[k]'hkr).toNat - 48 : Nat) : Int)) = ((10 * v + ((r[k]'hkr).toNat - 48) : Nat) : Int) := by rw [IntKind.wrap_i64]; omega
            have e6 : IntKind.i64.wrap ((((r[k]'hkr).toNat - 48 : Nat) : Int)) = (((r[k]'hkr).toNat - 48 : Nat) : Int) := by rw [IntKind.wrap_i64]; omega
            have g1 : ¬ (r[k]'hkr).toNat < 48 := by omega
            have g2 : ¬ 57 < (r[k]'hkr).toNat := by omega
            go_wp2_with fail
            go_roundg (gk - 1)
            case rel => exact ⟨k + 1, by omega, by first | rfl | go_num, by rw [HVT.out, Int.natCast_add, Int.natCast_mul]; rfl, rfl, HDT.out hx⟩
            case measure => omega
          · have HTZ : Hid (ts = (0, 0)) := by unfold Hid; rw [HTS.out, if_pos (HNO.out hx)]
            by_cases h48 : (r[k]'hkr).toNat < 48
            · have e1 : decide (((r[k]'hkr).toNat : Int) < 48) = true := by rw [decide_eq_true_eq]; omega
              clear hx HTS
              go_wp2_with fail
              exact bodyPost_ret (v := .tuple #[.int .i64 0, .int .i64 0]) (by simp [results, Tryz.results15, go_sem]) rfl ⟨by rw [HTZ.out], rfl⟩
            · have e1 : decide (((r[k]'hkr).toNat : Int) < 48) = false := by rw [decide_eq_false_iff_not]; omega
              have e2 : decide ((57 : Int) < ((r[k]'hkr).toNat : Int)) = true := by rw [decide_eq_true_eq]; omega
              clear hx HTS
              go_wp2_with fail
              exact bodyPost_ret (v := .tuple #[.int .i64 0, .int .i64 0]) (by simp [results, Tryz.results15, go_sem]) rfl ⟨by rw [HTZ.out], rfl⟩
        · obtain rfl : k = 10 := by omega
          have d1 : decide ((10 : Int) < (r.size : Int)) = false := by rw [decide_eq_false_iff_not]; omega
          have hT := HTS.out
          rw [if_neg (by rw [all_yes (by rw [HRL.out]; exact HD.out)]; simp)] at hT
          have e : (bytesOf r).take 10 = bytesOf r := List.take_of_length_le (by rw [HRL.out]; omega)
          rw [e]
          clear e HTS
          generalize valF 0 (bytesOf r) = v at *
          by_cases hv : 2147483647 < v
          · have HTZ : Hid (ts = (0, 0)) := by rw [if_pos hv] at hT; exact hT
            have e1 : decide ((2147483647 : Int) < (v : Int)) = true := by rw [decide_eq_true_eq]; omega
            clear hT
            go_wp2_with fail
            exact bodyPost_ret (v := .tuple #[.int .i64 0, .int .i64 0]) (by simp [results, Tryz.results15, go_sem]) rfl ⟨by rw [HTZ.out], rfl⟩
          · have HTZ : Hid (ts = (2, (v : Int))) := by rw [if_neg hv] at hT; exact hT
            have e1 : decide ((2147483647 : Int) < (v : Int)) = false := by rw [decide_eq_false_iff_not]; omega
            clear hT
            go_wp2_with fail
            exact bodyPost_ret (v := .tuple #[.int .i64 2, .int .i64 (v : Int)]) (by simp [results, Tryz.results15, go_sem]) rfl ⟨by rw [HTZ.out], rfl⟩
    · have HTZ : Hid (tickN (bytesOf s) = (0, 0)) := by
        have hk : kindS (bytesOf s) = (0, []) := by
          unfold kindS
          rw [if_neg (fun h => hB ⟨by rw [← HL.out]; exact h.1, h.2⟩), if_neg (fun h => hA ⟨by rw [← HL.out]; exact h.1, h.2⟩)]
        unfold Hid tickN
        rw [hk]
        simp
      by_cases h14 : s.size = 14
      · have hp : ((s.extract 0 4).toList == [115, 101, 103, 45]) = false := by rw [prefix_is]; exact decide_eq_false (fun h => hA ⟨h14, h⟩)
        have z1 : (4 : Int) ≤ (s.size : Int) := by omega
        have z2 : 4 ≤ s.size := by omega
        have hszi : ((s.size : Int) == 14) = true := by rw [h14]; rfl
        have hszj : ((s.size : Int) == 15) = false := by rw [h14]; rfl
        clear hA hB h14
        go_enter Tryz.func15, Tryz.ntmps15
        go_wp2_with fail
        go_loopg [7] 0 (fun gg v7 wr => v7 = .int .i64 0 ∧ wr = w)
        case atStart => exact ⟨rfl, rfl⟩
        case round =>
          obtain ⟨rfl, rfl⟩ := hrel
          go_wp2_with fail
          exact bodyPost_ret (v := .tuple #[.int .i64 0, .int .i64 0]) (by simp [results, Tryz.results15, go_sem]) rfl ⟨by rw [HTZ.out], rfl⟩
      · by_cases h15 : s.size = 15
        · have hp : ((s.extract 0 5).toList == [115, 110, 97, 112, 45]) = false := by rw [prefix_is]; exact decide_eq_false (fun h => hB ⟨h15, h⟩)
          have z1 : (5 : Int) ≤ (s.size : Int) := by omega
          have z2 : 5 ≤ s.size := by omega
          have hszi : ((s.size : Int) == 14) = false := by rw [h15]; rfl
          have hszj : ((s.size : Int) == 15) = true := by rw [h15]; rfl
          clear hA hB h15 h14
          go_enter Tryz.func15, Tryz.ntmps15
          go_wp2_with fail
          go_loopg [7] 0 (fun gg v7 wr => v7 = .int .i64 0 ∧ wr = w)
          case atStart => exact ⟨rfl, rfl⟩
          case round =>
            obtain ⟨rfl, rfl⟩ := hrel
            go_wp2_with fail
            exact bodyPost_ret (v := .tuple #[.int .i64 0, .int .i64 0]) (by simp [results, Tryz.results15, go_sem]) rfl ⟨by rw [HTZ.out], rfl⟩
        · have hszi : ((s.size : Int) == 14) = false := by rw [beq_eq_false_iff_ne]; omega
          have hszj : ((s.size : Int) == 15) = false := by rw [beq_eq_false_iff_ne]; omega
          clear hA hB h14 h15
          go_enter Tryz.func15, Tryz.ntmps15
          go_wp2_with fail
          go_loopg [7] 0 (fun gg v7 wr => v7 = .int .i64 0 ∧ wr = w)
          case atStart => exact ⟨rfl, rfl⟩
          case round =>
            obtain ⟨rfl, rfl⟩ := hrel
            go_wp2_with fail
            exact bodyPost_ret (v := .tuple #[.int .i64 0, .int .i64 0]) (by simp [results, Tryz.results15, go_sem]) rfl ⟨by rw [HTZ.out], rfl⟩
end Go.Proofs.YtplnaaokapilpaaGreatDoor.Vm
