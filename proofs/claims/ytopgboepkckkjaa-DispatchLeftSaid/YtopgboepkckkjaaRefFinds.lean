/- The contracts of the document's Find, robot and task. The contract of the document's robot. The contract of the document's task. -/
import Derived.Test.YtopgboepkckkjaaStWords
import Derived.Test.YtopgboepkckkjaaRobots
namespace Go.Proofs.Ytopgboepkckkjaa.Vm
open Go Go.RowKit

theorem ret_int' {a b : Int} (h : a = b) : Ending.returned (.int .i64 a) = .returned (.int .i64 b) := by rw [h]

set_option maxRecDepth 100000 in
set_option maxHeartbeats 400000 in
theorem rfind_any (h : Sh) (ts : List Rec) (id : Int) (B : Nat) (w : World) (hin : RowR w B h.a2 h.n2 h.c2 ts) (hB : B ≤ w.heap.size) :
    Calls Try.prog 40 #[shV h, .int .i64 id] w fun e w' => e = .returned (.int .i64 (findS ts id)) ∧ Below w.heap.size w w' := by
  have hB0 : Below w.heap.size w (w.alloc (shO h)) := (Below.refl _ _).alloc (Nat.le_refl _) _
  obtain ⟨t, a1, n1, c1, a2, n2, c2, a3, n3, c3⟩ := h
  have hm2 := hin.len
  unfold maxLen at hm2
  have HL := Lib.hid hin.1
  have HC := Lib.hid hin.cells
  simp only [] at hm2
  have HB0 := Lib.hid hB0
  clear hin hB0
  go_enter Try.func40, Try.ntmps40
  go_wp2_with fail
  go_loop [5] (fun i => ∃ k : Nat, k ≤ n2 ∧ i = .int .i64 k ∧ Hid (∀ j, j < k → (ts.getD j zr).a ≠ id)) (fun i => n2 - (intOf i).toNat)
  case atStart => exact ⟨0, Nat.zero_le _, rfl, fun j hj => absurd hj (Nat.not_lt_zero _)⟩
  case round =>
    obtain ⟨k, hk, rfl, HA⟩ := hrel
    by_cases hlt : k < n2
    · obtain ⟨b, off, rfl, hb, hcs⟩ := HC.out (show 0 < n2 by omega)
      have hcell := hcs k hlt
      have HKN : Hid (k < ts.length) := by unfold Hid; rw [HL.out]; exact hlt
      have hb3 : b < w.heap.size := by omega
      have hx : ∃ x, ts.getD k zr = x := ⟨_, rfl⟩
      obtain ⟨x, hx⟩ := hx
      rw [hx] at hcell
      have HX := Lib.hid hx
      obtain ⟨p1, p2, p3, p4, p5⟩ := hcell
      clear hcs hx
      by_cases he : x.a = id
      · have e1 : (x.a == id) = true := by simpa using he
        have HY := Lib.hid (findS_at HKN.out HA.out (by rw [HX.out]; exact he))
        clear he
        go_wp2
        go_ret
        exact ⟨ret_int' HY.out.symm, HB0.out⟩
      · have e1 : (x.a == id) = false := by simpa using he
        have HE : Hid ((ts.getD k zr).a ≠ id) := by unfold Hid; rw [HX.out]; exact he
        clear he
        go_wp2
        go_round
        case rel => exact ⟨k + 1, by omega, by go_num, upto_more HA.out HE.out⟩
        case measure => simp [intOf]; omega
    · have hkn : k = n2 := by omega
      rw [hkn] at HA
      have HY : Hid (findS ts id = -1) := findS_no (by rw [HL.out]; exact HA.out)
      clear HA
      go_wp2
      go_ret
      exact ⟨ret_int' HY.out.symm, HB0.out⟩

theorem rfloor_yes {W H c : Int} {s : ByteArray} (w : World) (hs : s.size ≤ maxLen) (h : floorS (bytesOf s) c = true) :
    Calls Try.prog 28 #[gridV W H s, .int .i64 c] w fun e w' => e = .returned (.bool true) ∧ Below w.heap.size w w' := by
  have := rfloor_any W H c s w hs
  rwa [h] at this
theorem rfloor_no {W H c : Int} {s : ByteArray} (w : World) (hs : s.size ≤ maxLen) (h : floorS (bytesOf s) c = false) :
    Calls Try.prog 28 #[gridV W H s, .int .i64 c] w fun e w' => e = .returned (.bool false) ∧ Below w.heap.size w w' := by
  have := rfloor_any W H c s w hs
  rwa [h] at this

/-! A robot's Mode, as the document goes through it. -/
theorem mo_03 {ts : List Rec} {r : Rec} {i : Nat} (h : r.b = 0 ∨ r.b = 3) : yes (ModeP ts r i) = (r.c == 0) := yes_beq (by unfold ModeP; omega)
theorem mo_4 {ts : List Rec} {r : Rec} {i : Nat} (h : r.b = 4) (hc : r.c = 0) : yes (ModeP ts r i) = true := yes_true (by unfold ModeP; omega)
theorem mo_x {ts : List Rec} {r : Rec} {i : Nat} (h0 : r.b ≠ 0) (h1 : r.b ≠ 1) (h2 : r.b ≠ 2) (h3 : r.b ≠ 3) (h4 : r.b ≠ 4) : yes (ModeP ts r i) = false := yes_false (by unfold ModeP; omega)
theorem mo_no {ts : List Rec} {r : Rec} {i : Nat} (h0 : r.b ≠ 0) (h3 : r.b ≠ 3) (h4 : ¬ (r.b = 4 ∧ r.c = 0)) (hf : findS ts r.c = -1) : yes (ModeP ts r i) = false := by
  have hn : ∀ st, ¬ OwnP ts r.c i st := fun st ⟨k, _, e, _⟩ => by omega
  refine yes_false ?_
  unfold ModeP
  simp only [hn, and_false, or_false, false_or]
  omega
theorem own_at {ts : List Rec} {id : Int} {i j : Nat} (hj : j < ts.length) (hf : findS ts id = j) (st : Int) : OwnP ts id i st ↔ (ts.getD j zr).d = st ∧ (ts.getD j zr).e = i :=
  ⟨fun ⟨k, _, e, h2, h3⟩ => by
    obtain rfl : k = j := by omega
    exact ⟨h2, h3⟩, fun ⟨h2, h3⟩ => ⟨j, hj, hf, h2, h3⟩⟩
theorem mo_1 {ts : List Rec} {r : Rec} {i j : Nat} (h : r.b = 1) (hj : j < ts.length) (hf : findS ts r.c = j) (hd : (ts.getD j zr).d = 2) : yes (ModeP ts r i) = ((ts.getD j zr).e == (i : Int)) := yes_beq (by
  unfold ModeP
  rw [own_at hj hf, own_at hj hf]
  omega)
theorem mo_1' {ts : List Rec} {r : Rec} {i j : Nat} (h : r.b = 1) (hj : j < ts.length) (hf : findS ts r.c = j) (hd : (ts.getD j zr).d ≠ 2) : yes (ModeP ts r i) = false := yes_false (by
  unfold ModeP
  rw [own_at hj hf, own_at hj hf]
  omega)
theorem mo_24 {ts : List Rec} {r : Rec} {i j : Nat} (h : r.b = 2 ∨ r.b = 4 ∧ r.c ≠ 0) (hj : j < ts.length) (hf : findS ts r.c = j) (hd : (ts.getD j zr).d = 3) : yes (ModeP ts r i) = ((ts.getD j zr).e == (i : Int)) := yes_beq (by
  unfold ModeP
  rw [own_at hj hf, own_at hj hf]
  omega)
theorem mo_24' {ts : List Rec} {r : Rec} {i j : Nat} (h : r.b = 2 ∨ r.b = 4 ∧ r.c ≠ 0) (hj : j < ts.length) (hf : findS ts r.c = j) (hd : (ts.getD j zr).d ≠ 3) : yes (ModeP ts r i) = false := yes_false (by
  unfold ModeP
  rw [own_at hj hf, own_at hj hf]
  omega)
theorem rob_mode {fl : Int → Bool} {s : St} {i : Nat} (h : RestP fl s.rs i) : yes (RobP fl s i) = yes (ModeP s.ts (s.rs.getD i zr) i) := yes_same ⟨fun h2 => h2.2, fun h2 => ⟨h, h2⟩⟩
end Go.Proofs.Ytopgboepkckkjaa.Vm

namespace Go.Proofs.Ytopgboepkckkjaa.Vm
open Go Go.RowKit

set_option maxRecDepth 100000 in
set_option maxHeartbeats 2000000 in
theorem rrobot_any (W H : Int) (g : ByteArray) (h : Sh) (s : St) (i B : Nat) (w : World) (hg : g.size ≤ maxLen) (hin : StIn w B h s) (hB : B ≤ w.heap.size) (hi : i < s.rs.length) (hn1 : h.n1 ≤ 1000000) :
    Calls Try.prog 26 #[gridV W H g, shV h, .int .i64 (i : Int)] w fun e w' => e = .returned (.bool (yes (RobP (floorS (bytesOf g)) s i))) ∧ Below w.heap.size w w' := by
  obtain ⟨w2, hw2, hB2, hz2, hg2, hs2⟩ := gs_head w W H g h
  have hR := hin.rs.mono hB
  have hT := hin.ts.mono hB
  have HIN := Lib.hid (hin.mono hB)
  obtain ⟨t, a1, n1, c1, a2, n2, c2, a3, n3, c3⟩ := h
  obtain ⟨tick, rs, ts, bl⟩ := s
  simp only [] at hR hT hi hn1
  obtain ⟨b, off, rfl, hb, hcs⟩ := hR.cells (by have := hR.1; omega)
  have hi1 : i < n1 := by have := hR.1; omega
  have hcell := hcs i hi1
  have HCS := Lib.hid hcs
  have HW2 := Lib.hid hw2
  have HG := Lib.hid hg
  have HI := Lib.hid hi
  have HRL := Lib.hid hR.1
  have HT := Lib.hid hT
  have hx : ∃ x, rs.getD i zr = x := ⟨_, rfl⟩
  obtain ⟨x, hx⟩ := hx
  rw [hx] at hcell
  have HX := Lib.hid hx
  have hB3 : Below w.heap.size w (w2.alloc (.cells #[.int .i64 x.a, .int .i64 x.b, .int .i64 x.c, .int .i64 x.d, .int .i64 x.e] 45)) := hB2.alloc (by omega) _
  have hra := recAt_new w2 x 45
  have hba : Below w2.heap.size w2 (w2.alloc (.cells #[.int .i64 x.a, .int .i64 x.b, .int .i64 x.c, .int .i64 x.d, .int .i64 x.e] 45)) := (Below.refl _ _).alloc (Nat.le_refl _) _
  have hza : (w2.alloc (.cells #[.int .i64 x.a, .int .i64 x.b, .int .i64 x.c, .int .i64 x.d, .int .i64 x.e] 45)).heap.size = w.heap.size + 3 := by simp [hz2]
  have hga := hg2.below hba (by omega)
  have hsa := hs2.below hba (by omega)
  rw [hz2] at hra
  obtain ⟨s0, s1, s2, s3⟩ := hs2
  simp only [] at s0 s1 s2 s3
  obtain ⟨p1, p2, p3, p4, p5⟩ := hcell
  generalize hw3 : w2.alloc (.cells #[.int .i64 x.a, .int .i64 x.b, .int .i64 x.c, .int .i64 x.d, .int .i64 x.e] 45) = w3 at hB3 hra hza hga hsa
  have HW3 := Lib.hid hw3
  have HRA := Lib.hid hra
  have HGA := Lib.hid hga
  have HSA := Lib.hid hsa
  clear hw2 hcs hx hg hR hT hin hi hg2 hw3 hra hga hsa hba
  obtain ⟨fl, hfl⟩ : ∃ fl, floorS (bytesOf g) = fl := ⟨_, rfl⟩
  rw [hfl]
  have HFL := Lib.hid hfl
  clear hfl
  go_enter Try.func26, Try.ntmps26
  go_wp2_with fail
  rw [← HW2.out, HW3.out]
  clear p1 p2 p3 p4 p5 s0 s1 s2 s3
  have hsz3 := hB3.size
  cases hf : fl x.a
  · have HN : Hid (¬ RobP fl ⟨tick, rs, ts, bl⟩ i) := fun hh => by
      have h1 : fl (rs.getD i zr).a = true := hh.1.1
      rw [HX.out, hf] at h1
      cases h1
    have HF := Lib.hid fun (V : World) => rfloor_no (W := W) (H := H) V HG.out (by rw [HFL.out]; exact hf)
    clear hf
    refine (HF.out _).mono ?_
    rintro e w4 ⟨rfl, hv4⟩
    have hB4 := hB3.trans (hv4.mono hsz3)
    go_wp2_with fail
    go_ret
    exact ⟨ret_bool (yes_false HN.out).symm, hB4⟩
  have HF := Lib.hid fun (V : World) => rfloor_yes (W := W) (H := H) V HG.out (by rw [HFL.out]; exact hf)
  have HFX := Lib.hid hf
  clear hf
  refine (HF.out _).mono ?_
  rintro e w4 ⟨rfl, hv4⟩
  have hB4 := hB3.trans (hv4.mono hsz3)
  have hra := HRA.out.below hv4 (by omega)
  have hga := HGA.out.below hv4 (by omega)
  have hsa := HSA.out.below hv4 (by omega)
  have hz4 := hv4.size
  have HRA4 := Lib.hid hra
  have HSA4 := Lib.hid hsa
  obtain ⟨r1, r2, r3, r4, r5⟩ := hra
  obtain ⟨s0, s1, s2, s3⟩ := hsa
  simp only [] at s0 s1 s2 s3
  have hno : (RestP fl rs i → False) → Hid (¬ RobP fl ⟨tick, rs, ts, bl⟩ i) := fun h1 h2 => h1 h2.1
  have HNO := Lib.hid hno
  clear hno hga
  by_cases hd0 : x.d < 0
  · have HN := HNO.out fun hh => by have := hh.2.2.1; rw [HX.out] at this; omega
    go_wp2_with fail
    go_ret
    exact ⟨ret_bool (yes_false HN.out).symm, hB4⟩
  by_cases hd1 : 1000 < x.d
  · have HN := HNO.out fun hh => by have := hh.2.2.1; rw [HX.out] at this; omega
    go_wp2_with fail
    go_ret
    exact ⟨ret_bool (yes_false HN.out).symm, hB4⟩
  by_cases he0 : x.e < 0
  · have HN := HNO.out fun hh => by have := hh.2.2.2; rw [HX.out] at this; omega
    go_wp2_with fail
    go_ret
    exact ⟨ret_bool (yes_false HN.out).symm, hB4⟩
  by_cases he1 : 1000 < x.e
  · have HN := HNO.out fun hh => by have := hh.2.2.2; rw [HX.out] at this; omega
    go_wp2_with fail
    go_ret
    exact ⟨ret_bool (yes_false HN.out).symm, hB4⟩
  have HDE : Hid ((0 ≤ x.d ∧ x.d ≤ 1000) ∧ 0 ≤ x.e ∧ x.e ≤ 1000) := ⟨by omega, by omega⟩
  go_wp2_with fail
  clear hd0 hd1 he0 he1 r1 r2 r3 r4 r5 s0 s1 s2 s3
  go_loopw [8] (fun j wr => ∃ k : Nat, k ≤ i ∧ j = .int .i64 k ∧ Below w4.heap.size w4 wr ∧ Hid (∀ j, j < k → (rs.getD j zr).a ≠ x.a)) (fun j _ => i - (intOf j).toNat)
  case atStart => exact ⟨0, Nat.zero_le _, rfl, Below.refl _ _, fun j hj => absurd hj (Nat.not_lt_zero _)⟩
  case round =>
    obtain ⟨k, hk, rfl, hbel, HA⟩ := hrel
    have hBr := hB4.trans (hbel.mono hB4.size)
    have hra := HRA4.out.below hbel (by omega)
    have hsa := HSA4.out.below hbel (by omega)
    have hzr := hbel.size
    by_cases hlt : k < i
    · have hcell := (HCS.out k (by omega)).below hBr (by omega)
      have hy : ∃ y, rs.getD k zr = y := ⟨_, rfl⟩
      obtain ⟨y, hy⟩ := hy
      rw [hy] at hcell
      have HY := Lib.hid hy
      obtain ⟨q1, q2, q3, q4, q5⟩ := hcell
      obtain ⟨r1, r2, r3, r4, r5⟩ := hra
      obtain ⟨s0, s1, s2, s3⟩ := hsa
      simp only [] at s0 s1 s2 s3
      clear hy
      by_cases hya : y.a = x.a
      · have e1 : (y.a == x.a) = true := by simpa using hya
        have HN := HNO.out fun hh => by
          have := hh.2.1 k hlt
          rw [HX.out, HY.out] at this
          exact this hya
        clear hya
        go_wp2
        go_quiet (fail)
        go_wp2
        go_ret
        exact ⟨ret_bool (yes_false HN.out).symm, below_drewN hBr _⟩
      · have e1 : (y.a == x.a) = false := by simpa using hya
        have HE : Hid ((rs.getD k zr).a ≠ x.a) := by unfold Hid; rw [HY.out]; exact hya
        clear hya
        go_wp2
        go_quiet (fail)
        go_wp2
        go_roundw
        case rel => exact ⟨k + 1, by omega, by go_num, below_drewN hbel _, upto_more HA.out HE.out⟩
        case measure => simp [intOf]; omega
    · have hkn : k = i := by omega
      rw [hkn] at HA
      have HREST : Hid (RestP fl rs i) := by
        unfold Hid RestP
        rw [HX.out]
        exact ⟨HFX.out, HA.out, HDE.out.1, HDE.out.2⟩
      have HYM : Hid (yes (RobP fl ⟨tick, rs, ts, bl⟩ i) = yes (ModeP ts x i)) := by
        have := rob_mode (fl := fl) (s := ⟨tick, rs, ts, bl⟩) (i := i) HREST.out
        rw [← HX.out]
        exact this
      have HFD := Lib.hid fun (V : World) (hV : Below w.heap.size w V) => rfind_any ⟨t, some ⟨b, off, none⟩, n1, c1, a2, n2, c2, a3, n3, c3⟩ ts x.c w.heap.size V (HT.out.below hV) hV.size
      clear HA hkn hk
      obtain ⟨r1, r2, r3, r4, r5⟩ := hra
      obtain ⟨s0, s1, s2, s3⟩ := hsa
      simp only [] at s0 s1 s2 s3
      go_wp2_with fail
      refine (HFD.out _ hBr).mono ?_
      rintro e w5 ⟨rfl, hv5⟩
      have hB5 := hBr.trans (hv5.mono hBr.size)
      have hr5 := HRA4.out.below (hbel.trans (hv5.mono hzr)) (by omega)
      have hs5 := HSA4.out.below (hbel.trans (hv5.mono hzr)) (by omega)
      clear r1 r2 r3 r4 r5 s0 s1 s2 s3 HFD hv5
      obtain ⟨r1, r2, r3, r4, r5⟩ := hr5
      obtain ⟨s0, s1, s2, s3⟩ := hs5
      simp only [] at s0 s1 s2 s3
      by_cases h0 : x.b = 0
      · have HZ := Lib.hid (HYM.out.trans (mo_03 (ts := ts) (i := i) (.inl h0)))
        have e0 : (x.b == 0) = true := by simpa using h0
        clear h0 HYM
        generalize findS ts x.c = f
        go_wp2_with fail
        go_ret
        exact ⟨ret_bool HZ.out.symm, hB5⟩
      have e0 : (x.b == 0) = false := by simpa using h0
      by_cases h3 : x.b = 3
      · have HZ := Lib.hid (HYM.out.trans (mo_03 (ts := ts) (i := i) (.inr h3)))
        have e3 : (x.b == 3) = true := by simpa using h3
        clear h0 h3 HYM
        generalize findS ts x.c = f
        go_wp2_with fail
        go_ret
        exact ⟨ret_bool HZ.out.symm, hB5⟩
      have e3 : (x.b == 3) = false := by simpa using h3
      by_cases h40 : x.b = 4 ∧ x.c = 0
      · have HZ := Lib.hid (HYM.out.trans (mo_4 (ts := ts) (i := i) h40.1 h40.2))
        have e4 : (x.b == 4) = true := by simpa using h40.1
        have e5 : (x.c == 0) = true := by simpa using h40.2
        clear h0 h3 h40 HYM
        generalize findS ts x.c = f
        go_wp2_with fail
        go_ret
        exact ⟨ret_bool HZ.out.symm, hB5⟩
      by_cases h124 : ¬ (x.b = 1 ∨ x.b = 2 ∨ x.b = 4)
      · have HZ := Lib.hid (HYM.out.trans (mo_x (ts := ts) (i := i) h0 (by omega) (by omega) h3 (by omega)))
        have e1 : (x.b == 1) = false := by rw [beq_eq_false_iff_ne]; omega
        have e2 : (x.b == 2) = false := by rw [beq_eq_false_iff_ne]; omega
        have e4 : (x.b == 4) = false := by rw [beq_eq_false_iff_ne]; omega
        clear h0 h3 h40 h124 HYM
        generalize findS ts x.c = f
        go_wp2_with fail
        go_ret
        exact ⟨ret_bool HZ.out.symm, hB5⟩
      have h124 := Classical.not_not.1 h124
      rcases findS_cases ts x.c with ⟨hfn, _⟩ | ⟨j, hj, hfj, _, _⟩
      · have HZ := Lib.hid (HYM.out.trans (mo_no (i := i) h0 h3 h40 hfn))
        rw [hfn]
        clear hfn HYM h0 h3
        rcases h124 with h1 | h2 | h4
        · have e1 : (x.b == 1) = true := by simpa using h1
          have e4 : (x.b == 4) = false := by rw [beq_eq_false_iff_ne]; omega
          clear h1 h40
          go_wp2_with fail
          go_ret
          exact ⟨ret_bool HZ.out.symm, hB5⟩
        · have e1 : (x.b == 1) = false := by rw [beq_eq_false_iff_ne]; omega
          have e2 : (x.b == 2) = true := by simpa using h2
          have e4 : (x.b == 4) = false := by rw [beq_eq_false_iff_ne]; omega
          clear h2 h40
          go_wp2_with fail
          go_ret
          exact ⟨ret_bool HZ.out.symm, hB5⟩
        · have e1 : (x.b == 1) = false := by rw [beq_eq_false_iff_ne]; omega
          have e2 : (x.b == 2) = false := by rw [beq_eq_false_iff_ne]; omega
          have e4 : (x.b == 4) = true := by simpa using h4
          have e5 : (x.c == 0) = false := by rw [beq_eq_false_iff_ne]; exact fun h => h40 ⟨h4, h⟩
          clear h4 h40
          go_wp2_with fail
          go_ret
          exact ⟨ret_bool HZ.out.symm, hB5⟩
      · obtain ⟨b', off', e', hb', hcs'⟩ := HT.out.cells (by have := HT.out.1; omega)
        subst e'
        have hjn : j < n2 := by have := HT.out.1; omega
        have hcell := (hcs' j hjn).below hB5 (by omega)
        have hy : ∃ y, ts.getD j zr = y := ⟨_, rfl⟩
        obtain ⟨y, hy⟩ := hy
        rw [hy] at hcell
        obtain ⟨q1, q2, q3, q4, q5⟩ := hcell
        have M1 := fun h hd => mo_1 (ts := ts) (r := x) (i := i) (j := j) h hj hfj hd
        have M1' := fun h hd => mo_1' (ts := ts) (r := x) (i := i) (j := j) h hj hfj hd
        have M2 := fun h hd => mo_24 (ts := ts) (r := x) (i := i) (j := j) h hj hfj hd
        have M2' := fun h hd => mo_24' (ts := ts) (r := x) (i := i) (j := j) h hj hfj hd
        rw [hy] at M1 M1' M2 M2'
        have HM1 := Lib.hid M1
        have HM1' := Lib.hid M1'
        have HM2 := Lib.hid M2
        have HM2' := Lib.hid M2'
        rw [hfj]
        have hj0 : (0 : Int) ≤ (j : Int) := by omega
        clear M1 M1' M2 M2' hy hcs' hfj hj h0 h3
        rcases h124 with h1 | h2 | h4
        · have e1 : (x.b == 1) = true := by simpa using h1
          have e4 : (x.b == 4) = false := by rw [beq_eq_false_iff_ne]; omega
          by_cases hd : y.d = 2
          · have HZ := Lib.hid (HYM.out.trans (HM1.out h1 hd))
            have ed : (y.d == 2) = true := by simpa using hd
            clear hd h1 h40 HYM
            go_wp2_with fail
            go_ret
            exact ⟨ret_bool HZ.out.symm, hB5⟩
          · have HZ := Lib.hid (HYM.out.trans (HM1'.out h1 hd))
            have ed : (y.d == 2) = false := by simpa using hd
            clear hd h1 h40 HYM
            go_wp2_with fail
            go_ret
            exact ⟨ret_bool HZ.out.symm, hB5⟩
        · have e1 : (x.b == 1) = false := by rw [beq_eq_false_iff_ne]; omega
          have e2 : (x.b == 2) = true := by simpa using h2
          have e4 : (x.b == 4) = false := by rw [beq_eq_false_iff_ne]; omega
          by_cases hd : y.d = 3
          · have HZ := Lib.hid (HYM.out.trans (HM2.out (.inl h2) hd))
            have ed : (y.d == 3) = true := by simpa using hd
            clear hd h2 h40 HYM
            go_wp2_with fail
            go_ret
            exact ⟨ret_bool HZ.out.symm, hB5⟩
          · have HZ := Lib.hid (HYM.out.trans (HM2'.out (.inl h2) hd))
            have ed : (y.d == 3) = false := by simpa using hd
            clear hd h2 h40 HYM
            go_wp2_with fail
            go_ret
            exact ⟨ret_bool HZ.out.symm, hB5⟩
        · have e1 : (x.b == 1) = false := by rw [beq_eq_false_iff_ne]; omega
          have e2 : (x.b == 2) = false := by rw [beq_eq_false_iff_ne]; omega
          have e4 : (x.b == 4) = true := by simpa using h4
          have hc0 : x.c ≠ 0 := fun h => h40 ⟨h4, h⟩
          have e5 : (x.c == 0) = false := by rw [beq_eq_false_iff_ne]; exact hc0
          by_cases hd : y.d = 3
          · have HZ := Lib.hid (HYM.out.trans (HM2.out (.inr ⟨h4, hc0⟩) hd))
            have ed : (y.d == 3) = true := by simpa using hd
            clear hd h4 h40 hc0 HYM
            go_wp2_with fail
            go_ret
            exact ⟨ret_bool HZ.out.symm, hB5⟩
          · have HZ := Lib.hid (HYM.out.trans (HM2'.out (.inr ⟨h4, hc0⟩) hd))
            have ed : (y.d == 3) = false := by simpa using hd
            clear hd h4 h40 hc0 HYM
            go_wp2_with fail
            go_ret
            exact ⟨ret_bool HZ.out.symm, hB5⟩
end Go.Proofs.Ytopgboepkckkjaa.Vm

namespace Go.Proofs.Ytopgboepkckkjaa.Vm
open Go Go.RowKit

theorem task_role {fl : Int → Bool} {s : St} {i : Nat} (h : JobP fl s.ts i) : yes (TaskP fl s i) = yes (RoleP s.rs (s.ts.getD i zr)) := yes_same ⟨fun h2 => h2.2, fun h2 => ⟨h, h2⟩⟩
theorem role_out {rs : List Rec} {t : Rec} (h1 : t.d ≠ 1) (he : ¬ (0 ≤ t.e ∧ t.e < rs.length)) : yes (RoleP rs t) = false := yes_false (by unfold RoleP; omega)
theorem role_4' {rs : List Rec} {t : Rec} (h1 : t.d ≠ 1) (h2 : t.d ≠ 2) (h3 : t.d ≠ 3) (he : 0 ≤ t.e ∧ t.e < rs.length) : yes (RoleP rs t) = (t.d == 4) := yes_beq (by unfold RoleP; omega)

set_option maxRecDepth 100000 in
set_option maxHeartbeats 2000000 in
theorem rtask_any (W H : Int) (g : ByteArray) (h : Sh) (s : St) (i B : Nat) (w : World) (hg : g.size ≤ maxLen) (hin : StIn w B h s) (hB : B ≤ w.heap.size) (hi : i < s.ts.length) :
    Calls Try.prog 27 #[gridV W H g, shV h, .int .i64 (i : Int)] w fun e w' => e = .returned (.bool (yes (TaskP (floorS (bytesOf g)) s i))) ∧ Below w.heap.size w w' := by
  obtain ⟨w2, hw2, hB2, hz2, hg2, hs2⟩ := gs_head w W H g h
  have hR := hin.rs.mono hB
  have hT := hin.ts.mono hB
  have hm1 := hin.rs.len
  obtain ⟨t, a1, n1, c1, a2, n2, c2, a3, n3, c3⟩ := h
  obtain ⟨tick, rs, ts, bl⟩ := s
  simp only [] at hR hT hi hm1
  unfold maxLen at hm1
  obtain ⟨b, off, rfl, hb, hcs⟩ := hT.cells (by have := hT.1; omega)
  have hi1 : i < n2 := by have := hT.1; omega
  have hcell := hcs i hi1
  have HW2 := Lib.hid hw2
  have HG := Lib.hid hg
  have HI := Lib.hid hi
  have HTL := Lib.hid hT.1
  have HRL := Lib.hid hR.1
  have HR := Lib.hid hR
  have HT := Lib.hid hT
  have hx : ∃ x, ts.getD i zr = x := ⟨_, rfl⟩
  obtain ⟨x, hx⟩ := hx
  rw [hx] at hcell
  have HX := Lib.hid hx
  have hB3 : Below w.heap.size w (w2.alloc (.cells #[.int .i64 x.a, .int .i64 x.b, .int .i64 x.c, .int .i64 x.d, .int .i64 x.e] 47)) := hB2.alloc (by omega) _
  have hra := recAt_new w2 x 47
  have hba : Below w2.heap.size w2 (w2.alloc (.cells #[.int .i64 x.a, .int .i64 x.b, .int .i64 x.c, .int .i64 x.d, .int .i64 x.e] 47)) := (Below.refl _ _).alloc (Nat.le_refl _) _
  have hza : (w2.alloc (.cells #[.int .i64 x.a, .int .i64 x.b, .int .i64 x.c, .int .i64 x.d, .int .i64 x.e] 47)).heap.size = w.heap.size + 3 := by simp [hz2]
  have hga := hg2.below hba (by omega)
  have hsa := hs2.below hba (by omega)
  rw [hz2] at hra
  obtain ⟨p1, p2, p3, p4, p5⟩ := hcell
  have hns : ¬ x.a < 1 → True := fun _ => trivial
  generalize hw3 : w2.alloc (.cells #[.int .i64 x.a, .int .i64 x.b, .int .i64 x.c, .int .i64 x.d, .int .i64 x.e] 47) = w3 at hB3 hra hza hga hsa
  have HW3 := Lib.hid hw3
  have HRA := Lib.hid hra
  have HGA := Lib.hid hga
  have HSA := Lib.hid hsa
  have HB3 := Lib.hid hB3
  clear hw2 hcs hx hg hR hT hin hi hg2 hw3 hra hga hsa hba hns hs2
  obtain ⟨fl, hfl⟩ : ∃ fl, floorS (bytesOf g) = fl := ⟨_, rfl⟩
  rw [hfl]
  have HFL := Lib.hid hfl
  have hno : (JobP fl ts i → False) → Hid (¬ TaskP fl ⟨tick, rs, ts, bl⟩ i) := fun h1 h2 => h1 h2.1
  have HNO := Lib.hid hno
  clear hfl hno
  have hBa := HB3.out
  rw [← HW3.out, HW2.out] at hBa
  have HBA := Lib.hid hBa
  clear hBa
  by_cases ha0 : x.a < 1
  · have HN := HNO.out fun hh => by have := hh.1; rw [HX.out] at this; omega
    go_enter Try.func27, Try.ntmps27
    go_wp2_with fail
    go_ret
    exact ⟨ret_bool (yes_false HN.out).symm, HBA.out⟩
  by_cases ha1 : 2147483647 < x.a
  · have HN := HNO.out fun hh => by have := hh.1; rw [HX.out] at this; omega
    go_enter Try.func27, Try.ntmps27
    go_wp2_with fail
    go_ret
    exact ⟨ret_bool (yes_false HN.out).symm, HBA.out⟩
  have HAA : Hid (1 ≤ x.a ∧ x.a ≤ 2147483647) := ⟨by omega, by omega⟩
  have HFD := Lib.hid fun (V : World) (hV : Below w.heap.size w V) => rfind_any ⟨t, a1, n1, c1, some ⟨b, off, none⟩, n2, c2, a3, n3, c3⟩ ts x.a w.heap.size V (HT.out.below hV) hV.size
  go_enter Try.func27, Try.ntmps27
  go_wp2_with fail
  rw [← HW2.out, HW3.out]
  clear p1 p2 p3 p4 p5 ha0 ha1
  have hsz3 := hB3.size
  refine (HFD.out _ hB3).mono ?_
  rintro e w4 ⟨rfl, hv4⟩
  have hB4 := hB3.trans (hv4.mono hsz3)
  have hra := HRA.out.below hv4 (by omega)
  have hga := HGA.out.below hv4 (by omega)
  have hsa := HSA.out.below hv4 (by omega)
  have hz4 := hv4.size
  have HRA4 := Lib.hid hra
  have HSA4 := Lib.hid hsa
  have HGA4 := Lib.hid hga
  obtain ⟨r1, r2, r3, r4, r5⟩ := hra
  obtain ⟨s0, s1, s2, s3⟩ := hsa
  obtain ⟨g1, g2, g3⟩ := hga
  simp only [] at s0 s1 s2 s3
  by_cases hfi : findS ts x.a ≠ i
  · have HN := HNO.out fun hh => hfi (by have h5 := findS_own HI.out hh.2.1; rw [HX.out] at h5; exact h5)
    have e1 : (findS ts x.a != (i : Int)) = true := by rw [bne_iff_ne]; exact hfi
    clear hfi
    go_wp2_with fail
    go_ret
    exact ⟨ret_bool (yes_false HN.out).symm, hB4⟩
  have hfi := Classical.not_not.1 hfi
  have HDIS : Hid (∀ k, k < i → (ts.getD k zr).a ≠ x.a) := by
    have h5 := findS_own_iff (ts := ts) HI.out
    rw [HX.out] at h5
    exact h5.1 hfi
  have e1 : (findS ts x.a != (i : Int)) = false := by rw [bne_eq_false_iff_eq]; exact hfi
  clear hfi
  generalize findS ts x.a = f at e1
  cases hf : fl x.b
  · have HN := HNO.out fun hh => by
      have h1 := hh.2.2.2.1
      rw [HX.out, hf] at h1
      cases h1
    have HF := Lib.hid fun (V : World) => rfloor_no (W := W) (H := H) V HG.out (by rw [HFL.out]; exact hf)
    clear hf
    go_wp2_with fail
    refine (HF.out _).mono ?_
    rintro e w5 ⟨rfl, hv5⟩
    have hB5 := hB4.trans (hv5.mono hB4.size)
    go_wp2_with fail
    go_ret
    exact ⟨ret_bool (yes_false HN.out).symm, hB5⟩
  have HF := Lib.hid fun (V : World) => rfloor_yes (W := W) (H := H) V HG.out (by rw [HFL.out]; exact hf)
  have HFB := Lib.hid hf
  clear hf
  go_wp2_with fail
  refine (HF.out _).mono ?_
  rintro e w5 ⟨rfl, hv5⟩
  have hB5 := hB4.trans (hv5.mono hB4.size)
  have hv5 := hv4.trans (hv5.mono hz4)
  have hz5 := hv5.size
  clear r1 r2 r3 r4 r5 s0 s1 s2 s3 g1 g2 g3
  have hra := HRA.out.below hv5 (by omega)
  have hga := HGA.out.below hv5 (by omega)
  have hsa := HSA.out.below hv5 (by omega)
  obtain ⟨r1, r2, r3, r4, r5⟩ := hra
  obtain ⟨s0, s1, s2, s3⟩ := hsa
  obtain ⟨g1, g2, g3⟩ := hga
  simp only [] at s0 s1 s2 s3
  clear HF
  cases hf : fl x.c
  · have HN := HNO.out fun hh => by
      have h1 := hh.2.2.2.2
      rw [HX.out, hf] at h1
      cases h1
    have HF := Lib.hid fun (V : World) => rfloor_no (W := W) (H := H) V HG.out (by rw [HFL.out]; exact hf)
    clear hf
    go_wp2_with fail
    refine (HF.out _).mono ?_
    rintro e w6 ⟨rfl, hv6⟩
    have hB6 := hB5.trans (hv6.mono hB5.size)
    go_wp2_with fail
    go_ret
    exact ⟨ret_bool (yes_false HN.out).symm, hB6⟩
  have HF := Lib.hid fun (V : World) => rfloor_yes (W := W) (H := H) V HG.out (by rw [HFL.out]; exact hf)
  have HFC := Lib.hid hf
  clear hf
  go_wp2_with fail
  refine (HF.out _).mono ?_
  rintro e w6 ⟨rfl, hv6⟩
  have hB6 := hB5.trans (hv6.mono hB5.size)
  have hv6 := hv5.trans (hv6.mono hz5)
  have hz6 := hv6.size
  clear r1 r2 r3 r4 r5 s0 s1 s2 s3 g1 g2 g3
  have hra := HRA.out.below hv6 (by omega)
  have hsa := HSA.out.below hv6 (by omega)
  obtain ⟨r1, r2, r3, r4, r5⟩ := hra
  obtain ⟨s0, s1, s2, s3⟩ := hsa
  simp only [] at s0 s1 s2 s3
  clear HF
  by_cases hbc : x.b = x.c
  · have HN := HNO.out fun hh => by
      have h1 := hh.2.2.1
      rw [HX.out] at h1
      exact h1 hbc
    have e2 : (x.b == x.c) = true := by simpa using hbc
    clear hbc
    go_wp2_with fail
    go_ret
    exact ⟨ret_bool (yes_false HN.out).symm, hB6⟩
  have e2 : (x.b == x.c) = false := by simpa using hbc
  have HJ : Hid (JobP fl ts i) := by
    unfold Hid JobP
    rw [HX.out]
    exact ⟨HAA.out, HDIS.out, hbc, HFB.out, HFC.out⟩
  clear hbc
  have HYR : Hid (yes (TaskP fl ⟨tick, rs, ts, bl⟩ i) = yes (RoleP rs x)) := by
    have := task_role (fl := fl) (s := ⟨tick, rs, ts, bl⟩) (i := i) HJ.out
    rw [← HX.out]
    exact this
  by_cases h1 : x.d = 1
  · have HZ := Lib.hid (HYR.out.trans (role_1 h1))
    have e3 : (x.d == 1) = true := by simpa using h1
    clear h1 HYR
    go_wp2_with fail
    go_ret
    exact ⟨ret_bool HZ.out.symm, hB6⟩
  have e3 : (x.d == 1) = false := by simpa using h1
  by_cases hr0 : x.e < 0
  · have HZ := Lib.hid (HYR.out.trans (role_out h1 (by omega)))
    clear h1 HYR
    go_wp2_with fail
    go_ret
    exact ⟨ret_bool HZ.out.symm, hB6⟩
  by_cases hr1 : (n1 : Int) ≤ x.e
  · have HZ := Lib.hid (HYR.out.trans (role_out h1 (by rw [HRL.out]; omega)))
    clear h1 HYR
    go_wp2_with fail
    go_ret
    exact ⟨ret_bool HZ.out.symm, hB6⟩
  have hrr : 0 ≤ x.e ∧ x.e < rs.length := by rw [HRL.out]; omega
  obtain ⟨xa, xb, xc, xd, xe⟩ := x
  simp only [] at hrr e3 h1 hr0 hr1
  obtain ⟨k, rfl⟩ := Int.eq_ofNat_of_zero_le hrr.1
  have hkn : k < n1 := by have := HRL.out; omega
  obtain ⟨b', off', e', hb', hcs'⟩ := HR.out.cells (by omega)
  subst e'
  have hcell := (hcs' k hkn).below hB6 (by omega)
  obtain ⟨q1, q2, q3, q4, q5⟩ := hcell
  generalize (rs.getD k zr).a = ya at q1
  generalize (rs.getD k zr).b = yb at q2
  have hyc : ∃ yc, (rs.getD k zr).c = yc := ⟨_, rfl⟩
  obtain ⟨yc, hyc⟩ := hyc
  rw [hyc] at q3
  generalize (rs.getD k zr).d = yd at q4
  generalize (rs.getD k zr).e = ye at q5
  clear hcs' hr0 hr1
  by_cases h23 : xd = 2 ∨ xd = 3
  · have hrl := role_23 (rs := rs) (t := ⟨xa, xb, xc, xd, (k : Int)⟩) h23 hrr
    simp only [Int.toNat_natCast] at hrl
    rw [hyc] at hrl
    have HZ := Lib.hid (HYR.out.trans hrl)
    clear hrl hyc HYR hrr h1
    rcases h23 with h2 | h3
    · have e4 : (xd == 2) = true := by simpa using h2
      clear h2
      go_wp2_with fail
      go_quiet (fail)
      go_wp2_with fail
      go_ret
      exact ⟨ret_bool HZ.out.symm, below_drewN hB6 _⟩
    · have e4 : (xd == 2) = false := by rw [beq_eq_false_iff_ne]; omega
      have e5 : (xd == 3) = true := by simpa using h3
      clear h3
      go_wp2_with fail
      go_quiet (fail)
      go_wp2_with fail
      go_ret
      exact ⟨ret_bool HZ.out.symm, below_drewN hB6 _⟩
  · have hrl := role_4' (rs := rs) (t := ⟨xa, xb, xc, xd, (k : Int)⟩) h1 (fun h => h23 (.inl h)) (fun h => h23 (.inr h)) hrr
    have HZ := Lib.hid (HYR.out.trans hrl)
    have e4 : (xd == 2) = false := by rw [beq_eq_false_iff_ne]; omega
    have e5 : (xd == 3) = false := by rw [beq_eq_false_iff_ne]; omega
    clear hrl hyc HYR hrr h1 h23
    go_wp2_with fail
    go_ret
    exact ⟨ret_bool HZ.out.symm, hB6⟩
end Go.Proofs.Ytopgboepkckkjaa.Vm
