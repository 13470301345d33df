/- The contracts of state's within, isRobot, robotsAreRight. -/
import Derived.Test.YtincamjkfpcpiaaStWords
import Derived.Test.YtincamjkfpcpiaaSetAdds
namespace Go.Proofs.Ytincamjkfpcpiaa.Vm
open Go Go.RowKit

set_option maxRecDepth 100000 in
set_option maxHeartbeats 400000 in
theorem within_any (x lo hi : Int) (w : World) : Calls Try.prog 25 #[.int .i64 x, .int .i64 lo, .int .i64 hi] w fun e w' => e = .returned (.bool (yes (lo ≤ x ∧ x ≤ hi))) ∧ w = w' := by
  have ht : lo ≤ x → x ≤ hi → yes (lo ≤ x ∧ x ≤ hi) = true := fun h1 h2 => yes_true ⟨h1, h2⟩
  have hf : ¬ (lo ≤ x ∧ x ≤ hi) → yes (lo ≤ x ∧ x ≤ hi) = false := fun h => yes_false h
  generalize yes (lo ≤ x ∧ x ≤ hi) = Y at ht hf
  by_cases h1 : lo ≤ x
  · by_cases h2 : x ≤ hi
    · have HY := Lib.hid (ht h1 h2)
      clear ht hf
      go_enter Try.func25, Try.ntmps25
      go_wp2
      go_ret
      exact ⟨ret_bool HY.out.symm, rfl⟩
    · have HY := Lib.hid (hf (fun h => h2 h.2))
      clear ht hf
      go_enter Try.func25, Try.ntmps25
      go_wp2
      go_ret
      exact ⟨ret_bool HY.out.symm, rfl⟩
  · have HY := Lib.hid (hf (fun h => h1 h.1))
    clear ht hf
    go_enter Try.func25, Try.ntmps25
    go_wp2
    go_ret
    exact ⟨ret_bool HY.out.symm, rfl⟩
theorem within_yes {x lo hi : Int} (h : lo ≤ x ∧ x ≤ hi) (w : World) : Calls Try.prog 25 #[.int .i64 x, .int .i64 lo, .int .i64 hi] w fun e w' => e = .returned (.bool true) ∧ w = w' := by
  have := within_any x lo hi w
  rwa [yes_true h] at this
theorem within_no {x lo hi : Int} (h : ¬ (lo ≤ x ∧ x ≤ hi)) (w : World) : Calls Try.prog 25 #[.int .i64 x, .int .i64 lo, .int .i64 hi] w fun e w' => e = .returned (.bool false) ∧ w = w' := by
  have := within_any x lo hi w
  rwa [yes_false h] at this

set_option maxRecDepth 100000 in
set_option maxHeartbeats 400000 in
theorem isRobot_any (a : Option Addr) (n c : Nat) (x : Int) (w : World) (hn : n ≤ maxLen) : Calls Try.prog 38 #[.slice a n c, .int .i64 x] w fun e w' => e = .returned (.bool (yes (0 ≤ x ∧ x < (n : Int)))) ∧ w = w' := by
  unfold maxLen at hn
  have HY := Lib.hid (yes_same (p := 0 ≤ x ∧ x ≤ (n : Int) - 1) (q := 0 ≤ x ∧ x < (n : Int)) ⟨fun h => by omega, fun h => by omega⟩)
  go_enter Try.func38, Try.ntmps38
  go_wp2_with fail
  refine (within_any _ _ _ _).mono ?_
  rintro e w' ⟨rfl, rfl⟩
  go_wp2_with fail
  go_ret
  exact ⟨ret_bool HY.out, rfl⟩
theorem isRobot_yes (a : Option Addr) {n : Nat} (c : Nat) {x : Int} (w : World) (hn : n ≤ maxLen) (h : 0 ≤ x ∧ x < (n : Int)) : Calls Try.prog 38 #[.slice a n c, .int .i64 x] w fun e w' => e = .returned (.bool true) ∧ w = w' := by
  have := isRobot_any a n c x w hn
  rwa [yes_true h] at this
theorem isRobot_no (a : Option Addr) {n : Nat} (c : Nat) {x : Int} (w : World) (hn : n ≤ maxLen) (h : ¬ (0 ≤ x ∧ x < (n : Int))) : Calls Try.prog 38 #[.slice a n c, .int .i64 x] w fun e w' => e = .returned (.bool false) ∧ w = w' := by
  have := isRobot_any a n c x w hn
  rwa [yes_false h] at this

theorem floor_yes {W H c : Int} {s : ByteArray} (w : World) (hs : s.size ≤ maxLen) (h : floorS (bytesOf s) c = true) :
    Calls Try.prog 44 #[gridV W H s, .int .i64 c] w fun e w' => e = .returned (.bool true) ∧ Below w.heap.size w w' := by
  have := floor_any W H c s w hs
  rwa [h] at this
theorem floor_no {W H c : Int} {s : ByteArray} (w : World) (hs : s.size ≤ maxLen) (h : floorS (bytesOf s) c = false) :
    Calls Try.prog 44 #[gridV W H s, .int .i64 c] w fun e w' => e = .returned (.bool false) ∧ Below w.heap.size w w' := by
  have := floor_any W H c s w hs
  rwa [h] at this
theorem floor_wf {s : ByteArray} {c : Int} (hs : s.size ≤ maxLen) (h : floorS (bytesOf s) c = true) : (Lit.int .i64 c).wf = true := by
  have := floorS_in h
  rw [bytesOf_len] at this
  unfold maxLen at hs
  obtain ⟨k, rfl⟩ := Int.eq_ofNat_of_zero_le this.1
  exact WalkArith.wf_i64 (by omega)

theorem makeSet (n : Nat) (w : World) : (Instr.makeMap 70 (some (.int .i64 (n : Int)))).run Try.prog w = .ok (.map (some w.heap.size)) (w.alloc (.map #[] 0)) := by
  simp [Instr.makeMap, go_sem, Result.andThen]

/-- What a loop over robots holds: nothing below B has turned, and the map of the first k cells. -/
theorem restP_no1 {fl : Int → Bool} {rs : List Rec} {i : Nat} (hi : i < rs.length) (h : fl (rs.getD i zr).a = false) : ¬ ∀ j, j < rs.length → RestP fl rs j := fun hh => by
  have := (hh i hi).1
  rw [h] at this
  cases this
theorem restP_no2 {fl : Int → Bool} {rs : List Rec} {i : Nat} (hi : i < rs.length) (h : (rs.getD i zr).a ∈ (rs.take i).map Rec.a) : ¬ ∀ j, j < rs.length → RestP fl rs j := fun hh => by
  obtain ⟨j, hj, e⟩ := (mem_takeR (by omega)).1 h
  exact (hh i hi).2.1 j hj e

set_option maxRecDepth 100000 in
set_option maxHeartbeats 1000000 in
theorem robotsAreRight_any (W H : Int) (s : ByteArray) (a : Option Addr) (n c B : Nat) (rs : List Rec) (w : World) (hs : s.size ≤ maxLen) (h : RowR w B a n c rs) (hB : B ≤ w.heap.size) (hn : n ≤ 100000) :
    Calls Try.prog 26 #[gridV W H s, .slice a n c] w fun e w' => e = .returned (.bool (yes (∀ i, i < rs.length → RestP (floorS (bytesOf s)) rs i))) ∧ Below w.heap.size w w' := by
  have hB0 : Below w.heap.size w (w.alloc (gridO W H s)) := (Below.refl _ _).alloc (Nat.le_refl _) _
  have hg0 := gridAt_new w W H s
  have hz0 : (w.alloc (gridO W H s)).heap.size = w.heap.size + 1 := by simp
  have hmk := makeSet n (w.alloc (gridO W H s))
  have hms : ShutIn ((w.alloc (gridO W H s)).alloc (.map #[] 0)) (w.heap.size + 1) 0 [] := by
    have := World.ownsMap_made (H := Unit) (w.alloc (gridO W H s)) Try.prog 3 unitElem
    rwa [hz0] at this
  have hb1 : Below (w.heap.size + 1) (w.alloc (gridO W H s)) ((w.alloc (gridO W H s)).alloc (.map #[] 0)) := (Below.refl _ _).alloc (by omega) _
  have HS := Lib.hid hs
  have HL := Lib.hid h.1
  have HC := Lib.hid h.cells
  have HB1 := Lib.hid hb1
  have HMS := Lib.hid hms
  clear h hs hb1 hms
  go_enter Try.func26, Try.ntmps26
  go_wp2_with fail
  go_loopw [13] (fun i wr => ∃ k : Nat, k ≤ n ∧ i = .int .i64 k ∧ Hid (ShutIn wr (w.heap.size + 1) k ((rs.take k).map Rec.a)) ∧ Below (w.heap.size + 1) (w.alloc (gridO W H s)) wr ∧ w.heap.size + 1 < wr.heap.size ∧ Hid (∀ j, j < k → RestP (floorS (bytesOf s)) rs j)) (fun i _ => n - (intOf i).toNat)
  case atStart => exact ⟨0, Nat.zero_le _, rfl, HMS.out, HB1.out, by simp, fun j hj => absurd hj (Nat.not_lt_zero _)⟩
  case round =>
    obtain ⟨k, hk, rfl, HM, hbel, hmb, HA⟩ := hrel
    have hB2 : Below w.heap.size w wr := hB0.trans (hbel.mono (by omega))
    obtain ⟨g1, g2, g3⟩ := hg0.below hbel (by omega)
    by_cases hlt : k < n
    · obtain ⟨b, off, rfl, hb, hcs⟩ := HC.out (by omega)
      have hcell := (hcs k hlt).below hB2 (by omega)
      have hb3 : b < wr.heap.size := by omega
      have hgz : w.heap.size < wr.heap.size := by omega
      clear hcs
      have HKN : Hid (k < rs.length) := by unfold Hid; rw [HL.out]; exact hlt
      have hx : ∃ x, rs.getD k zr = x := ⟨_, rfl⟩
      obtain ⟨x, hx⟩ := hx
      rw [hx] at hcell
      have HX := Lib.hid hx
      clear hx
      obtain ⟨p1, p2, p3, p4, p5⟩ := hcell
      have hba : Below wr.heap.size wr (wr.alloc (.cells #[.int .i64 x.a, .int .i64 x.b, .int .i64 x.c, .int .i64 x.d, .int .i64 x.e] 45)) := (Below.refl _ _).alloc (Nat.le_refl _) _
      have hra := recAt_new wr x 45
      have hza : (wr.alloc (.cells #[.int .i64 x.a, .int .i64 x.b, .int .i64 x.c, .int .i64 x.d, .int .i64 x.e] 45)).heap.size = wr.heap.size + 1 := by simp
      have hma := HM.out.keep (hba.block (w.heap.size + 1) (by omega))
      have hbB := hB2.trans (hba.mono (by omega))
      have HMA := Lib.hid hma
      have HRA := Lib.hid hra
      have HBA := Lib.hid hba
      have HBB := Lib.hid hbB
      clear hma hra hba HM hbB
      cases hf : floorS (bytesOf s) x.a
      · have HN := Lib.hid (restP_no1 (rs := rs) HKN.out (by rw [HX.out]; exact hf))
        have HF := Lib.hid fun (V : World) => floor_no (W := W) (H := H) V HS.out hf
        clear hf
        go_wp2_with fail
        refine (HF.out _).mono ?_
        rintro e w1 ⟨rfl, hv1⟩
        have hB3 := HBB.out.trans (hv1.mono (by omega))
        go_wp2_with fail
        go_ret
        exact ⟨ret_bool (yes_false HN.out).symm, hB3⟩
      have HF := Lib.hid fun (V : World) => floor_yes (W := W) (H := H) V HS.out hf
      have HWF := Lib.hid (floor_wf HS.out hf)
      have HFL := Lib.hid hf
      clear hf
      go_wp2_with fail
      refine (HF.out _).mono ?_
      rintro e w1 ⟨rfl, hv1⟩
      have hr1 := HRA.out.below hv1 (by omega)
      have hm1 := HMA.out.keep (hv1.block (w.heap.size + 1) (by omega))
      have hB3 := HBB.out.trans (hv1.mono (by omega))
      have hz1 := hv1.size
      have hbel1 : Below (w.heap.size + 1) (w.alloc (gridO W H s)) w1 := hbel.trans ((HBA.out.mono (by omega)).trans (hv1.mono (by omega)))
      have HR1 := Lib.hid hr1
      have HM1 := Lib.hid hm1
      have HBE1 := Lib.hid hbel1
      obtain ⟨r1, r2, r3, r4, r5⟩ := hr1
      by_cases hin : x.a ∈ (rs.take k).map Rec.a
      · have HN := Lib.hid (restP_no2 (fl := floorS (bytesOf s)) (rs := rs) HKN.out (by rw [HX.out]; exact hin))
        have HADD := Lib.hid (add_no _ _ _ _ w1 HM1.out HWF.out hin)
        clear hin hm1 hbel1 hbel g1 g2 g3 p1 p2 p3 p4 p5
        go_wp2_with fail
        refine HADD.out.mono ?_
        rintro e w2 ⟨rfl, hv2⟩
        have hB4 := hB3.trans (hv2.mono (by omega))
        go_wp2_with fail
        go_ret
        exact ⟨ret_bool (yes_false HN.out).symm, hB4⟩
      have HADD := Lib.hid (add_yes _ _ _ _ w1 HM1.out HWF.out (by omega) hin)
      have HIN := Lib.hid hin
      clear hin hm1 hbel1 hbel g1 g2 g3 p1 p2 p3 p4 p5
      go_wp2_with fail
      refine HADD.out.mono ?_
      rintro e w2 ⟨rfl, hm2, hg2⟩
      have hgc : ∀ p : Addr, p.block = wr.heap.size → w2.cell? p = w1.cell? p := fun p hp => hg2.cell_far p (by omega) (by intro e; injection e; omega)
      obtain ⟨r1, r2, r3, r4, r5⟩ := HR1.out.keep hgc
      have hB4 := hB3.grown hg2 (by have := hB3.size; omega) (fun j hj => by injection hj; omega)
      have hz2 := hg2.size
      have HBE2 := Lib.hid (HBE1.out.grown hg2 (by omega) (fun j hj => by injection hj; omega))
      have HM2 := Lib.hid hm2
      clear hm2 hg2 hgc HM1 HR1 HBE1 HADD
      by_cases hd : 0 ≤ x.d ∧ x.d ≤ 1000
      · by_cases he : 0 ≤ x.e ∧ x.e ≤ 1000
        · have HD := Lib.hid (fun V => within_yes hd V)
          have HE := Lib.hid (fun V => within_yes he V)
          have HP : Hid (RestP (floorS (bytesOf s)) rs k) := by
            unfold Hid RestP
            rw [HX.out]
            exact ⟨HFL.out, fun j hj e => HIN.out ((mem_takeR (by have := HKN.out; omega)).2 ⟨j, hj, e⟩), hd, he⟩
          clear hd he
          go_wp2_with fail
          refine (HD.out _).mono ?_
          rintro e w3 ⟨rfl, rfl⟩
          go_wp2_with fail
          refine (HE.out _).mono ?_
          rintro e w3 ⟨rfl, rfl⟩
          go_wp2_with fail
          go_roundw
          case rel =>
            refine ⟨k + 1, by omega, by go_num, ?_, HBE2.out, by omega, upto_more HA.out HP.out⟩
            unfold Hid
            rw [takeR_more HKN.out, HX.out]
            exact HM2.out
          case measure => simp [intOf]; omega
        · have HD := Lib.hid (fun V => within_yes hd V)
          have HE := Lib.hid (fun V => within_no he V)
          have HN : Hid (¬ ∀ j, j < rs.length → RestP (floorS (bytesOf s)) rs j) := fun hh => he (by have := (hh k HKN.out).2.2.2; rwa [HX.out] at this)
          clear hd he
          go_wp2_with fail
          refine (HD.out _).mono ?_
          rintro e w3 ⟨rfl, rfl⟩
          go_wp2_with fail
          refine (HE.out _).mono ?_
          rintro e w3 ⟨rfl, rfl⟩
          go_wp2_with fail
          go_ret
          exact ⟨ret_bool (yes_false HN.out).symm, hB4⟩
      · have HD := Lib.hid (fun V => within_no hd V)
        have HN : Hid (¬ ∀ j, j < rs.length → RestP (floorS (bytesOf s)) rs j) := fun hh => hd (by have := (hh k HKN.out).2.2.1; rwa [HX.out] at this)
        clear hd
        go_wp2_with fail
        refine (HD.out _).mono ?_
        rintro e w3 ⟨rfl, rfl⟩
        go_wp2_with fail
        go_ret
        exact ⟨ret_bool (yes_false HN.out).symm, hB4⟩
    · go_wp2_with fail
      go_ret
      have hkn : k = n := by omega
      exact ⟨ret_bool (yes_true (by rw [HL.out, ← hkn]; exact HA.out)).symm, hB2⟩
end Go.Proofs.Ytincamjkfpcpiaa.Vm
