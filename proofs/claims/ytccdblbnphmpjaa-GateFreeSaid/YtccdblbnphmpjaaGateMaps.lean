/- The contracts of package gate's robotsIn, setOf, firstTo, indices, and of slices.Clone at ints. -/
import Derived.Test.YtccdblbnphmpjaaGateWords
namespace Go.Proofs.Ytccdblbnphmpjaa.Vm
open Go Go.RowKit Go.Maps

set_option maxRecDepth 100000 in
set_option maxHeartbeats 1000000 in
theorem robotsIn_any (a : Option Addr) (n c B : Nat) (cells : List Int) (w : World) (h : RowZ .i64 w B a n c cells) (hB : B ≤ w.heap.size) (hw : WfZ cells) (hn : n ≤ 100000) :
    Calls Try.prog 13 #[.slice a n c] w fun e w' =>
      ((TwiceP cells ∧ e = .returned (.tuple #[.map none, .bool false])) ∨ (¬ TwiceP cells ∧ e = .returned (.tuple #[.map (some w.heap.size), .bool true]) ∧ MapIn w' w.heap.size n (inG cells n))) ∧ Below w.heap.size w w' := by
  have hmm := make_mapI n w
  have hm0 := mapIn_new w (f := inG cells 0) (fun _ => rfl)
  have hb0 : Below w.heap.size w (w.alloc (.map #[] 0)) := (Below.refl _ _).alloc (Nat.le_refl _) _
  have hl := h.1
  have HCS := Lib.hid (fun h' => h.cells h')
  have hc1 := h.2.1
  have HW := Lib.hid hw
  have HM0 := Lib.hid hm0
  have HB0 := Lib.hid hb0
  clear hw h hm0 hb0
  go_enter Try.func13, Try.ntmps13
  go_wp2_with fail
  clear hmm
  go_loopw [14] (fun i wr => ∃ k : Nat, k ≤ n ∧ i = .int .i64 k ∧ Hid (MapIn wr w.heap.size k (inG cells k)) ∧ Below w.heap.size w wr ∧ Hid (∀ j, j < k → cells.getD j 0 ∉ cells.take j)) (fun i _ => n - (intOf i).toNat)
  case atStart => exact ⟨0, Nat.zero_le _, rfl, HM0.out, HB0.out, fun j hj => absurd hj (Nat.not_lt_zero _)⟩
  case round =>
    obtain ⟨k, hk, rfl, HM, hbel, HN⟩ := hrel
    by_cases hlt : k < n
    · obtain ⟨b, off, rfl, hb, hcs⟩ := HCS.out (by omega)
      have hcell := (hbel.cell (p := ⟨b, off + k, none⟩) (show b < w.heap.size by omega)).trans (hcs k hlt)
      have hwz := HW.out.at k (by omega)
      have hlook := HM.out.look hwz
      clear hcs
      cases hin : inG cells k (cells.getD k 0) with
      | some x =>
        have HT : Hid (TwiceP cells) := by
          obtain ⟨j, _, hj, e⟩ := inG_some hin
          exact ⟨k, by omega, by rw [← e]; exact takeG_at hj (by omega)⟩
        rw [hin] at hlook
        simp only [Option.getD_some, Option.isSome_some] at hlook
        generalize cells.getD k 0 = z at hcell hlook
        have HBE := Lib.hid hbel
        clear hin hbel hwz
        go_wp2_with fail
        go_ret2
        exact ⟨.inl ⟨HT.out, rfl⟩, HBE.out⟩
      | none =>
        rw [hin] at hlook
        simp only [Option.getD_none, Option.isSome_none] at hlook
        obtain ⟨w1, hrun, hm1, hg1⟩ := HM.out.put (x := (k : Int)) (by omega) hwz (WalkArith.wf_i64 (by omega))
        have HM1 : Hid (MapIn w1 w.heap.size (k + 1) (inG cells (k + 1))) := hm1
        have HNO := Lib.hid (inG_no hin)
        have HB1 := Lib.hid (hbel.grown hg1 hbel.size (fun j hj => by injection hj with hj; exact Nat.le_of_eq hj))
        generalize hz : cells.getD k 0 = z at hcell hlook hrun
        have HZ := Lib.hid hz
        clear hin hm1 hg1 hwz hz hbel
        go_wp2_with fail
        go_roundw
        case rel =>
          refine ⟨k + 1, by omega, by go_num, HM1.out, HB1.out, fun j hj => ?_⟩
          by_cases e : j = k
          · subst e
            intro hm
            obtain ⟨i, hi, _, e⟩ := takeG_inv hm
            exact HNO.out i hi e
          · exact HN.out j (by omega)
        case measure => simp [intOf]; omega
    · obtain rfl : k = n := by omega
      have HT : Hid (¬ TwiceP cells) := fun ⟨i, hi, hm⟩ => HN.out i (by omega) hm
      go_wp2_with fail
      go_ret2
      exact ⟨.inr ⟨HT.out, rfl, HM.out⟩, hbel⟩

set_option maxRecDepth 100000 in
set_option maxHeartbeats 1000000 in
theorem setG_any (a : Option Addr) (n c B : Nat) (bl : List Int) (w : World) (h : RowZ .i64 w B a n c bl) (hB : B ≤ w.heap.size) (hw : WfZ bl) (hn : n ≤ 100000) :
    Calls Try.prog 15 #[.slice a n c] w fun e w' => e = .returned (.map (some w.heap.size)) ∧ ShutIn w' w.heap.size n bl ∧ Below w.heap.size w w' := by
  have hmm := make_setI n w
  have hb0 : Below w.heap.size w (w.alloc (.map #[] 0)) := (Below.refl _ _).alloc (Nat.le_refl _) _
  have hl := h.1
  have HCS := Lib.hid (fun h' => h.cells h')
  have hc1 := h.2.1
  have HW := Lib.hid hw
  have HB0 := Lib.hid hb0
  clear hw h hb0
  go_enter Try.func15, Try.ntmps15
  go_wp2_with fail
  clear hmm
  go_loopw [11] (fun i wr => ∃ k : Nat, k ≤ n ∧ i = .int .i64 k ∧ Hid (ShutIn wr w.heap.size k (bl.take k)) ∧ Below w.heap.size w wr) (fun i _ => n - (intOf i).toNat)
  case atStart => exact ⟨0, Nat.zero_le _, rfl, World.ownsMap_made _ _ _ _, HB0.out⟩
  case round =>
    obtain ⟨k, hk, rfl, HM, hbel⟩ := hrel
    by_cases hlt : k < n
    · obtain ⟨b, off, rfl, hb, hcs⟩ := HCS.out (by omega)
      have hcell := (hbel.cell (p := ⟨b, off + k, none⟩) (show b < w.heap.size by omega)).trans (hcs k hlt)
      obtain ⟨w1, hrun, hm1, hg1⟩ := HM.out.put (by omega) (by omega) (HW.out.at k (by omega))
      have HM1 := Lib.hid hm1
      have HB1 := Lib.hid (hbel.grown hg1 hbel.size (fun j hj => by injection hj with hj; exact Nat.le_of_eq hj))
      generalize bl.getD k 0 = z at hcell hrun
      clear hcs hm1 hg1 hbel
      go_wp2_with fail
      go_roundw
      case rel => exact ⟨k + 1, by omega, by go_num, HM1.out, HB1.out⟩
      case measure => simp [intOf]; omega
    · obtain rfl : k = n := by omega
      have HM2 := HM.out
      rw [List.take_of_length_le (by omega)] at HM2
      go_wp2_with fail
      go_ret
      exact ⟨rfl, HM2, hbel⟩

theorem firstG_put {cells wants : List Int} {k : Nat} (h1 : firstG cells wants k (wants.getD k 0) = none) (h2 : wants.getD k 0 ≠ cells.getD k 0) (z : Int) :
    firstG cells wants (k + 1) z = if z = wants.getD k 0 then some (k : Int) else firstG cells wants k z := by
  rw [firstG]
  by_cases e : z = wants.getD k 0
  · rw [if_pos ⟨e, by rw [e]; exact h1, h2⟩, if_pos e]
  · rw [if_neg (fun h => e h.1), if_neg e]
theorem firstG_stay {cells wants : List Int} {k : Nat} (h : firstG cells wants k (wants.getD k 0) ≠ none ∨ wants.getD k 0 = cells.getD k 0) (z : Int) :
    firstG cells wants (k + 1) z = firstG cells wants k z := by
  rw [firstG, if_neg]
  rintro ⟨e, h1, h2⟩
  rcases h with h | h
  · exact h (by rw [← e]; exact h1)
  · exact h2 h

set_option maxRecDepth 100000 in
set_option maxHeartbeats 1000000 in
theorem firstTo_any (a1 a2 : Option Addr) (n c1 c2 B : Nat) (cells wants : List Int) (w : World) (h1 : RowZ .i64 w B a1 n c1 cells) (h2 : RowZ .i64 w B a2 n c2 wants) (hB : B ≤ w.heap.size) (hw : WfZ wants) (hn : n ≤ 100000) :
    Calls Try.prog 16 #[.slice a1 n c1, .slice a2 n c2] w fun e w' => e = .returned (.map (some w.heap.size)) ∧ MapIn w' w.heap.size n (firstG cells wants n) ∧ Below w.heap.size w w' := by
  have hmm := make_mapI n w
  have hm0 := mapIn_new w (f := firstG cells wants 0) (fun _ => rfl)
  have hb0 : Below w.heap.size w (w.alloc (.map #[] 0)) := (Below.refl _ _).alloc (Nat.le_refl _) _
  have hl := h2.1
  have HC1 := Lib.hid (fun h' => h1.cells h')
  have HC2 := Lib.hid (fun h' => h2.cells h')
  have hca1 := h1.2.1
  have hca2 := h2.2.1
  have HW := Lib.hid hw
  have HM0 := Lib.hid hm0
  have HB0 := Lib.hid hb0
  clear hw h1 h2 hm0 hb0
  go_enter Try.func16, Try.ntmps16
  go_wp2_with fail
  clear hmm
  go_loopw [15] (fun i wr => ∃ k : Nat, k ≤ n ∧ i = .int .i64 k ∧ Hid (∃ m, m ≤ k ∧ MapIn wr w.heap.size m (firstG cells wants k)) ∧ Below w.heap.size w wr) (fun i _ => n - (intOf i).toNat)
  case atStart => exact ⟨0, Nat.zero_le _, rfl, ⟨0, Nat.le_refl _, HM0.out⟩, HB0.out⟩
  case round =>
    obtain ⟨k, hk, rfl, HM, hbel⟩ := hrel
    by_cases hlt : k < n
    · obtain ⟨b, off, rfl, hb, hcs⟩ := HC2.out (by omega)
      obtain ⟨b', off', rfl, hb', hcs'⟩ := HC1.out (by omega)
      have hcell := (hbel.cell (p := ⟨b, off + k, none⟩) (show b < w.heap.size by omega)).trans (hcs k hlt)
      have hcell' := (hbel.cell (p := ⟨b', off' + k, none⟩) (show b' < w.heap.size by omega)).trans (hcs' k hlt)
      have hwz := HW.out.at k (by omega)
      obtain ⟨m, hmk, HMI⟩ := HM.out
      have hlook := HMI.look hwz
      clear hcs hcs'
      cases hin : firstG cells wants k (wants.getD k 0) with
      | some x =>
        rw [hin] at hlook
        simp only [Option.getD_some, Option.isSome_some] at hlook
        have HM1 := Lib.hid (HMI.to (firstG_stay (.inl (by rw [hin]; simp))))
        generalize wants.getD k 0 = z at hcell hlook
        generalize cells.getD k 0 = y at hcell'
        have HBE := Lib.hid hbel
        clear hin hbel hwz HMI HM
        go_wp2_with fail
        go_roundw
        case rel => exact ⟨k + 1, by omega, by go_num, ⟨m, by omega, HM1.out⟩, HBE.out⟩
        case measure => simp [intOf]; omega
      | none =>
        rw [hin] at hlook
        simp only [Option.getD_none, Option.isSome_none] at hlook
        by_cases hne : wants.getD k 0 = cells.getD k 0
        · have HM1 := Lib.hid (HMI.to (firstG_stay (.inr hne)))
          have g1 : (wants.getD k 0 != cells.getD k 0) = false := by rw [hne]; simp
          generalize wants.getD k 0 = z at hcell hlook g1
          generalize cells.getD k 0 = y at hcell' g1
          have HBE := Lib.hid hbel
          clear hin hbel hwz HMI HM hne
          go_wp2_with fail
          go_roundw
          case rel => exact ⟨k + 1, by omega, by go_num, ⟨m, by omega, HM1.out⟩, HBE.out⟩
          case measure => simp [intOf]; omega
        · obtain ⟨w1, hrun, hm1, hg1⟩ := HMI.put (x := (k : Int)) (by omega) hwz (WalkArith.wf_i64 (by omega))
          have HM1 := Lib.hid (hm1.to (firstG_put hin hne))
          have HB1 := Lib.hid (hbel.grown hg1 hbel.size (fun j hj => by injection hj with hj; exact Nat.le_of_eq hj))
          have g1 : (wants.getD k 0 != cells.getD k 0) = true := by rw [bne_iff_ne]; exact hne
          generalize wants.getD k 0 = z at hcell hlook g1 hrun
          generalize cells.getD k 0 = y at hcell' g1
          clear hin hbel hwz HMI HM hne hm1 hg1
          go_wp2_with fail
          go_roundw
          case rel => exact ⟨k + 1, by omega, by go_num, ⟨m + 1, by omega, HM1.out⟩, HB1.out⟩
          case measure => simp [intOf]; omega
    · obtain rfl : k = n := by omega
      obtain ⟨m, hmk, HMI⟩ := HM.out
      have HMK : Hid (MapIn wr w.heap.size k (firstG cells wants k)) := by
        obtain ⟨D, ⟨es, clock, hb, r1, r2, r3⟩, r⟩ := HMI
        exact ⟨D, ⟨es, clock, hb, r1, Nat.le_trans r2 hmk, r3⟩, r⟩
      clear HMI
      go_wp2_with fail
      go_ret
      exact ⟨rfl, HMK.out, hbel⟩

theorem eql_nilI {t e : TypeId} (ht : Try.prog.underlying t = some (.slice e)) (a : Option Addr) (n c : Nat) (w : World) : (binOp .eql t (.slice a n c) (.slice none 0 0)).run Try.prog w = .ok (.bool a.isNone) w := by
  simp only [binOp]
  simp [run_equal_slice_nil w t e a n c ht, Result.andThen]

set_option maxRecDepth 100000 in
set_option maxHeartbeats 400000 in
theorem cloneZ_any (a : Option Addr) (n c B : Nat) (rs : List Int) (w : World) (h : RowZ .i64 w B a n c rs) (hB : B ≤ w.heap.size) (hn : n ≤ 100000) :
    Calls Try.prog 14 #[.slice a n c] w fun e w' => ∃ a' c', e = .returned (.slice a' n c') ∧ OwnZ w' w.heap.size (.slice a' n c') rs ∧ Below w.heap.size w w' := by
  have hl := h.1
  have hen := eql_nilI Try.underlying22 a n c
  cases a with
  | none =>
    obtain rfl : n = 0 := by
      rcases Nat.eq_zero_or_pos n with h0 | h0
      · exact h0
      · obtain ⟨_, _, e, _⟩ := h.cells h0; cases e
    obtain rfl := List.eq_nil_of_length_eq_zero hl
    clear h
    go_enter Try.func14, Try.ntmps14
    go_wp2_with fail
    go_ret
    exact ⟨none, 0, rfl, World.ownsRow_nil _ _ _ _, Below.refl _ _⟩
  | some ad =>
    obtain ⟨i0, hi0, hz0, hz1, hz2⟩ := info_parts info_int
    have hcs := fun o => cells_rowZ (h.below ((Below.refl B w).alloc hB o))
    have HCS := Lib.hid hcs
    have HOE := Lib.hid (ownZ_empty w (Nat.le_refl _))
    have HL := Lib.hid hl
    have HBE := Lib.hid fun o : Obj => (Below.refl w.heap.size w).alloc (Nat.le_refl _) o
    clear hcs h hl
    go_enter Try.func14, Try.ntmps14
    go_wp2_with (at_builtin; refine wpList_append_own _ rfl (.tmp 5) (.tmp 6) 22 rfl w.heap.size 3 i0 (.int .i64 0) 1 8 Try.underlying22 hi0 hz0 hz1 hz2 rfl (by decide) _ _ _ rfl HOE.out ad n c (intsZ rs) rfl (by rw [intsZ_len, HL.out, Nat.mul_one]) (HCS.out _) (by intro u hu; obtain ⟨_, _, rfl⟩ := List.mem_map.1 hu; rfl) (by simp only [maxLen, List.length_nil]; omega) (by simp only [List.length_nil]; omega) (by simp) ?_; intro v' w3 hown3 hgrow3 _)
    have HO : Hid (OwnZ w3 w.heap.size v' rs) := by
      unfold Hid OwnZ
      rw [HL.out]
      simpa [intsZ] using hown3
    obtain ⟨a', c', rfl⟩ := (own_slice HO.out)
    have HB3 := Lib.hid ((HBE.out _).grown hgrow3 (by simp) (fun k hk => (World.ownsRow.lt HOE.out k hk).1))
    clear hown3 hgrow3
    go_wp2_with fail
    go_ret
    rw [HL.out] at HO ⊢
    exact ⟨a', c', rfl, HO.out, HB3.out⟩

/-- The first k numbers laid. -/
def idxG (n k : Nat) : List Int := (List.range n).map fun j => if j < k then (j : Int) else 0
theorem idxG_len (n k : Nat) : (idxG n k).length = n := by simp [idxG]
theorem idxG_start (n : Nat) : idxG n 0 = List.replicate n 0 := by
  apply List.ext_getElem
  · simp [idxG]
  · intro j h1 h2; simp [idxG]
theorem idxG_end (n : Nat) : idxG n n = allG n := by
  apply List.ext_getElem
  · simp [idxG, allG]
  · intro j h1 h2
    have : j < n := by simpa [idxG] using h1
    simp [idxG, allG, this]
theorem idxG_set (n k : Nat) : (idxG n k).set k (k : Int) = idxG n (k + 1) := by
  apply List.ext_getElem
  · simp [idxG]
  · intro j h1 h2
    rw [List.getElem_set]
    by_cases e : k = j
    · subst e; simp [idxG]
    · rw [if_neg e]
      have : (j < k) ↔ (j < k + 1) := by omega
      simp [idxG, this]

set_option maxRecDepth 100000 in
set_option maxHeartbeats 400000 in
theorem indices_any (n : Nat) (w : World) (hn : n ≤ 100000) :
    Calls Try.prog 21 #[.int .i64 (n : Int)] w fun e w' => e = .returned (.slice (some ⟨w.heap.size, 0, none⟩) n n) ∧ NumsZ w' w.heap.size w.heap.size (allG n) ∧ Below w.heap.size w w' := by
  have hmk := make_ints w n (by omega)
  have hm0 := numsZ_made w n (by omega)
  have hb0 : Below w.heap.size w (w.alloc (.cells ⟨intsZ (List.replicate n 0)⟩ 3)) := (Below.refl _ _).alloc (Nat.le_refl _) _
  generalize w.alloc (.cells ⟨intsZ (List.replicate n 0)⟩ 3) = w1 at hmk hm0 hb0
  rw [← idxG_start] at hm0
  have HM0 := Lib.hid hm0
  have HB0 := Lib.hid hb0
  clear hm0 hb0
  go_enter Try.func21, Try.ntmps21
  go_wp2_with fail
  clear hmk
  go_loopw [9] (fun i wr => ∃ k : Nat, k ≤ n ∧ i = .int .i64 k ∧ Hid (NumsZ wr w.heap.size w.heap.size (idxG n k)) ∧ Below w.heap.size w wr) (fun i _ => n - (intOf i).toNat)
  case atStart => exact ⟨0, Nat.zero_le _, rfl, HM0.out, HB0.out⟩
  case round =>
    obtain ⟨k, hk, rfl, HM, hbel⟩ := hrel
    by_cases hlt : k < n
    · have hcell := HM.out.cell (i := k) (by rw [idxG_len]; exact hlt)
      have hfz := HM.out.frozen k
      have HM1 := HM.out.set k (k : Int)
      rw [idxG_set] at HM1
      have HM1 := Lib.hid HM1
      have HB1 := Lib.hid (hbel.setCell (p := ⟨w.heap.size, k, none⟩) (Nat.le_refl _) (.int .i64 (k : Int)))
      clear HM hbel
      go_wp2_with fail
      go_roundw
      case rel => exact ⟨k + 1, by omega, by go_num, HM1.out, HB1.out⟩
      case measure => simp [intOf]; omega
    · obtain rfl : k = n := by omega
      have HM2 := HM.out
      rw [idxG_end] at HM2
      go_wp2_with fail
      go_ret
      exact ⟨rfl, HM2, hbel⟩
end Go.Proofs.Ytccdblbnphmpjaa.Vm
