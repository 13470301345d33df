/- The document's disk: New, Room, Fuse, Delete, Rename. -/
import Derived.Test.YtkfjbpcngmipnaaRefDiskC
namespace Go.Proofs.Ytkfjbpcngmipnaa.Vm
open Go Go.RowKit
set_option maxRecDepth 100000

section
variable {w w1 w2 : World} {O : Nat → Prop} {bd : Nat} {d d' : DiskS}
theorem RefPost.behind {O1 : Nat → Prop} (hA : Alt O w w1) (hO : ∀ k, O1 k → O k ∨ w.heap.size ≤ k) (h : RefPost w1 O1 bd d' w2) : RefPost w O bd d' w2 := by
  obtain ⟨O', hD, hA', hO'⟩ := h
  refine ⟨O', hD, hA.trans hA' (fun k hk hlt => ?_), fun k hk => ?_⟩
  · rcases hO k hk with h | h
    · exact h
    · omega
  · rcases hO' k hk with h | h
    · exact hO k h
    · exact .inr (Nat.le_trans hA.size h)
theorem RefPost.of {v : Value} {l : List FileV} (h : RefAt w1 O bd v l d') (hA : Alt (fun k => k = bd) w w1) : RefPost w O bd d' w1 :=
  ⟨O, ⟨v, l, h⟩, hA.mono (fun k hk _ => by rw [hk]; exact h.obd), fun k hk => .inl hk⟩
end
theorem atI_nat {F : List FileS} {n : ByteArray} (h : atS F n < F.length) : atI F n = (atS F n : Nat) := by unfold atI; rw [if_pos h]
theorem atI_none {F : List FileS} {n : ByteArray} (h : ¬ atS F n < F.length) : atI F n = -1 := by unfold atI; rw [if_neg h]
theorem eraseI_nat {α : Type} (l : List α) (i : Nat) : eraseI (i : Nat) l = l.eraseIdx i := by unfold eraseI; rw [if_pos (by omega), Int.toNat_natCast]
theorem eraseI_at (F : List FileS) (n : ByteArray) : eraseI (atI F n) F = F.eraseIdx (atS F n) := by
  by_cases h : atS F n < F.length
  · rw [atI_nat h, eraseI_nat]
  · rw [atI_none h, List.eraseIdx_of_length_le (by omega)]
    rfl
theorem burnsS_cases (d : DiskS) (a b : ByteArray) : (burnsS d a b).1 = 0 ∨ (burnsS d a b).1 = 1 ∨ (burnsS d a b).1 = 9 := by
  unfold burnsS burnS
  split
  · split
    · exact .inr (.inr rfl)
    · exact .inl rfl
  · exact .inr (.inl rfl)

set_option maxHeartbeats 1000000 in
theorem rRoom13_any (bd : Nat) (v : Value) (l : List FileV) (d : DiskS) (O : Nat → Prop) (n : Int) (w : World) (h : RefAt w O bd v l d) :
    Calls Try.prog 31 #[.pointer (some ⟨bd, 0, none⟩), .int .i64 n] w fun e w' => e = .returned (.int .i64 (roomS d n).1) ∧ RefPost w O bd (roomS d n).2 w' := by
  obtain ⟨_, q1, _, _⟩ := h.cells
  have f1 := h.frozen 1
  have HR := Lib.hid h
  clear h
  by_cases h1 : n < 0 ∨ 16777216 < n
  · have HB : Hid (roomS d n = (1, d)) := by unfold Hid roomS; rw [if_pos h1]
    have HP : Hid (RefPost w O bd d w) := RefPost.of HR.out (Alt.refl _ _)
    by_cases h2 : n < 0
    · have d1 : decide (n < 0) = true := by rw [decide_eq_true_eq]; exact h2
      clear h1
      go_enter Try.func31, Try.ntmps31
      go_wp2_with fail
      go_ret
      rw [HB.out]
      exact ⟨rfl, HP.out⟩
    · have d1 : decide (n < 0) = false := by rw [decide_eq_false_iff_not]; exact h2
      have h3 : 16777216 < n := by omega
      have d2 : decide (16777216 < n) = true := by rw [decide_eq_true_eq]; exact h3
      clear h1
      go_enter Try.func31, Try.ntmps31
      go_wp2_with fail
      go_ret
      rw [HB.out]
      exact ⟨rfl, HP.out⟩
  · have HB : Hid (roomS d n = (0, { d with most := n })) := by unfold Hid roomS; rw [if_neg h1]
    have hs := HR.out.store (i := 1) (u := .int .i64 n) (d' := { d with most := n }) rfl rfl
    have HP : Hid (RefPost w O bd { d with most := n } (w.setCell ⟨bd, 1, none⟩ (.int .i64 n))) := RefPost.of hs.1 hs.2
    have h2 : ¬ n < 0 := by omega
    have h3 : ¬ 16777216 < n := by omega
    have d1 : decide (n < 0) = false := by rw [decide_eq_false_iff_not]; exact h2
    have d2 : decide (16777216 < n) = false := by rw [decide_eq_false_iff_not]; exact h3
    clear h1 hs
    go_enter Try.func31, Try.ntmps31
    go_wp2_with fail
    go_ret
    rw [HB.out]
    exact ⟨rfl, HP.out⟩

set_option maxHeartbeats 1000000 in
theorem rFuse13_any (bd : Nat) (v : Value) (l : List FileV) (d : DiskS) (O : Nat → Prop) (n : Int) (w : World) (h : RefAt w O bd v l d) :
    Calls Try.prog 32 #[.pointer (some ⟨bd, 0, none⟩), .int .i64 n] w fun e w' => e = .returned (.tuple #[]) ∧ RefPost w O bd (fuseS d n) w' := by
  obtain ⟨_, _, q2, _⟩ := h.cells
  have f2 := h.frozen 2
  have hs := h.store (i := 2) (u := .int .i64 (max n (-1))) (d' := fuseS d n) rfl rfl
  have HP : Hid (RefPost w O bd (fuseS d n) (w.setCell ⟨bd, 2, none⟩ (.int .i64 (max n (-1))))) := RefPost.of hs.1 hs.2
  clear hs h
  go_enter Try.func32, Try.ntmps32
  by_cases hn : -1 ≤ n
  · have e : max n (-1) = n := by omega
    rw [e] at HP
    clear e
    go_wp2_with fail
    go_end0
    exact ⟨rfl, HP.out⟩
  · have e : max n (-1) = -1 := by omega
    rw [e] at HP
    clear e
    go_wp2_with fail
    go_end0
    exact ⟨rfl, HP.out⟩

set_option maxHeartbeats 1000000 in
theorem rNew13_any (n : Int) (w : World) :
    Calls Try.prog 9 #[.int .i64 n] w fun e w' => if n < 0 ∨ 16777216 < n then e = .returned (.tuple #[.pointer none, .int .i64 1]) ∧ w' = w else
      e = .returned (.tuple #[.pointer (some ⟨w.heap.size, 0, none⟩), .int .i64 0]) ∧ RefAt w' (fun k => k = w.heap.size) w.heap.size (.slice none 0 0) [] (newDk n) ∧ Below w.heap.size w w' := by
  by_cases h1 : n < 0 ∨ 16777216 < n
  · simp only [if_pos h1]
    by_cases h2 : n < 0
    · have d1 : decide (n < 0) = true := by rw [decide_eq_true_eq]; exact h2
      clear h1
      go_enter Try.func9, Try.ntmps9
      go_wp2_with fail
      exact bodyPost_ret (v := .tuple #[.pointer none, .int .i64 1]) (by simp [results, Try.results9, go_sem]) rfl ⟨rfl, rfl⟩
    · have d1 : decide (n < 0) = false := by rw [decide_eq_false_iff_not]; exact h2
      have h3 : 16777216 < n := by omega
      have d2 : decide (16777216 < n) = true := by rw [decide_eq_true_eq]; exact h3
      clear h1
      go_enter Try.func9, Try.ntmps9
      go_wp2_with fail
      exact bodyPost_ret (v := .tuple #[.pointer none, .int .i64 1]) (by simp [results, Try.results9, go_sem]) rfl ⟨rfl, rfl⟩
  · simp only [if_neg h1]
    have h2 : ¬ n < 0 := by omega
    have h3 : ¬ 16777216 < n := by omega
    have d1 : decide (n < 0) = false := by rw [decide_eq_false_iff_not]; exact h2
    have d2 : decide (16777216 < n) = false := by rw [decide_eq_false_iff_not]; exact h3
    have HP : Hid (RefAt (w.alloc (.cells #[.slice none 0 0, .int .i64 n, .int .i64 (-1), .bool false] 49)) (fun k => k = w.heap.size) w.heap.size (.slice none 0 0) [] (newDk n)) := by
      refine ⟨?_, OwnFs.nil _ _ _, rfl, fun i hi => absurd hi (by simp), rfl, (fun k hk => by cases hk), fun k hk => by rw [hk]; simp⟩
      show (w.heap.push _)[w.heap.size]? = _
      rw [Array.getElem?_push, if_pos rfl]
      rfl
    clear h1
    go_enter Try.func9, Try.ntmps9
    go_wp2_with fail
    exact bodyPost_ret (v := .tuple #[.pointer (some ⟨w.heap.size, 0, none⟩), .int .i64 0]) (by simp [results, Try.results9, go_sem]) rfl ⟨rfl, HP.out, (Below.refl _ _).alloc (Nat.le_refl _) _⟩

set_option maxHeartbeats 1000000 in
theorem rDelete13_any (bd : Nat) (v : Value) (l : List FileV) (d : DiskS) (O : Nat → Prop) (n : ByteArray) (w : World) (h : RefAt w O bd v l d) (hd : OkD d) (hF : d.F.length ≤ 1000000) (hn : n.size ≤ maxLen) :
    Calls Try.prog 30 #[.pointer (some ⟨bd, 0, none⟩), .string n] w fun e w' => e = .returned (.int .i64 (deleteS d n).1) ∧ RefPost w O bd (deleteS d n).2 w' := by
  have HBU := Lib.hid (rBurns13_any bd v l d O n n w h hd hn hn)
  have HDE : Hid (deleteS d n = if (burnsS d n n).1 ≠ 0 then burnsS d n n else if atS (burnsS d n n).2.F n < (burnsS d n n).2.F.length then (0, { (burnsS d n n).2 with F := (burnsS d n n).2.F.eraseIdx (atS (burnsS d n n).2.F n) }) else (5, (burnsS d n n).2)) := rfl
  have HFL : Hid ((burnsS d n n).2.F.length ≤ 1000000) := by unfold Hid; rw [(burnsS_F d n n).1]; exact hF
  clear h hF hn hd
  generalize burnsS d n n = bs at *
  generalize deleteS d n = ds at *
  obtain ⟨code, d1⟩ := bs
  go_enter Try.func30, Try.ntmps30
  go_wp2_with fail
  refine HBU.out.mono ?_
  rintro e w1 ⟨rfl, hr1, hA1⟩
  have HR1 := Lib.hid hr1
  have HA1 := Lib.hid hA1
  clear hr1 hA1
  by_cases hc : code = 0
  · have d0 : (code != 0) = false := by simpa using hc
    have HDE' : Hid (ds = if atS d1.F n < d1.F.length then (0, { d1 with F := d1.F.eraseIdx (atS d1.F n) }) else (5, d1)) := by
      have := HDE.out
      rwa [if_neg (by simpa using hc)] at this
    have HAT := Lib.hid (rAt13_any bd v l d1 O n w1 HR1.out HFL.out)
    have HOU := Lib.hid (rOut13_any bd v l d1 O (atI d1.F n) w1 HR1.out HFL.out)
    clear hc
    go_wp2_with fail
    refine HAT.out.mono ?_
    rintro e w2 ⟨rfl, rfl⟩
    by_cases hi : atS d1.F n < d1.F.length
    · have HD : Hid (ds = (0, { d1 with F := d1.F.eraseIdx (atS d1.F n) })) := by have := HDE'.out; rwa [if_pos hi] at this
      have hnn : decide (atI d1.F n < 0) = false := by rw [decide_eq_false_iff_not, atI_nat hi]; omega
      have HEI := Lib.hid (eraseI_at d1.F n)
      generalize atI d1.F n = z at *
      clear hi HDE' HDE
      go_wp2_with fail
      refine HOU.out.mono ?_
      rintro e w3 ⟨rfl, hp3⟩
      have HP3 := Lib.hid hp3
      clear hp3
      go_wp2_with fail
      go_ret
      rw [HD.out]
      refine ⟨rfl, ?_⟩
      have := HP3.out.post HR1.out.obd
      rw [HEI.out] at this
      exact this.behind (HA1.out.mono (fun k hk _ => by rw [hk]; exact HR1.out.obd)) (fun k hk => .inl hk)
    · have HD : Hid (ds = (5, d1)) := by have := HDE'.out; rwa [if_neg hi] at this
      have hnn : decide (atI d1.F n < 0) = true := by rw [decide_eq_true_eq, atI_none hi]; omega
      generalize atI d1.F n = z at *
      clear hi HDE' HDE
      go_wp2_with fail
      go_ret
      rw [HD.out]
      exact ⟨rfl, RefPost.of HR1.out HA1.out⟩
  · have d0 : (code != 0) = true := by simpa using hc
    have HD : Hid (ds = (code, d1)) := by
      have := HDE.out
      rwa [if_pos (by simpa using hc)] at this
    clear hc HDE
    go_wp2_with fail
    go_ret
    rw [HD.out]
    exact ⟨rfl, RefPost.of HR1.out HA1.out⟩

theorem Alt.bd {w w1 w2 : World} {bd : Nat} (h : Alt (fun k => k = bd) w w1) (h' : Alt (fun k => k = bd) w1 w2) : Alt (fun k => k = bd) w w2 := h.trans h' (fun _ hk _ => hk)
set_option maxHeartbeats 2000000 in
theorem rRename13_any (bd : Nat) (v : Value) (l : List FileV) (d : DiskS) (O : Nat → Prop) (n m : ByteArray) (w : World) (h : RefAt w O bd v l d) (hd : OkD d) (hF : d.F.length ≤ 900000) (hn : n.size ≤ maxLen) (hm : m.size ≤ maxLen) :
    Calls Try.prog 29 #[.pointer (some ⟨bd, 0, none⟩), .string n, .string m] w fun e w' => e = .returned (.int .i64 (renameS d n m).1) ∧ RefPost w O bd (renameS d n m).2 w' := by
  have HBU := Lib.hid (rBurns13_any bd v l d O n m w h hd hn hm)
  have HDE : Hid (renameS d n m = if (burnsS d n m).1 ≠ 0 then burnsS d n m else if atS (burnsS d n m).2.F n < (burnsS d n m).2.F.length then (if n = m then (0, (burnsS d n m).2) else (0, { (burnsS d n m).2 with F := inS (((burnsS d n m).2.F.eraseIdx (atS (burnsS d n m).2.F n)).eraseIdx (atS ((burnsS d n m).2.F.eraseIdx (atS (burnsS d n m).2.F n)) m)) { (burnsS d n m).2.F.getD (atS (burnsS d n m).2.F n) zfile with name := m } })) else (5, (burnsS d n m).2)) := rfl
  have HFL : Hid ((burnsS d n m).2.F.length ≤ 900000) := by unfold Hid; rw [(burnsS_F d n m).1]; exact hF
  clear h hF hn hm hd
  generalize burnsS d n m = bs at *
  generalize renameS d n m = ds at *
  obtain ⟨code, d1⟩ := bs
  go_enter Try.func29, Try.ntmps29
  go_wp2_with fail
  refine HBU.out.mono ?_
  rintro e w1 ⟨rfl, hr1, hA1⟩
  have HR1 := Lib.hid hr1
  have HA1 := Lib.hid hA1
  clear hr1 hA1
  by_cases hc : code = 0
  · have d0 : (code != 0) = false := by simpa using hc
    have HDE' : Hid (ds = if atS d1.F n < d1.F.length then (if n = m then (0, d1) else (0, { d1 with F := inS ((d1.F.eraseIdx (atS d1.F n)).eraseIdx (atS (d1.F.eraseIdx (atS d1.F n)) m)) { d1.F.getD (atS d1.F n) zfile with name := m } })) else (5, d1)) := by
      have := HDE.out
      rwa [if_neg (by simpa using hc)] at this
    have HAT := Lib.hid (rAt13_any bd v l d1 O n w1 HR1.out (Nat.le_trans HFL.out (by omega)))
    clear hc
    go_wp2_with fail
    refine HAT.out.mono ?_
    rintro e w2 ⟨rfl, rfl⟩
    by_cases hi : atS d1.F n < d1.F.length
    · have hnn : decide (atI d1.F n < 0) = false := by rw [decide_eq_false_iff_not, atI_nat hi]; omega
      by_cases hnm : n = m
      · have HD : Hid (ds = (0, d1)) := by have := HDE'.out; rwa [if_pos hi, if_pos hnm] at this
        have hq : (n.toList == m.toList) = true := by rw [name_beq]; simpa using hnm
        generalize atI d1.F n = z at *
        clear hi HDE' HDE hnm
        go_wp2_with fail
        go_ret
        rw [HD.out]
        exact ⟨rfl, RefPost.of HR1.out HA1.out⟩
      · have HD : Hid (ds = (0, { d1 with F := inS ((d1.F.eraseIdx (atS d1.F n)).eraseIdx (atS (d1.F.eraseIdx (atS d1.F n)) m)) { d1.F.getD (atS d1.F n) zfile with name := m } })) := by have := HDE'.out; rwa [if_pos hi, if_neg hnm] at this
        have hq : (n.toList == m.toList) = false := by rw [name_beq]; simpa using hnm
        have HAI := Lib.hid (atI_nat hi)
        obtain ⟨q0, _, _, _⟩ := HR1.out.cells
        obtain ⟨a, c, rfl⟩ := HR1.out.form
        obtain ⟨_, hnc, hcm, hcl⟩ := HR1.out.own.at
        unfold maxLen at hcm
        obtain ⟨lb, rfl, _, hlb, hcs, _⟩ := hcl (by omega)
        obtain ⟨c0, c1, c2⟩ := hcs _ hi
        have hLK := HR1.out.like (atS d1.F n) (by rw [HR1.out.len]; exact hi)
        rw [hLK.name] at c0
        clear HDE' HDE hnm hcl hcs
        rw [HAI.out] at hnn ⊢
        generalize hix : atS d1.F n = ix at *
        have hixi : (ix : Int) < (d1.F.length : Int) := by omega
        generalize (d1.F.getD ix zfile) = f at *
        generalize l.getD ix zfv = g at *
        have HLK := Lib.hid hLK
        have HIX := Lib.hid hix
        have HHI := Lib.hid hi
        generalize hN : d1.F.length = N at *
        have HN := Lib.hid hN
        have HQL : Hid (l.length = N) := HR1.out.len.trans HN.out
        clear hLK hix hN
        obtain ⟨w9, hw9⟩ : ∃ w9, w9 = w2.alloc (.cells #[.string m, .slice g.a g.n g.c, .int .i64 g.sure] 51) := ⟨_, rfl⟩
        have hb9 : Below w2.heap.size w2 w9 := by rw [hw9]; exact (Below.refl _ _).alloc (Nat.le_refl _) _
        have hz9 : w9.heap.size = w2.heap.size + 1 := by rw [hw9]; simp
        have hx9 : ∀ j y, [Value.string m, .slice g.a g.n g.c, .int .i64 g.sure][j]? = some y → w9.cell? ⟨w2.heap.size, j, none⟩ = some y := fun j y hj => by
          rw [hw9]
          have := three_cell w2 (.string m) (.slice g.a g.n g.c) (.int .i64 g.sure) 51 j y hj
          rwa [Row.add, Nat.zero_add] at this
        have HX9 := Lib.hid hx9
        have HR9 := Lib.hid (HR1.out.alt (S := fun _ => False) (Alt.ofBelow hb9) (fun _ _ h => h))
        have HA9 : Hid (Alt (fun k => k = bd) w2 w9) := Alt.ofBelow hb9
        have HW9 := Lib.hid hw9
        have HZ9 := Lib.hid hz9
        have HBD := Lib.hid (HR1.out.lt bd HR1.out.obd)
        have HOU := Lib.hid (rOut13_any bd _ l d1 O (ix : Nat) w9 HR9.out (by have h1 := HFL.out; have h2 := HN.out; omega))
        clear hw9 hb9 hz9 hx9
        go_wp2_with fail
        rw [← HW9.out]
        refine HOU.out.mono ?_
        rintro e w3 ⟨rfl, O3, v3, l3, hr3, hA3, ho3, hoo3⟩
        rw [eraseI_nat] at hr3
        have HR3 := Lib.hid hr3
        have HA3 := Lib.hid hA3
        have HO3 := Lib.hid ho3
        have HOO3 := Lib.hid hoo3
        have HL3 : Hid ((d1.F.eraseIdx ix).length ≤ 1000000) := Nat.le_trans (List.eraseIdx_sublist _ _).length_le (by have h1 := HFL.out; have h2 := HN.out; omega)
        have HAT3 := Lib.hid (rAt13_any bd v3 l3 _ O3 m w3 HR3.out HL3.out)
        have HOU3 := Lib.hid (rOut13_any bd v3 l3 _ O3 (atI (d1.F.eraseIdx ix) m) w3 HR3.out HL3.out)
        clear hr3 hA3 ho3 hoo3 q0 c0 c1 c2
        go_wp2_with fail
        refine HAT3.out.mono ?_
        rintro e w3' ⟨rfl, rfl⟩
        have HEI := Lib.hid (eraseI_at (d1.F.eraseIdx ix) m)
        have HOU4 : Hid (Calls Try.prog 44 #[.pointer (some ⟨bd, 0, none⟩), .int .i64 (atI (d1.F.eraseIdx ix) m)] w3' fun e w' => e = .returned (.tuple #[]) ∧ RefPostB w3' O3 bd { d1 with F := (d1.F.eraseIdx ix).eraseIdx (atS (d1.F.eraseIdx ix) m) } w') := by
          have := HOU3.out
          simp only [HEI.out] at this
          exact this
        clear HOU3 HEI HAT3
        go_wp2_with fail
        refine HOU4.out.mono ?_
        rintro e w4 ⟨rfl, O4, v4, l4, hr4, hA4, ho4, hoo4⟩
        have HR4 := Lib.hid hr4
        have HA4 : Hid (Alt (fun k => k = bd) w9 w4) := HA3.out.bd hA4
        have HO4 := Lib.hid ho4
        have HOO4 := Lib.hid hoo4
        have hne : ¬ w2.heap.size = bd := by have := HBD.out; omega
        have y0 := (HA4.out.cell (p := ⟨w2.heap.size, 0, none⟩) (by have := HZ9.out; show w2.heap.size < _; omega) hne).trans (HX9.out 0 _ rfl)
        have y1 := (HA4.out.cell (p := ⟨w2.heap.size, 1, none⟩) (by have := HZ9.out; show w2.heap.size < _; omega) hne).trans (HX9.out 1 _ rfl)
        have y2 := (HA4.out.cell (p := ⟨w2.heap.size, 2, none⟩) (by have := HZ9.out; show w2.heap.size < _; omega) hne).trans (HX9.out 2 _ rfl)
        have HFV : Hid (ByteIn w4 O4 (fun k => k = bd) ⟨m, g.a, g.n, g.c, g.sure⟩ { f with name := m }) := by
          have h1 := (HLK.out.alt (HA9.out.bd HA4.out) (fun k _ hk => .inl hk)).sub (S' := fun k => k = bd) (fun k hk => .inl hk)
          exact ⟨rfl, h1.sure, h1.n, h1.row, fun b o hn e => ⟨HOO4.out b (HOO3.out b (h1.off b o hn e).1), (h1.off b o hn e).2⟩⟩
        have HL4 : Hid (((d1.F.eraseIdx ix).eraseIdx (atS (d1.F.eraseIdx ix) m)).length ≤ 1000000) := Nat.le_trans (List.eraseIdx_sublist _ _).length_le HL3.out
        have HIN := Lib.hid (rIn13_any bd v4 l4 _ O4 ⟨m, g.a, g.n, g.c, g.sure⟩ { f with name := m } w4 HR4.out HL4.out HFV.out)
        clear hr4 hA4 ho4 hoo4 hne HFV
        go_wp2_with fail
        refine HIN.out.mono ?_
        rintro e w5 ⟨rfl, hp5⟩
        have HP5 := Lib.hid hp5
        clear hp5
        go_wp2_with fail
        go_ret
        rw [HD.out]
        refine ⟨rfl, ?_⟩
        have h1 := HP5.out.post HR4.out.obd
        have hAA : Alt O w w4 := (HA1.out.bd (HA9.out.bd HA4.out)).mono (fun k hk _ => by rw [hk]; exact HR1.out.obd)
        refine h1.behind hAA (fun k hk => ?_)
        have hsz := HA1.out.size
        have hs3 := HA3.out.size
        have hz := HZ9.out
        rcases HO4.out k hk with h | h
        · rcases HO3.out k h with h | h
          · exact .inl h
          · exact .inr (by omega)
        · exact .inr (by omega)
    · have HD : Hid (ds = (5, d1)) := by have := HDE'.out; rwa [if_neg hi] at this
      have hnn : decide (atI d1.F n < 0) = true := by rw [decide_eq_true_eq, atI_none hi]; omega
      generalize atI d1.F n = z at *
      clear hi HDE' HDE
      go_wp2_with fail
      go_ret
      rw [HD.out]
      exact ⟨rfl, RefPost.of HR1.out HA1.out⟩
  · have d0 : (code != 0) = true := by simpa using hc
    have HD : Hid (ds = (code, d1)) := by
      have := HDE.out
      rwa [if_pos (by simpa using hc)] at this
    clear hc HDE
    go_wp2_with fail
    go_ret
    rw [HD.out]
    exact ⟨rfl, RefPost.of HR1.out HA1.out⟩
end Go.Proofs.Ytkfjbpcngmipnaa.Vm
