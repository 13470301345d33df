/- The document's disk: Sync, Read. -/
import Derived.Test.YtkfjbpcngmipnaaRefDiskD
import Derived.Test.YtkfjbpcngmipnaaAppends
import Derived.BigRegion
import Derived.StillTailTactics
namespace Go.Proofs.Ytkfjbpcngmipnaa.Vm
open Go Go.RowKit
set_option maxRecDepth 100000

theorem RefPost.calls {w w1 w2 : World} {O : Nat → Prop} {bd : Nat} {d' : DiskS} (h : RefPost w O bd d' w1) (hb : Below w1.heap.size w1 w2) : RefPost w O bd d' w2 := by
  obtain ⟨O', hD, hA, hO⟩ := h
  exact ⟨O', hD.alt (S := fun _ => False) (Alt.ofBelow hb) (fun _ _ h => h), hA.calls (hb.mono hA.size), hO⟩
theorem RefPost.drew {w w1 : World} {O : Nat → Prop} {bd : Nat} {d' : DiskS} (h : RefPost w O bd d' w1) : RefPost w O bd d' w1.drew := h.calls ⟨rfl, rfl, rfl, Nat.le_refl _, fun _ _ => rfl⟩
theorem b_le {F : List FileS} {i : Nat} (hi : i < F.length) : (F.getD i zfile).b.length ≤ allS F := by
  have := allS_take hi
  have := allS_take_le F (i + 1)
  omega
/-- No bytes, in new memory. -/
theorem own_none (w : World) : Own (w.alloc (.cells #[] 5)) w.heap.size (.slice (some ⟨w.heap.size, 0, none⟩) 0 0) [] :=
  ⟨rfl, .inr ⟨w.heap.size, 0, #[], rfl, Nat.le_refl _, heap_alloc_new w _, Nat.le_refl _, by simp [maxLen], rfl, rfl⟩⟩
/-- One cell of one file, written. -/
theorem RefAt.putAt {w V : World} {O : Nat → Prop} {bd lb n c i j : Nat} {l : List FileV} {d : DiskS} (h : RefAt w O bd (.slice (some ⟨lb, 0, none⟩) n c) l d) (hb : Below w.heap.size w V) (hi : i < d.F.length) (hj : j < 3) (u : FileV) (g : FileS) (O' : Nat → Prop) (hO : ∀ k, O' k ↔ O k ∨ (w.heap.size ≤ k ∧ k < V.heap.size))
    (hu : ByteIn V O' (Mine13 bd (.slice (some ⟨lb, 0, none⟩) n c)) (putF (l.getD i zfv) j u) g) :
    RefAt (V.setCell ⟨lb, i * 3 + j, none⟩ ((fileL u).getD j (.bool false))) O' bd (.slice (some ⟨lb, 0, none⟩) n c) (l.set i (putF (l.getD i zfv) j u)) { d with F := d.F.set i g } ∧ Alt O w (V.setCell ⟨lb, i * 3 + j, none⟩ ((fileL u).getD j (.bool false))) := by
  have hlb := h.ov lb rfl
  have hlt := h.lt lb hlb.1
  have hA0 : Alt (fun _ => False) w V := ⟨hb.os, hb.tape, hb.output, hb.size, fun k hk _ => hb.block k hk⟩
  have hA2 : Alt (fun k => k = lb) V (V.setCell ⟨lb, i * 3 + j, none⟩ ((fileL u).getD j (.bool false))) := ⟨rfl, rfl, rfl, by simp [World.setCell], fun k hk hn => Below.heap_setCell _ _ _ _ hn⟩
  have hsz : (V.setCell ⟨lb, i * 3 + j, none⟩ ((fileL u).getD j (.bool false))).heap.size = V.heap.size := by simp [World.setCell]
  have hOV := h.own.alt hA0 (fun k _ hk => hk)
  refine ⟨⟨?_, hOV.put (by rw [h.len]; exact hi) hj u, by rw [List.length_set, List.length_set]; exact h.len, fun m hm => ?_, (hO bd).2 (.inl h.obd), fun k hk => ⟨(hO k).2 (.inl (h.ov k hk).1), (h.ov k hk).2⟩, fun k hk => ?_⟩, ?_⟩
  · rw [hA2.block bd (Nat.lt_of_lt_of_le (h.lt bd h.obd) hb.size) (fun e => hlb.2 e.symm), hb.block bd (h.lt bd h.obd)]
    exact h.box
  · rw [List.length_set] at hm
    by_cases hmi : m = i
    · subst hmi
      have e1 : (l.set m (putF (l.getD m zfv) j u)).getD m zfv = putF (l.getD m zfv) j u := by simp [List.getD, hm]
      have e2 : (d.F.set m g).getD m zfile = g := by simp [List.getD, hi]
      rw [e1, e2]
      exact hu.alt hA2 (fun k _ hk => .inr (by rw [hk]; rfl))
    · have e1 : (l.set i (putF (l.getD i zfv) j u)).getD m zfv = l.getD m zfv := by simp [List.getD, List.getElem?_set_ne (Ne.symm hmi)]
      have e2 : (d.F.set i g).getD m zfile = d.F.getD m zfile := by simp [List.getD, List.getElem?_set_ne (Ne.symm hmi)]
      rw [e1, e2]
      have h1 := ((h.like m hm).alt hA0 (fun k _ hk => absurd hk id)).alt hA2 (fun k _ hk => .inr (by rw [hk]; rfl))
      exact ⟨h1.name, h1.sure, h1.n, h1.row, fun b o hn e => ⟨(hO b).2 (.inl (h1.off b o hn e).1), (h1.off b o hn e).2⟩⟩
  · rw [hsz]
    rcases (hO k).1 hk with h1 | h1
    · exact Nat.lt_of_lt_of_le (h.lt k h1) hb.size
    · exact h1.2
  · exact (hA0.mono (S' := O) (fun k hk _ => absurd hk id)).trans hA2 (fun k hk _ => by rw [hk]; exact hlb.1)

set_option maxHeartbeats 1000000 in
theorem rSync13_any (bd : Nat) (v : Value) (l : List FileV) (d : DiskS) (O : Nat → Prop) (n : ByteArray) (w : World) (h : RefAt w O bd v l d) (hd : OkD d) (hF : d.F.length ≤ 1000000) (hn : n.size ≤ maxLen) :
    Calls Try.prog 28 #[.pointer (some ⟨bd, 0, none⟩), .string n] w fun e w' => e = .returned (.int .i64 (syncS d n).1) ∧ RefPost w O bd (syncS d n).2 w' := by
  have HBU := Lib.hid (rBurns13_any bd v l d O n n w h hd hn hn)
  have HDE : Hid (syncS d n = if (burnsS d n n).1 ≠ 0 then burnsS d n n else if atS (burnsS d n n).2.F n < (burnsS d n n).2.F.length then (0, { (burnsS d n n).2 with F := (burnsS d n n).2.F.set (atS (burnsS d n n).2.F n) (sureF ((burnsS d n n).2.F.getD (atS (burnsS d n n).2.F n) zfile)) }) else (5, (burnsS d n n).2)) := rfl
  have HFL : Hid ((burnsS d n n).2.F.length ≤ 1000000) := by unfold Hid; rw [(burnsS_F d n n).1]; exact hF
  clear h hF hn hd
  generalize burnsS d n n = bs at *
  generalize syncS d n = ds at *
  obtain ⟨code, d1⟩ := bs
  go_enter Try.func28, Try.ntmps28
  go_wp2_with fail
  refine HBU.out.mono ?_
  rintro e w1 ⟨rfl, hr1, hA1⟩
  have HR1 := Lib.hid hr1
  have HA1 := Lib.hid hA1
  have HAT := Lib.hid (rAt13_any bd v l d1 O n w1 hr1 HFL.out)
  clear hr1 hA1
  go_wp2_with fail
  refine HAT.out.mono ?_
  rintro e w2 ⟨rfl, rfl⟩
  by_cases hc : code = 0
  · have d0 : (code != 0) = false := by simpa using hc
    have HDE' : Hid (ds = if atS d1.F n < d1.F.length then (0, { d1 with F := d1.F.set (atS d1.F n) (sureF (d1.F.getD (atS d1.F n) zfile)) }) else (5, d1)) := by
      have := HDE.out
      rwa [if_neg (by simpa using hc)] at this
    clear hc
    by_cases hi : atS d1.F n < d1.F.length
    · have HD : Hid (ds = (0, { d1 with F := d1.F.set (atS d1.F n) (sureF (d1.F.getD (atS d1.F n) zfile)) })) := by have := HDE'.out; rwa [if_pos hi] at this
      have hnn : decide (atI d1.F n < 0) = false := by rw [decide_eq_false_iff_not, atI_nat hi]; omega
      have HAI := Lib.hid (atI_nat hi)
      obtain ⟨q0, _, _, _⟩ := HR1.out.cells
      obtain ⟨a, c, rfl⟩ := HR1.out.form
      obtain ⟨hnl, hnc, hcm, hcl⟩ := HR1.out.own.at
      clear hnl
      unfold maxLen at hcm
      obtain ⟨lb, rfl, _, hlb, hcs, hfz⟩ := hcl (by omega)
      obtain ⟨_, c1, c2⟩ := hcs _ hi
      have f2 := hfz (atS d1.F n * 3 + 2)
      have hLK := HR1.out.like (atS d1.F n) (by rw [HR1.out.len]; exact hi)
      rw [hLK.n] at c1
      have HP : Hid (RefPost w O bd { d1 with F := d1.F.set (atS d1.F n) (sureF (d1.F.getD (atS d1.F n) zfile)) } (w2.setCell ⟨lb, atS d1.F n * 3 + 2, none⟩ (.int .i64 ((d1.F.getD (atS d1.F n) zfile).b.length : Nat)))) := by
        have h1 := HR1.out.putAt (V := w2) (Below.refl _ _) hi (j := 2) (by omega) ⟨⟨#[]⟩, none, 0, 0, ((d1.F.getD (atS d1.F n) zfile).b.length : Nat)⟩ (sureF (d1.F.getD (atS d1.F n) zfile)) O (fun k => ⟨.inl, fun h => h.elim id (fun h => absurd h.1 (by omega))⟩) ⟨hLK.name, rfl, hLK.n, hLK.row, hLK.off⟩
        refine ⟨O, ⟨_, _, h1.1⟩, (HA1.out.mono (fun k hk _ => by rw [hk]; exact HR1.out.obd)).trans h1.2 (fun k hk _ => hk), fun k hk => .inl hk⟩
      have hixi : ((atS d1.F n : Nat) : Int) < (d1.F.length : Int) := by omega
      rw [HAI.out] at hnn ⊢
      clear HDE' HDE hcl hcs hfz hLK HAI
      generalize (d1.F.getD (atS d1.F n) zfile).b.length = m at *
      generalize atS d1.F n = ix at *
      generalize d1.F.length = N at *
      go_wp2_with fail
      go_still_tail 14, (by kernel_rfl)
      change wpList _ _ _ _ _ w2.drew
      go_wp2_with fail
      go_ret
      rw [HD.out]
      exact ⟨rfl, HP.out.drew⟩
    · have HD : Hid (ds = (5, d1)) := by have := HDE'.out; rwa [if_neg hi] at this
      have hnn : decide (atI d1.F n < 0) = true := by rw [decide_eq_true_eq, atI_none hi]; omega
      generalize atI d1.F n = z at *
      clear hi HDE' HDE
      go_wp2_with fail
      go_ret
      rw [HD.out]
      exact ⟨rfl, RefPost.of HR1.out HA1.out⟩
  · have d0 : (code != 0) = true := by simpa using hc
    have HD : Hid (ds = (code, d1)) := by
      have := HDE.out
      rwa [if_pos (by simpa using hc)] at this
    clear hc HDE
    generalize atI d1.F n = z at *
    go_wp2_with fail
    go_ret
    rw [HD.out]
    exact ⟨rfl, RefPost.of HR1.out HA1.out⟩

/-- What Read tells. -/
def SaysRead (w : World) (F : List FileS) (n : ByteArray) (e : Ending) (w' : World) : Prop :=
  ∃ a m c x, e = .returned (.tuple #[.slice a m c, .int .i64 x]) ∧ Row .u8 w' w'.heap.size a m c (if atS F n < F.length then (F.getD (atS F n) zfile).b else []) ∧ x = (if atS F n < F.length then 0 else 5) ∧ Below w.heap.size w w'
set_option maxHeartbeats 1000000 in
theorem rRead13_any (bd : Nat) (v : Value) (l : List FileV) (d : DiskS) (O : Nat → Prop) (n : ByteArray) (w : World) (h : RefAt w O bd v l d) (hd : OkD d) (hF : d.F.length ≤ 1000000) :
    Calls Try.prog 14 #[.pointer (some ⟨bd, 0, none⟩), .string n] w (SaysRead w d.F n) := by
  have HAT := Lib.hid (rAt13_any bd v l d O n w h hF)
  have HR := Lib.hid h
  have HAL := Lib.hid hd.all
  clear h hF hd
  go_enter Try.func14, Try.ntmps14
  go_wp2_with fail
  refine HAT.out.mono ?_
  rintro e w2 ⟨rfl, rfl⟩
  by_cases hi : atS d.F n < d.F.length
  · have hnn : decide (atI d.F n < 0) = false := by rw [decide_eq_false_iff_not, atI_nat hi]; omega
    have HAI := Lib.hid (atI_nat hi)
    obtain ⟨q0, _, _, _⟩ := HR.out.cells
    obtain ⟨a, c, rfl⟩ := HR.out.form
    obtain ⟨hnl, hnc, hcm, hcl⟩ := HR.out.own.at
    clear hnl
    unfold maxLen at hcm
    obtain ⟨lb, rfl, _, hlb, hcs, hfz⟩ := hcl (by omega)
    obtain ⟨_, c1, c2⟩ := hcs _ hi
    have hLK := HR.out.like (atS d.F n) (by rw [HR.out.len]; exact hi)
    have hbl := Nat.le_trans (b_le hi) HAL.out
    have HE : Hid (∀ b, b = (d.F.getD (atS d.F n) zfile).b → (if atS d.F n < d.F.length then (d.F.getD (atS d.F n) zfile).b else []) = b ∧ (if atS d.F n < d.F.length then (0 : Int) else 5) = 0) := fun b hb => by rw [if_pos hi, if_pos hi, hb]; exact ⟨rfl, rfl⟩
    have hixi : ((atS d.F n : Nat) : Int) < (d.F.length : Int) := by omega
    have hb0 : Below w2.heap.size w2 (w2.alloc (.cells #[] 5)) := (Below.refl _ _).alloc (Nat.le_refl _) _
    have q0' := (Below.cell (p := ⟨bd, 0, none⟩) hb0 (HR.out.lt bd HR.out.obd)).trans q0
    have c1' := (Below.cell (p := ⟨lb, atS d.F n * 3 + 1, none⟩) hb0 hlb).trans c1
    clear hb0 q0 c1 c2
    have HROW := Lib.hid (hLK.row.below ((Below.refl _ _).alloc (Nat.le_refl _) (.cells #[] 5)))
    rw [HAI.out] at hnn ⊢
    have HBL := Lib.hid hbl
    clear hcl hcs hfz hLK HAI hbl
    have HSR : Hid (∀ a m c w', Row .u8 w' w'.heap.size a m c (d.F.getD (atS d.F n) zfile).b → Below w2.heap.size w2 w' → SaysRead w2 d.F n (.returned (.tuple #[.slice a m c, .int .i64 0])) w') := fun a m c w' h1 h2 => ⟨a, m, c, 0, rfl, by rw [if_pos hi]; exact h1, by rw [if_pos hi], h2⟩
    clear HE
    generalize hb : (d.F.getD (atS d.F n) zfile).b = b at *
    clear hb
    generalize l.getD (atS d.F n) zfv = g at *
    generalize atS d.F n = ix at *
    generalize d.F.length = N at *
    go_wp2_with (at_builtin; (refine wpList_append_row rfl (.tmp 12) (.tmp 20) rfl rfl (own_none w2) rfl HROW.out (by have h1 := HBL.out; have h2 := HROW.out.1; simp only [List.length_nil]; omega) (by simp) ?_; intro v6 w6 ho6 hg6 _; obtain ⟨a6, c6, rfl, hr6⟩ := ho6.slice; have hg6' : (w2.alloc (.cells #[] 5)).grownBy w6 (some w2.heap.size) := hg6; have HB6 : Hid (Below w2.heap.size w2 w6) := ((Below.refl _ _).alloc (Nat.le_refl _) _).grown hg6' (by simp) (fun k hk => (by injection hk with hk; omega)); have HR6 := Lib.hid hr6; clear hr6 hg6' hg6 ho6))
    exact bodyPost_ret (v := .tuple #[.slice a6 _ c6, .int .i64 0]) (by simp [results, Try.results14, go_sem]) rfl (HSR.out _ _ _ _ HR6.out HB6.out)
  · have hnn : decide (atI d.F n < 0) = true := by rw [decide_eq_true_eq, atI_none hi]; omega
    have HSR : Hid (SaysRead w2 d.F n (.returned (.tuple #[.slice none 0 0, .int .i64 5])) w2) := ⟨none, 0, 0, 5, rfl, by rw [if_neg hi]; exact Row.nil _ _, by rw [if_neg hi], Below.refl _ _⟩
    generalize atI d.F n = z at *
    clear hi
    go_wp2_with fail
    exact bodyPost_ret (v := .tuple #[.slice none 0 0, .int .i64 5]) (by simp [results, Try.results14, go_sem]) rfl HSR.out
end Go.Proofs.Ytkfjbpcngmipnaa.Vm
