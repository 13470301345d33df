/- The contracts of grid.Of and of the document's Of, on grids that may be. -/
import Derived.Test.YtiejinphofkjaaaOwnIs
import Derived.Test.YtiejinphofkjaaaStWords
import Derived.Test.YtiejinphofkjaaaGoes
import Derived.Test.YtiejinphofkjaaaRights
import Derived.Test.YtiejinphofkjaaaParses
namespace Go.Proofs.Ytiejinphofkjaaa.Vm
open Go.RowKit

set_option maxRecDepth 100000 in
set_option maxHeartbeats 400000 in
theorem of_any (W H : Int) (x : Nat) (s : ByteArray) (w : World) (h : Okay W H s) (hx : x < 256) :
    Calls Try.prog 54 #[gridV W H s, .int .u8 (x : Nat)] w (ListPost w (ofS (bytesOf s) x)) := by
  obtain ⟨i0, hi0, hz0, hz1, hz2⟩ := info_parts info_int
  have hle := h.le
  have HOK := Lib.hid h
  have hB : Below w.heap.size w (w.alloc (gridO W H s)) := (Below.refl _ _).alloc (Nat.le_refl _) _
  have hof : ofS (bytesOf s) x = (List.range s.size).filter fun i => (bytesOf s).getD i 0 == x := by unfold ofS; rw [bytesOf_len]
  rw [hof]
  generalize hp : (fun i => (bytesOf s).getD i 0 == x) = p
  have HPE := Lib.hid hp
  clear hp h hof
  go_enter Try.func54, Try.ntmps54
  go_wp2_with fail
  go_loopw [5] (fun v wr => ∃ (k : Nat) (out : List Nat), k ≤ s.size ∧ out.length ≤ k ∧ wr.heap[w.heap.size + 1]? = some (.stringIter s k) ∧ OwnI wr w.heap.size v out ∧ Below w.heap.size w wr ∧ Hid (out = (List.range k).filter p)) (fun _ wr => s.size - wr.iterPos (w.heap.size + 1))
  case atStart => exact ⟨0, [], Nat.zero_le _, Nat.le_refl _, iter_there _ _ _ (by simp), World.ownsRow_nil _ _ _ _, below_iter' hB s 0, rfl⟩
  case round =>
    obtain ⟨k, out, hk, hol, hit, hown, hbel, HO⟩ := hrel
    have hpos : wr.iterPos (w.heap.size + 1) = k := by simp [World.iterPos, hit]
    have HPOS := Lib.hid hpos
    clear hpos
    by_cases hlt : k < s.size
    · have hat := bytesOf_at s k hlt
      have ha : (s[k]'hlt).toNat < 128 := letterS_lt (HOK.out.at hlt)
      have hnx := fun ty => Lib.run_next_ascii_at (P := Try.prog) wr (w.heap.size + 1) s k ty hit hlt ha
      generalize (s[k]'hlt).toNat = c at hat hnx ha
      have hsn := filter_snoc p k
      have hpk : p k = decide (c = x) := by rw [← HPE.out]; simp only []; rw [hat]; rfl
      rw [← HO.out, hpk] at hsn
      have hit2 := Lib.iterAt_heap wr _ s k (k + 1) hit
      have hown2 : OwnI (wr.iterAt (w.heap.size + 1) s (k + 1)) w.heap.size u5 out := own_iterAt hown hit _
      have hbel2 : Below w.heap.size w (wr.iterAt (w.heap.size + 1) s (k + 1)) := Lib.below_iterAt hbel (by omega) _ _
      have HNX := Lib.hid hnx
      clear hnx hown hbel hit HO hat hpk
      generalize hwi : wr.iterAt (w.heap.size + 1) s (k + 1) = wi at HNX hit2 hown2 hbel2
      have HWI := Lib.hid hwi
      have hnx := HNX.out
      clear HNX hwi
      have hitlt : w.heap.size + 1 < wi.heap.size := (Array.getElem?_eq_some_iff.1 hit2).1
      by_cases hcx : c = x
      · subst hcx
        have HSN : Hid (out ++ [k] = (List.range (k + 1)).filter p) := by unfold Hid; rw [hsn]; simp
        clear hsn
        go_wp2_with (at_builtin; refine wpList_append_own _ rfl (.tmp 19) (.tmp 21) 29 rfl w.heap.size 3 i0 (.int .i64 0) 1 8 Try.underlying29 hi0 hz0 hz1 hz2 rfl (by decide) _ _ _ rfl (World.ownsRow.alloc hown2 _) ⟨wi.heap.size, 0, none⟩ 1 1 [.int .i64 (k : Int)] rfl rfl (one_cell _ _ _) (by simp [Value.oneCell']) (by simp only [maxLen]; omega) (by omega) (by simp; omega) ?_; intro v' w3 hown3 hgrow3 _)
        have RR := push_stepI rfl hown2 hbel2 (Nat.le_refl _) hown3 hgrow3
        have hit3 : w3.heap[w.heap.size + 1]? = some (.stringIter s (k + 1)) := (hgrow3.block _ (by simp; omega) (own_ne_iter hown2 hit2)).trans ((heap_keep hitlt).trans hit2)
        clear hown3 hgrow3 hown2 hbel2
        go_wp2_with fail
        go_roundw
        case rel => exact ⟨k + 1, out ++ [k], by omega, by simp; omega, hit3, RR.1, RR.2, HSN.out⟩
        case measure => rw [World.iterPos, hit3, HPOS.out]; simp only []; omega
      · have e0 : ((c : Int) == (x : Int)) = false := by rw [beq_eq_false_iff_ne]; omega
        have HSN : Hid (out = (List.range (k + 1)).filter p) := by unfold Hid; rw [hsn, decide_eq_false hcx]; simp
        clear hsn hcx
        go_wp2_with fail
        go_roundw
        case rel => exact ⟨k + 1, out, by omega, by omega, hit2, hown2, hbel2, HSN.out⟩
        case measure => rw [World.iterPos, hit2, HPOS.out]; simp only []; omega
    · have hnx := fun ty => Lib.run_next_end_at (P := Try.prog) wr (w.heap.size + 1) s k ty hit hlt
      obtain rfl : k = s.size := by omega
      go_wp2_with fail
      go_ret
      rw [← HO.out]
      exact ⟨_, rfl, hown, hbel⟩

set_option maxRecDepth 100000 in
set_option maxHeartbeats 400000 in
theorem rof_any (W H : Int) (x : Nat) (s : ByteArray) (w : World) (h : Okay W H s) :
    Calls Try.prog 46 #[gridV W H s, .int .u8 (x : Nat)] w (ListPost w (ofS (bytesOf s) x)) := by
  obtain ⟨i0, hi0, hz0, hz1, hz2⟩ := info_parts info_int
  have hle := h.le
  have hB : Below w.heap.size w (w.alloc (gridO W H s)) := (Below.refl _ _).alloc (Nat.le_refl _) _
  have hof : ofS (bytesOf s) x = (List.range s.size).filter fun i => (bytesOf s).getD i 0 == x := by unfold ofS; rw [bytesOf_len]
  rw [hof]
  generalize hp : (fun i => (bytesOf s).getD i 0 == x) = p
  have HPE := Lib.hid hp
  clear hp h hof
  go_enter Try.func46, Try.ntmps46
  go_wp2_with fail
  go_loopw [5, 6] (fun v i wr => ∃ (k : Nat) (out : List Nat), k ≤ s.size ∧ out.length ≤ k ∧ i = .int .i64 k ∧ OwnI wr (w.heap.size + 1) v out ∧ Below (w.heap.size + 1) (w.alloc (gridO W H s)) wr ∧ Hid (out = (List.range k).filter p)) (fun _ i _ => s.size - (intOf i).toNat)
  case atStart => exact ⟨0, [], Nat.zero_le _, Nat.le_refl _, rfl, World.ownsRow_nil _ _ _ _, Below.refl _ _, rfl⟩
  case round =>
    obtain ⟨k, out, hk, hol, rfl, hown, hbel, HO⟩ := hrel
    obtain ⟨g1, g2, g3⟩ := (gridAt_new w W H s).below hbel (by omega)
    have hsz := hbel.size
    by_cases hlt : k < s.size
    · have hat := bytesOf_at s k hlt
      have hsn := filter_snoc p k
      have hpk : p k = decide ((s[k]'hlt).toNat = x) := by rw [← HPE.out]; simp only []; rw [hat]; rfl
      rw [← HO.out, hpk] at hsn
      by_cases hcx : (s[k]'hlt).toNat = x
      · have e0 : (((s[k]'hlt).toNat : Int) == (x : Int)) = true := by rw [beq_iff_eq]; omega
        have HSN : Hid (out ++ [k] = (List.range (k + 1)).filter p) := by unfold Hid; rw [hsn, decide_eq_true hcx]; simp
        clear hsn hpk hat hcx HO
        go_wp2_with (at_builtin; refine wpList_append_own _ rfl (.tmp 20) (.tmp 22) 29 rfl (w.heap.size + 1) 3 i0 (.int .i64 0) 1 8 Try.underlying29 hi0 hz0 hz1 hz2 rfl (by decide) _ _ _ rfl (World.ownsRow.alloc hown _) ⟨wr.heap.size, 0, none⟩ 1 1 [.int .i64 (k : Int)] rfl rfl (one_cell _ _ _) (by simp [Value.oneCell']) (by simp only [maxLen]; omega) (by omega) (by simp at hsz ⊢; omega) ?_; intro v' w3 hown3 hgrow3 _)
        have RR := push_stepI rfl hown hbel (by simp) hown3 hgrow3
        clear hown3 hgrow3 hown hbel
        go_wp2_with fail
        go_roundw
        case rel => exact ⟨k + 1, out ++ [k], by omega, by simp; omega, by go_num, RR.1, RR.2, HSN.out⟩
        case measure => simp [intOf]; omega
      · have e0 : (((s[k]'hlt).toNat : Int) == (x : Int)) = false := by rw [beq_eq_false_iff_ne]; omega
        have HSN : Hid (out = (List.range (k + 1)).filter p) := by unfold Hid; rw [hsn, decide_eq_false hcx]; simp
        clear hsn hpk hat hcx HO
        go_wp2_with fail
        go_roundw
        case rel => exact ⟨k + 1, out, by omega, by omega, by go_num, hown, hbel, HSN.out⟩
        case measure => simp [intOf]; omega
    · obtain rfl : k = s.size := by omega
      go_wp2_with fail
      go_ret
      rw [← HO.out]
      exact ⟨_, rfl, hown.mono (by omega), hB.trans (hbel.mono (by omega))⟩
end Go.Proofs.Ytiejinphofkjaaa.Vm
