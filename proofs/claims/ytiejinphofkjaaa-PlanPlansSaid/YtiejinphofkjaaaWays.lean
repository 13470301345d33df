/- The contracts of grid.Ways and of the document's Ways, on grids that may be. -/
import Derived.Test.YtiejinphofkjaaaRefGoes
import Derived.Test.YtiejinphofkjaaaOwnIs
import Derived.Test.YtiejinphofkjaaaStWords
namespace Go.Proofs.Ytiejinphofkjaaa.Vm
open Go.RowKit

set_option maxRecDepth 100000 in
set_option maxHeartbeats 400000 in
theorem selected_any (fn : FuncId) (lb : Array Value) (p : Nat → Bool) (w : World) (hfn : ∀ args w, (callFunc fn args).run Try.prog w = .ok (.enter fn args) w)
    (hp : ∀ (wr : World) (k : Nat), k ≤ 4 → Below w.heap.size w wr → Calls Try.prog fn (#[.int .i64 k] ++ lb) wr fun e w' => e = .returned (.bool (p k)) ∧ Below wr.heap.size wr w') :
    Calls Try.prog 56 #[.func (.func fn) #[] lb] w (ListPost w ((List.range 5).filter p)) := by
  obtain ⟨i0, hi0, hz0, hz1, hz2⟩ := info_parts info_int
  have HP := Lib.hid hp
  clear hp
  go_enter Try.func56, Try.ntmps56
  go_wp2_with fail
  go_loopw [3, 4] (fun v i wr => ∃ (k : Nat) (out : List Nat), k ≤ 5 ∧ out.length ≤ k ∧ i = .int .i64 k ∧ OwnI wr w.heap.size v out ∧ Below w.heap.size w wr ∧ Hid (out = (List.range k).filter p)) (fun _ i _ => 5 - (intOf i).toNat)
  case atStart => exact ⟨0, [], Nat.zero_le _, Nat.le_refl _, rfl, World.ownsRow_nil _ _ _ _, Below.refl _ _, rfl⟩
  case round =>
    obtain ⟨k, out, hk, hol, rfl, hown, hbel, HO⟩ := hrel
    by_cases hlt : k < 5
    · have hcall := HP.out wr k (by omega) hbel
      have hsn := filter_snoc p k
      rw [← HO.out] at hsn
      cases hpk : p k
      · rw [hpk] at hcall
        have HCALL := Lib.hid hcall
        have HSN : Hid (out = (List.range (k + 1)).filter p) := by unfold Hid; rw [hsn, hpk]; simp
        clear hcall hsn hpk HO
        go_wp2_with fail
        refine HCALL.out.mono ?_
        rintro e w1 ⟨rfl, hb1⟩
        have hown1 : OwnI w1 w.heap.size u3 out := ownI_below hown hb1
        have hbel1 := hbel.trans (hb1.mono hbel.size)
        go_wp2_with fail
        go_roundw
        case rel => exact ⟨k + 1, out, by omega, by omega, by go_num, hown1, hbel1, HSN.out⟩
        case measure => simp [intOf]; omega
      · rw [hpk] at hcall
        have HCALL := Lib.hid hcall
        have HSN : Hid (out ++ [k] = (List.range (k + 1)).filter p) := by unfold Hid; rw [hsn, hpk]; simp
        clear hcall hsn hpk HO
        go_wp2_with fail
        refine HCALL.out.mono ?_
        rintro e w1 ⟨rfl, hb1⟩
        have hown1 : OwnI w1 w.heap.size u3 out := ownI_below hown hb1
        have hbel1 := hbel.trans (hb1.mono hbel.size)
        clear hown hbel
        go_wp2_with (at_builtin; refine wpList_append_own _ rfl (.tmp 12) (.tmp 14) 29 rfl w.heap.size 3 i0 (.int .i64 0) 1 8 Try.underlying29 hi0 hz0 hz1 hz2 rfl (by decide) _ _ _ rfl (World.ownsRow.alloc hown1 _) ⟨w1.heap.size, 0, none⟩ 1 1 [.int .i64 (k : Int)] rfl rfl (one_cell _ _ _) (by simp [Value.oneCell']) (by simp only [maxLen]; omega) (by omega) (by have := hbel1.size; simp; omega) ?_; intro v' w2 hown2 hgrow2 _)
        have RR := push_stepI rfl hown1 hbel1 (Nat.le_refl _) hown2 hgrow2
        clear hown2 hgrow2 hown1 hbel1
        go_wp2_with fail
        go_roundw
        case rel => exact ⟨k + 1, out ++ [k], by omega, by simp; omega, by go_num, RR.1, RR.2, HSN.out⟩
        case measure => simp [intOf]; omega
    · obtain rfl : k = 5 := by omega
      go_wp2_with fail
      go_ret
      rw [← HO.out]
      exact ⟨_, rfl, hown, hbel⟩

set_option maxRecDepth 100000 in
set_option maxHeartbeats 400000 in
theorem waysFit_any (W H c way : Int) (s : ByteArray) (b1 b2 : Nat) (w : World) (h : Okay W H s) (hg : GridAt w b1 W H s) (hc : w.cell? ⟨b2, 0, none⟩ = some (.int .i64 c)) :
    Calls Try.prog 57 #[.int .i64 way, .pointer (some ⟨b1, 0, none⟩), .pointer (some ⟨b2, 0, none⟩)] w fun e w' => e = .returned (.bool (goesS W H (bytesOf s) c way).2) ∧ Below w.heap.size w w' := by
  obtain ⟨g1, g2, g3⟩ := hg
  have HG := Lib.hid (goes_any W H c way s w h)
  generalize goesS W H (bytesOf s) c way = R at HG
  go_enter Try.func57, Try.ntmps57
  go_wp2_with fail
  refine HG.out.mono ?_
  rintro e w1 ⟨rfl, hb⟩
  go_wp2_with fail
  go_ret
  exact ⟨rfl, hb⟩

set_option maxRecDepth 100000 in
set_option maxHeartbeats 400000 in
theorem ways_any (W H c : Int) (s : ByteArray) (w : World) (h : Okay W H s) :
    Calls Try.prog 49 #[gridV W H s, .int .i64 c] w (ListPost w (waysS W H (bytesOf s) c)) := by
  have hB : Below w.heap.size w ((w.alloc (gridO W H s)).alloc (.cells #[.int .i64 c] 3)) := ((Below.refl _ _).alloc (Nat.le_refl _) _).alloc (by simp) _
  have HS := Lib.hid (selected_any 57 #[.pointer (some ⟨w.heap.size, 0, none⟩), .pointer (some ⟨w.heap.size + 1, 0, none⟩)] (fun way => (goesS W H (bytesOf s) c (way : Nat)).2) ((w.alloc (gridO W H s)).alloc (.cells #[.int .i64 c] 3)) (by intro args w; rfl)
    (fun wr k hk hb => waysFit_any W H c k s w.heap.size (w.heap.size + 1) wr h (GridAt.below (w := (w.alloc (gridO W H s)).alloc (.cells #[.int .i64 c] 3)) ⟨by simp, by simp, by simp⟩ hb (by simp; omega)) ((hb.cell (p := ⟨w.heap.size + 1, 0, none⟩) (by simp)).trans (by simp))))
  go_enter Try.func49, Try.ntmps49
  go_wp2_with fail
  refine HS.out.mono ?_
  rintro e w1 ⟨v, rfl, hown, hb⟩
  go_wp2_with fail
  go_ret
  exact ⟨v, rfl, hown.mono (by simp; omega), hB.trans (hb.mono hB.size)⟩

end Go.Proofs.Ytiejinphofkjaaa.Vm
