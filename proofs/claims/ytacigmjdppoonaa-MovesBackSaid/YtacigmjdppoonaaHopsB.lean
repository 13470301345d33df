/- The program's Ways: the least ways that lead there. -/
import Derived.Test.YtacigmjdppoonaaHops
namespace Go.Proofs.Ytacigmjdppoonaa.Vm
open Go Go.RowKit
set_option maxRecDepth 100000

/-- What a call that tells a slice of ints and an error leaves. -/
def HopPost (w : World) (P : List Int → Int → Prop) (e : Ending) (w' : World) : Prop :=
  ∃ a n c l x, e = .returned (.tuple #[.slice a n c, .int .i64 x]) ∧ P l x ∧ l.length = n ∧ OwnZ w' w.heap.size (.slice a n c) l ∧ Below w.heap.size w w'
theorem hop_none {w w' : World} {P : List Int → Int → Prop} {x : Int} (hP : P [] x) (hb : Below w.heap.size w w') : HopPost w P (.returned (.tuple #[.slice none 0 0, .int .i64 x])) w' :=
  ⟨none, 0, 0, [], x, rfl, hP, rfl, World.ownsRow_nil _ _ _ _, hb⟩
theorem ownZ_one (w : World) (x : Int) : RowZ .i64 (w.alloc (.cells #[.int .i64 x] 3)) (w.heap.size + 1) (some ⟨w.heap.size, 0, none⟩) 1 1 [x] :=
  ⟨rfl, Nat.le_refl _, by simp [maxLen], fun _ => ⟨w.heap.size, 0, rfl, Nat.lt_succ_self _, fun i hi => by
    obtain rfl : i = 0 := by omega
    simp⟩⟩
section
variable {W H : Int} {l : List Nat} {fr to' : List Int} {k : Nat}
theorem waysK_succ : waysK W H l fr to' (k + 1) = waysK W H l fr to' k ++ [wayI W H l (fr.getD k 0) (to'.getD k 0)] := by
  unfold waysK; rw [List.range_succ, List.map_append]; rfl
theorem goK_succ : goK W H l fr to' (k + 1) = goK W H l fr to' k ++ [(goesS W H l (fr.getD k 0) (to'.getD k 0)).1] := by
  unfold goK; rw [List.range_succ, List.map_append]; rfl
theorem waysP_succ (h : WaysP W H l fr to' k) (h1 : 0 ≤ wayI W H l (fr.getD k 0) (to'.getD k 0)) : WaysP W H l fr to' (k + 1) := fun i hi => by
  by_cases e : i = k
  · subst e; exact h1
  · exact h i (by omega)
theorem goP_succ (h : GoP W H l fr to' k) (h1 : (goesS W H l (fr.getD k 0) (to'.getD k 0)).2 = true) : GoP W H l fr to' (k + 1) := fun i hi => by
  by_cases e : i = k
  · subst e; exact h1
  · exact h i (by omega)
end

set_option maxHeartbeats 400000 in
theorem mWays_len (W H : Int) (g : ByteArray) (a1 a2 : Option Addr) (n1 c1 n2 c2 : Nat) (w : World) (hne : n1 ≠ n2) :
    Calls Try.prog 8 #[gridV W H g, .slice a1 n1 c1, .slice a2 n2 c2] w fun e w' => e = .returned (.tuple #[.slice none 0 0, .int .i64 1]) ∧ Below w.heap.size w w' := by
  have e0 : ((n1 : Int) != (n2 : Int)) = true := by rw [bne_iff_ne]; omega
  have HB : Hid (Below w.heap.size w (w.alloc (gridO W H g))) := (Below.refl _ _).alloc (Nat.le_refl _) _
  clear hne
  go_enter Try.func8, Try.ntmps8
  go_wp2_with fail
  go_ret2
  exact ⟨rfl, HB.out⟩

set_option maxHeartbeats 2000000 in
theorem mWays_any (W H : Int) (g : ByteArray) (a1 a2 : Option Addr) (n1 c1 n2 c2 B : Nat) (fr to' : List Int) (w : World) (hok : Okay W H g) (h1 : RowZ .i64 w B a1 n1 c1 fr) (h2 : RowZ .i64 w B a2 n2 c2 to') (hB : B ≤ w.heap.size) (hn : n1 ≤ 100000) :
    Calls Try.prog 8 #[gridV W H g, .slice a1 n1 c1, .slice a2 n2 c2] w (HopPost w (WaysOut W H (bytesOf g) fr to')) := by
  have hl1 := h1.1
  have hl2 := h2.1
  by_cases hne : n1 ≠ n2
  · exact (mWays_len W H g a1 a2 n1 c1 n2 c2 w hne).mono fun e w' ⟨he, hb⟩ => by
      rw [he]
      exact hop_none (.inr ⟨fun h => hne (by omega), rfl, rfl⟩) hb
  obtain rfl : n1 = n2 := Classical.byContradiction hne
  have e0 : ((n1 : Int) != (n1 : Int)) = false := by simp
  obtain ⟨w1, hw1⟩ : ∃ w1, w1 = w.alloc (gridO W H g) := ⟨_, rfl⟩
  have hb1 : Below w.heap.size w w1 := by rw [hw1]; exact (Below.refl _ _).alloc (Nat.le_refl _) _
  have hz1 : w1.heap.size = w.heap.size + 1 := by rw [hw1]; simp
  have hg1 : GridAt w1 w.heap.size W H g := by rw [hw1]; exact gridAt_new w W H g
  obtain ⟨w2, hw2⟩ : ∃ w2, w2 = w1.alloc (.cells ⟨intsZ (List.replicate n1 0)⟩ 3) := ⟨_, rfl⟩
  have hmk := make_room w1 n1 (by omega)
  have ho2 : OwnZ w2 (w.heap.size + 1) (.slice (some ⟨w.heap.size + 1, 0, none⟩) 0 n1) [] := by rw [hw2, ← hz1]; exact ownZ_room w1 n1 (by omega)
  have hb2 : Below (w.heap.size + 1) w1 w2 := by rw [hw2]; exact (Below.refl _ _).alloc (by omega) _
  rw [← hw2, hz1, hw1] at hmk
  have HG1 := Lib.hid hg1
  have HC1 := Lib.hid fun h => h1.cells h
  have HC2 := Lib.hid fun h => h2.cells h
  have hc1 := h1.2.1
  have hc2 := h2.2.1
  have hx1 := h1.2.2.1
  have hx2 := h2.2.2.1
  unfold maxLen at hx1 hx2
  have HL1 := Lib.hid hl1
  have HL2 := Lib.hid hl2
  have HB := Lib.hid hB
  have HB1 := Lib.hid hb1
  have HB2 := Lib.hid hb2
  have HO2 := Lib.hid ho2
  have HZ1 := Lib.hid hz1
  have HLD := Lib.hid fun (a t : Int) V => leading_any W H a t g V hok
  clear hw1 hw2 hb1 hb2 hz1 hg1 ho2 hl1 hl2 h1 h2 hB hok hne
  go_enter Try.func8, Try.ntmps8
  go_wp2_with fail
  clear hmk
  go_loopw [8, 23] (fun v i wr => ∃ k : Nat, k ≤ n1 ∧ i = .int .i64 k ∧ Hid (OwnZ wr (w.heap.size + 1) v (waysK W H (bytesOf g) fr to' k)) ∧ Hid (WaysP W H (bytesOf g) fr to' k) ∧ Hid (Below (w.heap.size + 1) w1 wr)) (fun _ i _ => n1 - (intOf i).toNat)
  case atStart => exact ⟨0, Nat.zero_le _, rfl, HO2.out, fun i hi => absurd hi (Nat.not_lt_zero _), HB2.out⟩
  case round =>
    obtain ⟨k, hk, rfl, HO, HP, HBB⟩ := hrel
    have HBW : Hid (Below w.heap.size w wr) := HB1.out.trans (HBB.out.mono (by omega))
    by_cases hlt : k < n1
    · obtain ⟨b1, o1, rfl, hb1, hq1⟩ := HC1.out (by omega)
      obtain ⟨b2, o2, rfl, hb2, hq2⟩ := HC2.out (by omega)
      have hlt1 : b1 < w.heap.size := by have := HB.out; omega
      have hlt2 : b2 < w.heap.size := by have := HB.out; omega
      have hr1 : wr.cell? ⟨b1, o1 + k, none⟩ = some (.int .i64 (fr.getD k 0)) := (HBW.out.cell (p := ⟨b1, o1 + k, none⟩) hlt1).trans (hq1 k hlt)
      have hr2 : wr.cell? ⟨b2, o2 + k, none⟩ = some (.int .i64 (to'.getD k 0)) := (HBW.out.cell (p := ⟨b2, o2 + k, none⟩) hlt2).trans (hq2 k hlt)
      have hltg : b2 < wr.heap.size := Nat.lt_of_lt_of_le hlt2 HBW.out.size
      have hgg : w.heap.size < wr.heap.size := by have := HBB.out.size; have := HZ1.out; omega
      have HGR := Lib.hid (HG1.out.below HBB.out (Nat.lt_succ_self _))
      have HK : Hid (∀ V, Kept wr V → (Kept wr V ∧ (V.cell? ⟨w.heap.size, 0, none⟩ = some (.int .i64 W) ∧ V.cell? ⟨w.heap.size, 1, none⟩ = some (.int .i64 H) ∧ V.cell? ⟨w.heap.size, 2, none⟩ = some (.string g)) ∧ V.cell? ⟨b2, o2 + k, none⟩ = some (.int .i64 (to'.getD k 0)))) := fun V hV =>
        ⟨hV, HGR.out.below hV hgg, (Below.cell (p := ⟨b2, o2 + k, none⟩) hV hltg).trans hr2⟩
      have HLK := Lib.hid (HLD.out (fr.getD k 0) (to'.getD k 0))
      have HWS : Hid (waysK W H (bytesOf g) fr to' (k + 1) = waysK W H (bytesOf g) fr to' k ++ [wayI W H (bytesOf g) (fr.getD k 0) (to'.getD k 0)]) := waysK_succ
      have HPS := Lib.hid fun h => waysP_succ (W := W) (H := H) (l := bytesOf g) HP.out h
      have HPN : Hid (¬ 0 ≤ wayI W H (bytesOf g) (fr.getD k 0) (to'.getD k 0) → ¬ WaysP W H (bytesOf g) fr to' n1) := fun h h' => h (h' k hlt)
      obtain ⟨P, hP⟩ : ∃ P, leadP W H (bytesOf g) (fr.getD k 0) (to'.getD k 0) = P := ⟨_, rfl⟩
      have HLY := Lib.hid (lead_yes (W := W) (H := H) (l := bytesOf g) (a := fr.getD k 0) (t := to'.getD k 0))
      have HLN := Lib.hid (lead_no (W := W) (H := H) (l := bytesOf g) (a := fr.getD k 0) (t := to'.getD k 0))
      rw [hP] at HLK HLY HLN
      obtain ⟨p1, p2⟩ := P
      simp only [] at HLY HLN HLK
      generalize wayI W H (bytesOf g) (fr.getD k 0) (to'.getD k 0) = N at HWS HPS HPN HLY HLN
      generalize fr.getD k 0 = x1 at hr1 HLK hP
      generalize to'.getD k 0 = x2 at hr2 HK HLK hP
      have kk : Kept wr wr := Kept.refl _
      obtain ⟨_, ⟨g0, g1, g2⟩, _⟩ := HK.out wr kk
      clear hq1 hq2 hP hlt1 hlt2 hltg hgg
      go_wp2_with fail
      go_region_held3 (fun V => Kept wr V ∧ (V.cell? ⟨w.heap.size, 0, none⟩ = some (.int .i64 W) ∧ V.cell? ⟨w.heap.size, 1, none⟩ = some (.int .i64 H) ∧ V.cell? ⟨w.heap.size, 2, none⟩ = some (.string g)) ∧ V.cell? ⟨b2, o2 + k, none⟩ = some (.int .i64 x2))
        (first | exact HK.out _ (by assumption) | exact HK.out _ (Kept.drew (by assumption)))
        (first | (go_at_call 21; refine (HLK.out _).mono ?_; rintro e wa ⟨rfl, hba⟩; have ka : Kept wr wa := Below.trans (by first | exact kk | exact Kept.drew kk) (Below.mono hba (by first | exact Nat.le_refl _ | exact Below.size kk))))
      have HBA : Hid (Below (w.heap.size + 1) w1 wa) := HBB.out.trans (Below.mono ka (by have := HBB.out.size; have := HZ1.out; omega))
      have HOA := Lib.hid (HO.out.calls ka)
      clear ka kk hba g0 g1 g2 hr1 hr2
      cases p2 with
      | false =>
        have HN : Hid (¬ WaysP W H (bytesOf g) fr to' n1) := HPN.out (HLN.out (by first | rfl | trivial))
        have HBF : Hid (Below w.heap.size w wa) := HB1.out.trans (HBA.out.mono (by omega))
        go_wp2_with fail
        go_ret2
        refine hop_none (.inr ⟨fun h => HN.out ?_, rfl, rfl⟩) HBF.out
        have := h.2
        rwa [HL1.out] at this
      | true =>
        obtain ⟨hN0, rfl⟩ := HLY.out (by first | rfl | trivial)
        have HP2 := Lib.hid (HPS.out hN0)
        clear hN0
        have HAL := Lib.hid fun o => HBA.out.alloc (by have := HBA.out.size; have := HZ1.out; omega) o
        have HLEN : Hid ((waysK W H (bytesOf g) fr to' k).length = k) := waysK_len _ _ _
        go_wp2_with (at_builtin; refine wpList_append_z rfl (.tmp 40) (.tmp 42) rfl rfl (World.ownsRow.alloc HOA.out _) rfl (ownZ_one wa p1) (by rw [HLEN.out]; simp; omega) (by have := (HAL.out (.cells #[.int .i64 p1] 3)).size; have := HZ1.out; omega) ?_; intro v4 w4 hown4 hb4)
        rw [← HWS.out] at hown4
        have HO4 := Lib.hid hown4
        have HB4 := Lib.hid ((HAL.out _).trans hb4)
        clear hown4 hb4
        go_wp2_with fail
        go_roundw
        case rel => exact ⟨k + 1, by omega, by go_num, HO4.out, HP2.out, HB4.out⟩
        case measure => simp [intOf]; omega
    · obtain rfl : k = n1 := by omega
      obtain ⟨av, cv, rfl, _⟩ := HO.out.sliced (waysK_len _ _ _)
      go_wp2_with fail
      go_ret2
      refine ⟨av, k, cv, _, 0, rfl, .inl ⟨by rw [HL1.out, HL2.out], by rw [HL1.out]; exact HP.out, rfl, rfl⟩, by rw [HL1.out]; exact waysK_len _ _ _, ?_, HBW.out⟩
      rw [HL1.out]
      exact HO.out.lower (by omega)
end Go.Proofs.Ytacigmjdppoonaa.Vm
