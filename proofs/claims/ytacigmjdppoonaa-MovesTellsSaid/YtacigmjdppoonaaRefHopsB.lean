/- The document's Ways of layer 12. -/
import Derived.Test.YtacigmjdppoonaaRefHops
namespace Go.Proofs.Ytacigmjdppoonaa.Vm
open Go Go.RowKit
set_option maxRecDepth 100000

/-- The least direction that leads there among the last d. -/
def wayF (W H : Int) (l : List Nat) (c t : Int) : Nat → Int
  | 0 => -1
  | d + 1 => if goesS W H l c ((4 - d : Nat) : Int) = (t, true) then ((4 - d : Nat) : Int) else wayF W H l c t d
theorem wayF_all (W H : Int) (l : List Nat) (c t : Int) : wayF W H l c t 5 = wayI W H l c t := rfl

set_option maxHeartbeats 2000000 in
theorem rWays12_any (W H : Int) (g : ByteArray) (a1 a2 : Option Addr) (n1 c1 n2 c2 B : Nat) (fr to' : List Int) (w : World) (hok : Okay W H g) (h1 : RowZ .i64 w B a1 n1 c1 fr) (h2 : RowZ .i64 w B a2 n2 c2 to') (hB : B ≤ w.heap.size) (hn : n1 ≤ 100000) :
    Calls Try.prog 9 #[gridV W H g, .slice a1 n1 c1, .slice a2 n2 c2] w (HopPost w (WaysOut W H (bytesOf g) fr to')) := by
  have hl1 := h1.1
  have hl2 := h2.1
  by_cases hne : n1 ≠ n2
  · exact (rWays12_len W H g a1 a2 n1 c1 n2 c2 w hne).mono fun e w' ⟨he, hb⟩ => by
      rw [he]
      exact hop_none (.inr ⟨fun h => hne (by omega), rfl, rfl⟩) hb
  obtain rfl : n1 = n2 := Classical.byContradiction hne
  have e0 : ((n1 : Int) != (n1 : Int)) = false := by simp
  obtain ⟨w1, hw1⟩ : ∃ w1, w1 = w.alloc (gridO W H g) := ⟨_, rfl⟩
  have hb1 : Below w.heap.size w w1 := by rw [hw1]; exact (Below.refl _ _).alloc (Nat.le_refl _) _
  have hz1 : w1.heap.size = w.heap.size + 1 := by rw [hw1]; simp
  have hg1 : GridAt w1 w.heap.size W H g := by rw [hw1]; exact gridAt_new w W H g
  have HG1 := Lib.hid hg1
  have HC1 := Lib.hid fun h => h1.cells h
  have HC2 := Lib.hid fun h => h2.cells h
  have hc1 := h1.2.1
  have hc2 := h2.2.1
  have hx1 := h1.2.2.1
  have hx2 := h2.2.2.1
  unfold maxLen at hx1 hx2
  have HL1 := Lib.hid hl1
  have HL2 := Lib.hid hl2
  have HB := Lib.hid hB
  have HB1 := Lib.hid hb1
  have HZ1 := Lib.hid hz1
  have HW1 := Lib.hid hw1
  have HGO := Lib.hid fun (a t : Int) V => rgoes_any W H a t g V hok
  clear hw1 hb1 hz1 hg1 hl1 hl2 h1 h2 hB hok hne
  go_enter Try.func9, Try.ntmps9
  go_wp2_with fail
  rw [← HW1.out]
  go_loopg [8, 9] n1 (fun gg v i wr => ∃ k : Nat, k + gg = n1 ∧ i = .int .i64 k ∧ Hid (OwnZ wr (w.heap.size + 1) v (waysK W H (bytesOf g) fr to' k)) ∧ Hid (WaysP W H (bytesOf g) fr to' k) ∧ Hid (Below (w.heap.size + 1) w1 wr))
  case atStart => exact ⟨0, by omega, rfl, World.ownsRow_nil _ _ _ _, fun i hi => absurd hi (Nat.not_lt_zero _), Below.refl _ _⟩
  case round =>
    obtain ⟨k, hk, rfl, HO, HP, HBB⟩ := hrel
    have HBW : Hid (Below w.heap.size w wr) := HB1.out.trans (HBB.out.mono (by omega))
    by_cases hlt : k < n1
    · obtain ⟨b1, o1, rfl, hb1, hq1⟩ := HC1.out (by omega)
      obtain ⟨b2, o2, rfl, hb2, hq2⟩ := HC2.out (by omega)
      have hlt1 : b1 < w.heap.size := by have := HB.out; omega
      have hlt2 : b2 < w.heap.size := by have := HB.out; omega
      have HR1 : Hid (∀ V, Below (w.heap.size + 1) w1 V → V.cell? ⟨b1, o1 + k, none⟩ = some (.int .i64 (fr.getD k 0)) ∧ V.cell? ⟨b2, o2 + k, none⟩ = some (.int .i64 (to'.getD k 0))) := fun V hV => by
        have hb : Below w.heap.size w V := HB1.out.trans (hV.mono (by omega))
        exact ⟨(hb.cell (p := ⟨b1, o1 + k, none⟩) hlt1).trans (hq1 k hlt), (hb.cell (p := ⟨b2, o2 + k, none⟩) hlt2).trans (hq2 k hlt)⟩
      have HLK := Lib.hid (HGO.out (fr.getD k 0))
      have HWS : Hid (waysK W H (bytesOf g) fr to' (k + 1) = waysK W H (bytesOf g) fr to' k ++ [wayI W H (bytesOf g) (fr.getD k 0) (to'.getD k 0)]) := waysK_succ
      have HPS := Lib.hid fun h => waysP_succ (W := W) (H := H) (l := bytesOf g) HP.out h
      have HPN : Hid (¬ 0 ≤ wayI W H (bytesOf g) (fr.getD k 0) (to'.getD k 0) → ¬ WaysP W H (bytesOf g) fr to' n1) := fun h h' => h (h' k hlt)
      have HLT := Lib.hid hlt
      have HLL := Lib.hid (And.intro hlt1 hlt2)
      clear hq1 hq2 hlt1 hlt2
      generalize fr.getD k 0 = x1 at HR1 HLK HWS HPS HPN
      generalize to'.getD k 0 = x2 at HR1 HWS HPS HPN
      go_wp2_with fail
      go_loopg [10, 11] 5 (fun g2 v10 v11 V => ∃ (d : Nat) (m y : Int), d + g2 = 5 ∧ v11 = .int .i64 m ∧ v10 = .int .i64 y ∧ Hid (m = 4 - (d : Int)) ∧ Hid (y = wayF W H (bytesOf g) x1 x2 d) ∧ Hid (OwnZ V (w.heap.size + 1) u8 (waysK W H (bytesOf g) fr to' k)) ∧ Hid (Below (w.heap.size + 1) w1 V))
      case atStart => exact ⟨0, 4, -1, rfl, rfl, rfl, rfl, rfl, HO, HBB⟩
      case round =>
        obtain ⟨d, m, y, hd, rfl, rfl, HMD, HYF, HO2, HB2⟩ := hrel
        have hm4 : m ≤ 4 ∧ -1 ≤ m := by have := HMD.out; omega
        by_cases hd5 : d < 5
        · have hm : 0 ≤ m := by have := HMD.out; omega
          have e1 : decide (m ≥ 0) = true := by rw [decide_eq_true_eq]; exact hm
          have e9 : IntKind.i64.wrap (m - 1) = m - 1 := by simp only [IntKind.wrap_i64]; omega
          obtain ⟨hr1, hr2⟩ := HR1.out wr HB2.out
          have hgg : w.heap.size < wr.heap.size := by have := HB2.out.size; have := HZ1.out; omega
          have hltg1 : b1 < wr.heap.size := by have := HLL.out; omega
          have hltg : b2 < wr.heap.size := by have := HLL.out; omega
          have HGR := Lib.hid (HG1.out.below HB2.out (Nat.lt_succ_self _))
          have HK : Hid (∀ V, Kept wr V → (Kept wr V ∧ (V.cell? ⟨w.heap.size, 0, none⟩ = some (.int .i64 W) ∧ V.cell? ⟨w.heap.size, 1, none⟩ = some (.int .i64 H) ∧ V.cell? ⟨w.heap.size, 2, none⟩ = some (.string g)) ∧ V.cell? ⟨b1, o1 + k, none⟩ = some (.int .i64 x1))) := fun V hV =>
            ⟨hV, HGR.out.below hV hgg, (Below.cell (p := ⟨b1, o1 + k, none⟩) hV hltg1).trans hr1⟩
          have HK2 : Hid (∀ V, Kept wr V → V.cell? ⟨b2, o2 + k, none⟩ = some (.int .i64 x2)) := fun V hV => (Below.cell (p := ⟨b2, o2 + k, none⟩) hV hltg).trans hr2
          have HLC := Lib.hid (HLK.out m)
          have HWF : Hid (wayF W H (bytesOf g) x1 x2 (d + 1) = if goesS W H (bytesOf g) x1 m = (x2, true) then m else y) := by
            unfold Hid
            rw [HYF.out, HMD.out]
            have : (4 : Int) - (d : Int) = ((4 - d : Nat) : Int) := by omega
            rw [this]; rfl
          obtain ⟨P, hP⟩ : ∃ P, goesS W H (bytesOf g) x1 m = P := ⟨_, rfl⟩
          rw [hP] at HLC HWF
          obtain ⟨p1, p2⟩ := P
          have kk : Kept wr wr := Kept.refl _
          obtain ⟨_, ⟨g0, g1, g2⟩, _⟩ := HK.out wr kk
          clear hP hgg hltg hltg1 hr2
          go_wp2_with fail
          go_region_held3 (fun V => Kept wr V ∧ (V.cell? ⟨w.heap.size, 0, none⟩ = some (.int .i64 W) ∧ V.cell? ⟨w.heap.size, 1, none⟩ = some (.int .i64 H) ∧ V.cell? ⟨w.heap.size, 2, none⟩ = some (.string g)) ∧ V.cell? ⟨b1, o1 + k, none⟩ = some (.int .i64 x1))
            (first | exact HK.out _ (by assumption) | exact HK.out _ (Kept.drew (by assumption)))
            (first | (go_at_call 22; refine (HLC.out _).mono ?_; rintro e wa ⟨rfl, hba⟩; have ka : Kept wr wa := Below.trans (by first | exact kk | exact Kept.drew kk) (Below.mono hba (by first | exact Nat.le_refl _ | exact Below.size kk))))
          have HBA : Hid (Below (w.heap.size + 1) w1 wa) := HB2.out.trans (Below.mono ka (by have := HB2.out.size; have := HZ1.out; omega))
          have HOA := Lib.hid (HO2.out.calls ka)
          have hr2 := HK2.out wa ka
          clear ka kk hba g0 g1 g2 hr1
          cases p2 with
          | false =>
            have HY : Hid (y = wayF W H (bytesOf g) x1 x2 (d + 1)) := by unfold Hid; rw [HWF.out, if_neg (by intro h; injection h with _ h; cases h)]
            go_wp2_with fail
            go_roundg (gk - 1)
            case rel => exact ⟨d + 1, m - 1, y, by omega, rfl, rfl, by have := HMD.out; unfold Hid; omega, HY, HOA, HBA⟩
            case measure => omega
          | true =>
            by_cases hpt : p1 = x2
            · have e2 : (p1 == x2) = true := by simpa using hpt
              have HY : Hid (m = wayF W H (bytesOf g) x1 x2 (d + 1)) := by unfold Hid; rw [HWF.out, if_pos (by rw [hpt])]
              clear hpt
              go_wp2_with fail
              go_roundg (gk - 1)
              case rel => exact ⟨d + 1, m - 1, m, by omega, rfl, rfl, by have := HMD.out; unfold Hid; omega, HY, HOA, HBA⟩
              case measure => omega
            · have e2 : (p1 == x2) = false := by simpa using hpt
              have HY : Hid (y = wayF W H (bytesOf g) x1 x2 (d + 1)) := by unfold Hid; rw [HWF.out, if_neg (by intro h; injection h with h _; exact hpt h)]
              clear hpt
              go_wp2_with fail
              go_roundg (gk - 1)
              case rel => exact ⟨d + 1, m - 1, y, by omega, rfl, rfl, by have := HMD.out; unfold Hid; omega, HY, HOA, HBA⟩
              case measure => omega
        · obtain rfl : d = 5 := by omega
          have hm : ¬ 0 ≤ m := by have := HMD.out; omega
          have e1 : decide (m ≥ 0) = false := by rw [decide_eq_false_iff_not]; exact hm
          have HYI : Hid (y = wayI W H (bytesOf g) x1 x2) := HYF.out
          have hyi := HYF.out
          rw [wayF_all] at hyi
          have HBF : Hid (Below w.heap.size w wr) := HB1.out.trans (HB2.out.mono (by omega))
          by_cases hy0 : 0 ≤ y
          · have e2 : decide (y < 0) = false := by rw [decide_eq_false_iff_not]; omega
            have HP2 : Hid (WaysP W H (bytesOf g) fr to' (k + 1)) := HPS.out (by rw [← hyi]; exact hy0)
            have HWS2 : Hid (waysK W H (bytesOf g) fr to' (k + 1) = waysK W H (bytesOf g) fr to' k ++ [y]) := by unfold Hid; rw [HWS.out, hyi]
            have HAL := Lib.hid fun o => HB2.out.alloc (by have := HB2.out.size; have := HZ1.out; omega) o
            have HLEN : Hid ((waysK W H (bytesOf g) fr to' k).length = k) := waysK_len _ _ _
            clear hyi
            go_wp2_with (at_builtin; refine wpList_append_z rfl (.tmp 51) (.tmp 53) rfl rfl (World.ownsRow.alloc HO2.out _) rfl (ownZ_one wr y) (by rw [HLEN.out]; simp; have := HLT.out; omega) (by have := (HAL.out (.cells #[.int .i64 y] 3)).size; have := HZ1.out; omega) ?_; intro v4 w4 hown4 hb4)
            rw [← HWS2.out] at hown4
            have HO4 := Lib.hid hown4
            have HB4 := Lib.hid ((HAL.out _).trans hb4)
            clear hown4 hb4
            go_wp2_with fail
            go_roundg (n1 - (k + 1))
            case rel => exact ⟨k + 1, by have := HLT.out; omega, by go_num, HO4.out, HP2.out, HB4.out⟩
            case measure => have := HLT.out; omega
          · have e2 : decide (y < 0) = true := by rw [decide_eq_true_eq]; omega
            have HN : Hid (¬ WaysP W H (bytesOf g) fr to' n1) := HPN.out (by rw [← hyi]; omega)
            clear hyi
            go_wp2_with fail
            go_ret2
            refine hop_none (.inr ⟨fun h => HN.out ?_, rfl, rfl⟩) HBF.out
            have := h.2
            rwa [HL1.out] at this
    · obtain rfl : k = n1 := by omega
      obtain ⟨av, cv, rfl, _⟩ := HO.out.sliced (waysK_len _ _ _)
      go_wp2_with fail
      go_ret2
      refine ⟨av, k, cv, _, 0, rfl, .inl ⟨by rw [HL1.out, HL2.out], by rw [HL1.out]; exact HP.out, rfl, rfl⟩, by rw [HL1.out]; exact waysK_len _ _ _, ?_, HBW.out⟩
      rw [HL1.out]
      exact HO.out.lower (by omega)
end Go.Proofs.Ytacigmjdppoonaa.Vm
