/- The document's Walk of layer 12. -/
import Derived.Test.YtacigmjdppoonaaRefHops
import Derived.Test.YtacigmjdppoonaaWalks
import Derived.Deep.CutRange
namespace Go.Proofs.Ytacigmjdppoonaa.Vm
open Go Go.RowKit
set_option maxRecDepth 100000

theorem GoOut.move {W H : Int} {l : List Nat} {c w c' : List Int} {x : Int} (h : GoOut W H l c w c' x) : MoveOut W H l c w c' x := by
  rcases h with ⟨h1, h2, h3, h4⟩ | ⟨h1, _, h4⟩
  · exact .inl ⟨h1, h2, h3, h4⟩
  · exact .inr ⟨h1, h4⟩
theorem GoOut.len {W H : Int} {l : List Nat} {c w c' : List Int} (h : GoOut W H l c w c' 0) : c'.length = c.length := by
  rcases h with ⟨_, _, rfl, _⟩ | ⟨_, _, h⟩
  · exact goK_len _ _ _
  · cases h
def zs0 (outs : List (List Int)) : List (List Int × Int) := outs.map fun c => (c, 0)
theorem ownQ_one {w : World} {B : Nat} {u : Value} {l : List Int} (hu : OwnZ w B u l) (hB : B ≤ w.heap.size) : OwnQ (w.alloc (.cells #[u] 27)) B (.slice (some ⟨w.heap.size, 0, none⟩) 1 1) [l] := by
  refine ⟨[u], ?_, fun i x hx => ?_⟩
  · exact World.ownsRow_lit (base := B) (e := 27) (size := 1) w #[u] 1 hB (by simp [maxLen]) rfl
  · cases i with
    | zero =>
      simp only [List.getElem?_cons_zero, Option.some.injEq] at hx
      subst hx
      exact ⟨u, rfl, World.ownsRow.alloc hu _⟩
    | succ i => simp at hx

set_option maxHeartbeats 4000000 in
theorem rWalk12_any (W H : Int) (g : ByteArray) (a al : Option Addr) (n c nl cl B : Nat) (cs : List Int) (ls : List (List Int)) (w : World) (hok : Okay W H g) (h1 : RowZ .i64 w B a n c cs) (h2 : RowL w B al nl cl ls) (hB : B ≤ w.heap.size) (hn : n ≤ 100000) (hnl : nl ≤ 100000) :
    Calls Try.prog 13 #[gridV W H g, .slice a n c, .slice al nl cl] w (WalkPost w (WalkOut W H (bytesOf g) cs ls)) := by
  obtain ⟨i1, hi1, hy0, hy1, hy2⟩ := info_parts info_row
  obtain ⟨w1, hw1⟩ : ∃ w1, w1 = w.alloc (gridO W H g) := ⟨_, rfl⟩
  have hb1 : Below w.heap.size w w1 := by rw [hw1]; exact (Below.refl _ _).alloc (Nat.le_refl _) _
  have hz1 : w1.heap.size = w.heap.size + 1 := by rw [hw1]; simp
  have hg1 : GridAt w1 w.heap.size W H g := by rw [hw1]; exact gridAt_new w W H g
  have HG1 := Lib.hid hg1
  have HW1 := Lib.hid hw1
  have HB1 := Lib.hid hb1
  have HZ1 := Lib.hid hz1
  have HO2 : Hid (OwnZ (w1.alloc (.cells #[] 3)) (w.heap.size + 1) (.slice (some ⟨w1.heap.size, 0, none⟩) 0 0) []) := ownZ_empty w1 (by omega)
  have HB2 : Hid (Below (w.heap.size + 1) w1 (w1.alloc (.cells #[] 3))) := (Below.refl _ _).alloc (by omega) _
  have HR2 : Hid (RowZ .i64 (w1.alloc (.cells #[] 3)) w.heap.size a n c cs) := (h1.mono hB).below (hb1.alloc (by omega) _)
  have HL := Lib.hid (h2.mono hB)
  have HNL := Lib.hid h2.1
  have HCL := Lib.hid h1.1
  have hc2 := h2.2.1
  have hx2 := h2.2.2.1
  unfold maxLen at hx2
  have HGO := Lib.hid fun (a1 a2 : Option Addr) (n1 d1 n2 d2 : Nat) (c1 ws : List Int) (V : World) (hr1 : RowZ .i64 V V.heap.size a1 n1 d1 c1) (hr2 : RowZ .i64 V V.heap.size a2 n2 d2 ws) (hn1 : n1 ≤ 100000) => rGo12_any W H g a1 a2 n1 d1 n2 d2 V.heap.size c1 ws V hok hr1 hr2 (Nat.le_refl _) hn1
  clear hw1 hb1 hz1 hg1 h1 h2 hok hB
  go_enter Try.func13, Try.ntmps13
  go_upto_region 1 with fail
  rw [← HW1.out]
  go_wp2_with (at_builtin; refine wpList_append_z rfl (.tmp 12) (.tmp 13) rfl rfl HO2.out rfl HR2.out (by simp; omega) (by have := HZ1.out; simp; omega) ?_; intro v3 w3 hown3 hb3; obtain ⟨a3, c3, rfl, hrow3⟩ := OwnZ.sliced hown3 (n := n) (by simp; exact HCL.out))
  have HO3 := Lib.hid hown3
  have HB3 : Hid (Below (w.heap.size + 1) w1 w3) := HB2.out.trans hb3
  have HZ3 : Hid (w.heap.size + 2 ≤ w3.heap.size) := by have := hb3.size; have := HZ1.out; unfold Hid; simp at *; omega
  obtain ⟨w4, hw4⟩ : ∃ w4, w4 = w3.alloc (.cells #[.slice a3 n c3] 27) := ⟨_, rfl⟩
  have HQ4 : Hid (OwnQ w4 (w.heap.size + 1) (.slice (some ⟨w3.heap.size, 0, none⟩) 1 1) [cs]) := by
    have := ownQ_one (hown3) (B := w.heap.size + 1) (by have := HZ3.out; omega)
    unfold Hid; rw [hw4]; simpa using this
  have HB4 : Hid (Below (w.heap.size + 1) w1 w4) := by unfold Hid; rw [hw4]; exact HB3.out.alloc (by have := HZ3.out; omega) _
  have HW4 := Lib.hid hw4
  clear hown3 hb3 hw4 hrow3
  go_wp2_with fail
  rw [← HW4.out]
  go_loopw [8, 9] (fun v i wr => ∃ (j : Nat) (outs : List (List Int)), j ≤ nl ∧ i = .int .i64 j ∧ Hid (OwnQ wr (w.heap.size + 1) v outs) ∧ Hid (outs.length = j + 1) ∧ Hid ((outs.getD j []).length = cs.length) ∧ Hid (Tk W H (bytesOf g) cs ls (zs0 outs)) ∧ Hid (Below (w.heap.size + 1) w1 wr)) (fun _ i _ => nl - (intOf i).toNat)
  case atStart => exact ⟨0, [cs], Nat.zero_le _, rfl, HQ4.out, rfl, rfl, .one _ _, HB4.out⟩
  case round =>
    obtain ⟨j, outs, hj, rfl, HQ, HLO, HLE, HT, HBB⟩ := hrel
    have HBW : Hid (Below w.heap.size w wr) := HB1.out.trans (HBB.out.mono (by omega))
    have hszr : w.heap.size + 1 ≤ wr.heap.size := by have := HBB.out.size; have := HZ1.out; omega
    obtain ⟨ao, co, rfl, hro⟩ := HQ.out.rowL
    have hlo := HLO.out
    by_cases hlt : j < nl
    · obtain ⟨b1, o1, rfl, hb1, hq1⟩ := hro.cells (by omega)
      obtain ⟨ax, nx, cx, hcx, hrx⟩ := hq1 j (by omega)
      obtain ⟨b2, o2, rfl, hb2, hq2⟩ := (HL.out.below HBW.out).cells (by omega)
      obtain ⟨ay, ny, cy, hcy, hry⟩ := hq2 j hlt
      have hm1 := hro.2.1
      have hm2 := hro.2.2.1
      unfold maxLen at hm2
      have hnx : nx ≤ 100000 := by rw [← hrx.1, HLE.out, HCL.out]; exact hn
      have hltg2 : b2 < wr.heap.size := by have := HBW.out.size; omega
      have hgg : w.heap.size < wr.heap.size := by omega
      have HGR := Lib.hid (HG1.out.below HBB.out (Nat.lt_succ_self _))
      have HK : Hid (∀ V, Kept wr V → (Kept wr V ∧ (V.cell? ⟨w.heap.size, 0, none⟩ = some (.int .i64 W) ∧ V.cell? ⟨w.heap.size, 1, none⟩ = some (.int .i64 H) ∧ V.cell? ⟨w.heap.size, 2, none⟩ = some (.string g)) ∧ V.cell? ⟨b1, o1 + j, none⟩ = some (.slice ax nx cx) ∧ V.cell? ⟨b2, o2 + j, none⟩ = some (.slice ay ny cy))) := fun V hV =>
        ⟨hV, HGR.out.below hV hgg, (Below.cell (p := ⟨b1, o1 + j, none⟩) hV hb1).trans hcx, (Below.cell (p := ⟨b2, o2 + j, none⟩) hV hltg2).trans hcy⟩
      have HGC : Hid (∀ V, Kept wr V → Calls Try.prog 11 #[gridV W H g, .slice ax nx cx, .slice ay ny cy] V fun e V' => ∃ a' n' c' l x, e = .returned (.tuple #[.slice a' n' c', .int .i64 x]) ∧ (GoOut W H (bytesOf g) (outs.getD j []) (ls.getD j []) l x ∧ l.length = n' ∧ OwnZ V' wr.heap.size (.slice a' n' c') l ∧ Kept wr V')) := fun V hV =>
        (HGO.out ax ay nx cx ny cy _ _ V ((hrx.below hV).mono (Below.size hV)) ((hry.mono (show w.heap.size ≤ wr.heap.size by omega)).below hV |>.mono (Below.size hV)) hnx).mono fun e V' ⟨a', n', c', l, x, h1, h2, h3, h4, h5⟩ => ⟨a', n', c', l, x, h1, h2, h3, h4.lower (Below.size hV), Below.trans hV (h5.mono (Below.size hV))⟩
      have HSP : Hid (zs0 outs = (zs0 (outs.take j)) ++ [(outs.getD j [], 0)]) := by
        have h1 : outs = outs.take j ++ [outs.getD j []] := by
          have hjl : j < outs.length := by omega
          have := List.take_succ_eq_append_getElem hjl
          rw [List.take_of_length_le (by omega)] at this
          simpa [List.getD, hjl] using this
        unfold Hid zs0
        conv => lhs; rw [h1]
        rw [List.map_append]; rfl
      have HLW : Hid (ls[(zs0 (outs.take j)).length]? = some (ls.getD j [])) := by
        have hjl : j < ls.length := by rw [HNL.out]; exact hlt
        have h2 : (zs0 (outs.take j)).length = j := by unfold zs0; rw [List.length_map, List.length_take]; omega
        unfold Hid
        rw [h2]
        simp [List.getD, hjl]
      have kk : Kept wr wr := Kept.refl _
      obtain ⟨_, ⟨g0, g1, g2⟩, q1, q2⟩ := HK.out wr kk
      clear hq1 hq2 hrx hry hcx hcy hgg hltg2 hro hnx
      obtain ⟨no, hno⟩ : ∃ no, outs.length = no := ⟨_, rfl⟩
      rw [hno] at HQ hm1
      have hjo : j < no := by omega
      have hji : (j : Int) < (no : Int) := by omega
      have hjn : (j : Int) < (nl : Int) := by omega
      have HNO := Lib.hid hno
      rw [hno]
      clear hno hlo
      go_wp2_with fail
      go_region_held3 (fun V => Kept wr V ∧ (V.cell? ⟨w.heap.size, 0, none⟩ = some (.int .i64 W) ∧ V.cell? ⟨w.heap.size, 1, none⟩ = some (.int .i64 H) ∧ V.cell? ⟨w.heap.size, 2, none⟩ = some (.string g)) ∧ V.cell? ⟨b1, o1 + j, none⟩ = some (.slice ax nx cx) ∧ V.cell? ⟨b2, o2 + j, none⟩ = some (.slice ay ny cy))
        (first | exact HK.out _ (by assumption) | exact HK.out _ (Kept.drew (by assumption)))
        (first | (go_at_call 11; refine (HGC.out _ (by first | exact kk | exact Kept.drew kk)).mono ?_; rintro e w5 ⟨a5, n5, c5, l5, x5, rfl, hgo5, hl5, ho5, k5⟩))
      have HQ5 := Lib.hid (HQ.out.calls k5)
      have HO5 := Lib.hid (ho5.lower hszr)
      have HB5 : Hid (Below (w.heap.size + 1) w1 w5) := HBB.out.trans (Below.mono k5 hszr)
      have hsz5 : w.heap.size + 1 ≤ w5.heap.size := Nat.le_trans hszr (Below.size k5)
      have HGO5 := Lib.hid hgo5
      have HL5 := Lib.hid hl5
      clear k5 kk ho5 hgo5 hl5 g0 g1 g2 q1 q2 hszr
      by_cases h0 : x5 = 0
      · have e1 : (x5 != 0) = false := by simpa using h0
        have HT5 : Hid (Tk W H (bytesOf g) cs ls (zs0 (outs ++ [l5]))) := by
          have h1 := HGO5.out
          rw [h0] at h1
          have h2 := HT.out.snoc HSP.out HLW.out h1.move
          unfold Hid zs0
          rw [List.map_append]
          exact h2
        have HE5 : Hid (((outs ++ [l5]).getD (j + 1) []).length = cs.length) := by
          have h1 := HGO5.out
          rw [h0] at h1
          have h2 : (outs ++ [l5]).getD (j + 1) [] = l5 := by
            have := HLO.out
            simp [List.getD, ← this]
          unfold Hid
          rw [h2, h1.len, HLE.out]
        have HLO5 : Hid ((outs ++ [l5]).length = j + 1 + 1) := by unfold Hid; rw [List.length_append, HLO.out]; rfl
        have HNB : Hid (no ≤ 100001) := by have := HLO.out; have := HNO.out; unfold Hid; omega
        obtain ⟨xs, q1, q2⟩ := HQ5.out
        rw [HNO.out] at q1
        clear h0
        go_wp2_with (at_builtin; (refine wpList_append_own _ rfl (.tmp 38) (.tmp 40) 24 rfl (w.heap.size + 1) 27 i1 (.slice none 0 0) 1 24 Try.underlying24 hi1 hy0 hy1 hy2 rfl (by decide) _ _ _ rfl (World.ownsRow.alloc q1 _) ⟨w5.heap.size, 0, none⟩ 1 1 [.slice a5 n5 c5] rfl rfl (one_cell w5 (.slice a5 n5 c5) 27) (by simp [Value.oneCell']) (by have := HNB.out; simp only [maxLen]; omega) (by have := HNB.out; omega) (by simp; omega) ?_; intro v6 w6 hown6 hgrow6 _))
        have HQ6 : Hid (OwnQ w6 (w.heap.size + 1) v6 (outs ++ [l5])) := OwnQ.push (w := w5) (ls := outs) (by rw [HNO.out]; exact q1) q2 HO5.out (by rw [HNO.out]; exact hown6) hgrow6
        have HB6 : Hid (Below (w.heap.size + 1) w1 w6) := (HB5.out.alloc hsz5 _).grown hgrow6 (by simp; omega) (fun k hk => (World.ownsRow.lt q1 k hk).1)
        clear hown6 hgrow6 q1 q2
        go_wp2_with fail
        go_roundw
        case rel => exact ⟨j + 1, outs ++ [l5], by omega, by go_num, HQ6.out, HLO5.out, HE5.out, HT5.out, HB6.out⟩
        case measure => simp [intOf]; omega
      · have e1 : (x5 != 0) = true := by simpa using h0
        have HWO : Hid (WalkOut W H (bytesOf g) cs ls [] x5) := by
          have h2 := HT.out.snoc HSP.out HLW.out HGO5.out.move
          exact h2.broken rfl h0
        have HBF : Hid (Below w.heap.size w w5) := HB1.out.trans (HB5.out.mono (by omega))
        clear h0
        go_wp2_with fail
        go_ret2
        exact ⟨none, 0, 0, [], x5, rfl, HWO.out, rfl, OwnQ.nil _ _, HBF.out⟩
    · obtain rfl : j = nl := by omega
      have HWO : Hid (WalkOut W H (bytesOf g) cs ls outs 0) := by
        have h1 := HT.out.whole (by unfold zs0; rw [List.length_map, hlo, HNL.out]) (fun y hy => by unfold zs0 at hy; obtain ⟨c, _, rfl⟩ := List.mem_map.1 hy; rfl)
        unfold zs0 at h1
        rw [List.map_map] at h1
        have h2 : (Prod.fst ∘ fun c : List Int => (c, (0 : Int))) = id := rfl
        rw [h2, List.map_id] at h1
        exact h1
      clear hro
      go_wp2_with fail
      go_ret2
      refine ⟨ao, _, co, outs, 0, rfl, HWO.out, rfl, ?_, HBW.out⟩
      obtain ⟨xs, q1, q2⟩ := HQ.out
      have lw : ∀ {e : TypeId} {v : Value} {n : Nat} {ys : List Value}, wr.ownsRow (w.heap.size + 1) e 1 v n ys → wr.ownsRow w.heap.size e 1 v n ys := fun h => ⟨h.1, by
        rcases h.2 with h2 | ⟨gg, cap, cur, hv, hb, r⟩
        · exact .inl h2
        · exact .inr ⟨gg, cap, cur, hv, by omega, r⟩⟩
      exact ⟨xs, lw q1, fun i l hl => by
        obtain ⟨u, h1, h2⟩ := q2 i l hl
        exact ⟨u, h1, h2.lower (by omega)⟩⟩
end Go.Proofs.Ytacigmjdppoonaa.Vm
