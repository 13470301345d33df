/- What is said of any function that finds the best robot for a task; the document's Best. -/
import Derived.Test.YtopgboepkckkjaaDispMath
import Derived.Test.YtopgboepkckkjaaStWords
import Derived.Test.YtopgboepkckkjaaRefFars
import Derived.Deep.RegionHeld3
namespace Go.Proofs.Ytopgboepkckkjaa.Vm
open Go Go.RowKit
set_option maxRecDepth 100000

def SaysBest (f : Nat) : Prop := ∀ (W H : Int) (g : ByteArray) (h : Sh) (s : St) (x : Int) (B : Nat) (w : World), Okay W H g → StIn w B h s → B ≤ w.heap.size → RightP (floorS (bytesOf g)) s → h.n3 ≤ 1000000 →
  Calls Try.prog f #[gridV W H g, shV h, .int .i64 x] w fun e w' => e = .returned (.int .i64 (bestG W H (bytesOf g) s x)) ∧ Below w.heap.size w w'
theorem bestG_at {W H : Int} {l : List Nat} {s : St} {j : Nat} (hj : j < s.ts.length) (hd : (s.ts.getD j zr).d = 1) : bestG W H l s (j : Int) = (bestN W H l s j s.rs.length).1 := by
  unfold bestG
  rw [Int.toNat_natCast, if_pos ⟨by omega, by omega, hd⟩]

set_option maxHeartbeats 2000000 in
theorem rbest_any : SaysBest 12 := by
  intro W H g h s x B w hok hin hB _ hn3
  obtain ⟨w2, hw2, hB2, hz2, hg2, hs2⟩ := gs_head w W H g h
  have HW2 := Lib.hid hw2
  have HG2 := Lib.hid hg2
  have HS2 := Lib.hid hs2
  have HB2 := Lib.hid hB2
  have HIN := Lib.hid hin
  have HOK := Lib.hid hok
  have hrl : s.rs.length = h.n1 := hin.rs.1
  have htl : s.ts.length = h.n2 := hin.ts.1
  have hl1 := hin.rs.len
  have hl2 := hin.ts.len
  unfold maxLen at hl1 hl2
  have hsB : B ≤ w.heap.size := hB
  have HFA := Lib.hid fun (fr to : Int) V (hV : Below w.heap.size w V) => rfar_any W H fr to g s.bl h.a3 h.n3 h.c3 B V hok (hin.bl.below (hV.mono hB)) (Nat.le_trans hB hV.size) hn3
  obtain ⟨s0, s1, s2, s3⟩ := hs2
  obtain ⟨g0, g1, g2⟩ := hg2
  obtain ⟨t, a1, n1, c1, a2, n2, c2, a3, n3, c3⟩ := h
  simp only [] at s0 s1 s2 s3 hrl htl hl1 hl2 HFA hn3
  have HBW2 := Lib.hid hB2
  rw [hw2] at s0 s1 s2 s3 g0 g1 g2 HBW2
  clear hw2 hB2 hin hok hB
  by_cases hx0 : x < 0
  · have HE : Hid (bestG W H (bytesOf g) s x = -1) := by unfold Hid bestG; rw [if_neg (by omega)]
    have e1 : decide (x < 0) = true := decide_eq_true hx0
    go_enter Try.func12, Try.ntmps12
    go_wp2_with fail
    go_ret
    exact ⟨by rw [HE.out]; rfl, HBW2.out⟩
  obtain ⟨j, rfl⟩ := Int.eq_ofNat_of_zero_le (show 0 ≤ x by omega)
  have e1 : decide ((j : Int) < 0) = false := by rw [decide_eq_false_iff_not]; omega
  by_cases hxn : n2 ≤ j
  · have HE : Hid (bestG W H (bytesOf g) s (j : Int) = -1) := by unfold Hid bestG; rw [if_neg (by omega)]
    have e2 : decide ((j : Int) ≥ (n2 : Int)) = true := by rw [decide_eq_true_eq]; omega
    go_enter Try.func12, Try.ntmps12
    go_wp2_with fail
    go_ret
    exact ⟨by rw [HE.out]; rfl, HBW2.out⟩
  have e2 : decide ((j : Int) ≥ (n2 : Int)) = false := by rw [decide_eq_false_iff_not]; omega
  have hjn : j < n2 := by omega
  have hjn2 : (j : Int) < (n2 : Int) := by omega
  obtain ⟨b2, off2, rfl, hb2, hts⟩ := HIN.out.ts.cells (by show 0 < n2; omega)
  have HTC := Lib.hid (hts j hjn)
  have hrec := (HTC.out.below (HB2.out.mono hsB) hb2).2.2.2.1
  rw [HW2.out] at hrec
  have HD : Hid ((s.ts.getD j zr).d = (s.ts.getD j zr).d) := rfl
  by_cases hd : (s.ts.getD j zr).d = 1
  · have HE : Hid (bestG W H (bytesOf g) s (j : Int) = (bestN W H (bytesOf g) s j n1).1) := by unfold Hid; rw [← hrl]; exact bestG_at (by omega) hd
    have HFD : Hid (∀ k N, farG W H (bytesOf g) s.bl (s.rs.getD k zr).a (s.ts.getD j zr).b = N → ((s.rs.getD k zr).b = 0 ∧ 100 ≤ (s.rs.getD k zr).d ∧ 0 ≤ N ∧ ((bestN W H (bytesOf g) s j k).1 < 0 ∨ N < (bestN W H (bytesOf g) s j k).2) → bestN W H (bytesOf g) s j (k + 1) = ((k : Int), N)) ∧ (¬ ((s.rs.getD k zr).b = 0 ∧ 100 ≤ (s.rs.getD k zr).d ∧ 0 ≤ N ∧ ((bestN W H (bytesOf g) s j k).1 < 0 ∨ N < (bestN W H (bytesOf g) s j k).2)) → bestN W H (bytesOf g) s j (k + 1) = bestN W H (bytesOf g) s j k)) := fun k N hN => by
      have hN : farD W H (bytesOf g) s j k = N := hN
      subst hN
      exact ⟨fun h => bestN_yes ⟨h.1, h.2.1, h.2.2.1⟩ h.2.2.2, fun h => bestN_no (fun h2 => h ⟨h2.1.1, h2.1.2.1, h2.1.2.2, h2.2⟩)⟩
    rw [hd] at hrec
    obtain ⟨tb, htb⟩ : ∃ tb, (s.ts.getD j zr).b = tb := ⟨_, rfl⟩
    rw [htb] at HFD
    have HTB : Hid (∀ V, Below w.heap.size w V → V.cell? ⟨b2, off2 + j * 5 + 1, none⟩ = some (.int .i64 tb)) := fun V hV => by rw [← htb]; exact (HTC.out.below (hV.mono hsB) hb2).2.1
    clear htb hts
    go_enter Try.func12, Try.ntmps12
    go_wp2_with fail
    rw [← HW2.out]
    clear s0 s1 s2 s3 g0 g1 g2 hrec
    go_loopw [7, 8, 9] (fun vb vl vi wr => ∃ k : Nat, k ≤ n1 ∧ vi = .int .i64 k ∧ vb = .int .i64 (bestN W H (bytesOf g) s j k).1 ∧ vl = .int .i64 (bestN W H (bytesOf g) s j k).2 ∧ Hid (Below (w.heap.size + 2) w2 wr)) (fun _ _ vi _ => n1 - (intOf vi).toNat)
    case atStart => exact ⟨0, Nat.zero_le _, rfl, rfl, rfl, Lib.hid (by rw [← hz2]; exact Below.refl _ _)⟩
    case round =>
      obtain ⟨k, hk, rfl, rfl, rfl, HB⟩ := hrel
      have hsz := HB.out.size
      obtain ⟨g0, g1, g2⟩ := HG2.out.below HB.out (by omega)
      obtain ⟨s0, s1, s2, s3⟩ := HS2.out.below HB.out (by omega)
      simp only [] at s0 s1 s2 s3
      have HBR := Lib.hid (HB2.out.trans (HB.out.mono (by omega)))
      by_cases hlt : k < n1
      · obtain ⟨b, off, rfl, hb, hcs⟩ := (HIN.out.rs.below (HBR.out.mono hsB)).cells (by show 0 < n1; omega)
        have hrec := hcs k hlt
        have hkn : (k : Int) < (n1 : Int) := by omega
        have HF := Lib.hid (HFD.out k)
        generalize s.rs.getD k zr = r at hrec HF
        obtain ⟨ra, rb, rc, rd, re⟩ := r
        obtain ⟨r0, r1, r2, r3, r4⟩ := hrec
        simp only [] at r0 r1 r2 r3 r4 HF
        obtain ⟨N, hN⟩ : ∃ N, farG W H (bytesOf g) s.bl ra tb = N := ⟨_, rfl⟩
        have HN := Lib.hid (HF.out N hN)
        generalize hP : bestN W H (bytesOf g) s j k = P at HN
        obtain ⟨p1, p2⟩ := P
        simp only [] at HN
        obtain ⟨V1, hV1⟩ : ∃ V1, V1 = wr.alloc (.cells #[.int .i64 ra, .int .i64 rb, .int .i64 rc, .int .i64 rd, .int .i64 re] 45) := ⟨_, rfl⟩
        have hb1 : Below wr.heap.size wr V1 := by rw [hV1]; exact (Below.refl _ _).alloc (Nat.le_refl _) _
        have k0 : V1.cell? ⟨wr.heap.size, 0, none⟩ = some (.int .i64 ra) := by rw [hV1]; simp
        have k1 : V1.cell? ⟨wr.heap.size, 1, none⟩ = some (.int .i64 rb) := by rw [hV1]; simp
        have k3 : V1.cell? ⟨wr.heap.size, 3, none⟩ = some (.int .i64 rd) := by rw [hV1]; simp
        have hz1 : V1.heap.size = wr.heap.size + 1 := by rw [hV1]; simp
        have HB1 := Lib.hid (HB.out.trans (hb1.mono (by omega)))
        have HBV := Lib.hid (HBR.out.trans (hb1.mono (by omega)))
        obtain ⟨x0, x1, x2⟩ := HG2.out.below HB1.out (by omega)
        obtain ⟨y0, y1, y2, y3⟩ := HS2.out.below HB1.out (by omega)
        simp only [] at y2 y3
        have hlw : w.heap.size + 1 < V1.heap.size := by omega
        have hlw2 : b2 < V1.heap.size := by omega
        have htc := HTB.out V1 HBV.out
        have HKS : Hid (∀ V, Kept V1 V → Kept V1 V ∧ V.cell? ⟨w.heap.size, 0, none⟩ = some (.int .i64 W) ∧ V.cell? ⟨w.heap.size, 1, none⟩ = some (.int .i64 H) ∧ V.cell? ⟨w.heap.size, 2, none⟩ = some (.string g) ∧ V.cell? ⟨w.heap.size + 1, 2, none⟩ = some (.slice (some ⟨b2, off2, none⟩) n2 c2) ∧ V.cell? ⟨w.heap.size + 1, 3, none⟩ = some (.slice a3 n3 c3) ∧ V.cell? ⟨b2, off2 + j * 5 + 1, none⟩ = some (.int .i64 tb) ∧ V.cell? ⟨wr.heap.size, 0, none⟩ = some (.int .i64 ra) ∧ V.cell? ⟨wr.heap.size, 1, none⟩ = some (.int .i64 rb) ∧ V.cell? ⟨wr.heap.size, 3, none⟩ = some (.int .i64 rd)) := fun V hV =>
          ⟨hV, (Below.cell hV (p := ⟨w.heap.size, 0, none⟩) (show w.heap.size < V1.heap.size by omega)).trans x0, (Below.cell hV (p := ⟨w.heap.size, 1, none⟩) (show w.heap.size < V1.heap.size by omega)).trans x1, (Below.cell hV (p := ⟨w.heap.size, 2, none⟩) (show w.heap.size < V1.heap.size by omega)).trans x2, (Below.cell hV (p := ⟨w.heap.size + 1, 2, none⟩) hlw).trans y2, (Below.cell hV (p := ⟨w.heap.size + 1, 3, none⟩) hlw).trans y3, (Below.cell hV (p := ⟨b2, off2 + j * 5 + 1, none⟩) hlw2).trans htc, (Below.cell hV (p := ⟨wr.heap.size, 0, none⟩) (show wr.heap.size < V1.heap.size by omega)).trans k0, (Below.cell hV (p := ⟨wr.heap.size, 1, none⟩) (show wr.heap.size < V1.heap.size by omega)).trans k1, (Below.cell hV (p := ⟨wr.heap.size, 3, none⟩) (show wr.heap.size < V1.heap.size by omega)).trans k3⟩
        have HFC : Hid (∀ V, Kept V1 V → Calls Try.prog 25 #[gridV W H g, .int .i64 ra, .int .i64 tb, .slice a3 n3 c3] V (fun e V' => e = .returned (.int .i64 N) ∧ Kept V1 V')) := fun V hV =>
          (HFA.out ra tb V (HBV.out.trans (Below.mono hV HBV.out.size))).mono fun e V' ⟨he, hb⟩ => ⟨by rw [he, hN], Below.trans hV (hb.mono (Below.size hV))⟩
        have HV1 := Lib.hid hV1
        have kk : Kept V1 V1 := Kept.refl _
        clear hcs HF hN hV1 hb1 x0 x1 x2 y0 y1 y2 y3 htc hP k0 k1 k3 hz1
        go_wp2_with fail
        rw [← HV1.out]
        clear r0 r1 r2 r3 r4 g0 g1 g2 s0 s1 s2 s3
        go_region_held3 (fun V => Kept V1 V ∧ V.cell? ⟨w.heap.size, 0, none⟩ = some (.int .i64 W) ∧ V.cell? ⟨w.heap.size, 1, none⟩ = some (.int .i64 H) ∧ V.cell? ⟨w.heap.size, 2, none⟩ = some (.string g) ∧ V.cell? ⟨w.heap.size + 1, 2, none⟩ = some (.slice (some ⟨b2, off2, none⟩) n2 c2) ∧ V.cell? ⟨w.heap.size + 1, 3, none⟩ = some (.slice a3 n3 c3) ∧ V.cell? ⟨b2, off2 + j * 5 + 1, none⟩ = some (.int .i64 tb) ∧ V.cell? ⟨wr.heap.size, 0, none⟩ = some (.int .i64 ra) ∧ V.cell? ⟨wr.heap.size, 1, none⟩ = some (.int .i64 rb) ∧ V.cell? ⟨wr.heap.size, 3, none⟩ = some (.int .i64 rd))
          (first | exact HKS.out _ (by assumption) | exact HKS.out _ (Kept.drew (by assumption)))
          (first | (go_at_call 25; refine (HFC.out _ (by first | exact kk | exact Kept.drew kk)).mono ?_; rintro e wb ⟨rfl, kb⟩))
        obtain ⟨_, _, _, _, _, _, _, z0, z1, z3⟩ := HKS.out wb kb
        have HBW : Hid (Below (w.heap.size + 2) w2 wb) := HB1.out.trans (Below.mono kb (by omega))
        clear kb kk
        by_cases h1 : rb = 0
        · have e1 : (rb == 0) = true := by simpa using h1
          by_cases h2 : 100 ≤ rd
          · have e2 : decide (rd ≥ 100) = true := by rw [decide_eq_true_eq]; exact h2
            by_cases h3 : 0 ≤ N
            · have e3 : decide (N ≥ 0) = true := by rw [decide_eq_true_eq]; exact h3
              by_cases h4 : p1 < 0
              · have e4 : decide (p1 < 0) = true := decide_eq_true h4
                go_wp2_with fail
                go_roundw
                case rel => exact ⟨k + 1, by omega, by go_num, by rw [HN.out.1 ⟨h1, h2, h3, .inl h4⟩], by rw [HN.out.1 ⟨h1, h2, h3, .inl h4⟩], HBW.out⟩
                case measure => simp [intOf]; omega
              · have e4 : decide (p1 < 0) = false := decide_eq_false h4
                by_cases h5 : N < p2
                · have e5 : decide (N < p2) = true := decide_eq_true h5
                  go_wp2_with fail
                  go_roundw
                  case rel => exact ⟨k + 1, by omega, by go_num, by rw [HN.out.1 ⟨h1, h2, h3, .inr h5⟩], by rw [HN.out.1 ⟨h1, h2, h3, .inr h5⟩], HBW.out⟩
                  case measure => simp [intOf]; omega
                · have e5 : decide (N < p2) = false := decide_eq_false h5
                  go_wp2_with fail
                  go_roundw
                  case rel => exact ⟨k + 1, by omega, by go_num, by rw [HN.out.2 (fun h => h.2.2.2.elim h4 h5)], by rw [HN.out.2 (fun h => h.2.2.2.elim h4 h5)], HBW.out⟩
                  case measure => simp [intOf]; omega
            · have e3 : decide (N ≥ 0) = false := by rw [decide_eq_false_iff_not]; omega
              go_wp2_with fail
              go_roundw
              case rel => exact ⟨k + 1, by omega, by go_num, by rw [HN.out.2 (fun h => h3 h.2.2.1)], by rw [HN.out.2 (fun h => h3 h.2.2.1)], HBW.out⟩
              case measure => simp [intOf]; omega
          · have e2 : decide (rd ≥ 100) = false := by rw [decide_eq_false_iff_not]; omega
            go_wp2_with fail
            go_roundw
            case rel => exact ⟨k + 1, by omega, by go_num, by rw [HN.out.2 (fun h => h2 h.2.1)], by rw [HN.out.2 (fun h => h2 h.2.1)], HBW.out⟩
            case measure => simp [intOf]; omega
        · have e1 : (rb == 0) = false := by simpa using h1
          go_wp2_with fail
          go_roundw
          case rel => exact ⟨k + 1, by omega, by go_num, by rw [HN.out.2 (fun h => h1 h.1)], by rw [HN.out.2 (fun h => h1 h.1)], HBW.out⟩
          case measure => simp [intOf]; omega
      · obtain rfl : k = n1 := by omega
        have HBE := Lib.hid HBR.out
        go_wp2_with fail
        go_ret
        exact ⟨by rw [HE.out]; rfl, HBE.out⟩
  · have HE : Hid (bestG W H (bytesOf g) s (j : Int) = -1) := by unfold Hid bestG; rw [if_neg (fun h => by have := h.2.2; rw [Int.toNat_natCast] at this; exact hd this)]
    generalize (s.ts.getD j zr).d = d at hd hrec
    have e3 : (d != 1) = true := by simpa using hd
    clear hts
    go_enter Try.func12, Try.ntmps12
    go_wp2_with fail
    go_ret
    exact ⟨by rw [HE.out]; rfl, HBW2.out⟩
end Go.Proofs.Ytopgboepkckkjaa.Vm
