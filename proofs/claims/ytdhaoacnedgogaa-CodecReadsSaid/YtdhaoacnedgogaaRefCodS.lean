/- The contract of the document's State (a state as bytes). -/
import Derived.Test.YtdhaoacnedgogaaRefCods
import Derived.Test.YtdhaoacnedgogaaPushes
import Derived.Test.YtdhaoacnedgogaaStWords
import Derived.Test.YtdhaoacnedgogaaAppendZ
import Derived.Test.YtdhaoacnedgogaaAppends
import Derived.Deep.LoopGhost
import Derived.Lib.AppendZeros
namespace Go.Proofs.Ytdhaoacnedgogaa.Vm
open Go Go.RowKit

/-- An append of one int, and of five, as they are laid for it. -/
theorem append_one {w : World} {B : Nat} {v : Value} {out : List Int} (x : Int) (hown : OwnZ w B v out) (hlen : out.length ≤ 910000) (hB : B ≤ w.heap.size) :
    ∃ v' w', (Builtin.append_ #[24, 24] 24 #[v, .slice (some ⟨w.heap.size, 0, none⟩) 1 1]).run Try.prog (w.alloc (.cells #[.int .i64 x] 3)) = .ok v' w' ∧ OwnZ w' B v' (out ++ [x]) ∧ Below B w w' := by
  have hba : Below w.heap.size w (w.alloc (.cells #[.int .i64 x] 3)) := (Below.refl _ _).alloc (Nat.le_refl _) _
  obtain ⟨v', w', h1, h2, h3⟩ := run_append_z (w := w.alloc (.cells #[.int .i64 x] 3)) 24 (own_upto hown hba (fun k hk => (World.ownsRow.lt hown k hk).2)) (rowZ_lit w [x] 3 (by simp)) (by simp; omega) (by simp; omega)
  exact ⟨v', w', h1, h2, (hba.mono hB).trans h3⟩
theorem append_five {w : World} {B : Nat} {v : Value} {out : List Int} (o : Obj) (a b c d e : Int) (hown : OwnZ w B v out) (hlen : out.length ≤ 900000) (hB : B ≤ w.heap.size) :
    ∃ v' w', (Builtin.append_ #[24, 24] 24 #[v, .slice (some ⟨w.heap.size + 1, 0, none⟩) 5 5]).run Try.prog ((w.alloc o).alloc (.cells #[.int .i64 a, .int .i64 b, .int .i64 c, .int .i64 d, .int .i64 e] 3)) = .ok v' w' ∧ OwnZ w' B v' (out ++ [a, b, c, d, e]) ∧ Below B w w' := by
  have hb0 : Below w.heap.size w (w.alloc o) := (Below.refl _ _).alloc (Nat.le_refl _) _
  have hz : (w.alloc o).heap.size = w.heap.size + 1 := by simp
  have hba : Below w.heap.size w ((w.alloc o).alloc (.cells #[.int .i64 a, .int .i64 b, .int .i64 c, .int .i64 d, .int .i64 e] 3)) := hb0.alloc (by omega) _
  have hr := rowZ_lit (w.alloc o) [a, b, c, d, e] 3 (by simp)
  rw [hz] at hr
  obtain ⟨v', w', h1, h2, h3⟩ := run_append_z (w := (w.alloc o).alloc (.cells #[.int .i64 a, .int .i64 b, .int .i64 c, .int .i64 d, .int .i64 e] 3)) 24 (own_upto hown hba (fun k hk => (World.ownsRow.lt hown k hk).2)) hr (by simp; omega) (by simp; omega)
  exact ⟨v', w', h1, h2, (hba.mono hB).trans h3⟩

set_option maxRecDepth 100000 in
set_option maxHeartbeats 4000000 in
theorem rcodS_any (h : Sh) (s : St) (w : World) (hin : StIn w w.heap.size h s) (hn : s.rs.length ≤ 1000 ∧ s.ts.length ≤ 1000 ∧ s.bl.length ≤ 1000) :
    Calls Try.prog 11 #[shV h] w fun e w' => ∃ v er, e = .returned (.tuple #[v, .int .i64 er]) ∧ (CanS s → er = 0 ∧ Own w' w.heap.size v (encS s)) ∧ (¬ CanS s → er = 1 ∧ v = .slice none 0 0) ∧ Below w.heap.size w w' := by
  have hB1 : Below w.heap.size w (w.alloc (shO h)) := (Below.refl _ _).alloc (Nat.le_refl _) _
  have hs1 := stAt_new w h
  obtain ⟨w1, hw1⟩ : ∃ w1, w1 = w.alloc (shO h) := ⟨_, rfl⟩
  have hz1 : w1.heap.size = w.heap.size + 1 := by rw [hw1]; simp
  rw [← hw1] at hB1 hs1
  have HW := Lib.hid hw1
  have HB1 := Lib.hid hB1
  have HS := Lib.hid hs1
  have HIN := Lib.hid (hin.below hB1)
  obtain ⟨hn1, hn2, hn3⟩ := hn
  have HN1 := Lib.hid hin.rs.1
  have HN2 := Lib.hid hin.ts.1
  have HN3 := Lib.hid hin.bl.1
  have HT := Lib.hid hin.tick
  obtain ⟨t, a1, n1, c1, a2, n2, c2, a3, n3, c3⟩ := h
  simp only [] at HN1 HN2 HN3 HT
  rw [HN1.out] at hn1
  rw [HN2.out] at hn2
  rw [HN3.out] at hn3
  have HL0 : Hid (OwnZ (w1.alloc (.cells #[.int .i64 t, .int .i64 n1] 3)) (w.heap.size + 1) (.slice (some ⟨w.heap.size + 1, 0, none⟩) 2 2) ([s.tick, (s.rs.length : Int)] ++ (s.rs.take 0).flatMap robN)) := by
    have h1 := World.ownsRow_lit (base := w.heap.size + 1) (e := 3) (size := 1) w1 ⟨intsZ [t, (n1 : Int)]⟩ 2 (by omega) (by unfold maxLen; omega) (by simp [intsZ])
    rw [hz1] at h1
    unfold Hid OwnZ
    rw [HN1.out, ← HT.out]
    exact h1
  have HBL0 : Hid (Below (w.heap.size + 1) w1 (w1.alloc (.cells #[.int .i64 t, .int .i64 n1] 3))) := (Below.refl _ _).alloc (by omega) _
  have HZ1 := Lib.hid hz1
  clear hin hB1 hs1 hw1 hz1
  go_enter Try.func11, Try.ntmps11
  go_wp2_with fail
  rw [← HW.out]
  go_loopg [4, 5] n1 (fun gg v i wr => ∃ k : Nat, k ≤ n1 ∧ n1 - k ≤ gg ∧ i = .int .i64 k ∧ Hid (OwnZ wr (w.heap.size + 1) v ([s.tick, (s.rs.length : Int)] ++ (s.rs.take k).flatMap robN)) ∧ Hid (Below (w.heap.size + 1) w1 wr))
  case atStart => exact ⟨0, Nat.zero_le _, by omega, rfl, HL0.out, HBL0.out⟩
  case round =>
    obtain ⟨k, hkn, hgg, rfl, HO, HB⟩ := hrel
    have hzr := HB.out.size
    have hz1 := HZ1.out
    have hqs : w.heap.size < wr.heap.size := by omega
    obtain ⟨s0, s1, s2, s3⟩ := HS.out.below HB.out (by omega)
    simp only [] at s0 s1 s2 s3
    by_cases hlt : k < n1
    · obtain ⟨rb, ro, rfl, hrb, hcs⟩ := HIN.out.rs.cells (show 0 < n1 by omega)
      obtain ⟨x0, x1, x2, x3, x4⟩ := (hcs k hlt).below HB.out (by omega)
      have hk' : k < s.rs.length := by rw [HN1.out]; exact hlt
      have HM := Lib.hid (flat_take (f := robN) hk')
      obtain ⟨x, hx⟩ : ∃ x, s.rs.getD k zr = x := ⟨_, rfl⟩
      rw [hx] at x0 x1 x2 x3 x4 HM
      have hlen : ([s.tick, (s.rs.length : Int)] ++ (s.rs.take k).flatMap robN).length ≤ 900000 := by
        rw [List.length_append, flat_len (m := 5) (fun _ => rfl), List.length_take]
        simp
        omega
      obtain ⟨v', w', hrun, hown, hb'⟩ := append_five (.cells #[.int .i64 x.a, .int .i64 x.b, .int .i64 x.c, .int .i64 x.d, .int .i64 x.e] 51) x.a x.b x.c x.d x.e HO.out hlen (by omega)
      have HO2 : Hid (OwnZ w' (w.heap.size + 1) v' ([s.tick, (s.rs.length : Int)] ++ (s.rs.take (k + 1)).flatMap robN)) := by
        unfold Hid
        rw [HM.out, ← List.append_assoc]
        exact hown
      have HB2 := Lib.hid (HB.out.trans hb')
      obtain ⟨xa, xb, xc, xd, xe⟩ := x
      simp only [] at x0 x1 x2 x3 x4 hrun
      have hk1 : (k : Int) < (n1 : Int) := by omega
      have hrbw : rb < wr.heap.size := by omega
      clear hcs hx hlen hown hb' HM HO HB hzr hz1 hk'
      go_wp2_with (at_builtin; refine Lib.wpList_append_run _ rfl _ _ _ _ rfl _ _ rfl rfl _ _ hrun ?_)
      go_roundg (n1 - (k + 1))
      case measure => omega
      case rel => exact ⟨k + 1, by omega, Nat.le_refl _, by go_num, HO2.out, HB2.out⟩
    · obtain rfl : k = n1 := by omega
      have HA := Lib.hid HO.out
      rw [List.take_of_length_le (by rw [HN1.out]; exact Nat.le_refl _)] at HA
      have hlen : ([s.tick, (s.rs.length : Int)] ++ s.rs.flatMap robN).length ≤ 900000 := by
        rw [List.length_append, flat_len (m := 5) (fun _ => rfl), HN1.out]
        simp
        omega
      obtain ⟨v', w', hrun, hown, hb'⟩ := append_one (n2 : Int) HA.out (by omega) (by omega)
      have HO2 : Hid (OwnZ w' (w.heap.size + 1) v' (([s.tick, (s.rs.length : Int)] ++ s.rs.flatMap robN ++ [(s.ts.length : Int)]) ++ (s.ts.take 0).flatMap jobN)) := by
        unfold Hid
        rw [List.take_zero, List.flatMap_nil, List.append_nil, HN2.out]
        exact hown
      have HB2 := Lib.hid (HB.out.trans hb')
      have HJ : Hid (∀ i, i < 0 → RoIn (s.ts.getD i zr)) := fun i hi => absurd hi (by omega)
      have hkk : ¬ (k : Int) < (k : Int) := by omega
      clear hlt hlen hown hb' HA HO HB hzr hz1
      go_wp2_with (at_builtin; refine Lib.wpList_append_run _ rfl _ _ _ _ rfl _ _ rfl rfl _ _ hrun ?_)
      clear s0 s1 s2 s3 hqs hrun
      go_loopg [4, 7] n2 (fun gg v i wr => ∃ j : Nat, j ≤ n2 ∧ n2 - j ≤ gg ∧ i = .int .i64 j ∧ Hid (∀ i, i < j → RoIn (s.ts.getD i zr)) ∧ Hid (OwnZ wr (w.heap.size + 1) v (([s.tick, (s.rs.length : Int)] ++ s.rs.flatMap robN ++ [(s.ts.length : Int)]) ++ (s.ts.take j).flatMap jobN)) ∧ Hid (Below (w.heap.size + 1) w1 wr))
      case atStart => exact ⟨0, Nat.zero_le _, by omega, rfl, HJ.out, HO2.out, HB2.out⟩
      case round =>
        clear HO2 HB2 HJ
        obtain ⟨j, hjn, hgg2, rfl, HJ, HO, HB⟩ := hrel
        have hzr := HB.out.size
        have hz1 := HZ1.out
        have hqs : w.heap.size < wr.heap.size := by omega
        obtain ⟨s0, s1, s2, s3⟩ := HS.out.below HB.out (by omega)
        simp only [] at s0 s1 s2 s3
        by_cases hlt : j < n2
        · obtain ⟨rb, ro, rfl, hrb, hcs⟩ := HIN.out.ts.cells (show 0 < n2 by omega)
          obtain ⟨x0, x1, x2, x3, x4⟩ := (hcs j hlt).below HB.out (by omega)
          have hk' : j < s.ts.length := by rw [HN2.out]; exact hlt
          have HM := Lib.hid (flat_take (f := jobN) hk')
          obtain ⟨x, hx⟩ : ∃ x, s.ts.getD j zr = x := ⟨_, rfl⟩
          have HX := Lib.hid hx
          rw [hx] at x0 x1 x2 x3 x4 HM
          have hlen : (([s.tick, (s.rs.length : Int)] ++ s.rs.flatMap robN ++ [(s.ts.length : Int)]) ++ (s.ts.take j).flatMap jobN).length ≤ 900000 := by
            rw [List.length_append, List.length_append, List.length_append, flat_len (m := 5) (fun _ => rfl), flat_len (m := 5) (fun _ => rfl), List.length_take, HN1.out]
            simp
            omega
          obtain ⟨v', w', hrun, hown, hb'⟩ := append_five (.cells #[.int .i64 x.a, .int .i64 x.b, .int .i64 x.c, .int .i64 x.d, .int .i64 x.e] 53) x.a x.b x.c x.d 0 HO.out hlen (by omega)
          have HO2 : Hid (OwnZ w' (w.heap.size + 1) v' (([s.tick, (s.rs.length : Int)] ++ s.rs.flatMap robN ++ [(s.ts.length : Int)]) ++ (s.ts.take (j + 1)).flatMap jobN)) := by
            unfold Hid
            rw [HM.out, ← List.append_assoc]
            exact hown
          have HB2 := Lib.hid (HB.out.trans hb')
          have HBX : Hid (Below (w.heap.size + 1) w1 (wr.alloc (.cells #[.int .i64 x.a, .int .i64 x.b, .int .i64 x.c, .int .i64 x.d, .int .i64 x.e] 53))) := HB.out.alloc (by omega) _
          have hk1 : (j : Int) < (n2 : Int) := by omega
          have hrbw : rb < wr.heap.size := by omega
          by_cases hro : RoIn x
          · have HJ2 : Hid (∀ i, i < j + 1 → RoIn (s.ts.getD i zr)) := fun i hi => by
              rcases Nat.lt_succ_iff_lt_or_eq.1 hi with h1 | rfl
              · exact HJ.out i h1
              · rw [HX.out]; exact hro
            obtain ⟨xa, xb, xc, xd, xe⟩ := x
            obtain ⟨r1, r2⟩ := hro
            simp only [] at x0 x1 x2 x3 x4 hrun r1 r2
            have r1' : ¬ xe < -1 := by omega
            have r2' : ¬ (2147483647 : Int) < xe := by omega
            clear hcs hx hlen hown hb' HM HO HB hzr hz1 hk' HJ HX HBX r1 r2
            go_wp2_with (at_builtin; refine Lib.wpList_append_run _ rfl _ _ _ _ rfl _ _ rfl rfl _ _ hrun ?_)
            go_roundg (n2 - (j + 1))
            case measure => omega
            case rel => exact ⟨j + 1, by omega, Nat.le_refl _, by go_num, HJ2.out, HO2.out, HB2.out⟩
          · have HNC : Hid (¬ CanS s) := fun hc => hro (by rw [← HX.out]; exact canS_job hc j hk')
            have HBF := Lib.hid (HB1.out.trans (HBX.out.mono (by omega)))
            obtain ⟨xa, xb, xc, xd, xe⟩ := x
            simp only [RoIn] at x0 x1 x2 x3 x4 hrun hro
            clear hcs hx hlen hown hb' HM HO HB hzr hz1 hk' HJ HX HBX HO2 HB2 hrun
            by_cases r2 : (2147483647 : Int) < xe
            · clear hro
              go_wp2_with fail
              go_ret2
              exact ⟨_, _, rfl, fun h => absurd h HNC.out, fun _ => ⟨rfl, rfl⟩, HBF.out⟩
            · have r1 : xe < -1 := by omega
              clear hro
              go_wp2_with fail
              go_ret2
              exact ⟨_, _, rfl, fun h => absurd h HNC.out, fun _ => ⟨rfl, rfl⟩, HBF.out⟩
        · obtain rfl : j = n2 := by omega
          have HA := Lib.hid HO.out
          rw [List.take_of_length_le (by rw [HN2.out]; exact Nat.le_refl _)] at HA
          have hlen : (([s.tick, (s.rs.length : Int)] ++ s.rs.flatMap robN ++ [(s.ts.length : Int)]) ++ s.ts.flatMap jobN).length ≤ 900000 := by
            rw [List.length_append, List.length_append, List.length_append, flat_len (m := 5) (fun _ => rfl), flat_len (m := 5) (fun _ => rfl), HN1.out, HN2.out]
            simp
            omega
          obtain ⟨v', w', hrun, hown, hb'⟩ := append_one (n3 : Int) HA.out (by omega) (by omega)
          obtain ⟨N0, hN0⟩ : ∃ N0, (([s.tick, (s.rs.length : Int)] ++ s.rs.flatMap robN ++ [(s.ts.length : Int)]) ++ s.ts.flatMap jobN) ++ [(s.bl.length : Int)] = N0 := ⟨_, rfl⟩
          have HNL : Hid (N0.length ≤ 900000) := by
            unfold Hid
            rw [← hN0, List.length_append, List.length_append, List.length_append, List.length_append, flat_len (m := 5) (fun _ => rfl), flat_len (m := 5) (fun _ => rfl), HN1.out, HN2.out]
            simp
            omega
          have HNN : Hid (numsS s = N0 ++ s.bl) := by
            unfold Hid numsS
            rw [← hN0]
          have HO2 : Hid (OwnZ w' (w.heap.size + 1) v' (N0 ++ s.bl.take 0)) := by
            unfold Hid
            rw [List.take_zero, List.append_nil, ← hN0, HN3.out]
            exact hown
          have HB2 := Lib.hid (HB.out.trans hb')
          have HJJ : Hid (∀ i, i < s.ts.length → RoIn (s.ts.getD i zr)) := by
            unfold Hid
            rw [HN2.out]
            exact HJ.out
          have HU : Hid (∀ i, 0 < i → i < 0 → s.bl.getD (i - 1) 0 < s.bl.getD i 0) := fun i _ hi => absurd hi (by omega)
          have hkk : ¬ (j : Int) < (j : Int) := by omega
          clear hlt hlen hown hb' HA HO HB hzr hz1 hN0 HJ
          go_wp2_with (at_builtin; refine Lib.wpList_append_run _ rfl _ _ _ _ rfl _ _ rfl rfl _ _ hrun ?_)
          clear s0 s1 s2 s3 hqs hrun
          go_loopg [4, 9] n3 (fun gg v i wr => ∃ m : Nat, m ≤ n3 ∧ n3 - m ≤ gg ∧ i = .int .i64 m ∧ Hid (∀ i, 0 < i → i < m → s.bl.getD (i - 1) 0 < s.bl.getD i 0) ∧ Hid (OwnZ wr (w.heap.size + 1) v (N0 ++ s.bl.take m)) ∧ Hid (Below (w.heap.size + 1) w1 wr))
          case atStart => exact ⟨0, Nat.zero_le _, by omega, rfl, HU.out, HO2.out, HB2.out⟩
          case round =>
            clear HO2 HB2 HU
            obtain ⟨m, hmn, hgg3, rfl, HU, HO, HB⟩ := hrel
            have hzr := HB.out.size
            have hz1 := HZ1.out
            have hqs : w.heap.size < wr.heap.size := by omega
            obtain ⟨s0, s1, s2, s3⟩ := HS.out.below HB.out (by omega)
            simp only [] at s0 s1 s2 s3
            by_cases hlt : m < n3
            · obtain ⟨bb, bo, rfl, hbb, hcs⟩ := HIN.out.bl.cells (show 0 < n3 by omega)
              have x0 := (HB.out.cell (p := ⟨bb, bo + m, none⟩) (show bb < w.heap.size + 1 by omega)).trans (hcs m hlt)
              have hk' : m < s.bl.length := by rw [HN3.out]; exact hlt
              have HM : Hid (s.bl.take (m + 1) = s.bl.take m ++ [s.bl.getD m 0]) := by
                unfold Hid
                rw [List.take_succ_eq_append_getElem hk']
                simp [List.getD, hk']
              obtain ⟨x, hx⟩ : ∃ x, s.bl.getD m 0 = x := ⟨_, rfl⟩
              have HX := Lib.hid hx
              rw [hx] at x0 HM
              have hlen : (N0 ++ s.bl.take m).length ≤ 901000 := by
                rw [List.length_append, List.length_take]
                have := HNL.out
                omega
              obtain ⟨v', w', hrun, hown, hb'⟩ := append_one x HO.out (by omega) (by omega)
              have HO2 : Hid (OwnZ w' (w.heap.size + 1) v' (N0 ++ s.bl.take (m + 1))) := by
                unfold Hid
                rw [HM.out, ← List.append_assoc]
                exact hown
              have HB2 := Lib.hid (HB.out.trans hb')
              have hzw := hb'.size
              obtain ⟨q0, q1, q2, q3⟩ := HS.out.below HB2.out (by omega)
              simp only [] at q0 q1 q2 q3
              have y0 := (HB2.out.cell (p := ⟨bb, bo + m, none⟩) (show bb < w.heap.size + 1 by omega)).trans (hcs m hlt)
              rw [hx] at y0
              have hk1 : (m : Int) < (n3 : Int) := by omega
              have hbw : bb < wr.heap.size := by omega
              have HCS := Lib.hid hcs
              have HB3 := Lib.hid (HB1.out.trans (HB2.out.mono (by omega)))
              cases m with
              | zero =>
                have HU2 : Hid (∀ i, 0 < i → i < 0 + 1 → s.bl.getD (i - 1) 0 < s.bl.getD i 0) := fun i h1 hi => absurd hi (by omega)
                clear hcs hx hlen hown hb' HM HO HB hzr hz1 hk' HX HU
                rw [Nat.add_zero] at x0 y0
                go_wp2_with (at_builtin; refine Lib.wpList_append_run _ rfl _ _ _ _ rfl _ _ rfl rfl _ _ hrun ?_)
                go_quiet (fail)
                have HO3 : Hid (OwnZ (w'.drewN nq) (w.heap.size + 1) v' (N0 ++ s.bl.take (0 + 1))) := HO2.out
                have HB4 := Lib.hid (below_drewN HB2.out nq)
                go_wp2_with fail
                go_roundg (n3 - (0 + 1))
                case measure => omega
                case rel => exact ⟨0 + 1, by omega, Nat.le_refl _, by go_num, HU2.out, HO3.out, HB4.out⟩
              | succ q =>
                have hqn : q < n3 := by omega
                have y1 := (HB2.out.cell (p := ⟨bb, bo + q, none⟩) (show bb < w.heap.size + 1 by omega)).trans (HCS.out q hqn)
                obtain ⟨y, hy⟩ : ∃ y, s.bl.getD q 0 = y := ⟨_, rfl⟩
                have HY := Lib.hid hy
                rw [hy] at y1
                have hq1 : (q : Int) + 1 < (n3 : Int) := by omega
                have hq0 : (0 : Int) < (q : Int) + 1 := by omega
                by_cases hle : x ≤ y
                · have HNC : Hid (¬ CanS s) := fun hc => by
                    have := canS_up hc (q + 1) (by omega) hk'
                    rw [HX.out, show q + 1 - 1 = q by omega, HY.out] at this
                    omega
                  clear hcs hx hlen hown hb' HM HO HB hzr hz1 hk' HX HU hy HY
                  go_wp2_with (at_builtin; refine Lib.wpList_append_run _ rfl _ _ _ _ rfl _ _ rfl rfl _ _ hrun ?_)
                  go_quiet (fail)
                  have HB4 := Lib.hid (below_drewN HB3.out nq)
                  go_wp2_with fail
                  go_ret2
                  exact ⟨_, _, rfl, fun h => absurd h HNC.out, fun _ => ⟨rfl, rfl⟩, HB4.out⟩
                · have hle' : (x ≤ y) = False := by simpa using hle
                  have HU2 : Hid (∀ i, 0 < i → i < q + 1 + 1 → s.bl.getD (i - 1) 0 < s.bl.getD i 0) := fun i h1 hi => by
                    rcases Nat.lt_succ_iff_lt_or_eq.1 hi with h2 | rfl
                    · exact HU.out i h1 h2
                    · rw [HX.out, show q + 1 - 1 = q by omega, HY.out]
                      omega
                  clear hcs hx hlen hown hb' HM HO HB hzr hz1 hk' HX HU hy HY hle'
                  go_wp2_with (at_builtin; refine Lib.wpList_append_run _ rfl _ _ _ _ rfl _ _ rfl rfl _ _ hrun ?_)
                  go_quiet (fail)
                  have HO3 : Hid (OwnZ (w'.drewN nq) (w.heap.size + 1) v' (N0 ++ s.bl.take (q + 1 + 1))) := HO2.out
                  have HB4 := Lib.hid (below_drewN HB2.out nq)
                  go_wp2_with fail
                  go_roundg (n3 - (q + 1 + 1))
                  case measure => omega
                  case rel => exact ⟨q + 1 + 1, by omega, Nat.le_refl _, by go_num, HU2.out, HO3.out, HB4.out⟩
            · obtain rfl : m = n3 := by omega
              have HA := Lib.hid HO.out
              rw [List.take_of_length_le (by rw [HN3.out]; exact Nat.le_refl _), ← HNN.out] at HA
              have hnl : (numsS s).length ≤ 910000 := by
                rw [HNN.out, List.length_append, HN3.out]
                have := HNL.out
                omega
              have HUU : Hid (∀ i, 0 < i → i < s.bl.length → s.bl.getD (i - 1) 0 < s.bl.getD i 0) := by
                unfold Hid
                rw [HN3.out]
                exact HU.out
              obtain ⟨la, lc, rfl, hrow⟩ := HA.out.row
              have HROW := Lib.hid hrow
              have HBW := Lib.hid HB.out
              have HI0 : Hid (∀ i, i < 0 → InR ((numsS s).getD i 0)) := fun i hi => absurd hi (by omega)
              obtain ⟨NL, hNL⟩ : ∃ NL, (numsS s).length = NL := ⟨_, rfl⟩
              have HNE := Lib.hid hNL
              rw [hNL] at HROW hnl
              have hkk : ¬ (m : Int) < (m : Int) := by omega
              clear hlt HA HO HB hzr hz1 HU HNN HNL hrow
              rw [hNL]
              clear hNL
              go_wp2_with fail
              clear s0 s1 s2 s3 hqs
              go_loopg [10] NL (fun gg i wq => ∃ p : Nat, p ≤ NL ∧ NL - p ≤ gg ∧ i = .int .i64 p ∧ Hid (∀ i, i < p → InR ((numsS s).getD i 0)) ∧ Hid (Below wr.heap.size wr wq))
              case atStart => exact ⟨0, Nat.zero_le _, by omega, rfl, HI0.out, Below.refl _ _⟩
              case round =>
                clear HI0
                obtain ⟨p, hpn, hgg4, rfl, HI, HV⟩ := hrel
                by_cases hlt : p < NL
                · obtain ⟨lb, lo, rfl, hlb, hls⟩ := HROW.out.cells (by omega)
                  have x0 := (HV.out.cell (p := ⟨lb, lo + p, none⟩) hlb).trans (hls p hlt)
                  obtain ⟨y, hy⟩ : ∃ y, (numsS s).getD p 0 = y := ⟨_, rfl⟩
                  have HY := Lib.hid hy
                  rw [hy] at x0
                  have hk1 : (p : Int) < (NL : Int) := by omega
                  have hpl : p < (numsS s).length := by rw [HNE.out]; exact hlt
                  have HIY := Lib.hid fun (V : World) => rin_any y V
                  by_cases hyr : InR y
                  · have HI2 : Hid (∀ i, i < p + 1 → InR ((numsS s).getD i 0)) := fun i hi => by
                      rcases Nat.lt_succ_iff_lt_or_eq.1 hi with h2 | rfl
                      · exact HI.out i h2
                      · rw [HY.out]; exact hyr
                    rw [decide_eq_true hyr] at HIY
                    clear hyr hy hls HI hpl
                    go_wp2_with fail
                    refine (HIY.out _).mono ?_
                    rintro e V ⟨rfl, rfl⟩
                    go_wp2_with fail
                    go_roundg (NL - (p + 1))
                    case measure => omega
                    case rel => exact ⟨p + 1, by omega, Nat.le_refl _, by go_num, HI2.out, HV.out⟩
                  · have HNC : Hid (¬ CanS s) := fun hc => hyr (by rw [← HY.out]; exact canS_num hc p hpl)
                    have HB4 := Lib.hid (HB1.out.trans ((HBW.out.trans (HV.out.mono (by have := HBW.out.size; have := HZ1.out; omega))).mono (by omega)))
                    rw [decide_eq_false hyr] at HIY
                    clear hyr hy hls HI hpl
                    go_wp2_with fail
                    refine (HIY.out _).mono ?_
                    rintro e V ⟨rfl, rfl⟩
                    go_wp2_with fail
                    go_ret2
                    exact ⟨_, _, rfl, fun h => absurd h HNC.out, fun _ => ⟨rfl, rfl⟩, HB4.out⟩
                · obtain rfl : p = NL := by omega
                  have HCAN : Hid (CanS s) := canS_of HJJ.out HUU.out (by rw [HNE.out]; exact HI.out)
                  have hkk : ¬ (p : Int) < (p : Int) := by omega
                  clear hlt HI HJJ HUU HROW
                  have HBO : Hid (Below (w.heap.size + 1) w1 wr) := HBW.out.trans (HV.out.mono (by have := HBW.out.size; have := HZ1.out; omega))
                  have hzo : w.heap.size + 1 ≤ wr.heap.size := by have := HBO.out.size; have := HZ1.out; omega
                  have hzo2 : w.heap.size < wr.heap.size := by omega
                  clear HV HBW HBL0 HL0
                  obtain ⟨s0, s1, s2, s3⟩ := HS.out.below HBO.out (by omega)
                  simp only [] at s0 s1 s2 s3
                  go_wp2_with fail
                  have k0 : Kept wr wr := Kept.refl _
                  have HP1 := Lib.hid (rputk wr t (by rw [HT.out]; exact HCAN.out.tick.1) (by have := HCAN.out.tick.2; rw [HT.out]; omega))
                  have HE1 := encI_len t (by have := HCAN.out.tick.2; rw [HT.out]; omega)
                  have HE2 := encI_len (k : Int) (by omega)
                  have HLE0 : Hid ((encI t).length + (encI (k : Int)).length ≤ 100000000) := by unfold Hid; omega
                  have hkp0 : (0 : Int) ≤ (k : Int) := by omega
                  have hkp1 : (k : Int) ≤ 9223372036854775807 := by omega
                  have HKA : Hid (∀ V, Kept wr V → Kept wr V ∧ V.cell? ⟨w.heap.size, 0, none⟩ = some (.int .i64 t) ∧ V.cell? ⟨w.heap.size, 1, none⟩ = some (.slice a1 k c1)) := fun V hV => ⟨hV, (Below.cell hV (p := ⟨w.heap.size, 0, none⟩) hzo2).trans s0, (Below.cell hV (p := ⟨w.heap.size, 1, none⟩) hzo2).trans s1⟩
                  go_region_held3 (fun V => Kept wr V ∧ V.cell? ⟨w.heap.size, 0, none⟩ = some (.int .i64 t) ∧ V.cell? ⟨w.heap.size, 1, none⟩ = some (.slice a1 k c1))
                    (first | exact HKA.out _ (by assumption) | exact HKA.out _ (Kept.drew (by assumption)))
                    (first
                      | (go_at_call 27; refine (HP1.out _ ?_).mono ?_; (first | exact k0 | exact Kept.drew k0); rintro e y1 ⟨pa, pc, rfl, own1, kd1⟩)
                      | (go_at_call 27; refine (rputk y1 (k : Int) hkp0 hkp1 _ ?_).mono ?_; (first | exact Kept.refl _ | exact Kept.drew (Kept.refl _)); rintro e y2 ⟨ra, rc, rfl, own2, kq2⟩; have kd2 : Kept wr y2 := kept_tr kd1 kq2)
                      | (refine step_append_b (A := wr) rfl _ _ rfl rfl rfl (own1.calls kq2) own2 HLE0.out (Nat.le_refl _) kd2 ?_; intro v3 y3 own3 hg3 kd3))
                  have HO5 : Hid (Own y3 wr.heap.size v3 ((encI t ++ encI (k : Int)) ++ (s.rs.take 0).flatMap encRob)) := by
                    unfold Hid
                    rw [List.take_zero, List.flatMap_nil, List.append_nil]
                    exact own3
                  have HB5 : Hid (Below wr.heap.size wr y3) := kd3
                  have HOL : Hid ((encI t ++ encI (k : Int)).length ≤ 20) := by unfold Hid; rw [List.length_append]; omega
                  obtain ⟨wo, hwo⟩ : ∃ wo, wo = wr := ⟨_, rfl⟩
                  subst hwo
                  have HSO := Lib.hid (show StAt wo w.heap.size ⟨t, a1, k, c1, a2, j, c2, a3, m, c3⟩ from ⟨s0, s1, s2, s3⟩)
                  have HINO := Lib.hid ((HIN.out.below (HBO.out.mono (by omega))))
                  clear s0 s1 s2 s3 own1 own2 own3 hg3 kd1 kd2 kd3 kq2 k0 HP1 HKA HE1 HE2 HLE0 hkp0 hkp1
                  go_wp2_with fail
                  go_loopg [11, 12] k (fun gg v i wr => ∃ ii : Nat, ii ≤ k ∧ k - ii ≤ gg ∧ i = .int .i64 ii ∧ Hid (Own wr wo.heap.size v ((encI t ++ encI (k : Int)) ++ (s.rs.take ii).flatMap encRob)) ∧ Hid (Below wo.heap.size wo wr))
                  case atStart => exact ⟨0, Nat.zero_le _, by omega, rfl, HO5.out, HB5.out⟩
                  case round =>
                    clear HO5 HB5
                    obtain ⟨q, hq, hgg5, rfl, HO, HB⟩ := hrel
                    have hzr := HB.out.size
                    have hqs : w.heap.size < wr.heap.size := by omega
                    obtain ⟨s0, s1, s2, s3⟩ := HSO.out.below HB.out hzo2
                    simp only [] at s0 s1 s2 s3
                    by_cases hlt : q < k
                    · obtain ⟨rb, ro, rfl, hrb, hcs⟩ := HINO.out.rs.cells (show 0 < k by omega)
                      obtain ⟨x0, x1, x2, x3, x4⟩ := (hcs q hlt).below HB.out (by omega)
                      have hk' : q < s.rs.length := by rw [HN1.out]; exact hlt
                      have HM := Lib.hid (flat_take (f := encRob) hk')
                      have hxi := HCAN.out.rob (s.rs.getD q zr) (by simp [List.getD, hk'])
                      obtain ⟨x, hx⟩ : ∃ x, s.rs.getD q zr = x := ⟨_, rfl⟩
                      rw [hx] at x0 x1 x2 x3 x4 HM hxi
                      have hOl := flat_le (f := encRob) (n := 50) (rs := s.rs.take q) (fun r hr => encRob_le (HCAN.out.rob r (List.mem_of_mem_take hr)))
                      rw [List.length_take] at hOl
                      obtain ⟨O, hO⟩ : ∃ O, (encI t ++ encI (k : Int)) ++ (s.rs.take q).flatMap encRob = O := ⟨_, rfl⟩
                      have hOL : O.length ≤ 60000 := by
                        rw [← hO, List.length_append]
                        have := HOL.out
                        omega
                      have HMO : Hid ((encI t ++ encI (k : Int)) ++ (s.rs.take (q + 1)).flatMap encRob = O ++ encRob x) := by
                        unfold Hid
                        rw [HM.out, ← List.append_assoc, hO]
                      rw [hO] at HO
                      obtain ⟨xa, xb, xc, xd, xe⟩ := x
                      simp only [] at x0 x1 x2 x3 x4
                      obtain ⟨⟨ia1, ia2⟩, ⟨ib1, ib2⟩, ⟨ic1, ic2⟩, ⟨id1, id2⟩, ie1, ie2⟩ := hxi
                      simp only [] at ia1 ia2 ib1 ib2 ic1 ic2 id1 id2 ie1 ie2
                      have ea := encI_len xa (by omega)
                      have eb := encI_len xb (by omega)
                      have ec := encI_len xc (by omega)
                      have ed := encI_len xd (by omega)
                      have ee := encI_len (xe) (by omega)
                      have hk1 : (q : Int) < (k : Int) := by omega
                      have hrbw : rb < wr.heap.size := by omega
                      clear hcs hx hk' hO hOl HM
                      go_wp2_with fail
                      obtain ⟨A0, hA0⟩ : ∃ A0, A0 = wr.alloc (.cells #[.int .i64 xa, .int .i64 xb, .int .i64 xc, .int .i64 xd, .int .i64 xe] 51) := ⟨_, rfl⟩
                      rw [← hA0]
                      have hba : Below wr.heap.size wr A0 := by rw [hA0]; exact (Below.refl _ _).alloc (Nat.le_refl _) _
                      have HC0 : Hid (BoxAt A0 wr.heap.size #[.int .i64 xa, .int .i64 xb, .int .i64 xc, .int .i64 xd, .int .i64 xe] 51) := by unfold Hid; rw [hA0]; exact boxAt_new wr _ _
                      have HO0 := Lib.hid (HO.out.calls hba)
                      have HB0 := Lib.hid (HB.out.trans (hba.mono (by omega)))
                      clear hA0 hba HO HB x0 x1 x2 x3 x4 s0 s1 s2 s3
                      have hBA := HB0.out.size
                      refine (rputk A0 (xa) (by omega) (by omega) _ (Kept.refl _)).mono ?_
                      rintro e y1 ⟨pa, pc, rfl, own1, kd1⟩
                      obtain ⟨z1, A1, hrun, own2, hg2⟩ := run_append_b (w := y1) 35 (HO0.out.calls kd1) own1.row (by (try simp only [List.length_append]); omega) (Nat.le_trans hBA kd1.size)
                      have HO1 := Lib.hid own2
                      have HB1 := Lib.hid (HB0.out.trans ((Below.mono kd1 hBA).grown hg2 (Nat.le_trans hBA kd1.size) (fun k hk2 => (World.ownsRow.lt (HO0.out.calls kd1) k hk2).1)))
                      have HC1 := Lib.hid ((BoxAt.calls HC0.out kd1).grown (HO0.out.calls kd1) hg2 (by decide))
                      have c1 := BoxAt.cell HC1.out (i := 1) rfl
                      clear HO0 HB0 HC0 own1 own2 kd1 hg2 hBA
                      go_wp2_with (at_builtin; refine Lib.wpList_append_run _ rfl _ _ _ _ rfl _ _ rfl rfl _ _ hrun ?_)
                      clear hrun
                      have hBA := HB1.out.size
                      refine (rputk A1 (xb) (by omega) (by omega) _ (Kept.refl _)).mono ?_
                      rintro e y1 ⟨pa, pc, rfl, own1, kd1⟩
                      obtain ⟨z2, A2, hrun, own2, hg2⟩ := run_append_b (w := y1) 35 (HO1.out.calls kd1) own1.row (by (try simp only [List.length_append]); omega) (Nat.le_trans hBA kd1.size)
                      have HO2 := Lib.hid own2
                      have HB2 := Lib.hid (HB1.out.trans ((Below.mono kd1 hBA).grown hg2 (Nat.le_trans hBA kd1.size) (fun k hk2 => (World.ownsRow.lt (HO1.out.calls kd1) k hk2).1)))
                      have HC2 := Lib.hid ((BoxAt.calls HC1.out kd1).grown (HO1.out.calls kd1) hg2 (by decide))
                      have c2 := BoxAt.cell HC2.out (i := 2) rfl
                      clear HO1 HB1 HC1 own1 own2 kd1 hg2 hBA
                      go_wp2_with (at_builtin; refine Lib.wpList_append_run _ rfl _ _ _ _ rfl _ _ rfl rfl _ _ hrun ?_)
                      clear hrun
                      have hBA := HB2.out.size
                      refine (rputk A2 (xc) (by omega) (by omega) _ (Kept.refl _)).mono ?_
                      rintro e y1 ⟨pa, pc, rfl, own1, kd1⟩
                      obtain ⟨z3, A3, hrun, own2, hg2⟩ := run_append_b (w := y1) 35 (HO2.out.calls kd1) own1.row (by (try simp only [List.length_append]); omega) (Nat.le_trans hBA kd1.size)
                      have HO3 := Lib.hid own2
                      have HB3 := Lib.hid (HB2.out.trans ((Below.mono kd1 hBA).grown hg2 (Nat.le_trans hBA kd1.size) (fun k hk2 => (World.ownsRow.lt (HO2.out.calls kd1) k hk2).1)))
                      have HC3 := Lib.hid ((BoxAt.calls HC2.out kd1).grown (HO2.out.calls kd1) hg2 (by decide))
                      have c3 := BoxAt.cell HC3.out (i := 3) rfl
                      clear HO2 HB2 HC2 own1 own2 kd1 hg2 hBA
                      go_wp2_with (at_builtin; refine Lib.wpList_append_run _ rfl _ _ _ _ rfl _ _ rfl rfl _ _ hrun ?_)
                      clear hrun
                      have hBA := HB3.out.size
                      refine (rputk A3 (xd) (by omega) (by omega) _ (Kept.refl _)).mono ?_
                      rintro e y1 ⟨pa, pc, rfl, own1, kd1⟩
                      obtain ⟨z4, A4, hrun, own2, hg2⟩ := run_append_b (w := y1) 35 (HO3.out.calls kd1) own1.row (by (try simp only [List.length_append]); omega) (Nat.le_trans hBA kd1.size)
                      have HO4 := Lib.hid own2
                      have HB4 := Lib.hid (HB3.out.trans ((Below.mono kd1 hBA).grown hg2 (Nat.le_trans hBA kd1.size) (fun k hk2 => (World.ownsRow.lt (HO3.out.calls kd1) k hk2).1)))
                      have HC4 := Lib.hid ((BoxAt.calls HC3.out kd1).grown (HO3.out.calls kd1) hg2 (by decide))
                      have c4 := BoxAt.cell HC4.out (i := 4) rfl
                      clear HO3 HB3 HC3 own1 own2 kd1 hg2 hBA
                      go_wp2_with (at_builtin; refine Lib.wpList_append_run _ rfl _ _ _ _ rfl _ _ rfl rfl _ _ hrun ?_)
                      clear hrun
                      have hBA := HB4.out.size
                      refine (rputk A4 (xe) (by omega) (by omega) _ (Kept.refl _)).mono ?_
                      rintro e y1 ⟨pa, pc, rfl, own1, kd1⟩
                      obtain ⟨z5, A5, hrun, own2, hg2⟩ := run_append_b (w := y1) 35 (HO4.out.calls kd1) own1.row (by (try simp only [List.length_append]); omega) (Nat.le_trans hBA kd1.size)
                      have HO5 := Lib.hid own2
                      have HB5 := Lib.hid (HB4.out.trans ((Below.mono kd1 hBA).grown hg2 (Nat.le_trans hBA kd1.size) (fun k hk2 => (World.ownsRow.lt (HO4.out.calls kd1) k hk2).1)))
                      have HC5 := Lib.hid ((BoxAt.calls HC4.out kd1).grown (HO4.out.calls kd1) hg2 (by decide))
                      clear HO4 HB4 HC4 own1 own2 kd1 hg2 hBA
                      go_wp2_with (at_builtin; refine Lib.wpList_append_run _ rfl _ _ _ _ rfl _ _ rfl rfl _ _ hrun ?_)
                      clear hrun
                      have HO6 : Hid (Own A5 wo.heap.size z5 ((encI t ++ encI (k : Int)) ++ (s.rs.take (q + 1)).flatMap encRob)) := by
                        have h1 := HO5.out
                        unfold Hid
                        rw [HMO.out]
                        unfold encRob
                        simpa only [List.append_assoc] using h1
                      clear HC5 HO5 HMO
                      go_roundg (k - (q + 1))
                      case measure => omega
                      case rel => exact ⟨q + 1, by omega, Nat.le_refl _, by go_num, HO6.out, HB5.out⟩
                    · obtain rfl : q = k := by omega
                      rw [List.take_of_length_le (by rw [HN1.out]; exact Nat.le_refl _)] at HO
                      have hkk : ¬ (q : Int) < (q : Int) := by omega
                      clear hlt
                      go_wp2_with fail
                      have hOl := flat_le (f := encRob) (n := 50) (rs := s.rs) (fun r hr => encRob_le (HCAN.out.rob r hr))
                      have hol := HOL.out
                      simp only [List.length_append] at hol
                      rw [HN1.out] at hOl
                      refine (rputk wr (j : Int) (by omega) (by omega) _ (Kept.refl _)).mono ?_
                      rintro e y1 ⟨pa, pc, rfl, own1, kd1⟩
                      have ej := encI_len (j : Int) (by omega)
                      obtain ⟨z1, y2, hrun, own2, hg2⟩ := run_append_b (w := y1) 35 (HO.out.calls kd1) own1.row (by simp only [List.length_append]; omega) (Nat.le_trans hzr kd1.size)
                      have hby : Below wo.heap.size wr y2 := (Below.mono kd1 hzr).grown hg2 (Nat.le_trans hzr kd1.size) (fun k hk2 => (World.ownsRow.lt (HO.out.calls kd1) k hk2).1)
                      have HB6 := Lib.hid (HB.out.trans hby)
                      have HO6 : Hid (Own y2 wo.heap.size z1 ((encI t ++ encI (q : Int) ++ s.rs.flatMap encRob ++ encI (j : Int)) ++ (s.ts.take 0).flatMap encJob)) := by
                        unfold Hid
                        rw [List.take_zero, List.flatMap_nil, List.append_nil]
                        exact own2
                      have HOM : Hid ((encI t ++ encI (q : Int) ++ s.rs.flatMap encRob ++ encI (j : Int)).length ≤ 60000) := by unfold Hid; simp only [List.length_append]; omega
                      clear own1 own2 kd1 hby hg2 HO HB hOl hol ej
                      go_wp2_with (at_builtin; refine Lib.wpList_append_run _ rfl _ _ _ _ rfl _ _ rfl rfl _ _ hrun ?_)
                      clear hrun s0 s1 s2 s3
                      go_loopg [11, 14] j (fun gg v i wr => ∃ ii : Nat, ii ≤ j ∧ j - ii ≤ gg ∧ i = .int .i64 ii ∧ Hid (Own wr wo.heap.size v ((encI t ++ encI (q : Int) ++ s.rs.flatMap encRob ++ encI (j : Int)) ++ (s.ts.take ii).flatMap encJob)) ∧ Hid (Below wo.heap.size wo wr))
                      case atStart => exact ⟨0, Nat.zero_le _, by omega, rfl, HO6.out, HB6.out⟩
                      case round =>
                        clear HO6 HB6
                        obtain ⟨q2, hq, hgg5, rfl, HO, HB⟩ := hrel
                        have hzr := HB.out.size
                        have hqs : w.heap.size < wr.heap.size := by omega
                        obtain ⟨s0, s1, s2, s3⟩ := HSO.out.below HB.out hzo2
                        simp only [] at s0 s1 s2 s3
                        by_cases hlt : q2 < j
                        · obtain ⟨rb, ro, rfl, hrb, hcs⟩ := HINO.out.ts.cells (show 0 < j by omega)
                          obtain ⟨x0, x1, x2, x3, x4⟩ := (hcs q2 hlt).below HB.out (by omega)
                          have hk' : q2 < s.ts.length := by rw [HN2.out]; exact hlt
                          have HM := Lib.hid (flat_take (f := encJob) hk')
                          have hxi := HCAN.out.job (s.ts.getD q2 zr) (by simp [List.getD, hk'])
                          obtain ⟨x, hx⟩ : ∃ x, s.ts.getD q2 zr = x := ⟨_, rfl⟩
                          rw [hx] at x0 x1 x2 x3 x4 HM hxi
                          have hOl := flat_le (f := encJob) (n := 50) (rs := s.ts.take q2) (fun r hr => encJob_le (HCAN.out.job r (List.mem_of_mem_take hr)))
                          rw [List.length_take] at hOl
                          obtain ⟨O, hO⟩ : ∃ O, (encI t ++ encI (q : Int) ++ s.rs.flatMap encRob ++ encI (j : Int)) ++ (s.ts.take q2).flatMap encJob = O := ⟨_, rfl⟩
                          have hOL : O.length ≤ 120000 := by
                            rw [← hO, List.length_append]
                            have := HOM.out
                            omega
                          have HMO : Hid ((encI t ++ encI (q : Int) ++ s.rs.flatMap encRob ++ encI (j : Int)) ++ (s.ts.take (q2 + 1)).flatMap encJob = O ++ encJob x) := by
                            unfold Hid
                            rw [HM.out, ← List.append_assoc, hO]
                          rw [hO] at HO
                          obtain ⟨xa, xb, xc, xd, xe⟩ := x
                          simp only [] at x0 x1 x2 x3 x4
                          obtain ⟨⟨ia1, ia2⟩, ⟨ib1, ib2⟩, ⟨ic1, ic2⟩, ⟨id1, id2⟩, ie1, ie2⟩ := hxi
                          simp only [] at ia1 ia2 ib1 ib2 ic1 ic2 id1 id2 ie1 ie2
                          have ea := encI_len xa (by omega)
                          have eb := encI_len xb (by omega)
                          have ec := encI_len xc (by omega)
                          have ed := encI_len xd (by omega)
                          have ee := encI_len (xe + 1) (by omega)
                          have hk1 : (q2 : Int) < (j : Int) := by omega
                          have hrbw : rb < wr.heap.size := by omega
                          clear hcs hx hk' hO hOl HM
                          go_wp2_with fail
                          obtain ⟨A0, hA0⟩ : ∃ A0, A0 = wr.alloc (.cells #[.int .i64 xa, .int .i64 xb, .int .i64 xc, .int .i64 xd, .int .i64 xe] 53) := ⟨_, rfl⟩
                          rw [← hA0]
                          have hba : Below wr.heap.size wr A0 := by rw [hA0]; exact (Below.refl _ _).alloc (Nat.le_refl _) _
                          have HC0 : Hid (BoxAt A0 wr.heap.size #[.int .i64 xa, .int .i64 xb, .int .i64 xc, .int .i64 xd, .int .i64 xe] 53) := by unfold Hid; rw [hA0]; exact boxAt_new wr _ _
                          have HO0 := Lib.hid (HO.out.calls hba)
                          have HB0 := Lib.hid (HB.out.trans (hba.mono (by omega)))
                          clear hA0 hba HO HB x0 x1 x2 x3 x4 s0 s1 s2 s3
                          have hBA := HB0.out.size
                          refine (rputk A0 (xa) (by omega) (by omega) _ (Kept.refl _)).mono ?_
                          rintro e y1 ⟨pa, pc, rfl, own1, kd1⟩
                          obtain ⟨z1, A1, hrun, own2, hg2⟩ := run_append_b (w := y1) 35 (HO0.out.calls kd1) own1.row (by (try simp only [List.length_append]); omega) (Nat.le_trans hBA kd1.size)
                          have HO1 := Lib.hid own2
                          have HB1 := Lib.hid (HB0.out.trans ((Below.mono kd1 hBA).grown hg2 (Nat.le_trans hBA kd1.size) (fun k hk2 => (World.ownsRow.lt (HO0.out.calls kd1) k hk2).1)))
                          have HC1 := Lib.hid ((BoxAt.calls HC0.out kd1).grown (HO0.out.calls kd1) hg2 (by decide))
                          have c1 := BoxAt.cell HC1.out (i := 1) rfl
                          clear HO0 HB0 HC0 own1 own2 kd1 hg2 hBA
                          go_wp2_with (at_builtin; refine Lib.wpList_append_run _ rfl _ _ _ _ rfl _ _ rfl rfl _ _ hrun ?_)
                          clear hrun
                          have hBA := HB1.out.size
                          refine (rputk A1 (xb) (by omega) (by omega) _ (Kept.refl _)).mono ?_
                          rintro e y1 ⟨pa, pc, rfl, own1, kd1⟩
                          obtain ⟨z2, A2, hrun, own2, hg2⟩ := run_append_b (w := y1) 35 (HO1.out.calls kd1) own1.row (by (try simp only [List.length_append]); omega) (Nat.le_trans hBA kd1.size)
                          have HO2 := Lib.hid own2
                          have HB2 := Lib.hid (HB1.out.trans ((Below.mono kd1 hBA).grown hg2 (Nat.le_trans hBA kd1.size) (fun k hk2 => (World.ownsRow.lt (HO1.out.calls kd1) k hk2).1)))
                          have HC2 := Lib.hid ((BoxAt.calls HC1.out kd1).grown (HO1.out.calls kd1) hg2 (by decide))
                          have c2 := BoxAt.cell HC2.out (i := 2) rfl
                          clear HO1 HB1 HC1 own1 own2 kd1 hg2 hBA
                          go_wp2_with (at_builtin; refine Lib.wpList_append_run _ rfl _ _ _ _ rfl _ _ rfl rfl _ _ hrun ?_)
                          clear hrun
                          have hBA := HB2.out.size
                          refine (rputk A2 (xc) (by omega) (by omega) _ (Kept.refl _)).mono ?_
                          rintro e y1 ⟨pa, pc, rfl, own1, kd1⟩
                          obtain ⟨z3, A3, hrun, own2, hg2⟩ := run_append_b (w := y1) 35 (HO2.out.calls kd1) own1.row (by (try simp only [List.length_append]); omega) (Nat.le_trans hBA kd1.size)
                          have HO3 := Lib.hid own2
                          have HB3 := Lib.hid (HB2.out.trans ((Below.mono kd1 hBA).grown hg2 (Nat.le_trans hBA kd1.size) (fun k hk2 => (World.ownsRow.lt (HO2.out.calls kd1) k hk2).1)))
                          have HC3 := Lib.hid ((BoxAt.calls HC2.out kd1).grown (HO2.out.calls kd1) hg2 (by decide))
                          have c3 := BoxAt.cell HC3.out (i := 3) rfl
                          clear HO2 HB2 HC2 own1 own2 kd1 hg2 hBA
                          go_wp2_with (at_builtin; refine Lib.wpList_append_run _ rfl _ _ _ _ rfl _ _ rfl rfl _ _ hrun ?_)
                          clear hrun
                          have hBA := HB3.out.size
                          refine (rputk A3 (xd) (by omega) (by omega) _ (Kept.refl _)).mono ?_
                          rintro e y1 ⟨pa, pc, rfl, own1, kd1⟩
                          obtain ⟨z4, A4, hrun, own2, hg2⟩ := run_append_b (w := y1) 35 (HO3.out.calls kd1) own1.row (by (try simp only [List.length_append]); omega) (Nat.le_trans hBA kd1.size)
                          have HO4 := Lib.hid own2
                          have HB4 := Lib.hid (HB3.out.trans ((Below.mono kd1 hBA).grown hg2 (Nat.le_trans hBA kd1.size) (fun k hk2 => (World.ownsRow.lt (HO3.out.calls kd1) k hk2).1)))
                          have HC4 := Lib.hid ((BoxAt.calls HC3.out kd1).grown (HO3.out.calls kd1) hg2 (by decide))
                          have c4 := BoxAt.cell HC4.out (i := 4) rfl
                          clear HO3 HB3 HC3 own1 own2 kd1 hg2 hBA
                          go_wp2_with (at_builtin; refine Lib.wpList_append_run _ rfl _ _ _ _ rfl _ _ rfl rfl _ _ hrun ?_)
                          clear hrun
                          have hBA := HB4.out.size
                          refine (rputk A4 (xe + 1) (by omega) (by omega) _ (Kept.refl _)).mono ?_
                          rintro e y1 ⟨pa, pc, rfl, own1, kd1⟩
                          obtain ⟨z5, A5, hrun, own2, hg2⟩ := run_append_b (w := y1) 35 (HO4.out.calls kd1) own1.row (by (try simp only [List.length_append]); omega) (Nat.le_trans hBA kd1.size)
                          have HO5 := Lib.hid own2
                          have HB5 := Lib.hid (HB4.out.trans ((Below.mono kd1 hBA).grown hg2 (Nat.le_trans hBA kd1.size) (fun k hk2 => (World.ownsRow.lt (HO4.out.calls kd1) k hk2).1)))
                          have HC5 := Lib.hid ((BoxAt.calls HC4.out kd1).grown (HO4.out.calls kd1) hg2 (by decide))
                          clear HO4 HB4 HC4 own1 own2 kd1 hg2 hBA
                          go_wp2_with (at_builtin; refine Lib.wpList_append_run _ rfl _ _ _ _ rfl _ _ rfl rfl _ _ hrun ?_)
                          clear hrun
                          have HO6 : Hid (Own A5 wo.heap.size z5 ((encI t ++ encI (q : Int) ++ s.rs.flatMap encRob ++ encI (j : Int)) ++ (s.ts.take (q2 + 1)).flatMap encJob)) := by
                            have h1 := HO5.out
                            unfold Hid
                            rw [HMO.out]
                            unfold encJob
                            simpa only [List.append_assoc] using h1
                          clear HC5 HO5 HMO
                          go_roundg (j - (q2 + 1))
                          case measure => omega
                          case rel => exact ⟨q2 + 1, by omega, Nat.le_refl _, by go_num, HO6.out, HB5.out⟩
                        · obtain rfl : q2 = j := by omega
                          rw [List.take_of_length_le (by rw [HN2.out]; exact Nat.le_refl _)] at HO
                          have hkk : ¬ (q2 : Int) < (q2 : Int) := by omega
                          clear hlt
                          go_wp2_with fail
                          have hOl := flat_le (f := encJob) (n := 50) (rs := s.ts) (fun r hr => encJob_le (HCAN.out.job r hr))
                          have hol := HOM.out
                          simp only [List.length_append] at hol
                          rw [HN2.out] at hOl
                          refine (rputk wr (m : Int) (by omega) (by omega) _ (Kept.refl _)).mono ?_
                          rintro e y1 ⟨pa, pc, rfl, own1, kd1⟩
                          have ej := encI_len (m : Int) (by omega)
                          obtain ⟨z1, y2, hrun, own2, hg2⟩ := run_append_b (w := y1) 35 (HO.out.calls kd1) own1.row (by simp only [List.length_append]; omega) (Nat.le_trans hzr kd1.size)
                          have hby : Below wo.heap.size wr y2 := (Below.mono kd1 hzr).grown hg2 (Nat.le_trans hzr kd1.size) (fun k hk2 => (World.ownsRow.lt (HO.out.calls kd1) k hk2).1)
                          have HB7 := Lib.hid (HB.out.trans hby)
                          have HO7 : Hid (Own y2 wo.heap.size z1 ((encI t ++ encI (q : Int) ++ s.rs.flatMap encRob ++ encI (q2 : Int) ++ s.ts.flatMap encJob ++ encI (m : Int)) ++ encG (-1) (s.bl.take 0))) := by
                            unfold Hid
                            rw [List.take_zero]
                            show Own y2 wo.heap.size z1 (_ ++ [])
                            rw [List.append_nil]
                            exact own2
                          have HON : Hid ((encI t ++ encI (q : Int) ++ s.rs.flatMap encRob ++ encI (q2 : Int) ++ s.ts.flatMap encJob ++ encI (m : Int)).length ≤ 120000) := by unfold Hid; simp only [List.length_append]; omega
                          obtain ⟨O, hO⟩ : ∃ O, encI t ++ encI (q : Int) ++ s.rs.flatMap encRob ++ encI (q2 : Int) ++ s.ts.flatMap encJob ++ encI (m : Int) = O := ⟨_, rfl⟩
                          rw [hO] at HO7 HON
                          have HES : Hid (encS s = O ++ encG (-1) s.bl) := by
                            unfold Hid encS
                            rw [← hO, HT.out, HN1.out, HN2.out, HN3.out]
                            rfl
                          clear own1 own2 kd1 hby hg2 HO HB hOl hol ej hO HOL HOM
                          go_wp2_with (at_builtin; refine Lib.wpList_append_run _ rfl _ _ _ _ rfl _ _ rfl rfl _ _ hrun ?_)
                          clear hrun s0 s1 s2 s3
                          go_loopg [11, 16] m (fun gg v i wr => ∃ ii : Nat, ii ≤ m ∧ m - ii ≤ gg ∧ i = .int .i64 ii ∧ Hid (Own wr wo.heap.size v (O ++ encG (-1) (s.bl.take ii))) ∧ Hid (Below wo.heap.size wo wr))
                          case atStart => exact ⟨0, Nat.zero_le _, by omega, rfl, HO7.out, HB7.out⟩
                          case round =>
                            clear HO7 HB7
                            obtain ⟨q3, hq, hgg5, rfl, HO, HB⟩ := hrel
                            have hzr := HB.out.size
                            have hqs : w.heap.size < wr.heap.size := by omega
                            obtain ⟨s0, s1, s2, s3⟩ := HSO.out.below HB.out hzo2
                            simp only [] at s0 s1 s2 s3
                            by_cases hlt : q3 < m
                            · obtain ⟨bb, bo, rfl, hbb, hcs⟩ := HINO.out.bl.cells (show 0 < m by omega)
                              have x0 := (HB.out.cell (p := ⟨bb, bo + q3, none⟩) (show bb < wo.heap.size by omega)).trans (hcs q3 hlt)
                              have hk' : q3 < s.bl.length := by rw [HN3.out]; exact hlt
                              have HM := Lib.hid (encG_take s.bl (-1) q3 hk')
                              have hup := (upIn_up HCAN.out.up).1
                              have hxb := hup (s.bl.getD q3 0) (by simp [List.getD, hk'])
                              have hOl := encG_le (s.bl.take q3) (-1) (by omega) (upIn_take q3 HCAN.out.up)
                              rw [List.length_take] at hOl
                              have hOL := HON.out
                              have hk1 : (q3 : Int) < (m : Int) := by omega
                              have hbw : bb < wr.heap.size := by omega
                              obtain ⟨x, hx⟩ : ∃ x, s.bl.getD q3 0 = x := ⟨_, rfl⟩
                              have HX := Lib.hid hx
                              rw [hx] at x0 HM hxb
                              obtain ⟨xb1, xb2⟩ := hxb
                              cases q3 with
                              | zero =>
                                have HM0 : Hid (encG (-1) (s.bl.take (0 + 1)) = encG (-1) (s.bl.take 0) ++ encI x) := by
                                  have h1 := HM.out
                                  rw [if_pos rfl, show x - -1 - 1 = x by omega] at h1
                                  exact h1
                                rw [Nat.add_zero] at x0
                                clear hcs hx hk' HM hup HX
                                go_wp2_with fail
                                refine (rputk wr x (by omega) (by omega) _ (Kept.refl _)).mono ?_
                                rintro e y1 ⟨pa, pc, rfl, own1, kd1⟩
                                have ej := encI_len x (by omega)
                                obtain ⟨z1, y2, hrun, own2, hg2⟩ := run_append_b (w := y1) 35 (HO.out.calls kd1) own1.row (by simp only [List.length_append]; omega) (Nat.le_trans hzr kd1.size)
                                have hby : Below wo.heap.size wr y2 := (Below.mono kd1 hzr).grown hg2 (Nat.le_trans hzr kd1.size) (fun k hk2 => (World.ownsRow.lt (HO.out.calls kd1) k hk2).1)
                                have HB8 := Lib.hid (HB.out.trans hby)
                                have HO8 : Hid (Own y2 wo.heap.size z1 (O ++ encG (-1) (s.bl.take (0 + 1)))) := by
                                  unfold Hid
                                  rw [HM0.out, ← List.append_assoc]
                                  exact own2
                                clear own1 own2 kd1 hby hg2 HO HB ej
                                go_wp2_with (at_builtin; refine Lib.wpList_append_run _ rfl _ _ _ _ rfl _ _ rfl rfl _ _ hrun ?_)
                                go_roundg (m - (0 + 1))
                                case measure => omega
                                case rel => exact ⟨0 + 1, by omega, Nat.le_refl _, by go_num, HO8.out, HB8.out⟩
                              | succ i =>
                                have him : i < m := by omega
                                have x1 := (HB.out.cell (p := ⟨bb, bo + i, none⟩) (show bb < wo.heap.size by omega)).trans (hcs i him)
                                have hyx := canS_up HCAN.out (i + 1) (by omega) hk'
                                have hyb := hup (s.bl.getD i 0) (by simp [List.getD, show i < s.bl.length by omega])
                                rw [show i + 1 - 1 = i by omega, HX.out] at hyx
                                rw [if_neg (by omega), show i + 1 - 1 = i by omega] at HM
                                obtain ⟨y, hy⟩ : ∃ y, s.bl.getD i 0 = y := ⟨_, rfl⟩
                                rw [hy] at x1 HM hyx hyb
                                obtain ⟨yb1, yb2⟩ := hyb
                                have hi1 : (i : Int) + 1 < (m : Int) := by omega
                                have hi0 : ((i : Int) + 1 == 0) = false := by simp; omega
                                clear hcs hx hk' hup HX hy
                                go_wp2_with fail
                                have hj1 : (0 : Int) ≤ (i : Int) + 1 := by omega
                                have hw1 : IntKind.i64.wrap ((i : Int) + 1 - 1) = (i : Int) := by
                                  rw [show (i : Int) + 1 - 1 = (i : Int) by omega]
                                  simp only [IntKind.wrap_i64]
                                  omega
                                have hw2 : IntKind.i64.wrap (i : Int) = (i : Int) := by
                                  simp only [IntKind.wrap_i64]
                                  omega
                                have hw3 : IntKind.i64.wrap (x - y) = x - y := by
                                  simp only [IntKind.wrap_i64]
                                  omega
                                have hw4 : IntKind.i64.wrap (x - y - 1) = x - y - 1 := by
                                  simp only [IntKind.wrap_i64]
                                  omega
                                have k0 : Kept wr wr := Kept.refl _
                                have hj2 : (0 : Int) ≤ (i : Int) := by omega
                                have hj3 : (i : Int) < (m : Int) := by omega
                                have HP := Lib.hid (rputk wr (x - y - 1) (by omega) (by omega))
                                have ej := encI_len (x - y - 1) (by omega)
                                have HLE : Hid ((O ++ encG (-1) (s.bl.take (i + 1))).length + (encI (x - y - 1)).length ≤ 100000000) := by unfold Hid; simp only [List.length_append]; omega
                                have hbo : bb < wo.heap.size := by omega
                                have HKA : Hid (∀ V, Below wo.heap.size wr V → Below wo.heap.size wr V ∧ V.cell? ⟨w.heap.size, 3, none⟩ = some (.slice (some ⟨bb, bo, none⟩) m c3) ∧ V.cell? ⟨bb, bo + (i + 1), none⟩ = some (.int .i64 x) ∧ V.cell? ⟨bb, bo + i, none⟩ = some (.int .i64 y)) := fun V hV => ⟨hV, (Below.cell hV (p := ⟨w.heap.size, 3, none⟩) hzo2).trans s3, (Below.cell hV (p := ⟨bb, bo + (i + 1), none⟩) hbo).trans x0, (Below.cell hV (p := ⟨bb, bo + i, none⟩) hbo).trans x1⟩
                                have kb0 : Below wo.heap.size wr wr := Below.refl _ _
                                go_region_held3 (fun V => Below wo.heap.size wr V ∧ V.cell? ⟨w.heap.size, 3, none⟩ = some (.slice (some ⟨bb, bo, none⟩) m c3) ∧ V.cell? ⟨bb, bo + (i + 1), none⟩ = some (.int .i64 x) ∧ V.cell? ⟨bb, bo + i, none⟩ = some (.int .i64 y))
                                  (first | exact HKA.out _ (by assumption) | exact HKA.out _ (Below.drew (by assumption)))
                                  (first
                                    | (go_at_call 27; refine (HP.out _ ?_).mono ?_; (first | exact Kept.refl _ | exact Kept.drew (Kept.refl _)); rintro e y1 ⟨pa, pc, rfl, own1, kd1⟩; have kb1 : Below wo.heap.size wr y1 := Below.mono kd1 hzr)
                                    | (refine step_append_b (A := wr) (B := wo.heap.size) rfl _ _ rfl rfl rfl (HO.out.calls kd1) own1 HLE.out hzr (Below.mono kd1 hzr) ?_; intro z1 y2 own2 hg2 kd2))
                                have HB8 := Lib.hid (HB.out.trans kd2)
                                have HO8 : Hid (Own y2 wo.heap.size z1 (O ++ encG (-1) (s.bl.take (i + 1 + 1)))) := by
                                  unfold Hid
                                  rw [HM.out, ← List.append_assoc]
                                  exact own2
                                clear own1 own2 kd1 kd2 hg2 HO HB ej HKA HP HLE kb1 kb0
                                go_wp2_with fail
                                go_roundg (m - (i + 1 + 1))
                                case measure => omega
                                case rel => exact ⟨i + 1 + 1, by omega, Nat.le_refl _, by go_num, HO8.out, HB8.out⟩
                            · obtain rfl : q3 = m := by omega
                              rw [List.take_of_length_le (by rw [HN3.out]; exact Nat.le_refl _), ← HES.out] at HO
                              have hkk : ¬ (q3 : Int) < (q3 : Int) := by omega
                              have HBF := Lib.hid ((HB1.out.trans ((HBO.out.trans (HB.out.mono hzo)).mono (by omega))))
                              have HOF := Lib.hid (HO.out.mono (show w.heap.size ≤ wo.heap.size by omega))
                              clear hlt HO HB
                              go_wp2_with fail
                              go_ret2
                              exact ⟨_, _, rfl, fun _ => ⟨rfl, HOF.out⟩, fun h => absurd HCAN.out h, HBF.out⟩

end Go.Proofs.Ytdhaoacnedgogaa.Vm
