/- What layer 10's awake reckons: a row of six cells, three robots, a task. The contract of tuggerlaw10.awake. -/
import Derived.Test.YtopgboepkckkjaaAssigns
import Derived.Test.YtopgboepkckkjaaAwakeMath
namespace Go.Proofs.Ytopgboepkckkjaa.Vm
open Go Go.RowKit
set_option maxRecDepth 100000

/-- The row of awake. -/
abbrev mapT : ByteArray := ⟨#[46, 46, 46, 46, 46, 46]⟩
theorem mapT_okay : Okay 6 1 mapT := Okay.of (by decide +kernel)
theorem floorT (k : Nat) (h : k < 6) : floorS (bytesOf mapT) (k : Int) = true := by
  have : ∀ k : Fin 6, floorS (bytesOf mapT) (k.val : Int) = true := by decide +kernel
  exact this ⟨k, h⟩
theorem farT {a b n : Nat} (ha : a < 6) (hb : b < 6) (h : farB (stepsS 6 1 (bytesOf mapT) []) b a n = true) : farG 6 1 (bytesOf mapT) [] (a : Nat) (b : Nat) = n := by
  rw [show farG 6 1 (bytesOf mapT) [] (a : Nat) (b : Nat) = farI (stepsS 6 1 (bytesOf mapT) []) b a from by unfold farG; rw [if_pos ⟨floorT a ha, floorT b hb⟩]; simp]
  exact farI_far (farB_far h)
theorem farT03 : farG 6 1 (bytesOf mapT) [] 0 3 = 3 := farT (a := 0) (b := 3) (by decide) (by decide) (by decide +kernel)
theorem farT53 : farG 6 1 (bytesOf mapT) [] 5 3 = 2 := farT (a := 5) (b := 3) (by decide) (by decide) (by decide +kernel)
/-- The state of awake. -/
abbrev stT : St := ⟨0, [⟨0, 0, 0, 500, 0⟩, ⟨5, 0, 0, 500, 0⟩, ⟨4, 0, 0, 9, 0⟩], [⟨8, 3, 1, 1, -1⟩], []⟩
theorem fit0 : FitD 6 1 (bytesOf mapT) stT 0 0 := ⟨rfl, by decide, by show 0 ≤ farG 6 1 (bytesOf mapT) [] 0 3; rw [farT03]; decide⟩
theorem fit1 : FitD 6 1 (bytesOf mapT) stT 0 1 := ⟨rfl, by decide, by show 0 ≤ farG 6 1 (bytesOf mapT) [] 5 3; rw [farT53]; decide⟩
theorem bestT : bestG 6 1 (bytesOf mapT) stT 0 = 1 := by
  have b1 : bestN 6 1 (bytesOf mapT) stT 0 1 = (0, 3) := by
    rw [bestN_yes fit0 (.inl (by decide))]
    have hf : farD 6 1 (bytesOf mapT) stT 0 0 = 3 := farT03
    rw [hf]; rfl
  have b2 : bestN 6 1 (bytesOf mapT) stT 0 2 = (1, 2) := by
    have hf : farD 6 1 (bytesOf mapT) stT 0 1 = 2 := farT53
    rw [bestN_yes fit1 (.inr (by rw [b1, hf]; decide)), hf]; rfl
  have b3 : bestN 6 1 (bytesOf mapT) stT 0 3 = (1, 2) := by
    rw [bestN_no (fun h => absurd h.1.2.1 (by decide)), b2]
  have := bestG_at (W := 6) (H := 1) (l := bytesOf mapT) (s := stT) (j := 0) (by decide) rfl
  rw [show ((0 : Nat) : Int) = 0 from rfl] at this
  rw [this]
  show (bestN 6 1 (bytesOf mapT) stT 0 3).1 = 1
  rw [b3]
theorem dispT : dispG 6 1 (bytesOf mapT) stT = (⟨0, [⟨0, 0, 0, 500, 0⟩, ⟨5, 1, 8, 500, 0⟩, ⟨4, 3, 0, 9, 0⟩], [⟨8, 3, 1, 2, 1⟩], []⟩, [(0, 1)]) := by
  have h1 : dispN 6 1 (bytesOf mapT) stT 1 = (giveS stT 0 1, [(0, 1)]) := by
    rw [dispN]
    simp only [dispN, show ((0 : Nat) : Int) = 0 from rfl, bestT]
    rfl
  unfold dispG
  rw [show stT.ts.length = 1 from rfl, h1]
  rfl
theorem stT_right : RightP (floorS (bytesOf mapT)) stT where
  tick := by decide
  rn := by decide
  tn := by decide
  rest i hi := by
    have hi : i < 3 := hi
    match i, hi with
    | 0, _ => exact ⟨floorT 0 (by omega), fun k hk => absurd hk (by omega), by decide, by decide⟩
    | 1, _ =>
      refine ⟨floorT 5 (by omega), fun k hk => ?_, by decide, by decide⟩
      obtain rfl : k = 0 := by omega
      decide
    | 2, _ =>
      refine ⟨floorT 4 (by omega), fun k hk => ?_, by decide, by decide⟩
      match k, hk with
      | 0, _ => decide
      | 1, _ => decide
  job i hi := by
    obtain rfl : i = 0 := by have hi : i < 1 := hi; omega
    exact ⟨by decide, fun k hk => absurd hk (by omega), by decide, floorT 3 (by omega), floorT 1 (by omega)⟩
  shut i hi := absurd hi (by simp)
  role i hi := by
    obtain rfl : i = 0 := by have hi : i < 1 := hi; omega
    exact .inl ⟨rfl, rfl⟩
  mode i hi := by
    have hi : i < 3 := hi
    match i, hi with
    | 0, _ => exact .inl ⟨.inl rfl, rfl⟩
    | 1, _ => exact .inl ⟨.inl rfl, rfl⟩
    | 2, _ => exact .inl ⟨.inl rfl, rfl⟩
theorem cell_at10 {w : World} {b i : Nat} {cs : Array Value} {t : TypeId} {v : Value} (e : w.heap[b]? = some (.cells cs t)) (h : cs[i]? = some v) : w.cell? ⟨b, i, none⟩ = some v := (cell_of_row w b i cs t (0, 0) e).trans h

set_option maxHeartbeats 2000000 in
theorem awake10_any (w : World) : Calls Try.prog 6 #[] w fun e w' => e = .returned (.bool true) ∧ Below w.heap.size w w' := by
  obtain ⟨w1, hw1⟩ : ∃ w1, w1 = w.alloc (gridO 6 1 mapT) := ⟨_, rfl⟩
  obtain ⟨w2, hw2⟩ : ∃ w2, w2 = w1.alloc (.cells #[.int .i64 0, .int .i64 0, .int .i64 0, .int .i64 500, .int .i64 0, .int .i64 5, .int .i64 0, .int .i64 0, .int .i64 500, .int .i64 0, .int .i64 4, .int .i64 0, .int .i64 0, .int .i64 9, .int .i64 0] 45) := ⟨_, rfl⟩
  obtain ⟨w3, hw3⟩ : ∃ w3, w3 = w2.alloc (.cells #[.int .i64 8, .int .i64 3, .int .i64 1, .int .i64 1, .int .i64 (-1)] 47) := ⟨_, rfl⟩
  obtain ⟨w4, hw4⟩ : ∃ w4, w4 = w3.alloc (shO ⟨0, some ⟨w1.heap.size, 0, none⟩, 3, 3, some ⟨w2.heap.size, 0, none⟩, 1, 1, none, 0, 0⟩) := ⟨_, rfl⟩
  have z1 : w1.heap.size = w.heap.size + 1 := by rw [hw1]; simp
  have z2 : w2.heap.size = w.heap.size + 2 := by rw [hw2]; simp [z1]
  have z3 : w3.heap.size = w.heap.size + 3 := by rw [hw3]; simp [z2]
  have z4 : w4.heap.size = w.heap.size + 4 := by rw [hw4]; simp [z3]
  have b1 : Below w.heap.size w w1 := by rw [hw1]; exact (Below.refl _ _).alloc (Nat.le_refl _) _
  have b2 : Below w1.heap.size w1 w2 := by rw [hw2]; exact (Below.refl _ _).alloc (Nat.le_refl _) _
  have b3 : Below w2.heap.size w2 w3 := by rw [hw3]; exact (Below.refl _ _).alloc (Nat.le_refl _) _
  have b4 : Below w3.heap.size w3 w4 := by rw [hw4]; exact (Below.refl _ _).alloc (Nat.le_refl _) _
  have e1 := heap_alloc_at w (gridO 6 1 mapT) rfl
  have e2 := heap_alloc_at w1 (.cells #[.int .i64 0, .int .i64 0, .int .i64 0, .int .i64 500, .int .i64 0, .int .i64 5, .int .i64 0, .int .i64 0, .int .i64 500, .int .i64 0, .int .i64 4, .int .i64 0, .int .i64 0, .int .i64 9, .int .i64 0] 45) rfl
  have e3 := heap_alloc_at w2 (.cells #[.int .i64 8, .int .i64 3, .int .i64 1, .int .i64 1, .int .i64 (-1)] 47) rfl
  rw [← hw1] at e1
  rw [← hw2] at e2
  rw [← hw3] at e3
  have g4 := (b4.block _ (by omega)).trans ((b3.block _ (by omega)).trans ((b2.block _ (by omega)).trans e1))
  have r4 := (b4.block _ (by omega)).trans ((b3.block _ (by omega)).trans e2)
  have t4 := (b4.block _ (by omega)).trans e3
  have hr : RowR w4 w4.heap.size (some ⟨w1.heap.size, 0, none⟩) 3 3 stT.rs := ⟨rfl, Nat.le_refl _, by simp [maxLen], fun _ => ⟨_, 0, rfl, by omega, fun i hi => by
    match i, hi with
    | 0, _ => exact ⟨cell_at10 r4 rfl, cell_at10 r4 rfl, cell_at10 r4 rfl, cell_at10 r4 rfl, cell_at10 r4 rfl⟩
    | 1, _ => exact ⟨cell_at10 r4 rfl, cell_at10 r4 rfl, cell_at10 r4 rfl, cell_at10 r4 rfl, cell_at10 r4 rfl⟩
    | 2, _ => exact ⟨cell_at10 r4 rfl, cell_at10 r4 rfl, cell_at10 r4 rfl, cell_at10 r4 rfl, cell_at10 r4 rfl⟩⟩⟩
  have ht : RowR w4 w4.heap.size (some ⟨w2.heap.size, 0, none⟩) 1 1 stT.ts := ⟨rfl, Nat.le_refl _, by simp [maxLen], fun _ => ⟨_, 0, rfl, by omega, fun i hi => by
    match i, hi with
    | 0, _ => exact ⟨cell_at10 t4 rfl, cell_at10 t4 rfl, cell_at10 t4 rfl, cell_at10 t4 rfl, cell_at10 t4 rfl⟩⟩⟩
  have hz0 : RowZ .i64 w4 w4.heap.size none 0 0 stT.bl := ⟨rfl, Nat.le_refl _, by simp [maxLen], fun h => absurd h (by omega)⟩
  have hin : StIn w4 w4.heap.size ⟨0, some ⟨w1.heap.size, 0, none⟩, 3, 3, some ⟨w2.heap.size, 0, none⟩, 1, 1, none, 0, 0⟩ stT := ⟨rfl, hr, ht, hz0⟩
  have hst := stAt_new w3 ⟨0, some ⟨w1.heap.size, 0, none⟩, 3, 3, some ⟨w2.heap.size, 0, none⟩, 1, 1, none, 0, 0⟩
  rw [← hw4, z3] at hst
  have HS4 := Lib.hid hst
  have HG4 := Lib.hid (box_grid g4)
  have HB4 := Lib.hid (((b1.trans (b2.mono (by omega))).trans (b3.mono (by omega))).trans (b4.mono (by omega)))
  have HIN := Lib.hid hin
  have HD := Lib.hid (pdisp_any 6 1 mapT _ stT w4.heap.size w4 mapT_okay hin (Nat.le_refl _) stT_right (Nat.zero_le _))
  rw [dispT] at HD
  have HBE := Lib.hid fun V (hV : Below w4.heap.size w4 V) => pbest_any 6 1 mapT _ stT 0 w4.heap.size V mapT_okay (hin.below hV) hV.size stT_right (Nat.zero_le _)
  rw [bestT] at HBE
  have HW4 : Hid (w4 = (((w.alloc (gridO 6 1 mapT)).alloc (.cells #[.int .i64 0, .int .i64 0, .int .i64 0, .int .i64 500, .int .i64 0, .int .i64 5, .int .i64 0, .int .i64 0, .int .i64 500, .int .i64 0, .int .i64 4, .int .i64 0, .int .i64 0, .int .i64 9, .int .i64 0] 45)).alloc (.cells #[.int .i64 8, .int .i64 3, .int .i64 1, .int .i64 1, .int .i64 (-1)] 47)).alloc (shO ⟨0, some ⟨w.heap.size + 1, 0, none⟩, 3, 3, some ⟨w.heap.size + 2, 0, none⟩, 1, 1, none, 0, 0⟩)) := by
    unfold Hid
    rw [hw4, hw3, hw2, z1, hw1]
    simp
  rw [z1, z2] at HD HBE HS4
  have hzz : w.heap.size + 4 ≤ w4.heap.size := by omega
  clear hin hr ht hz0 hst g4 r4 t4 e1 e2 e3 b1 b2 b3 b4 z1 z2 z3 z4 hw1 hw2 hw3 hw4
  obtain ⟨g0, g1, g2⟩ := id HG4.out
  obtain ⟨s0, s1, s2, s3⟩ := id HS4.out
  simp only [] at s0 s1 s2 s3
  rw [HW4.out] at g0 g1 g2 s0 s1 s2 s3
  go_enter Try.func6, Try.ntmps6
  go_wp2_with fail
  rw [← HW4.out]
  refine HD.out.mono ?_
  rintro e w5 ⟨h', ap, np, cp, rfl, hst5, hrow5, hb5⟩
  obtain ⟨w6, hw6⟩ : ∃ w6, w6 = w5.alloc (shO h') := ⟨_, rfl⟩
  have hb56 : Below w5.heap.size w5 w6 := by rw [hw6]; exact (Below.refl _ _).alloc (Nat.le_refl _) _
  have hx6 : StAt w6 w5.heap.size h' := by rw [hw6]; exact stAt_new w5 h'
  have hz5 := hb5.size
  have hz6 : w6.heap.size = w5.heap.size + 1 := by rw [hw6]; simp
  have hb46 := hb5.trans (hb56.mono hb5.size)
  have HB6 := Lib.hid (HB4.out.trans (hb46.mono HB4.out.size))
  have HC := Lib.hid (HBE.out w6 hb46)
  obtain ⟨g0, g1, g2⟩ := HG4.out.below hb46 (by omega)
  obtain ⟨s0, s1, s2, s3⟩ := HS4.out.below hb46 (by omega)
  simp only [] at s0 s1 s2 s3
  obtain rfl : np = 1 := hrow5.1.symm
  have hn1 : h'.n1 = 3 := hst5.rs.1.symm
  have hn2 : h'.n2 = 1 := hst5.ts.1.symm
  have HX6 := Lib.hid hx6
  have HR6 := Lib.hid (hrow5.below hb56)
  have HI6 := Lib.hid (hst5.below hb56)
  have HW6 := Lib.hid hw6
  have HZ6 := Lib.hid hz6
  obtain ⟨t', a1', n1', c1', a2', n2', c2', a3', n3', c3'⟩ := h'
  simp only [] at hn1 hn2
  subst hn1 hn2
  rw [hw6] at g0 g1 g2 s0 s1 s2 s3
  clear hst5 hrow5 hb5 hb56 hb46 hx6 hw6 hz5 hz6
  go_wp2_with fail
  rw [← HW6.out]
  refine HC.out.mono ?_
  rintro e w7 ⟨rfl, hb7⟩
  have HB7 := Lib.hid (HB6.out.trans (hb7.mono HB6.out.size))
  obtain ⟨x0, x1, x2, x3⟩ := HX6.out.below hb7 (by have := HZ6.out; omega)
  obtain ⟨pb, po, rfl, hpb, hpc⟩ := RowP.cells (HR6.out.below (hb7.mono (by have := HZ6.out; omega))) (by omega)
  obtain ⟨p0, p1⟩ := hpc 0 (by omega)
  have hi7 := HI6.out.below (hb7.mono (by have := HZ6.out; omega))
  obtain ⟨rb, ro, er, hrb, hrc⟩ := hi7.rs.cells (by show 0 < 3; omega)
  obtain ⟨tb, to_, et, htb, htc⟩ := hi7.ts.cells (by show 0 < 1; omega)
  simp only [] at er et x0 x1 x2 x3
  subst er et
  obtain ⟨u0, u1, u2, u3, u4⟩ := hrc 0 (by show 0 < 3; omega)
  obtain ⟨v0, v1, v2, v3, v4⟩ := hrc 1 (by show 1 < 3; omega)
  obtain ⟨y0, y1, y2, y3, y4⟩ := hrc 2 (by show 2 < 3; omega)
  obtain ⟨k0, k1, k2, k3, k4⟩ := htc 0 (by show 0 < 1; omega)
  simp only [List.getD_cons_zero, List.getD_cons_succ, Nat.zero_mul, Nat.add_zero, Nat.one_mul, Nat.reduceMul, Int.natCast_zero, Int.natCast_one] at p0 p1 u0 u1 u2 u3 u4 v0 v1 v2 v3 v4 y0 y1 y2 y3 y4 k0 k1 k2 k3 k4
  clear hrc htc hpc hi7 hb7 s0 s1 s2 s3 g0 g1 g2
  go_wp2_with fail
  go_ret
  exact ⟨rfl, HB7.out⟩
end Go.Proofs.Ytopgboepkckkjaa.Vm
