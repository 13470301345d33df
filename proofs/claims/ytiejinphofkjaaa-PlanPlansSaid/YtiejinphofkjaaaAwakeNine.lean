/- What layer 9's awake reckons: three paths in a row of four cells, the paths of one robot without a goal. The contract of tuggerlaw09.awake. -/
import Derived.Test.YtiejinphofkjaaaPlansMath
import Derived.Test.YtiejinphofkjaaaAwakeMath
import Derived.Test.YtiejinphofkjaaaPlanPlansC
import Derived.Test.YtiejinphofkjaaaAwakeFour
namespace Go.Proofs.Ytiejinphofkjaaa.Vm
open Go Go.RowKit
set_option maxRecDepth 100000

/-- The row of awake. -/
abbrev mapN : ByteArray := ⟨#[46, 46, 46, 46]⟩
theorem mapN_okay : Okay 4 1 mapN := Okay.of (by decide +kernel)
theorem fieldN : fieldG 4 1 (bytesOf mapN) [] 2 = [2, 1, 0, 1] := by
  have h1 : IsField (stepsS 4 1 (bytesOf mapN) []) 2 4 [2, 1, 0, 1] := fieldB_field (by decide +kernel)
  have h2 := fieldG_is 4 1 (bytesOf mapN) [] 2
  exact IsField.only h2 h1
theorem floorN (k : Nat) (h : k < 4) : floorS (bytesOf mapN) (k : Int) = true := by
  have : ∀ k : Fin 4, floorS (bytesOf mapN) (k.val : Int) = true := by decide +kernel
  exact this ⟨k, h⟩
theorem pathN (oth : List (List Int)) (r : Option (List Int × Int)) (h : pathS 4 1 (bytesOf mapN) [2, 1, 0, 1] [] oth 6 0 = r) : pathG 4 1 (bytesOf mapN) [] oth 0 2 = r.map fun x => 0 :: x.1 := by
  unfold pathG
  rw [if_pos ⟨floorN 2 (by omega), floorN 0 (by omega)⟩, fieldN, h]
theorem path1 : pathG 4 1 (bytesOf mapN) [] [] 0 2 = some [0, 1, 2, 2, 2, 2, 2] := pathN [] (some ([1, 2, 2, 2, 2, 2], 1)) (by decide +kernel)
theorem path2 : pathG 4 1 (bytesOf mapN) [] [[1, 1, 1, 1, 1, 1, 1]] 0 2 = some [0, 0, 0, 0, 0, 0, 0] := pathN [[1, 1, 1, 1, 1, 1, 1]] (some ([0, 0, 0, 0, 0, 0], 12)) (by decide +kernel)
theorem path3 : pathG 4 1 (bytesOf mapN) [] [[9, 0], [9, 1]] 0 2 = none := pathN [[9, 0], [9, 1]] none (by decide +kernel)
/-- The state of awake. -/
abbrev stN : St := ⟨0, [⟨3, 0, 0, 9, 0⟩], [], []⟩
theorem stN_right : RightP (floorS (bytesOf mapN)) stN where
  tick := by decide
  rn := by decide
  tn := by decide
  rest i hi := by
    obtain rfl : i = 0 := by simpa using hi
    exact ⟨floorN 3 (by omega), fun k hk => absurd hk (by omega), by decide, by decide⟩
  job i hi := absurd hi (by simp)
  shut i hi := absurd hi (by simp)
  role i hi := absurd hi (by simp)
  mode i hi := by
    obtain rfl : i = 0 := by simpa using hi
    exact .inl ⟨.inl rfl, rfl⟩
theorem plansN : plansG 4 1 (bytesOf mapN) stN 1 = [[3, 3, 3, 3, 3, 3, 3]] := by
  have hg : goalG 4 1 (bytesOf mapN) stN ((0 : Nat) : Int) = (0, false) := by
    rw [goal_in (k := 0) (by decide) rfl]
    simp
  unfold plansG
  simp only [List.range_one, List.map_cons, List.map_nil]
  unfold planG
  rw [hg]
  rfl
end Go.Proofs.Ytiejinphofkjaaa.Vm

namespace Go.Proofs.Ytiejinphofkjaaa.Vm
open Go Go.RowKit Go.Maps
set_option maxRecDepth 100000

theorem rowL_mk {V : World} {b B n : Nat} {arr : Array Value} {t : TypeId} {ls : List (List Int)} (h : V.heap[b]? = some (.cells arr t (0, 0))) (hl : ls.length = n) (hb : b < B) (hm : n ≤ maxLen)
    (hr : ∀ i, i < n → ∃ a m c, arr[i]? = some (.slice a m c) ∧ RowZ .i64 V B a m c (ls.getD i [])) : RowL V B (some ⟨b, 0, none⟩) n n ls :=
  ⟨hl, Nat.le_refl _, hm, fun _ => ⟨b, 0, rfl, hb, fun i hi => by
    obtain ⟨a, m, c, e1, e2⟩ := hr i hi
    exact ⟨a, m, c, by rw [Nat.zero_add]; exact cell_heap h e1, e2⟩⟩⟩
theorem heap_new (w : World) (o : Obj) {k : Nat} (hk : k = w.heap.size) : (w.alloc o).heap[k]? = some o := by
  subst hk
  show (w.heap.push o)[w.heap.size]? = _
  rw [Array.getElem?_push, if_pos rfl]
theorem out_some {L l : List Int} {b : Bool} (h : PathOut (some L) l b) : l = L ∧ b = true := by
  rcases h with ⟨e, _, _⟩ | ⟨e, e2⟩
  · cases e
  · injection e with e; exact ⟨e.symm, e2⟩
theorem out_none {l : List Int} {b : Bool} (h : PathOut none l b) : l = [] ∧ b = false := by
  rcases h with ⟨_, e, e2⟩ | ⟨e, e2⟩
  · exact ⟨e, e2⟩
  · cases e

/-- What a path in awake's row answers. -/
theorem pathA_some {oth : List (List Int)} {L : List Int} (hp : pathG 4 1 (bytesOf mapN) [] oth 0 2 = some L) (hL : L.length = 7) (a2 : Option Addr) (n2 c2 B : Nat) (w : World) (hr : RowL w B a2 n2 c2 oth) (hB : B ≤ w.heap.size) (hn2 : n2 ≤ 1000) (hq : ∀ q ∈ oth, q.length ≤ 1000) (hw : ∀ q ∈ oth, WfZ q) :
    Calls Try.prog 10 #[gridV 4 1 mapN, .int .i64 0, .int .i64 2, .slice none 0 0, .slice a2 n2 c2] w fun e w' => ∃ a c, e = .returned (.tuple #[.slice a 7 c, .bool true]) ∧ RowZ .i64 w' w'.heap.size a 7 c L ∧ Below w.heap.size w w' :=
  (planPath_any 4 1 0 2 mapN [] oth none a2 0 0 n2 c2 B w mapN_okay (rowZ_nil _ _ _) hr hB (by omega) hn2 hq (by intro z hz; cases hz) hw (by decide) (by decide)).mono fun e w' ⟨a, n, c, l, b, he, ho, hrow, hb⟩ => by
    rw [hp] at ho
    obtain ⟨rfl, rfl⟩ := out_some ho
    obtain rfl : n = 7 := hrow.1.symm.trans hL
    exact ⟨a, c, he, hrow, hb⟩
theorem pathA_none {oth : List (List Int)} (hp : pathG 4 1 (bytesOf mapN) [] oth 0 2 = none) (a2 : Option Addr) (n2 c2 B : Nat) (w : World) (hr : RowL w B a2 n2 c2 oth) (hB : B ≤ w.heap.size) (hn2 : n2 ≤ 1000) (hq : ∀ q ∈ oth, q.length ≤ 1000) (hw : ∀ q ∈ oth, WfZ q) :
    Calls Try.prog 10 #[gridV 4 1 mapN, .int .i64 0, .int .i64 2, .slice none 0 0, .slice a2 n2 c2] w fun e w' => ∃ a c, e = .returned (.tuple #[.slice a 0 c, .bool false]) ∧ Below w.heap.size w w' :=
  (planPath_any 4 1 0 2 mapN [] oth none a2 0 0 n2 c2 B w mapN_okay (rowZ_nil _ _ _) hr hB (by omega) hn2 hq (by intro z hz; cases hz) hw (by decide) (by decide)).mono fun e w' ⟨a, n, c, l, b, he, ho, hrow, hb⟩ => by
    rw [hp] at ho
    obtain ⟨rfl, rfl⟩ := out_none ho
    obtain rfl : n = 0 := hrow.1.symm
    exact ⟨a, c, he, hb⟩

set_option maxHeartbeats 2000000 in
theorem awake9_any (w : World) : Calls Try.prog 7 #[] w fun e w' => e = .returned (.bool true) ∧ Below w.heap.size w w' := by
  obtain ⟨w1, hw1⟩ : ∃ w1, w1 = w.alloc (gridO 4 1 mapN) := ⟨_, rfl⟩
  have hb1 : Below w.heap.size w w1 := by rw [hw1]; exact (Below.refl _ _).alloc (Nat.le_refl _) _
  have hz1 : w1.heap.size = w.heap.size + 1 := by rw [hw1]; simp
  have hg1 : GridAt w1 w.heap.size 4 1 mapN := by rw [hw1]; exact gridAt_new w 4 1 mapN
  have H1 := Lib.hid (pathA_some path1 rfl none 0 0 0 w1 (rowL_nil _ _) (Nat.zero_le _) (by omega) (by intro q hq; cases hq) (by intro q hq; cases hq))
  have HG1 := Lib.hid hg1
  have HB1 := Lib.hid hb1
  have HZ1 := Lib.hid hz1
  have HW1 := Lib.hid hw1
  obtain ⟨g0, g1, g2⟩ := hg1
  rw [hw1] at g0 g1 g2
  clear hb1 hw1 hz1
  go_enter Try.func7, Try.ntmps7
  go_wp2_with fail
  rw [← HW1.out]
  refine H1.out.mono ?_
  rintro e w2 ⟨ra, rac, rfl, hra, hb2⟩
  have hz2 := hb2.size
  have hg2 := HG1.out.below hb2 (by have := HZ1.out; omega)
  obtain ⟨g0, g1, g2⟩ := id hg2
  have hlt2 : w.heap.size < w2.heap.size := by have := HZ1.out; omega
  -- the second
  obtain ⟨w3, hw3⟩ : ∃ w3, w3 = (w2.alloc (.cells #[.int .i64 1, .int .i64 1, .int .i64 1, .int .i64 1, .int .i64 1, .int .i64 1, .int .i64 1] 3)).alloc (.cells #[.slice (some ⟨w2.heap.size, 0, none⟩) 7 7] 29) := ⟨_, rfl⟩
  have hb3 : Below w2.heap.size w2 w3 := by rw [hw3]; exact ((Below.refl _ _).alloc (Nat.le_refl _) _).alloc (by simp) _
  have hz3 : w3.heap.size = w2.heap.size + 2 := by rw [hw3]; simp
  have hr3 : RowL w3 w3.heap.size (some ⟨w2.heap.size + 1, 0, none⟩) 1 1 [[1, 1, 1, 1, 1, 1, 1]] := by
    refine rowL_mk (arr := #[.slice (some ⟨w2.heap.size, 0, none⟩) 7 7]) (t := 29) (by rw [hw3]; exact heap_new _ _ (by simp)) rfl (by omega) (by simp [maxLen]) fun i hi => ?_
    obtain rfl : i = 0 := by omega
    refine ⟨_, _, _, rfl, ?_⟩
    have := rowZ_lit w2 [1, 1, 1, 1, 1, 1, 1] 3 (by simp) #[.int .i64 1, .int .i64 1, .int .i64 1, .int .i64 1, .int .i64 1, .int .i64 1, .int .i64 1] rfl
    have h2 : Below (w2.heap.size + 1) (w2.alloc (.cells #[.int .i64 1, .int .i64 1, .int .i64 1, .int .i64 1, .int .i64 1, .int .i64 1, .int .i64 1] 3)) w3 := by rw [hw3]; exact (Below.refl _ _).alloc (by simp) _
    exact (this.below h2).mono (by omega)
  have H3 := Lib.hid (pathA_some path2 rfl _ 1 1 w3.heap.size w3 hr3 (Nat.le_refl _) (by omega) (by intro q hq; simp at hq; subst hq; decide) (by intro q hq z hz; simp at hq; subst hq; simp at hz; subst hz; decide))
  have HG3 := Lib.hid (hg2.below hb3 hlt2)
  have HRA3 := Lib.hid (hra.below hb3)
  have HB3 := Lib.hid ((HB1.out.trans (hb2.mono (by have := HB1.out.size; omega))).trans (hb3.mono (by omega)))
  have HZ3 := Lib.hid hz3
  have HW3 := Lib.hid hw3
  obtain ⟨k0, k1, k2⟩ := HG3.out
  rw [hw3] at k0 k1 k2
  have HL2 := Lib.hid hlt2
  clear hb2 hg2 hra hz2 hw3 hb3 hz3 hr3 H1 HG1 HZ1
  go_wp2_with fail
  rw [← HW3.out]
  refine H3.out.mono ?_
  rintro e w4 ⟨rb, rbc, rfl, hrb, hb4⟩
  have hz4 := hb4.size
  have hlt4 : w.heap.size < w4.heap.size := by have := HL2.out; have := HZ3.out; omega
  have hg4 := HG3.out.below hb4 (by have := HL2.out; have := HZ3.out; omega)
  -- the third
  obtain ⟨w5, hw5⟩ : ∃ w5, w5 = ((w4.alloc (.cells #[.int .i64 9, .int .i64 0] 3)).alloc (.cells #[.int .i64 9, .int .i64 1] 3)).alloc (.cells #[.slice (some ⟨w4.heap.size, 0, none⟩) 2 2, .slice (some ⟨w4.heap.size + 1, 0, none⟩) 2 2] 29) := ⟨_, rfl⟩
  have hb5 : Below w4.heap.size w4 w5 := by rw [hw5]; exact (((Below.refl _ _).alloc (Nat.le_refl _) _).alloc (by simp) _).alloc (by simp; omega) _
  have hz5 : w5.heap.size = w4.heap.size + 3 := by rw [hw5]; simp
  have hr5 : RowL w5 w5.heap.size (some ⟨w4.heap.size + 2, 0, none⟩) 2 2 [[9, 0], [9, 1]] := by
    refine rowL_mk (arr := #[.slice (some ⟨w4.heap.size, 0, none⟩) 2 2, .slice (some ⟨w4.heap.size + 1, 0, none⟩) 2 2]) (t := 29) (by rw [hw5]; exact heap_new _ _ (by simp)) rfl (by omega) (by simp [maxLen]) fun i hi => ?_
    have h1 := rowZ_lit w4 [9, 0] 3 (by simp) #[.int .i64 9, .int .i64 0] rfl
    have h2 := rowZ_lit (w4.alloc (.cells #[.int .i64 9, .int .i64 0] 3)) [9, 1] 3 (by simp) #[.int .i64 9, .int .i64 1] rfl
    have hs : (w4.alloc (.cells #[.int .i64 9, .int .i64 0] 3)).heap.size = w4.heap.size + 1 := by simp
    rw [hs] at h2
    have b1 : Below (w4.heap.size + 1) (w4.alloc (.cells #[.int .i64 9, .int .i64 0] 3)) w5 := by rw [hw5]; exact ((Below.refl _ _).alloc (by simp) _).alloc (by simp) _
    have b2 : Below (w4.heap.size + 1 + 1) ((w4.alloc (.cells #[.int .i64 9, .int .i64 0] 3)).alloc (.cells #[.int .i64 9, .int .i64 1] 3)) w5 := by rw [hw5]; exact (Below.refl _ _).alloc (by simp) _
    match i, hi with
    | 0, _ => exact ⟨_, _, _, rfl, (h1.below b1).mono (by omega)⟩
    | 1, _ => exact ⟨_, _, _, rfl, (h2.below b2).mono (by omega)⟩
  have hw9 : ∀ q ∈ ([[9, 0], [9, 1]] : List (List Int)), WfZ q := by
    intro q hq z hz
    simp at hq
    rcases hq with rfl | rfl <;> (simp at hz; rcases hz with rfl | rfl <;> decide)
  have H5 := Lib.hid (pathA_none path3 _ 2 2 w5.heap.size w5 hr5 (Nat.le_refl _) (by omega) (by intro q hq; simp at hq; rcases hq with rfl | rfl <;> decide) hw9)
  have HG5 := Lib.hid (hg4.below hb5 hlt4)
  have HRA5 := Lib.hid (((HRA3.out.mono (by have := HZ3.out; omega)).below hb4).below (hb5.mono hz4))
  have HRB5 := Lib.hid (hrb.below hb5)
  have HB5 := Lib.hid ((HB3.out.trans (hb4.mono HB3.out.size)).trans (hb5.mono (by omega)))
  have HZ5 := Lib.hid hz5
  have HW5 := Lib.hid hw5
  obtain ⟨k0, k1, k2⟩ := hg4
  have hg5 := HG5.out
  obtain ⟨m0, m1, m2⟩ := hg5
  rw [hw5] at m0 m1 m2
  have HL4 := Lib.hid hlt4
  have HZ4 := Lib.hid hz4
  clear hb4 hrb hz4 hw5 hb5 hz5 hr5 hw9 HRA3 HB3 HZ3 HG3 H3
  go_wp2_with fail
  rw [← HW5.out]
  refine H5.out.mono ?_
  rintro e w6 ⟨rc, rcc, rfl, hb6⟩
  have hz6 := hb6.size
  have hlt6 : w.heap.size < w6.heap.size := by have := HL4.out; have := HZ5.out; omega
  have hg6 := HG5.out.below hb6 (by have := HL4.out; have := HZ5.out; omega)
  -- the state
  obtain ⟨w7, hw7⟩ : ∃ w7, w7 = (w6.alloc (.cells #[.int .i64 3, .int .i64 0, .int .i64 0, .int .i64 9, .int .i64 0] 46)).alloc (.cells #[.int .i64 0, .slice (some ⟨w6.heap.size, 0, none⟩) 1 1, .slice none 0 0, .slice none 0 0] 37) := ⟨_, rfl⟩
  have hb7 : Below w6.heap.size w6 w7 := by rw [hw7]; exact ((Below.refl _ _).alloc (Nat.le_refl _) _).alloc (by simp) _
  have hz7 : w7.heap.size = w6.heap.size + 2 := by rw [hw7]; simp
  have hin7 : StIn w7 w7.heap.size ⟨0, some ⟨w6.heap.size, 0, none⟩, 1, 1, none, 0, 0, none, 0, 0⟩ stN := by
    refine ⟨rfl, ⟨rfl, Nat.le_refl _, by simp [maxLen], fun _ => ⟨w6.heap.size, 0, rfl, by omega, fun i hi => ?_⟩⟩, RowR.nil _ _, rowZ_nil _ _ _⟩
    have hi : i < 1 := hi
    obtain rfl : i = 0 := by omega
    have h1 := recAt_new w6 ⟨3, 0, 0, 9, 0⟩ 46
    have b1 : Below (w6.heap.size + 1) (w6.alloc (.cells #[.int .i64 3, .int .i64 0, .int .i64 0, .int .i64 9, .int .i64 0] 46)) w7 := by rw [hw7]; exact (Below.refl _ _).alloc (by simp) _
    exact h1.below b1 (Nat.lt_succ_self _)
  have H7 := Lib.hid (planPlans_any 4 1 mapN _ stN w7.heap.size w7 mapN_okay hin7 (Nat.le_refl _) stN_right (Nat.zero_le _))
  have hst7 : w7.heap[w6.heap.size + 1]? = some (.cells #[.int .i64 0, .slice (some ⟨w6.heap.size, 0, none⟩) 1 1, .slice none 0 0, .slice none 0 0] 37 (0, 0)) := by rw [hw7]; exact heap_new _ _ (by simp)
  have s0 : w7.cell? ⟨w6.heap.size + 1, 0, none⟩ = some (.int .i64 0) := cell_heap hst7 rfl
  have s1 : w7.cell? ⟨w6.heap.size + 1, 1, none⟩ = some (.slice (some ⟨w6.heap.size, 0, none⟩) 1 1) := cell_heap hst7 rfl
  have s2 : w7.cell? ⟨w6.heap.size + 1, 2, none⟩ = some (.slice none 0 0) := cell_heap hst7 rfl
  have s3 : w7.cell? ⟨w6.heap.size + 1, 3, none⟩ = some (.slice none 0 0) := cell_heap hst7 rfl
  have hg7 := hg6.below hb7 hlt6
  have HRA7 := Lib.hid ((((HRA5.out.mono (by have := HZ5.out; have := HZ4.out; omega) : RowZ .i64 w5 w5.heap.size ra 7 rac [0, 1, 2, 2, 2, 2, 2])).below hb6).below (hb7.mono hz6))
  have HRB7 := Lib.hid ((((HRB5.out.mono (by have := HZ5.out; have := HZ4.out; omega) : RowZ .i64 w5 w5.heap.size rb 7 rbc [0, 0, 0, 0, 0, 0, 0])).below hb6).below (hb7.mono hz6))
  have HB7 := Lib.hid ((HB5.out.trans (hb6.mono HB5.out.size)).trans (hb7.mono (by omega)))
  have HZ7 := Lib.hid hz7
  have HZ6 := Lib.hid hz6
  have HW7 := Lib.hid hw7
  obtain ⟨n0, n1, n2⟩ := hg6
  obtain ⟨o0, o1, o2⟩ := hg7
  rw [hw7] at o0 o1 o2 s0 s1 s2 s3
  clear hb6 hz6 hw7 hb7 hz7 hin7 hst7 HG5 HB5 H5 HRA5 HRB5
  go_wp2_with fail
  rw [← HW7.out]
  refine H7.out.mono ?_
  rintro e w8 ⟨al, cl, rfl, hrl, hb8⟩
  have hz8 := hb8.size
  -- the first answer
  obtain ⟨w9, hw9⟩ : ∃ w9, w9 = w8.alloc (.cells #[.int .i64 0, .int .i64 1, .int .i64 2, .int .i64 2, .int .i64 2, .int .i64 2, .int .i64 2] 3) := ⟨_, rfl⟩
  have hb9 : Below w8.heap.size w8 w9 := by rw [hw9]; exact (Below.refl _ _).alloc (Nat.le_refl _) _
  have hz9 : w9.heap.size = w8.heap.size + 1 := by rw [hw9]; simp
  have hlit := rowZ_lit w8 [0, 1, 2, 2, 2, 2, 2] 3 (by simp) #[.int .i64 0, .int .i64 1, .int .i64 2, .int .i64 2, .int .i64 2, .int .i64 2, .int .i64 2] rfl
  rw [← hw9] at hlit
  have h57 : w5.heap.size ≤ w7.heap.size := by have := HZ6.out; have := HZ7.out; omega
  have H9 := Lib.hid (ints_anyZ ra _ 7 rac 7 7 (w8.heap.size + 1) _ [0, 1, 2, 2, 2, 2, 2] w9 (((HRA7.out.below (hb8.mono h57)).below (hb9.mono (by omega))).mono (by omega)) hlit)
  have HRL9 := Lib.hid (hrl.below hb9)
  have HRB9 := Lib.hid (((HRB7.out.below (hb8.mono h57)).below (hb9.mono (by omega))).mono (show w5.heap.size ≤ w9.heap.size by omega))
  have HB9 := Lib.hid ((HB7.out.trans (hb8.mono HB7.out.size)).trans (hb9.mono (by have := HB7.out.size; omega)))
  have HW9 := Lib.hid hw9
  have HZ9 := Lib.hid hz9
  have hpl : plansG 4 1 (bytesOf mapN) stN 1 = [[3, 3, 3, 3, 3, 3, 3]] := plansN
  have HRL9 : Hid (RowL w9 w8.heap.size al 1 cl [[3, 3, 3, 3, 3, 3, 3]]) := by unfold Hid; rw [← hpl]; exact HRL9.out
  clear hrl hb8 hz8 hw9 hb9 hz9 hlit h57 hpl H7
  go_wp2_with fail
  rw [← HW9.out]
  refine H9.out.mono ?_
  rintro e w10 ⟨rfl, md, rfl⟩
  obtain ⟨w11, hw11⟩ : ∃ w11, w11 = w9.drewN md := ⟨_, rfl⟩
  have hb11 : Below w9.heap.size w9 w11 := by rw [hw11]; exact below_drewN (Below.refl _ _) md
  rw [← hw11]
  have HRL11 := Lib.hid (HRL9.out.below (hb11.mono (by have := HZ9.out; omega)))
  have HRB11 := Lib.hid (HRB9.out.below hb11)
  have HB11 := Lib.hid (HB9.out.trans (hb11.mono HB9.out.size))
  have hz11 := hb11.size
  have HZ11 : Hid (w9.heap.size ≤ w11.heap.size) := hz11
  -- the second answer
  obtain ⟨w12, hw12⟩ : ∃ w12, w12 = w11.alloc (.cells #[.int .i64 0, .int .i64 0, .int .i64 0, .int .i64 0, .int .i64 0, .int .i64 0, .int .i64 0] 3) := ⟨_, rfl⟩
  have hb12 : Below w11.heap.size w11 w12 := by rw [hw12]; exact (Below.refl _ _).alloc (Nat.le_refl _) _
  have hlit := rowZ_lit w11 [0, 0, 0, 0, 0, 0, 0] 3 (by simp) #[.int .i64 0, .int .i64 0, .int .i64 0, .int .i64 0, .int .i64 0, .int .i64 0, .int .i64 0] rfl
  rw [← hw12] at hlit
  have H12 := Lib.hid (ints_anyZ rb _ 7 rbc 7 7 (w11.heap.size + 1) _ [0, 0, 0, 0, 0, 0, 0] w12 ((HRB11.out.below (hb12.mono (by omega))).mono (by omega)) hlit)
  have HRL12 := Lib.hid (HRL11.out.below (hb12.mono (by have := HZ9.out; omega)))
  have HB12 := Lib.hid (HB11.out.trans (hb12.mono HB11.out.size))
  have HW12 := Lib.hid hw12
  clear hw11 hb11 hz11 hw12 hb12 hlit
  go_wp2_with fail
  rw [← HW12.out]
  refine H12.out.mono ?_
  rintro e w13 ⟨rfl, me, rfl⟩
  obtain ⟨w14, hw14⟩ : ∃ w14, w14 = w12.drewN me := ⟨_, rfl⟩
  have hb14 : Below w12.heap.size w12 w14 := by rw [hw14]; exact below_drewN (Below.refl _ _) me
  rw [← hw14]
  have hrl14 : RowL w14 w8.heap.size al 1 cl [[3, 3, 3, 3, 3, 3, 3]] := by rw [hw14]; exact HRL12.out.below (below_drewN (Below.refl _ _) me)
  have HB14 := Lib.hid (HB12.out.trans (hb14.mono HB12.out.size))
  obtain ⟨bl, ol, rfl, hbl, hcl⟩ := hrl14.cells (by omega)
  obtain ⟨ar, nr, cr, hcr, hzr⟩ := hcl 0 (by omega)
  have hzr : RowZ .i64 w14 w8.heap.size ar nr cr [3, 3, 3, 3, 3, 3, 3] := hzr
  obtain rfl : nr = 7 := hzr.1.symm
  obtain ⟨br, oor, rfl, hbr, hcr7⟩ := hzr.cells (by omega)
  have h6 := hcr7 6 (by omega)
  have h6 : w14.cell? ⟨br, oor + 6, none⟩ = some (.int .i64 3) := h6
  rw [Nat.add_zero] at hcr
  have hm1 := hrl14.2.1
  have hm7 := hzr.2.1
  have hx1 := hrl14.2.2.1
  have hx7 := hzr.2.2.1
  unfold maxLen at hx1 hx7
  have ed1 : decide (([0, 1, 2, 2, 2, 2, 2] : List Int) = [0, 1, 2, 2, 2, 2, 2]) = true := decide_eq_true rfl
  have ed2 : decide (([0, 0, 0, 0, 0, 0, 0] : List Int) = [0, 0, 0, 0, 0, 0, 0]) = true := decide_eq_true rfl
  clear hw14 hb14 hrl14 hcl hzr hcr7
  go_wp2_with fail
  go_ret
  exact ⟨rfl, HB14.out⟩
end Go.Proofs.Ytiejinphofkjaaa.Vm
