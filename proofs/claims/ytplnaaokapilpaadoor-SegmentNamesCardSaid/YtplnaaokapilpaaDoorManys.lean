/- The contracts of Many, the program's and the document's, and of the document's Ints. -/
import Derived.Test.YtplnaaokapilpaaDoorRefTakes
import Derived.Test.YtplnaaokapilpaaDoorRefPuts
import Derived.Deep.QuietTactic
import Derived.BigQuiet
import Derived.Test.YtplnaaokapilpaaDoorSames
import Derived.Test.YtplnaaokapilpaaDoorAppendZ
namespace Go.Proofs.YtplnaaokapilpaaDoor.Vm
open Go.RowKit

/-- Many numbers, one behind the other, from a place on. -/
def manyF (zs : List Nat) (most : Nat) : Nat → Nat → List Nat × Nat × Nat
  | 0, p => ([], p, 0)
  | k + 1, p => if (takeS zs p).2.2 = 0 then
      if most < (takeS zs p).1 ∨ 2147483647 < (takeS zs p).1 then ([], 0, 4) else
        if (manyF zs most k (takeS zs p).2.1).2.2 = 0 then ((takeS zs p).1 :: (manyF zs most k (takeS zs p).2.1).1, (manyF zs most k (takeS zs p).2.1).2.1, 0) else ([], 0, (manyF zs most k (takeS zs p).2.1).2.2)
    else ([], 0, (takeS zs p).2.2)

/-- What is taken so far, and the rest. -/
def manyTo (out : List Nat) (R : List Nat × Nat × Nat) : List Nat × Nat × Nat := if R.2.2 = 0 then (out ++ R.1, R.2.1, 0) else ([], 0, R.2.2)

theorem manyTo_start (zs : List Nat) (most k p : Nat) : manyTo [] (manyF zs most k p) = manyF zs most k p := by
  unfold manyTo
  by_cases h : (manyF zs most k p).2.2 = 0
  · rw [if_pos h]; exact Prod.ext (by simp) (Prod.ext rfl h.symm)
  · rw [if_neg h]
    cases k with
    | zero => simp [manyF] at h
    | succ k =>
      rw [manyF] at h ⊢
      split
      · split
        · rfl
        · split
          · rename_i h1 h2 h3; rw [if_pos h1, if_neg h2, if_pos h3] at h; simp at h
          · rfl
      · rfl

theorem manyTo_done (zs out : List Nat) (most p : Nat) : manyTo out (manyF zs most 0 p) = (out, p, 0) := by simp [manyTo, manyF]
theorem manyTo_err {zs out : List Nat} {most k p x q e : Nat} (hD : takeS zs p = (x, q, e)) (he : e ≠ 0) : manyTo out (manyF zs most (k + 1) p) = ([], 0, e) := by
  have : manyF zs most (k + 1) p = ([], 0, e) := by rw [manyF, hD, if_neg he]
  rw [this]; simp [manyTo, he]
theorem manyTo_much {zs out : List Nat} {most k p x q : Nat} (hD : takeS zs p = (x, q, 0)) (hx : most < x ∨ 2147483647 < x) : manyTo out (manyF zs most (k + 1) p) = ([], 0, 4) := by
  have : manyF zs most (k + 1) p = ([], 0, 4) := by rw [manyF, hD, if_pos rfl, if_pos hx]
  rw [this]; simp [manyTo]
theorem manyTo_more {zs out : List Nat} {most k p x q : Nat} (hD : takeS zs p = (x, q, 0)) (hx : ¬ (most < x ∨ 2147483647 < x)) : manyTo out (manyF zs most (k + 1) p) = manyTo (out ++ [x]) (manyF zs most k q) := by
  unfold manyTo
  by_cases h : (manyF zs most k q).2.2 = 0
  · have : manyF zs most (k + 1) p = (x :: (manyF zs most k q).1, (manyF zs most k q).2.1, 0) := by rw [manyF, hD, if_pos rfl, if_neg hx, if_pos h]
    rw [this, if_pos rfl, if_pos h]
    simp
  · have : manyF zs most (k + 1) p = ([], 0, (manyF zs most k q).2.2) := by rw [manyF, hD, if_pos rfl, if_neg hx, if_neg h]
    rw [this, if_neg h, if_neg h]

/-- What Many answers. -/
def manyS (zs : List Nat) (p many : Int) (most : Nat) : List Nat × Nat × Nat :=
  if p < 0 ∨ (zs.length : Int) < p ∨ many < 0 ∨ 100000 < many then ([], 0, 1) else manyF zs most many.toNat p.toNat

/-- Many's three results. -/
def ManyPost (w : World) (R : List Nat × Nat × Nat) (e : Ending) (w' : World) : Prop :=
  ∃ v, e = .returned (.tuple #[v, .int .i64 (R.2.1 : Nat), .int .i64 (R.2.2 : Nat)]) ∧ OwnI w' w.heap.size v R.1 ∧ Below w.heap.size w w'

theorem manyPost_nil {w w' : World} {R : List Nat × Nat × Nat} {er : Nat} (hR : R = ([], 0, er)) (hb : Below w.heap.size w w') : ManyPost w R (.returned (.tuple #[.slice none 0 0, .int .i64 0, .int .i64 (er : Nat)])) w' := by
  subst hR
  exact ⟨_, rfl, World.ownsRow_nil _ _ _ _, hb⟩

set_option maxRecDepth 100000 in
set_option maxHeartbeats 400000 in
theorem many_out (a : Option Addr) (n c : Nat) (zs : List Nat) (p many : Int) (most : Nat) (w : World) (h : Row .u8 w w.heap.size a n c zs) (hp : p < 0 ∨ (n : Int) < p ∨ many < 0 ∨ 100000 < many) :
    Calls Tryd.prog 50 #[.slice a n c, .int .i64 p, .int .i64 many, .int .u64 most] w (ManyPost w (manyS zs p many most)) := by
  have HE : Hid (manyS zs p many most = ([], 0, 1)) := by unfold Hid manyS; rw [h.1, if_pos hp]
  by_cases h0 : p < 0
  · clear hp
    go_enter Tryd.func50, Tryd.ntmps50
    go_wp2_with fail
    go_ret3
    exact manyPost_nil HE.out (Below.refl _ _)
  · by_cases h1 : (n : Int) < p
    · clear hp
      go_enter Tryd.func50, Tryd.ntmps50
      go_wp2_with fail
      go_ret3
      exact manyPost_nil HE.out (Below.refl _ _)
    · by_cases h2 : many < 0
      · clear hp
        go_enter Tryd.func50, Tryd.ntmps50
        go_wp2_with fail
        go_ret3
        exact manyPost_nil HE.out (Below.refl _ _)
      · have h3 : 100000 < many := by omega
        clear hp
        go_enter Tryd.func50, Tryd.ntmps50
        go_wp2_with fail
        go_ret3
        exact manyPost_nil HE.out (Below.refl _ _)

set_option maxRecDepth 100000 in
set_option maxHeartbeats 400000 in
theorem many_in (a : Option Addr) (n c : Nat) (zs : List Nat) (p many most : Nat) (w : World) (h : Row .u8 w w.heap.size a n c zs) (hz : ∀ x ∈ zs, x < 256) (hp : p ≤ n) (hmany : many ≤ 100000) (hmost : most < 18446744073709551616) :
    Calls Tryd.prog 50 #[.slice a n c, .int .i64 p, .int .i64 many, .int .u64 most] w (ManyPost w (manyF zs most many p)) := by
  obtain ⟨i0, hi0, hz0, hz1, hz2⟩ := info_parts info_int
  have hm := h.2.2.1
  have hnc := h.2.1
  have hl := h.1
  unfold maxLen at hm
  have HT : Hid (∀ (wr : World) (q : Nat), q ≤ n → Below w.heap.size w wr → Calls Tryd.prog 43 #[.slice a n c, .int .i64 q] wr fun e w' =>
      e = .returned (.tuple #[.int .u64 ((takeS zs q).1 : Nat), .int .i64 ((takeS zs q).2.1 : Nat), .int .i64 ((takeS zs q).2.2 : Nat)]) ∧ wr = w') :=
    fun wr q hq hb => take_in a n c _ zs q wr (h.below hb) hz hq
  have HL := Lib.hid hl
  have HZ := Lib.hid hz
  clear hl hz
  have e0 : decide ((p : Int) < 0) = false := by simp
  have e1 : decide (n < p) = false := by simp; omega
  have e2 : decide ((many : Int) < 0) = false := by simp
  have e3 : decide ((100000 : Int) < (many : Int)) = false := by simp; omega
  generalize hR : manyF zs most many p = R
  have HR := Lib.hid hR
  clear hR
  go_enter Tryd.func50, Tryd.ntmps50
  go_wp2_with fail
  go_loopw [1, 11, 32] (fun t v i wr => ∃ (k q : Nat) (out : List Nat), k ≤ many ∧ q ≤ n ∧ out.length ≤ 100000 ∧ i = .int .i64 k ∧ t = .int .i64 q ∧ OwnI wr w.heap.size v out ∧ Below w.heap.size w wr ∧ Hid (out.length = k) ∧ Hid (manyTo out (manyF zs most (many - k) q) = R)) (fun _ _ i _ => many - (intOf i).toNat)
  case atStart => exact ⟨0, p, [], Nat.zero_le _, hp, Nat.zero_le _, rfl, rfl, World.ownsRow_nil _ _ _ _, Below.refl _ _, rfl, (manyTo_start zs most many p).trans HR.out⟩
  case round =>
    obtain ⟨k, q, out, hk, hq, hol, rfl, rfl, hown, hbel, HO, HM⟩ := hrel
    by_cases hlt : k < many
    · obtain ⟨x, q', er, hD⟩ : ∃ x q' er, takeS zs q = (x, q', er) := ⟨_, _, _, rfl⟩
      have htk := HT.out wr q hq hbel
      rw [hD] at htk
      simp only [] at htk
      have HTK := Lib.hid htk
      have hok := takeS_ok (p := q) HZ.out
      rw [hD, HL.out] at hok
      simp only [] at hok
      have HM' : Hid (manyTo out (manyF zs most (many - (k + 1) + 1) q) = R) := by unfold Hid; rw [show many - (k + 1) + 1 = many - k by omega]; exact HM.out
      clear HM htk
      by_cases he : er = 0
      · subst he
        obtain ⟨_, _, _, hq', hx64, _⟩ := hok rfl
        clear hok
        by_cases hx : most < x ∨ 2147483647 < x
        · have HE := Lib.hid (HM'.out.symm.trans (manyTo_much hD hx))
          clear hD
          by_cases hx1 : most < x
          · clear hx
            go_wp2_with fail
            refine HTK.out.mono ?_
            rintro e w1 ⟨rfl, rfl⟩
            go_wp2_with fail
            go_ret3
            exact manyPost_nil HE.out hbel
          · have hx2 : 2147483647 < x := by omega
            clear hx
            go_wp2_with fail
            refine HTK.out.mono ?_
            rintro e w1 ⟨rfl, rfl⟩
            go_wp2_with fail
            go_ret3
            exact manyPost_nil HE.out hbel
        · have HE := Lib.hid ((manyTo_more hD hx).symm.trans HM'.out)
          have hx1 : ¬ most < x := by omega
          have hx2 : ¬ 2147483647 < x := by omega
          clear hD hx
          go_wp2_with fail
          refine HTK.out.mono ?_
          rintro e w1 ⟨rfl, rfl⟩
          go_wp2_with (at_builtin; refine wpList_append_own _ rfl (.tmp 51) (.tmp 54) 30 rfl w.heap.size 3 i0 (.int .i64 0) 1 8 Tryd.underlying30 hi0 hz0 hz1 hz2 rfl (by decide) _ _ _ rfl (World.ownsRow.alloc hown _) ⟨wr.heap.size, 0, none⟩ 1 1 [.int .i64 (x : Int)] rfl rfl (one_cell _ _ _) (by simp [Value.oneCell']) (by simp only [maxLen]; omega) (by omega) (by have := hbel.size; simp; omega) ?_; intro v' w2 hown1 hgrow1 _)
          have RR := push_stepI rfl hown hbel (Nat.le_refl _) hown1 hgrow1
          clear hown1 hgrow1 hown hbel
          go_wp2_with fail
          go_roundw
          case rel => exact ⟨k + 1, q', out ++ [x], by omega, hq', by have := HO.out; simp; omega, by go_num, rfl, RR.1, RR.2, by unfold Hid; simp [HO.out], HE.out⟩
          case measure => simp [intOf]; omega
      · have HE := Lib.hid (HM'.out.symm.trans (manyTo_err hD he))
        have f1 : ((er : Int) != 0) = true := by rw [bne_iff_ne]; omega
        clear hD he hok
        go_wp2_with fail
        refine HTK.out.mono ?_
        rintro e w1 ⟨rfl, rfl⟩
        go_wp2_with fail
        go_ret3
        exact manyPost_nil HE.out hbel
    · have HE : Hid (R = (out, q, 0)) := HM.out.symm.trans (by rw [show many - k = 0 by omega]; exact manyTo_done zs out most q)
      clear HM
      go_wp2_with fail
      go_ret3
      rw [HE.out]
      exact ⟨_, rfl, hown, hbel⟩

/-- Many, whatever it is given. -/
theorem many_any (a : Option Addr) (n c : Nat) (zs : List Nat) (p many : Int) (most : Nat) (w : World) (h : Row .u8 w w.heap.size a n c zs) (hz : ∀ x ∈ zs, x < 256) (hmost : most < 18446744073709551616) :
    Calls Tryd.prog 50 #[.slice a n c, .int .i64 p, .int .i64 many, .int .u64 most] w (ManyPost w (manyS zs p many most)) := by
  by_cases hp : p < 0 ∨ (n : Int) < p ∨ many < 0 ∨ 100000 < many
  · exact many_out a n c zs p many most w h hp
  · obtain ⟨q, rfl⟩ := Int.eq_ofNat_of_zero_le (show 0 ≤ p by omega)
    obtain ⟨m, rfl⟩ := Int.eq_ofNat_of_zero_le (show 0 ≤ many by omega)
    have e : manyS zs q m most = manyF zs most m q := by unfold manyS; rw [h.1, if_neg hp]; rfl
    rw [e]
    exact many_in a n c zs q m most w h hz (by omega) (by omega) hmost


end Go.Proofs.YtplnaaokapilpaaDoor.Vm
