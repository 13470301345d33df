/- The contract of varint.first, and of both Takes. The contract of varint.Text. The contracts of the document's Take and Text: they answer what the program's do. -/
import Derived.Test.YtplnaaokapilpaaDoorChecked
import Derived.Test.YtplnaaokapilpaaDoorMath
import Derived.Test.YtplnaaokapilpaaDoorWords
import Derived.Test.YtplnaaokapilpaaDoorRefPuts
import Derived.Test.YtplnaaokapilpaaDoorStrs
import Derived.Lib.Hide
namespace Go.Proofs.YtplnaaokapilpaaDoor.Vm
open Go.RowKit

theorem fin3 {D : Nat × Nat × Nat} {x y z : Nat} (h : D = (x, y, z)) : Ending.returned (.tuple #[.int .u64 (x : Nat), .int .i64 (y : Nat), .int .i64 (z : Nat)]) =
    .returned (.tuple #[.int .u64 (D.1 : Nat), .int .i64 (D.2.1 : Nat), .int .i64 (D.2.2 : Nat)]) := by rw [h]

theorem fin3' {D : Nat × Nat × Nat} {x y z : Nat} {X Y : Int} (h : D = (x, y, z)) (hx : X = x) (hy : Y = y) : Ending.returned (.tuple #[.int .u64 X, .int .i64 Y, .int .i64 (z : Nat)]) =
    .returned (.tuple #[.int .u64 (D.1 : Nat), .int .i64 (D.2.1 : Nat), .int .i64 (D.2.2 : Nat)]) := by rw [h, hx, hy]

set_option maxRecDepth 100000 in
set_option maxHeartbeats 400000 in
theorem first_any (a : Option Addr) (n c B : Nat) (zs : List Nat) (w : World) (h : Row .u8 w B a n c zs) (hn : n ≤ 10) (hz : ∀ x ∈ zs, x < 256) :
    Calls Tryd.prog 66 #[.slice a n c] w fun e w' =>
      e = .returned (.tuple #[.int .u64 ((dec 0 zs).1 : Nat), .int .i64 ((dec 0 zs).2.1 : Nat), .int .i64 ((dec 0 zs).2.2 : Nat)]) ∧ w = w' := by
  have hl : zs.length = n := h.1
  have HL := Lib.hid hl
  clear hl
  go_enter Tryd.func66, Tryd.ntmps66
  go_wp2
  go_loop [5, 10] (fun t i => ∃ k acc : Nat, k ≤ n ∧ acc < 128 ^ k ∧ i = .int .i64 k ∧ t = .int .u64 acc ∧ Hid (decTo k acc (zs.drop k) = dec 0 zs)) (fun _ i => n - (intOf i).toNat)
  case atStart => exact ⟨0, 0, Nat.zero_le _, by omega, rfl, rfl, decTo_start zs⟩
  case round =>
    obtain ⟨k, acc, hk, hacc, rfl, rfl, HD⟩ := hrel
    by_cases hlt : k < n
    · obtain ⟨b, off, rfl, hb, hcs⟩ := h.cells (by omega)
      have hcell := hcs k hlt
      clear hcs
      have hd : zs.drop k = zs.getD k 0 :: zs.drop (k + 1) := by
        have := HL.out
        rw [List.drop_eq_getElem_cons (by omega)]; simp [List.getD, show k < zs.length by omega]
      have hc : zs.getD k 0 < 256 := hz _ (by
        have := HL.out
        simp [List.getD, show k < zs.length by omega])
      generalize zs.getD k 0 = cc at hd hc hcell
      have HK := Lib.hid hd
      clear hd
      by_cases hb1 : Bad k cc
      · rcases hb1 with ⟨h1, h2⟩ | ⟨h1, h2⟩
        · have e1 : decide ((0 : Int) < (k : Int)) = true := by simp; omega
          have e2 : ((cc : Int) == 0) = true := by simp; omega
          have H2 := Lib.hid h2
          clear h2
          go_wp2
          go_ret3
          exact ⟨fin3 (HD.out.symm.trans (by rw [HK.out]; exact decTo_bad k acc cc _ (.inl ⟨h1, H2.out⟩))), rfl⟩
        · subst h1
          have e2 : ((cc : Int) == 0) = false := by simp; omega
          have e4 : decide ((1 : Int) < (cc : Int)) = true := by simp; omega
          go_wp2
          go_ret3
          exact ⟨fin3 (HD.out.symm.trans (by rw [HK.out]; exact decTo_bad 9 acc cc _ (.inr ⟨rfl, h2⟩))), rfl⟩
      · have HB := Lib.hid hb1
        have g1 : k = 0 ∨ cc ≠ 0 := by unfold Bad at hb1; omega
        have g2 : k ≠ 9 ∨ cc ≤ 1 := by unfold Bad at hb1; omega
        clear hb1
        have HG := Lib.hid g1
        have HG2 := Lib.hid g2
        clear g1 g2
        have hs := or_step k acc cc (by omega) hacc (by have := HG2.out; omega)
        have hlt' := step_lt k acc (cc % 128) hacc (by omega)
        have HS := Lib.hid hs
        have HLT := Lib.hid hlt'
        clear hs hlt'
        by_cases hk0 : k = 0
        · subst hk0
          rw [Nat.add_zero] at hcell
          obtain rfl : acc = 0 := by simpa using hacc
          by_cases hc2 : cc < 128
          · go_wp2
            go_ret3
            refine ⟨?_, rfl⟩
            exact fin3' (HD.out.symm.trans (by rw [HK.out]; exact decTo_last 0 0 cc _ HB.out hc2)) (by rw [or_step0]; simp; omega) rfl
          · go_wp2
            go_round
            case rel => exact ⟨1, cc % 128, by omega, by omega, rfl, by rw [or_step0], by unfold Hid; have := HD.out; rw [HK.out, decTo_more 0 0 cc _ HB.out hc2] at this; simpa using this⟩
            case measure => simp [intOf]; omega
        · by_cases hk9 : k = 9
          · obtain rfl : cc = 1 := by have := HG.out; have := HG2.out; omega
            subst hk9
            go_wp2
            go_ret3
            refine ⟨?_, rfl⟩
            exact fin3' (HD.out.symm.trans (by rw [HK.out]; exact decTo_last 9 acc 1 _ HB.out (by omega))) (by rw [or_step9 acc hacc]) rfl
          · have hk1 : 0 < k := by omega
            have e2 : ((cc : Int) == 0) = false := by have := HG.out; simp; omega
            have e3 : ((k : Int) == 9) = false := by simp; omega
            have hk8 : k < 9 := by omega
            clear hk0 hk9
            by_cases hc2 : cc < 128
            · go_wp2
              go_ret3
              refine ⟨?_, rfl⟩
              exact fin3' (HD.out.symm.trans (by rw [HK.out]; exact decTo_last k acc cc _ HB.out hc2)) (by rw [HS.out, Nat.mod_eq_of_lt hc2]) (by omega)
            · go_wp2
              go_round
              case rel => exact ⟨k + 1, acc + 128 ^ k * (cc % 128), by omega, HLT.out, by go_num, by rw [HS.out], by have := HD.out; rw [HK.out, decTo_more k acc cc _ HB.out hc2] at this; exact this⟩
              case measure => simp [intOf]; omega
    · go_wp2
      go_ret3
      have hkn : k = n := by omega
      exact ⟨fin3 (HD.out.symm.trans (by rw [hkn, List.drop_of_length_le (by rw [HL.out]; omega)]; exact decTo_nil _ _)), rfl⟩

set_option maxRecDepth 100000 in
set_option maxHeartbeats 400000 in
theorem take_out (a : Option Addr) (n c B : Nat) (zs : List Nat) (p : Int) (w : World) (h : Row .u8 w B a n c zs) (hp : p < 0 ∨ (n : Int) < p) :
    Calls Tryd.prog 43 #[.slice a n c, .int .i64 p] w fun e w' =>
      e = .returned (.tuple #[.int .u64 ((takeS zs p).1 : Nat), .int .i64 ((takeS zs p).2.1 : Nat), .int .i64 ((takeS zs p).2.2 : Nat)]) ∧ w = w' := by
  have e : takeS zs p = (0, 0, 1) := by unfold takeS; rw [h.1, if_pos hp]
  have HE := Lib.hid e
  clear e
  by_cases h0 : p < 0
  · go_enter Tryd.func43, Tryd.ntmps43
    go_wp2_with fail
    go_ret3
    exact ⟨fin3 HE.out, rfl⟩
  · have h1 : (n : Int) < p := by omega
    clear hp
    go_enter Tryd.func43, Tryd.ntmps43
    go_wp2_with fail
    go_ret3
    exact ⟨fin3 HE.out, rfl⟩

theorem first_of {a : Option Addr} {n c B : Nat} {zs : List Nat} {w : World} {x k e : Nat} (h : Row .u8 w B a n c zs) (hn : n ≤ 10) (hz : ∀ x ∈ zs, x < 256) (hd : dec 0 zs = (x, k, e)) :
    Calls Tryd.prog 66 #[.slice a n c] w fun e' w' =>
      e' = .returned (.tuple #[.int .u64 (x : Nat), .int .i64 (k : Nat), .int .i64 (e : Nat)]) ∧ w = w' := by
  have := first_any a n c B zs w h hn hz
  rw [hd] at this
  exact this

theorem dec_part {zs : List Nat} {p m : Nat} (hm : m = 10 ∨ zs.length = p + m) : dec 0 ((zs.drop p).take m) = dec 0 (zs.drop p) := by
  rcases hm with rfl | hm
  · exact dec_take 9 0 _ rfl
  · rw [List.take_of_length_le (by simp; omega)]

set_option maxRecDepth 100000 in
set_option maxHeartbeats 400000 in
theorem take_in (a : Option Addr) (n c B : Nat) (zs : List Nat) (p : Nat) (w : World) (h : Row .u8 w B a n c zs) (hz : ∀ x ∈ zs, x < 256) (hp : p ≤ n) :
    Calls Tryd.prog 43 #[.slice a n c, .int .i64 p] w fun e w' =>
      e = .returned (.tuple #[.int .u64 ((takeS zs p).1 : Nat), .int .i64 ((takeS zs p).2.1 : Nat), .int .i64 ((takeS zs p).2.2 : Nat)]) ∧ w = w' := by
  have hm := h.2.2.1
  have hnc := h.2.1
  have hl := h.1
  unfold maxLen at hm
  obtain ⟨x, k, e, hD⟩ : ∃ x k e, dec 0 (zs.drop p) = (x, k, e) := ⟨_, _, _, rfl⟩
  have hT : takeS zs p = if e = 0 then (x, p + k, 0) else (0, 0, e) := by
    unfold takeS
    rw [if_neg (by omega), Int.toNat_natCast, hD]
  have hk : e = 0 → p + k ≤ n := by
    intro he
    have := (dec_ok 9 0 (zs.drop p) rfl (fun x hx => hz x (List.mem_of_mem_drop hx)) (by rw [hD]; exact he)).2.2.1
    rw [hD] at this
    simp at this
    omega
  have HD := Lib.hid hD
  have HT := Lib.hid hT
  have HL := Lib.hid hl
  clear hD hT hl
  have hzd : ∀ m, ∀ x ∈ (zs.drop p).take m, x < 256 := fun m x hx => hz x (List.mem_of_mem_drop (List.mem_of_mem_take hx))
  have HZ := Lib.hid hzd
  clear hzd hz
  have HF : ∀ (m : Nat) (a' : Option Addr), m = 10 ∧ p + m ≤ n ∨ n = p + m ∧ m ≤ 10 → (∀ b off, a = some ⟨b, off, none⟩ → 0 < m → a' = some ⟨b, off + p, none⟩) →
      Calls Tryd.prog 66 #[.slice a' m m] w fun e' w' => e' = .returned (.tuple #[.int .u64 (x : Nat), .int .i64 (k : Nat), .int .i64 (e : Nat)]) ∧ w = w' := by
    intro m a' hm' ha'
    have hr := h.part (lo := p) (hi := p + m) (mx := p + m) (a' := a') (by omega) (by omega) (by omega) (by omega) (fun b off e1 e2 => ha' b off e1 (by omega))
    rw [Nat.add_sub_cancel_left] at hr
    exact first_of hr (by omega) (HZ.out _) ((dec_part (by have := HL.out; omega)).trans HD.out)
  have HF := Lib.hid HF
  have HK := Lib.hid hk
  clear hk
  have e0 : decide ((p : Int) < 0) = false := by simp
  by_cases h1 : p = n
  · subst h1
    go_enter Tryd.func43, Tryd.ntmps43
    go_wp2_with fail
    refine (HF.out 0 a (by omega) (by omega)).mono ?_
    rintro e' w' ⟨rfl, rfl⟩
    by_cases he : e = 0
    · subst he
      have hk := HK.out rfl
      have HT' := Lib.hid (HT.out.trans (if_pos rfl))
      clear HT
      go_wp2_with fail
      go_ret3
      exact ⟨fin3' HT'.out rfl (by omega), rfl⟩
    · have e1 : ((e : Int) != 0) = true := by rw [bne_iff_ne]; omega
      have HE := Lib.hid he
      clear he
      go_wp2_with fail
      go_ret3
      exact ⟨fin3 (HT.out.trans (if_neg HE.out)), rfl⟩
  have h1' : p < n := by omega
  clear h1
  by_cases h2 : n - p ≤ 10
  · have h2' : (n : Int) - p ≤ 10 := by omega
    go_enter Tryd.func43, Tryd.ntmps43
    go_wp2_with fail
    refine (HF.out (n - p) _ (by omega) (fun b off e1 _ => by rw [e1]; simp [Row.add])).mono ?_
    rintro e' w' ⟨rfl, rfl⟩
    by_cases he : e = 0
    · subst he
      have hk := HK.out rfl
      have HT' := Lib.hid (HT.out.trans (if_pos rfl))
      clear HT
      go_wp2_with fail
      go_ret3
      exact ⟨fin3' HT'.out rfl (by omega), rfl⟩
    · have e1 : ((e : Int) != 0) = true := by rw [bne_iff_ne]; omega
      have HE := Lib.hid he
      clear he
      go_wp2_with fail
      go_ret3
      exact ⟨fin3 (HT.out.trans (if_neg HE.out)), rfl⟩
  · have h2' : 10 < (n : Int) - p := by omega
    go_enter Tryd.func43, Tryd.ntmps43
    go_wp2_with fail
    refine (HF.out 10 _ (by omega) (fun b off e1 _ => by rw [e1]; simp [Row.add])).mono ?_
    rintro e' w' ⟨rfl, rfl⟩
    by_cases he : e = 0
    · subst he
      have hk := HK.out rfl
      have HT' := Lib.hid (HT.out.trans (if_pos rfl))
      clear HT
      go_wp2_with fail
      go_ret3
      exact ⟨fin3' HT'.out rfl (by omega), rfl⟩
    · have e1 : ((e : Int) != 0) = true := by rw [bne_iff_ne]; omega
      have HE := Lib.hid he
      clear he
      go_wp2_with fail
      go_ret3
      exact ⟨fin3 (HT.out.trans (if_neg HE.out)), rfl⟩
/-- varint.Take, whatever the place. -/
theorem take_any (a : Option Addr) (n c B : Nat) (zs : List Nat) (p : Int) (w : World) (h : Row .u8 w B a n c zs) (hz : ∀ x ∈ zs, x < 256) :
    Calls Tryd.prog 43 #[.slice a n c, .int .i64 p] w fun e w' =>
      e = .returned (.tuple #[.int .u64 ((takeS zs p).1 : Nat), .int .i64 ((takeS zs p).2.1 : Nat), .int .i64 ((takeS zs p).2.2 : Nat)]) ∧ w = w' := by
  by_cases hp : p < 0 ∨ (n : Int) < p
  · exact take_out a n c B zs p w h hp
  · obtain ⟨q, rfl⟩ := Int.eq_ofNat_of_zero_le (show 0 ≤ p by omega)
    exact take_in a n c B zs q w h hz (by omega)


end Go.Proofs.YtplnaaokapilpaaDoor.Vm

namespace Go.Proofs.YtplnaaokapilpaaDoor.Vm
open Go.RowKit

/-- What Text answers. -/
def textS (zs : List Nat) (p : Int) : List Nat × Nat × Nat :=
  if (takeS zs p).2.2 = 0 then
    if zs.length - (takeS zs p).2.1 < (takeS zs p).1 then ([], 0, 2) else ((zs.drop (takeS zs p).2.1).take (takeS zs p).1, (takeS zs p).2.1 + (takeS zs p).1, 0)
  else ([], 0, (takeS zs p).2.2)

theorem textS_eq {zs : List Nat} {p : Int} {n x q e : Nat} (hl : zs.length = n) (hD : takeS zs p = (x, q, e)) :
    textS zs p = if e = 0 then (if n - q < x then ([], 0, 2) else ((zs.drop q).take x, q + x, 0)) else ([], 0, e) := by
  unfold textS
  rw [hD, hl]

theorem fin3s {D : List Nat × Nat × Nat} {x : List Nat} {y z : Nat} {X : ByteArray} {Y : Int} (h : D = (x, y, z)) (hx : X = strOf x) (hy : Y = y) : Ending.returned (.tuple #[.string X, .int .i64 Y, .int .i64 (z : Nat)]) =
    .returned (.tuple #[.string (strOf D.1), .int .i64 (D.2.1 : Nat), .int .i64 (D.2.2 : Nat)]) := by rw [h, hx, hy]

end Go.Proofs.YtplnaaokapilpaaDoor.Vm

namespace Go.Proofs.YtplnaaokapilpaaDoor.Vm
open Go.RowKit

theorem ref_step (k acc cc u : Nat) (hk : k ≤ 9) (ha : acc < 128 ^ k) (h9 : k = 9 → cc % 128 ≤ 1) (hu : u = 128 ^ k) :
    IntKind.u64.wrap ((acc : Int) + IntKind.u64.wrap ((cc : Int) % 128 * (u : Int))) = ((acc + 128 ^ k * (cc % 128) : Nat) : Int) := by
  have h64 := step_64 k acc (cc % 128) hk ha (by omega) h9
  subst hu
  have e : ((cc : Int) % 128 * ((128 ^ k : Nat) : Int)) = ((128 ^ k * (cc % 128) : Nat) : Int) := by
    rw [Nat.mul_comm]
    push_cast
    rfl
  rw [e, IntKind.wrap_u64, IntKind.wrap_u64]
  omega

theorem ref_unit (k u : Nat) (hk : k ≤ 8) (hu : u = 128 ^ k) : IntKind.u64.wrap ((u : Int) * 128) = ((128 ^ (k + 1) : Nat) : Int) := by
  have h := pow_le9 (k := k + 1) (by omega)
  rw [Nat.pow_succ] at h ⊢
  rw [IntKind.wrap_u64, hu]
  omega




end Go.Proofs.YtplnaaokapilpaaDoor.Vm
