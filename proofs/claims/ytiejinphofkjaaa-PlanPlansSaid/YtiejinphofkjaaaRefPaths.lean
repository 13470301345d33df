/- The contracts of layer 9's document functions Path, Rest; what is said of any function that finds paths. -/
import Derived.Test.YtiejinphofkjaaaRefSearch
import Derived.Test.YtiejinphofkjaaaRefFields
import Derived.Test.YtiejinphofkjaaaFarMath
namespace Go.Proofs.Ytiejinphofkjaaa.Vm
open Go Go.RowKit

/-- How far it is from each cell. -/
noncomputable def fieldG (W H : Int) (cells : List Nat) (bl : List Int) (to : Int) : List Int := (List.range cells.length).map fun c => farI (stepsS W H cells bl) to.toNat c
theorem fieldG_is (W H : Int) (cells : List Nat) (bl : List Int) (to : Int) : IsField (stepsS W H cells bl) to.toNat cells.length (fieldG W H cells bl to) := by
  refine ⟨by simp [fieldG], fun c hc => ?_⟩
  have e : (fieldG W H cells bl to).getD c 0 = farI (stepsS W H cells bl) to.toNat c := by simp [fieldG, List.getD, hc]
  rw [e]
  exact farI_case _ _ _
/-- The path, as the chapter has it. -/
noncomputable def pathG (W H : Int) (cells : List Nat) (bl : List Int) (oth : List (List Int)) (fr to : Int) : Option (List Int) :=
  if floorS cells to = true ∧ floorS cells fr = true then (pathS W H cells (fieldG W H cells bl to) bl oth 6 fr).map fun x => fr :: x.1 else none
/-- A path, or none. -/
def PathOut (r : Option (List Int)) (l : List Int) (b : Bool) : Prop := (r = none ∧ l = [] ∧ b = false) ∨ (r = some l ∧ b = true)
theorem PathOut.one {r : Option (List Int)} {l l' : List Int} {b b' : Bool} (h : PathOut r l b) (h' : PathOut r l' b') : l = l' ∧ b = b' := by
  rcases h with ⟨rfl, rfl, rfl⟩ | ⟨rfl, rfl⟩ <;> rcases h' with ⟨h1, rfl, rfl⟩ | ⟨h1, rfl⟩
  · exact ⟨rfl, rfl⟩
  · cases h1
  · cases h1
  · injection h1 with h1; exact ⟨h1, rfl⟩
/-- What is said of a function that finds paths. -/
def SaysPath (f : Nat) : Prop := ∀ (W H fr to : Int) (s : ByteArray) (bl : List Int) (oth : List (List Int)) (a1 a2 : Option Addr) (n1 c1 n2 c2 B : Nat) (w : World), Okay W H s → RowZ .i64 w B a1 n1 c1 bl → RowL w B a2 n2 c2 oth → B ≤ w.heap.size → n1 ≤ 1000 → n2 ≤ 1000 →
  (∀ q ∈ oth, q.length ≤ 1000) → WfZ bl → (∀ q ∈ oth, WfZ q) → (Lit.int .i64 fr).wf = true → (Lit.int .i64 to).wf = true →
  Calls Try.prog f #[gridV W H s, .int .i64 fr, .int .i64 to, .slice a1 n1 c1, .slice a2 n2 c2] w fun e w' =>
    ∃ a n c l b, e = .returned (.tuple #[.slice a n c, .bool b]) ∧ PathOut (pathG W H (bytesOf s) bl oth fr to) l b ∧ RowZ .i64 w' w'.heap.size a n c l ∧ Below w.heap.size w w'
theorem farI_most {W H : Int} {s : List Nat} {bl : List Int} {to c : Nat} (hto : to < s.length) : farI (stepsS W H s bl) to c ≤ s.length := by
  rcases farI_case (stepsS W H s bl) to c with ⟨n, h1, h2⟩ | ⟨h1, _⟩
  · rw [h1]
    have := h2.lt (N := s.length) (fun b c hb => step_from hb) hto
    omega
  · omega
theorem fieldG_bounds {W H : Int} {cells : List Nat} {bl : List Int} {to : Int} (hto : to.toNat < cells.length) (hN : cells.length ≤ 65536) (i : Nat) : (fieldG W H cells bl to).getD i 0 ≤ 65536 ∧ -1 ≤ (fieldG W H cells bl to).getD i 0 := by
  by_cases hi : i < cells.length
  · rw [(fieldG_is W H cells bl to).at hi]
    have h1 := farI_most (W := W) (H := H) (bl := bl) (c := i) hto
    have h2 := farI_ge (stepsS W H cells bl) to.toNat i
    omega
  · have : (fieldG W H cells bl to).length ≤ i := by rw [(fieldG_is W H cells bl to).1]; omega
    simp [List.getD, this]

set_option maxRecDepth 100000 in
set_option maxHeartbeats 1000000 in
theorem rpath_any : SaysPath 11 := by
  intro W H fr to s bl oth a1 a2 n1 c1 n2 c2 B w hok hr1 hr2 hB hn1 hn2 _ _ _ _ _
  have hsz := hok.le
  have hlen : (bytesOf s).length = s.size := bytesOf_len s
  have hb0 : Below w.heap.size w (w.alloc (gridO W H s)) := (Below.refl _ _).alloc (Nat.le_refl _) _
  have hg0 := gridAt_new w W H s
  have hz0 : (w.alloc (gridO W H s)).heap.size = w.heap.size + 1 := by simp
  generalize hw1 : w.alloc (gridO W H s) = w1 at hg0 hb0 hz0
  have HW1 := Lib.hid hw1
  have HB0 := Lib.hid hb0
  have HG0 := Lib.hid hg0
  have HR1 := Lib.hid hr1
  have HR2 := Lib.hid hr2
  clear hw1 hr1 hr2
  cases hft : floorS (bytesOf s) to with
  | false =>
    have HFI := Lib.hid (rfield_no W H to s a1 n1 c1 w1 (by unfold maxLen; omega) hft)
    have HE : Hid (pathG W H (bytesOf s) bl oth fr to = none) := by unfold Hid pathG; rw [if_neg (fun h => by rw [hft] at h; cases h.1)]
    obtain ⟨g1, g2, g3⟩ := hg0
    clear hft hb0
    go_enter Try.func11, Try.ntmps11
    go_wp2_with fail
    rw [HW1.out]
    refine HFI.out.mono ?_
    rintro e w2 ⟨rfl, hb2⟩
    have HB2 := Lib.hid (HB0.out.trans (hb2.mono (by omega)))
    clear hb2
    go_wp2_with fail
    go_ret2
    exact ⟨none, 0, 0, [], false, rfl, .inl ⟨HE.out, rfl, rfl⟩, ⟨rfl, Nat.le_refl _, by simp [maxLen], fun h => absurd h (by omega)⟩, HB2.out⟩
  | true =>
    have hto := floorS_in hft
    obtain ⟨to', rfl⟩ := Int.eq_ofNat_of_zero_le hto.1
    have HFI := Lib.hid (rfield_yes W H to' s bl a1 n1 c1 B w1 hok hft (HR1.out.below (hb0.mono hB)) (by omega) (by omega))
    obtain ⟨g1, g2, g3⟩ := hg0
    have HOK := Lib.hid hok
    have HFT := Lib.hid hft
    clear hft hb0
    go_enter Try.func11, Try.ntmps11
    go_wp2_with fail
    rw [HW1.out]
    refine HFI.out.mono ?_
    rintro e w2 ⟨lb, l, rfl, hfi, hnum, hb2⟩
    have hz2 := hb2.size
    have HB2 := Lib.hid (HB0.out.trans (hb2.mono (by omega)))
    have HFL : Hid (l = fieldG W H (bytesOf s) bl (to' : Nat)) := IsField.only hfi (by rw [← hlen]; exact fieldG_is W H (bytesOf s) bl (to' : Nat))
    obtain ⟨g1, g2, g3⟩ := HG0.out.below hb2 (by omega)
    have HFLO := Lib.hid (rfloor_any W H fr s w2 (by unfold maxLen; omega))
    have hll : l.length = s.size := hfi.1
    have hnr := hnum.row
    rw [hll] at hnr
    have HNR := Lib.hid hnr
    have hgb := Lib.hid fun i => fieldG_bounds (W := W) (H := H) (bl := bl) (to := (to' : Nat)) (cells := bytesOf s) (by rw [Int.toNat_natCast]; omega) (by omega) i
    cases hff : floorS (bytesOf s) fr with
    | false =>
      have HE : Hid (pathG W H (bytesOf s) bl oth fr (to' : Nat) = none) := by unfold Hid pathG; rw [if_neg (fun h => by rw [hff] at h; cases h.2)]
      rw [hff] at HFLO
      clear hff hnum hb2 hfi HFI hnr
      go_wp2_with fail
      refine HFLO.out.mono ?_
      rintro e w3 ⟨rfl, hb3⟩
      have HB3 := Lib.hid (HB2.out.trans (hb3.mono (by omega)))
      clear hb3
      go_wp2_with fail
      go_ret2
      exact ⟨none, 0, 0, [], false, rfl, .inl ⟨HE.out, rfl, rfl⟩, ⟨rfl, Nat.le_refl _, by simp [maxLen], fun h => absurd h (by omega)⟩, HB3.out⟩
    | true =>
      have HE : Hid (pathG W H (bytesOf s) bl oth fr (to' : Nat) = (pathS W H (bytesOf s) l bl oth 6 fr).map fun x => fr :: x.1) := by unfold Hid pathG; rw [if_pos ⟨HFT.out, hff⟩, HFL.out]
      rw [hff] at HFLO
      have HS := Lib.hid fun w' hr1 hr2 hr3 hB' => rsearch_any W H s HOK.out l bl oth (some ⟨lb, 0, none⟩) a1 a2 s.size s.size n1 c1 n2 c2 w2.heap.size hll (fun i => by have := (hgb.out i).1; rw [← HFL.out] at this; omega) (fun i => by have := (hgb.out i).2; rw [← HFL.out] at this; exact this) (by omega) (by omega) 6 0 fr w' rfl hr1 hr2 hr3 hB'
      clear hff hnum hb2 hfi HFI hnr
      go_wp2_with fail
      refine HFLO.out.mono ?_
      rintro e w3 ⟨rfl, hb3⟩
      have hz3 := hb3.size
      have HB3 := Lib.hid (HB2.out.trans (hb3.mono (by omega)))
      obtain ⟨g1, g2, g3⟩ := GridAt.below (⟨g1, g2, g3⟩ : GridAt w2 w.heap.size W H s) hb3 (by omega)
      have HS3 := Lib.hid (HS.out w3 (HNR.out.below hb3) (((HR1.out.below (HB2.out.mono hB)).mono (by omega)).below hb3) (((HR2.out.below (HB2.out.mono hB)).mono (by omega)).below hb3) hz3)
      clear hb3 HS
      cases hps : pathS W H (bytesOf s) l bl oth 6 fr with
      | none =>
        rw [hps] at HS3 HE
        clear hps
        go_wp2_with fail
        refine HS3.out.mono ?_
        rintro e w4 ⟨v1, v2, v3, rfl, ⟨rfl, rfl, rfl⟩, hb4⟩
        have HB4 := Lib.hid (HB3.out.trans (hb4.mono (by omega)))
        clear hb4
        go_wp2_with fail
        go_ret2
        exact ⟨none, 0, 0, [], false, rfl, .inl ⟨HE.out, rfl, rfl⟩, ⟨rfl, Nat.le_refl _, by simp [maxLen], fun h => absurd h (by omega)⟩, HB4.out⟩
      | some x =>
        have hxl := (pathS_steps hps).len
        rw [hps] at HS3 HE
        clear hps
        obtain ⟨x1, x2⟩ := x
        simp only [] at hxl
        go_wp2_with fail
        refine HS3.out.mono ?_
        rintro e w4 ⟨v1, v2, v3, rfl, ⟨a, n, cc, rfl, rfl, rfl, hrow⟩, hb4⟩
        have hs4 := hb4.size
        have HB4 := Lib.hid (HB3.out.trans (hb4.mono (by omega)))
        have hrl : x1.length = n := hrow.1
        have HROW := Lib.hid fun o => (hrow.below ((Below.refl w4.heap.size w4).alloc (Nat.le_refl _) o))
        have HOW := Lib.hid (ownZ_lit w4 fr (Nat.le_refl _))
        have HBA := Lib.hid fun o => (Below.refl w4.heap.size w4).alloc (Nat.le_refl _) o
        clear hb4 hrow HS3
        go_wp2_with (at_builtin; refine wpList_append_z rfl (.tmp 45) (.tmp 46) rfl rfl HOW.out rfl (HROW.out _) (by simp only [List.length_cons, List.length_nil]; omega) (HBA.out _).size ?_; intro v' w5 ho5 hb5)
        obtain ⟨a5, c5, rfl, hr5⟩ := ho5.row
        have HB5 := Lib.hid (HB4.out.trans (((HBA.out _).trans hb5).mono (by omega)))
        have HR5 := Lib.hid hr5
        clear ho5 hb5 hr5
        go_wp2_with fail
        go_ret2
        exact ⟨a5, _, c5, _, true, rfl, .inr ⟨HE.out, rfl⟩, HR5.out, HB5.out⟩

set_option maxRecDepth 100000 in
set_option maxHeartbeats 1000000 in
theorem rest_any (x : Int) (w : World) :
    Calls Try.prog 33 #[.int .i64 x] w fun e w' => ∃ a c, e = .returned (.slice a 7 c) ∧ RowZ .i64 w' w'.heap.size a 7 c (List.replicate 7 x) ∧ Below w.heap.size w w' := by
  go_enter Try.func33, Try.ntmps33
  go_wp2_with fail
  go_loopw [3, 4] (fun v i wr => ∃ k : Nat, k ≤ 7 ∧ i = .int .i64 k ∧ Hid (OwnZ wr w.heap.size v (List.replicate k x)) ∧ Hid (Below w.heap.size w wr)) (fun _ i _ => 7 - (intOf i).toNat)
  case atStart => exact ⟨0, Nat.zero_le _, rfl, World.ownsRow_nil _ _ _ _, Below.refl _ _⟩
  case round =>
    obtain ⟨k, hk, rfl, HO, HB⟩ := hrel
    by_cases hlt : k < 7
    · have hle : (k : Int) ≤ 6 := by omega
      have hsz := HB.out.size
      have HROW := Lib.hid ((ownZ_lit wr x (Nat.le_refl _)).rowAt (n := 1) rfl)
      have HOA := Lib.hid fun o => HO.out.calls ((Below.refl wr.heap.size wr).alloc (Nat.le_refl _) o)
      have HBA := Lib.hid fun o => HB.out.alloc HB.out.size o
      go_wp2_with (at_builtin; refine wpList_append_z rfl (.tmp 9) (.tmp 11) rfl rfl (HOA.out _) rfl HROW.out (by simp only [List.length_replicate]; omega) (HBA.out _).size ?_; intro v' w5 ho5 hb5)
      have HB5 := Lib.hid ((HBA.out _).trans hb5)
      have HO5 : Hid (OwnZ w5 w.heap.size v' (List.replicate (k + 1) x)) := by unfold Hid; rw [List.replicate_succ']; exact ho5
      clear ho5 hb5
      go_wp2_with fail
      go_roundw
      case rel => exact ⟨k + 1, by omega, by go_num, HO5.out, HB5.out⟩
      case measure => simp [intOf]; omega
    · obtain rfl : k = 7 := by omega
      obtain ⟨a, c, e, hr⟩ := HO.out.sliced (n := 7) (by simp)
      subst e
      have HR := Lib.hid hr
      clear hr
      go_wp2_with fail
      go_ret
      exact ⟨a, c, rfl, HR.out, HB.out⟩
end Go.Proofs.Ytiejinphofkjaaa.Vm
