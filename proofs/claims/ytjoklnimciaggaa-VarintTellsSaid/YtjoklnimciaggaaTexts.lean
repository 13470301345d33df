/- The contract of varint.Text. -/
import Derived.Test.YtjoklnimciaggaaTakes
import Derived.Laws.BytesArg
namespace Go.Proofs.Ytjoklnimciaggaa.Vm
open Go.RowKit

/-- Bytes as a string. -/
def strOf (l : List Nat) : ByteArray := ⟨(l.map UInt8.ofNat).toArray⟩

/-- What Text answers. -/
def textS (zs : List Nat) (p : Int) : List Nat × Nat × Nat :=
  if (takeS zs p).2.2 = 0 then
    if zs.length - (takeS zs p).2.1 < (takeS zs p).1 then ([], 0, 2) else ((zs.drop (takeS zs p).2.1).take (takeS zs p).1, (takeS zs p).2.1 + (takeS zs p).1, 0)
  else ([], 0, (takeS zs p).2.2)

theorem textS_eq {zs : List Nat} {p : Int} {n x q e : Nat} (hl : zs.length = n) (hD : takeS zs p = (x, q, e)) :
    textS zs p = if e = 0 then (if n - q < x then ([], 0, 2) else ((zs.drop q).take x, q + x, 0)) else ([], 0, e) := by
  unfold textS
  rw [hD, hl]

theorem conv_zero {P : Program} (w : World) (src e : TypeId) (hs : P.underlying src = some (.slice e)) (he : P.underlying e = some (.int .u8)) (p : Option Addr) (c : Nat) (dst : TypeId)
    (hd : P.underlying dst = some .string) : (convert src dst (.slice p 0 c)).run P w = .ok (.string (strOf [])) w := by
  rw [run_convert_bytes_string w src dst e _ 0 c hs he hd]
  cases p <;> simp [Conv.bytesToString, loadCells] <;> rfl

/-- 'string(b)'. -/
theorem conv_row {P : Program} {w : World} {B : Nat} {a : Option Addr} {n c : Nat} {zs : List Nat} (src e dst : TypeId) (hs : P.underlying src = some (.slice e)) (he : P.underlying e = some (.int .u8))
    (hd : P.underlying dst = some .string) (h : Row .u8 w B a n c zs) : (convert src dst (.slice a n c)).run P w = .ok (.string (strOf zs)) w := by
  rcases Nat.eq_zero_or_pos n with h0 | h0
  · subst h0
    have hl := h.1
    obtain rfl := List.eq_nil_of_length_eq_zero hl
    exact conv_zero w src e hs he a c dst hd
  · obtain ⟨b, off, rfl, _, hc⟩ := h.cells h0
    have hr := run_convert_bytes_arg w src e hs he b off n c (zs.map fun z : Nat => (z : Int)) (by simpa using h.1) (fun i hi => by
      rw [hc i hi]
      have := h.1
      simp [List.getD, show i < zs.length by omega]) dst hd
    rw [hr]
    congr 2
    simp [strOfNums, strOf]

theorem takeS_ok {zs : List Nat} {p : Int} (hz : ∀ x ∈ zs, x < 256) (he : (takeS zs p).2.2 = 0) :
    0 ≤ p ∧ p.toNat < (takeS zs p).2.1 ∧ (takeS zs p).2.1 ≤ p.toNat + 10 ∧ (takeS zs p).2.1 ≤ zs.length ∧ (takeS zs p).1 < 18446744073709551616 ∧
      enc (takeS zs p).1 = (zs.drop p.toNat).take ((takeS zs p).2.1 - p.toNat) := by
  unfold takeS at he ⊢
  by_cases h1 : p < 0 ∨ (zs.length : Int) < p
  · rw [if_pos h1] at he; simp at he
  · rw [if_neg h1] at he ⊢
    by_cases h2 : (dec 0 (zs.drop p.toNat)).2.2 = 0
    · have h3 := dec_ok 9 0 (zs.drop p.toNat) rfl (fun x hx => hz x (List.mem_of_mem_drop hx)) h2
      obtain ⟨a1, a2, a3, a4, _, a6⟩ := h3
      rw [List.length_drop] at a3
      rw [if_pos h2]
      refine ⟨by omega, by simp only []; omega, by simp only []; omega, by simp only []; omega, by simp only []; omega, ?_⟩
      simp only []
      rw [a6, Nat.add_sub_cancel_left]
    · rw [if_neg h2] at he; exact absurd he h2

theorem takeS_err {zs : List Nat} {p : Int} (he : (takeS zs p).2.2 ≠ 0) : takeS zs p = (0, 0, (takeS zs p).2.2) := by
  unfold takeS at he ⊢
  by_cases h1 : p < 0 ∨ (zs.length : Int) < p
  · rw [if_pos h1]
  · rw [if_neg h1] at he ⊢
    by_cases h2 : (dec 0 (zs.drop p.toNat)).2.2 = 0
    · rw [if_pos h2] at he; simp at he
    · rw [if_neg h2]

theorem fin3s {D : List Nat × Nat × Nat} {x : List Nat} {y z : Nat} {X : ByteArray} {Y : Int} (h : D = (x, y, z)) (hx : X = strOf x) (hy : Y = y) : Ending.returned (.tuple #[.string X, .int .i64 Y, .int .i64 (z : Nat)]) =
    .returned (.tuple #[.string (strOf D.1), .int .i64 (D.2.1 : Nat), .int .i64 (D.2.2 : Nat)]) := by rw [h, hx, hy]

set_option maxRecDepth 100000 in
set_option maxHeartbeats 400000 in
theorem text_any (a : Option Addr) (n c B : Nat) (zs : List Nat) (p : Int) (w : World) (h : Row .u8 w B a n c zs) (hz : ∀ x ∈ zs, x < 256) :
    Calls Try.prog 12 #[.slice a n c, .int .i64 p] w fun e w' =>
      e = .returned (.tuple #[.string (strOf (textS zs p).1), .int .i64 ((textS zs p).2.1 : Nat), .int .i64 ((textS zs p).2.2 : Nat)]) ∧ w = w' := by
  have hm := h.2.2.1
  have hnc := h.2.1
  unfold maxLen at hm
  have hct := take_any a n c B zs p w h hz
  have hok := takeS_ok (p := p) hz
  obtain ⟨x, q, e, hD⟩ : ∃ x q e, takeS zs p = (x, q, e) := ⟨_, _, _, rfl⟩
  have hT := textS_eq h.1 hD
  rw [hD, h.1] at hok
  rw [hD] at hct
  simp only [] at hct hok
  have HC := Lib.hid hct
  clear hct
  have HT := Lib.hid hT
  clear hT hD
  by_cases he : e = 0
  · subst he
    obtain ⟨h0, h1, h2, h3, h4, _⟩ := hok rfl
    have HT1 := Lib.hid (HT.out.trans (if_pos rfl))
    clear HT hok
    by_cases hx : n - q < x
    · have HT2 := Lib.hid (HT1.out.trans (if_pos hx))
      clear HT1
      go_enter Try.func12, Try.ntmps12
      go_wp2_with fail
      refine HC.out.mono ?_
      rintro e' w' ⟨rfl, rfl⟩
      go_wp2_with fail
      go_ret3
      exact ⟨fin3s HT2.out rfl rfl, rfl⟩
    · have HT2 := Lib.hid (HT1.out.trans (if_neg hx))
      clear HT1
      have hr := h.part (lo := q) (hi := q + x) (mx := q + x) (a' := if x = 0 then a else Option.map (fun y => y.add q) a) (by omega) (by omega) (by omega) (by omega) (fun b off e1 e2 => by rw [if_neg (by omega), e1]; simp [Row.add])
      rw [Nat.add_sub_cancel_left] at hr
      have hcv := conv_row (P := Try.prog) 22 5 9 Try.underlying22 Try.underlying5 Try.underlying9 hr
      clear hr
      by_cases hx0 : x = 0
      · subst hx0
        rw [if_pos rfl] at hcv
        go_enter Try.func12, Try.ntmps12
        go_wp2_with fail
        refine HC.out.mono ?_
        rintro e' w' ⟨rfl, rfl⟩
        go_wp2_with fail
        go_ret3
        exact ⟨fin3s HT2.out rfl (by omega), rfl⟩
      · rw [if_neg hx0] at hcv
        have hx1 : 0 < x := by omega
        clear hx0
        go_enter Try.func12, Try.ntmps12
        go_wp2_with fail
        refine HC.out.mono ?_
        rintro e' w' ⟨rfl, rfl⟩
        go_wp2_with fail
        go_ret3
        exact ⟨fin3s HT2.out rfl (by omega), rfl⟩
  · have HT1 := Lib.hid (HT.out.trans (if_neg he))
    clear HT hok
    have e1 : ((e : Int) != 0) = true := by rw [bne_iff_ne]; omega
    clear he
    go_enter Try.func12, Try.ntmps12
    go_wp2_with fail
    refine HC.out.mono ?_
    rintro e' w' ⟨rfl, rfl⟩
    go_wp2_with fail
    go_ret3
    exact ⟨fin3s HT1.out rfl rfl, rfl⟩
end Go.Proofs.Ytjoklnimciaggaa.Vm
