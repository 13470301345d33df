/- The contract of varint.Text. -/
import Derived.Test.YtgeonmojadkbjaaTakes
import Derived.Laws.BytesArg
namespace Go.Proofs.Ytgeonmojadkbjaa.Vm
open Go.RowKit

/-- Bytes as a string. -/
def strOf (l : List Nat) : ByteArray := ⟨(l.map UInt8.ofNat).toArray⟩

/-- What Text answers. -/
def textS (zs : List Nat) (p : Int) : List Nat × Nat × Nat :=
  if (takeS zs p).2.2 = 0 then
    if zs.length - (takeS zs p).2.1 < (takeS zs p).1 then ([], 0, 2) else ((zs.drop (takeS zs p).2.1).take (takeS zs p).1, (takeS zs p).2.1 + (takeS zs p).1, 0)
  else ([], 0, (takeS zs p).2.2)

theorem textS_eq {zs : List Nat} {p : Int} {n x q e : Nat} (hl : zs.length = n) (hD : takeS zs p = (x, q, e)) :
    textS zs p = if e = 0 then (if n - q < x then ([], 0, 2) else ((zs.drop q).take x, q + x, 0)) else ([], 0, e) := by
  unfold textS
  rw [hD, hl]

theorem conv_zero {P : Program} (w : World) (src e : TypeId) (hs : P.underlying src = some (.slice e)) (he : P.underlying e = some (.int .u8)) (p : Option Addr) (c : Nat) (dst : TypeId)
    (hd : P.underlying dst = some .string) : (convert src dst (.slice p 0 c)).run P w = .ok (.string (strOf [])) w := by
  rw [run_convert_bytes_string w src dst e _ 0 c hs he hd]
  cases p <;> simp [Conv.bytesToString, loadCells] <;> rfl

/-- 'string(b)'. -/
theorem conv_row {P : Program} {w : World} {B : Nat} {a : Option Addr} {n c : Nat} {zs : List Nat} (src e dst : TypeId) (hs : P.underlying src = some (.slice e)) (he : P.underlying e = some (.int .u8))
    (hd : P.underlying dst = some .string) (h : Row .u8 w B a n c zs) : (convert src dst (.slice a n c)).run P w = .ok (.string (strOf zs)) w := by
  rcases Nat.eq_zero_or_pos n with h0 | h0
  · subst h0
    have hl := h.1
    obtain rfl := List.eq_nil_of_length_eq_zero hl
    exact conv_zero w src e hs he a c dst hd
  · obtain ⟨b, off, rfl, _, hc⟩ := h.cells h0
    have hr := run_convert_bytes_arg w src e hs he b off n c (zs.map fun z : Nat => (z : Int)) (by simpa using h.1) (fun i hi => by
      rw [hc i hi]
      have := h.1
      simp [List.getD, show i < zs.length by omega]) dst hd
    rw [hr]
    congr 2
    simp [strOfNums, strOf]

theorem fin3s {D : List Nat × Nat × Nat} {x : List Nat} {y z : Nat} {X : ByteArray} {Y : Int} (h : D = (x, y, z)) (hx : X = strOf x) (hy : Y = y) : Ending.returned (.tuple #[.string X, .int .i64 Y, .int .i64 (z : Nat)]) =
    .returned (.tuple #[.string (strOf D.1), .int .i64 (D.2.1 : Nat), .int .i64 (D.2.2 : Nat)]) := by rw [h, hx, hy]

end Go.Proofs.Ytgeonmojadkbjaa.Vm
