/- The contract of varint.Text. -/
import Derived.Test.YtdhaoacnedgogaaTakes
import Derived.Test.YtdhaoacnedgogaaStrs
namespace Go.Proofs.Ytdhaoacnedgogaa.Vm
open Go.RowKit

/-- What Text answers. -/
def textS (zs : List Nat) (p : Int) : List Nat × Nat × Nat :=
  if (takeS zs p).2.2 = 0 then
    if zs.length - (takeS zs p).2.1 < (takeS zs p).1 then ([], 0, 2) else ((zs.drop (takeS zs p).2.1).take (takeS zs p).1, (takeS zs p).2.1 + (takeS zs p).1, 0)
  else ([], 0, (takeS zs p).2.2)

theorem textS_eq {zs : List Nat} {p : Int} {n x q e : Nat} (hl : zs.length = n) (hD : takeS zs p = (x, q, e)) :
    textS zs p = if e = 0 then (if n - q < x then ([], 0, 2) else ((zs.drop q).take x, q + x, 0)) else ([], 0, e) := by
  unfold textS
  rw [hD, hl]

theorem fin3s {D : List Nat × Nat × Nat} {x : List Nat} {y z : Nat} {X : ByteArray} {Y : Int} (h : D = (x, y, z)) (hx : X = strOf x) (hy : Y = y) : Ending.returned (.tuple #[.string X, .int .i64 Y, .int .i64 (z : Nat)]) =
    .returned (.tuple #[.string (strOf D.1), .int .i64 (D.2.1 : Nat), .int .i64 (D.2.2 : Nat)]) := by rw [h, hx, hy]

end Go.Proofs.Ytdhaoacnedgogaa.Vm
