import Derived.Lib.Hide
namespace Go.Proofs.YtknnnbpgkfaapaaGreat.Vm
theorem qz {p : Prop} (h : p) : Go.RowKit.Hid p := h
theorem zL (n : Nat) : n <= n := Nat.le_refl n
theorem zX (B : Nat) (w : Go.World) : Go.RowKit.Below B w w := Go.RowKit.Below.refl B w
end Go.Proofs.YtknnnbpgkfaapaaGreat.Vm
