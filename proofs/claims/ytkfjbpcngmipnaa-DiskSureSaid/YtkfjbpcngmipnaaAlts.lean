/- Worlds that are alike but for some blocks. No function of the program is named here. -/
import Derived.Test.YtkfjbpcngmipnaaOwns
namespace Go.Proofs.Ytkfjbpcngmipnaa.Vm
open Go Go.RowKit

/-- All but the blocks of S lies as at A. -/
structure Alt (S : Nat → Prop) (A V : World) : Prop where
  os : V.os = A.os
  tape : V.tape = A.tape
  output : V.output = A.output
  size : A.heap.size ≤ V.heap.size
  block : ∀ k, k < A.heap.size → ¬ S k → V.heap[k]? = A.heap[k]?
section
variable {S S' : Nat → Prop} {A V V' : World}
theorem Alt.refl (S : Nat → Prop) (A : World) : Alt S A A := ⟨rfl, rfl, rfl, Nat.le_refl _, fun _ _ _ => rfl⟩
theorem Alt.trans (h : Alt S A V) (h' : Alt S' V V') (hs : ∀ k, S' k → k < A.heap.size → S k) : Alt S A V' :=
  ⟨h'.os.trans h.os, h'.tape.trans h.tape, h'.output.trans h.output, Nat.le_trans h.size h'.size, fun k hk hn => (h'.block k (Nat.lt_of_lt_of_le hk h.size) (fun e => hn (hs k e hk))).trans (h.block k hk hn)⟩
theorem Alt.mono (h : Alt S A V) (hs : ∀ k, S k → k < A.heap.size → S' k) : Alt S' A V := ⟨h.os, h.tape, h.output, h.size, fun k hk hn => h.block k hk (fun e => hn (hs k e hk))⟩
theorem Alt.ofBelow (h : Below A.heap.size A V) : Alt S A V := ⟨h.os, h.tape, h.output, h.size, fun k hk _ => h.block k hk⟩
theorem Alt.calls (h : Alt S A V) (h' : Below A.heap.size V V') : Alt S A V' :=
  ⟨h'.os.trans h.os, h'.tape.trans h.tape, h'.output.trans h.output, Nat.le_trans h.size h'.size, fun k hk hn => (h'.block k hk).trans (h.block k hk hn)⟩
theorem Alt.drew (h : Alt S A V) : Alt S A V.drew := ⟨h.os, h.tape, h.output, h.size, h.block⟩
theorem Alt.drewN (h : Alt S A V) (n : Nat) : Alt S A (V.drewN n) := h.calls (below_drewN (Below.refl _ _) n)
theorem Alt.alloc (h : Alt S A V) (o : Obj) : Alt S A (V.alloc o) := h.calls ((Below.refl _ _).alloc h.size o)
theorem Alt.grown {mb : Nat} (h : Alt S A V) (hg : V.grownBy V' (some mb)) (hm : mb < A.heap.size → S mb) : Alt S A V' :=
  ⟨hg.os.trans h.os, hg.tape.trans h.tape, hg.output.trans h.output, Nat.le_trans h.size hg.size, fun k hk hn => (hg.block k (Nat.lt_of_lt_of_le hk h.size) (fun e => by injection e with e; subst e; exact hn (hm hk))).trans (h.block k hk hn)⟩
theorem Alt.cell (h : Alt S A V) {p : Addr} (hp : p.block < A.heap.size) (hn : ¬ S p.block) : V.cell? p = A.cell? p := World.cell?_of_block (h.block p.block hp hn)
theorem Alt.frozen (h : Alt S A V) {p : Addr} (hp : p.block < A.heap.size) (hn : ¬ S p.block) : V.frozen? p = A.frozen? p := World.frozen?_of_block (h.block p.block hp hn)
theorem Alt.below {B : Nat} (h : Alt S A V) (hs : ∀ k, S k → B ≤ k) (hA : B ≤ A.heap.size) : Below B A V :=
  ⟨h.os, h.tape, h.output, h.size, fun k hk => h.block k (by omega) (fun e => by have := hs k e; omega)⟩
end
end Go.Proofs.Ytkfjbpcngmipnaa.Vm
