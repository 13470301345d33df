/- The contract of dist.Nearest. The contract of dist.Nearest, whatever the cell. -/
import Derived.Test.YtopgboepkckkjaaLeadMath
import Derived.Test.YtopgboepkckkjaaFars
namespace Go.Proofs.Ytopgboepkckkjaa.Vm
open Go Go.RowKit Go.Maps Go.Shelf
attribute [local go_sem] Oper.semAt_some

/-- What Nearest hands back. -/
noncomputable def nearG (W H : Int) (l : List Nat) (bl of : List Int) (fr : Int) : Int × Int := nearS (fun x => farG W H l bl fr x) of
theorem nearS_none {d : Int → Int} : ∀ of : List Int, (∀ x, d x = -1) → nearS d of = (-1, -1) := by
  intro of h
  refine IsNear.only (nearS_is d of) (.inl ⟨rfl, fun x _ => by rw [h x]; omega⟩)
theorem nearG_no {W H : Int} {l : List Nat} {bl of : List Int} {fr : Int} (h : floorS l fr = false) : nearG W H l bl of fr = (-1, -1) := nearS_none of fun _ => farG_no1 h
theorem ret_ii {R : Int × Int} {a b : Int} (h : (a, b) = R) : Ending.returned (.tuple #[.int .i64 a, .int .i64 b]) = .returned (.tuple #[.int .i64 R.1, .int .i64 R.2]) := by rw [← h]

def NearPost (w : World) (W H : Int) (s : ByteArray) (bl of : List Int) (fr : Int) (e : Ending) (w' : World) : Prop :=
  e = .returned (.tuple #[.int .i64 (nearG W H (bytesOf s) bl of fr).1, .int .i64 (nearG W H (bytesOf s) bl of fr).2]) ∧ Below w.heap.size w w'


/-- What the loop of Nearest holds: the best and the least so far; the set of those that are wanted. -/
structure Hunt (b1 b2 bx mb m : Nat) (of : List Int) (R : Int × Int) (V : World) : Prop where
  k1 : V.cell? ⟨b1, 0, none⟩ = some (.int .i64 R.1)
  f1 : V.frozen? ⟨b1, 0, none⟩ = false
  k2 : V.cell? ⟨b2, 0, none⟩ = some (.int .i64 R.2)
  f2 : V.frozen? ⟨b2, 0, none⟩ = false
  k3 : V.cell? ⟨bx, 0, none⟩ = some (.map (some mb))
  k4 : ShutIn V mb m of
section
variable {b1 b2 bx mb m B : Nat} {of : List Int} {R : Int × Int} {V V' : World}
theorem Hunt.below (h : Hunt b1 b2 bx mb m of R V) (hb : Below B V V') (h1 : b1 < B) (h2 : b2 < B) (h3 : bx < B) (h4 : mb < B) : Hunt b1 b2 bx mb m of R V' :=
  ⟨(hb.cell (p := ⟨b1, 0, none⟩) h1).trans h.k1, (hb.frozen (p := ⟨b1, 0, none⟩) h1).trans h.f1, (hb.cell (p := ⟨b2, 0, none⟩) h2).trans h.k2, (hb.frozen (p := ⟨b2, 0, none⟩) h2).trans h.f2,
   (hb.cell (p := ⟨bx, 0, none⟩) h3).trans h.k3, h.k4.keep (hb.block mb h4)⟩
theorem Hunt.put (h : Hunt b1 b2 bx mb m of R V) (h12 : b1 ≠ b2) (h13 : b1 ≠ bx) (h23 : b2 ≠ bx) (h14 : mb ≠ b1) (h24 : mb ≠ b2) (x y : Int) :
    Hunt b1 b2 bx mb m of (x, y) ((V.setCell ⟨b1, 0, none⟩ (.int .i64 x)).setCell ⟨b2, 0, none⟩ (.int .i64 y)) := by
  have e1 : ∀ (W : World) (p : Nat) (v : Value) (k : Nat), k ≠ p → (W.setCell ⟨p, 0, none⟩ v).heap[k]? = W.heap[k]? := fun W p v k hk => Below.heap_setCell W _ v k hk
  refine ⟨?_, ?_, ?_, ?_, ?_, ?_⟩
  · exact (World.cell?_of_block (e1 _ _ _ _ h12)).trans (World.cell?_setCell_same' _ _ _ (by rw [h.k1]; rfl))
  · rw [World.frozen?_setCell, World.frozen?_setCell]; exact h.f1
  · exact World.cell?_setCell_same' _ _ _ (by rw [World.cell?_of_block (e1 _ _ _ _ (Ne.symm h12)), h.k2]; rfl)
  · rw [World.frozen?_setCell, World.frozen?_setCell]; exact h.f2
  · exact (World.cell?_of_block (e1 _ _ _ _ (Ne.symm h23))).trans ((World.cell?_of_block (e1 _ _ _ _ (Ne.symm h13))).trans h.k3)
  · exact h.k4.keep ((e1 _ _ _ _ h24).trans (e1 _ _ _ _ h14))
end

/-- Where the loop of Nearest begins: three boxes. -/
theorem near_head (w : World) (mb m : Nat) (of : List Int) (hm : ShutIn w mb m of) : ∃ w5, w5 = ((w.alloc (.cells #[.map (some mb)] 82)).alloc (.cells #[.int .i64 (-1)] 3)).alloc (.cells #[.int .i64 (-1)] 3) ∧ Below w.heap.size w w5 ∧ w5.heap.size = w.heap.size + 3 ∧
    Hunt (w.heap.size + 1) (w.heap.size + 1 + 1) w.heap.size mb m of (-1, -1) w5 := by
  have h1 : Below w.heap.size w (w.alloc (.cells #[.map (some mb)] 82)) := (Below.refl _ _).alloc (Nat.le_refl _) _
  have z1 : (w.alloc (.cells #[.map (some mb)] 82)).heap.size = w.heap.size + 1 := by simp
  have c1 : (w.alloc (.cells #[.map (some mb)] 82)).cell? ⟨w.heap.size, 0, none⟩ = some (.map (some mb)) := cell_top _ _ _ rfl
  generalize w.alloc (.cells #[.map (some mb)] 82) = u1 at h1 z1 c1
  have h2 : Below u1.heap.size u1 (u1.alloc (.cells #[.int .i64 (-1)] 3)) := (Below.refl _ _).alloc (Nat.le_refl _) _
  have z2 : (u1.alloc (.cells #[.int .i64 (-1)] 3)).heap.size = w.heap.size + 2 := by simp [z1]
  have c2 : (u1.alloc (.cells #[.int .i64 (-1)] 3)).cell? ⟨w.heap.size + 1, 0, none⟩ = some (.int .i64 (-1)) := cell_top _ _ _ z1.symm
  have f2 : (u1.alloc (.cells #[.int .i64 (-1)] 3)).frozen? ⟨w.heap.size + 1, 0, none⟩ = false := free_top _ _ _ z1.symm
  generalize u1.alloc (.cells #[.int .i64 (-1)] 3) = u2 at h2 z2 c2 f2
  have h3 : Below u2.heap.size u2 (u2.alloc (.cells #[.int .i64 (-1)] 3)) := (Below.refl _ _).alloc (Nat.le_refl _) _
  have h4 := (h1.trans (h2.mono (by omega))).trans (h3.mono (by omega))
  refine ⟨_, rfl, h4, by simp [z2], ⟨cell_low c2 _, (h3.frozen (p := ⟨w.heap.size + 1, 0, none⟩) (show w.heap.size + 1 < u2.heap.size by omega)).trans f2, cell_top _ _ _ z2.symm, free_top _ _ _ z2.symm, cell_low ((h2.cell (p := ⟨w.heap.size, 0, none⟩) (show w.heap.size < u1.heap.size by omega)).trans c1) _, hm.keep (h4.block mb hm.lt)⟩⟩

end Go.Proofs.Ytopgboepkckkjaa.Vm

namespace Go.Proofs.Ytopgboepkckkjaa.Vm
open Go Go.RowKit

end Go.Proofs.Ytopgboepkckkjaa.Vm
