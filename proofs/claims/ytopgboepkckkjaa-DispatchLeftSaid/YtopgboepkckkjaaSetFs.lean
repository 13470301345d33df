/- One number of one record in new memory, turned. No function of the program is named here. -/
import Derived.Test.YtopgboepkckkjaaStCopies
namespace Go.Proofs.Ytopgboepkckkjaa.Vm
open Go Go.RowKit

/-! One number of one record. -/
def setF (r : Rec) (j : Nat) (x : Int) : Rec :=
  match j with
  | 0 => ⟨x, r.b, r.c, r.d, r.e⟩
  | 1 => ⟨r.a, x, r.c, r.d, r.e⟩
  | 2 => ⟨r.a, r.b, x, r.d, r.e⟩
  | 3 => ⟨r.a, r.b, r.c, x, r.e⟩
  | _ => ⟨r.a, r.b, r.c, r.d, x⟩
theorem recL_setF (r : Rec) (x : Int) {j : Nat} (hj : j < 5) : (recL r).set j (.int .i64 x) = recL (setF r j x) := by
  match j, hj with
  | 0, _ => rfl
  | 1, _ => rfl
  | 2, _ => rfl
  | 3, _ => rfl
  | 4, _ => rfl
theorem recs_setF (x : Int) {j : Nat} (hj : j < 5) : ∀ (rs : List Rec) (i : Nat), i < rs.length → (recs rs).set (i * 5 + j) (.int .i64 x) = recs (rs.set i (setF (rs.getD i zr) j x))
  | r :: t, 0, _ => by
    show (recL r ++ recs t).set (0 * 5 + j) _ = recL (setF r j x) ++ recs t
    rw [Nat.zero_mul, Nat.zero_add, List.set_append_left _ _ (by simpa [recL] using hj), recL_setF r x hj]
  | r :: t, i + 1, hi => by
    have ih := recs_setF x hj t i (by simpa using hi)
    show (recL r ++ recs t).set ((i + 1) * 5 + j) _ = recL r ++ recs (t.set i (setF (t.getD i zr) j x))
    rw [← ih, List.set_append_right _ _ (by simp [recL]; omega), show (i + 1) * 5 + j - (recL r).length = i * 5 + j by simp [recL]; omega]
theorem OwnR.setF {w : World} {B lb c n i j : Nat} {ty : TypeId} {rs : List Rec} (h : OwnR w B ty (.slice (some ⟨lb, 0, none⟩) n c) rs) (hi : i < rs.length) (hj : j < 5) (x : Int) :
    OwnR (w.setCell ⟨lb, i * 5 + j, none⟩ (.int .i64 x)) B ty (.slice (some ⟨lb, 0, none⟩) n c) (rs.set i (setF (rs.getD i zr) j x)) := by
  have hn : n = rs.length := by
    obtain ⟨a', c', e⟩ := h.slice
    injection e
  subst hn
  have h1 := (World.ownsRow.stored h (i * 5 + j) (.int .i64 x)).1
  unfold OwnR
  rw [List.length_set, ← recs_setF x hj rs i hi]
  exact h1
theorem grown_setCell (w : World) (b i : Nat) (v : Value) : w.grownBy (w.setCell ⟨b, i, none⟩ v) (some b) :=
  ⟨rfl, rfl, rfl, by simp [World.setCell], fun k _ hne => Below.heap_setCell _ _ _ _ (fun e => hne (by rw [e]))⟩
theorem OwnR.at {w : World} {B n c : Nat} {ty : TypeId} {a : Option Addr} {rs : List Rec} (h : OwnR w B ty (.slice a n c) rs) (hn : 0 < rs.length) : ∃ lb, a = some ⟨lb, 0, none⟩ ∧ B ≤ lb ∧ lb < w.heap.size ∧ (∀ i, i < rs.length → RecAt w lb (i * 5) (rs.getD i zr)) ∧ ∀ i, w.frozen? ⟨lb, i, none⟩ = false := by
  rcases h.2 with ⟨hv, hn'⟩ | ⟨g, cap, cur, hv, hb, hg, _⟩
  · omega
  · have hnl : n = rs.length := by
      obtain ⟨a', c', e⟩ := h.slice
      injection e
    injection hv with h1 h2 h3
    subst h1 hnl
    obtain ⟨b, off, e, hlt, hc⟩ := h.row.cells hn
    injection e with e
    injection e with e1 e2
    subst e1 e2
    exact ⟨g, rfl, hb, hlt, fun i hi => by have := hc i hi; rwa [Nat.zero_add] at this, fun i => frozen_of_row w g i _ _ hg⟩
end Go.Proofs.Ytopgboepkckkjaa.Vm
