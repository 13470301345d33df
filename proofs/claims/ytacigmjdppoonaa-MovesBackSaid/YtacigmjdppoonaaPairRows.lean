/- Pairs of numbers in new memory, and as they are read. No function of the program is named here. -/
import Derived.Test.YtacigmjdppoonaaAppendZ
namespace Go.Proofs.Ytacigmjdppoonaa.Vm
open Go Go.RowKit

def pairL (p : Nat × Nat) : List Value := [.int .i64 (p.1 : Nat), .int .i64 (p.2 : Nat)]
def pairsL (l : List (Nat × Nat)) : List Value := l.flatMap pairL
theorem pairsL_len : ∀ l : List (Nat × Nat), (pairsL l).length = l.length * 2
  | [] => rfl
  | x :: q => by
    have h := pairsL_len q
    unfold pairsL at h ⊢
    rw [List.flatMap_cons, List.length_append, h]
    simp [pairL]
    omega
theorem pairsL_append (a b : List (Nat × Nat)) : pairsL (a ++ b) = pairsL a ++ pairsL b := by simp [pairsL]
theorem pairsL_get : ∀ (l : List (Nat × Nat)) (j : Nat), (pairsL l)[j]? = (l[j / 2]?).bind fun r => (pairL r)[j % 2]?
  | [], j => by simp [pairsL]
  | r :: t, j => by
    have ih := pairsL_get t (j - 2)
    unfold pairsL at ih ⊢
    rw [List.flatMap_cons]
    by_cases h : j < 2
    · rw [List.getElem?_append_left (by simpa [pairL] using h), Nat.div_eq_of_lt h, Nat.mod_eq_of_lt h]
      rfl
    · rw [List.getElem?_append_right (by simp [pairL]; omega), show (pairL r).length = 2 from rfl, ih, show j / 2 = (j - 2) / 2 + 1 by omega, show j % 2 = (j - 2) % 2 by omega]
      rfl
/-- The slice '.slice a n c' holds these pairs, in a block below B. -/
def RowP (w : World) (B : Nat) (a : Option Addr) (n c : Nat) (l : List (Nat × Nat)) : Prop :=
  l.length = n ∧ n ≤ c ∧ c ≤ maxLen ∧
  (0 < n → ∃ b off, a = some ⟨b, off, none⟩ ∧ b < B ∧ ∀ i, i < n → w.cell? ⟨b, off + i * 2, none⟩ = some (.int .i64 ((l.getD i (0, 0)).1 : Nat)) ∧ w.cell? ⟨b, off + i * 2 + 1, none⟩ = some (.int .i64 ((l.getD i (0, 0)).2 : Nat)))
theorem RowP.below {w w' : World} {B : Nat} {a : Option Addr} {n c : Nat} {l : List (Nat × Nat)} (h : RowP w B a n c l) (hb : Below B w w') : RowP w' B a n c l :=
  ⟨h.1, h.2.1, h.2.2.1, fun hn => by
    obtain ⟨b, off, e, hlt, hc⟩ := h.2.2.2 hn
    exact ⟨b, off, e, hlt, fun i hi => ⟨(hb.cell (p := ⟨b, off + i * 2, none⟩) hlt).trans (hc i hi).1, (hb.cell (p := ⟨b, off + i * 2 + 1, none⟩) hlt).trans (hc i hi).2⟩⟩⟩
theorem RowP.mono {w : World} {B B' : Nat} {a : Option Addr} {n c : Nat} {l : List (Nat × Nat)} (h : RowP w B a n c l) (hB : B ≤ B') : RowP w B' a n c l :=
  ⟨h.1, h.2.1, h.2.2.1, fun hn => by
    obtain ⟨b, off, e, hlt, hc⟩ := h.2.2.2 hn
    exact ⟨b, off, e, by omega, hc⟩⟩
theorem RowP.cells {w : World} {B : Nat} {a : Option Addr} {n c : Nat} {l : List (Nat × Nat)} (h : RowP w B a n c l) (hn : 0 < n) : ∃ b off, a = some ⟨b, off, none⟩ ∧ b < B ∧ ∀ i, i < n → w.cell? ⟨b, off + i * 2, none⟩ = some (.int .i64 ((l.getD i (0, 0)).1 : Nat)) ∧ w.cell? ⟨b, off + i * 2 + 1, none⟩ = some (.int .i64 ((l.getD i (0, 0)).2 : Nat)) := h.2.2.2 hn
/-- The call owns these pairs. -/
def OwnPr (w : World) (B : Nat) (ty : TypeId) (v : Value) (l : List (Nat × Nat)) : Prop := w.ownsRow B ty 2 v l.length (pairsL l)
theorem OwnPr.nil (w : World) (B : Nat) (ty : TypeId) : OwnPr w B ty (.slice none 0 0) [] := World.ownsRow_nil _ _ _ _
theorem OwnPr.calls {w w' : World} {B : Nat} {ty : TypeId} {v : Value} {l : List (Nat × Nat)} (h : OwnPr w B ty v l) (hb : Below w.heap.size w w') : OwnPr w' B ty v l := own_upto h hb (fun k hk => (World.ownsRow.lt h k hk).2)
theorem OwnPr.row {w : World} {B : Nat} {ty : TypeId} {v : Value} {l : List (Nat × Nat)} (h : OwnPr w B ty v l) : ∃ a c, v = .slice a l.length c ∧ RowP w w.heap.size a l.length c l := by
  rcases h.2 with ⟨rfl, hn⟩ | ⟨g, cap, cur, rfl, hb, hg, hnc, hm, hcs, htk⟩
  · obtain rfl := List.eq_nil_of_length_eq_zero hn
    exact ⟨none, 0, rfl, rfl, Nat.le_refl _, by simp [maxLen], fun h => absurd h (by simp)⟩
  · have hc := World.ownsRow.cells h (g := g) rfl
    refine ⟨_, cap, rfl, rfl, hnc, hm, fun _ => ⟨g, 0, rfl, (Array.getElem?_eq_some_iff.1 hg).1, fun i hi => ?_⟩⟩
    have h4 : ∀ k, k < 2 → ∀ u, (pairL (l.getD i (0, 0)))[k]? = some u → w.cell? ⟨g, i * 2 + k, none⟩ = some u := fun k hk u hu => by
      have := hc (i * 2 + k) u (by
        rw [pairsL_get, show (i * 2 + k) / 2 = i by omega, show (i * 2 + k) % 2 = k by omega]
        simpa [List.getD, hi] using hu)
      rwa [Row.add, Nat.zero_add] at this
    rw [Nat.zero_add]
    exact ⟨h4 0 (by omega) _ rfl, h4 1 (by omega) _ rfl⟩
theorem two_cell (w : World) (u v : Value) (t : TypeId) : ∀ j x, [u, v][j]? = some x → (w.alloc (.cells #[u, v] t)).cell? ((⟨w.heap.size, 0, none⟩ : Addr).add j) = some x := by
  intro j x hj
  have hjn : j < 2 := by simpa using (List.getElem?_eq_some_iff.1 hj).1
  rw [Row.add, Nat.zero_add]
  match j, hjn with
  | 0, _ => simpa using hj
  | 1, _ => simpa using hj

end Go.Proofs.Ytacigmjdppoonaa.Vm
