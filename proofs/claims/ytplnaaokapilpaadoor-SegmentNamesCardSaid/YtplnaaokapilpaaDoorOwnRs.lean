/- Words for records in new memory ('OwnR'). -/
import Derived.Test.YtplnaaokapilpaaDoorStWords
import Derived.Test.YtplnaaokapilpaaDoorAppendZ
namespace Go.Proofs.YtplnaaokapilpaaDoor.Vm
open Go Go.RowKit

def recs (rs : List Rec) : List Value := rs.flatMap recL
theorem recs_len : ∀ rs : List Rec, (recs rs).length = rs.length * 5
  | [] => rfl
  | r :: t => by
    have := recs_len t
    unfold recs at this ⊢
    rw [List.flatMap_cons, List.length_append, this]
    simp [recL]
    omega
theorem recs_append (xs ys : List Rec) : recs (xs ++ ys) = recs xs ++ recs ys := by simp [recs]
theorem recs_get : ∀ (rs : List Rec) (j : Nat), (recs rs)[j]? = (rs[j / 5]?).bind fun r => (recL r)[j % 5]?
  | [], j => by simp [recs]
  | r :: t, j => by
    have ih := recs_get t (j - 5)
    unfold recs at ih ⊢
    rw [List.flatMap_cons]
    by_cases h : j < 5
    · rw [List.getElem?_append_left (by simpa [recL] using h), Nat.div_eq_of_lt h, Nat.mod_eq_of_lt h]
      rfl
    · rw [List.getElem?_append_right (by simp [recL]; omega), show (recL r).length = 5 from rfl, ih, show j / 5 = (j - 5) / 5 + 1 by omega, show j % 5 = (j - 5) % 5 by omega]
      rfl
theorem recs_one (rs : List Rec) : ∀ u ∈ recs rs, u.oneCell' = true := by
  intro u hu
  obtain ⟨r, _, hr⟩ := List.mem_flatMap.1 hu
  simp [recL] at hr
  rcases hr with rfl | rfl | rfl | rfl | rfl <;> rfl
theorem recs_at {rs : List Rec} {i : Nat} (hi : i < rs.length) (k : Nat) (hk : k < 5) : (recs rs)[i * 5 + k]? = (recL (rs.getD i zr))[k]? := by
  rw [recs_get, show (i * 5 + k) / 5 = i by omega, show (i * 5 + k) % 5 = k by omega]
  simp [List.getD, hi]

/-- The call owns these records. -/
def OwnR (w : World) (B : Nat) (ty : TypeId) (v : Value) (rs : List Rec) : Prop := w.ownsRow B ty 5 v rs.length (recs rs)
section
variable {w w' : World} {B B' : Nat} {ty : TypeId} {v : Value} {rs : List Rec}
theorem OwnR.drew (h : OwnR w B ty v rs) : OwnR w.drew B ty v rs := World.ownsRow.drew h
theorem OwnR.drewN (h : OwnR w B ty v rs) (n : Nat) : OwnR (w.drewN n) B ty v rs := h
theorem OwnR.below (h : OwnR w B ty v rs) (hb : Below B' w w') (hv : ∀ k, v.ownBlock = some k → k < B') : OwnR w' B ty v rs := own_upto h hb hv
theorem OwnR.calls (h : OwnR w B ty v rs) (hb : Below w.heap.size w w') : OwnR w' B ty v rs := own_upto h hb (fun k hk => (World.ownsRow.lt h k hk).2)
theorem OwnR.mono (h : OwnR w B ty v rs) (hB : B' ≤ B) : OwnR w B' ty v rs := by
  refine ⟨h.1, ?_⟩
  rcases h.2 with h2 | ⟨g, cap, cur, hv, hb, r⟩
  · exact .inl h2
  · exact .inr ⟨g, cap, cur, hv, by omega, r⟩
theorem OwnR.slice (h : OwnR w B ty v rs) : ∃ a c, v = .slice a rs.length c := by
  rcases h.2 with ⟨rfl, hn⟩ | ⟨g, cap, cur, rfl, _⟩
  · rw [hn]; exact ⟨_, _, rfl⟩
  · exact ⟨_, _, rfl⟩
theorem OwnR.row {a : Option Addr} {n c : Nat} (h : OwnR w B ty (.slice a n c) rs) : RowR w w.heap.size a n c rs := by
  rcases h.2 with ⟨hv, hn⟩ | ⟨g, cap, cur, hv, hb, hg, hnc, hm, hcs, htk⟩
  · injection hv with h1 h2 h3
    subst h1 h2 h3
    obtain rfl := List.eq_nil_of_length_eq_zero hn
    exact RowR.nil _ _
  · injection hv with h1 h2 h3
    subst h1 h2 h3
    have hc := World.ownsRow.cells h (g := g) rfl
    refine ⟨rfl, hnc, hm, fun _ => ⟨g, 0, rfl, (Array.getElem?_eq_some_iff.1 hg).1, fun i hi => ?_⟩⟩
    have h5 : ∀ k, k < 5 → ∀ u, (recL (rs.getD i zr))[k]? = some u → w.cell? ⟨g, i * 5 + k, none⟩ = some u := fun k hk u hu => by
      have := hc (i * 5 + k) u (by rw [recs_at hi k hk]; exact hu)
      rwa [Row.add, Nat.zero_add] at this
    rw [Nat.zero_add]
    exact ⟨h5 0 (by omega) _ rfl, h5 1 (by omega) _ rfl, h5 2 (by omega) _ rfl, h5 3 (by omega) _ rfl, h5 4 (by omega) _ rfl⟩
end
theorem ownR_nil (w : World) (B : Nat) (ty : TypeId) : OwnR w B ty (.slice none 0 0) [] := World.ownsRow_nil _ _ _ _
theorem ownR_empty (w : World) (ty : TypeId) {B : Nat} (hB : B ≤ w.heap.size) : OwnR (w.alloc (.cells #[] ty)) B ty (.slice (some ⟨w.heap.size, 0, none⟩) 0 0) [] := by
  have := World.ownsRow_lit (base := B) (e := ty) (size := 5) w #[] 0 hB (by unfold maxLen; omega) rfl
  exact this
/-- The cells of a row, as the laws on append ask for them. -/
theorem cells_rowR {w : World} {B : Nat} {ad : Addr} {n c : Nat} {rs : List Rec} (h : RowR w B (some ad) n c rs) : ∀ j u, (recs rs)[j]? = some u → w.cell? (ad.add j) = some u := by
  intro j u hu
  have hj : j / 5 < rs.length := by
    have h1 := (List.getElem?_eq_some_iff.1 hu).1
    rw [recs_len] at h1
    omega
  obtain ⟨b, off, e1, _, hc⟩ := h.cells (by have := h.1; omega)
  injection e1 with e1
  subst e1
  rw [Row.add]
  obtain ⟨p1, p2, p3, p4, p5⟩ := hc (j / 5) (by have := h.1; omega)
  have hj5 : j = j / 5 * 5 + j % 5 := by omega
  rw [hj5, recs_at hj _ (by omega)] at hu
  rw [hj5, ← Nat.add_assoc]
  have h5 : j % 5 < 5 := Nat.mod_lt _ (by omega)
  generalize j % 5 = q at hu h5 ⊢
  match q, h5 with
  | 0, _ => rw [← hu]; exact p1
  | 1, _ => rw [← hu]; exact p2
  | 2, _ => rw [← hu]; exact p3
  | 3, _ => rw [← hu]; exact p4
  | 4, _ => rw [← hu]; exact p5
end Go.Proofs.YtplnaaokapilpaaDoor.Vm
