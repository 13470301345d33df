/- Files as they lie in memory, in new memory, and the document's disk. No function of the program is named here. -/
import Derived.Test.YtkfjbpcngmipnaaDiskMath
import Derived.Test.YtkfjbpcngmipnaaAlts
import Derived.Test.YtkfjbpcngmipnaaIntsZ
namespace Go.Proofs.Ytkfjbpcngmipnaa.Vm
open Go Go.RowKit
set_option maxRecDepth 100000

theorem ret_z13 {a b : Int} (h : a = b) : Ending.returned (.int .i64 a) = .returned (.int .i64 b) := by rw [h]
/-- Names are compared as the language has it. -/
theorem binOp_string_gtr13 (t : TypeId) (a b : ByteArray) : binOp .gtr t (.string a) (.string b) = pure (.bool (nlt b a)) := by
  rw [← ngt_eq]
  simp [binOp, Op.stringOp]
/-- A file as it lies: its name, the slice of its bytes, how many are sure. -/
structure FileV where
  name : ByteArray
  a : Option Addr
  n : Nat
  c : Nat
  sure : Int
def fileL (f : FileV) : List Value := [.string f.name, .slice f.a f.n f.c, .int .i64 f.sure]
def zfv : FileV := ⟨⟨#[]⟩, none, 0, 0, 0⟩
def filesL (l : List FileV) : List Value := l.flatMap fileL
theorem filesL_len : ∀ l : List FileV, (filesL l).length = l.length * 3
  | [] => rfl
  | x :: q => by
    have h := filesL_len q
    unfold filesL at h ⊢
    rw [List.flatMap_cons, List.length_append, h]
    simp [fileL]
    omega
theorem filesL_append (a b : List FileV) : filesL (a ++ b) = filesL a ++ filesL b := by simp [filesL]
theorem filesL_get : ∀ (l : List FileV) (j : Nat), (filesL l)[j]? = (l[j / 3]?).bind fun r => (fileL r)[j % 3]?
  | [], j => by simp [filesL]
  | r :: t, j => by
    have ih := filesL_get t (j - 3)
    unfold filesL at ih ⊢
    rw [List.flatMap_cons]
    by_cases h : j < 3
    · rw [List.getElem?_append_left (by simpa [fileL] using h), Nat.div_eq_of_lt h, Nat.mod_eq_of_lt h]
      rfl
    · rw [List.getElem?_append_right (by simp [fileL]; omega), show (fileL r).length = 3 from rfl, ih, show j / 3 = (j - 3) / 3 + 1 by omega, show j % 3 = (j - 3) % 3 by omega]
      rfl
theorem filesL_one (l : List FileV) : ∀ u ∈ filesL l, u.oneCell' = true := by
  intro u hu
  obtain ⟨f, _, hu⟩ := List.mem_flatMap.1 hu
  simp only [fileL, List.mem_cons, List.not_mem_nil, or_false] at hu
  rcases hu with rfl | rfl | rfl <;> rfl
/-- One cell of a file, written. -/
def putF (f : FileV) (j : Nat) (u : FileV) : FileV := if j = 0 then { f with name := u.name } else if j = 1 then { f with a := u.a, n := u.n, c := u.c } else { f with sure := u.sure }
theorem filesL_put {j : Nat} (hj : j < 3) (u : FileV) : ∀ (l : List FileV) (i : Nat), i < l.length → (filesL l).set (i * 3 + j) ((fileL u).getD j (.bool false)) = filesL (l.set i (putF (l.getD i zfv) j u))
  | [], i, h => by simp at h
  | f :: l, 0, _ => by
    match j, hj with
    | 0, _ => rfl
    | 1, _ => rfl
    | 2, _ => rfl
  | f :: l, i + 1, h => by
    have ih := filesL_put hj u l i (by simpa using h)
    unfold filesL at ih ⊢
    rw [List.flatMap_cons, show (i + 1) * 3 + j = (fileL f).length + (i * 3 + j) by simp [fileL]; omega, List.set_append_right _ _ (by omega), Nat.add_sub_cancel_left, ih]
    simp
theorem frozen_of {w : World} {b i : Nat} {cs : Array Value} {t : TypeId} (h : w.heap[b]? = some (.cells cs t (0, 0))) : w.frozen? ⟨b, i, none⟩ = false := by simp [World.frozen?, h]
/-- The call owns these files. -/
def OwnFs (w : World) (B : Nat) (ty : TypeId) (v : Value) (l : List FileV) : Prop := w.ownsRow B ty 3 v l.length (filesL l)
section
variable {w w' : World} {B lb n c i j : Nat} {ty : TypeId} {v : Value} {a : Option Addr} {l : List FileV}
theorem OwnFs.nil (w : World) (B : Nat) (ty : TypeId) : OwnFs w B ty (.slice none 0 0) [] := World.ownsRow_nil _ _ _ _
theorem OwnFs.calls (h : OwnFs w B ty v l) (hb : Below w.heap.size w w') : OwnFs w' B ty v l := own_upto h hb (fun k hk => (World.ownsRow.lt h k hk).2)
theorem OwnFs.alt {S : Nat → Prop} (h : OwnFs w B ty v l) (hA : Alt S w w') (hS : ∀ k, v.ownBlock = some k → ¬ S k) : OwnFs w' B ty v l := by
  refine ⟨h.1, ?_⟩
  rcases h.2 with h2 | ⟨g, cap, cur, rfl, hg, hh, r⟩
  · exact .inl h2
  · exact .inr ⟨g, cap, cur, rfl, hg, by rw [hA.block g (Array.getElem?_eq_some_iff.1 hh).1 (hS g rfl)]; exact hh, r⟩
theorem OwnFs.lower (h : OwnFs w B ty v l) : OwnFs w 0 ty v l := by
  refine ⟨h.1, ?_⟩
  rcases h.2 with h2 | ⟨g, cap, cur, hv, hb, r⟩
  · exact .inl h2
  · exact .inr ⟨g, cap, cur, hv, Nat.zero_le _, r⟩
theorem OwnFs.mono {B' : Nat} (h : OwnFs w B ty v l) (hB : B' ≤ B) : OwnFs w B' ty v l := by
  refine ⟨h.1, ?_⟩
  rcases h.2 with h2 | ⟨g, cap, cur, hv, hb, r⟩
  · exact .inl h2
  · exact .inr ⟨g, cap, cur, hv, by omega, r⟩
theorem OwnFs.push {x : FileV} (h : w.ownsRow B ty 3 v (l.length + 1) (filesL l ++ [.string x.name, .slice x.a x.n x.c, .int .i64 x.sure])) : OwnFs w B ty v (l ++ [x]) := by
  unfold OwnFs
  rw [List.length_append, filesL_append]
  simpa [filesL, fileL] using h
theorem OwnFs.slice (h : OwnFs w B ty v l) : ∃ a c, v = .slice a l.length c := by
  rcases h.2 with ⟨rfl, hn⟩ | ⟨g, cap, cur, rfl, _⟩
  · exact ⟨none, 0, by rw [hn]⟩
  · exact ⟨_, cap, rfl⟩
/-- The cells of files. -/
theorem OwnFs.at (h : OwnFs w B ty (.slice a n c) l) : n = l.length ∧ n ≤ c ∧ c ≤ maxLen ∧ (0 < n → ∃ lb, a = some ⟨lb, 0, none⟩ ∧ B ≤ lb ∧ lb < w.heap.size ∧ (∀ i, i < n → w.cell? ⟨lb, i * 3, none⟩ = some (.string (l.getD i zfv).name) ∧ w.cell? ⟨lb, i * 3 + 1, none⟩ = some (.slice (l.getD i zfv).a (l.getD i zfv).n (l.getD i zfv).c) ∧ w.cell? ⟨lb, i * 3 + 2, none⟩ = some (.int .i64 (l.getD i zfv).sure)) ∧ ∀ i, w.frozen? ⟨lb, i, none⟩ = false) := by
  have h0 := h
  rcases h.2 with ⟨hv, hn⟩ | ⟨g, cap, cur, hv, hb, hg, hnc, hm, hcs, htk⟩
  · injection hv with h1 h2 h3
    subst h1 h2 h3
    exact ⟨hn.symm, Nat.le_refl _, by simp [maxLen], fun h => absurd h (by omega)⟩
  · injection hv with h1 h2 h3
    subst h1 h2 h3
    refine ⟨rfl, hnc, hm, fun hn => ⟨g, rfl, hb, (Array.getElem?_eq_some_iff.1 hg).1, fun i hi => ?_, fun i => frozen_of (i := i) hg⟩⟩
    have hc := World.ownsRow.cells h0 (g := g) rfl
    have h4 : ∀ k, k < 3 → ∀ u, (fileL (l.getD i zfv))[k]? = some u → w.cell? ⟨g, i * 3 + k, none⟩ = some u := fun k hk u hu => by
      have := hc (i * 3 + k) u (by
        rw [filesL_get, show (i * 3 + k) / 3 = i by omega, show (i * 3 + k) % 3 = k by omega]
        simpa [List.getD, hi] using hu)
      rwa [Row.add, Nat.zero_add] at this
    exact ⟨h4 0 (by omega) _ rfl, h4 1 (by omega) _ rfl, h4 2 (by omega) _ rfl⟩
theorem OwnFs.put (h : OwnFs w B ty (.slice (some ⟨lb, 0, none⟩) n c) l) (hi : i < l.length) (hj : j < 3) (u : FileV) : OwnFs (w.setCell ⟨lb, i * 3 + j, none⟩ ((fileL u).getD j (.bool false))) B ty (.slice (some ⟨lb, 0, none⟩) n c) (l.set i (putF (l.getD i zfv) j u)) := by
  obtain rfl : n = l.length := h.at.1
  have h1 := (World.ownsRow.stored h (i * 3 + j) ((fileL u).getD j (.bool false))).1
  unfold OwnFs
  rw [List.length_set, ← filesL_put hj u l i hi]
  exact h1
end
end Go.Proofs.Ytkfjbpcngmipnaa.Vm
