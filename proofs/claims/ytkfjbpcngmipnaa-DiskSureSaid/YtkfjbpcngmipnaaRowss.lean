/- Words for memory: a slice of slices of bytes ('Rows'), and one that the call owns ('OwnRows'). No function of the program is named here. -/
import Derived.Test.YtkfjbpcngmipnaaAppends
namespace Go.Proofs.Ytkfjbpcngmipnaa.Vm
open Go.RowKit

theorem info_rows : (Try.prog.info? 33).map (fun i => (i.zero, i.size, i.bytes)) = some (some (.slice none 0 0), 1, 24) := by kernel_rfl

/-- The slice '.slice a n c' holds slices that hold these bytes, all in blocks below B. -/
def Rows (w : World) (B : Nat) (a : Option Addr) (n c : Nat) (ls : List (List Nat)) : Prop :=
  ls.length = n ∧ n ≤ c ∧ c ≤ maxLen ∧
  (0 < n → ∃ b off, a = some ⟨b, off, none⟩ ∧ b < B ∧ ∀ i, i < n → ∃ a' c', w.cell? ⟨b, off + i, none⟩ = some (.slice a' (ls.getD i []).length c') ∧ Row .u8 w B a' (ls.getD i []).length c' (ls.getD i []))

section
variable {w w' : World} {B B' : Nat} {a : Option Addr} {n c : Nat} {ls : List (List Nat)}
theorem Rows.nil (w : World) (B : Nat) : Rows w B none 0 0 [] := ⟨rfl, Nat.le_refl _, by simp [maxLen], fun h => absurd h (by omega)⟩
theorem Rows.keep (h : Rows w B a n c ls) (hk : ∀ p : Addr, p.block < B → w'.cell? p = w.cell? p) : Rows w' B a n c ls :=
  ⟨h.1, h.2.1, h.2.2.1, fun hn => by
    obtain ⟨b, off, e, hb, hc⟩ := h.2.2.2 hn
    refine ⟨b, off, e, hb, fun i hi => ?_⟩
    obtain ⟨a', c', h1, h2⟩ := hc i hi
    exact ⟨a', c', (hk ⟨b, off + i, none⟩ hb).trans h1, h2.keep hk⟩⟩
theorem Rows.mono (h : Rows w B a n c ls) (hB : B ≤ B') : Rows w B' a n c ls :=
  ⟨h.1, h.2.1, h.2.2.1, fun hn => by
    obtain ⟨b, off, e, hb, hc⟩ := h.2.2.2 hn
    refine ⟨b, off, e, by omega, fun i hi => ?_⟩
    obtain ⟨a', c', h1, h2⟩ := hc i hi
    exact ⟨a', c', h1, h2.mono hB⟩⟩
theorem Rows.below (h : Rows w B a n c ls) (hb : Below B w w') : Rows w' B a n c ls := h.keep fun _ hp => hb.cell hp
theorem Rows.alloc (h : Rows w B a n c ls) (hB : B ≤ w.heap.size) (o : Obj) : Rows (w.alloc o) B a n c ls :=
  h.keep fun p hp => World.cell?_alloc_lt w o p (by omega)
theorem Rows.cells (h : Rows w B a n c ls) (hn : 0 < n) : ∃ b off, a = some ⟨b, off, none⟩ ∧ b < B ∧ ∀ i, i < n → ∃ a' c', w.cell? ⟨b, off + i, none⟩ = some (.slice a' (ls.getD i []).length c') ∧ Row .u8 w B a' (ls.getD i []).length c' (ls.getD i []) := h.2.2.2 hn
/-- The first of them. -/
theorem Rows.first (h : Rows w B a n c ls) {k mx : Nat} (hk : k ≤ n) (hm : k ≤ mx) (hx : mx ≤ c) : Rows w B a k mx (ls.take k) :=
  ⟨by have := h.1; simp; omega, hm, by have := h.2.2.1; omega, fun hn => by
    obtain ⟨b, off, e, hb, hc⟩ := h.2.2.2 (by omega)
    refine ⟨b, off, e, hb, fun i hi => ?_⟩
    have := hc i (by omega)
    rwa [show (ls.take k).getD i [] = ls.getD i [] by simp [List.getD, hi]]⟩
end

/-- Slices of bytes, in new memory, each with bytes in new memory. -/
def OwnRows (w : World) (B : Nat) (v : Value) (ls : List (List Nat)) : Prop :=
  ∃ xs : List Value, w.ownsRow B 33 1 v ls.length xs ∧ ∀ (i : Nat) (l : List Nat), ls[i]? = some l → ∃ u, xs[i]? = some u ∧ Own w B u l

theorem OwnRows.nil (w : World) (B : Nat) : OwnRows w B (.slice none 0 0) [] := ⟨[], World.ownsRow_nil _ _ _ _, fun i l h => by simp at h⟩

theorem OwnRows.mono {w : World} {B B' : Nat} {v : Value} {ls : List (List Nat)} (h : OwnRows w B v ls) (hB : B' ≤ B) : OwnRows w B' v ls := by
  obtain ⟨xs, h1, h2⟩ := h
  refine ⟨xs, ⟨h1.1, ?_⟩, fun i l hl => ?_⟩
  · rcases h1.2 with h3 | ⟨g, cap, cur, hv, hb, r⟩
    · exact .inl h3
    · exact .inr ⟨g, cap, cur, hv, by omega, r⟩
  · obtain ⟨u, hu, ho⟩ := h2 i l hl
    exact ⟨u, hu, ho.mono hB⟩

/-- A block of slices is no block of bytes. -/
theorem Own.other {w : World} {B B' : Nat} {u v : Value} {l : List Nat} {n k : Nat} {xs : List Value} (h : Own w B u l) (hv : w.ownsRow B' 33 1 v n xs) (hk : u.ownBlock = some k) : v.ownBlock ≠ some k := by
  intro hk'
  rcases h.2 with ⟨rfl, _⟩ | ⟨g, cap, cur, rfl, _, hg, _⟩
  · simp [Value.ownBlock] at hk
  · rcases hv.2 with ⟨rfl, _⟩ | ⟨g', cap', cur', rfl, _, hg', _⟩
    · simp [Value.ownBlock] at hk'
    · simp only [Value.ownBlock, Option.some.injEq] at hk hk'
      subst hk
      rw [hk', hg] at hg'
      simp at hg'
theorem Own.stay {w w' : World} {B : Nat} {u : Value} {l : List Nat} {row : Option Nat} (h : Own w B u l) (hg : w.grownBy w' row) (hk : ∀ k, u.ownBlock = some k → row ≠ some k) : Own w' B u l := by
  refine ⟨h.1, ?_⟩
  rcases h.2 with h2 | ⟨g, cap, cur, rfl, hb, hh, r⟩
  · exact .inl h2
  · exact .inr ⟨g, cap, cur, rfl, hb, by rw [hg.block g (Array.getElem?_eq_some_iff.1 hh).1 (fun e => hk g rfl e.symm)]; exact hh, r⟩

/-- Bytes are appended elsewhere. -/
theorem OwnRows.below {w w' : World} {B : Nat} {v : Value} {ls : List (List Nat)} (h : OwnRows w B v ls) (hb : Below w.heap.size w w') : OwnRows w' B v ls := by
  obtain ⟨xs, h1, h2⟩ := h
  refine ⟨xs, ⟨h1.1, ?_⟩, fun i l hl => ?_⟩
  · rcases h1.2 with h3 | ⟨g, cap, cur, rfl, hg, hh, r⟩
    · exact .inl h3
    · exact .inr ⟨g, cap, cur, rfl, hg, by rw [hb.block g (Array.getElem?_eq_some_iff.1 hh).1]; exact hh, r⟩
  · obtain ⟨u, hu, ho⟩ := h2 i l hl
    exact ⟨u, hu, own_below ho hb (fun k hk => (World.ownsRow.lt ho k hk).2)⟩
/-- One more slice. -/
theorem OwnRows.push {w w' : World} {B : Nat} {v v' u : Value} {ls : List (List Nat)} {xs : List Value} {l : List Nat} {o : Obj} (h1 : w.ownsRow B 33 1 v ls.length xs) (h2 : ∀ (i : Nat) (l : List Nat), ls[i]? = some l → ∃ u, xs[i]? = some u ∧ Own w B u l)
    (hu : Own w B u l) (h : w'.ownsRow B 33 1 v' (ls.length + 1) (xs ++ [u])) (hg : (w.alloc o).grownBy w' v.ownBlock) : OwnRows w' B v' (ls ++ [l]) := by
  have hlx : xs.length = ls.length := by simpa using h1.1
  have stay : ∀ u l, Own w B u l → Own w' B u l := fun u l hu => by
    have ha : Own (w.alloc o) B u l := own_below hu ((Below.refl w.heap.size w).alloc (Nat.le_refl _) o) (fun k hk => (World.ownsRow.lt hu k hk).2)
    exact ha.stay hg (fun k hk => ha.other (World.ownsRow.alloc h1 o) hk)
  refine ⟨xs ++ [u], by simpa using h, fun i l' hl => ?_⟩
  by_cases hi : i < ls.length
  · rw [List.getElem?_append_left hi] at hl
    obtain ⟨u', hu', ho⟩ := h2 i l' hl
    exact ⟨u', by rw [List.getElem?_append_left (by omega)]; exact hu', stay _ _ ho⟩
  · rw [List.getElem?_append_right (by omega)] at hl
    obtain ⟨h3, h4⟩ := List.getElem?_eq_some_iff.1 hl
    simp at h3 h4
    subst h4
    exact ⟨u, by rw [List.getElem?_append_right (by omega)]; simp [show i - xs.length = 0 by omega], stay _ _ hu⟩
/-- What is owned is there to be read. -/
theorem OwnRows.rows {w : World} {B : Nat} {v : Value} {ls : List (List Nat)} (h : OwnRows w B v ls) : ∃ a c, v = .slice a ls.length c ∧ Rows w w.heap.size a ls.length c ls := by
  obtain ⟨xs, h1, h2⟩ := h
  have hlx : xs.length = ls.length := by simpa using h1.1
  rcases h1.2 with ⟨rfl, hn⟩ | ⟨g, cap, cur, rfl, hb, hg, hnc, hcm, hcs, htake⟩
  · obtain rfl := List.eq_nil_of_length_eq_zero hn
    exact ⟨none, 0, rfl, Rows.nil w _⟩
  · refine ⟨some ⟨g, 0, none⟩, cap, rfl, rfl, hnc, hcm, fun hn => ⟨g, 0, rfl, (Array.getElem?_eq_some_iff.1 hg).1, fun i hi => ?_⟩⟩
    obtain ⟨u, hu, ho⟩ := h2 i ls[i] (by simp [hi])
    obtain ⟨a', c', rfl, hr⟩ := ho.slice
    have hc := World.ownsRow.cells h1 (g := g) rfl i _ hu
    rw [Row.add] at hc
    have e : ls.getD i [] = ls[i] := by simp [List.getD, hi]
    rw [e]
    exact ⟨a', c', hc, hr⟩
end Go.Proofs.Ytkfjbpcngmipnaa.Vm
