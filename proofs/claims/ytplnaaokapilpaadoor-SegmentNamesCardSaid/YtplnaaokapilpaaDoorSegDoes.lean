/- What the program's segment does, in the words of the mathematics: what the laws' walks ask of it. -/
import Derived.Test.YtplnaaokapilpaaDoorRefTick
import Derived.Test.YtplnaaokapilpaaDoorRefSegP
import Derived.Test.YtplnaaokapilpaaDoorSegLays
namespace Go.Proofs.YtplnaaokapilpaaDoor.Vm
open Go Go.RowKit

set_option maxRecDepth 100000
open Classical in
/-- What bytes are read as: the error, and a manifest's two lists. -/
noncomputable def readMG (zs : List Nat) : Int × List Int × List Int := if h : ∃ p : List Int × List Int, CanM p.1 p.2 ∧ encM p.1 p.2 = zs then (0, h.choose.1, h.choose.2) else (3, [], [])
theorem encM_one {zs : List Nat} {a s a' s' : List Int} (hc : CanM a s) (he : encM a s = zs) (hc' : CanM a' s') (he' : encM a' s' = zs) (hl : zs.length ≤ 1000000) : a = a' ∧ s = s' := by
  have h1 := scan_one he hl
  rw [scan_one he' hl] at h1
  injection h1 with h1 _
  have l1 := encM_lens he
  have l2 := encM_lens he'
  obtain ⟨g1, g2⟩ := bodyM_inj hc' hc (by omega) (by omega) (by omega) (by omega) h1
  exact ⟨g1.symm, g2.symm⟩
theorem saysRM_read {w w' : World} {zs : List Nat} {e : Ending} (h : SaysRM w zs e w') (hl : zs.length ≤ 1000000) :
    ∃ a n c a' n' c', e = .returned (.tuple #[.agg #[.slice a n c, .slice a' n' c'], .int .i64 (readMG zs).1]) ∧ RowZ .i64 w' w'.heap.size a n c (readMG zs).2.1 ∧ RowZ .i64 w' w'.heap.size a' n' c' (readMG zs).2.2 ∧ Below w.heap.size w w' := by
  obtain ⟨⟨a, n, c, a', n', c', er, he, hd⟩, hb⟩ := h
  refine ⟨a, n, c, a', n', c', ?_⟩
  rcases hd with ⟨rfl, l, l', hc, hz, h1, h2⟩ | ⟨rfl, h1, h2, hno⟩
  · have hex : ∃ p : List Int × List Int, CanM p.1 p.2 ∧ encM p.1 p.2 = zs := ⟨(l, l'), hc, hz⟩
    obtain ⟨g1, g2⟩ := encM_one hc hz hex.choose_spec.1 hex.choose_spec.2 hl
    have e : readMG zs = (0, l, l') := by
      unfold readMG
      rw [dif_pos hex, ← g1, ← g2]
    rw [e]
    exact ⟨he, h1, h2, hb⟩
  · have e : readMG zs = (3, [], []) := by
      unfold readMG
      rw [dif_neg fun ⟨p, hp⟩ => hno ⟨p.1, p.2, hp⟩]
    rw [e]
    exact ⟨he, h1, h2, hb⟩
open Classical in
noncomputable def putB (l l' : List Int) : List Nat := if CanM l l' then encM l l' else []
open Classical in
noncomputable def putE (l l' : List Int) : Int := if CanM l l' then 0 else 1
theorem saysM_put {w w' : World} {l l' : List Int} {e : Ending} (h : SaysM w l l' e w') : ∃ v, e = .returned (.tuple #[v, .int .i64 (putE l l')]) ∧ Own w' w.heap.size v (putB l l') ∧ Below w.heap.size w w' := by
  obtain ⟨h, hb⟩ := h
  unfold putE putB
  rcases h with ⟨hc, v, he, ho⟩ | ⟨hc, he⟩
  · rw [if_pos hc, if_pos hc]
    exact ⟨v, he, ho, hb⟩
  · rw [if_neg hc, if_neg hc]
    exact ⟨_, he, World.ownsRow_nil _ _ _ _, hb⟩
theorem OwnRc.rowAt {w : World} {B n c : Nat} {a : Option Addr} {hs : List Rh} {xs : List Rcd} (o : OwnRc w B (.slice a n c) hs xs) (hn : xs.length = n) : RowRc w w.heap.size a n c hs xs := by
  subst hn
  obtain ⟨a', c', e, h⟩ := o.row
  injection e with e1 _ e3
  subst e1 e3
  exact h
structure SegDoes : Prop where
  seg : ∀ (n : Nat) (w : World), n ≤ 2147483647 → Laid14 w → Calls Tryd.prog 6 #[.int .i64 n] w fun e w' => e = .returned (.string (strOf (segS n))) ∧ Below w.heap.size w w'
  snap : ∀ (n : Nat) (w : World), n ≤ 2147483647 → Laid14 w → Calls Tryd.prog 7 #[.int .i64 n] w fun e w' => e = .returned (.string (strOf (snapS n))) ∧ Below w.heap.size w w'
  tick : ∀ (s : ByteArray) (w : World), s.size ≤ 100 → Laid14 w → Calls Tryd.prog 8 #[.string s] w fun e w' => e = .returned (.tuple #[.int .i64 (tickN (bytesOf s)).1, .int .i64 (tickN (bytesOf s)).2]) ∧ Below w.heap.size w w'
  head : ∀ (n : Nat) (w : World), n ≤ 2147483647 → Calls Tryd.prog 10 #[.int .i64 n] w fun e w' => ∃ v, e = .returned v ∧ Own w' w.heap.size v (headF n) ∧ Below w.heap.size w w'
  parse : ∀ (a : Option Addr) (n c : Nat) (zs : List Nat) (w : World), Row .u8 w w.heap.size a n c zs → (∀ x ∈ zs, x < 256) → n ≤ 2000000 → (∀ z ∈ (scanS zs).1, z.length ≤ 90000) → Calls Tryd.prog 18 #[.slice a n c] w (SaysPar w (parseG zs))
  put : ∀ (a : Option Addr) (n c : Nat) (l : List Int) (a' : Option Addr) (n' c' : Nat) (l' : List Int) (w : World), RowZ .i64 w w.heap.size a n c l → RowZ .i64 w w.heap.size a' n' c' l' → n ≤ 60 → n' ≤ 60 → Calls Tryd.prog 12 #[.agg #[.slice a n c, .slice a' n' c']] w (SaysM w l l')
  read : ∀ (a : Option Addr) (n c : Nat) (zs : List Nat) (w : World), Row .u8 w w.heap.size a n c zs → (∀ x ∈ zs, x < 256) → n ≤ 20000 → Calls Tryd.prog 13 #[.slice a n c] w (SaysRM w zs)
end Go.Proofs.YtplnaaokapilpaaDoor.Vm
