/- Words for memory: a slice value that holds integers with signs. No program is named here. -/
import Derived.Test.YtgjolllacchdeaaWords
namespace Go.Proofs.Ytgjolllacchdeaa.Vm
open Go.RowKit

/-- The slice '.slice a n c' holds the integers zs of kind k, in a block below B. -/
def RowZ (k : IntKind) (w : World) (B : Nat) (a : Option Addr) (n c : Nat) (zs : List Int) : Prop :=
  zs.length = n ∧ n ≤ c ∧ c ≤ maxLen ∧
  (0 < n → ∃ b off, a = some ⟨b, off, none⟩ ∧ b < B ∧ ∀ i, i < n → w.cell? ⟨b, off + i, none⟩ = some (.int k (zs.getD i 0)))

section
variable {k : IntKind} {w w' : World} {B B' : Nat} {a : Option Addr} {n c : Nat} {zs : List Int}
theorem RowZ.keep (h : RowZ k w B a n c zs) (hk : ∀ p : Addr, p.block < B → w'.cell? p = w.cell? p) : RowZ k w' B a n c zs :=
  ⟨h.1, h.2.1, h.2.2.1, fun hn => by
    obtain ⟨b, off, e, hb, hc⟩ := h.2.2.2 hn
    exact ⟨b, off, e, hb, fun i hi => (hk ⟨b, off + i, none⟩ hb).trans (hc i hi)⟩⟩
theorem RowZ.mono (h : RowZ k w B a n c zs) (hB : B ≤ B') : RowZ k w B' a n c zs :=
  ⟨h.1, h.2.1, h.2.2.1, fun hn => by
    obtain ⟨b, off, e, hb, hc⟩ := h.2.2.2 hn
    exact ⟨b, off, e, by omega, hc⟩⟩
theorem RowZ.below (h : RowZ k w B a n c zs) (hb : Below B w w') : RowZ k w' B a n c zs := h.keep fun _ hp => hb.cell hp
theorem RowZ.cells (h : RowZ k w B a n c zs) (hn : 0 < n) : ∃ b off, a = some ⟨b, off, none⟩ ∧ b < B ∧ ∀ i, i < n → w.cell? ⟨b, off + i, none⟩ = some (.int k (zs.getD i 0)) := h.2.2.2 hn
theorem RowZ.of_isRow {len cap : Nat} (h : IsRow k w a len cap zs) : RowZ k w w.heap.size a len cap (zs.take len) := by
  rcases h with ⟨rfl, rfl, rfl, rfl⟩ | ⟨x, rfl, hl, hm, hz, hc, _⟩
  · exact ⟨rfl, Nat.le_refl _, by simp [maxLen], fun h => absurd h (by omega)⟩
  · refine ⟨by simp; omega, hl, hm, fun hn => ?_⟩
    obtain ⟨b, off, rfl, hc'⟩ := ints_at hc (by omega)
    refine ⟨b, off, rfl, by simpa using World.block_lt_of_cell? w ⟨b, off + 0, none⟩ (hc' 0 (by omega)), fun i hi => ?_⟩
    rw [hc' i (by omega)]
    simp [List.getD, hi]
end

end Go.Proofs.Ytgjolllacchdeaa.Vm
