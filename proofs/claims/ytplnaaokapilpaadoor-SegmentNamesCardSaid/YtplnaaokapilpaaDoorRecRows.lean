/- Records in a slice: as they lie, and in memory of the call's own. No function of the program is named here. -/
import Derived.Test.YtplnaaokapilpaaDoorPushes
import Derived.Test.YtplnaaokapilpaaDoorCodWords
namespace Go.Proofs.YtplnaaokapilpaaDoor.Vm
open Go Go.RowKit
set_option maxRecDepth 100000

theorem info_record : (Tryd.prog.info? 44).map (fun i => (i.zero, i.size, i.bytes)) = some (some (.agg #[.int .i64 0, .slice none 0 0, .slice none 0 0, .slice none 0 0, .int .u32 0]), 5, 88) := by kernel_rfl
def rcdL (h : Rh) : List Value := [.int .i64 h.t, .slice h.a1 h.n1 h.c1, .slice h.a2 h.n2 h.c2, .slice h.a3 h.n3 h.c3, .int .u32 h.k]
def zrh : Rh := ⟨0, none, 0, 0, none, 0, 0, none, 0, 0, 0⟩
def zrcd : Rcd := ⟨0, [], [], [], 0⟩
def rcdsL (l : List Rh) : List Value := l.flatMap rcdL
theorem rcdsL_len : ∀ l : List Rh, (rcdsL l).length = l.length * 5
  | [] => rfl
  | x :: q => by
    have h := rcdsL_len q
    unfold rcdsL at h ⊢
    rw [List.flatMap_cons, List.length_append, h]
    simp [rcdL]
    omega
theorem rcdsL_append (a b : List Rh) : rcdsL (a ++ b) = rcdsL a ++ rcdsL b := by simp [rcdsL]
theorem rcdsL_get : ∀ (l : List Rh) (j : Nat), (rcdsL l)[j]? = (l[j / 5]?).bind fun r => (rcdL r)[j % 5]?
  | [], j => by simp [rcdsL]
  | r :: t, j => by
    have ih := rcdsL_get t (j - 5)
    unfold rcdsL at ih ⊢
    rw [List.flatMap_cons]
    by_cases h : j < 5
    · rw [List.getElem?_append_left (by simpa [rcdL] using h), Nat.div_eq_of_lt h, Nat.mod_eq_of_lt h]
      rfl
    · rw [List.getElem?_append_right (by simp [rcdL]; omega), show (rcdL r).length = 5 from rfl, ih, show j / 5 = (j - 5) / 5 + 1 by omega, show j % 5 = (j - 5) % 5 by omega]
      rfl
theorem rcdsL_one (l : List Rh) : ∀ u ∈ rcdsL l, u.oneCell' = true := by
  intro u hu
  obtain ⟨f, _, hu⟩ := List.mem_flatMap.1 hu
  simp only [rcdL, List.mem_cons, List.not_mem_nil, or_false] at hu
  rcases hu with rfl | rfl | rfl | rfl | rfl <;> rfl
/-- The slice '.slice a n c' holds these records, below B. -/
def RowRc (w : World) (B : Nat) (a : Option Addr) (n c : Nat) (hs : List Rh) (xs : List Rcd) : Prop :=
  xs.length = n ∧ n ≤ c ∧ c ≤ maxLen ∧ (0 < n → ∃ b off, a = some ⟨b, off, none⟩ ∧ b < B ∧ ∀ i, i < n → (∀ j y, (rcdL (hs.getD i zrh))[j]? = some y → w.cell? ⟨b, off + i * 5 + j, none⟩ = some y) ∧ RhIn w B (hs.getD i zrh) (xs.getD i zrcd))
theorem RowRc.below {w w' : World} {B : Nat} {a : Option Addr} {n c : Nat} {hs : List Rh} {xs : List Rcd} (h : RowRc w B a n c hs xs) (hb : Below B w w') : RowRc w' B a n c hs xs :=
  ⟨h.1, h.2.1, h.2.2.1, fun hn => by
    obtain ⟨b, off, e, hlt, hc⟩ := h.2.2.2 hn
    exact ⟨b, off, e, hlt, fun i hi => ⟨fun j y hj => (hb.cell (p := ⟨b, off + i * 5 + j, none⟩) hlt).trans ((hc i hi).1 j y hj), (hc i hi).2.below hb⟩⟩⟩
theorem RowRc.mono {w : World} {B B' : Nat} {a : Option Addr} {n c : Nat} {hs : List Rh} {xs : List Rcd} (h : RowRc w B a n c hs xs) (hB : B ≤ B') : RowRc w B' a n c hs xs :=
  ⟨h.1, h.2.1, h.2.2.1, fun hn => by
    obtain ⟨b, off, e, hlt, hc⟩ := h.2.2.2 hn
    exact ⟨b, off, e, by omega, fun i hi => ⟨(hc i hi).1, (hc i hi).2.mono hB⟩⟩⟩
/-- The five cells of one record. -/
theorem RowRc.at {w : World} {B : Nat} {a : Option Addr} {n c : Nat} {hs : List Rh} {xs : List Rcd} (h : RowRc w B a n c hs xs) {i : Nat} (hi : i < n) : ∃ b off, a = some ⟨b, off, none⟩ ∧ b < B ∧ RhIn w B (hs.getD i zrh) (xs.getD i zrcd) ∧
    w.cell? ⟨b, off + i * 5, none⟩ = some (.int .i64 (hs.getD i zrh).t) ∧ w.cell? ⟨b, off + i * 5 + 1, none⟩ = some (.slice (hs.getD i zrh).a1 (hs.getD i zrh).n1 (hs.getD i zrh).c1) ∧ w.cell? ⟨b, off + i * 5 + 2, none⟩ = some (.slice (hs.getD i zrh).a2 (hs.getD i zrh).n2 (hs.getD i zrh).c2) ∧ w.cell? ⟨b, off + i * 5 + 3, none⟩ = some (.slice (hs.getD i zrh).a3 (hs.getD i zrh).n3 (hs.getD i zrh).c3) ∧ w.cell? ⟨b, off + i * 5 + 4, none⟩ = some (.int .u32 (hs.getD i zrh).k) := by
  obtain ⟨b, off, e, hlt, hc⟩ := h.2.2.2 (by omega)
  obtain ⟨h1, h2⟩ := hc i hi
  exact ⟨b, off, e, hlt, h2, h1 0 _ rfl, h1 1 _ rfl, h1 2 _ rfl, h1 3 _ rfl, h1 4 _ rfl⟩
/-- Records in memory of the call's own. -/
structure OwnRc (w : World) (B : Nat) (v : Value) (hs : List Rh) (xs : List Rcd) : Prop where
  own : w.ownsRow B 44 5 v hs.length (rcdsL hs)
  len : hs.length = xs.length
  like : ∀ i, i < xs.length → RCopy w B (hs.getD i zrh) (xs.getD i zrcd)
section
variable {w w' : World} {B B' : Nat} {v : Value} {hs : List Rh} {xs : List Rcd} {h : Rh} {x : Rcd}
theorem OwnRc.nil (w : World) (B : Nat) : OwnRc w B (.slice none 0 0) [] [] := ⟨World.ownsRow_nil _ _ _ _, rfl, fun i hi => by simp at hi⟩
theorem OwnRc.calls (o : OwnRc w B v hs xs) (hb : Below w.heap.size w w') : OwnRc w' B v hs xs := ⟨own_upto o.own hb (fun k hk => (World.ownsRow.lt o.own k hk).2), o.len, fun i hi => (o.like i hi).calls hb⟩
theorem OwnRc.slice (o : OwnRc w B v hs xs) : ∃ a c, v = .slice a xs.length c := by
  obtain ⟨a, c, e⟩ := own_is_slice o.own
  exact ⟨a, c, by rw [e, o.len]⟩
theorem OwnRc.row (o : OwnRc w B v hs xs) : ∃ a c, v = .slice a xs.length c ∧ RowRc w w.heap.size a xs.length c hs xs := by
  rcases o.own.2 with ⟨rfl, hn⟩ | ⟨g, cap, cur, rfl, hb, hg, hnc, hm, hcs, htk⟩
  · rw [o.len] at hn
    exact ⟨none, 0, by rw [hn], by rw [hn]; exact ⟨hn, Nat.le_refl _, by simp [maxLen], fun h => absurd h (by omega)⟩⟩
  · have hc := World.ownsRow.cells o.own (g := g) rfl
    have hl := o.len
    refine ⟨some ⟨g, 0, none⟩, cap, by rw [hl], rfl, by omega, hm, fun _ => ⟨g, 0, rfl, (Array.getElem?_eq_some_iff.1 hg).1, fun i hi => ⟨fun j y hj => ?_, (o.like i hi).rhIn⟩⟩⟩
    have hj5 : j < 5 := by simpa [rcdL] using (List.getElem?_eq_some_iff.1 hj).1
    have := hc (i * 5 + j) y (by
      rw [rcdsL_get, show (i * 5 + j) / 5 = i by omega, show (i * 5 + j) % 5 = j by omega]
      simpa [List.getD, show i < hs.length by omega] using hj)
    rwa [Row.add, Nat.zero_add, ← Nat.zero_add (i * 5)] at this
theorem RCopy.grown {n : Nat} {ys : List Value} (c : RCopy w B h x) (ho : w.ownsRow B' 44 5 v n ys) (hg : w.grownBy w' v.ownBlock) : RCopy w' B h x :=
  ⟨c.tick, World.ownsRow.kept c.ins hg (own_own ho c.ins (by decide)), World.ownsRow.kept c.cs hg (own_own ho c.cs (by decide)), World.ownsRow.kept c.ws hg (own_own ho c.ws (by decide)), c.ck⟩
theorem append_rcd (o : OwnRc w B v hs xs) (c : RCopy w B h x) (hlen : xs.length ≤ 2000000) (hB : B ≤ w.heap.size) :
    ∃ v' w', (Builtin.append_ #[33, 33] 33 #[v, .slice (some ⟨w.heap.size, 0, none⟩) 1 1]).run Tryd.prog (w.alloc (.cells #[.int .i64 h.t, .slice h.a1 h.n1 h.c1, .slice h.a2 h.n2 h.c2, .slice h.a3 h.n3 h.c3, .int .u32 h.k] 44)) = .ok v' w' ∧ OwnRc w' B v' (hs ++ [h]) (xs ++ [x]) ∧ w.grownBy w' v.ownBlock := by
  obtain ⟨i0, hi0, hz0, hz1, hz2⟩ := info_parts info_record
  have hl := o.len
  have hba : Below w.heap.size w (w.alloc (.cells #[.int .i64 h.t, .slice h.a1 h.n1 h.c1, .slice h.a2 h.n2 h.c2, .slice h.a3 h.n3 h.c3, .int .u32 h.k] 44)) := (Below.refl _ _).alloc (Nat.le_refl _) _
  have hc : ∀ j u, (rcdsL [h])[j]? = some u → (w.alloc (.cells #[.int .i64 h.t, .slice h.a1 h.n1 h.c1, .slice h.a2 h.n2 h.c2, .slice h.a3 h.n3 h.c3, .int .u32 h.k] 44)).cell? ((⟨w.heap.size, 0, none⟩ : Addr).add j) = some u := by
    intro j u hj
    have hjn : j < 5 := by
      have := (List.getElem?_eq_some_iff.1 hj).1
      rw [rcdsL_len] at this
      simpa using this
    rw [Row.add, Nat.zero_add]
    match j, hjn with
    | 0, _ => simpa [rcdsL, rcdL] using hj
    | 1, _ => simpa [rcdsL, rcdL] using hj
    | 2, _ => simpa [rcdsL, rcdL] using hj
    | 3, _ => simpa [rcdsL, rcdL] using hj
    | 4, _ => simpa [rcdsL, rcdL] using hj
  have hoa := World.ownsRow.alloc o.own (.cells #[.int .i64 h.t, .slice h.a1 h.n1 h.c1, .slice h.a2 h.n2 h.c2, .slice h.a3 h.n3 h.c3, .int .u32 h.k] 44)
  obtain ⟨v', w', hrun, hown', hg, _⟩ := run_append_own (P := Tryd.prog) _ B 33 33 44 i0 (.agg #[.int .i64 0, .slice none 0 0, .slice none 0 0, .slice none 0 0, .int .u32 0]) 5 88 Tryd.underlying33 hi0 hz0 hz1 hz2 rfl (by decide) v hs.length (rcdsL hs) hoa ⟨w.heap.size, 0, none⟩ 1 1 (rcdsL [h]) (by rw [rcdsL_len]; rfl) hc
    (rcdsL_one [h]) (by unfold maxLen; omega) (by omega) (by have := hba.size; omega)
  have hg2 : w.grownBy w' v.ownBlock := ⟨hg.os.trans hba.os, hg.tape.trans hba.tape, hg.output.trans hba.output, Nat.le_trans hba.size hg.size, fun k hk hne => (hg.block k (Nat.lt_of_lt_of_le hk hba.size) hne).trans (hba.block k hk)⟩
  refine ⟨v', w', hrun, ⟨by rw [List.length_append, rcdsL_append]; exact hown', by rw [List.length_append, List.length_append, hl]; rfl, fun i hi => ?_⟩, hg2⟩
  rw [List.length_append] at hi
  by_cases hi2 : i < xs.length
  · have e1 : (hs ++ [h]).getD i zrh = hs.getD i zrh := by simp [List.getD, List.getElem?_append_left (show i < hs.length by omega)]
    have e2 : (xs ++ [x]).getD i zrcd = xs.getD i zrcd := by simp [List.getD, List.getElem?_append_left hi2]
    rw [e1, e2]
    exact (o.like i hi2).grown o.own hg2
  · obtain rfl : i = xs.length := by simp at hi; omega
    have e1 : (hs ++ [h]).getD xs.length zrh = h := by simp [List.getD, ← hl]
    have e2 : (xs ++ [x]).getD xs.length zrcd = x := by simp [List.getD]
    rw [e1, e2]
    exact c.grown o.own hg2
end
end Go.Proofs.YtplnaaokapilpaaDoor.Vm
