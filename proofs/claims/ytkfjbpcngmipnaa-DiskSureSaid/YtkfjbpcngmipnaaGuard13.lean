/- Both disks, and memory that is neither's: names, rows of bytes that are kept there. -/
import Derived.Test.YtkfjbpcngmipnaaAwake13
import Derived.Test.YtkfjbpcngmipnaaRowss
import Derived.Maps.AppendAt
namespace Go.Proofs.Ytkfjbpcngmipnaa.Vm
open Go Go.RowKit
set_option maxRecDepth 100000

/-- Both disks; no block of G is theirs. -/
def BothG (A : World) (G : Nat → Prop) (bd rd : Nat) (d e : DiskS) (V : World) : Prop :=
  ∃ P O, PrgD V P bd d ∧ RefD V O rd e ∧ (∀ k, P k → A.heap.size ≤ k ∧ ¬ G k) ∧ (∀ k, O k → A.heap.size ≤ k ∧ ¬ G k) ∧ (∀ k, P k → ¬ O k) ∧ (∀ k, G k → A.heap.size ≤ k ∧ k < V.heap.size) ∧ Below A.heap.size A V
/-- Names that lie in G. -/
def NamesG (w : World) (G : Nat → Prop) (v : Value) (l : List ByteArray) : Prop := OwnN w 0 v l ∧ ∀ k, v.ownBlock = some k → G k
/-- Slices of bytes that lie in G. -/
def RowsG (w : World) (G : Nat → Prop) (v : Value) (ls : List (List Nat)) : Prop :=
  ∃ xs : List Value, w.ownsRow 0 33 1 v ls.length xs ∧ (∀ k, v.ownBlock = some k → G k) ∧ ∀ (i : Nat) (l : List Nat), ls[i]? = some l → ∃ u, xs[i]? = some u ∧ Own w 0 u l ∧ ∀ k, u.ownBlock = some k → G k
section
variable {A V V' w w' : World} {G G' S : Nat → Prop} {bd rd : Nat} {d d' e : DiskS} {v u : Value} {l : List ByteArray} {ls : List (List Nat)} {b : List Nat}
theorem own_base13 {B n : Nat} {xs : List Value} {ty : TypeId} (h : w.ownsRow B ty 1 v n xs) : w.ownsRow 0 ty 1 v n xs := by
  refine ⟨h.1, ?_⟩
  rcases h.2 with h2 | ⟨g, cap, cur, hv, hb, r⟩
  · exact .inl h2
  · exact .inr ⟨g, cap, cur, hv, Nat.zero_le _, r⟩
theorem ownsRow_alt {B : Nat} {ty : TypeId} {sz n : Nat} {xs : List Value} (h : w.ownsRow B ty sz v n xs) (hA : Alt S w w') (hS : ∀ k, v.ownBlock = some k → ¬ S k) : w'.ownsRow B ty sz v n xs := by
  refine ⟨h.1, ?_⟩
  rcases h.2 with h2 | ⟨g, cap, cur, rfl, hg, hh, r⟩
  · exact .inl h2
  · exact .inr ⟨g, cap, cur, rfl, hg, by rw [hA.block g (Array.getElem?_eq_some_iff.1 hh).1 (hS g rfl)]; exact hh, r⟩
theorem NamesG.alt (h : NamesG w G v l) (hA : Alt S w w') (hS : ∀ k, v.ownBlock = some k → ¬ S k) : NamesG w' G v l := ⟨ownsRow_alt h.1 hA hS, h.2⟩
theorem NamesG.mono (h : NamesG w G v l) (hG : ∀ k, G k → G' k) : NamesG w G' v l := ⟨h.1, fun k hk => hG k (h.2 k hk)⟩
theorem RowsG.alt (h : RowsG w G v ls) (hA : Alt S w w') (hS : ∀ k, G k → ¬ S k) : RowsG w' G v ls := by
  obtain ⟨xs, h1, h2, h3⟩ := h
  refine ⟨xs, ownsRow_alt h1 hA (fun k hk => hS k (h2 k hk)), h2, fun i l hl => ?_⟩
  obtain ⟨u, hu, ho, hk⟩ := h3 i l hl
  exact ⟨u, hu, ho.alt hA (fun k hk' => hS k (hk k hk')), hk⟩
theorem RowsG.mono (h : RowsG w G v ls) (hG : ∀ k, G k → G' k) : RowsG w G' v ls := by
  obtain ⟨xs, h1, h2, h3⟩ := h
  refine ⟨xs, h1, fun k hk => hG k (h2 k hk), fun i l hl => ?_⟩
  obtain ⟨u, hu, ho, hk⟩ := h3 i l hl
  exact ⟨u, hu, ho, fun k hk' => hG k (hk k hk')⟩
theorem RowsG.nil (w : World) (G : Nat → Prop) : RowsG w G (.slice none 0 0) [] := ⟨[], World.ownsRow_nil _ _ _ _, (fun k hk => by cases hk), fun i l h => by simp at h⟩
/-- A step that leaves the disks alone. -/
theorem BothG.step (h : BothG A G bd rd d e V) (hA : Alt G V V') : BothG A (fun k => G k ∨ (V.heap.size ≤ k ∧ k < V'.heap.size)) bd rd d e V' := by
  obtain ⟨P, O, h1, h2, h3, h4, h5, h6, h7⟩ := h
  refine ⟨P, O, h1.alt hA (fun k hk => (h3 k hk).2), h2.alt hA (fun k hk => (h4 k hk).2), fun k hk => ⟨(h3 k hk).1, fun hg => ?_⟩, fun k hk => ⟨(h4 k hk).1, fun hg => ?_⟩, h5, fun k hk => ?_, h7.trans (hA.below (fun k hk => (h6 k hk).1) h7.size)⟩
  · rcases hg with hg | hg
    · exact (h3 k hk).2 hg
    · have := h1.lt k hk; omega
  · rcases hg with hg | hg
    · exact (h4 k hk).2 hg
    · have := h2.lt k hk; omega
  · rcases hk with hk | hk
    · exact ⟨(h6 k hk).1, Nat.lt_of_lt_of_le (h6 k hk).2 hA.size⟩
    · exact ⟨Nat.le_trans h7.size hk.1, hk.2⟩
theorem BothG.below (h : BothG A G bd rd d e V) : Below A.heap.size A V := by
  obtain ⟨P, O, _, _, _, _, _, _, h7⟩ := h
  exact h7
theorem BothG.lt (h : BothG A G bd rd d e V) : ∀ k, G k → A.heap.size ≤ k ∧ k < V.heap.size := by
  obtain ⟨P, O, _, _, _, _, _, h6, _⟩ := h
  exact h6
theorem BothN.guard (h : BothN A bd rd d e V) : BothG A (fun _ => False) bd rd d e V := by
  obtain ⟨P, O, h1, h2, h3, h4, h5, h6⟩ := h
  exact ⟨P, O, h1, h2, fun k hk => ⟨h3 k hk, id⟩, fun k hk => ⟨h4 k hk, id⟩, h5, fun _ h => absurd h id, h6⟩
theorem BothG.list (h : BothG A G bd rd d e V) (hd : OkD d) (hF : d.F.length ≤ 1000000) :
    Calls Try.prog 15 #[.pointer (some ⟨bd, 0, none⟩)] V fun r w' => ∃ a c, r = .returned (.slice a d.F.length c) ∧ NamesG w' (fun k => G k ∨ (V.heap.size ≤ k ∧ k < w'.heap.size)) (.slice a d.F.length c) (namesS d.F) ∧ BothG A (fun k => G k ∨ (V.heap.size ≤ k ∧ k < w'.heap.size)) bd rd d e w' ∧ Below V.heap.size V w' := by
  have h0 := h
  obtain ⟨P, O, ⟨mb, g, fu, h1, _⟩, _⟩ := h
  refine (pList13_any bd mb g fu d V h1 hd hF).mono ?_
  rintro r w' ⟨a, c, rfl, ho, hb⟩
  refine ⟨a, c, rfl, ⟨?_, fun k hk => .inr (World.ownsRow.lt ho k hk)⟩, h0.step (Alt.ofBelow hb), hb⟩
  exact own_base13 ho
/-- A file by its place, read. -/
theorem BothG.read (h : BothG A G bd rd d e V) (hd : OkD d) {i : Nat} (hi : i < d.F.length) :
    Calls Try.prog 13 #[.pointer (some ⟨bd, 0, none⟩), .string (d.F.getD i zfile).name] V fun r w' => ∃ a c, r = .returned (.tuple #[.slice a (d.F.getD i zfile).b.length c, .int .i64 0]) ∧ Own w' 0 (.slice a (d.F.getD i zfile).b.length c) (d.F.getD i zfile).b ∧
      (∀ k, (Value.slice a (d.F.getD i zfile).b.length c).ownBlock = some k → V.heap.size ≤ k ∧ k < w'.heap.size) ∧ BothG A (fun k => G k ∨ (V.heap.size ≤ k ∧ k < w'.heap.size)) bd rd d e w' ∧ Below V.heap.size V w' := by
  have h0 := h
  obtain ⟨P, O, ⟨mb, g, fu, h1, _⟩, _⟩ := h
  refine (pRead13_any bd mb g fu d (d.F.getD i zfile).name V h1 hd (hd.wf13 _ (getD_mem hi))).mono ?_
  rintro r w' ⟨a, m, c, x, rfl, ho, hx, hb⟩
  rw [hd.asc.atS hi, if_pos hi] at ho hx
  subst hx
  obtain rfl : m = (d.F.getD i zfile).b.length := ho.row.1.symm
  exact ⟨a, c, rfl, ho.mono (Nat.zero_le _), fun k hk => ⟨(ho.blk hk).1, (ho.blk hk).2.1⟩, h0.step (Alt.ofBelow hb), hb⟩
theorem BothG.crash (h : BothG A G bd rd d e V) (hd : OkD d) (hF : d.F.length ≤ 900000) {ao : Option Addr} {mo co : Nat} {kept : List Int} (hk : RowZ .i64 A A.heap.size ao mo co kept) (hw : ∀ k ∈ kept, k ≤ 9223372036854775807) :
    Calls Try.prog 16 #[.pointer (some ⟨bd, 0, none⟩), .slice ao mo co] V fun r w' => r = .returned (.tuple #[]) ∧ BothG A G bd rd (crashS d kept) e w' ∧ Alt (fun k => ¬ G k) V w' := by
  obtain ⟨P, O, h1, h2, h3, h4, h5, h6, h7⟩ := h
  refine (pCrash13_any bd d P ao mo co kept V h1 hd hF ((hk.below h7).mono h7.size) hw (fun b o e hn hb => by have := hk.off13 b o e hn; have := (h3 b hb).1; omega)).mono ?_
  rintro r w' ⟨rfl, P', g1, hA, g2⟩
  refine ⟨rfl, ⟨P', O, g1, h2.alt hA (fun k hk hp => h5 k hp hk), fun k hk => ?_, h4, fun k hk ho => ?_, fun k hk => ⟨(h6 k hk).1, Nat.lt_of_lt_of_le (h6 k hk).2 hA.size⟩, h7.trans (hA.below (fun k hk => (h3 k hk).1) h7.size)⟩, hA.mono (fun k hk _ => (h3 k hk).2)⟩
  · rcases g2 k hk with h | h
    · exact h3 k h
    · exact ⟨Nat.le_trans h7.size h, fun hg => by have := (h6 k hg).2; omega⟩
  · rcases g2 k hk with h | h
    · exact h5 k h ho
    · have := h2.lt k ho; omega
/-- The names' cells. -/
theorem NamesG.at {a : Option Addr} {n c i : Nat} (h : NamesG w G (.slice a n c) l) (hi : i < n) : ∃ b, a = some ⟨b, 0, none⟩ ∧ w.cell? ⟨b, i, none⟩ = some (.string (l.getD i ⟨#[]⟩)) ∧ n = l.length ∧ n ≤ c ∧ c ≤ maxLen := by
  rcases h.1.2 with ⟨hv, hn⟩ | ⟨g, cap, cur, hv, hb, hg, hnc, hm, _⟩
  · injection hv with h1 h2 h3
    omega
  · have hc := World.ownsRow.cells h.1 (g := g) (by rw [hv]; rfl) i (.string (l.getD i ⟨#[]⟩)) (by
      injection hv with h1 h2 h3
      simp [namesV, List.getD, show i < l.length by omega])
    injection hv with h1 h2 h3
    subst h3
    rw [Row.add, Nat.zero_add] at hc
    exact ⟨g, h1, hc, h2, by omega, hm⟩
theorem RowsG.len {a : Option Addr} {n c : Nat} (h : RowsG w G (.slice a n c) ls) : n = ls.length ∧ n ≤ c ∧ c ≤ maxLen := by
  obtain ⟨xs, h1, _, _⟩ := h
  rcases h1.2 with ⟨hv, hn⟩ | ⟨g, cap, cur, hv, hb, hg, hnc, hm, _⟩
  · injection hv with h1 h2 h3
    exact ⟨by omega, by omega, by rw [h3]; simp [maxLen]⟩
  · injection hv with h1 h2 h3
    exact ⟨h2, by omega, by omega⟩
theorem RowsG.slice (h : RowsG w G v ls) : ∃ a c, v = .slice a ls.length c := by
  obtain ⟨xs, h1, _, _⟩ := h
  rcases h1.2 with ⟨hv, hn⟩ | ⟨g, cap, cur, hv, _⟩
  · exact ⟨none, 0, by rw [hv, hn]⟩
  · exact ⟨_, cap, hv⟩
/-- A row's cell, and what may be written there. -/
theorem RowsG.at {a : Option Addr} {n c i : Nat} (h : RowsG w G (.slice a n c) ls) (hi : i < n) : ∃ g a' c', a = some ⟨g, 0, none⟩ ∧ G g ∧ w.cell? ⟨g, i, none⟩ = some (.slice a' (ls.getD i []).length c') ∧ Row .u8 w w.heap.size a' (ls.getD i []).length c' (ls.getD i []) ∧ w.frozen? ⟨g, i, none⟩ = false ∧
    ∃ cs, w.heap[g]? = some (.cells cs 33 (0, 0)) := by
  have hn := h.len.1
  obtain ⟨xs, h1, h2, h3⟩ := h
  rcases h1.2 with ⟨hv, hn0⟩ | ⟨g, cap, cur, hv, hb, hg, hnc, hm, _⟩
  · injection hv with e1 e2 e3
    omega
  · have hl : ls[i]? = some (ls.getD i []) := by simp [List.getD, show i < ls.length by omega]
    obtain ⟨u, hu, ho, _⟩ := h3 i _ hl
    obtain ⟨a', c', rfl, hr⟩ := ho.slice
    have hc := World.ownsRow.cells h1 (g := g) (by rw [hv]; rfl) i _ hu
    rw [Row.add, Nat.zero_add] at hc
    injection hv with e1 e2 e3
    exact ⟨g, a', c', e1, h2 g (by rw [e1]; rfl), hc, hr, frozen_of hg, cur, hg⟩
theorem RowsG.store {g n c i : Nat} {a' : Option Addr} {m c' : Nat} (h : RowsG w G (.slice (some ⟨g, 0, none⟩) n c) ls) (hi : i < n) (hu : Own w 0 (.slice a' m c') b) (hG : ∀ k, (Value.slice a' m c').ownBlock = some k → G k) :
    RowsG (w.setCell ⟨g, i, none⟩ (.slice a' m c')) G (.slice (some ⟨g, 0, none⟩) n c) (ls.set i b) := by
  obtain rfl := h.len.1
  obtain ⟨xs, h1, h2, h3⟩ := h
  have hA := setCell_alt w g i (.slice a' m c')
  have h4 := (World.ownsRow.stored h1 i (.slice a' m c')).1
  have hlx : xs.length = ls.length := by have := h1.1; omega
  obtain ⟨cs, hgt⟩ : ∃ cs, w.heap[g]? = some (.cells cs 33 (0, 0)) := by
    rcases h1.2 with ⟨hv, hn0⟩ | ⟨g', cap, cur, hv, hb, hg, _⟩
    · cases hv
    · injection hv with e1 e2 e3
      injection e1 with e1
      injection e1 with e1
      subst e1
      exact ⟨cur, hg⟩
  have hne : ∀ (u : Value) (l : List Nat), Own w 0 u l → ∀ k, u.ownBlock = some k → ¬ k = g := fun u l ho k hk e => by
    obtain ⟨_, _, cs', hc⟩ := ho.blk hk
    rw [e, hgt] at hc
    injection hc with hc
    injection hc with _ hc _
    exact absurd hc (by decide)
  refine ⟨xs.set i (.slice a' m c'), by rw [List.length_set]; exact h4, h2, fun j l hl => ?_⟩
  by_cases hj : j = i
  · subst hj
    rw [List.getElem?_set_self (by omega)] at hl
    injection hl with hl
    subst hl
    exact ⟨_, by rw [List.getElem?_set_self (by omega)], hu.alt hA (hne _ _ hu), hG⟩
  · rw [List.getElem?_set_ne (Ne.symm hj)] at hl
    obtain ⟨u, hu', ho, hk⟩ := h3 j l hl
    exact ⟨u, by rw [List.getElem?_set_ne (Ne.symm hj)]; exact hu', ho.alt hA (hne _ _ ho), hk⟩
/-- Names and rows of bytes lie in different blocks. -/
theorem NamesG.ne_rows {n k : Nat} {xs : List Value} (h : NamesG w G v l) (h1 : w.ownsRow 0 33 1 u n xs) (hk : v.ownBlock = some k) : ¬ u.ownBlock = some k := fun e => by
  rcases h.1.2 with ⟨rfl, _⟩ | ⟨g, cap, cur, rfl, _, hg, _⟩
  · cases hk
  · rcases h1.2 with ⟨rfl, _⟩ | ⟨g', cap', cur', rfl, _, hg', _⟩
    · cases e
    · have e2 : g = g' := by
        simp only [Value.ownBlock, Option.some.injEq] at hk e
        omega
      subst e2
      rw [show w.heap[g]? = _ from hg] at hg'
      injection hg' with hc
      injection hc with _ hc _
      exact absurd hc (by decide)
theorem NamesG.ne_block {g k : Nat} {cs : Array Value} (h : NamesG w G v l) (hg : w.heap[g]? = some (.cells cs 33 (0, 0))) (hk : v.ownBlock = some k) : ¬ k = g := fun e => by
  rcases h.1.2 with ⟨rfl, _⟩ | ⟨g', cap, cur, rfl, _, hg', _⟩
  · cases hk
  · have e2 : g' = g := by
      simp only [Value.ownBlock, Option.some.injEq] at hk
      omega
    subst e2
    rw [show w.heap[g']? = _ from hg'] at hg
    injection hg with hc
    injection hc with _ hc _
    exact absurd hc (by decide)
theorem NamesG.row {a : Option Addr} {n c : Nat} (h : NamesG w G (.slice a n c) l) : RowN w w.heap.size a n c l := by
  obtain ⟨a', c', e, hr⟩ := h.1.row
  injection e with h1 h2 h3
  subst h1 h2 h3
  exact hr
theorem BothG.refLen (h : BothG A G bd rd d e V) : ∃ a c, V.cell? ⟨rd, 0, none⟩ = some (.slice a e.F.length c) ∧ e.F.length ≤ c ∧ c ≤ maxLen := by
  obtain ⟨P, O, _, ⟨v, l, hr⟩, _⟩ := h
  obtain ⟨a, c, rfl⟩ := hr.form
  have hat := hr.own.at
  exact ⟨a, c, hr.cells.1, hat.2.1, hat.2.2.1⟩
theorem BothG.refSure (h : BothG A G bd rd d e V) {i : Nat} (hi : i < e.F.length) : ∃ lb c, V.cell? ⟨rd, 0, none⟩ = some (.slice (some ⟨lb, 0, none⟩) e.F.length c) ∧ e.F.length ≤ c ∧ c ≤ maxLen ∧ V.cell? ⟨lb, i * 3 + 2, none⟩ = some (.int .i64 (e.F.getD i zfile).sure) := by
  obtain ⟨P, O, _, ⟨v, l, hr⟩, _⟩ := h
  obtain ⟨a, c, rfl⟩ := hr.form
  have hat := hr.own.at
  obtain ⟨lb, rfl, _, _, hc, _⟩ := hat.2.2.2 (by omega)
  have h2 := (hc i hi).2.2
  rw [(hr.like i (by rw [hr.len]; exact hi)).sure] at h2
  exact ⟨lb, c, hr.cells.1, hat.2.1, hat.2.2.1, h2⟩
/-- One more row. -/
theorem RowsG.push {w' : World} {o : Obj} {v' : Value} {xs : List Value} (h1 : w.ownsRow 0 33 1 v ls.length xs) (h2 : ∀ k, v.ownBlock = some k → G k) (h3 : ∀ (i : Nat) (l : List Nat), ls[i]? = some l → ∃ u, xs[i]? = some u ∧ Own w 0 u l ∧ ∀ k, u.ownBlock = some k → G k)
    (hu : Own w 0 u b) (hG : ∀ k, u.ownBlock = some k → G k) (h : w'.ownsRow 0 33 1 v' (ls.length + 1) (xs ++ [u])) (hg : (w.alloc o).grownBy w' v.ownBlock) (hat : v'.ownBlock = v.ownBlock ∨ v'.ownBlock = some (w.alloc o).heap.size) (hlt : ∀ k, v'.ownBlock = some k → k < w'.heap.size) :
    RowsG w' (fun k => G k ∨ (w.heap.size ≤ k ∧ k < w'.heap.size)) v' (ls ++ [b]) ∧ Alt (fun k => v.ownBlock = some k) w w' := by
  have hlx : xs.length = ls.length := by have := h1.1; omega
  have hA : Alt (fun k => v.ownBlock = some k) w w' := (Alt.ofBelow ((Below.refl _ w).alloc (Nat.le_refl _) o) : Alt (fun k => v.ownBlock = some k) w (w.alloc o)).trans (⟨hg.os, hg.tape, hg.output, hg.size, fun k hk hn => hg.block k hk (fun e => hn e.symm)⟩ : Alt (fun k => v.ownBlock = some k) (w.alloc o) w') (fun k hk _ => hk)
  have stay : ∀ u l, Own w 0 u l → Own w' 0 u l := fun u l hu => hu.alt hA (fun k hk e => by
    obtain ⟨_, _, cs, hc⟩ := hu.blk hk
    rcases h1.2 with ⟨rfl, _⟩ | ⟨g, cap, cur, rfl, _, hg', _⟩
    · cases e
    · injection e with e
      rw [← e] at hc
      rw [show w.heap[g]? = _ from hg'] at hc
      injection hc with hc
      injection hc with _ hc _
      exact absurd hc (by decide))
  refine ⟨⟨xs ++ [u], by simpa using h, fun k hk => ?_, fun i l' hl => ?_⟩, hA⟩
  · rcases hat with e | e
    · rw [e] at hk; exact .inl (h2 k hk)
    · have := hlt k hk
      rw [e] at hk
      injection hk with hk
      subst hk
      exact .inr ⟨by simp, this⟩
  · by_cases hi : i < ls.length
    · rw [List.getElem?_append_left hi] at hl
      obtain ⟨u', hu', ho, hk⟩ := h3 i l' hl
      exact ⟨u', by rw [List.getElem?_append_left (by omega)]; exact hu', stay _ _ ho, fun k hk' => .inl (hk k hk')⟩
    · rw [List.getElem?_append_right (by omega)] at hl
      obtain ⟨h5, h6⟩ := List.getElem?_eq_some_iff.1 hl
      simp at h5 h6
      subst h6
      exact ⟨u, by rw [List.getElem?_append_right (by omega)]; simp [show i - xs.length = 0 by omega], stay _ _ hu, fun k hk => .inl (hG k hk)⟩
end
end Go.Proofs.Ytkfjbpcngmipnaa.Vm
