/- The contract of the document's Apply. What the document's loop over the blocked cells gathers. -/
import Derived.Test.YtlfgdalpaacccaaRefRobot6
import Derived.Test.YtlfgdalpaacccaaOrders
import Derived.Test.YtlfgdalpaacccaaApplys
import Derived.Test.YtlfgdalpaacccaaRobots
import Derived.Test.YtlfgdalpaacccaaInChecksB
import Derived.Lib.AppendZeros
namespace Go.Proofs.Ytlfgdalpaacccaa.Vm
open Go Go.RowKit

/-- What is handed back with an error: the state that came in. -/
theorem rap_err {w w5 : World} {B b : Nat} {h : Sh} {s : St} (hin : StIn w w.heap.size h s) (hb : Below w.heap.size w w5) (hB : w.heap.size ≤ b) (v0 v1 v2 v3 : Value) (o : Obj) :
    Fine ((((((w5.setCell ⟨b, 0, none⟩ v0).setCell ⟨b, 1, none⟩ v1).setCell ⟨b, 2, none⟩ v2).setCell ⟨b, 3, none⟩ v3)).alloc o) h s w.heap.size h s ∧ Below w.heap.size w ((((((w5.setCell ⟨b, 0, none⟩ v0).setCell ⟨b, 1, none⟩ v1).setCell ⟨b, 2, none⟩ v2).setCell ⟨b, 3, none⟩ v3)).alloc o) := by
  have hb4 := below_set4 hb hB v0 v1 v2 v3
  exact ⟨.inl ⟨rfl, rfl⟩, hb4.alloc hb4.size o⟩

set_option maxRecDepth 100000 in
set_option maxHeartbeats 4000000 in
theorem rap_none (W H : Int) (g : ByteArray) (h : Sh) (s : St) (x : Inp) (w : World) (hin : StIn w w.heap.size h s) (hn1 : h.n1 ≤ 100000) (hn2 : h.n2 ≤ 100000) (hn3 : h.n3 ≤ 100000) (hk : ¬ (1 ≤ x.k ∧ x.k ≤ 6)) :
    Calls Try.prog 13 #[gridV W H g, shV h, inpV x] w fun e w' => ∃ h', e = .returned (.tuple #[shV h', .int .i64 3]) ∧ Fine w' h s w.heap.size h' s ∧ Below w.heap.size w w' := by
  obtain ⟨w4, hw4, hB4, hz4, hg4, hs4, hx4, hq4, hf4⟩ := gsxz_head w W H g h x
  have HCP := Lib.hid (rcopy_any h s w.heap.size w4 (hin.below hB4) (by omega) hn1 hn2 hn3)
  have HW := Lib.hid hw4
  have HB4 := Lib.hid hB4
  have HS4 := Lib.hid hs4
  have HX4 := Lib.hid hx4
  have HQ4 := Lib.hid hq4
  have HF4 := Lib.hid hf4
  have HIN := Lib.hid hin
  have k1 : (x.k == 1) = false := by simp; omega
  have k2 : (x.k == 2) = false := by simp; omega
  have k3 : (x.k == 3) = false := by simp; omega
  have k4 : (x.k == 4) = false := by simp; omega
  have k5 : (x.k == 5) = false := by simp; omega
  have k6 : (x.k == 6) = false := by simp; omega
  obtain ⟨t, a1, n1, c1, a2, n2, c2, a3, n3, c3⟩ := h
  obtain ⟨xk, xa, xb, xc⟩ := x
  obtain ⟨s0, s1, s2, s3⟩ := hs4
  obtain ⟨x0, x1, x2, x3⟩ := hx4
  simp only [] at s0 s1 s2 s3 x0 x1 x2 x3 k1 k2 k3 k4 k5 k6
  clear hin hw4 hB4 hg4 hq4 hf4 hk
  go_enter Try.func13, Try.ntmps13
  go_wp2_with fail
  rw [← HW.out]
  refine HCP.out.mono ?_
  rintro e w5 ⟨h1, rfl, hc5, hb5⟩
  have hz5 := hb5.size
  obtain ⟨s0', s1', s2', s3'⟩ := HS4.out.below hb5 (by omega)
  obtain ⟨x0', x1', x2', x3'⟩ := HX4.out.below hb5 (by omega)
  obtain ⟨q0, q1, q2, q3⟩ := HQ4.out.below hb5 (by omega)
  simp only [] at s0' s1' s2' s3' x0' x1' x2' x3' q0 q1 q2 q3
  have f0 := (hb5.frozen (p := ⟨w.heap.size + 1 + 1 + 1, 0, none⟩) (show w.heap.size + 1 + 1 + 1 < w4.heap.size by omega)).trans (HF4.out 0)
  have f1 := (hb5.frozen (p := ⟨w.heap.size + 1 + 1 + 1, 1, none⟩) (show w.heap.size + 1 + 1 + 1 < w4.heap.size by omega)).trans (HF4.out 1)
  have f2 := (hb5.frozen (p := ⟨w.heap.size + 1 + 1 + 1, 2, none⟩) (show w.heap.size + 1 + 1 + 1 < w4.heap.size by omega)).trans (HF4.out 2)
  have f3 := (hb5.frozen (p := ⟨w.heap.size + 1 + 1 + 1, 3, none⟩) (show w.heap.size + 1 + 1 + 1 < w4.heap.size by omega)).trans (HF4.out 3)
  have hl1 : w.heap.size + 1 < w5.heap.size := by omega
  have hl2 : w.heap.size + 1 + 1 < w5.heap.size := by omega
  have hl3 : w.heap.size + 1 + 1 + 1 < w5.heap.size := by omega
  obtain ⟨t', b1, m1, d1, b2, m2, d2, b3, m3, d3⟩ := h1
  have HR := Lib.hid (rap_err (B := 0) (b := w.heap.size + 1 + 1 + 1) HIN.out (HB4.out.trans (hb5.mono HB4.out.size)) (by omega) (.int .i64 t) (.slice a1 n1 c1) (.slice a2 n2 c2) (.slice a3 n3 c3) (shO ⟨t', b1, m1, d1, b2, m2, d2, b3, m3, d3⟩))
  have HZ4 := Lib.hid hz4
  clear s0 s1 s2 s3 x0 x1 x2 x3 hb5 hc5 HCP hz4
  go_wp2_with fail
  refine bodyPost_ret (v := .tuple #[shV ⟨t, a1, n1, c1, a2, n2, c2, a3, n3, c3⟩, .int .i64 3]) (by simp [results, Try.results13, go_sem, q0, q1, q2, q3, hl3]) rfl ⟨_, rfl, ?_⟩
  exact HR.out

theorem rap_err0 {w w5 : World} {b : Nat} {h : Sh} {s : St} (hin : StIn w w.heap.size h s) (hb : Below w.heap.size w w5) (hB : w.heap.size ≤ b) (v0 v1 v2 v3 : Value) :
    Fine (((((w5.setCell ⟨b, 0, none⟩ v0).setCell ⟨b, 1, none⟩ v1).setCell ⟨b, 2, none⟩ v2).setCell ⟨b, 3, none⟩ v3)) h s w.heap.size h s ∧ Below w.heap.size w (((((w5.setCell ⟨b, 0, none⟩ v0).setCell ⟨b, 1, none⟩ v1).setCell ⟨b, 2, none⟩ v2).setCell ⟨b, 3, none⟩ v3)) :=
  ⟨.inl ⟨rfl, rfl⟩, below_set4 hb hB v0 v1 v2 v3⟩
/-- One more task. -/
theorem copy0_append {w : World} {B : Nat} {h : Sh} {s : St} (m : Copy0 w B h s) (t : Rec) {ad : Addr} (hc : ∀ j u, (recs [t])[j]? = some u → w.cell? (ad.add j) = some u) (hlen : s.ts.length ≤ 90000) (hB : B ≤ w.heap.size) (ty : TypeId) :
    ∃ a' c' w', (Builtin.append_ #[25, 25] ty #[.slice h.a2 h.n2 h.c2, .slice (some ad) 1 1]).run Try.prog w = .ok (.slice a' (h.n2 + 1) c') w' ∧
      Copy0 w' B ⟨h.t, h.a1, h.n1, h.c1, a', h.n2 + 1, c', h.a3, h.n3, h.c3⟩ ⟨s.tick, s.rs, s.ts ++ [t], s.bl⟩ ∧ (∀ b, StB w b → StB w' b ∧ w'.heap[b]? = w.heap[b]?) ∧ Below B w w' := by
  rcases m.ts with ho | ⟨hnil, a, hv⟩
  · obtain ⟨v', w', hrun, hown, hg⟩ := run_append_t ty ho hc rfl (by simp; omega) hB
    obtain ⟨a', c', rfl⟩ := hown.slice
    have hl : (s.ts ++ [t]).length = h.n2 + 1 := by rw [List.length_append, m.n2]; rfl
    rw [hl] at hown hrun
    have hsb : ∀ b, StB w b → StB w' b ∧ w'.heap[b]? = w.heap[b]? := fun b ⟨cs, hb⟩ => by
      have e := hg.block b (Array.getElem?_eq_some_iff.1 hb).1 (own_apart ho hb (by decide)).symm
      exact ⟨⟨cs, e.trans hb⟩, e⟩
    refine ⟨a', c', w', hrun, ⟨m.tick, m.rs.imp (fun h1 => World.ownsRow.kept h1 hg (own_own ho h1 (by decide))) id, .inl hown, m.bl.imp (fun h1 => World.ownsRow.kept h1 hg (own_own ho h1 (by decide))) id, m.n1, hl.symm, m.n3⟩, hsb, (Below.refl _ _).grown hg hB (fun k hk => (World.ownsRow.lt ho k hk).1)⟩
  · injection hv with e1 e2 e3
    obtain ⟨v', w', hrun, hown, hg⟩ : ∃ v' w', (Builtin.append_ #[25, 25] ty #[.slice h.a2 h.n2 h.c2, .slice (some ad) 1 1]).run Try.prog w = .ok v' w' ∧ OwnR w' B 46 v' [t] ∧ Below w.heap.size w w' := by
      rw [e2, e3]
      obtain ⟨i0, hi0, hz0, hz1, hz2⟩ := info_parts info_task
      cases h.a2 with
      | none =>
        obtain ⟨v', w', hrun, hown, hg⟩ := run_append_t ty (ownR_nil w B 46) hc rfl (by simp) hB
        exact ⟨v', w', hrun, hown, ⟨hg.os, hg.tape, hg.output, hg.size, fun k hk => hg.block k hk (by simp [Value.ownBlock])⟩⟩
      | some ad0 =>
        have hrun := run_append_grow (P := Try.prog) (w := w) 25 ty 46 i0 _ Try.underlying25 hi0 hz0 ad0 0 0 [] (by simp) (by simp) ad 1 1 (recs [t]) (by rw [recs_len, hz1]; rfl) hc (by omega) (by omega) (growslice_fits (by omega) (by rw [hz2]; omega))
        rw [Nat.zero_add] at hrun
        refine ⟨_, _, hrun, ?_, ((Below.refl _ _).drew).alloc (Nat.le_refl _) _⟩
        refine ⟨recs_len [t], .inr ⟨w.heap.size, _, _, rfl, hB, heap_alloc_new w.drew _, grownCap_ge w 1 0 _, grownCap_le_maxLen w 1 0 _ (by unfold maxLen; omega), ?_, ?_⟩⟩
        · have := grownCap_ge w 1 0 46
          simp [Builtin.zeroCells, Value.cells, recs_len]
          omega
        · rw [← recs_len]
          simp only [Array.toList_append]
          exact List.take_left' (by simp)
    obtain ⟨a', c', rfl⟩ := hown.slice
    have hl : (s.ts ++ [t]).length = h.n2 + 1 := by rw [hnil, e2]; rfl
    have hl1 : ([t] : List Rec).length = h.n2 + 1 := by rw [e2]; rfl
    rw [hl1] at hown hrun
    exact ⟨a', c', w', hrun, ⟨m.tick, m.rs.calls hg, .inl (by rw [hnil]; exact hown), m.bl.calls hg, m.n1, hl.symm, m.n3⟩, fun b hb => ⟨hb.calls hg, by obtain ⟨cs, hb⟩ := hb; exact hg.block b (Array.getElem?_eq_some_iff.1 hb).1⟩, hg.mono hB⟩
end Go.Proofs.Ytlfgdalpaacccaa.Vm

namespace Go.Proofs.Ytlfgdalpaacccaa.Vm
open Go Go.RowKit

theorem low_app (l : List Int) (c a : Int) : lowZ (l ++ [c]) a = lowZ l a + if c < a then 1 else 0 := by
  unfold lowZ
  rw [List.countP_append, List.countP_singleton]
  simp
theorem ins_app {l : List Int} {c a : Int} (h : ¬ c < a) : insZ (l ++ [c]) a = insZ l a ++ [c] := by
  have h1 : lowZ (l ++ [c]) a = lowZ l a := by rw [low_app, if_neg h, Nat.add_zero]
  have h2 := low_le l a
  unfold insZ
  rw [h1, List.take_append_of_le_length h2, List.drop_append_of_le_length h2]
  simp
theorem ins_all {l : List Int} {a : Int} (h : lowZ l a = l.length) : insZ l a = l ++ [a] := by
  unfold insZ
  rw [h, List.take_length, List.drop_length]
theorem take_z {l : List Int} {k : Nat} (h : k < l.length) : l.take (k + 1) = l.take k ++ [l.getD k 0] := by
  rw [List.take_succ_eq_append_getElem h]
  simp [List.getD, h]
/-- What is gathered behind k cells: where one comes in .. -/
def outB (bl : List Int) (a : Int) (k : Nat) : List Int := if lowZ (bl.take k) a = k then bl.take k else insZ (bl.take k) a
/-- .. and where one goes out. -/
def outC (bl : List Int) (a : Int) (k : Nat) : List Int := (bl.take k).filter (fun y => decide (y ≠ a))
theorem outC_more {bl : List Int} {a : Int} {k : Nat} (hk : k < bl.length) (h : bl.getD k 0 ≠ a) : outC bl a (k + 1) = outC bl a k ++ [bl.getD k 0] := by
  unfold outC
  rw [take_z hk, List.filter_append, List.filter_cons_of_pos (by simpa using h)]
  rfl
theorem outC_same {bl : List Int} {a : Int} {k : Nat} (hk : k < bl.length) (h : bl.getD k 0 = a) : outC bl a (k + 1) = outC bl a k := by
  unfold outC
  rw [take_z hk, List.filter_append, List.filter_cons_of_neg (by simpa using h)]
  simp
theorem outC_len (bl : List Int) (a : Int) (k : Nat) : (outC bl a k).length ≤ k :=
  Nat.le_trans (List.length_filter_le _ _) (by rw [List.length_take]; omega)
theorem outC_all {bl : List Int} {a : Int} {n : Nat} (hn : bl.length = n) (hp : bl.Pairwise (· < ·)) (hm : a ∈ bl) : outC bl a n = delZ bl a := by
  unfold outC
  rw [del_filter hp hm, List.take_of_length_le (by omega)]
theorem low_take {bl : List Int} {a : Int} {k : Nat} (hp : bl.Pairwise (· < ·)) (hk : k < bl.length) (h : bl.getD k 0 < a) : lowZ (bl.take (k + 1)) a = k + 1 := by
  have hl : (bl.take (k + 1)).length = k + 1 := by rw [List.length_take]; omega
  unfold lowZ
  conv => rhs; rw [← hl]
  rw [List.countP_eq_length]
  intro y hy
  obtain ⟨i, hi, rfl⟩ := List.mem_iff_getElem.1 hy
  rw [hl] at hi
  rw [List.getElem_take]
  have hk' : bl.getD k 0 = bl[k] := by simp [List.getD, hk]
  rw [hk'] at h
  simp only [decide_eq_true_eq]
  rcases Nat.lt_or_ge i k with h1 | h1
  · have := List.pairwise_iff_getElem.1 hp i k (by omega) hk h1
    omega
  · have : i = k := by omega
    subst this
    exact h
theorem low_not {bl : List Int} {a : Int} {k : Nat} (hk : k < bl.length) (h : ¬ bl.getD k 0 < a) : lowZ (bl.take (k + 1)) a ≠ k + 1 := by
  rw [take_z hk, low_app, if_neg h]
  have := low_le (bl.take k) a
  rw [List.length_take] at this
  omega
/-- The next is less. -/
theorem outB_lt {bl : List Int} {a : Int} {k : Nat} (hp : bl.Pairwise (· < ·)) (hk : k < bl.length) (h : bl.getD k 0 < a) : outB bl a (k + 1) = outB bl a k ++ [bl.getD k 0] := by
  have h1 : lowZ (bl.take k) a = k := by
    have h2 := low_take hp hk h
    rw [take_z hk, low_app, if_pos h] at h2
    omega
  unfold outB
  rw [if_pos (low_take hp hk h), if_pos h1, take_z hk]
/-- The next is the first that is more. -/
theorem outB_in {bl : List Int} {a : Int} {k : Nat} (hp : bl.Pairwise (· < ·)) (hk : k < bl.length) (h : a < bl.getD k 0) (h0 : k = 0 ∨ ∃ j, k = j + 1 ∧ bl.getD j 0 < a) : outB bl a (k + 1) = (outB bl a k ++ [a]) ++ [bl.getD k 0] := by
  have h1 : lowZ (bl.take k) a = k := by
    rcases h0 with rfl | ⟨j, rfl, hj⟩
    · simp [lowZ]
    · exact low_take hp (by omega) hj
  unfold outB
  rw [if_neg (low_not hk (by omega)), if_pos h1, take_z hk, ins_app (by omega), ins_all (by rw [h1, List.length_take]; omega)]
/-- The next is one more that is more. -/
theorem outB_gt {bl : List Int} {a : Int} {j : Nat} (hk : j + 1 < bl.length) (h : a < bl.getD (j + 1) 0) (h0 : ¬ bl.getD j 0 < a) : outB bl a (j + 1 + 1) = outB bl a (j + 1) ++ [bl.getD (j + 1) 0] := by
  unfold outB
  rw [if_neg (low_not hk (by omega)), if_neg (low_not (by omega) h0), take_z hk, ins_app (by omega)]
theorem outB_len (bl : List Int) (a : Int) (k : Nat) : (outB bl a k).length ≤ k + 1 := by
  unfold outB
  split
  · rw [List.length_take]; omega
  · unfold insZ
    have := low_le (bl.take k) a
    simp [List.length_take]
    omega
/-- Behind all: either it is in, or it comes at the end. -/
theorem outB_all {bl : List Int} {a : Int} {n : Nat} (hn : bl.length = n) : ((outB bl a n).length = n ∧ outB bl a n ++ [a] = insZ bl a) ∨ ((outB bl a n).length ≠ n ∧ outB bl a n = insZ bl a) := by
  have ht : bl.take n = bl := List.take_of_length_le (by omega)
  unfold outB
  rw [ht]
  split
  · rename_i h
    exact .inl ⟨hn, (ins_all (by rw [h, hn])).symm⟩
  · refine .inr ⟨?_, rfl⟩
    have := low_le bl a
    unfold insZ
    simp
    omega

/-- What is being gathered, in a block of a state. -/
structure Outs (w8 wr : World) (b : Nat) (h : Sh) (l : List Int) : Prop where
  st : StAt wr b h
  fz : wr.frozen? ⟨b, 3, none⟩ = false
  own : OwnZ wr (b + 1) (.slice h.a3 h.n3 h.c3) l
  bel : Below b w8 wr
  lt : b < wr.heap.size
theorem stAt_set3 {V : World} {b n' c' : Nat} {a' : Option Addr} {h : Sh} (s : StAt V b h) : StAt (V.setCell ⟨b, 3, none⟩ (.slice a' n' c')) b ⟨h.t, h.a1, h.n1, h.c1, h.a2, h.n2, h.c2, a', n', c'⟩ := by
  obtain ⟨h0, h1, h2, h3⟩ := s
  refine ⟨?_, ?_, ?_, ?_⟩ <;> simp [go_sem, h0, h1, h2, h3]
theorem Outs.keep {w8 wr V : World} {b : Nat} {h : Sh} {l : List Int} (o : Outs w8 wr b h l) (hb : Below wr.heap.size wr V) : Outs w8 V b h l :=
  ⟨o.st.below hb o.lt, (hb.frozen (p := ⟨b, 3, none⟩) o.lt).trans o.fz, own_upto o.own hb (fun k hk => (World.ownsRow.lt o.own k hk).2), o.bel.trans (hb.mono (Nat.le_of_lt o.lt)), Nat.lt_of_lt_of_le o.lt hb.size⟩
theorem Outs.push {w8 wr V : World} {b m' c' : Nat} {a' : Option Addr} {h : Sh} {l l' : List Int} (o : Outs w8 wr b h l) (hb : Below (b + 1) wr V) (hown : OwnZ V (b + 1) (.slice a' m' c') l') : Outs w8 (V.setCell ⟨b, 3, none⟩ (.slice a' m' c')) b ⟨h.t, h.a1, h.n1, h.c1, h.a2, h.n2, h.c2, a', m', c'⟩ l' := by
  refine ⟨stAt_set3 (o.st.below hb (by omega)), ?_, ownsRow_setCell_below hown (a := ⟨b, 3, none⟩) (show b < b + 1 by omega) _, (o.bel.trans (hb.mono (by omega))).setCell (p := ⟨b, 3, none⟩) (Nat.le_refl _) _, ?_⟩
  · rw [World.frozen?_setCell]
    exact (hb.frozen (p := ⟨b, 3, none⟩) (show b < b + 1 by omega)).trans o.fz
  · have := hb.size
    have := o.lt
    simp [World.setCell]
    omega
theorem Outs.start {w8 : World} {b : Nat} {h : Sh} (hs : StAt w8 b h) (hf : w8.frozen? ⟨b, 3, none⟩ = false) (hlt : b < w8.heap.size) : Outs w8 (w8.setCell ⟨b, 3, none⟩ (.slice none 0 0)) b ⟨h.t, h.a1, h.n1, h.c1, h.a2, h.n2, h.c2, none, 0, 0⟩ [] :=
  ⟨stAt_set3 hs, by rw [World.frozen?_setCell]; exact hf, World.ownsRow_nil _ _ _ _, (Below.refl _ _).setCell (p := ⟨b, 3, none⟩) (Nat.le_refl _) _, by simpa [World.setCell] using hlt⟩
theorem OwnZ.len {w : World} {B m c : Nat} {a : Option Addr} {l : List Int} (h : OwnZ w B (.slice a m c) l) : m = l.length := by
  obtain ⟨a', c', e, _⟩ := h.row
  injection e with _ e
theorem one_rowZ (w : World) (y : Int) (t : TypeId) : RowZ .i64 (w.alloc (.cells #[.int .i64 y] t)) (w.heap.size + 1) (some ⟨w.heap.size, 0, none⟩) 1 1 [y] := by
  refine ⟨rfl, Nat.le_refl _, by unfold maxLen; omega, fun _ => ⟨w.heap.size, 0, rfl, by omega, fun i hi => ?_⟩⟩
  obtain rfl : i = 0 := by omega
  simp
/-- One more is gathered. -/
theorem run_push {w : World} (ty : TypeId) {B av m cv} {l : List Int} (hown : OwnZ w B (.slice av m cv) l) {ad : Addr} {y : Int} {B2 : Nat} (hr : RowZ .i64 w B2 (some ad) 1 1 [y]) (hlen : l.length ≤ 900000) (hB : B ≤ w.heap.size) :
    ∃ a' m' c' w', (Builtin.append_ #[26, 26] ty #[.slice av m cv, .slice (some ad) 1 1]).run Try.prog w = .ok (.slice a' m' c') w' ∧ OwnZ w' B (.slice a' m' c') (l ++ [y]) ∧ Below B w w' := by
  obtain ⟨v', w', hrun, hown', hb⟩ := run_append_z ty hown hr (by omega) hB
  obtain ⟨a', c', rfl, _⟩ := hown'.row
  exact ⟨a', _, c', w', hrun, hown', hb⟩
theorem step_push {ops : Array Oper} {o : Oper} {a : Act} {w : World} {K : Act → World → Prop} {Q : Exit → Act → World → Prop} {E : Prop} (hgd : o.guard = none) (s x : Operand)
    (ho : o.op = .call { callee := .builtin .append, args := #[s, x], argTypes := #[26, 26] })
    {B : Nat} {av : Option Addr} {m cv : Nat} {out : List Int} (hs : a.eval s = .slice av m cv) (hown : OwnZ w B (.slice av m cv) out) {ad : Addr} {B2 : Nat} {y : Int} (hx : a.eval x = .slice (some ad) 1 1) (hr : RowZ .i64 w B2 (some ad) 1 1 [y])
    (hlen : out.length ≤ 900000) (hB : B ≤ w.heap.size) (h : ∀ a' m' c' w', OwnZ w' B (.slice a' m' c') (out ++ [y]) → Below B w w' → K (a.put o.dst (.slice a' m' c')) w') :
    if Region.wanted o (yielded ops a.tmps) = true then Oper.wp Try.prog o a w K Q else E :=
  step_append_z hgd s x ho hs hown hx hr (by omega) hB fun v' w' h1 h2 => by
    obtain ⟨a', c', rfl, _⟩ := h1.row
    exact h a' _ c' w' h1 h2
end Go.Proofs.Ytlfgdalpaacccaa.Vm
