/- Bytes appended to bytes that the call owns: whatever slice they come of, nil too; what was appended to still reads as it did. No function of the program is named here. -/
import Derived.Test.YtplnaaokapilpaaDoorOwns
import Derived.ArgAppend
namespace Go.Proofs.YtplnaaokapilpaaDoor.Vm
open Go.RowKit

theorem run_append_none {P : Program} {w : World} (base : Nat) (t ty e : TypeId) (i : TypeInfo) (size : Nat) (ht : P.underlying t = some (.slice e)) (hi : P.info? e = some i)
    (v : Value) (n c : Nat) (xs : List Value) (hown : w.ownsRow base e size v n xs) :
    (Builtin.append_ #[t, t] ty #[v, .slice none 0 c]).run P w = .ok v w := by
  rcases hown.2 with ⟨rfl, rfl⟩ | ⟨g, cap, cur, rfl, _, _, hnc, _⟩
  · simp [Builtin.append_, run_underlying ht, sizeOf, typeInfo, hi, Builtin.lenOf, Builtin.firstCells]
  · simp [Builtin.append_, run_underlying ht, sizeOf, typeInfo, hi, Builtin.lenOf, Builtin.firstCells, hnc, storeCells]

/-- What is owned reads as a row. -/
theorem Own.row {w : World} {B : Nat} {a : Option Addr} {n c : Nat} {l : List Nat} (h : Own w B (.slice a n c) l) : Row .u8 w w.heap.size a n c l := by
  have hn : n = l.length := by
    rcases h.2 with ⟨e, hn⟩ | ⟨g, cap, cur, e, _⟩
    · injection e with _ e2 _; omega
    · injection e with _ e2 _
  subst hn
  exact Row.of_own (e := 5) h

theorem Own.slice {w : World} {B : Nat} {v : Value} {l : List Nat} (h : Own w B v l) : ∃ a c, v = .slice a l.length c ∧ Row .u8 w w.heap.size a l.length c l := by
  obtain ⟨a, c, rfl⟩ := own_slice h
  exact ⟨a, c, rfl, h.row⟩

theorem cells_row {w : World} {B : Nat} {ad : Addr} {n c : Nat} {l : List Nat} (h : Row .u8 w B (some ad) n c l) : ∀ j u, (u8s l)[j]? = some u → w.cell? (ad.add j) = some u := by
  intro j u hu
  have hj : j < l.length := by
    have := (List.getElem?_eq_some_iff.1 hu).1
    simpa [u8s] using this
  obtain ⟨b, off, e1, _, _⟩ := h.cells (by have := h.1; omega)
  injection e1 with e1
  subst e1
  exact row_cells h j u hu

theorem Own.of_append {w : World} {B : Nat} {v : Value} {a b : List Nat} {m : Nat} (hb : b.length = m) (h : w.ownsRow B 5 1 v (a.length + m) (u8s a ++ u8s b)) : Own w B v (a ++ b) := by
  unfold Own
  rw [List.length_append, u8s_append, hb]
  exact h

theorem Row.keep_block {k : IntKind} {w w' : World} {B : Nat} {a : Option Addr} {n c : Nat} {zs : List Nat} (h : Row k w B a n c zs) (hk : ∀ b, b < B → w'.heap[b]? = w.heap[b]?) : Row k w' B a n c zs :=
  h.keep fun _ hp => World.cell?_of_block (hk _ hp)

set_option maxRecDepth 100000 in
theorem wpList_append_row {ops : Array Oper} {rest : List Oper} {o : Oper} {a : Act} {Q : Exit → Act → World → Prop} {w : World} (hgd : o.guard = none) (s x : Operand)
    (ho : o.op = .call { callee := .builtin .append, args := #[s, x], argTypes := #[27, 27] })
    {B : Nat} {v : Value} {out : List Nat} (hs : a.eval s = v) (hown : Own w B v out) {ao : Option Addr} {m c B2 : Nat} {l : List Nat} (hx : a.eval x = .slice ao m c) (hr : Row .u8 w B2 ao m c l)
    (hlen : out.length + m ≤ 140737488355328) (hB : B ≤ w.heap.size)
    (h : ∀ v' w', Own w' B v' (out ++ l) → w.grownBy w' v.ownBlock → (∀ a' n' c', v = .slice a' n' c' → Row .u8 w' w'.heap.size a' n' c' out) → wpList Tryd.prog ops Q rest (a.put o.dst v') w') : wpList Tryd.prog ops Q (o :: rest) a w := by
  obtain ⟨i0, hi0, hz0, hz1, hz2⟩ := info_parts info_u8
  have hlm : l.length = m := hr.1
  cases ao with
  | none =>
    have hm0 : m = 0 := by
      rcases Nat.eq_zero_or_pos m with h0 | h0
      · exact h0
      · obtain ⟨b, off, e, _⟩ := hr.cells h0; cases e
    subst hm0
    obtain rfl := List.eq_nil_of_length_eq_zero hlm
    refine wpList_plain hgd fun K hK' => ?_
    have hrun := run_append_none (P := Tryd.prog) (w := w) B 27 o.type 5 i0 1 Tryd.underlying27 hi0 v out.length c (u8s out) hown
    unfold Oper.wp
    simp [execOp, ho, resolve, invoke, builtin, hs, hx, hrun, Result.andThen]
    refine hK' _ _ (h v w (by simpa using hown) (World.grownBy.refl _ _) (fun a' n' c' e => ?_))
    subst e
    exact hown.row
  | some ad =>
    have hcs := cells_row hr
    rcases hown.2 with ⟨e, hn⟩ | ⟨g, cap, cur, e, hbg, hg, hnc, hcm, hcs2, htake⟩
    · obtain rfl := List.eq_nil_of_length_eq_zero hn
      refine wpList_append_own _ hgd s x 27 ho B 5 i0 (.int .u8 0) 1 1 Tryd.underlying27 hi0 hz0 hz1 hz2 rfl (by decide) v _ _ hs hown ad m c (u8s l) hx (by rw [u8s_len]; omega) hcs (u8s_one _) (by simp only [maxLen, List.length_nil] at *; omega) (by simp only [List.length_nil] at *; omega) hB ?_
      intro v' w1 hown1 hgrow1 _
      refine h v' w1 (Own.of_append hlm hown1) hgrow1 (fun a' n' c' e' => ?_)
      rw [e] at e'
      injection e' with e1 e2 e3
      subst e1 e2 e3
      exact Row.nil w1 _
    · by_cases hroom : out.length + m ≤ cap
      · refine wpList_append_fits _ hgd s x 27 ho B 5 i0 1 Tryd.underlying27 hi0 hz1 g out.length cap (u8s out) (hs.trans e) (by rw [← e]; exact hown) ad m c (u8s l) hx (by rw [u8s_len]; omega) hcs (u8s_one _) hroom ?_
        intro w1 hown1 hgrow1
        have hown2 := Own.of_append hlm hown1
        refine h _ w1 hown2 (by rw [e]; exact hgrow1) (fun a' n' c' e' => ?_)
        rw [e] at e'
        injection e' with e1 e2 e3
        subst e1 e2 e3
        have hp := (Own.row hown2).part (lo := 0) (hi := out.length) (mx := cap) (a' := some ⟨g, 0, none⟩) (by omega) (by omega) hnc (Nat.le_refl _) (fun b off e1 _ => by injection e1 with e1; injection e1 with e1 e2; subst e1 e2; rfl)
        simpa using hp
      · have hrow := (show Own w B (.slice (some ⟨g, 0, none⟩) out.length cap) out by rw [← e]; exact hown).row
        refine wpList_append_grows _ hgd s x 27 ho 5 i0 (.int .u8 0) 1 1 Tryd.underlying27 hi0 hz0 hz1 hz2 rfl (by decide) (some ⟨g, 0, none⟩) out.length cap (u8s out) (hs.trans e) (fun e => by cases e) (by rw [u8s_len]; omega) (fun b eb => by injection eb with eb; subst eb; exact cells_row hrow) ad m c (u8s l) hx (by rw [u8s_len]; omega) hcs (u8s_one _) (by omega) (by simp only [maxLen]; omega) (by omega) ?_
        intro v' w1 hown1 hgrow1
        have hown2 := Own.mono (Own.of_append hlm hown1) hB
        refine h v' w1 hown2 ⟨hgrow1.os, hgrow1.tape, hgrow1.output, hgrow1.size, fun k hk _ => hgrow1.block k hk (by simp)⟩ (fun a' n' c' e' => ?_)
        rw [e] at e'
        injection e' with e1 e2 e3
        subst e1 e2 e3
        exact (hrow.keep_block fun b hb => hgrow1.block b hb (by simp)).mono hgrow1.size
end Go.Proofs.YtplnaaokapilpaaDoor.Vm
