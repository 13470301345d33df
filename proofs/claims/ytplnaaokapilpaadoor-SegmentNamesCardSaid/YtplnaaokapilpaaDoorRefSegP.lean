/- The document's Records: two slices of records, compared. What the document's Parse of a segment goes by: the mathematics step by step, and the document's ReadRecord in its words. The document's Parse of a segment. -/
import Derived.Test.YtplnaaokapilpaaDoorRecRows
import Derived.Test.YtplnaaokapilpaaDoorRefCodL
import Derived.Test.YtplnaaokapilpaaDoorHeldRegion
import Derived.Test.YtplnaaokapilpaaDoorRefCodRR
import Derived.Test.YtplnaaokapilpaaDoorRefSegRd
import Derived.Deep.RegionHeld3
import Derived.Lib.MinMax
import Derived.Deep.LoopGhost
import Derived.BigQuiet
import Derived.Deep.QuietTactic
namespace Go.Proofs.YtplnaaokapilpaaDoor.Vm
open Go Go.RowKit
set_option maxRecDepth 100000

theorem keptR {A V W : World} (h : Kept A V) (hb : Below V.heap.size V W) : Kept A W := Below.trans h (hb.mono h.size)
set_option maxHeartbeats 4000000 in
theorem rrecords14_any (a1 a2 : Option Addr) (n1 c1 n2 c2 B : Nat) (hs1 hs2 : List Rh) (xs ys : List Rcd) (w : World) (h1 : RowRc w B a1 n1 c1 hs1 xs) (h2 : RowRc w B a2 n2 c2 hs2 ys) (hB : B ≤ w.heap.size) :
    Calls Tryd.prog 19 #[.slice a1 n1 c1, .slice a2 n2 c2] w fun e w' => ∃ b : Bool, e = .returned (.bool b) ∧ (b = true ↔ xs = ys) ∧ Below w.heap.size w w' := by
  have hl1 := h1.1
  have hl2 := h2.1
  have hcc1 := h1.2.1
  have hcc2 := h2.2.1
  have hcm1 := h1.2.2.1
  have hcm2 := h2.2.2.1
  unfold maxLen at hcm1 hcm2
  have HR1 := Lib.hid fun (V : World) (hV : Below w.heap.size w V) => h1.below (hV.mono hB)
  have HR2 := Lib.hid fun (V : World) (hV : Below w.heap.size w V) => h2.below (hV.mono hB)
  have HBB := Lib.hid hB
  have HL1 := Lib.hid hl1
  have HL2 := Lib.hid hl2
  clear h1 h2 hB hl1 hl2
  go_enter Tryd.func19, Tryd.ntmps19
  by_cases hn : n1 = n2
  · subst hn
    have e1 : ((n1 : Int) != (n1 : Int)) = false := by simp
    go_wp2_with fail
    go_loopg [5] n1 (fun gg v5 wr => ∃ i : Nat, i + gg = n1 ∧ v5 = .int .i64 i ∧ Hid (xs.take i = ys.take i) ∧ Hid (Below w.heap.size w wr))
    case atStart => exact ⟨0, by omega, rfl, by unfold Hid; rw [List.take_zero, List.take_zero], Below.refl _ _⟩
    case round =>
      obtain ⟨i, hig, rfl, HTK, HB⟩ := hrel
      by_cases hi : i < n1
      · have hii : (i : Int) < (n1 : Int) := by omega
        have d1 : decide ((i : Int) < (n1 : Int)) = true := by rw [decide_eq_true_eq]; exact hii
        obtain ⟨b1, o1, rfl, hb1, hin1, p0, p1, p2, p3, p4⟩ := (HR1.out wr HB.out).at hi
        obtain ⟨b2, o2, rfl, hb2, hin2, q0, q1, q2, q3, q4⟩ := (HR2.out wr HB.out).at hi
        have HX : Hid (xs.getD i zrcd = ys.getD i zrcd → xs.take (i + 1) = ys.take (i + 1)) := fun he => by
          have h1 := HL1.out
          have h2 := HL2.out
          rw [List.take_add_one, List.take_add_one, HTK.out]
          simp only [List.getD, List.getElem?_eq_getElem (show i < xs.length by omega), List.getElem?_eq_getElem (show i < ys.length by omega), Option.getD_some] at he ⊢
          rw [he]
        have HNX : Hid (xs = ys → xs.getD i zrcd = ys.getD i zrcd) := fun he => by rw [he]
        have hbz := HB.out.size
        have hbb := HBB.out
        have HLK : Hid (∀ V, Kept wr V → Calls Tryd.prog 34 #[rhV (hs1.getD i zrh), rhV (hs2.getD i zrh)] V fun e w' => ∃ b : Bool, e = .returned (.bool b) ∧ (b = true ↔ xs.getD i zrcd = ys.getD i zrcd) ∧ Below V.heap.size V w') := fun V hV =>
          rlike_any _ _ _ _ B V (hin1.below (Below.mono hV (by omega))) (hin2.below (Below.mono hV (by omega))) (Nat.le_trans (by omega) (Below.size hV))
        have HB1 : Hid (b1 < wr.heap.size) := by unfold Hid; omega
        have HB2 : Hid (b2 < wr.heap.size) := by unfold Hid; omega
        clear hin1 hin2 hb1 hb2 hbz hbb
        generalize xs.getD i zrcd = x at *
        generalize ys.getD i zrcd = y at *
        generalize hs1.getD i zrh = k1 at *
        generalize hs2.getD i zrh = k2 at *
        obtain ⟨t, a11, n11, c11, a12, n12, c12, a13, n13, c13, ck⟩ := k1
        obtain ⟨t', a21, n21, c21, a22, n22, c22, a23, n23, c23, ck'⟩ := k2
        simp only [] at p0 p1 p2 p3 p4 q0 q1 q2 q3 q4
        have HKX : Hid (∀ V, Kept wr V → Kept wr V ∧ (V.cell? ⟨b1, o1 + i * 5, none⟩ = some (.int .i64 t) ∧ V.cell? ⟨b1, o1 + i * 5 + 1, none⟩ = some (.slice a11 n11 c11) ∧ V.cell? ⟨b1, o1 + i * 5 + 2, none⟩ = some (.slice a12 n12 c12) ∧ V.cell? ⟨b1, o1 + i * 5 + 3, none⟩ = some (.slice a13 n13 c13) ∧ V.cell? ⟨b1, o1 + i * 5 + 4, none⟩ = some (.int .u32 ck)) ∧
            V.cell? ⟨b2, o2 + i * 5, none⟩ = some (.int .i64 t') ∧ V.cell? ⟨b2, o2 + i * 5 + 1, none⟩ = some (.slice a21 n21 c21) ∧ V.cell? ⟨b2, o2 + i * 5 + 2, none⟩ = some (.slice a22 n22 c22) ∧ V.cell? ⟨b2, o2 + i * 5 + 3, none⟩ = some (.slice a23 n23 c23) ∧ V.cell? ⟨b2, o2 + i * 5 + 4, none⟩ = some (.int .u32 ck')) := fun V hV => by
          have g1 : ∀ o, V.cell? ⟨b1, o, none⟩ = wr.cell? ⟨b1, o, none⟩ := fun o => Below.cell (p := ⟨b1, o, none⟩) hV HB1.out
          have g2 : ∀ o, V.cell? ⟨b2, o, none⟩ = wr.cell? ⟨b2, o, none⟩ := fun o => Below.cell (p := ⟨b2, o, none⟩) hV HB2.out
          simp only [g1, g2]
          exact ⟨hV, ⟨p0, p1, p2, p3, p4⟩, q0, q1, q2, q3, q4⟩
        have kr : Kept wr wr := Kept.refl _
        go_wp2_with fail
        go_region_held3 (fun V => Kept wr V ∧ (V.cell? ⟨b1, o1 + i * 5, none⟩ = some (.int .i64 t) ∧ V.cell? ⟨b1, o1 + i * 5 + 1, none⟩ = some (.slice a11 n11 c11) ∧ V.cell? ⟨b1, o1 + i * 5 + 2, none⟩ = some (.slice a12 n12 c12) ∧ V.cell? ⟨b1, o1 + i * 5 + 3, none⟩ = some (.slice a13 n13 c13) ∧ V.cell? ⟨b1, o1 + i * 5 + 4, none⟩ = some (.int .u32 ck)) ∧
            V.cell? ⟨b2, o2 + i * 5, none⟩ = some (.int .i64 t') ∧ V.cell? ⟨b2, o2 + i * 5 + 1, none⟩ = some (.slice a21 n21 c21) ∧ V.cell? ⟨b2, o2 + i * 5 + 2, none⟩ = some (.slice a22 n22 c22) ∧ V.cell? ⟨b2, o2 + i * 5 + 3, none⟩ = some (.slice a23 n23 c23) ∧ V.cell? ⟨b2, o2 + i * 5 + 4, none⟩ = some (.int .u32 ck'))
          (first | exact HKX.out _ (by assumption) | exact HKX.out _ (Kept.drew (by assumption)))
          (first | (go_at_call 34; refine (HLK.out _ (by first | exact kr | exact Kept.drew kr)).mono ?_; rintro e w3 ⟨lb, rfl, hlb, hb3⟩; have k3 : Kept wr w3 := (by first | exact keptR kr hb3 | exact keptR (Kept.drew kr) hb3)))
        have HLB := Lib.hid hlb
        have HB3 : Hid (Below w.heap.size w w3) := HB.out.trans (Below.mono k3 HB.out.size)
        clear hlb hb3 p0 p1 p2 p3 p4 q0 q1 q2 q3 q4 kr k3 HKX HLK
        cases lb with
        | true =>
          have HXN := Lib.hid (HX.out (HLB.out.1 rfl))
          clear HX HNX
          go_wp2_with fail
          go_roundg (gk - 1)
          case rel => exact ⟨i + 1, by omega, by first | rfl | go_num, HXN.out, HB3.out⟩
          case measure => omega
        | false =>
          have HF : Hid ((false = true ↔ xs = ys)) := ⟨fun h => by simp at h, fun h => by have := HLB.out.2 (HNX.out h); simp at this⟩
          clear HX HNX
          go_wp2_with fail
          exact bodyPost_ret (v := .bool false) (by simp [results, Tryd.results19, go_sem]) rfl ⟨false, rfl, HF.out, HB3.out⟩
      · obtain rfl : i = n1 := by omega
        have d1 : decide ((i : Int) < (i : Int)) = false := by simp
        have HF : Hid ((true = true ↔ xs = ys)) := ⟨fun _ => by
          have h := HTK.out
          rwa [List.take_of_length_le (by rw [HL1.out]; omega), List.take_of_length_le (by rw [HL2.out]; omega)] at h, fun _ => rfl⟩
        go_wp2_with fail
        exact bodyPost_ret (v := .bool true) (by simp [results, Tryd.results19, go_sem]) rfl (.inr ⟨rfl, HF.out.1 trivial, HB.out⟩)
  · have e1 : ((n1 : Int) != (n2 : Int)) = true := by rw [bne_iff_ne]; omega
    have HF : Hid ((false = true ↔ xs = ys)) := ⟨fun h => by simp at h, fun h => absurd (by rw [← HL1.out, ← HL2.out, h]) hn⟩
    go_wp2_with fail
    exact bodyPost_ret (v := .bool false) (by simp [results, Tryd.results19, go_sem]) rfl ⟨false, rfl, HF.out, Below.refl _ _⟩
end Go.Proofs.YtplnaaokapilpaaDoor.Vm

namespace Go.Proofs.YtplnaaokapilpaaDoor.Vm
open Go Go.RowKit
set_option maxRecDepth 100000

theorem scan_count : ∀ (n : Nat) (r : List Nat), r.length ≤ n → (scanS r).1.length ≤ r.length
  | 0, r, h => by
    obtain rfl : r = [] := List.eq_nil_of_length_eq_zero (by omega)
    rw [scanS_nil]
    simp
  | n + 1, r, h => by
    by_cases h0 : r = []
    · rw [h0, scanS_nil]
      simp
    · by_cases hw : Whole r
      · rw [scanS_ok hw]
        have hd : (r.drop (sizeF r)).length + 4 ≤ r.length := by
          have := hw.2.2.1
          simp only [List.length_drop]
          unfold sizeF at *
          omega
        have ih := scan_count n (r.drop (sizeF r)) (by omega)
        simp only [List.length_cons]
        omega
      · rw [scanS_no h0 hw]
        simp
noncomputable def parseL (L : List (List Nat)) (n b : Nat) : ParS :=
  match L with
  | [] => ⟨2, 0, [], 0, 0⟩
  | z :: l => match headOf z with
    | none => ⟨3, 0, [], 0, 0⟩
    | some t => if (recsF t l).1 = 0 then ⟨0, (t : Nat), (recsF t l).2, n, b⟩ else ⟨(recsF t l).1, 0, [], 0, 0⟩
theorem parseG_L (zs : List Nat) : parseG zs = parseL (scanS zs).1 (scanS zs).2.1 (scanS zs).2.2 := by
  unfold parseG parseL
  rfl
def finP (t : Int) (n b : Nat) (R : Int × List Rcd) (o : List Rcd) : ParS := if R.1 = 0 then ⟨0, t, o ++ R.2, n, b⟩ else ⟨R.1, 0, [], 0, 0⟩
theorem parseL_nil {L : List (List Nat)} (n b : Nat) (h : L.length = 0) : parseL L n b = ⟨2, 0, [], 0, 0⟩ := by
  obtain rfl := List.eq_nil_of_length_eq_zero h
  rfl
theorem parseL_bad {L : List (List Nat)} (n b : Nat) (h : L.length ≠ 0) (hh : headOf (L.getD 0 []) = none) : parseL L n b = ⟨3, 0, [], 0, 0⟩ := by
  match L, h with
  | z :: l, _ =>
    have hh : headOf z = none := hh
    unfold parseL
    simp only [hh]
theorem parseL_head {L : List (List Nat)} {t : Nat} (n b : Nat) (h : L.length ≠ 0) (hh : headOf (L.getD 0 []) = some t) : parseL L n b = finP t n b (recsF t (L.drop 1)) [] := by
  match L, h with
  | z :: l, _ =>
    have hh : headOf z = some t := hh
    unfold parseL finP
    simp only [hh, List.drop_succ_cons, List.drop_zero, List.nil_append]
theorem drop_frame {L : List (List Nat)} {i : Nat} (h : i < L.length) : L.drop i = L.getD i [] :: L.drop (i + 1) := by
  rw [List.drop_eq_getElem_cons h]
  simp [List.getD, h]
section
variable {L : List (List Nat)} {t s : Int} {n b i : Nat} {o : List Rcd} {x : Rcd}
theorem finP_none (h : i < L.length) (hr : recZ (L.getD i []) = none) : finP t n b (recsF s (L.drop i)) o = ⟨3, 0, [], 0, 0⟩ := by
  rw [drop_frame h, recsF, hr]
  rfl
theorem finP_tick (h : i < L.length) (hr : recZ (L.getD i []) = some x) (hx : x.tick ≠ s) : finP t n b (recsF s (L.drop i)) o = ⟨11, 0, [], 0, 0⟩ := by
  rw [drop_frame h, recsF, hr]
  simp only [if_neg hx]
  rfl
theorem finP_next (h : i < L.length) (hr : recZ (L.getD i []) = some x) (hx : x.tick = s) : finP t n b (recsF s (L.drop i)) o = finP t n b (recsF (s + 1) (L.drop (i + 1))) (o ++ [x]) := by
  rw [drop_frame h, recsF, hr]
  simp only [if_pos hx]
  unfold finP
  simp only [List.append_assoc, List.singleton_append]
theorem finP_end (h : L.length ≤ i) : finP t n b (recsF s (L.drop i)) o = ⟨0, t, o, n, b⟩ := by
  rw [List.drop_of_length_le h, recsF]
  simp [finP]
end
theorem takeS_one (x : Nat) (r : List Nat) : takeS (x :: r) 1 = if (dec 0 r).2.2 = 0 then ((dec 0 r).1, 1 + (dec 0 r).2.1, 0) else (0, 0, (dec 0 r).2.2) := by
  unfold takeS
  rw [if_neg (by simp only [List.length_cons]; omega)]
  rfl
theorem headOf_yes {z : List Nat} (h : z.length ≠ 0) (h7 : z.getD 0 0 = 7) (he : (takeS z 1).2.2 = 0) (hn : (takeS z 1).2.1 = z.length) (ht : (takeS z 1).1 ≤ 2147483647) : headOf z = some (takeS z 1).1 := by
  match z, h with
  | x :: r, _ =>
    obtain rfl : x = 7 := h7
    rw [takeS_one] at he hn ht ⊢
    by_cases hd : (dec 0 r).2.2 = 0
    · rw [if_pos hd] at hn ht ⊢
      simp only [List.length_cons] at hn ht ⊢
      unfold headOf
      simp only []
      rw [if_pos ⟨hd, by omega, ht⟩]
    · rw [if_neg hd] at he
      exact absurd he hd
theorem headOf_no {z : List Nat} (h : z.length = 0 ∨ z.getD 0 0 ≠ 7 ∨ (takeS z 1).2.2 ≠ 0 ∨ (takeS z 1).2.1 ≠ z.length ∨ 2147483647 < (takeS z 1).1) : headOf z = none := by
  match z with
  | [] => rfl
  | x :: r =>
    by_cases h7 : x = 7
    · subst h7
      unfold headOf
      simp only []
      refine if_neg fun ⟨h1, h2, h3⟩ => ?_
      rw [takeS_one, if_pos h1] at h
      simp only [List.length_cons] at h
      rcases h with h | h | h | h | h
      · omega
      · exact h rfl
      · exact h rfl
      · omega
      · omega
    · unfold headOf
      split
      · rename_i heq
        injection heq with heq _
        exact absurd heq h7
      · rfl
theorem OwnRc.mono {w : World} {B B' : Nat} {v : Value} {hs : List Rh} {xs : List Rcd} (o : OwnRc w B v hs xs) (hB : B' ≤ B) : OwnRc w B' v hs xs := by
  refine ⟨⟨o.own.1, ?_⟩, o.len, fun i hi => (o.like i hi).mono hB⟩
  rcases o.own.2 with h2 | ⟨g, cap, cur, hv, hb, r⟩
  · exact .inl h2
  · exact .inr ⟨g, cap, cur, hv, by omega, r⟩
end Go.Proofs.YtplnaaokapilpaaDoor.Vm

namespace Go.Proofs.YtplnaaokapilpaaDoor.Vm
open Go Go.RowKit
set_option maxRecDepth 100000

/-- What Parse hands back: the same as parsed, the records in memory of the call's own. -/
def SaysPar (w : World) (P : ParS) (e : Ending) (w' : World) : Prop :=
  ∃ a c hs, e = .returned (.tuple #[.int .i64 P.first, .slice a P.recs.length c, .int .i64 (P.n : Nat), .int .i64 (P.behind : Nat), .int .i64 P.er]) ∧ OwnRc w' w.heap.size (.slice a P.recs.length c) hs P.recs ∧ Below w.heap.size w w'
theorem saysPar_no {w w' : World} {P : ParS} (er : Int) (h : P = ⟨er, 0, [], 0, 0⟩) (hb : Below w.heap.size w w') : SaysPar w P (.returned (.tuple #[.int .i64 0, .slice none 0 0, .int .i64 0, .int .i64 0, .int .i64 er])) w' := by
  rw [h]
  exact ⟨none, 0, [], rfl, OwnRc.nil _ _, hb⟩
end Go.Proofs.YtplnaaokapilpaaDoor.Vm
