/- The document's Records: two slices of records, compared. What the document's Parse of a segment goes by: the mathematics step by step, and the document's ReadRecord in its words. The document's Parse of a segment. -/
import Derived.Test.YtplnaaokapilpaaGreatDoorRecRows
import Derived.Test.YtplnaaokapilpaaGreatDoorRefCodL
import Derived.Test.YtplnaaokapilpaaGreatDoorHeldRegion
import Derived.Test.YtplnaaokapilpaaGreatDoorRefCodRR
import Derived.Test.YtplnaaokapilpaaGreatDoorRefSegRd
import Derived.Deep.RegionHeld3
import Derived.Lib.MinMax
import Derived.Deep.LoopGhost
import Derived.BigQuiet
import Derived.Deep.QuietTactic
set_option linter.unusedVariables false
set_option linter.unusedSimpArgs false
namespace Go.Proofs.YtplnaaokapilpaaGreatDoor.Vm
open Go Go.RowKit
set_option maxRecDepth 100000

theorem keptR {A V W : World} (h : Kept A V) (hb : Below V.heap.size V W) : Kept A W := Below.trans h (hb.mono h.size)
set_option maxHeartbeats 4000000 in
theorem rrecords14_any (a1 a2 : Option Addr) (n1 c1 n2 c2 B : Nat) (hs1 hs2 : List Rh) (xs ys : List Rcd) (w : World) (h1 : RowRc w B a1 n1 c1 hs1 xs) (h2 : RowRc w B a2 n2 c2 hs2 ys) (hB : B ≤ w.heap.size) :
    Calls Tryz.prog 7 #[.slice a1 n1 c1, .slice a2 n2 c2] w fun e w' => ∃ b : Bool, e = .returned (.bool b) ∧ (b = true ↔ xs = ys) ∧ Below w.heap.size w w' := by
  have hl1 := h1.1
  have hl2 := h2.1
  have hcc1 := h1.2.1
  have hcc2 := h2.2.1
  have hcm1 := h1.2.2.1
  have hcm2 := h2.2.2.1
  unfold maxLen at hcm1 hcm2
  have HR1 := Lib.hid fun (V : World) (hV : Below w.heap.size w V) => h1.below (hV.mono hB)
  have HR2 := Lib.hid fun (V : World) (hV : Below w.heap.size w V) => h2.below (hV.mono hB)
  have HBB := Lib.hid hB
  have HL1 := Lib.hid hl1
  have HL2 := Lib.hid hl2
  clear h1 h2 hB hl1 hl2
  go_enter Tryz.func7, Tryz.ntmps7
  by_cases hn : n1 = n2
  · subst hn
    have e1 : ((n1 : Int) != (n1 : Int)) = false := by simp
    go_wp2_with fail
    go_loopg [5] n1 (fun gg v5 wr => ∃ i : Nat, i + gg = n1 ∧ v5 = .int .i64 i ∧ Hid (xs.take i = ys.take i) ∧ Hid (Below w.heap.size w wr))
    case atStart => exact ⟨0, by omega, rfl, by unfold Hid; rw [List.take_zero, List.take_zero], Below.refl _ _⟩
    case round =>
      obtain ⟨i, hig, rfl, HTK, HB⟩ := hrel
      by_cases hi : i < n1
      · have hii : (i : Int) < (n1 : Int) := by omega
        have d1 : decide ((i : Int) < (n1 : Int)) = true := by rw [decide_eq_true_eq]; exact hii
        obtain ⟨b1, o1, rfl, hb1, hin1, p0, p1, p2, p3, p4⟩ := (HR1.out wr HB.out).at hi
        obtain ⟨b2, o2, rfl, hb2, hin2, q0, q1, q2, q3, q4⟩ := (HR2.out wr HB.out).at hi
        have HX : Hid (xs.getD i zrcd = ys.getD i zrcd → xs.take (i + 1) = ys.take (i + 1)) := fun he => by
          have h1 := HL1.out
          have h2 := HL2.out
          rw [List.take_add_one, List.take_add_one, HTK.out]
          simp only [List.getD, List.getElem?_eq_getElem (show i < xs.length by omega), List.getElem?_eq_getElem (show i < ys.length by omega), Option.getD_some] at he ⊢
          rw [he]
        have HNX : Hid (xs = ys → xs.getD i zrcd = ys.getD i zrcd) := fun he => by rw [he]
        have hbz := HB.out.size
        have hbb := HBB.out
        have HLK : Hid (∀ V, Kept wr V → Calls Tryz.prog 26 #[rhV (hs1.getD i zrh), rhV (hs2.getD i zrh)] V fun e w' => ∃ b : Bool, e = .returned (.bool b) ∧ (b = true ↔ xs.getD i zrcd = ys.getD i zrcd) ∧ Below V.heap.size V w') := fun V hV =>
          rlike_any _ _ _ _ B V (hin1.below (Below.mono hV (by omega))) (hin2.below (Below.mono hV (by omega))) (Nat.le_trans (by omega) (Below.size hV))
        have HB1 : Hid (b1 < wr.heap.size) := by unfold Hid; omega
        have HB2 : Hid (b2 < wr.heap.size) := by unfold Hid; omega
        clear hin1 hin2 hb1 hb2 hbz hbb
        generalize xs.getD i zrcd = x at *
        generalize ys.getD i zrcd = y at *
        generalize hs1.getD i zrh = k1 at *
        generalize hs2.getD i zrh = k2 at *
        obtain ⟨t, a11, n11, c11, a12, n12, c12, a13, n13, c13, ck⟩ := k1
        obtain ⟨t', a21, n21, c21, a22, n22, c22, a23, n23, c23, ck'⟩ := k2
        simp only [] at p0 p1 p2 p3 p4 q0 q1 q2 q3 q4
        have HKX : Hid (∀ V, Kept wr V → Kept wr V ∧ (V.cell? ⟨b1, o1 + i * 5, none⟩ = some (.int .i64 t) ∧ V.cell? ⟨b1, o1 + i * 5 + 1, none⟩ = some (.slice a11 n11 c11) ∧ V.cell? ⟨b1, o1 + i * 5 + 2, none⟩ = some (.slice a12 n12 c12) ∧ V.cell? ⟨b1, o1 + i * 5 + 3, none⟩ = some (.slice a13 n13 c13) ∧ V.cell? ⟨b1, o1 + i * 5 + 4, none⟩ = some (.int .u32 ck)) ∧
            V.cell? ⟨b2, o2 + i * 5, none⟩ = some (.int .i64 t') ∧ V.cell? ⟨b2, o2 + i * 5 + 1, none⟩ = some (.slice a21 n21 c21) ∧ V.cell? ⟨b2, o2 + i * 5 + 2, none⟩ = some (.slice a22 n22 c22) ∧ V.cell? ⟨b2, o2 + i * 5 + 3, none⟩ = some (.slice a23 n23 c23) ∧ V.cell? ⟨b2, o2 + i * 5 + 4, none⟩ = some (.int .u32 ck')) := fun V hV => by
          have g1 : ∀ o, V.cell? ⟨b1, o, none⟩ = wr.cell? ⟨b1, o, none⟩ := fun o => Below.cell (p := ⟨b1, o, none⟩) hV HB1.out
          have g2 : ∀ o, V.cell? ⟨b2, o, none⟩ = wr.cell? ⟨b2, o, none⟩ := fun o => Below.cell (p := ⟨b2, o, none⟩) hV HB2.out
          simp only [g1, g2]
          exact ⟨hV, ⟨p0, p1, p2, p3, p4⟩, q0, q1, q2, q3, q4⟩
        have kr : Kept wr wr := Kept.refl _
        go_wp2_with fail
        go_region_held3 (fun V => Kept wr V ∧ (V.cell? ⟨b1, o1 + i * 5, none⟩ = some (.int .i64 t) ∧ V.cell? ⟨b1, o1 + i * 5 + 1, none⟩ = some (.slice a11 n11 c11) ∧ V.cell? ⟨b1, o1 + i * 5 + 2, none⟩ = some (.slice a12 n12 c12) ∧ V.cell? ⟨b1, o1 + i * 5 + 3, none⟩ = some (.slice a13 n13 c13) ∧ V.cell? ⟨b1, o1 + i * 5 + 4, none⟩ = some (.int .u32 ck)) ∧
            V.cell? ⟨b2, o2 + i * 5, none⟩ = some (.int .i64 t') ∧ V.cell? ⟨b2, o2 + i * 5 + 1, none⟩ = some (.slice a21 n21 c21) ∧ V.cell? ⟨b2, o2 + i * 5 + 2, none⟩ = some (.slice a22 n22 c22) ∧ V.cell? ⟨b2, o2 + i * 5 + 3, none⟩ = some (.slice a23 n23 c23) ∧ V.cell? ⟨b2, o2 + i * 5 + 4, none⟩ = some (.int .u32 ck'))
          (first | exact HKX.out _ (by assumption) | exact HKX.out _ (Kept.drew (by assumption)))
          (first | (go_at_call 26; refine (HLK.out _ (by first | exact kr | exact Kept.drew kr)).mono ?_; rintro e w3 ⟨lb, rfl, hlb, hb3⟩; have k3 : Kept wr w3 := (by first | exact keptR kr hb3 | exact keptR (Kept.drew kr) hb3)))
        have HLB := Lib.hid hlb
        have HB3 : Hid (Below w.heap.size w w3) := HB.out.trans (Below.mono k3 HB.out.size)
        clear hlb hb3 p0 p1 p2 p3 p4 q0 q1 q2 q3 q4 kr k3 HKX HLK
        cases lb with
        | true =>
          have HXN := Lib.hid (HX.out (HLB.out.1 rfl))
          clear HX HNX
          go_wp2_with fail
          go_roundg (gk - 1)
          case rel => exact ⟨i + 1, by omega, by first | rfl | go_num, HXN.out, HB3.out⟩
          case measure => omega
        | false =>
          have HF : Hid ((false = true ↔ xs = ys)) := ⟨fun h => by simp at h, fun h => by have := HLB.out.2 (HNX.out h); simp at this⟩
          clear HX HNX
          go_wp2_with fail
          exact bodyPost_ret (v := .bool false) (by simp [results, Tryz.results7, go_sem]) rfl ⟨false, rfl, HF.out, HB3.out⟩
      · obtain rfl : i = n1 := by omega
        have d1 : decide ((i : Int) < (i : Int)) = false := by simp
        have HF : Hid ((true = true ↔ xs = ys)) := ⟨fun _ => by
          have h := HTK.out
          rwa [List.take_of_length_le (by rw [HL1.out]; omega), List.take_of_length_le (by rw [HL2.out]; omega)] at h, fun _ => rfl⟩
        go_wp2_with fail
        exact bodyPost_ret (v := .bool true) (by simp [results, Tryz.results7, go_sem]) rfl (.inr ⟨rfl, HF.out.1 trivial, HB.out⟩)
  · have e1 : ((n1 : Int) != (n2 : Int)) = true := by rw [bne_iff_ne]; omega
    have HF : Hid ((false = true ↔ xs = ys)) := ⟨fun h => by simp at h, fun h => absurd (by rw [← HL1.out, ← HL2.out, h]) hn⟩
    go_wp2_with fail
    exact bodyPost_ret (v := .bool false) (by simp [results, Tryz.results7, go_sem]) rfl ⟨false, rfl, HF.out, Below.refl _ _⟩
end Go.Proofs.YtplnaaokapilpaaGreatDoor.Vm

namespace Go.Proofs.YtplnaaokapilpaaGreatDoor.Vm
open Go Go.RowKit
set_option maxRecDepth 100000

theorem scan_count : ∀ (n : Nat) (r : List Nat), r.length ≤ n → (scanS r).1.length ≤ r.length
  | 0, r, h => by
    obtain rfl : r = [] := List.eq_nil_of_length_eq_zero (by omega)
    rw [scanS_nil]
    simp
  | n + 1, r, h => by
    by_cases h0 : r = []
    · rw [h0, scanS_nil]
      simp
    · by_cases hw : Whole r
      · rw [scanS_ok hw]
        have hd : (r.drop (sizeF r)).length + 4 ≤ r.length := by
          have := hw.2.2.1
          simp only [List.length_drop]
          unfold sizeF at *
          omega
        have ih := scan_count n (r.drop (sizeF r)) (by omega)
        simp only [List.length_cons]
        omega
      · rw [scanS_no h0 hw]
        simp
noncomputable def parseL (L : List (List Nat)) (n b : Nat) : ParS :=
  match L with
  | [] => ⟨2, 0, [], 0, 0⟩
  | z :: l => match headOf z with
    | none => ⟨3, 0, [], 0, 0⟩
    | some t => if (recsF t l).1 = 0 then ⟨0, (t : Nat), (recsF t l).2, n, b⟩ else ⟨(recsF t l).1, 0, [], 0, 0⟩
theorem parseG_L (zs : List Nat) : parseG zs = parseL (scanS zs).1 (scanS zs).2.1 (scanS zs).2.2 := by
  unfold parseG parseL
  rfl
def finP (t : Int) (n b : Nat) (R : Int × List Rcd) (o : List Rcd) : ParS := if R.1 = 0 then ⟨0, t, o ++ R.2, n, b⟩ else ⟨R.1, 0, [], 0, 0⟩
theorem parseL_nil {L : List (List Nat)} (n b : Nat) (h : L.length = 0) : parseL L n b = ⟨2, 0, [], 0, 0⟩ := by
  obtain rfl := List.eq_nil_of_length_eq_zero h
  rfl
theorem parseL_bad {L : List (List Nat)} (n b : Nat) (h : L.length ≠ 0) (hh : headOf (L.getD 0 []) = none) : parseL L n b = ⟨3, 0, [], 0, 0⟩ := by
  match L, h with
  | z :: l, _ =>
    have hh : headOf z = none := hh
    unfold parseL
    simp only [hh]
theorem parseL_head {L : List (List Nat)} {t : Nat} (n b : Nat) (h : L.length ≠ 0) (hh : headOf (L.getD 0 []) = some t) : parseL L n b = finP t n b (recsF t (L.drop 1)) [] := by
  match L, h with
  | z :: l, _ =>
    have hh : headOf z = some t := hh
    unfold parseL finP
    simp only [hh, List.drop_succ_cons, List.drop_zero, List.nil_append]
theorem drop_frame {L : List (List Nat)} {i : Nat} (h : i < L.length) : L.drop i = L.getD i [] :: L.drop (i + 1) := by
  rw [List.drop_eq_getElem_cons h]
  simp [List.getD, h]
section
variable {L : List (List Nat)} {t s : Int} {n b i : Nat} {o : List Rcd} {x : Rcd}
theorem finP_none (h : i < L.length) (hr : recZ (L.getD i []) = none) : finP t n b (recsF s (L.drop i)) o = ⟨3, 0, [], 0, 0⟩ := by
  rw [drop_frame h, recsF, hr]
  rfl
theorem finP_tick (h : i < L.length) (hr : recZ (L.getD i []) = some x) (hx : x.tick ≠ s) : finP t n b (recsF s (L.drop i)) o = ⟨11, 0, [], 0, 0⟩ := by
  rw [drop_frame h, recsF, hr]
  simp only [if_neg hx]
  rfl
theorem finP_next (h : i < L.length) (hr : recZ (L.getD i []) = some x) (hx : x.tick = s) : finP t n b (recsF s (L.drop i)) o = finP t n b (recsF (s + 1) (L.drop (i + 1))) (o ++ [x]) := by
  rw [drop_frame h, recsF, hr]
  simp only [if_pos hx]
  unfold finP
  simp only [List.append_assoc, List.singleton_append]
theorem finP_end (h : L.length ≤ i) : finP t n b (recsF s (L.drop i)) o = ⟨0, t, o, n, b⟩ := by
  rw [List.drop_of_length_le h, recsF]
  simp [finP]
end
theorem takeS_one (x : Nat) (r : List Nat) : takeS (x :: r) 1 = if (dec 0 r).2.2 = 0 then ((dec 0 r).1, 1 + (dec 0 r).2.1, 0) else (0, 0, (dec 0 r).2.2) := by
  unfold takeS
  rw [if_neg (by simp only [List.length_cons]; omega)]
  rfl
theorem headOf_yes {z : List Nat} (h : z.length ≠ 0) (h7 : z.getD 0 0 = 7) (he : (takeS z 1).2.2 = 0) (hn : (takeS z 1).2.1 = z.length) (ht : (takeS z 1).1 ≤ 2147483647) : headOf z = some (takeS z 1).1 := by
  match z, h with
  | x :: r, _ =>
    obtain rfl : x = 7 := h7
    rw [takeS_one] at he hn ht ⊢
    by_cases hd : (dec 0 r).2.2 = 0
    · rw [if_pos hd] at hn ht ⊢
      simp only [List.length_cons] at hn ht ⊢
      unfold headOf
      simp only []
      rw [if_pos ⟨hd, by omega, ht⟩]
    · rw [if_neg hd] at he
      exact absurd he hd
theorem headOf_no {z : List Nat} (h : z.length = 0 ∨ z.getD 0 0 ≠ 7 ∨ (takeS z 1).2.2 ≠ 0 ∨ (takeS z 1).2.1 ≠ z.length ∨ 2147483647 < (takeS z 1).1) : headOf z = none := by
  match z with
  | [] => rfl
  | x :: r =>
    by_cases h7 : x = 7
    · subst h7
      unfold headOf
      simp only []
      refine if_neg fun ⟨h1, h2, h3⟩ => ?_
      rw [takeS_one, if_pos h1] at h
      simp only [List.length_cons] at h
      rcases h with h | h | h | h | h
      · omega
      · exact h rfl
      · exact h rfl
      · omega
      · omega
    · unfold headOf
      split
      · rename_i heq
        injection heq with heq _
        exact absurd heq h7
      · rfl
/-- The document's ReadRecord, in these words. -/
theorem rrr14_any (a : Option Addr) (n c : Nat) (z : List Nat) (w : World) (h : Row .u8 w w.heap.size a n c z) (hz : ∀ x ∈ z, x < 256) (hn : n ≤ 2000) :
    Calls Tryz.prog 25 #[.slice a n c] w fun e w' => ∃ h' er, e = .returned (.tuple #[rhV h', .int .i64 er]) ∧ ((er = 0 ∧ ∃ x, recZ z = some x ∧ RCopy w' w.heap.size h' x) ∨ (er = 3 ∧ recZ z = none)) ∧ Below w.heap.size w w' :=
  (rcodRR_any a n c z w h hz hn).mono fun e w' ⟨h', er, he, hd, hb⟩ => ⟨h', er, he, by
    have hl := h.1
    rcases hd with ⟨h0, x, h1, h2, h3, h4, h5⟩ | ⟨h3, _, hno⟩
    · exact .inl ⟨h0, x, recZ_is ⟨h1, h2, h3, h4⟩ (by omega), h5⟩
    · refine .inr ⟨h3, ?_⟩
      cases e : recZ z with
      | none => rfl
      | some x => exact absurd ⟨x, recZ_some e⟩ hno, hb⟩
theorem OwnRc.mono {w : World} {B B' : Nat} {v : Value} {hs : List Rh} {xs : List Rcd} (o : OwnRc w B v hs xs) (hB : B' ≤ B) : OwnRc w B' v hs xs := by
  refine ⟨⟨o.own.1, ?_⟩, o.len, fun i hi => (o.like i hi).mono hB⟩
  rcases o.own.2 with h2 | ⟨g, cap, cur, hv, hb, r⟩
  · exact .inl h2
  · exact .inr ⟨g, cap, cur, hv, by omega, r⟩
end Go.Proofs.YtplnaaokapilpaaGreatDoor.Vm

namespace Go.Proofs.YtplnaaokapilpaaGreatDoor.Vm
open Go Go.RowKit
set_option maxRecDepth 100000

/-- What Parse hands back: the same as parsed, the records in memory of the call's own. -/
def SaysPar (w : World) (P : ParS) (e : Ending) (w' : World) : Prop :=
  ∃ a c hs, e = .returned (.tuple #[.int .i64 P.first, .slice a P.recs.length c, .int .i64 (P.n : Nat), .int .i64 (P.behind : Nat), .int .i64 P.er]) ∧ OwnRc w' w.heap.size (.slice a P.recs.length c) hs P.recs ∧ Below w.heap.size w w'
theorem saysPar_no {w w' : World} {P : ParS} (er : Int) (h : P = ⟨er, 0, [], 0, 0⟩) (hb : Below w.heap.size w w') : SaysPar w P (.returned (.tuple #[.int .i64 0, .slice none 0 0, .int .i64 0, .int .i64 0, .int .i64 er])) w' := by
  rw [h]
  exact ⟨none, 0, [], rfl, OwnRc.nil _ _, hb⟩
set_option maxHeartbeats 4000000 in
theorem rparse14_any (a : Option Addr) (n c : Nat) (zs : List Nat) (w : World) (h : Row .u8 w w.heap.size a n c zs) (hz : ∀ x ∈ zs, x < 256) (hn : n ≤ 2000) :
    Calls Tryz.prog 6 #[.slice a n c] w (SaysPar w (parseG zs)) := by
  have hzl := h.1
  have HS := Lib.hid (rscan_any a n c zs w h hz (by omega))
  have HSUB : Hid (∀ z ∈ (scanS zs).1, z.length ≤ 2000 ∧ ∀ x ∈ z, x < 256) := fun z hz' => by
    have := scan_sub zs.length zs (Nat.le_refl _) z hz'
    exact ⟨by omega, fun x hx => hz x (this.2 x hx)⟩
  have HP : Hid (parseG zs = parseL (scanS zs).1 (scanS zs).2.1 (scanS zs).2.2) := parseG_L zs
  have hL0 : (scanS zs).1.length ≤ 2000 := by
    have := scan_count zs.length zs (Nat.le_refl _)
    omega
  clear h hz hzl
  generalize parseG zs = P at *
  generalize (scanS zs).1 = L at *
  generalize (scanS zs).2.1 = sp at *
  generalize (scanS zs).2.2 = ss at *
  go_enter Tryz.func6, Tryz.ntmps6
  go_wp2_with fail
  refine HS.out.mono ?_
  rintro e w2 ⟨v2, rfl, ho2, hb2⟩
  obtain ⟨a2, c2, rfl, hr2⟩ := ho2.rows
  have HB2 := Lib.hid hb2
  have hcc := hr2.2.1
  have hcm := hr2.2.2.1
  unfold maxLen at hcm
  obtain ⟨N, hN⟩ : ∃ N, L.length = N := ⟨_, rfl⟩
  rw [hN] at hr2 hcc hL0
  have HR2 := Lib.hid hr2
  have HN := Lib.hid hN
  rw [hN]
  clear ho2 hb2 hr2 HS hN
  by_cases h0 : N = 0
  · subst h0
    have HF := Lib.hid (saysPar_no (w := w) 2 (HP.out.trans (parseL_nil _ _ HN.out)) HB2.out)
    go_wp2_with fail
    exact bodyPost_ret (v := .tuple #[.int .i64 0, .slice none 0 0, .int .i64 0, .int .i64 0, .int .i64 2]) (by simp [results, Tryz.results6, go_sem]) rfl HF.out
  · have e0 : ((N : Int) == 0) = false := by rw [beq_eq_false_iff_ne]; omega
    have hN1 : 0 < N := by omega
    have hN2 : (0 : Int) < (N : Int) := by omega
    have HN0 : Hid (L.length ≠ 0) := by unfold Hid; rw [HN.out]; exact h0
    obtain ⟨b, off, rfl, hlb, hcs⟩ := HR2.out.cells (by omega)
    have HCS : Hid (∀ V, Below w2.heap.size w2 V → ∀ i, i < N → ∃ ai ci, V.cell? ⟨b, off + i, none⟩ = some (.slice ai (L.getD i []).length ci) ∧ Row .u8 V V.heap.size ai (L.getD i []).length ci (L.getD i [])) := fun V hV i hi => by
      obtain ⟨ai, ci, h1, h2⟩ := hcs i hi
      exact ⟨ai, ci, (hV.cell (p := ⟨b, off + i, none⟩) hlb).trans h1, (h2.below hV).mono hV.size⟩
    have HZI : Hid (∀ i, i < N → (L.getD i []).length ≤ 2000 ∧ ∀ x ∈ L.getD i [], x < 256) := fun i hi => HSUB.out _ (by
      have : i < L.length := by rw [HN.out]; exact hi
      simp [List.getD, this])
    obtain ⟨az, cz, hcell, hrow⟩ := hcs 0 (by omega)
    rw [Nat.add_zero] at hcell
    clear hcs
    have hzz := HZI.out 0 (by omega)
    obtain ⟨z, hzd⟩ : ∃ z, L.getD 0 [] = z := ⟨_, rfl⟩
    have HHB := Lib.hid (fun hh => HP.out.trans (parseL_bad (L := L) sp ss HN0.out hh))
    have HHY := Lib.hid (fun (t : Nat) hh => HP.out.trans (parseL_head (L := L) (t := t) sp ss HN0.out hh))
    rw [hzd] at hcell hrow hzz HHB HHY
    obtain ⟨m, hm⟩ : ∃ m, z.length = m := ⟨_, rfl⟩
    have HHN := Lib.hid (headOf_no (z := z))
    have HHO := Lib.hid (headOf_yes (z := z))
    have HZD := Lib.hid hzd
    rw [hm] at hcell hrow hzz HHN HHO
    have hrz := hrow.2.2.2
    have hczm := hrow.2.2.1
    have hczl := hrow.2.1
    unfold maxLen at hczm
    obtain ⟨P0, hP0⟩ : ∃ P0 : Int, min 1 (m : Int) = P0 := ⟨_, rfl⟩
    have HT := Lib.hid (fun k => (rtake_any az m cz w2.heap.size z P0 (w2.drewN k) (hrow.below (below_drewN (Below.refl _ _) k)) hzz.2).mono fun e w' ⟨he, hw⟩ => (⟨he, hw.symm⟩ : _ ∧ w' = w2.drewN k))
    have HP1 : Hid (m ≠ 0 → P0 = 1) := fun h => by omega
    have HTB := Lib.hid (fun e => (takeS_ok (p := P0) hzz.2 e).2.2.2.2.1)
    obtain ⟨T, hT⟩ : ∃ T, takeS z P0 = T := ⟨_, rfl⟩
    rw [hT] at HT HTB
    have HTE := Lib.hid hT
    obtain ⟨tk, tn, te⟩ := T
    have HBD := Lib.hid (fun k => HB2.out.trans ((below_drewN (Below.refl w2.heap.size w2) k).mono HB2.out.size))
    clear hzz hrow hT HP HSUB hzd
    go_wp2_with fail
    go_quiet ((go_at_call 24; exact Calls.quiet_of_same (HT.out _)))
    by_cases hm0 : m = 0
    · subst hm0
      have HF := Lib.hid (saysPar_no (w := w) 3 (HHB.out (HHN.out (.inl rfl))) (HBD.out nq))
      clear HHB HHY HHN HHO HT HTB HTE HCS HZI HP1
      go_wp2_with fail
      exact bodyPost_ret (v := .tuple #[.int .i64 0, .slice none 0 0, .int .i64 0, .int .i64 0, .int .i64 3]) (by simp [results, Tryz.results6, go_sem]) rfl HF.out
    · obtain rfl : P0 = 1 := HP1.out hm0
      have d0 : ((m : Int) == 0) = false := by rw [beq_eq_false_iff_ne]; omega
      have hm1 : 0 < m := by omega
      have hm2 : (0 : Int) < (m : Int) := by omega
      obtain ⟨bz, oz, rfl, hbz, hzc⟩ := hrz hm1
      have p0 := hzc 0 hm1
      rw [Nat.add_zero] at p0
      clear hzc hrz
      rw [HTE.out] at HHN HHO
      simp only [] at HHN HHO
      obtain ⟨q, hq⟩ : ∃ q, z.getD 0 0 = q := ⟨_, rfl⟩
      rw [hq] at p0 HHN HHO
      clear hq
      by_cases hq7 : q = 7
      · subst hq7
        by_cases he : te = 0
        · subst he
          have e1 : (((0 : Nat) : Int) != 0) = false := by simp
          have htk := HTB.out rfl
          by_cases hnm : tn = m
          · subst hnm
            have e2 : ((tn : Int) != (tn : Int)) = false := by simp
            by_cases htb : 2147483647 < tk
            · have e3 : decide ((2147483647 : Int) < (tk : Int)) = true := by rw [decide_eq_true_eq]; omega
              have HF := Lib.hid (saysPar_no (w := w) 3 (HHB.out (HHN.out (.inr (.inr (.inr (.inr htb)))))) (HBD.out nq))
              clear HHB HHY HHN HHO HT HTB HTE HCS HZI HP1
              go_wp2_with fail
              exact bodyPost_ret (v := .tuple #[.int .i64 0, .slice none 0 0, .int .i64 0, .int .i64 0, .int .i64 3]) (by simp [results, Tryz.results6, go_sem]) rfl HF.out
            · have e3 : decide ((2147483647 : Int) < (tk : Int)) = false := by rw [decide_eq_false_iff_not]; omega
              have HG0 : Hid (P = finP tk sp ss (recsF tk (L.drop 1)) []) := HHY.out tk (HHO.out (by omega) rfl rfl rfl (by omega))
              have hwk : IntKind.i64.wrap (tk : Int) = (tk : Int) := by rw [IntKind.wrap_i64]; omega
              have HTK : Hid (tk ≤ 2147483647) := by unfold Hid; omega
              clear HHB HHY HHN HHO HT HTB HTE HP1 htk
              go_wp2_with fail
              clear p0 hcell hbz hczm hczl hm1 hm2 hm0
              go_loopg [13, 14] (N - 1) (fun gg v13 v14 wr => ∃ (i : Nat) (hs : List Rh) (o : List Rcd), i + gg = N ∧ v14 = .int .i64 i ∧ Hid (P = finP tk sp ss (recsF ((tk : Int) + (i : Int) - 1) (L.drop i)) o) ∧ Hid (OwnRc wr w2.heap.size v13 hs o) ∧ Hid (o.length + 1 = i) ∧ Hid (Below w2.heap.size w2 wr))
              case atStart => exact ⟨1, [], [], by omega, rfl, (by unfold Hid; rw [show (tk : Int) + ((1 : Nat) : Int) - 1 = (tk : Int) by omega]; exact HG0.out), OwnRc.nil _ _, rfl, below_drewN (Below.refl _ _) nq⟩
              case round =>
                obtain ⟨i, hs, o, hig, rfl, HG, HO, HLO, HB⟩ := hrel
                by_cases hi : i < N
                · have hii : (i : Int) < (N : Int) := by omega
                  have d1 : decide ((i : Int) < (N : Int)) = true := by rw [decide_eq_true_eq]; exact hii
                  obtain ⟨ai, ci, hci, hri⟩ := HCS.out wr HB.out i hi
                  have hzi := HZI.out i hi
                  have HH3 := Lib.hid (fun hr => HG.out.trans (finP_none (L := L) (i := i) (by rw [HN.out]; exact hi) hr))
                  have HH11 := Lib.hid (fun x hr hx => HG.out.trans (finP_tick (L := L) (i := i) (x := x) (by rw [HN.out]; exact hi) hr hx))
                  have HHN := Lib.hid (fun x hr hx => HG.out.trans (finP_next (L := L) (i := i) (x := x) (by rw [HN.out]; exact hi) hr hx))
                  have HRR := Lib.hid (rrr14_any ai _ ci _ wr hri hzi.2 hzi.1)
                  have hcii := hri.2.1
                  have hcim := hri.2.2.1
                  unfold maxLen at hcim
                  have htk := HTK.out
                  have hw2 : IntKind.i64.wrap ((tk : Int) + (i : Int)) = (tk : Int) + (i : Int) := by rw [IntKind.wrap_i64]; omega
                  have hw3 : IntKind.i64.wrap ((tk : Int) + (i : Int) - 1) = (tk : Int) + (i : Int) - 1 := by rw [IntKind.wrap_i64]; omega
                  have hbz := HB.out.size
                  clear hzi hri htk
                  obtain ⟨zi, hzi⟩ : ∃ zi, L.getD i [] = zi := ⟨_, rfl⟩
                  rw [hzi] at hci HH3 HH11 HHN HRR hcii
                  clear hzi
                  obtain ⟨mi, hmi⟩ : ∃ mi, zi.length = mi := ⟨_, rfl⟩
                  rw [hmi] at hci HRR hcii
                  clear hmi
                  go_wp2_with fail
                  refine HRR.out.mono ?_
                  rintro e w3 ⟨⟨t, a1, n1, c1, a2', n2, c2', a3, n3, c3, ck⟩, er, rfl, hd, hb3⟩
                  have HB3 := Lib.hid (HB.out.trans (hb3.mono hbz))
                  have HD3 := Lib.hid (HB2.out.trans (HB3.out.mono HB2.out.size))
                  have HO3 := Lib.hid (HO.out.calls hb3)
                  have hz3 := hb3.size
                  rcases hd with ⟨rfl, x, hx, hc⟩ | ⟨rfl, hno⟩
                  · have htx : t = x.tick := hc.tick
                    have hba : Below w3.heap.size w3 (w3.alloc (.cells #[.int .i64 t, .slice a1 n1 c1, .slice a2' n2 c2', .slice a3 n3 c3, .int .u32 ck] 50)) := (Below.refl _ _).alloc (Nat.le_refl _) _
                    have HB4 := Lib.hid (HB3.out.trans (hba.mono (Nat.le_trans hbz hz3)))
                    have HD4 := Lib.hid (HB2.out.trans (HB4.out.mono HB2.out.size))
                    by_cases ht : t = (tk : Int) + (i : Int) - 1
                    · have e2 : (t != (tk : Int) + (i : Int) - 1) = false := by rw [ht]; simp
                      have HGN := Lib.hid (HHN.out x hx (htx.symm.trans ht))
                      have hz4 : (w3.alloc (.cells #[.int .i64 t, .slice a1 n1 c1, .slice a2' n2 c2', .slice a3 n3 c3, .int .u32 ck] 50)).heap.size = w3.heap.size + 1 := by simp
                      have HO4 := Lib.hid (HO3.out.calls hba)
                      obtain ⟨v', w5, hrun, hown5, hg5⟩ := append_rcd HO4.out ((hc.mono hbz).calls hba) (by have := HLO.out; omega) (by rw [hz4]; omega)
                      have HB5 := Lib.hid (HB4.out.grown hg5 (by rw [hz4]; omega) (fun k hk => (World.ownsRow.lt HO4.out.own k hk).1))
                      have HO5 := Lib.hid hown5
                      rw [hz4] at hrun
                      clear HH3 HH11 HHN HRR HG HO HB HO3 HO4 HB3 HD3 HB4 HD4 hb3 hc hba hz4 hown5 hg5 hx htx ht
                      go_wp2_with (at_builtin; refine Lib.wpList_append_run _ rfl _ _ _ _ rfl _ _ rfl rfl _ _ hrun ?_)
                      go_roundg (gk - 1)
                      case rel => exact ⟨i + 1, _, _, by omega, by first | rfl | go_num, (by unfold Hid; rw [show (tk : Int) + ((i + 1 : Nat) : Int) - 1 = (tk : Int) + (i : Int) - 1 + 1 by omega]; exact HGN.out), HO5.out, (by rw [List.length_append, List.length_singleton]; have := HLO.out; unfold Hid; omega), HB5.out⟩
                      case measure => omega
                    · have e2 : (t != (tk : Int) + (i : Int) - 1) = true := by rw [bne_iff_ne]; exact ht
                      have HF := Lib.hid (saysPar_no (w := w) 11 (HH11.out x hx (fun h => ht (htx.trans h))) HD4.out)
                      clear HH3 HH11 HHN HRR HG HO HB HO3 HB3 HD3 HB4 HD4 hb3 hc hba hx htx ht
                      go_wp2_with fail
                      exact bodyPost_ret (v := .tuple #[.int .i64 0, .slice none 0 0, .int .i64 0, .int .i64 0, .int .i64 11]) (by simp [results, Tryz.results6, go_sem]) rfl HF.out
                  · have hba : Below w3.heap.size w3 (w3.alloc (.cells #[.int .i64 t, .slice a1 n1 c1, .slice a2' n2 c2', .slice a3 n3 c3, .int .u32 ck] 50)) := (Below.refl _ _).alloc (Nat.le_refl _) _
                    have HF := Lib.hid (saysPar_no (w := w) 3 (HH3.out hno) (HD3.out.trans (hba.mono HD3.out.size)))
                    clear HH3 HH11 HHN HRR HG HO HB HO3 HB3 HD3 hb3 hba hno
                    go_wp2_with fail
                    exact bodyPost_ret (v := .tuple #[.int .i64 0, .slice none 0 0, .int .i64 0, .int .i64 0, .int .i64 3]) (by simp [results, Tryz.results6, go_sem]) rfl HF.out
                · obtain rfl : i = N := by omega
                  have d1 : decide ((i : Int) < (i : Int)) = false := by simp
                  obtain ⟨a', c', rfl⟩ := HO.out.slice
                  have HF : Hid (SaysPar w P (.returned (.tuple #[.int .i64 (tk : Int), .slice a' o.length c', .int .i64 (sp : Int), .int .i64 (ss : Int), .int .i64 0])) wr) := by
                    unfold Hid
                    rw [HG.out, finP_end (by rw [HN.out]; exact Nat.le_refl _)]
                    exact ⟨a', c', hs, rfl, HO.out.mono HB2.out.size, HB2.out.trans (HB.out.mono HB2.out.size)⟩
                  clear HG HCS HZI
                  go_wp2_with fail
                  exact bodyPost_ret (v := .tuple #[.int .i64 (tk : Int), .slice a' o.length c', .int .i64 (sp : Int), .int .i64 (ss : Int), .int .i64 0]) (by simp [results, Tryz.results6, go_sem]) rfl HF.out
          · have e2 : ((tn : Int) != (m : Int)) = true := by rw [bne_iff_ne]; omega
            have HF := Lib.hid (saysPar_no (w := w) 3 (HHB.out (HHN.out (.inr (.inr (.inr (.inl hnm)))))) (HBD.out nq))
            clear HHB HHY HHN HHO HT HTB HTE HCS HZI HP1
            go_wp2_with fail
            exact bodyPost_ret (v := .tuple #[.int .i64 0, .slice none 0 0, .int .i64 0, .int .i64 0, .int .i64 3]) (by simp [results, Tryz.results6, go_sem]) rfl HF.out
        · have e1 : ((te : Int) != 0) = true := by rw [bne_iff_ne]; omega
          have HF := Lib.hid (saysPar_no (w := w) 3 (HHB.out (HHN.out (.inr (.inr (.inl he))))) (HBD.out nq))
          clear HHB HHY HHN HHO HT HTB HTE HCS HZI HP1
          go_wp2_with fail
          exact bodyPost_ret (v := .tuple #[.int .i64 0, .slice none 0 0, .int .i64 0, .int .i64 0, .int .i64 3]) (by simp [results, Tryz.results6, go_sem]) rfl HF.out
      · have e1 : ((q : Int) != 7) = true := by rw [bne_iff_ne]; omega
        have HF := Lib.hid (saysPar_no (w := w) 3 (HHB.out (HHN.out (.inr (.inl hq7)))) (HBD.out nq))
        clear HHB HHY HHN HHO HT HTB HTE HCS HZI HP1
        go_wp2_with fail
        exact bodyPost_ret (v := .tuple #[.int .i64 0, .slice none 0 0, .int .i64 0, .int .i64 0, .int .i64 3]) (by simp [results, Tryz.results6, go_sem]) rfl HF.out
end Go.Proofs.YtplnaaokapilpaaGreatDoor.Vm
