/- The mathematics of SegmentBack: records of ticks that follow one another, behind a head; and words for slices' beginnings. The law SegmentBack, walked: of a program whose segment does what it should, and whose switch is on. -/
import Derived.Test.YtplnaaokapilpaaDoorSegDoes
import Derived.Test.YtplnaaokapilpaaDoorPushes
import Derived.Test.YtplnaaokapilpaaDoorAwake14
import Derived.Test.YtplnaaokapilpaaDoorRefCodL
import Derived.Deep.CutBlock
import Derived.Deep.DeepCutAuto
namespace Go.Proofs.YtplnaaokapilpaaDoor.Vm
open Go Go.RowKit
set_option maxRecDepth 100000

def tickUp : Int → List Rcd → List Rcd
  | _, [] => []
  | t, x :: l => ⟨t, x.ins, x.cs, x.ws, x.ck⟩ :: tickUp (t + 1) l
theorem tickUp_len : ∀ (t : Int) (l : List Rcd), (tickUp t l).length = l.length
  | _, [] => rfl
  | t, x :: l => by rw [tickUp, List.length_cons, List.length_cons, tickUp_len]
theorem tickUp_ticks : ∀ (t : Int) (l : List Rcd), TicksFrom t (tickUp t l)
  | _, [] => trivial
  | t, _ :: l => ⟨rfl, tickUp_ticks (t + 1) l⟩
theorem tickUp_at : ∀ (l : List Rcd) (t : Int) (i : Nat), i < l.length → (tickUp t l).getD i zrcd = ⟨t + i, (l.getD i zrcd).ins, (l.getD i zrcd).cs, (l.getD i zrcd).ws, (l.getD i zrcd).ck⟩
  | x :: l, t, 0, _ => by simp [tickUp]
  | x :: l, t, i + 1, h => by
    have := tickUp_at l (t + 1) i (by simpa using h)
    simp only [tickUp, List.getD_cons_succ, this]
    rw [show t + 1 + (i : Int) = t + ((i + 1 : Nat) : Int) by omega]
section
variable {f : Nat} {X : List Rcd} {i k : Nat}
theorem frs_up (h : i < X.length) : frs (segF f (X.take (i + 1))) = frs (segF f (X.take i)) ++ fr (encR (X.getD i zrcd)) := by
  have e : X.getD i zrcd = X[i] := by simp [List.getD, h]
  rw [List.take_add_one, List.getElem?_eq_getElem h, e]
  unfold segF frs
  simp only [Option.toList_some, List.map_append, List.map_cons, List.map_nil, List.flatMap_cons, List.flatMap_append, List.flatMap_nil, List.append_nil, List.append_assoc]
theorem endAt_take : endAt (segF f X) (k + 1) = (frs (segF f (X.take k))).length := by
  unfold endAt segF
  rw [List.take_succ_cons, List.map_take]
def endsS (f : Nat) (X : List Rcd) (i : Nat) : List Int := (List.range (i + 1)).map fun k => ((frs (segF f (X.take k))).length : Int)
theorem endsS_zero : endsS f X 0 = [((headF f).length : Int)] := by simp [endsS, segF, frs, headF]
theorem endsS_up : endsS f X (i + 1) = endsS f X i ++ [((frs (segF f (X.take (i + 1)))).length : Int)] := by
  unfold endsS
  rw [List.range_succ, List.map_append]
  rfl
theorem endsS_len : (endsS f X i).length = i + 1 := by simp [endsS]
theorem endsS_at (h : k ≤ i) : (endsS f X i).getD k 0 = ((frs (segF f (X.take k))).length : Int) := by
  simp [endsS, List.getD, show k < i + 1 by omega]
theorem fr_len14 (l : List Nat) (h : l.length ≤ 1000000) : (fr l).length ≤ l.length + 14 := by
  have := enc_len64 (n := l.length) (by omega)
  simp only [fr, List.length_append, four_len]
  omega
theorem headF_len14 (h : f ≤ 2147483647) : (headF f).length ≤ 25 := by
  have h1 := headB_len h
  have h2 := fr_len14 (headB f) (by omega)
  unfold headF
  omega
theorem all_len (hf : f ≤ 2147483647) (h : ∀ j, j < i → (encR (X.getD j zrcd)).length ≤ 90000) : ∀ k, k ≤ i → k ≤ X.length → (frs (segF f (X.take k))).length ≤ 25 + k * 90014
  | 0, _, _ => by
    have := headF_len14 hf
    simpa [segF, frs, headF] using this
  | k + 1, hk, hx => by
    have ih := all_len hf h k (by omega) (by omega)
    have h1 := h k (by omega)
    have h2 := fr_len14 (encR (X.getD k zrcd)) (by omega)
    rw [frs_up (by omega), List.length_append]
    omega
theorem all_up (hx : k < X.length) : (frs (segF f (X.take k))).length < (frs (segF f (X.take (k + 1)))).length := by
  rw [frs_up hx, List.length_append]
  have : (fr (encR (X.getD k zrcd))).length ≥ 4 := by simp only [fr, List.length_append, four_len]; omega
  omega
theorem head_zero : frs (segF f (X.take 0)) = headF f := by simp [segF, frs, headF]
theorem head_lt (f : Nat) : ∀ x ∈ headF f, x < 256 := by
  intro x hx
  simp only [headF, fr, List.mem_append] at hx
  rcases hx with (hx | hx) | hx
  · exact enc_byte _ _ (Nat.le_refl _) x hx
  · rcases List.mem_cons.1 hx with rfl | hx
    · omega
    · exact enc_byte _ _ (Nat.le_refl _) x hx
  · exact four_byte _ x hx
theorem frs_lt14 (f : Nat) (l : List Rcd) : ∀ x ∈ frs (segF f l), x < 256 := by
  intro x hx
  rw [segF, frs, List.flatMap_cons] at hx
  rcases List.mem_append.1 hx with hx | hx
  · exact head_lt f x hx
  · obtain ⟨z, hz, hx⟩ := List.mem_flatMap.1 hx
    obtain ⟨r, _, rfl⟩ := List.mem_map.1 hz
    simp only [fr, List.mem_append] at hx
    rcases hx with (hx | hx) | hx
    · exact enc_byte _ _ (Nat.le_refl _) x hx
    · exact encR_byte r x hx
    · exact four_byte _ x hx
theorem scan_segF (hf : f ≤ 2147483647) (h : ∀ x ∈ X, (encR x).length ≤ 90000) (cut : Nat) (hc : cut ≤ (frs (segF f X)).length) (k : Nat) (hk : k ≤ X.length) (h1 : endAt (segF f X) (k + 1) ≤ cut) (h2 : k < X.length → cut < endAt (segF f X) (k + 2)) :
    ∀ z ∈ (scanS ((frs (segF f X)).take cut)).1, z.length ≤ 90000 := by
  have hl : ∀ l ∈ segF f X, l.length ≤ 90000 := fun z hz => by
    rcases List.mem_cons.1 hz with rfl | hz
    · have := headB_len hf; omega
    · obtain ⟨x, hx', rfl⟩ := List.mem_map.1 hz
      exact h x hx'
  rw [scan_cut (segF f X) (fun l hl' => by have := hl l hl'; omega) cut (k + 1) (by simp [segF]; omega) h1 (fun h => h2 (by simp [segF] at h; omega)) hc]
  intro z hz
  exact hl z (List.mem_of_mem_take hz)
end
/-- The beginning of a row of bytes, of records. -/
theorem Row.take14 {k : IntKind} {w : World} {B : Nat} {a : Option Addr} {n c i : Nat} {zs : List Nat} (h : Row k w B a n c zs) (hi : i ≤ n) : Row k w B a i c (zs.take i) := by
  refine ⟨by rw [List.length_take, h.1]; omega, Nat.le_trans hi h.2.1, h.2.2.1, fun hp => ?_⟩
  obtain ⟨b, off, e, hb, hc⟩ := h.2.2.2 (by omega)
  refine ⟨b, off, e, hb, fun j hj => ?_⟩
  rw [hc j (by omega)]
  simp [List.getD, hj]
theorem RowRc.take14 {w : World} {B : Nat} {a : Option Addr} {n c i : Nat} {hs : List Rh} {xs : List Rcd} (h : RowRc w B a n c hs xs) (hi : i ≤ n) : RowRc w B a i c hs (xs.take i) := by
  refine ⟨by rw [List.length_take, h.1]; omega, Nat.le_trans hi h.2.1, h.2.2.1, fun hp => ?_⟩
  obtain ⟨b, off, e, hb, hc⟩ := h.2.2.2 (by omega)
  refine ⟨b, off, e, hb, fun j hj => ?_⟩
  have := hc j (by omega)
  rwa [show (xs.take i).getD j zrcd = xs.getD j zrcd by simp [List.getD, hj]]
theorem puts_le14 : ∀ {ps : List (Inp × Int)}, (∀ p ∈ ps, PutIn p) → (ps.flatMap encPut).length ≤ 50 * ps.length
  | [], _ => by simp
  | p :: q, h => by
    have h1 := puts_le14 (ps := q) (fun x hx => h x (by simp [hx]))
    obtain ⟨⟨a, b, c, d⟩, e⟩ := h p (by simp)
    have a1 := encZ_len a
    have b1 := encZ_len b
    have c1 := encZ_len c
    have d1 := encZ_len d
    have e1 := encI_len p.2 (by omega)
    have h2 : (encPut p).length ≤ 50 := by
      unfold encPut
      simp only [List.length_append]
      omega
    rw [List.flatMap_cons, List.length_append, List.length_cons, Nat.mul_succ]
    omega
theorem encR_le14 {x : Rcd} (hc : CanR x) (hw : WfR x) (h : x.ins.length ≤ 60 ∧ x.ws.length ≤ 1000) : (encR x).length ≤ 90000 := by
  have hok : OkR x := ⟨hc, hw, by omega⟩
  have ht := hc.tick
  have hk := hw.ck
  have hr := runs_len x.ws
  have h0 := encI_len x.tick (by omega)
  have h9 := encI_len x.ck (by omega)
  have h1 := puts_le14 hok.puts
  have h2 := encRuns_le (l := runs x.ws) (fun p hp => by
    obtain ⟨a, b, c, d⟩ := runs_ok hok.wok p hp
    exact ⟨b, by omega⟩)
  have l1 := (enc_len64 (n := x.ins.length) (by omega)).2
  have l2 := (enc_len64 (n := (runs x.ws).length) (by omega)).2
  have hz := hok.zl
  unfold encR
  simp only [List.length_append]
  omega
theorem ownZ_lit14 (w : World) (x : Int) {B : Nat} (hB : B ≤ w.heap.size) : OwnZ (w.alloc (.cells #[.int .i64 x] 3)) B (.slice (some ⟨w.heap.size, 0, none⟩) 1 1) [x] := by
  have := World.ownsRow_lit (base := B) (e := 3) (size := 1) w #[.int .i64 x] 1 hB (by unfold maxLen; omega) rfl
  exact this
/-- Bytes appended, as an equation. -/
theorem run_app14 {w : World} {B : Nat} {v : Value} {out : List Nat} (hown : Own w B v out) {ao : Option Addr} {m c B2 : Nat} {l : List Nat} (hr : Row .u8 w B2 ao m c l) (hlen : out.length + m ≤ 140737488355328) (hB : B ≤ w.heap.size) :
    ∃ v' w', (Builtin.append_ #[27, 27] 27 #[v, .slice ao m c]).run Tryd.prog w = .ok v' w' ∧ Own w' B v' (out ++ l) ∧ w.grownBy w' v.ownBlock := by
  obtain ⟨i0, hi0, hz0, hz1, hz2⟩ := info_parts info_u8
  have hlm : l.length = m := hr.1
  cases ao with
  | none =>
    have hm0 : m = 0 := by
      rcases Nat.eq_zero_or_pos m with h0 | h0
      · exact h0
      · obtain ⟨b, off, e, _⟩ := hr.cells h0; cases e
    subst hm0
    obtain rfl := List.eq_nil_of_length_eq_zero hlm
    exact ⟨v, w, run_append_none (P := Tryd.prog) (w := w) B 27 27 5 i0 1 Tryd.underlying27 hi0 v out.length c (u8s out) hown, by simpa using hown, World.grownBy.refl _ _⟩
  | some ad =>
    obtain ⟨v', w', h1, h2, h3, _⟩ := run_append_own (P := Tryd.prog) w B 27 27 5 i0 (.int .u8 0) 1 1 Tryd.underlying27 hi0 hz0 hz1 hz2 rfl (by decide) v _ _ hown ad m c (u8s l) (by rw [u8s_len]; omega) (cells_row hr) (u8s_one _) (by simp only [maxLen]; omega) (by omega) hB
    exact ⟨v', w', h1, Own.of_append hlm h2, h3⟩
end Go.Proofs.YtplnaaokapilpaaDoor.Vm

namespace Go.Proofs.YtplnaaokapilpaaDoor.Vm
open Go Go.RowKit
set_option maxRecDepth 100000

theorem encM_len14 {l l' : List Int} (h : CanM l l') (h1 : l.length ≤ 60) (h2 : l'.length ≤ 60) : (encM l l').length ≤ 20000 := by
  have g1 := encL_len h.segs (by omega)
  have g2 := encL_len h.snaps (by omega)
  have hb : (bodyM l l').length ≤ 1220 := by unfold bodyM; rw [List.length_append]; omega
  have := fr_len14 (bodyM l l') (by omega)
  unfold encM
  omega
theorem encM_lt14 (l l' : List Int) : ∀ x ∈ encM l l', x < 256 := by
  intro x hx
  simp only [encM, fr, List.mem_append] at hx
  rcases hx with (hx | hx) | hx
  · exact enc_byte _ _ (Nat.le_refl _) x hx
  · exact bodyM_byte l l' x hx
  · exact four_byte _ x hx
theorem putB_not {l l' : List Int} (h : ¬ CanM l l') : putB l l' = [] ∧ putE l l' = 1 := by
  unfold putB putE
  exact ⟨if_neg h, if_neg h⟩
set_option maxHeartbeats 8000000 in
theorem segmentBack_of (D : SegDoes) (U : ∀ w : World, Laid14 w → Calls Tryd.prog 5 #[] w fun e w' => e = .returned (.bool true) ∧ Below w.heap.size w w')
    (a1 : Option Addr) (n1 c1 : Nat) (l1 : List Int) (a2 : Option Addr) (n2 c2 : Nat) (l2 : List Int) (a : Option Addr) (n c : Nat) (hs : List Rh) (xs : List Rcd) (cut : Int) (w : World) (hL : Laid14 w) (hr1 : RowZ .i64 w w.heap.size a1 n1 c1 l1) (hr2 : RowZ .i64 w w.heap.size a2 n2 c2 l2) (hx : RowRc w w.heap.size a n c hs xs ∧ ∀ p ∈ xs, WfR p) (_ : (Lit.int .i64 cut).wf = true) :
    Calls Tryd.prog 4 #[.agg #[.slice a1 n1 c1, .slice a2 n2 c2], .slice a n c, .int .i64 cut] w fun e w' => e = .returned (.bool true) ∧ Below w.heap.size w w' := by
  obtain ⟨hr, hwf⟩ := hx
  obtain ⟨w1, hw1⟩ : ∃ w1, w1 = w.alloc (.cells #[.slice a1 n1 c1, .slice a2 n2 c2] 32) := ⟨_, rfl⟩
  have hb1 : Below w.heap.size w w1 := by rw [hw1]; exact (Below.refl _ _).alloc (Nat.le_refl _) _
  have hm1 : ManB w1 w.heap.size 32 a1 n1 c1 a2 n2 c2 := by rw [hw1]; exact ManB.new w
  have hs1 : w.heap.size < w1.heap.size := by rw [hw1]; simp
  have HAW := Lib.hid (U w1 (hL.below hb1))
  clear hL
  have HM := Lib.hid (fun V (hV : Below w1.heap.size w1 V) => (hm1.below hV hs1).cells)
  have HR1 := Lib.hid (fun V (hV : Below w.heap.size w V) => (hr1.below hV).mono hV.size)
  have HR2 := Lib.hid (fun V (hV : Below w.heap.size w V) => (hr2.below hV).mono hV.size)
  have HRX := Lib.hid (fun V (hV : Below w.heap.size w V) => hr.below hV)
  have HWF : Hid (∀ i, i < n → WfR (xs.getD i zrcd)) := fun i hi => by
    have hl := hr.1
    simp only [List.getD, List.getElem?_eq_getElem (show i < xs.length by omega), Option.getD_some]
    exact hwf _ (List.getElem_mem _)
  have HXL := Lib.hid hr.1
  have hc0 := hr.2.1
  have hm0 := hr.2.2.1
  have hc1 := hr1.2.1
  have hmx1 := hr1.2.2.1
  have hc2 := hr2.2.1
  have hmx2 := hr2.2.2.1
  have hln1 := hr1.1
  have hln2 := hr2.1
  unfold maxLen at hm0 hmx1 hmx2
  have HB1 := Lib.hid hb1
  have HW1 := Lib.hid hw1
  have HD := Lib.hid D
  clear U D hr hr1 hr2 hb1 hw1 hm1 hs1 hwf
  go_enter Tryd.func4, Tryd.ntmps4
  go_wp2_with fail
  rw [← HW1.out]
  refine HAW.out.mono ?_
  rintro e w2 ⟨rfl, hb2⟩
  have HB2 := Lib.hid (HB1.out.trans (hb2.mono HB1.out.size))
  have HC2 := Lib.hid hb2
  obtain ⟨q0, q1, _, _⟩ := HM.out w2 hb2
  clear hb2 HAW
  by_cases g1 : 60 < n1
  · have g1' : (60 : Int) < (n1 : Int) := by omega
    go_wp2_with fail
    go_ret
    exact ⟨rfl, HB2.out⟩
  have g1' : decide ((60 : Int) < (n1 : Int)) = false := decide_eq_false (by omega)
  by_cases g2 : 60 < n2
  · have g2' : (60 : Int) < (n2 : Int) := by omega
    go_wp2_with fail
    go_ret
    exact ⟨rfl, HB2.out⟩
  have g2' : decide ((60 : Int) < (n2 : Int)) = false := decide_eq_false (by omega)
  by_cases g3 : 12 < n
  · have g3' : (12 : Int) < (n : Int) := by omega
    go_wp2_with fail
    go_ret
    exact ⟨rfl, HB2.out⟩
  have g3' : decide ((12 : Int) < (n : Int)) = false := decide_eq_false (by omega)
  have HUX := Lib.hid ((HD.out.put a1 n1 c1 l1 a2 n2 c2 l2 w2 (HR1.out w2 HB2.out) (HR2.out w2 HB2.out) (by omega) (by omega)).mono fun e w' h => saysM_put h)
  have HL12 : Hid (l1.length ≤ 60 ∧ l2.length ≤ 60) := ⟨by omega, by omega⟩
  clear hln1 hln2
  go_wp2_with fail
  refine HUX.out.mono ?_
  rintro e w3 ⟨v3, rfl, ho3, hb3⟩
  have HB3 := Lib.hid (HB2.out.trans (hb3.mono HB2.out.size))
  have HC3 := Lib.hid (HC2.out.trans (hb3.mono HC2.out.size))
  have HO3 := Lib.hid ho3
  clear hb3 ho3 HUX q0 q1
  go_upto_if 59 with fail
  go_cut [6, 8, 9] (fun v6 _ _ V => v6 = .bool false ∧ Hid (Below w.heap.size w V))
  case first =>
    by_cases hcan : CanM l1 l2
    · have HCAN := Lib.hid hcan
      obtain ⟨e1, e2⟩ := putB_can hcan
      have ho3 := HO3.out
      rw [e1] at ho3
      obtain ⟨a3, c3, rfl, hr3⟩ := ho3.slice
      have HRE := Lib.hid ((HD.out.read a3 _ c3 _ w3 hr3 (encM_lt14 l1 l2) (encM_len14 hcan HL12.out.1 HL12.out.2)).mono fun e w' h => saysRM_read h (by have := encM_len14 hcan HL12.out.1 HL12.out.2; omega))
      rw [readMG_enc hcan (by have := encM_len14 hcan HL12.out.1 HL12.out.2; omega)] at HRE
      clear hcan ho3 hr3 HO3
      rw [e2]
      clear e1 e2
      generalize (encM l1 l2).length = N3 at *
      go_wp2_with fail
      refine HRE.out.mono ?_
      rintro e w4 ⟨a4, n4, c4, b4, m4, d4, rfl, hx4, hy4, hb4⟩
      have HB4 := Lib.hid (HB3.out.trans (hb4.mono HB3.out.size))
      have HC4 := Lib.hid (HC3.out.trans (hb4.mono HC3.out.size))
      obtain ⟨w5, hw5⟩ : ∃ w5, w5 = w4.alloc (.cells #[.slice a4 n4 c4, .slice b4 m4 d4] 32) := ⟨_, rfl⟩
      have hb5 : Below w4.heap.size w4 w5 := by rw [hw5]; exact (Below.refl _ _).alloc (Nat.le_refl _) _
      have hm5 : ManB w5 w4.heap.size 32 a4 n4 c4 b4 m4 d4 := by rw [hw5]; exact ManB.new w4
      have hs5 : w4.heap.size < w5.heap.size := by rw [hw5]; simp
      have HB5 := Lib.hid (HB4.out.trans (hb5.mono HB4.out.size))
      have HC5 := Lib.hid (HC4.out.trans (hb5.mono HC4.out.size))
      have HI1 := Lib.hid (ints_anyZ a1 a4 n1 c1 n4 c4 w5.heap.size l1 l1 w5 (HR1.out w5 HB5.out) ((hx4.below hb5).mono hb5.size))
      rw [decide_eq_true rfl] at HI1
      have HY5 := Lib.hid (fun V (hV : Below w5.heap.size w5 V) => (((hy4.below hb5).mono hb5.size).below hV).mono hV.size)
      have HM5 := Lib.hid (fun V (hV : Below w5.heap.size w5 V) => (hm5.below hV hs5).cells)
      have HW5 : Hid (w4.alloc (.cells #[.slice a4 n4 c4, .slice b4 m4 d4] 32) = w5) := hw5.symm
      obtain ⟨q0, q1, _, _⟩ := HM.out w5 HC5.out
      obtain ⟨u0, u1, _, _⟩ := HM5.out w5 (Below.refl _ _)
      rw [← HW5.out] at q0 q1 u0 u1
      clear hb4 hb5 hm5 hs5 hw5 hx4 hy4 HRE
      go_wp2_with fail
      rw [HW5.out]
      refine HI1.out.mono ?_
      rintro e w6 ⟨rfl, m6, hw6⟩
      have hb6 : Below w5.heap.size w5 w6 := by rw [hw6]; exact below_drewN (Below.refl _ _) _
      have HB6 := Lib.hid (HB5.out.trans (hb6.mono HB5.out.size))
      have HC6 := Lib.hid (HC5.out.trans (hb6.mono HC5.out.size))
      clear q0 q1 u0 u1
      obtain ⟨q0, q1, _, _⟩ := HM.out w6 HC6.out
      obtain ⟨u0, u1, _, _⟩ := HM5.out w6 hb6
      have HI2 := Lib.hid (ints_anyZ a2 b4 n2 c2 m4 d4 w6.heap.size l2 l2 w6 (HR2.out w6 HB6.out) (HY5.out w6 hb6))
      rw [decide_eq_true rfl] at HI2
      clear hw6 hb6 HI1
      go_wp2_with fail
      refine HI2.out.mono ?_
      rintro e w7 ⟨rfl, m7, hw7⟩
      have HB7 : Hid (Below w.heap.size w w7) := HB6.out.trans (Below.mono (by rw [hw7]; exact below_drewN (Below.refl w6.heap.size w6) m7) HB6.out.size)
      clear q0 q1 u0 u1 hw7 HI2
      go_wp2_with fail
      go_meet
      case rel => exact ⟨rfl, HB7.out⟩
    · obtain ⟨_, e2⟩ := putB_not hcan
      rw [e2]
      clear e2 hcan
      go_wp2_with fail
      go_meet
      case rel => exact ⟨rfl, HB3.out⟩
  case rest =>
    obtain ⟨rfl, HBC⟩ := hcut
    clear HM HR1 HR2 HO3 HB3 HC3 HC2 HB2 HL12 HB1 HW1 hc1 hmx1 hc2 hmx2
    by_cases hn0 : n = 0
    · subst hn0
      go_wp2_with fail
      go_ret
      exact ⟨rfl, HBC.out⟩
    have d0 : ((n : Int) == 0) = false := by rw [beq_eq_false_iff_ne]; omega
    have hn1 : 0 < n := by omega
    obtain ⟨b, off, rfl, hb, hin0, p0, _⟩ := (HRX.out wc HBC.out).at (i := 0) hn1
    rw [Nat.zero_mul, Nat.add_zero] at p0
    obtain ⟨t, ht⟩ : ∃ t, (hs.getD 0 zrh).t = t := ⟨_, rfl⟩
    rw [ht] at p0
    clear ht hin0
    by_cases k1 : t < 0
    · have k1' : decide (t < 0) = true := decide_eq_true k1
      go_wp2_with fail
      go_ret
      exact ⟨rfl, HBC.out⟩
    have k1' : decide (t < 0) = false := decide_eq_false k1
    by_cases k2 : 2147383647 < t
    · have k2' : decide (2147383647 < t) = true := decide_eq_true k2
      go_wp2_with fail
      go_ret
      exact ⟨rfl, HBC.out⟩
    have k2' : decide (2147383647 < t) = false := decide_eq_false k2
    obtain ⟨f, rfl⟩ := Int.eq_ofNat_of_zero_le (show 0 ≤ t by omega)
    have HF : Hid (f ≤ 2147383647) := by unfold Hid; omega
    have HHE := Lib.hid (HD.out.head f wc (by omega))
    obtain ⟨X, hX⟩ : ∃ X, X = tickUp f xs := ⟨_, rfl⟩
    have HXN : Hid (X.length = n) := by unfold Hid; rw [hX, tickUp_len]; exact HXL.out
    have HXA : Hid (∀ i, i < n → X.getD i zrcd = ⟨(f : Int) + i, (xs.getD i zrcd).ins, (xs.getD i zrcd).cs, (xs.getD i zrcd).ws, (xs.getD i zrcd).ck⟩) := fun i hi => by
      rw [hX]
      exact tickUp_at xs f i (by rw [HXL.out]; exact hi)
    have HXT : Hid (TicksFrom f X) := by unfold Hid; rw [hX]; exact tickUp_ticks _ _
    clear hX
    go_wp2_with fail
    refine HHE.out.mono ?_
    rintro e w4 ⟨v4, rfl, ho4, hb4⟩
    obtain ⟨a4, c4, rfl, _⟩ := ho4.slice
    have HB4 := Lib.hid (HBC.out.trans (hb4.mono HBC.out.size))
    have hba : Below w4.heap.size w4 (w4.alloc (.cells #[.int .i64 ((headF f).length : Nat)] 3)) := (Below.refl _ _).alloc (Nat.le_refl _) _
    have HO5 := Lib.hid ((ho4.mono HBC.out.size).calls hba)
    have HE5 := Lib.hid (ownZ_lit14 w4 ((headF f).length : Nat) HB4.out.size)
    have HB5 := Lib.hid (HB4.out.trans (hba.mono HB4.out.size))
    rw [← endsS_zero (X := X)] at HE5
    rw [← head_zero (X := X)] at HO5 HE5 HB5 ⊢
    generalize (frs (segF f (X.take 0))).length = N0 at *
    clear ho4 hb4 hba HHE p0
    go_wp2_with fail
    go_loopg [15, 16, 17] n (fun gg v15 v16 v17 wr => ∃ i : Nat, i + gg = n ∧ v17 = .int .i64 i ∧ Hid (Own wr w.heap.size v15 (frs (segF f (X.take i)))) ∧ Hid (OwnZ wr w.heap.size v16 (endsS f X i)) ∧ Hid (∀ j, j < i → CanR (X.getD j zrcd) ∧ WfR (X.getD j zrcd) ∧ (X.getD j zrcd).ins.length ≤ 60 ∧ (X.getD j zrcd).ws.length ≤ 1000) ∧ Hid (Below w.heap.size w wr))
    case atStart => exact ⟨0, by omega, rfl, HO5.out, HE5.out, fun j hj => absurd hj (by omega), HB5.out⟩
    case round =>
      obtain ⟨i, hig, rfl, HO, HE, HCJ, HB⟩ := hrel
      clear HO5 HE5 HB5
      by_cases hi : i < n
      · have hii : (i : Int) < (n : Int) := by omega
        have d1 : decide ((i : Int) < (n : Int)) = true := by rw [decide_eq_true_eq]; exact hii
        obtain ⟨b', off', hab, hb', hin, p0, p1, p2, p3, p4⟩ := (HRX.out wr HB.out).at hi
        injection hab with hab
        injection hab with e1 e2 _
        subst e1 e2
        have hxa := HXA.out i hi
        have hwx := HWF.out i hi
        have HSM := Lib.hid (rsmall_any (hs.getD i zrh) wr)
        generalize xs.getD i zrcd = x at *
        generalize hs.getD i zrh = h0 at *
        obtain ⟨t, a11, n11, c11, a12, n12, c12, a13, n13, c13, ck⟩ := h0
        simp only [] at p0 p1 p2 p3 p4
        obtain ⟨y, hy⟩ : ∃ y, X.getD i zrcd = y := ⟨_, rfl⟩
        have HY := Lib.hid hy
        rw [hy] at hxa
        have HXA' := Lib.hid hxa
        have HWX := Lib.hid hwx
        have HIN := Lib.hid hin
        have HBB := Lib.hid hb'
        clear hy hxa hwx hin hb'
        go_wp2_with fail
        refine HSM.out.mono ?_
        rintro e w6 ⟨rfl, hb6⟩
        have HB6 := Lib.hid (HB.out.trans (hb6.mono HB.out.size))
        have HD6 := Lib.hid hb6
        have hcell : ∀ o, w6.cell? ⟨b, o, none⟩ = wr.cell? ⟨b, o, none⟩ := fun o => hb6.cell (p := ⟨b, o, none⟩) (Nat.lt_of_lt_of_le HBB.out HB.out.size)
        rw [← hcell] at p0 p1 p2 p3 p4
        clear hcell hb6 HSM
        by_cases hsm : SmallR ⟨t, a11, n11, c11, a12, n12, c12, a13, n13, c13, ck⟩
        · rw [decide_eq_true hsm]
          have hwf : IntKind.i64.wrap ((f : Int) + (i : Int)) = (f : Int) + (i : Int) := by
            have := HF.out
            rw [IntKind.wrap_i64]; omega
          obtain ⟨w7, hw7⟩ : ∃ w7, w7 = w6.alloc (.cells #[.int .i64 t, .slice a11 n11 c11, .slice a12 n12 c12, .slice a13 n13 c13, .int .u32 ck] 44) := ⟨_, rfl⟩
          have hbx7 : BoxAt w7 w6.heap.size #[.int .i64 t, .slice a11 n11 c11, .slice a12 n12 c12, .slice a13 n13 c13, .int .u32 ck] 44 := by rw [hw7]; exact boxAt_new _ _ _
          have hb7 : Below w6.heap.size w6 w7 := by rw [hw7]; exact (Below.refl _ _).alloc (Nat.le_refl _) _
          have hbx8 := hbx7.set 0 (.int .i64 ((f : Int) + (i : Int)))
          have hb8 : Below w6.heap.size w6 (w7.setCell ⟨w6.heap.size, 0, none⟩ (.int .i64 ((f : Int) + (i : Int)))) := hb7.setCell (Nat.le_refl _) _
          obtain ⟨w8, hw8⟩ : ∃ w8, w8 = w7.setCell ⟨w6.heap.size, 0, none⟩ (.int .i64 ((f : Int) + (i : Int))) := ⟨_, rfl⟩
          rw [← hw8] at hbx8 hb8
          have hin8 : RhIn w8 w8.heap.size ⟨(f : Int) + (i : Int), a11, n11, c11, a12, n12, c12, a13, n13, c13, ck⟩ y := by
            have hb18 : Below w.heap.size wr w8 := (HD6.out.trans (hb8.mono HD6.out.size)).mono HB.out.size
            have h1 := (HIN.out.below hb18).mono (Nat.le_trans HB.out.size (Nat.le_trans HD6.out.size hb8.size))
            rw [HXA'.out]
            exact ⟨rfl, h1.ins, h1.cs, h1.ws, h1.ck⟩
          have hwy : WfR y := by rw [HXA'.out]; exact ⟨HWX.out.ins, HWX.out.ck⟩
          have hly : y.ins.length ≤ 60 ∧ y.ws.length ≤ 1000 := by
            have h1 := HIN.out.ins.1
            have h2 := HIN.out.ws.1
            obtain ⟨g1, _, g3⟩ := hsm
            rw [HXA'.out]
            simp only [] at h1 h2 g1 g3 ⊢
            omega
          have HCP := Lib.hid (codP_any _ y w8 hin8 hwy (by have := runs_len y.ws; omega))
          have HW7 := Lib.hid hw7
          have HW8 : Hid (w7.setCell ⟨w6.heap.size, 0, none⟩ (.int .i64 ((f : Int) + (i : Int))) = w8) := hw8.symm
          have HB8 := Lib.hid (HB6.out.trans (hb8.mono HB6.out.size))
          have HD8 := Lib.hid (HD6.out.trans (hb8.mono HD6.out.size))
          have HWY := Lib.hid hwy
          have HLY := Lib.hid hly
          have r0 := hbx7.cell (i := 0) rfl
          have r1 := hbx7.cell (i := 1) rfl
          have r2 := hbx7.cell (i := 2) rfl
          have r3 := hbx7.cell (i := 3) rfl
          have r4 := hbx7.cell (i := 4) rfl
          have rf := hbx7.fz 0
          clear hw7 hw8 hbx7 hb7 hbx8 hb8 hin8 hwy hly hsm
          go_upto_region 23 with fail
          rw [← HW7.out]
          clear p0 p1 p2 p3 p4
          go_wp2_with fail
          rw [HW8.out]
          refine HCP.out.mono ?_
          rintro e w9 ⟨v9, er, rfl, hyes, hno, hb9⟩
          have HB9 := Lib.hid (HB8.out.trans (hb9.mono HB8.out.size))
          have HD9 := Lib.hid (HD8.out.trans (hb9.mono HD8.out.size))
          clear hb9 HCP r0 r1 r2 r3 r4 rf
          by_cases hcan : CanR y
          · obtain ⟨rfl, ho9⟩ := hyes hcan
            obtain ⟨a9, c9, rfl, hr9⟩ := ho9.slice
            have hle := encR_le14 hcan HWY.out HLY.out
            have HFP := Lib.hid (fput_any a9 _ c9 (encR y) w9 hr9 (encR_byte y) (by omega))
            have HCAN := Lib.hid hcan
            have HLE : Hid ((fr (encR y)).length ≤ 90014) := by
              have := fr_len14 (encR y) (by omega)
              unfold Hid
              omega
            clear hyes hno hcan ho9 hr9 hle
            generalize hN9 : (encR y).length = N9 at *
            clear hN9
            go_wp2_with fail
            refine HFP.out.mono ?_
            rintro e w10 ⟨v10, rfl, ho10, hb10⟩
            obtain ⟨a10, c10, rfl, hr10⟩ := ho10.slice
            have HB10 := Lib.hid (HB9.out.trans (hb10.mono HB9.out.size))
            have HD10 := Lib.hid (HD9.out.trans (hb10.mono HD9.out.size))
            have hO10 := HO.out.calls HD10.out
            have hE10 : OwnZ w10 w.heap.size _ (endsS f X i) := own_upto HE.out HD10.out (fun k hk => (World.ownsRow.lt HE.out k hk).2)
            have hup : frs (segF f (X.take (i + 1))) = frs (segF f (X.take i)) ++ fr (encR y) := by
              rw [frs_up (by rw [HXN.out]; exact hi), HY.out]
            have hlim : (frs (segF f (X.take i))).length ≤ 2000000 := by
              have := all_len (f := f) (X := X) (i := i) (by have := HF.out; omega) (fun j hj => encR_le14 (HCJ.out j hj).1 (HCJ.out j hj).2.1 (HCJ.out j hj).2.2) i (Nat.le_refl _) (by rw [HXN.out]; omega)
              omega
            have hflen := HLE.out
            obtain ⟨v11, w11, hrun11, ho11, hg11⟩ := run_app14 hO10 hr10 (by omega) HB10.out.size
            rw [← hup] at ho11
            have hE11 : OwnZ w11 w.heap.size _ (endsS f X i) := World.ownsRow.kept hE10 hg11 (own_own hO10 hE10 (by decide))
            have hB11 := HB10.out.grown hg11 HB10.out.size (fun k hk => (World.ownsRow.lt hO10 k hk).1)
            obtain ⟨a11', c11', rfl, _⟩ := ho11.slice
            obtain ⟨v12, w12, hrun12, hE12, hg12⟩ := append_way hE11 ((frs (segF f (X.take (i + 1)))).length : Nat) (by rw [endsS_len]; omega) hB11.size
            rw [← endsS_up] at hE12
            have hO12 : Own w12 w.heap.size _ (frs (segF f (X.take (i + 1)))) := World.ownsRow.kept ho11 hg12 (own_own hE11 ho11 (by decide))
            have hB12 := hB11.grown hg12 hB11.size (fun k hk => (World.ownsRow.lt hE11 k hk).1)
            have HO12 := Lib.hid hO12
            have HE12 := Lib.hid hE12
            have HB12 := Lib.hid hB12
            have HCJ12 : Hid (∀ j, j < i + 1 → CanR (X.getD j zrcd) ∧ WfR (X.getD j zrcd) ∧ (X.getD j zrcd).ins.length ≤ 60 ∧ (X.getD j zrcd).ws.length ≤ 1000) := fun j hj => by
              rcases Nat.lt_succ_iff_lt_or_eq.1 hj with h | rfl
              · exact HCJ.out j h
              · rw [HY.out]
                exact ⟨HCAN.out, HWY.out, HLY.out⟩
            clear hb10 ho10 hr10 hO10 hE10 hup hlim hflen ho11 hg11 hE11 hB11 hE12 hg12 hO12 hB12 HFP HO HE HCJ HCAN HLE HB6 HB8 HB9 HB10 HD6 HD8 HD9 HD10 HXA' HIN HWX HWY HLY HY HBB
            generalize (frs (segF f (X.take (i + 1)))).length = N1 at *
            generalize (fr (encR y)).length = N2 at *
            go_wp2_with (at_builtin; first
              | (refine Lib.wpList_append_run _ rfl _ _ _ _ rfl _ _ rfl rfl _ _ hrun11 ?_)
              | (refine Lib.wpList_append_run _ rfl _ _ _ _ rfl _ _ rfl rfl _ _ hrun12 ?_))
            go_roundg (gk - 1)
            case rel => exact ⟨i + 1, by omega, by first | rfl | go_num, HO12.out, HE12.out, HCJ12.out, HB12.out⟩
            case measure => omega
          · obtain ⟨rfl, rfl⟩ := hno hcan
            clear hyes hno hcan HO HE HCJ HXA' HY HXA HRX
            go_wp2_with fail
            go_ret
            exact ⟨rfl, HB9.out⟩
        · rw [decide_eq_false hsm]
          clear HO HE HCJ HXA' HY HXA HRX
          go_wp2_with fail
          go_ret
          exact ⟨rfl, HB6.out⟩
      · obtain rfl : i = n := by omega
        have d1 : decide ((i : Int) < (i : Int)) = false := by simp
        have hXt : X.take i = X := List.take_of_length_le (by rw [HXN.out]; exact Nat.le_refl _)
        have hff : f ≤ 2147483647 := by have := HF.out; omega
        have hC90 : ∀ x ∈ X, IsRec (encR x) x ∧ (encR x).length ≤ 90000 := fun x hx => by
          obtain ⟨j, hj, rfl⟩ := List.getElem_of_mem hx
          have := HCJ.out j (by have := HXN.out; omega)
          rw [List.getD, List.getElem?_eq_getElem hj, Option.getD_some] at this
          obtain ⟨h1, h2, h3, h4⟩ := this
          exact ⟨⟨h1, h2, by omega, rfl⟩, encR_le14 h1 h2 ⟨h3, h4⟩⟩
        obtain ⟨G, hG⟩ : ∃ G : Nat → Nat, ∀ k, G k = (frs (segF f (X.take k))).length := ⟨_, fun _ => rfl⟩
        have hGi : (frs (segF f X)).length = G i := by rw [hG, hXt]
        have hGL : G i ≤ 25 + i * 90014 := by
          rw [hG]
          exact all_len hff (fun j hj => encR_le14 (HCJ.out j hj).1 (HCJ.out j hj).2.1 (HCJ.out j hj).2.2) i (Nat.le_refl _) (by rw [HXN.out]; exact Nat.le_refl _)
        have hGU : ∀ k, k < i → G k < G (k + 1) := fun k hk => by
          rw [hG, hG]
          exact all_up (by rw [HXN.out]; exact hk)
        have hG0 : 0 < G 0 := by
          rw [hG, head_zero]
          unfold headF fr
          simp only [List.length_append, four_len]
          omega
        have hGM : ∀ k, k ≤ i → G 0 ≤ G k := fun k => by
          induction k with
          | zero => exact fun _ => Nat.le_refl _
          | succ k ih => exact fun h => Nat.le_trans (ih (by omega)) (Nat.le_of_lt (hGU k (by omega)))
        have hGA : ∀ k, endAt (segF f X) (k + 1) = G k := fun k => by rw [endAt_take, hG]
        have hO := HO.out
        rw [hXt] at hO
        obtain ⟨a15, c15, rfl, hr15⟩ := hO.slice
        rw [hGi] at hr15 ⊢
        have hE := HE.out
        obtain ⟨a16, c16, rfl, hr16⟩ := hE.row
        rw [endsS_len] at hr16 ⊢
        obtain ⟨be, oe, rfl, hbe, hce⟩ := hr16.2.2.2 (by omega)
        have HCE : Hid (∀ V, Below wr.heap.size wr V → ∀ k, k ≤ i → V.cell? ⟨be, oe + k, none⟩ = some (.int .i64 (G k : Nat))) := fun V hV k hk => by
          have := hce k (by omega)
          rw [endsS_at hk, ← hG] at this
          exact (hV.cell (p := ⟨be, oe + k, none⟩) hbe).trans this
        have hc16 := hr16.2.1
        have hm16 := hr16.2.2.1
        have hc15 := hr15.2.1
        have hm15 := hr15.2.2.1
        unfold maxLen at hm16 hm15
        have HPA := Lib.hid (HD.out.parse a15 (G i) c15 (frs (segF f X)) wr (hr15.mono (Nat.le_refl _)) (frs_lt14 f X) (by omega) (by
          have := scan_segF (X := X) hff (fun x hx => (hC90 x hx).2) (frs (segF f X)).length (Nat.le_refl _) X.length (Nat.le_refl _) (endAt_le _ _) (fun h => absurd h (Nat.lt_irrefl _))
          rwa [List.take_length] at this))
        rw [parseG_all hff HXT.out (fun x hx => ⟨(hC90 x hx).1, by have := (hC90 x hx).2; omega⟩), hGi] at HPA
        have HR15 := Lib.hid hr15
        have HC90 := Lib.hid hC90
        have HGA := Lib.hid hGA
        have HGU := Lib.hid hGU
        have HGM := Lib.hid hGM
        have HGI := Lib.hid hGi
        have hxn := HXN.out
        clear hXt hC90 hG hGU hGM hGA hGi hO hr15 hE hr16 hbe hce HO HE HCJ
        obtain ⟨M, hM⟩ : ∃ M, i + 1 = M := ⟨_, rfl⟩
        rw [hM] at hc16 ⊢
        go_wp2_with fail
        refine HPA.out.mono ?_
        rintro e w13 ⟨a13, c13, hs13, rfl, ho13, hb13⟩
        simp only [hxn] at ho13 ⊢
        have HB13 := Lib.hid (HB.out.trans (hb13.mono HB.out.size))
        have HD13 := Lib.hid hb13
        have HO13 := Lib.hid ho13
        have hc13 := (ho13.rowAt hxn).2.1
        have hm13 := (ho13.rowAt hxn).2.2.1
        unfold maxLen at hm13
        have p0 := HCE.out w13 hb13 0 (Nat.zero_le _)
        rw [Nat.add_zero] at p0
        clear ho13 hb13 HPA hxn
        have e1 : ((f : Int) != (f : Int)) = false := by simp
        have e2 : ((i : Int) != (i : Int)) = false := by simp
        have e3 : ((G i : Int) != (G i : Int)) = false := by simp
        by_cases k3 : cut < (G 0 : Int)
        · have k3' : decide (cut < (G 0 : Int)) = true := decide_eq_true k3
          go_wp2_with fail
          go_ret
          exact ⟨rfl, HB13.out⟩
        have k3' : decide (cut < (G 0 : Int)) = false := decide_eq_false k3
        by_cases k4 : (G i : Int) < cut
        · have k4' : decide ((G i : Int) < cut) = true := decide_eq_true k4
          go_wp2_with fail
          go_ret
          exact ⟨rfl, HB13.out⟩
        have k4' : decide ((G i : Int) < cut) = false := decide_eq_false k4
        obtain ⟨ct, rfl⟩ := Int.eq_ofNat_of_zero_le (show 0 ≤ cut by omega)
        have hct0 : G 0 ≤ ct := by omega
        have hct1 : ct ≤ G i := by omega
        go_upto_block 2 with fail
        go_cut [29] (fun v29 V => V = w13 ∧ ∃ k : Nat, v29 = .int .i64 k ∧ k ≤ i ∧ G k ≤ ct ∧ (k < i → ct < G (k + 1)))
        case first =>
          go_wp2_with fail
          go_loopg [29] i (fun gg v29 wq => wq = w13 ∧ ∃ k : Nat, k + gg = i ∧ v29 = .int .i64 k ∧ G k ≤ ct)
          case atStart => exact ⟨rfl, 0, by omega, rfl, hct0⟩
          case round =>
            obtain ⟨hwq, k, hkg, rfl, hgk⟩ := hrel
            have HWQ := Lib.hid hwq
            clear hwq
            have hw : IntKind.i64.wrap ((k : Int) + 1) = (k : Int) + 1 := by rw [IntKind.wrap_i64]; omega
            by_cases hk : k < i
            · have hkk : (k : Int) + 1 < (M : Int) := by omega
              have d1 : decide ((k : Int) + 1 < (M : Int)) = true := decide_eq_true hkk
              have hk1 : k + 1 < M := by omega
              have p1 := HCE.out w13 HD13.out (k + 1) (by omega)
              rw [← HWQ.out] at p1
              by_cases hg : G (k + 1) ≤ ct
              · have d2 : decide ((G (k + 1) : Int) ≤ (ct : Int)) = true := decide_eq_true (by omega)
                go_wp2_with fail
                go_roundg (gk - 1)
                case rel => exact ⟨HWQ.out, k + 1, by omega, by first | rfl | go_num, hg⟩
                case measure => omega
              · have d2 : decide ((G (k + 1) : Int) ≤ (ct : Int)) = false := decide_eq_false (by omega)
                go_wp2_with fail
                go_meet
                case rel => exact ⟨HWQ.out, k, rfl, by omega, hgk, fun _ => by omega⟩
            · have hkk : ¬ (k : Int) + 1 < (M : Int) := by omega
              have d1 : decide ((k : Int) + 1 < (M : Int)) = false := decide_eq_false hkk
              go_wp2_with fail
              go_meet
              case rel => exact ⟨HWQ.out, k, rfl, by omega, hgk, fun h => absurd h hk⟩
        case rest =>
          obtain ⟨rfl, k, rfl, hki, hgk, hgn⟩ := hcut
          have hff : f ≤ 2147483647 := by have := HF.out; omega
          obtain ⟨q, hq⟩ : ∃ q, (if ct = G k then 0 else 1 : Nat) = q := ⟨_, rfl⟩
          have hq1 : q ≤ 1 := by rw [← hq]; split <;> omega
          have hxk : (X.take k).length = k := by rw [List.length_take, HXN.out]; omega
          have hPC := parseG_cut hff HXT.out (fun x hx => ⟨(HC90.out x hx).1, by have := (HC90.out x hx).2; omega⟩) ct k (by rw [HXN.out]; exact hki) (by rw [HGA.out]; exact hgk) (by rw [HXN.out]; exact fun h => by have := hgn h; rwa [← HGA.out] at this) (by rw [HGI.out]; exact hct1)
          rw [HGA.out, hq] at hPC
          have HPB := Lib.hid (HD.out.parse a15 ct c15 ((frs (segF f X)).take ct) wc (((HR15.out.below HD13.out).mono HD13.out.size).take14 hct1) (fun x hx => frs_lt14 f X x (List.mem_of_mem_take hx)) (by omega) (scan_segF hff (fun x hx => (HC90.out x hx).2) ct (by rw [HGI.out]; exact hct1) k (by rw [HXN.out]; exact hki) (by rw [HGA.out]; exact hgk) (by rw [HXN.out]; exact fun h => by have := hgn h; rwa [← HGA.out] at this)))
          rw [hPC] at HPB
          have s1 : (0 : Int) ≤ (ct : Int) ∧ (ct : Int) ≤ (c15 : Int) ∧ ct ≤ c15 ∧ ¬ c15 = 0 := by omega
          obtain ⟨s1, s2, s3, s4⟩ := s1
          have u1 : (0 : Int) ≤ (k : Int) ∧ (k : Int) ≤ (c13 : Int) ∧ k ≤ c13 ∧ ¬ c13 = 0 := by omega
          obtain ⟨u1, u2, u3, u4⟩ := u1
          have HXK := Lib.hid hxk
          have HKI := Lib.hid hki
          have HQ1 := Lib.hid hq1
          clear hPC hq hgn p0
          go_wp2_with fail
          refine HPB.out.mono ?_
          rintro e w14 ⟨a14, c14, hs14, rfl, ho14, hb14⟩
          simp only [HXK.out] at ho14 ⊢
          have HB14 := Lib.hid (HB13.out.trans (hb14.mono HB13.out.size))
          have HD14 := Lib.hid (HD13.out.trans (hb14.mono HD13.out.size))
          have HRC := Lib.hid (rrecords14_any a14 a13 k c14 k c13 w14.heap.size hs14 hs13 (X.take k) (X.take k) w14 (ho14.rowAt HXK.out) (((HO13.out.calls hb14).rowAt HXN.out).take14 HKI.out) (Nat.le_refl _))
          clear ho14 hb14 HPB
          go_wp2_with fail
          refine HRC.out.mono ?_
          rintro e w15 ⟨bl, rfl, hbl, hb15⟩
          obtain rfl : bl = true := hbl.2 (by first | rfl | trivial)
          have HB15 := Lib.hid (HB14.out.trans (hb15.mono HB14.out.size))
          have p1 := HCE.out w15 (HD14.out.trans (hb15.mono HD14.out.size)) k HKI.out
          have hkM : (k : Int) < (M : Int) := by have := HKI.out; omega
          have hkM2 : k < M := by have := HKI.out; omega
          have z1 : ((G k : Int) == (G k : Int)) = true := by simp
          have z2 : ((q : Int) != 2) = true := by have := HQ1.out; rw [bne_iff_ne]; omega
          clear hbl hb15 HRC
          go_wp2_with fail
          go_ret
          exact ⟨rfl, HB15.out⟩
theorem segmentBack_walk (a1 : Option Addr) (n1 c1 : Nat) (l1 : List Int) (a2 : Option Addr) (n2 c2 : Nat) (l2 : List Int) (a : Option Addr) (n c : Nat) (hs : List Rh) (xs : List Rcd) (cut : Int) (w : World) (hL : Laid14 w) (hr1 : RowZ .i64 w w.heap.size a1 n1 c1 l1) (hr2 : RowZ .i64 w w.heap.size a2 n2 c2 l2) (hx : RowRc w w.heap.size a n c hs xs ∧ ∀ p ∈ xs, WfR p) (hc : (Lit.int .i64 cut).wf = true) :
    Calls Tryd.prog 4 #[.agg #[.slice a1 n1 c1, .slice a2 n2 c2], .slice a n c, .int .i64 cut] w fun e w' => e = .returned (.bool true) ∧ Below w.heap.size w w' := segmentBack_of segDoes awake14_any a1 n1 c1 l1 a2 n2 c2 l2 a n c hs xs cut w hL hr1 hr2 hx hc
end Go.Proofs.YtplnaaokapilpaaDoor.Vm
