/- The program's head of a segment: Head and readHead. The program's Parse of a segment. The program's Parse of a segment, whole. -/
import Derived.Test.YtplnaaokapilpaaDoorSegMath
import Derived.Test.YtplnaaokapilpaaDoorRefPuts
import Derived.Test.YtplnaaokapilpaaDoorRefScans
import Derived.Test.YtplnaaokapilpaaDoorManys
import Derived.Test.YtplnaaokapilpaaDoorRefSegP
import Derived.Test.YtplnaaokapilpaaDoorReadSts
import Derived.Deep.DeepCutAuto
import Derived.Deep.LoopGhost
namespace Go.Proofs.YtplnaaokapilpaaDoor.Vm
open Go Go.RowKit
set_option maxRecDepth 100000

theorem encs_head (n : Nat) : encs [7, n] = headB n := by
  simp [encs, headB, enc_small (show 7 < 128 by omega)]
theorem headB_byte (n : Nat) : ∀ x ∈ headB n, x < 256 := fun x hx => by
  rcases List.mem_cons.1 hx with rfl | hx
  · omega
  · exact enc_byte _ _ (Nat.le_refl _) x hx
set_option maxHeartbeats 1000000 in
theorem head_any (n : Nat) (w : World) (hn : n ≤ 2147483647) :
    Calls Tryd.prog 10 #[.int .i64 n] w fun e w' => ∃ v, e = .returned v ∧ Own w' w.heap.size v (headF n) ∧ Below w.heap.size w w' := by
  obtain ⟨w1, hw1⟩ : ∃ w1, w1 = w.alloc (.cells #[.int .u64 7, .int .u64 (n : Int)] 56) := ⟨_, rfl⟩
  have hb1 : Below w.heap.size w w1 := by rw [hw1]; exact (Below.refl _ _).alloc (Nat.le_refl _) _
  have hr1 : Row .u64 w1 w1.heap.size (some ⟨w.heap.size, 0, none⟩) 2 2 [7, n] := by rw [hw1]; exact (row_two .u64 w 7 n 56).mono (by simp)
  have hcv : IntKind.u64.wrap (n : Int) = (n : Int) := by rw [IntKind.wrap_u64]; omega
  have hlen := headB_len hn
  have HPU := Lib.hid (put_any _ 2 2 [7, n] w1 hr1 (by simp; omega) (by omega))
  rw [encs_head] at HPU
  have HW1 := Lib.hid hw1
  have HB1 := Lib.hid hb1
  have HLEN := Lib.hid hlen
  clear hw1 hb1 hr1 hlen
  go_enter Tryd.func10, Tryd.ntmps10
  go_wp2_with fail
  rw [← HW1.out]
  refine HPU.out.mono ?_
  rintro e w2 ⟨v2, rfl, ho2, hb2⟩
  obtain ⟨a2, c2, rfl, hr2⟩ := ho2.slice
  have HB2 := Lib.hid (HB1.out.trans (hb2.mono HB1.out.size))
  have HFP := Lib.hid (fput_any a2 _ c2 (headB n) w2 hr2 (headB_byte n) (by have := HLEN.out; omega))
  generalize (headB n).length = N at *
  clear ho2 hr2 hb2 HPU
  go_wp2_with fail
  refine HFP.out.mono ?_
  rintro e w3 ⟨v3, rfl, ho3, hb3⟩
  have HB3 := Lib.hid (HB2.out.trans (hb3.mono HB2.out.size))
  have HO3 : Hid (Own w3 w.heap.size v3 (headF n)) := ho3.mono HB2.out.size
  obtain ⟨a3, c3, rfl, _⟩ := ho3.slice
  clear ho3 hb3 HFP
  go_wp2_with fail
  go_ret
  exact ⟨_, rfl, HO3.out, HB3.out⟩

/-! The tick of a head, by Many. -/
theorem takeS_seven {z : List Nat} (h0 : z.length ≠ 0) (h7 : z.getD 0 0 = 7) : takeS z ((0 : Nat) : Int) = (7, 1, 0) := by
  match z, h0 with
  | x :: r, _ =>
    obtain rfl : x = 7 := h7
    have h := takeS_enc (zs := 7 :: r) (r := r) (p := 0) (n := 7) (by rw [enc_small (by omega)]; rfl) (Nat.zero_le _) (by omega)
    rw [h, enc_small (by omega)]
    rfl
theorem seven_takeS {z : List Nat} (hz : ∀ x ∈ z, x < 256) (h : (takeS z ((0 : Nat) : Int)).2.2 = 0) (h7 : (takeS z ((0 : Nat) : Int)).1 = 7) : z.length ≠ 0 ∧ z.getD 0 0 = 7 := by
  have h1 := (takeS_yes (p := 0) hz h).2.1
  rw [h7, enc_small (by omega)] at h1
  match z, h1 with
  | [], h1 => simp at h1
  | x :: r, h1 =>
    simp only [List.drop_zero, List.singleton_append] at h1
    injection h1 with h1 _
    exact ⟨by simp, by rw [h1]; rfl⟩
def headR (R : List Nat × Nat × Nat) (n : Nat) : Option Nat := if R.2.2 = 0 ∧ R.2.1 = n ∧ R.1.getD 0 0 = 7 then some (R.1.getD 1 0) else none
theorem head_many {z : List Nat} (hz : ∀ x ∈ z, x < 256) : ((manyS z 0 2 2147483647).2.2 = 0 → ∃ x y, (manyS z 0 2 2147483647).1 = [x, y]) ∧ headOf z = headR (manyS z 0 2 2147483647) z.length := by
  have e1 : manyS z 0 2 2147483647 = manyF z 2147483647 2 0 := by
    unfold manyS
    rw [if_neg (by omega)]
    rfl
  rw [e1]
  by_cases h7 : z.length ≠ 0 ∧ z.getD 0 0 = 7
  · have t0 := takeS_seven h7.1 h7.2
    obtain ⟨T, hT⟩ : ∃ T, takeS z ((1 : Nat) : Int) = T := ⟨_, rfl⟩
    obtain ⟨y, q, er⟩ := T
    by_cases he : er = 0
    · subst he
      by_cases hy : 2147483647 < y
      · have m1 : manyF z 2147483647 1 1 = ([], 0, 4) := by rw [manyF, hT]; simp [hy]
        have m0 : manyF z 2147483647 2 0 = ([], 0, 4) := by rw [manyF, t0, m1]; simp
        rw [m0]
        refine ⟨fun h => by simp at h, ?_⟩
        rw [headOf_no (.inr (.inr (.inr (.inr (by show 2147483647 < (takeS z ((1 : Nat) : Int)).1; rw [hT]; exact hy)))))]
        simp [headR]
      · have m1 : manyF z 2147483647 1 1 = ([y], q, 0) := by rw [manyF, hT]; simp [hy, manyF]
        have m0 : manyF z 2147483647 2 0 = ([7, y], q, 0) := by rw [manyF, t0, m1]; simp
        rw [m0]
        refine ⟨fun _ => ⟨7, y, rfl⟩, ?_⟩
        by_cases hq : q = z.length
        · have := headOf_yes (z := z) h7.1 h7.2 (by show (takeS z ((1 : Nat) : Int)).2.2 = 0; rw [hT]) (by show (takeS z ((1 : Nat) : Int)).2.1 = _; rw [hT]; exact hq) (by show (takeS z ((1 : Nat) : Int)).1 ≤ _; rw [hT]; omega)
          rw [this]
          show some (takeS z ((1 : Nat) : Int)).1 = _
          rw [hT]
          simp [headR, hq]
        · rw [headOf_no (.inr (.inr (.inr (.inl (by show (takeS z ((1 : Nat) : Int)).2.1 ≠ _; rw [hT]; exact hq)))))]
          simp [headR, hq]
    · have m1 : manyF z 2147483647 1 1 = ([], 0, er) := by rw [manyF, hT, if_neg he]
      have m0 : manyF z 2147483647 2 0 = ([], 0, er) := by rw [manyF, t0, m1]; simp [he]
      rw [m0]
      refine ⟨fun h => absurd h he, ?_⟩
      rw [headOf_no (.inr (.inr (.inl (by show (takeS z ((1 : Nat) : Int)).2.2 ≠ 0; rw [hT]; exact he))))]
      simp [headR, he]
  · have hno : headOf z = none := by
      by_cases h0 : z.length = 0
      · exact headOf_no (.inl h0)
      · exact headOf_no (.inr (.inl fun h => h7 ⟨h0, h⟩))
    rw [hno]
    obtain ⟨T, hT⟩ : ∃ T, takeS z ((0 : Nat) : Int) = T := ⟨_, rfl⟩
    have hs := seven_takeS hz
    rw [hT] at hs
    obtain ⟨x, q, er⟩ := T
    by_cases he : er = 0
    · subst he
      have hx7 : x ≠ 7 := fun h => h7 (hs rfl h)
      by_cases hx : 2147483647 < x
      · have m0 : manyF z 2147483647 2 0 = ([], 0, 4) := by rw [manyF, hT]; simp [hx]
        rw [m0]
        exact ⟨fun h => by simp at h, by simp [headR]⟩
      · obtain ⟨M, hM⟩ : ∃ M, manyF z 2147483647 1 q = M := ⟨_, rfl⟩
        by_cases hm : M.2.2 = 0
        · have m0 : manyF z 2147483647 2 0 = (x :: M.1, M.2.1, 0) := by rw [manyF, hT]; simp [hx, hM, hm]
          obtain ⟨U, hU⟩ : ∃ U, takeS z (q : Int) = U := ⟨_, rfl⟩
          rw [manyF, hU] at hM
          have hl : ∃ y, M.1 = [y] := by
            rw [← hM] at hm ⊢
            split at hm
            · rename_i h1
              rw [if_pos h1]
              split at hm
              · simp at hm
              · rename_i h2
                rw [if_neg h2]
                exact ⟨U.1, by simp [manyF]⟩
            · rename_i h1
              exact absurd hm h1
          obtain ⟨y, hy⟩ := hl
          rw [m0, hy]
          exact ⟨fun _ => ⟨x, y, rfl⟩, by simp [headR, hx7]⟩
        · have m0 : manyF z 2147483647 2 0 = ([], 0, M.2.2) := by rw [manyF, hT]; simp [hx, hM, hm]
          rw [m0]
          exact ⟨fun h => absurd h hm, by simp [headR, hm]⟩
    · have m0 : manyF z 2147483647 2 0 = ([], 0, er) := by rw [manyF, hT, if_neg he]
      rw [m0]
      exact ⟨fun h => absurd h he, by simp [headR, he]⟩
theorem headOf_le {z : List Nat} {t : Nat} (h : headOf z = some t) : t ≤ 2147483647 := by
  unfold headOf at h
  split at h
  · split at h
    · rename_i h1
      injection h with h
      omega
    · cases h
  · cases h
/-- What readHead hands back. -/
def SaysHd (w : World) (z : List Nat) (e : Ending) (w' : World) : Prop :=
  ((∃ t : Nat, headOf z = some t ∧ t ≤ 2147483647 ∧ e = .returned (.tuple #[.int .i64 t, .int .i64 0])) ∨ (headOf z = none ∧ e = .returned (.tuple #[.int .i64 0, .int .i64 3]))) ∧ Below w.heap.size w w'
set_option maxHeartbeats 2000000 in
theorem readHead_any (a : Option Addr) (n c : Nat) (z : List Nat) (w : World) (h : Row .u8 w w.heap.size a n c z) (hz : ∀ x ∈ z, x < 256) :
    Calls Tryd.prog 32 #[.slice a n c] w (SaysHd w z) := by
  have HM := Lib.hid (many_any a n c z 0 2 2147483647 w h hz (by omega))
  obtain ⟨h1, h2⟩ := head_many hz
  have hl := h.1
  rw [hl] at h2
  have HLE := Lib.hid (fun t (h : headOf z = some t) => headOf_le h)
  have HTWO := Lib.hid h1
  have HOF := Lib.hid h2
  clear h1 h2 h hz hl
  generalize manyS z 0 2 2147483647 = R at *
  obtain ⟨l, q, er⟩ := R
  go_enter Tryd.func32, Tryd.ntmps32
  go_wp2_with fail
  refine HM.out.mono ?_
  rintro e w2 ⟨v2, rfl, ho2, hb2⟩
  have HB2 := Lib.hid hb2
  have HNO : Hid (headOf z = none → SaysHd w z (.returned (.tuple #[.int .i64 0, .int .i64 3])) w2) := fun h => ⟨.inr ⟨h, rfl⟩, HB2.out⟩
  clear hb2 HM
  by_cases he : er = 0
  · subst he
    have e0 : (((0 : Nat) : Int) != 0) = false := by simp
    obtain ⟨x, y, rfl⟩ := HTWO.out rfl
    obtain ⟨a2, c2, rfl, hr2⟩ := (show OwnZ w2 w.heap.size v2 [(x : Int), (y : Int)] from ho2).row
    obtain ⟨b, o, rfl, hlb, hcs⟩ := hr2.2.2.2 (by simp)
    have p0 := hcs 0 (by simp)
    have p1 := hcs 1 (by simp)
    have hd2 := hr2.2.1
    have hdm := hr2.2.2.1
    unfold maxLen at hdm
    simp only [List.length_cons, List.length_nil, Nat.reduceAdd, Nat.add_zero, List.getD_cons_zero, List.getD_cons_succ] at p0 p1 hd2
    clear ho2 hr2 hcs
    by_cases hq : q = n
    · subst hq
      have e1 : ((q : Int) != (q : Int)) = false := by simp
      by_cases hx : x = 7
      · subst hx
        have e2 : (((7 : Nat) : Int) != 7) = false := by simp
        have hh : headOf z = some y := by rw [HOF.out]; simp [headR]
        have HF : Hid (SaysHd w z (.returned (.tuple #[.int .i64 (y : Nat), .int .i64 0])) w2) := ⟨.inl ⟨y, hh, HLE.out y hh, rfl⟩, HB2.out⟩
        clear hh HNO
        go_wp2_with fail
        exact bodyPost_ret (v := .tuple #[.int .i64 (y : Nat), .int .i64 0]) (by simp [results, Tryd.results32, go_sem]) rfl HF.out
      · have e2 : ((x : Int) != 7) = true := by rw [bne_iff_ne]; omega
        have HF := Lib.hid (HNO.out (by rw [HOF.out]; simp [headR, hx]))
        clear HNO
        go_wp2_with fail
        exact bodyPost_ret (v := .tuple #[.int .i64 0, .int .i64 3]) (by simp [results, Tryd.results32, go_sem]) rfl HF.out
    · have e1 : ((q : Int) != (n : Int)) = true := by rw [bne_iff_ne]; omega
      have HF := Lib.hid (HNO.out (by rw [HOF.out]; simp [headR, hq]))
      clear HNO
      go_wp2_with fail
      exact bodyPost_ret (v := .tuple #[.int .i64 0, .int .i64 3]) (by simp [results, Tryd.results32, go_sem]) rfl HF.out
  · have e0 : ((er : Int) != 0) = true := by rw [bne_iff_ne]; omega
    have HF := Lib.hid (HNO.out (by rw [HOF.out]; simp [headR, he]))
    clear HNO
    obtain ⟨a2, c2, rfl⟩ := own_is_slice ho2
    clear ho2
    go_wp2_with fail
    exact bodyPost_ret (v := .tuple #[.int .i64 0, .int .i64 3]) (by simp [results, Tryd.results32, go_sem]) rfl HF.out
end Go.Proofs.YtplnaaokapilpaaDoor.Vm

namespace Go.Proofs.YtplnaaokapilpaaDoor.Vm
open Go Go.RowKit
set_option maxRecDepth 100000

theorem rr_any (a : Option Addr) (n c : Nat) (z : List Nat) (w : World) (h : Row .u8 w w.heap.size a n c z) (hz : ∀ x ∈ z, x < 256) (hn : n ≤ 90000) :
    Calls Tryd.prog 51 #[.slice a n c] w fun e w' => ∃ h' er, e = .returned (.tuple #[rhV h', .int .i64 er]) ∧ ((er = 0 ∧ ∃ x, recZ z = some x ∧ RCopy w' w.heap.size h' x) ∨ (er = 3 ∧ recZ z = none)) ∧ Below w.heap.size w w' :=
  (readRecord_any a n c z w h hz hn).mono fun e w' ⟨h', er, he, hd, hb⟩ => ⟨h', er, he, by
    have hl := h.1
    rcases hd with ⟨h0, x, h1, h2, h3⟩ | ⟨h3, _, hno⟩
    · exact .inl ⟨h0, x, recZ_is ⟨h1.can, h1.wf, h1.ws, h2⟩ (by omega), h3⟩
    · refine .inr ⟨h3, ?_⟩
      cases e : recZ z with
      | none => rfl
      | some x =>
        have hx := recZ_some e
        exact absurd ⟨x, ⟨hx.1, hx.2.1, hx.2.2.1⟩, hx.2.2.2⟩ hno, hb⟩
/-- What readRecords hands back. -/
def SaysRc (w : World) (R : Int × List Rcd) (e : Ending) (w' : World) : Prop :=
  ((R.1 = 0 ∧ ∃ a c hs, e = .returned (.tuple #[.slice a R.2.length c, .int .i64 0]) ∧ OwnRc w' w.heap.size (.slice a R.2.length c) hs R.2) ∨ (R.1 ≠ 0 ∧ e = .returned (.tuple #[.slice none 0 0, .int .i64 R.1]))) ∧ Below w.heap.size w w'
/-- What is read so far, and the rest. -/
def recTo (o : List Rcd) (R : Int × List Rcd) : Int × List Rcd := (R.1, o ++ R.2)
section
variable {L : List (List Nat)} {s : Int} {i : Nat} {o : List Rcd} {x : Rcd} {T : Int × List Rcd}
theorem recTo_none (hT : T = recTo o (recsF s (L.drop i))) (h : i < L.length) (hr : recZ (L.getD i []) = none) : T.1 = 3 := by
  rw [hT, drop_frame h, recsF, hr]
  rfl
theorem recTo_tick (hT : T = recTo o (recsF s (L.drop i))) (h : i < L.length) (hr : recZ (L.getD i []) = some x) (hx : x.tick ≠ s) : T.1 = 11 := by
  rw [hT, drop_frame h, recsF, hr]
  simp only [if_neg hx]
  rfl
theorem recTo_next (hT : T = recTo o (recsF s (L.drop i))) (h : i < L.length) (hr : recZ (L.getD i []) = some x) (hx : x.tick = s) : T = recTo (o ++ [x]) (recsF (s + 1) (L.drop (i + 1))) := by
  rw [hT, drop_frame h, recsF, hr]
  simp only [if_pos hx]
  unfold recTo
  simp only [List.append_assoc, List.singleton_append]
theorem recTo_end (hT : T = recTo o (recsF s (L.drop i))) (h : L.length ≤ i) : T = (0, o) := by
  rw [hT, List.drop_of_length_le h, recsF]
  simp [recTo]
end
theorem saysRc_no {w w' : World} {R : Int × List Rcd} {er : Int} (h : R.1 = er) (he : er ≠ 0) (hb : Below w.heap.size w w') : SaysRc w R (.returned (.tuple #[.slice none 0 0, .int .i64 er])) w' := by
  subst h
  exact ⟨.inr ⟨he, rfl⟩, hb⟩
set_option maxHeartbeats 4000000 in
theorem readRecords_any (a : Option Addr) (N c : Nat) (L : List (List Nat)) (t0 : Nat) (w : World) (h : Rows w w.heap.size a N c L) (hL : ∀ i, i < N → (L.getD i []).length ≤ 90000 ∧ ∀ x ∈ L.getD i [], x < 256) (hN : N ≤ 2000000) (ht : t0 ≤ 2147483647) :
    Calls Tryd.prog 33 #[.slice a N c, .int .i64 t0] w (SaysRc w (recsF t0 L)) := by
  have HLN : Hid (L.length = N) := h.1
  have hnc := h.2.1
  have hcm := h.2.2.1
  unfold maxLen at hcm
  have HCS : Hid (∀ V, Below w.heap.size w V → ∀ i, i < N → ∃ b off ai ci, a = some ⟨b, off, none⟩ ∧ V.cell? ⟨b, off + i, none⟩ = some (.slice ai (L.getD i []).length ci) ∧ Row .u8 V V.heap.size ai (L.getD i []).length ci (L.getD i [])) := fun V hV i hi => by
    obtain ⟨b, off, e, hlb, hcs⟩ := h.cells (by omega)
    obtain ⟨ai, ci, h1, h2⟩ := hcs i hi
    exact ⟨b, off, ai, ci, e, (hV.cell (p := ⟨b, off + i, none⟩) hlb).trans h1, (h2.below hV).mono hV.size⟩
  have HZI := Lib.hid hL
  have HT0 : Hid (recsF t0 L = recTo [] (recsF ((t0 : Int) + ((0 : Nat) : Int)) (L.drop 0))) := by
    unfold Hid recTo
    simp
  have HTB := Lib.hid ht
  clear h hL ht
  generalize recsF t0 L = T at *
  go_enter Tryd.func33, Tryd.ntmps33
  go_wp2_with fail
  go_loopg [1, 6, 13] N (fun gg v1 v6 v13 wr => ∃ (i : Nat) (hs : List Rh) (o : List Rcd), i + gg = N ∧ v13 = .int .i64 i ∧ v1 = .int .i64 ((t0 : Int) + (i : Int)) ∧ Hid (T = recTo o (recsF ((t0 : Int) + (i : Int)) (L.drop i))) ∧ Hid (OwnRc wr w.heap.size v6 hs o) ∧ Hid (o.length = i) ∧ Hid (Below w.heap.size w wr))
  case atStart => exact ⟨0, [], [], by omega, rfl, by first | rfl | go_num, HT0.out, OwnRc.nil _ _, rfl, Below.refl _ _⟩
  case round =>
    obtain ⟨i, hs, o, hig, rfl, rfl, HG, HO, HLO, HB⟩ := hrel
    by_cases hi : i < N
    · have hii : (i : Int) < (N : Int) := by omega
      have d1 : decide ((i : Int) < (N : Int)) = true := by rw [decide_eq_true_eq]; exact hii
      obtain ⟨b, off, ai, ci, rfl, hci, hri⟩ := HCS.out wr HB.out i hi
      have hzi := HZI.out i hi
      have HH3 := Lib.hid (fun hr => recTo_none HG.out (by rw [HLN.out]; exact hi) hr)
      have HH11 := Lib.hid (fun (x : Rcd) hr hx => recTo_tick (x := x) HG.out (by rw [HLN.out]; exact hi) hr hx)
      have HHN := Lib.hid (fun (x : Rcd) hr hx => recTo_next (x := x) HG.out (by rw [HLN.out]; exact hi) hr hx)
      have HRR := Lib.hid (rr_any ai _ ci _ wr hri hzi.2 hzi.1)
      have hcii := hri.2.1
      have hcim := hri.2.2.1
      unfold maxLen at hcim
      have htb := HTB.out
      have hw2 : IntKind.i64.wrap ((t0 : Int) + (i : Int) + 1) = (t0 : Int) + (i : Int) + 1 := by rw [IntKind.wrap_i64]; omega
      have hbz := HB.out.size
      clear hzi hri htb
      obtain ⟨zi, hzi⟩ : ∃ zi, L.getD i [] = zi := ⟨_, rfl⟩
      rw [hzi] at hci HH3 HH11 HHN HRR hcii
      clear hzi
      obtain ⟨mi, hmi⟩ : ∃ mi, zi.length = mi := ⟨_, rfl⟩
      rw [hmi] at hci HRR hcii
      clear hmi
      go_wp2_with fail
      refine HRR.out.mono ?_
      rintro e w3 ⟨⟨t, a1, n1, c1, a2', n2, c2', a3, n3, c3, ck⟩, er, rfl, hd, hb3⟩
      have HB3 := Lib.hid (HB.out.trans (hb3.mono hbz))
      have HO3 := Lib.hid (HO.out.calls hb3)
      have hz3 := hb3.size
      have hba : Below w3.heap.size w3 (w3.alloc (.cells #[.int .i64 t, .slice a1 n1 c1, .slice a2' n2 c2', .slice a3 n3 c3, .int .u32 ck] 44)) := (Below.refl _ _).alloc (Nat.le_refl _) _
      have HB4 := Lib.hid (HB3.out.trans (hba.mono (Nat.le_trans hbz hz3)))
      rcases hd with ⟨rfl, x, hx, hc⟩ | ⟨rfl, hno⟩
      · have htx : t = x.tick := hc.tick
        by_cases htt : t = (t0 : Int) + (i : Int)
        · have e2 : (t != (t0 : Int) + (i : Int)) = false := by rw [htt]; simp
          have HGN := Lib.hid (HHN.out x hx (htx.symm.trans htt))
          obtain ⟨w4, hw4⟩ : ∃ w4, w4 = w3.alloc (.cells #[.int .i64 t, .slice a1 n1 c1, .slice a2' n2 c2', .slice a3 n3 c3, .int .u32 ck] 44) := ⟨_, rfl⟩
          have hz4 : w4.heap.size = w3.heap.size + 1 := by rw [hw4]; simp
          have hba4 : Below w3.heap.size w3 w4 := by rw [hw4]; exact hba
          have HO4 := Lib.hid (HO3.out.calls hba4)
          obtain ⟨v', w5, hrun, hown5, hg5⟩ := append_rcd HO4.out ((hc.mono hbz).calls hba4) (by have := HLO.out; omega) (by rw [hz4]; omega)
          have HB5 := Lib.hid (((HB3.out.trans (hba4.mono (Nat.le_trans hbz hz3))) : Below w.heap.size w w4).grown hg5 (by rw [hz4]; omega) (fun k hk => (World.ownsRow.lt HO4.out.own k hk).1))
          have HO5 := Lib.hid hown5
          have hk4 : w4.heap[w3.heap.size]? = some (.cells #[.int .i64 t, .slice a1 n1 c1, .slice a2' n2 c2', .slice a3 n3 c3, .int .u32 ck] 44) := by rw [hw4]; exact heap_alloc_new w3 _
          rw [hz4, hw4] at hrun
          have HLX : Hid ((o ++ [x]).length = i + 1) := by unfold Hid; rw [List.length_append, HLO.out]; rfl
          obtain ⟨a6, c6, hv6⟩ := hown5.slice
          generalize (o ++ [x]).length = M6 at hv6
          subst hv6
          obtain ⟨a7, c7, rfl⟩ := HO.out.slice
          generalize o.length = M7 at hrun HLO ⊢
          clear HH3 HH11 HHN HRR HG HO HB HO3 HO4 HB3 HB4 hb3 hc hba hba4 hz4 hown5 hg5 hx htx htt hw4 hk4
          go_wp2_with (at_builtin; refine Lib.wpList_append_run _ rfl _ _ _ _ rfl _ _ rfl rfl _ _ hrun ?_)
          go_roundg (gk - 1)
          case rel => exact ⟨i + 1, _, _, by omega, by first | rfl | go_num, by first | rfl | go_num, HGN.out, HO5.out, HLX.out, HB5.out⟩
          case measure => omega
        · have e2 : (t != (t0 : Int) + (i : Int)) = true := by rw [bne_iff_ne]; exact htt
          have HF := Lib.hid (saysRc_no (w := w) (HH11.out x hx (fun h => htt (htx.trans h))) (by omega) HB4.out)
          clear HH3 HH11 HHN HRR HG HO HB HO3 HB3 HB4 hb3 hc hba hx htx htt
          go_wp2_with fail
          exact bodyPost_ret (v := .tuple #[.slice none 0 0, .int .i64 11]) (by simp [results, Tryd.results33, go_sem]) rfl HF.out
      · have HF := Lib.hid (saysRc_no (w := w) (HH3.out hno) (by omega) HB4.out)
        clear HH3 HH11 HHN HRR HG HO HB HO3 HB3 HB4 hb3 hba hno
        go_wp2_with fail
        exact bodyPost_ret (v := .tuple #[.slice none 0 0, .int .i64 3]) (by simp [results, Tryd.results33, go_sem]) rfl HF.out
    · obtain rfl : i = N := by omega
      have d1 : decide ((i : Int) < (i : Int)) = false := by simp
      obtain ⟨a', c', rfl⟩ := HO.out.slice
      have HF : Hid (SaysRc w T (.returned (.tuple #[.slice a' o.length c', .int .i64 0])) wr) := by
        unfold Hid
        rw [recTo_end HG.out (by rw [HLN.out]; exact Nat.le_refl _)]
        exact ⟨.inl ⟨rfl, a', c', hs, rfl, HO.out⟩, HB.out⟩
      clear HG HCS HZI HO HLO
      go_wp2_with fail
      exact bodyPost_ret (v := .tuple #[.slice a' o.length c', .int .i64 0]) (by simp [results, Tryd.results33, go_sem]) rfl HF.out
end Go.Proofs.YtplnaaokapilpaaDoor.Vm

namespace Go.Proofs.YtplnaaokapilpaaDoor.Vm
open Go Go.RowKit
set_option maxRecDepth 100000

theorem run_cutR (a : Option Addr) (n c lo : Nat) (h1 : lo ≤ n) : ∃ a', (∀ b off, a = some ⟨b, off, none⟩ → lo < n → n ≤ c → a' = some ⟨b, off + lo, none⟩) ∧
    ∀ V, (Instr.sliceAt 65 (.slice a n c) (some (.int .i64 (lo : Nat))) none none).run Tryd.prog V = .ok (.slice a' (n - lo) (c - lo)) V := by
  have hs : ∀ V, (sizeOf (Tryd.prog.elem 65)).run Tryd.prog V = .ok 1 V := fun V => by kernel_rfl
  have he : Tryd.prog.underlying 65 = some (.slice (Tryd.prog.elem 65)) := by kernel_rfl
  refine ⟨if c = lo then a else a.map (·.add (lo * 1)), fun b off e h2 h3 => ?_, fun V => ?_⟩
  · rw [if_neg (by omega), e]
    simp [Addr.add]
  · rw [run_sliceAt_slice (h := he), run_slice_l (ht := he) (h0 := by omega) (h1 := by omega), hs]
    simp [Result.andThen, sliced]
theorem Rows.rest {w : World} {B n c : Nat} {a a' : Option Addr} {L : List (List Nat)} (h : Rows w B a n c L) (hn : 0 < n) (ha : ∀ b off, a = some ⟨b, off, none⟩ → 1 < n → n ≤ c → a' = some ⟨b, off + 1, none⟩) : Rows w B a' (n - 1) (c - 1) (L.drop 1) := by
  have hc := h.2.1
  have hm := h.2.2.1
  refine ⟨by rw [List.length_drop, h.1], by omega, by omega, fun hp => ?_⟩
  obtain ⟨b, off, e, hlb, hcs⟩ := h.cells (by omega)
  refine ⟨b, off + 1, ha b off e (by omega) hc, hlb, fun i hi => ?_⟩
  obtain ⟨ai, ci, h1, h2⟩ := hcs (1 + i) (by omega)
  have e2 : (L.drop 1).getD i [] = L.getD (1 + i) [] := by simp [List.getD, List.getElem?_drop, Nat.add_comm]
  rw [e2]
  exact ⟨ai, ci, by rw [Nat.add_assoc]; exact h1, h2⟩
set_option maxHeartbeats 4000000 in
theorem parse_any (a : Option Addr) (n c : Nat) (zs : List Nat) (w : World) (h : Row .u8 w w.heap.size a n c zs) (hz : ∀ x ∈ zs, x < 256) (hn : n ≤ 2000000) (hall : ∀ z ∈ (scanS zs).1, z.length ≤ 90000) :
    Calls Tryd.prog 18 #[.slice a n c] w (SaysPar w (parseG zs)) := by
  have hzl := h.1
  have HS := Lib.hid (scan_any a n c zs w h hz (by omega))
  have HSUB : Hid (∀ z ∈ (scanS zs).1, z.length ≤ 90000 ∧ ∀ x ∈ z, x < 256) := fun z hz' => ⟨hall z hz', fun x hx => hz x ((scan_sub zs.length zs (Nat.le_refl _) z hz').2 x hx)⟩
  have HP : Hid (parseG zs = parseL (scanS zs).1 (scanS zs).2.1 (scanS zs).2.2) := parseG_L zs
  have hL0 : (scanS zs).1.length ≤ 2000000 := by
    have := scan_count zs.length zs (Nat.le_refl _)
    omega
  clear h hz hzl hall
  generalize parseG zs = P at *
  generalize (scanS zs).1 = L at *
  generalize (scanS zs).2.1 = sp at *
  generalize (scanS zs).2.2 = ss at *
  go_enter Tryd.func18, Tryd.ntmps18
  go_wp2_with fail
  refine HS.out.mono ?_
  rintro e w2 ⟨v2, rfl, ho2, hb2⟩
  obtain ⟨a2, c2, rfl, hr2⟩ := ho2.rows
  have HB2 := Lib.hid hb2
  have hcc := hr2.2.1
  have hcm := hr2.2.2.1
  unfold maxLen at hcm
  obtain ⟨N, hN⟩ : ∃ N, L.length = N := ⟨_, rfl⟩
  rw [hN] at hr2 hcc hL0
  have HR2 := Lib.hid hr2
  have HN := Lib.hid hN
  rw [hN]
  clear ho2 hb2 hr2 HS hN
  by_cases h0 : N = 0
  · subst h0
    have HF := Lib.hid (saysPar_no (w := w) 2 (HP.out.trans (parseL_nil _ _ HN.out)) HB2.out)
    go_wp2_with fail
    exact bodyPost_ret (v := .tuple #[.int .i64 0, .slice none 0 0, .int .i64 0, .int .i64 0, .int .i64 2]) (by simp [results, Tryd.results18, go_sem]) rfl HF.out
  · have e0 : ((N : Int) == 0) = false := by rw [beq_eq_false_iff_ne]; omega
    have hN1 : 0 < N := by omega
    have hN2 : (0 : Int) < (N : Int) := by omega
    have HN0 : Hid (L.length ≠ 0) := by unfold Hid; rw [HN.out]; exact h0
    have HZI : Hid (∀ i, i < N → (L.getD i []).length ≤ 90000 ∧ ∀ x ∈ L.getD i [], x < 256) := fun i hi => HSUB.out _ (by
      have : i < L.length := by rw [HN.out]; exact hi
      simp [List.getD, this])
    obtain ⟨b, off, rfl, hlb, hcs⟩ := HR2.out.cells (by omega)
    obtain ⟨az, cz, hcell, hrow⟩ := hcs 0 (by omega)
    rw [Nat.add_zero] at hcell
    have hzz := HZI.out 0 (by omega)
    have HHD := Lib.hid (readHead_any az _ cz (L.getD 0 []) w2 hrow hzz.2)
    have HHB := Lib.hid (fun hh => HP.out.trans (parseL_bad (L := L) sp ss HN0.out hh))
    have HHY := Lib.hid (fun (t : Nat) hh => HP.out.trans (parseL_head (L := L) (t := t) sp ss HN0.out hh))
    have hczl := hrow.2.1
    have hczm := hrow.2.2.1
    unfold maxLen at hczm
    obtain ⟨A1, hA1, hsl1⟩ := run_cutR (some ⟨b, off, none⟩) N c2 1 (by omega)
    have hsl1' : ∀ V, (Instr.sliceAt 65 (.slice (some ⟨b, off, none⟩) N c2) (some (.int .i64 1)) none none).run Tryd.prog V = .ok (.slice A1 (N - 1) (c2 - 1)) V := hsl1
    have HRS := Lib.hid (HR2.out.rest (a' := A1) hN1 hA1)
    have HZR : Hid (∀ i, i < N - 1 → ((L.drop 1).getD i []).length ≤ 90000 ∧ ∀ x ∈ (L.drop 1).getD i [], x < 256) := fun i hi => by
      have e2 : (L.drop 1).getD i [] = L.getD (1 + i) [] := by simp [List.getD, List.getElem?_drop, Nat.add_comm]
      rw [e2]
      exact HZI.out (1 + i) (by omega)
    have HN2 : Hid (N - 1 ≤ 2000000) := by unfold Hid; omega
    clear hcs hrow hzz hA1 hsl1 HZI HP HSUB
    generalize L.getD 0 [] = z at *
    generalize z.length = m at *
    go_wp2_with fail
    refine HHD.out.mono ?_
    rintro e w3 ⟨hd, hb3⟩
    have HB3 := Lib.hid (HB2.out.trans (hb3.mono HB2.out.size))
    have HC3 := Lib.hid hb3
    clear hb3 HHD
    rcases hd with ⟨t, hh, htb, rfl⟩ | ⟨hh, rfl⟩
    · have HG := Lib.hid (HHY.out t hh)
      have HRC := Lib.hid (readRecords_any A1 (N - 1) (c2 - 1) (L.drop 1) t w3 ((HRS.out.below HC3.out).mono HC3.out.size) HZR.out HN2.out htb)
      clear HHB HHY hh HZR
      obtain ⟨M1, hM1⟩ : ∃ M1, N - 1 = M1 := ⟨_, rfl⟩
      obtain ⟨M2, hM2⟩ : ∃ M2, c2 - 1 = M2 := ⟨_, rfl⟩
      rw [hM1, hM2] at hsl1' HRC
      clear hM1 hM2 hcell HRS HR2
      go_wp2_with fail
      refine HRC.out.mono ?_
      rintro e w4 ⟨hr, hb4⟩
      have HB4 := Lib.hid (HB3.out.trans (hb4.mono HB3.out.size))
      clear hb4 HRC
      generalize recsF t (L.drop 1) = R at *
      rcases hr with ⟨hr0, ra, rc, hs, rfl, ho4⟩ | ⟨hr0, rfl⟩
      · have HF : Hid (SaysPar w P (.returned (.tuple #[.int .i64 (t : Int), .slice ra R.2.length rc, .int .i64 (sp : Int), .int .i64 (ss : Int), .int .i64 0])) w4) := by
          unfold Hid
          have hp := HG.out
          unfold finP at hp
          rw [if_pos hr0, List.nil_append] at hp
          rw [hp]
          exact ⟨ra, rc, hs, rfl, ho4.mono HB3.out.size, HB4.out⟩
        clear HG ho4
        generalize R.2.length = M4 at *
        go_wp2_with fail
        exact bodyPost_ret (v := .tuple #[.int .i64 (t : Int), .slice ra M4 rc, .int .i64 (sp : Int), .int .i64 (ss : Int), .int .i64 0]) (by simp [results, Tryd.results18, go_sem]) rfl HF.out
      · have hp := HG.out
        unfold finP at hp
        rw [if_neg hr0] at hp
        have HF := Lib.hid (saysPar_no (w := w) R.1 hp HB4.out)
        obtain ⟨er, rl⟩ := R
        have e3 : (er != 0) = true := by rw [bne_iff_ne]; exact hr0
        simp only [] at HF ⊢
        clear HG hp hr0
        go_wp2_with fail
        exact bodyPost_ret (v := .tuple #[.int .i64 0, .slice none 0 0, .int .i64 0, .int .i64 0, .int .i64 er]) (by simp [results, Tryd.results18, go_sem]) rfl HF.out
    · have HF := Lib.hid (saysPar_no (w := w) 3 (HHB.out hh) HB3.out)
      clear HHB HHY hh HZR
      go_wp2_with fail
      exact bodyPost_ret (v := .tuple #[.int .i64 0, .slice none 0 0, .int .i64 0, .int .i64 0, .int .i64 3]) (by simp [results, Tryd.results18, go_sem]) rfl HF.out
end Go.Proofs.YtplnaaokapilpaaDoor.Vm
