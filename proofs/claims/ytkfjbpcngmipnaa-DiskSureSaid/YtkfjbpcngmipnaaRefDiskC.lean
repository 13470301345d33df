/- The document's disk: files with one more, in order. -/
import Derived.Test.YtkfjbpcngmipnaaRefDiskB
import Derived.Deep.QuietTactic
import Derived.BigQuiet
namespace Go.Proofs.Ytkfjbpcngmipnaa.Vm
open Go Go.RowKit
set_option maxRecDepth 100000

/-- One more at a place. -/
def putI {α : Type} (k : Nat) (x : α) (l : List α) : List α := l.take k ++ x :: l.drop k
def whereS (F : List FileS) (n : ByteArray) : Nat := (F.takeWhile fun g => !nlt n g.name).length
theorem inS_put (F : List FileS) (f : FileS) : inS F f = putI (whereS F f.name) f F := by
  have h := List.takeWhile_append_dropWhile (p := fun g : FileS => !nlt f.name g.name) (l := F)
  unfold inS putI whereS
  congr 1
  · conv => rhs; arg 2; rw [← h]
    rw [List.take_left']
    rfl
  · congr 1
    conv => rhs; arg 2; rw [← h]
    rw [List.drop_left']
    rfl
theorem whereS_le (F : List FileS) (n : ByteArray) : whereS F n ≤ F.length := (List.takeWhile_sublist _).length_le
theorem whereS_lt {F : List FileS} {n : ByteArray} {i : Nat} (h : i < whereS F n) : nlt n (F.getD i zfile).name = false := by
  have hi : i < F.length := Nat.lt_of_lt_of_le h (whereS_le F n)
  have h1 : (F.takeWhile fun g => !nlt n g.name)[i]'h ∈ F.takeWhile fun g => !nlt n g.name := List.getElem_mem h
  have h2 := List.all_eq_true.1 (List.all_takeWhile (p := fun g : FileS => !nlt n g.name) (l := F)) _ h1
  have h3 : (F.takeWhile fun g => !nlt n g.name)[i]'h = F[i] := (List.takeWhile_prefix _).getElem h
  rw [h3] at h2
  simpa [List.getD, hi] using h2
theorem whereS_at {F : List FileS} {n : ByteArray} (h : whereS F n < F.length) : nlt n (F.getD (whereS F n) zfile).name = true := by
  have h1 := List.takeWhile_append_dropWhile (p := fun g : FileS => !nlt n g.name) (l := F)
  have hne : F.dropWhile (fun g => !nlt n g.name) ≠ [] := fun e => by
    rw [e, List.append_nil] at h1
    unfold whereS at h
    rw [h1] at h
    omega
  have h2 := List.head_dropWhile_not (p := fun g : FileS => !nlt n g.name) (l := F) hne
  have h3 : F[whereS F n] = (F.dropWhile fun g => !nlt n g.name).head hne := by
    have h4 : F[whereS F n]? = (F.dropWhile fun g => !nlt n g.name)[0]? := by
      conv => lhs; arg 1; rw [← h1]
      unfold whereS
      rw [List.getElem?_append_right (Nat.le_refl _), Nat.sub_self]
    rw [List.getElem?_eq_getElem h, ← List.head?_eq_getElem?, List.head?_eq_some_head hne] at h4
    exact Option.some.inj h4
  rw [← h3] at h2
  simpa [List.getD, h] using h2
section
variable {α : Type} {k i : Nat} {x : α} {l : List α}
theorem putI_len (hk : k ≤ l.length) : (putI k x l).length = l.length + 1 := by
  unfold putI
  rw [List.length_append, List.length_cons, List.length_take, List.length_drop]
  omega
theorem putI_at (z : α) (hk : k ≤ l.length) (hi : i < l.length + 1) : (i = k ∧ (putI k x l).getD i z = x) ∨ (i < k ∧ (putI k x l).getD i z = l.getD i z) ∨ (k < i ∧ (putI k x l).getD i z = l.getD (i - 1) z) := by
  unfold putI
  rcases Nat.lt_trichotomy i k with h | h | h
  · refine .inr (.inl ⟨h, ?_⟩)
    simp only [List.getD]
    rw [List.getElem?_append_left (by rw [List.length_take]; omega), List.getElem?_take_of_lt h]
  · refine .inl ⟨h, ?_⟩
    simp only [List.getD]
    rw [List.getElem?_append_right (by rw [List.length_take]; omega), List.length_take, show i - min k l.length = 0 by omega]
    rfl
  · refine .inr (.inr ⟨h, ?_⟩)
    simp only [List.getD]
    rw [List.getElem?_append_right (by rw [List.length_take]; omega), List.length_take, show i - min k l.length = (i - 1 - k) + 1 by omega, List.getElem?_cons_succ, List.getElem?_drop, show k + (i - 1 - k) = i - 1 by omega]
theorem take_snoc (z : α) (hi : i < l.length) : l.take (i + 1) = l.take i ++ [l.getD i z] := by
  rw [List.take_add_one, List.getElem?_eq_getElem hi]
  simp [List.getD, hi]
theorem putI_snoc (z : α) (hk : k ≤ i) (hi : i < l.length) : putI k x (l.take (i + 1)) = putI k x (l.take i) ++ [l.getD i z] := by
  rw [take_snoc z hi]
  unfold putI
  rw [List.take_append_of_le_length (by rw [List.length_take]; omega), List.drop_append_of_le_length (by rw [List.length_take]; omega)]
  simp
theorem putI_end (hk : l.length = k) : putI k x l = l ++ [x] := by
  unfold putI
  rw [List.take_of_length_le (by omega), List.drop_of_length_le (by omega)]
end

/-- Where the loop stands. -/
def InSt {α : Type} (k : Nat) (x : α) (l : List α) (i : Nat) (dn : Bool) (lx : List α) : Prop := (dn = false ∧ i ≤ k ∧ lx = l.take i) ∨ (dn = true ∧ k < i ∧ lx = putI k x (l.take i))
attribute [local go_sem] binOp_string_gtr13

set_option maxHeartbeats 2000000 in
theorem rIn13_any (bd : Nat) (v : Value) (l : List FileV) (d : DiskS) (O : Nat → Prop) (fv : FileV) (f : FileS) (w : World) (h : RefAt w O bd v l d) (hF : d.F.length ≤ 1000000) (hf : ByteIn w O (fun k => k = bd) fv f) :
    Calls Try.prog 43 #[.pointer (some ⟨bd, 0, none⟩), .agg #[.string fv.name, .slice fv.a fv.n fv.c, .int .i64 fv.sure]] w fun e w' => e = .returned (.tuple #[]) ∧ RefPostB w O bd { d with F := inS d.F f } w' := by
  obtain ⟨a, c, rfl⟩ := h.form
  obtain ⟨w1, hw1⟩ : ∃ w1, w1 = w.alloc (.cells #[.string fv.name, .slice fv.a fv.n fv.c, .int .i64 fv.sure] 51) := ⟨_, rfl⟩
  have hb1 : Below w.heap.size w w1 := by rw [hw1]; exact (Below.refl _ _).alloc (Nat.le_refl _) _
  have hz1 : w1.heap.size = w.heap.size + 1 := by rw [hw1]; simp
  have hx : ∀ j y, [Value.string fv.name, .slice fv.a fv.n fv.c, .int .i64 fv.sure][j]? = some y → w1.cell? ⟨w.heap.size, j, none⟩ = some y := fun j y hj => by
    rw [hw1]
    have := three_cell w (.string fv.name) (.slice fv.a fv.n fv.c) (.int .i64 fv.sure) 51 j y hj
    rwa [Row.add, Nat.zero_add] at this
  obtain ⟨q0, _, _, _⟩ := h.cells
  have HX0 := Lib.hid (hx 0 _ rfl)
  have HX1 := Lib.hid (hx 1 _ rfl)
  have HX2 := Lib.hid (hx 2 _ rfl)
  have f0 := h.frozen 0
  have hat := h.own.at
  have HC := Lib.hid hat.2.2.2
  have hnc := hat.2.1
  have HL := Lib.hid h.len
  have HR := Lib.hid h
  have HV := Lib.hid hf
  have hcm := hat.2.2.1
  have hbd := h.lt bd h.obd
  have hln := h.len
  unfold maxLen at hcm
  obtain ⟨i1, hi1, hy0, hy1, hy2⟩ := info_parts info_file
  have HW1 := Lib.hid hw1
  have HZ1 := Lib.hid hz1
  have HB1 := Lib.hid hb1
  have hkl := whereS_le d.F f.name
  have HKL := Lib.hid fun i (hi : i < whereS d.F f.name) => whereS_lt hi
  have HKA := Lib.hid fun (hi : whereS d.F f.name < d.F.length) => whereS_at hi
  have HP := Lib.hid (inS_put d.F f)
  have HNM : Hid (fv.name = f.name) := hf.name
  generalize whereS d.F f.name = k at *
  clear hat h hx hw1 hz1 hb1 hf
  generalize hN : d.F.length = N at *
  have HN := Lib.hid hN
  clear hN
  go_enter Try.func43, Try.ntmps43
  go_wp2_with fail
  rw [← HW1.out]
  go_loopg [4, 5, 6] N (fun gg v4 v5 v6 wr => ∃ (i : Nat) (dn : Bool) (lx : List FileV), i + gg = N ∧ v6 = .int .i64 i ∧ v5 = .bool dn ∧ Hid (InSt k fv l i dn lx) ∧ Hid (OwnFs wr (w.heap.size + 1) 51 v4 lx) ∧ Hid (Below (w.heap.size + 1) w1 wr))
  case atStart => exact ⟨0, false, [], by omega, rfl, rfl, .inl ⟨rfl, Nat.zero_le _, by simp⟩, OwnFs.nil _ _ _, Below.refl _ _⟩
  case round =>
    obtain ⟨i, dn, lx, hig, rfl, rfl, HD, HO, HB⟩ := hrel
    have HZR : Hid (w.heap.size + 1 ≤ wr.heap.size) := by have := HB.out.size; have := HZ1.out; unfold Hid; omega
    have HBW : Hid (Below w.heap.size w wr) := HB1.out.trans (HB.out.mono (by omega))
    have q0r := (Below.cell (p := ⟨bd, 0, none⟩) HBW.out hbd).trans q0
    have x0 := (Below.cell (p := ⟨w.heap.size, 0, none⟩) HB.out (Nat.lt_succ_self _)).trans HX0.out
    have x1 := (Below.cell (p := ⟨w.heap.size, 1, none⟩) HB.out (Nat.lt_succ_self _)).trans HX1.out
    have x2 := (Below.cell (p := ⟨w.heap.size, 2, none⟩) HB.out (Nat.lt_succ_self _)).trans HX2.out
    by_cases hi : i < N
    · have hii : (i : Int) < (N : Int) := by omega
      have d1 : decide ((i : Int) < (N : Int)) = true := by rw [decide_eq_true_eq]; exact hii
      obtain ⟨lb, rfl, _, hlb, hcs, _⟩ := HC.out (by omega)
      have HNI : Hid ((l.getD i zfv).name = (d.F.getD i zfile).name) := (HR.out.like i (by omega)).name
      have HC0 := Lib.hid ((hcs i hi).1.trans (by rw [HNI.out]))
      have HC1 := Lib.hid (hcs i hi).2.1
      have HC2 := Lib.hid (hcs i hi).2.2
      have hc0 := (Below.cell (p := ⟨lb, i * 3, none⟩) HBW.out hlb).trans HC0.out
      have hc1 := (Below.cell (p := ⟨lb, i * 3 + 1, none⟩) HBW.out hlb).trans HC1.out
      have hc2 := (Below.cell (p := ⟨lb, i * 3 + 2, none⟩) HBW.out hlb).trans HC2.out
      have HT : Hid (l.take (i + 1) = l.take i ++ [l.getD i zfv]) := take_snoc zfv (by omega)
      have HPS : Hid (k ≤ i → putI k fv (l.take (i + 1)) = putI k fv (l.take i) ++ [l.getD i zfv]) := fun h => putI_snoc zfv h (by omega)
      have HTL : Hid ((l.take i).length = i) := by unfold Hid; rw [List.length_take]; omega
      have HGT : Hid (i < k → nlt fv.name (d.F.getD i zfile).name = false) := fun h => by rw [HNM.out]; exact HKL.out i h
      have HGE : Hid (i = k → nlt fv.name (d.F.getD i zfile).name = true) := fun h => by rw [HNM.out, h]; exact HKA.out (by omega)
      have HDX := HD.out
      unfold InSt at HDX
      clear hcs
      generalize l.getD i zfv = g at *
      generalize l.take i = lt at *
      generalize (d.F.getD i zfile).name = nm at *
      have HGN : Hid (g.name = nm) := HNI.out
      cases dn with
      | true =>
        have hk : k < i ∧ lx = putI k fv lt := by
          rcases HDX with ⟨h, _⟩ | ⟨_, h⟩
          · cases h
          · exact h
        clear HDX
        obtain ⟨hki, rfl⟩ := hk
        have LOQ : Hid ((putI k fv lt).length ≤ 1000001) := by unfold Hid; rw [putI_len (by have := HTL.out; omega), HTL.out]; omega
        go_wp2_with fail
        go_quiet (fail)
        have OQ : Hid (OwnFs (wr.drewN nq) (w.heap.size + 1) 51 u4 (putI k fv lt)) := HO.out.calls (below_drewN (Below.refl _ _) nq)
        have BOQ : Hid (Below (w.heap.size + 1) w1 (wr.drewN nq)) := below_drewN HB.out nq
        have HWOQ : Hid (Below w.heap.size w (wr.drewN nq)) := HB1.out.trans (BOQ.out.mono (by omega))
        have ZOQ : Hid (w.heap.size + 1 ≤ (wr.drewN nq).heap.size) := HZR.out
        clear q0r x0 x1 x2 hc0 hc1 hc2
        generalize wr.drewN nq = wOQ at *
        have q0r := (Below.cell (p := ⟨bd, 0, none⟩) HWOQ.out hbd).trans q0
        have x0 := (Below.cell (p := ⟨w.heap.size, 0, none⟩) BOQ.out (Nat.lt_succ_self _)).trans HX0.out
        have x1 := (Below.cell (p := ⟨w.heap.size, 1, none⟩) BOQ.out (Nat.lt_succ_self _)).trans HX1.out
        have x2 := (Below.cell (p := ⟨w.heap.size, 2, none⟩) BOQ.out (Nat.lt_succ_self _)).trans HX2.out
        have hc0 := (Below.cell (p := ⟨lb, i * 3, none⟩) HWOQ.out hlb).trans HC0.out
        have hc1 := (Below.cell (p := ⟨lb, i * 3 + 1, none⟩) HWOQ.out hlb).trans HC1.out
        have hc2 := (Below.cell (p := ⟨lb, i * 3 + 2, none⟩) HWOQ.out hlb).trans HC2.out
        rw [← HGN.out] at hc0
        go_wp2_with (at_builtin; (refine wpList_append_own _ rfl (.tmp 35) (.tmp 43) 47 rfl (w.heap.size + 1) 51 i1 (.agg #[.string ⟨#[]⟩, .slice none 0 0, .int .i64 0]) 3 48 Try.underlying47 hi1 hy0 hy1 hy2 rfl (by decide) _ _ _ rfl (World.ownsRow.alloc OQ.out _) ⟨(wOQ).heap.size, 0, none⟩ 1 1 [.string g.name, .slice g.a g.n g.c, .int .i64 g.sure] rfl rfl (three_cell _ _ _ _ _) (by simp [Value.oneCell']) (by have := LOQ.out; simp only [maxLen]; omega) (by have := LOQ.out; omega) (by have := ZOQ.out; simp only [World.size_alloc]; omega) ?_; intro vR9 wR9 hownR9 hgrowR9 _))
        have R9 : Hid (OwnFs wR9 (w.heap.size + 1) 51 vR9 (putI k fv lt ++ [g])) := OwnFs.push hownR9
        have BR9 : Hid (Below (w.heap.size + 1) w1 wR9) := (BOQ.out.alloc ZOQ.out _).grown hgrowR9 (by have := ZOQ.out; simp only [World.size_alloc]; omega) (fun k hk => (World.ownsRow.lt OQ.out k hk).1)
        have ZR9 : Hid (w.heap.size + 1 ≤ wR9.heap.size) := by have := BR9.out.size; have := HZ1.out; unfold Hid; omega
        clear hownR9 hgrowR9
        have HDN : Hid (InSt k fv l (i + 1) true (putI k fv lt ++ [g])) := .inr ⟨rfl, by omega, (HPS.out (by omega)).symm⟩
        go_wp2_with fail
        go_roundg (gk - 1)
        case rel => exact ⟨i + 1, true, _, by omega, by first | rfl | go_num, rfl, HDN, R9, BR9⟩
        case measure => omega
      | false =>
        have hk : i ≤ k ∧ lx = lt := by
          rcases HDX with ⟨_, h⟩ | ⟨h, _⟩
          · exact h
          · cases h
        clear HDX
        obtain ⟨hki, rfl⟩ := hk
        have LOQ : Hid (lx.length ≤ 1000001) := by unfold Hid; rw [HTL.out]; omega
        by_cases hik : i = k
        · have hgr := HGE.out hik
          have HIK := Lib.hid hik
          clear hik
          go_wp2_with fail
          go_quiet (fail)
          have OQ : Hid (OwnFs (wr.drewN nq) (w.heap.size + 1) 51 u4 lx) := HO.out.calls (below_drewN (Below.refl _ _) nq)
          have BOQ : Hid (Below (w.heap.size + 1) w1 (wr.drewN nq)) := below_drewN HB.out nq
          have HWOQ : Hid (Below w.heap.size w (wr.drewN nq)) := HB1.out.trans (BOQ.out.mono (by omega))
          have ZOQ : Hid (w.heap.size + 1 ≤ (wr.drewN nq).heap.size) := HZR.out
          clear q0r x0 x1 x2 hc0 hc1 hc2
          generalize wr.drewN nq = wOQ at *
          have q0r := (Below.cell (p := ⟨bd, 0, none⟩) HWOQ.out hbd).trans q0
          have x0 := (Below.cell (p := ⟨w.heap.size, 0, none⟩) BOQ.out (Nat.lt_succ_self _)).trans HX0.out
          have x1 := (Below.cell (p := ⟨w.heap.size, 1, none⟩) BOQ.out (Nat.lt_succ_self _)).trans HX1.out
          have x2 := (Below.cell (p := ⟨w.heap.size, 2, none⟩) BOQ.out (Nat.lt_succ_self _)).trans HX2.out
          go_wp2_with (at_builtin; (first | (refine wpList_append_own _ rfl (.tmp 31) (.tmp 33) 47 rfl (w.heap.size + 1) 51 i1 (.agg #[.string ⟨#[]⟩, .slice none 0 0, .int .i64 0]) 3 48 Try.underlying47 hi1 hy0 hy1 hy2 rfl (by decide) _ _ _ rfl (World.ownsRow.alloc OQ.out _) ⟨(wOQ).heap.size, 0, none⟩ 1 1 [.string fv.name, .slice fv.a fv.n fv.c, .int .i64 fv.sure] rfl rfl (three_cell _ _ _ _ _) (by simp [Value.oneCell']) (by have := LOQ.out; simp only [maxLen]; omega) (by have := LOQ.out; omega) (by have := ZOQ.out; simp only [World.size_alloc]; omega) ?_; intro vR7 wR7 hownR7 hgrowR7 _; have R7 : Hid (OwnFs wR7 (w.heap.size + 1) 51 vR7 (lx ++ [fv])) := OwnFs.push hownR7; have BR7 : Hid (Below (w.heap.size + 1) w1 wR7) := (BOQ.out.alloc ZOQ.out _).grown hgrowR7 (by have := ZOQ.out; simp only [World.size_alloc]; omega) (fun k hk => (World.ownsRow.lt OQ.out k hk).1); have ZR7 : Hid (w.heap.size + 1 ≤ wR7.heap.size) := (by have := BR7.out.size; have := HZ1.out; unfold Hid; omega); have LR7 : Hid ((lx ++ [fv]).length ≤ 1000001) := (by unfold Hid; rw [List.length_append, HTL.out]; simp; omega); have HWR7 : Hid (Below w.heap.size w wR7) := HB1.out.trans (BR7.out.mono (by omega)); clear hownR7 hgrowR7 q0r x0 x1 x2; have q0r := (Below.cell (p := ⟨bd, 0, none⟩) HWR7.out hbd).trans q0; have x0 := (Below.cell (p := ⟨w.heap.size, 0, none⟩) BR7.out (Nat.lt_succ_self _)).trans HX0.out; have x1 := (Below.cell (p := ⟨w.heap.size, 1, none⟩) BR7.out (Nat.lt_succ_self _)).trans HX1.out; have x2 := (Below.cell (p := ⟨w.heap.size, 2, none⟩) BR7.out (Nat.lt_succ_self _)).trans HX2.out; have hc0 := (Below.cell (p := ⟨lb, i * 3, none⟩) HWR7.out hlb).trans HC0.out; have hc1 := (Below.cell (p := ⟨lb, i * 3 + 1, none⟩) HWR7.out hlb).trans HC1.out; have hc2 := (Below.cell (p := ⟨lb, i * 3 + 2, none⟩) HWR7.out hlb).trans HC2.out; rw [← HGN.out] at hc0) | (refine wpList_append_own _ rfl (.tmp 35) (.tmp 43) 47 rfl (w.heap.size + 1) 51 i1 (.agg #[.string ⟨#[]⟩, .slice none 0 0, .int .i64 0]) 3 48 Try.underlying47 hi1 hy0 hy1 hy2 rfl (by decide) _ _ _ rfl (World.ownsRow.alloc R7.out _) ⟨(wR7).heap.size, 0, none⟩ 1 1 [.string g.name, .slice g.a g.n g.c, .int .i64 g.sure] rfl rfl (three_cell _ _ _ _ _) (by simp [Value.oneCell']) (by have := LR7.out; simp only [maxLen]; omega) (by have := LR7.out; omega) (by have := ZR7.out; simp only [World.size_alloc]; omega) ?_; intro vR9 wR9 hownR9 hgrowR9 _)))
          have R9 : Hid (OwnFs wR9 (w.heap.size + 1) 51 vR9 ((lx ++ [fv]) ++ [g])) := OwnFs.push hownR9
          have BR9 : Hid (Below (w.heap.size + 1) w1 wR9) := (BR7.out.alloc ZR7.out _).grown hgrowR9 (by have := ZR7.out; simp only [World.size_alloc]; omega) (fun k hk => (World.ownsRow.lt R7.out k hk).1)
          have ZR9 : Hid (w.heap.size + 1 ≤ wR9.heap.size) := by have := BR9.out.size; have := HZ1.out; unfold Hid; omega
          clear hownR9 hgrowR9
          have HDN : Hid (InSt k fv l (i + 1) true ((lx ++ [fv]) ++ [g])) := .inr ⟨rfl, by have := HIK.out; omega, by rw [HPS.out (by have := HIK.out; omega), putI_end (by rw [HTL.out]; exact HIK.out)]⟩
          go_wp2_with fail
          go_roundg (gk - 1)
          case rel => exact ⟨i + 1, true, _, by omega, by first | rfl | go_num, rfl, HDN, R9, BR9⟩
          case measure => omega
        · have hgr := HGT.out (by omega)
          have HIK : Hid (i < k) := by unfold Hid; omega
          clear hik
          go_wp2_with fail
          go_quiet (fail)
          have OQ : Hid (OwnFs (wr.drewN nq) (w.heap.size + 1) 51 u4 lx) := HO.out.calls (below_drewN (Below.refl _ _) nq)
          have BOQ : Hid (Below (w.heap.size + 1) w1 (wr.drewN nq)) := below_drewN HB.out nq
          have HWOQ : Hid (Below w.heap.size w (wr.drewN nq)) := HB1.out.trans (BOQ.out.mono (by omega))
          have ZOQ : Hid (w.heap.size + 1 ≤ (wr.drewN nq).heap.size) := HZR.out
          clear q0r x0 x1 x2 hc0 hc1 hc2
          generalize wr.drewN nq = wOQ at *
          have q0r := (Below.cell (p := ⟨bd, 0, none⟩) HWOQ.out hbd).trans q0
          have x0 := (Below.cell (p := ⟨w.heap.size, 0, none⟩) BOQ.out (Nat.lt_succ_self _)).trans HX0.out
          have x1 := (Below.cell (p := ⟨w.heap.size, 1, none⟩) BOQ.out (Nat.lt_succ_self _)).trans HX1.out
          have x2 := (Below.cell (p := ⟨w.heap.size, 2, none⟩) BOQ.out (Nat.lt_succ_self _)).trans HX2.out
          have hc0 := (Below.cell (p := ⟨lb, i * 3, none⟩) HWOQ.out hlb).trans HC0.out
          have hc1 := (Below.cell (p := ⟨lb, i * 3 + 1, none⟩) HWOQ.out hlb).trans HC1.out
          have hc2 := (Below.cell (p := ⟨lb, i * 3 + 2, none⟩) HWOQ.out hlb).trans HC2.out
          rw [← HGN.out] at hc0
          go_wp2_with (at_builtin; (refine wpList_append_own _ rfl (.tmp 35) (.tmp 43) 47 rfl (w.heap.size + 1) 51 i1 (.agg #[.string ⟨#[]⟩, .slice none 0 0, .int .i64 0]) 3 48 Try.underlying47 hi1 hy0 hy1 hy2 rfl (by decide) _ _ _ rfl (World.ownsRow.alloc OQ.out _) ⟨(wOQ).heap.size, 0, none⟩ 1 1 [.string g.name, .slice g.a g.n g.c, .int .i64 g.sure] rfl rfl (three_cell _ _ _ _ _) (by simp [Value.oneCell']) (by have := LOQ.out; simp only [maxLen]; omega) (by have := LOQ.out; omega) (by have := ZOQ.out; simp only [World.size_alloc]; omega) ?_; intro vR9 wR9 hownR9 hgrowR9 _))
          have R9 : Hid (OwnFs wR9 (w.heap.size + 1) 51 vR9 (lx ++ [g])) := OwnFs.push hownR9
          have BR9 : Hid (Below (w.heap.size + 1) w1 wR9) := (BOQ.out.alloc ZOQ.out _).grown hgrowR9 (by have := ZOQ.out; simp only [World.size_alloc]; omega) (fun k hk => (World.ownsRow.lt OQ.out k hk).1)
          have ZR9 : Hid (w.heap.size + 1 ≤ wR9.heap.size) := by have := BR9.out.size; have := HZ1.out; unfold Hid; omega
          clear hownR9 hgrowR9
          have HDN : Hid (InSt k fv l (i + 1) false (lx ++ [g])) := .inl ⟨rfl, by have := HIK.out; omega, HT.out.symm⟩
          go_wp2_with fail
          go_roundg (gk - 1)
          case rel => exact ⟨i + 1, false, _, by omega, by first | rfl | go_num, rfl, HDN, R9, BR9⟩
          case measure => omega
    · obtain rfl : i = N := by omega
      have d1 : decide ((i : Int) < (i : Int)) = false := by simp
      have HTA : Hid (l.take i = l) := by unfold Hid; rw [← HL.out, List.take_length]
      have HPT : Hid (∀ V vv, Below w.heap.size w V → OwnFs V (w.heap.size + 1) 51 vv (putI k fv l) → RefPostB w O bd { d with F := inS d.F f } (V.setCell ⟨bd, 0, none⟩ vv)) := fun V vv hV hO => by
        rw [HP.out]
        refine repl_post (HR.out.repl (F := putI k f d.F) hV (hO.mono (by omega)) (by rw [putI_len (by omega), putI_len (by rw [HN.out]; exact hkl), HN.out, HL.out]) (fun j hj => ?_))
        rw [putI_len (by omega)] at hj
        rcases putI_at (x := fv) zfv (show k ≤ l.length by omega) hj with ⟨h1, h2⟩ | ⟨h1, h2⟩ | ⟨h1, h2⟩ <;> rcases putI_at (x := f) (l := d.F) (k := k) (i := j) zfile (by rw [HN.out]; exact hkl) (by rw [HN.out, ← HL.out]; exact hj) with ⟨g1, g2⟩ | ⟨g1, g2⟩ | ⟨g1, g2⟩ <;> first | omega | skip
        · rw [h2, g2]; exact HV.out
        · rw [h2, g2]; exact (HR.out.like j (by omega)).sub (fun k hk => .inl hk)
        · rw [h2, g2]; exact (HR.out.like (j - 1) (by omega)).sub (fun k hk => .inl hk)
      have f0r : wr.frozen? ⟨bd, 0, none⟩ = false := (Below.frozen (p := ⟨bd, 0, none⟩) HBW.out hbd).trans f0
      cases dn with
      | true =>
        have hk : lx = putI k fv l := by
          rcases HD.out with ⟨h, _⟩ | ⟨_, _, h⟩
          · cases h
          · rw [HTA.out] at h; exact h
        subst hk
        have hRP := HPT.out wr u4 HBW.out HO.out
        obtain ⟨a4, c4, rfl⟩ := HO.out.slice
        have HRP := Lib.hid hRP
        clear hRP
        generalize (putI k fv l).length = n4 at *
        go_wp2_with fail
        go_end0
        exact ⟨rfl, HRP.out⟩
      | false =>
        have hk : i ≤ k ∧ lx = l := by
          rcases HD.out with ⟨_, h⟩ | ⟨h, _⟩
          · rw [HTA.out] at h; exact h
          · cases h
        obtain ⟨hki, rfl⟩ := hk
        have LHO : Hid (lx.length ≤ 1000001) := by unfold Hid; rw [HL.out]; omega
        have BHO : Hid (Below (w.heap.size + 1) w1 wr) := HB.out
        have ZHO : Hid (w.heap.size + 1 ≤ wr.heap.size) := HZR.out
        go_wp2_with (at_builtin; (refine wpList_append_own _ rfl (.tmp 47) (.tmp 49) 47 rfl (w.heap.size + 1) 51 i1 (.agg #[.string ⟨#[]⟩, .slice none 0 0, .int .i64 0]) 3 48 Try.underlying47 hi1 hy0 hy1 hy2 rfl (by decide) _ _ _ rfl (World.ownsRow.alloc HO.out _) ⟨(wr).heap.size, 0, none⟩ 1 1 [.string fv.name, .slice fv.a fv.n fv.c, .int .i64 fv.sure] rfl rfl (three_cell _ _ _ _ _) (by simp [Value.oneCell']) (by have := LHO.out; simp only [maxLen]; omega) (by have := LHO.out; omega) (by have := ZHO.out; simp only [World.size_alloc]; omega) ?_; intro vR9 wR9 hownR9 hgrowR9 _; have R9 : Hid (OwnFs wR9 (w.heap.size + 1) 51 vR9 (lx ++ [fv])) := OwnFs.push hownR9; have BR9 : Hid (Below (w.heap.size + 1) w1 wR9) := (BHO.out.alloc ZHO.out _).grown hgrowR9 (by have := ZHO.out; simp only [World.size_alloc]; omega) (fun k hk => (World.ownsRow.lt HO.out k hk).1); have HW9 : Hid (Below w.heap.size w wR9) := HB1.out.trans (BR9.out.mono (by omega)); have HRP : Hid (RefPostB w O bd { d with F := inS d.F f } (wR9.setCell ⟨bd, 0, none⟩ vR9)) := HPT.out wR9 vR9 HW9.out (by rw [putI_end (by omega)]; exact R9.out); obtain ⟨a4, c4, hv4⟩ := R9.out.slice; rw [show (lx ++ [fv]).length = i + 1 by rw [List.length_append, HL.out]; rfl] at hv4; subst hv4; have f0s : wR9.frozen? ⟨bd, 0, none⟩ = false := (Below.frozen (p := ⟨bd, 0, none⟩) HW9.out hbd).trans f0; have q0s := (Below.cell (p := ⟨bd, 0, none⟩) HW9.out hbd).trans q0; clear hownR9 hgrowR9 q0r x0 x1 x2 f0r))
        go_end0
        exact ⟨rfl, HRP.out⟩
end Go.Proofs.Ytkfjbpcngmipnaa.Vm
