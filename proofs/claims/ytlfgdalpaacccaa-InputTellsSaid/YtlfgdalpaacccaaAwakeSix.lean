/- The contract of tuggerlaw06.awake. -/
import Derived.Test.YtlfgdalpaacccaaInAlls
import Derived.Test.YtlfgdalpaacccaaStNews
namespace Go.Proofs.Ytlfgdalpaacccaa.Vm
open Go Go.RowKit

abbrev mapA : ByteArray := ⟨#[46, 46, 46]⟩
theorem floorA (k : Nat) (h : k < 3) : floorS (bytesOf mapA) (k : Int) = true := by
  have : ∀ k : Fin 3, floorS (bytesOf mapA) (k.val : Int) = true := by decide +kernel
  exact this ⟨k, h⟩
theorem newA1 : newE (floorS (bytesOf mapA)) [0] = 0 := by decide +kernel
def rA : List Rec := [⟨0, 0, 0, 1000, 0⟩]
def rA1 : List Rec := [⟨0, 4, 0, 1000, 0⟩]
def tA : List Rec := [⟨4, 1, 2, 1, -1⟩]
theorem newSA : newS (floorS (bytesOf mapA)) [0] = ⟨0, rA, [], []⟩ := by unfold newS; rw [if_pos newA1]; rfl
theorem rightA : RightP (floorS (bytesOf mapA)) ⟨0, rA, [], []⟩ := by
  have := new_right newA1
  rwa [newSA] at this
def lA : List Inp := [⟨1, 4, 1, 2⟩, ⟨1, 4, 0, 2⟩, ⟨2, 0, 0, 0⟩, ⟨5, 2, 0, 0⟩, ⟨9, 0, 0, 0⟩]
section
variable {fl : Int → Bool} (h0 : fl 0 = true) (h1 : fl 1 = true) (h2 : fl 2 = true)
include h1 h2 in
theorem stepA1 : codeS fl ⟨0, rA, [], []⟩ ⟨1, 4, 1, 2⟩ = 0 := by
  have hf : findS [] 4 = -1 := findS_no (by simp)
  simp [codeS, codeO, h1, h2, hf]
include h0 h2 in
theorem stepA2 : codeS fl ⟨0, rA, tA, []⟩ ⟨1, 4, 0, 2⟩ = 6 := by
  have hf : findS tA 4 = 0 := by decide +kernel
  simp [codeS, codeO, h0, h2, hf]
theorem isRA (ts : List Rec) (bl : List Int) (rs : List Rec) (hl : rs.length = 1) : IsR ⟨0, rs, ts, bl⟩ 0 := ⟨by omega, by simp [hl]⟩
theorem stepA3 : codeS fl ⟨0, rA, tA, []⟩ ⟨2, 0, 0, 0⟩ = 0 := by
  have h := codeF_yes (s := ⟨0, rA, tA, []⟩) (x := ⟨2, 0, 0, 0⟩) (isRA _ _ _ rfl)
  show codeS fl _ _ = 0
  unfold codeS
  rw [if_neg (by simp), if_pos rfl, h]
  rfl
include h2 in
theorem stepA4 : codeS fl ⟨0, rA1, tA, []⟩ ⟨5, 2, 0, 0⟩ = 0 := by
  simp [codeS, codeB, h2]
theorem stepA5 : codeS fl ⟨0, rA1, tA, [2]⟩ ⟨9, 0, 0, 0⟩ = 3 := by
  simp [codeS]
theorem stepA6 : codeS fl ⟨0, rA1, tA, [2]⟩ ⟨3, 0, 0, 0⟩ = 0 := by
  have h := codeR_yes (s := ⟨0, rA1, tA, [2]⟩) (x := ⟨3, 0, 0, 0⟩) (isRA _ _ _ rfl)
  unfold codeS
  rw [if_neg (by simp), if_neg (by simp), if_pos rfl, h]
  rfl
include h0 h1 h2 in
theorem allA : allS fl ⟨0, rA, [], []⟩ lA = ⟨0, rA1, tA, [2]⟩ ∧ codesS fl ⟨0, rA, [], []⟩ lA = [0, 6, 0, 0, 3] := by
  have a1 : applyS fl ⟨0, rA, [], []⟩ ⟨1, 4, 1, 2⟩ = ⟨0, rA, tA, []⟩ := by unfold applyS; rw [if_pos (stepA1 h1 h2)]; rfl
  have a2 : applyS fl ⟨0, rA, tA, []⟩ ⟨1, 4, 0, 2⟩ = ⟨0, rA, tA, []⟩ := by unfold applyS; rw [if_neg (by rw [stepA2 h0 h2]; simp)]
  have a3 : applyS fl ⟨0, rA, tA, []⟩ ⟨2, 0, 0, 0⟩ = ⟨0, rA1, tA, []⟩ := by unfold applyS; rw [if_pos stepA3]; rfl
  have a4 : applyS fl ⟨0, rA1, tA, []⟩ ⟨5, 2, 0, 0⟩ = ⟨0, rA1, tA, [2]⟩ := by unfold applyS; rw [if_pos (stepA4 h2)]; rfl
  have a5 : applyS fl ⟨0, rA1, tA, [2]⟩ ⟨9, 0, 0, 0⟩ = ⟨0, rA1, tA, [2]⟩ := by unfold applyS; rw [if_neg (by rw [stepA5]; simp)]
  constructor
  · simp only [lA, allS, a1, a2, a3, a4, a5]
  · simp only [lA, codesS, a1, a2, a3, a4, stepA1 h1 h2, stepA2 h0 h2, stepA3, stepA4 h2, stepA5]
theorem lastA : applyS fl ⟨0, rA1, tA, [2]⟩ ⟨3, 0, 0, 0⟩ = ⟨0, rA, tA, [2]⟩ := by unfold applyS; rw [if_pos stepA6]; rfl
end
theorem mapA_len : mapA.size ≤ maxLen := by unfold maxLen; decide
theorem fA0 : floorS (bytesOf mapA) 0 = true := floorA 0 (by omega)
theorem fA1 : floorS (bytesOf mapA) 1 = true := floorA 1 (by omega)
theorem fA2 : floorS (bytesOf mapA) 2 = true := floorA 2 (by omega)

theorem awA_new (a : Option Addr) (B : Nat) (w : World) (hr : RowZ .i64 w B a 1 1 [0]) (hB : B ≤ w.heap.size) :
    Calls Try.prog 16 #[gridV 3 1 mapA, .slice a 1 1] w fun e w' => ∃ h' : Sh, e = .returned (.tuple #[shV h', .int .i64 0]) ∧ CopyIn w' w.heap.size h' ⟨0, rA, [], []⟩ ∧ Below w.heap.size w w' :=
  (new_any 3 1 mapA a 1 1 B [0] w mapA_len hr hB).mono fun e w' ⟨h', he, hc, hb⟩ => by
    rw [newA1] at he
    rw [newSA] at hc
    exact ⟨h', he, hc, hb⟩
theorem awA_all (h : Sh) (a : Option Addr) (B : Nat) (w : World) (hin : StIn w B h ⟨0, rA, [], []⟩) (hl : RowI w B a 5 5 lA) (hB : B ≤ w.heap.size) :
    Calls Try.prog 8 #[gridV 3 1 mapA, shV h, .slice a 5 5] w fun e w' => ∃ h' cb, e = .returned (.tuple #[shV h', .slice (some ⟨cb, 0, none⟩) 5 5]) ∧ CopyIn w' w.heap.size h' ⟨0, rA1, tA, [2]⟩ ∧ RowZ .i64 w' w'.heap.size (some ⟨cb, 0, none⟩) 5 5 [0, 6, 0, 0, 3] ∧ Below w.heap.size w w' := by
  have h1 := bigAll_any 3 1 mapA h _ a 5 5 lA B w mapA_len hin hl hB rightA (by simp) (by omega)
  rw [(allA fA0 fA1 fA2).1, (allA fA0 fA1 fA2).2] at h1
  exact h1
theorem awA_apply (h : Sh) (B : Nat) (w : World) (hin : StIn w B h ⟨0, rA1, tA, [2]⟩) (hB : B ≤ w.heap.size) :
    Calls Try.prog 12 #[gridV 3 1 mapA, shV h, inpV ⟨3, 0, 0, 0⟩] w fun e w' => ∃ h', e = .returned (.tuple #[shV h', .int .i64 0]) ∧ CopyIn w' w.heap.size h' ⟨0, rA, tA, [2]⟩ ∧ Below w.heap.size w w' := by
  have hr : RightP (floorS (bytesOf mapA)) ⟨0, rA1, tA, [2]⟩ := by
    have := all_right (floorS (bytesOf mapA)) lA _ rightA
    rwa [(allA fA0 fA1 fA2).1] at this
  have h1 := bigApply_any 3 1 mapA h _ ⟨3, 0, 0, 0⟩ B w mapA_len hin hB hr (by simp)
  rw [stepA6, lastA] at h1
  exact h1
theorem rowI_lit (w : World) (l : List Inp) (t : TypeId) (cs : Array Value) (hl : l.length ≤ 1000) (hc : ∀ i, i < l.length → cs[i * 4]? = some (.int .i64 (l.getD i zx).k) ∧ cs[i * 4 + 1]? = some (.int .i64 (l.getD i zx).a) ∧ cs[i * 4 + 2]? = some (.int .i64 (l.getD i zx).b) ∧ cs[i * 4 + 3]? = some (.int .i64 (l.getD i zx).c)) :
    RowI (w.alloc (.cells cs t)) (w.heap.size + 1) (some ⟨w.heap.size, 0, none⟩) l.length l.length l := by
  refine ⟨rfl, Nat.le_refl _, by unfold maxLen; omega, fun _ => ⟨_, 0, rfl, Nat.lt_succ_self _, fun i hi => ?_⟩⟩
  rw [Nat.zero_add]
  have hcell : ∀ j, (w.alloc (.cells cs t)).cell? ⟨w.heap.size, j, none⟩ = cs[j]? := fun j => cell_of_row _ _ j cs t (0, 0) (heap_alloc_new w _)
  obtain ⟨p1, p2, p3, p4⟩ := hc i hi
  exact ⟨(hcell _).trans p1, (hcell _).trans p2, (hcell _).trans p3, (hcell _).trans p4⟩

theorem rowA_one (w : World) : RowZ .i64 (w.alloc (.cells #[.int .i64 0] 3)) (w.heap.size + 1) (some ⟨w.heap.size, 0, none⟩) 1 1 [0] := by
  refine ⟨rfl, Nat.le_refl _, by unfold maxLen; omega, fun _ => ⟨_, 0, rfl, Nat.lt_succ_self _, fun i hi => ?_⟩⟩
  obtain rfl : i = 0 := by omega
  simp

set_option maxRecDepth 100000 in
set_option maxHeartbeats 4000000 in
theorem awake6_any (w : World) : Calls Try.prog 6 #[] w fun e w' => e = .returned (.bool true) ∧ Below w.heap.size w w' := by
  have hB0 : Below w.heap.size w (w.alloc (gridO 3 1 mapA)) := (Below.refl _ _).alloc (Nat.le_refl _) _
  have hg0 := gridAt_new w 3 1 mapA
  have hz0 : (w.alloc (gridO 3 1 mapA)).heap.size = w.heap.size + 1 := by simp
  have hr0 : RowZ .i64 ((w.alloc (gridO 3 1 mapA)).alloc (.cells #[.int .i64 0] 3)) ((w.alloc (gridO 3 1 mapA)).heap.size + 1) (some ⟨(w.alloc (gridO 3 1 mapA)).heap.size, 0, none⟩) 1 1 [0] :=
    rowA_one (w.alloc (gridO 3 1 mapA))
  rw [hz0] at hr0
  have hb0 : Below (w.alloc (gridO 3 1 mapA)).heap.size (w.alloc (gridO 3 1 mapA)) ((w.alloc (gridO 3 1 mapA)).alloc (.cells #[.int .i64 0] 3)) := (Below.refl _ _).alloc (Nat.le_refl _) _
  have hg1 := hg0.below hb0 (by omega)
  have hB1 := hB0.trans (hb0.mono hB0.size)
  have hz1 : ((w.alloc (gridO 3 1 mapA)).alloc (.cells #[.int .i64 0] 3)).heap.size = w.heap.size + 2 := by simp
  have HN1 := Lib.hid (awA_new _ _ ((w.alloc (gridO 3 1 mapA)).alloc (.cells #[.int .i64 0] 3)) hr0 (by simp))
  have HG1 := Lib.hid hg1
  have HB1 := Lib.hid hB1
  clear hg0 hr0 hb0 hg1 hB1 hB0
  go_enter Try.func6, Try.ntmps6
  go_wp2_with fail
  refine HN1.out.mono ?_
  rintro e w1 ⟨h1, he, hC1, hb1⟩
  subst he
  have hg2 := HG1.out.below hb1 (by omega)
  have hB2 := HB1.out.trans (hb1.mono HB1.out.size)
  have hlt1 : w.heap.size < w1.heap.size := by have := hb1.size; omega
  -- the state, boxed; the inputs
  have hs2 := stAt_new w1 h1
  have hb2 : Below w1.heap.size w1 (w1.alloc (shO h1)) := (Below.refl _ _).alloc (Nat.le_refl _) _
  have hzz : (w1.alloc (shO h1)).heap.size = w1.heap.size + 1 := by simp
  obtain ⟨o, ho⟩ : ∃ o, o = Obj.cells #[.int .i64 1, .int .i64 4, .int .i64 1, .int .i64 2, .int .i64 1, .int .i64 4, .int .i64 0, .int .i64 2, .int .i64 2, .int .i64 0, .int .i64 0, .int .i64 0, .int .i64 5, .int .i64 2, .int .i64 0, .int .i64 0, .int .i64 9, .int .i64 0, .int .i64 0, .int .i64 0] 41 := ⟨_, rfl⟩
  have hr2 : RowI ((w1.alloc (shO h1)).alloc o) (w1.heap.size + 1 + 1) (some ⟨w1.heap.size + 1, 0, none⟩) 5 5 lA := by
    have := rowI_lit (w1.alloc (shO h1)) lA 41 #[.int .i64 1, .int .i64 4, .int .i64 1, .int .i64 2, .int .i64 1, .int .i64 4, .int .i64 0, .int .i64 2, .int .i64 2, .int .i64 0, .int .i64 0, .int .i64 0, .int .i64 5, .int .i64 2, .int .i64 0, .int .i64 0, .int .i64 9, .int .i64 0, .int .i64 0, .int .i64 0] (by decide) (fun i hi => by
      have hi5 : i < 5 := hi
      match i, hi5 with
      | 0, _ => exact ⟨rfl, rfl, rfl, rfl⟩
      | 1, _ => exact ⟨rfl, rfl, rfl, rfl⟩
      | 2, _ => exact ⟨rfl, rfl, rfl, rfl⟩
      | 3, _ => exact ⟨rfl, rfl, rfl, rfl⟩
      | 4, _ => exact ⟨rfl, rfl, rfl, rfl⟩)
    rw [hzz] at this
    rw [ho]
    exact this
  have hb3 : Below w1.heap.size w1 ((w1.alloc (shO h1)).alloc o) := hb2.alloc (by simp) _
  have hb3' : Below (w1.alloc (shO h1)).heap.size (w1.alloc (shO h1)) ((w1.alloc (shO h1)).alloc o) := (Below.refl _ _).alloc (Nat.le_refl _) _
  have hz3 : ((w1.alloc (shO h1)).alloc o).heap.size = w1.heap.size + 2 := by simp
  have hI3 := (hC1.stIn.below hb3)
  have HA := Lib.hid (awA_all h1 _ _ ((w1.alloc (shO h1)).alloc o) (hI3.mono (show w1.heap.size ≤ w1.heap.size + 1 + 1 by omega)) hr2 (by rw [hz3]; omega))
  have HB3 := Lib.hid (hB2.trans (hb3.mono (by omega)))
  have HG3 := Lib.hid (hg2.below hb3 (by omega))
  rw [ho] at HA HB3 HG3 hz3
  obtain ⟨g1, g2, g3⟩ := hg2
  obtain ⟨t1, a1, n1, c1, a2, n2, c2, a3, n3, c3⟩ := h1
  clear hs2 hb2 hr2 hb3 hb3' hI3 hB2 hb1 HG1 HB1 HN1 hC1 ho
  go_wp2_with fail
  refine HA.out.mono ?_
  rintro e w2 ⟨h2, cb, he, hC2, hcd, hb2⟩
  subst he
  have hzs := hb2.size
  have hg4 := HG3.out.below hb2 (by omega)
  have hB4 := HB3.out.trans (hb2.mono HB3.out.size)
  have hlt2 : w.heap.size < w2.heap.size := by omega
  have hb5 : Below w2.heap.size w2 (w2.alloc (shO h2)) := (Below.refl _ _).alloc (Nat.le_refl _) _
  have hs5 := stAt_new w2 h2
  have hz5 : (w2.alloc (shO h2)).heap.size = w2.heap.size + 1 := by simp
  have HAP := Lib.hid (awA_apply h2 _ (w2.alloc (shO h2)) (hC2.stIn.below hb5) (by rw [hz5]; omega))
  have HB5 := Lib.hid (hB4.trans (hb5.mono (by omega)))
  have HS5 := Lib.hid hs5
  have HCD := Lib.hid hcd
  have HC2 := Lib.hid hC2
  obtain ⟨g1, g2, g3⟩ := hg4
  obtain ⟨t2, d1, p1, e1, d2, p2, e2, d3, p3, e3⟩ := h2
  clear hC2 hcd hb2 hB4 hb5 hs5 HA HB3 HG3
  go_wp2_with fail
  refine HAP.out.mono ?_
  rintro e w4 ⟨h4, he, hC4, hb4⟩
  subst he
  have hz4 := hb4.size
  have HB6 := Lib.hid (HB5.out.trans (hb4.mono HB5.out.size))
  have hs6 := HS5.out.below hb4 (by omega)
  have hbb : Below w2.heap.size w2 w4 := ((Below.refl w2.heap.size w2).alloc (Nat.le_refl _) _).trans (hb4.mono (by omega))
  obtain ⟨cbb, coff, ce, hcb, hcc⟩ := HCD.out.cells (by omega)
  injection ce with ce
  injection ce with ce1 ce2
  subst ce1 ce2
  have y0 := (hbb.cell (p := ⟨cb, 0, none⟩) hcb).trans (hcc 0 (by omega))
  have y1 := (hbb.cell (p := ⟨cb, 1, none⟩) hcb).trans (hcc 1 (by omega))
  have y2 := (hbb.cell (p := ⟨cb, 2, none⟩) hcb).trans (hcc 2 (by omega))
  have y3 := (hbb.cell (p := ⟨cb, 3, none⟩) hcb).trans (hcc 3 (by omega))
  have y4 := (hbb.cell (p := ⟨cb, 4, none⟩) hcb).trans (hcc 4 (by omega))
  have hcb4 : cb < w4.heap.size := by omega
  obtain ⟨lb, hlb, _, hlt, hr, _⟩ := HC2.out.rs.at (by decide)
  have hm := ((hr 0 (by decide)).below hbb hlt).2.1
  have hlt4 : lb < w4.heap.size := by omega
  obtain ⟨lb', hlb', _, hlt', hr', _⟩ := hC4.rs.at (by decide)
  have hm' := (hr' 0 (by decide)).2.1
  have k1 := HC2.out.n1
  have k2 := HC2.out.n2
  have k3 := HC2.out.n3
  have k4 := hC4.n1
  obtain ⟨t4, b1, m1, f1, b2, m2, f2, b3, m3, f3⟩ := h4
  obtain ⟨s0, s1, s2, s3⟩ := hs6
  simp only [] at s0 s1 s2 s3 hlb hlb' k1 k2 k3 k4
  have k1' : p1 = 1 := k1
  have k2' : p2 = 1 := k2
  have k3' : p3 = 1 := k3
  have k4' : m1 = 1 := k4
  subst hlb hlb' k1' k2' k3' k4'
  have y0' : w4.cell? ⟨cb, 0, none⟩ = some (.int .i64 0) := y0
  have y1' : w4.cell? ⟨cb, 1, none⟩ = some (.int .i64 6) := y1
  have y2' : w4.cell? ⟨cb, 2, none⟩ = some (.int .i64 0) := y2
  have y3' : w4.cell? ⟨cb, 3, none⟩ = some (.int .i64 0) := y3
  have y4' : w4.cell? ⟨cb, 4, none⟩ = some (.int .i64 3) := y4
  have m1' : w4.cell? ⟨lb, 1, none⟩ = some (.int .i64 4) := hm
  have m2' : w4.cell? ⟨lb', 1, none⟩ = some (.int .i64 0) := hm'
  have hltw2 : w2.heap.size < w4.heap.size := by omega
  have HBF : Hid (Below w.heap.size w (w4.alloc (shO ⟨t4, some ⟨lb', 0, none⟩, 1, f1, b2, m2, f2, b3, m3, f3⟩))) := HB6.out.alloc (HB6.out.size) _
  clear hm hm' hr hr' hbb y0 y1 y2 y3 y4 hcc k1 k2 k3 k4 hb4 hC4 HC2 HCD HAP HB5 HS5 HB6 hcb g1 g2 g3 hz4 hz5
  go_wp2_with fail
  go_ret
  exact ⟨rfl, HBF.out⟩
end Go.Proofs.Ytlfgdalpaacccaa.Vm
