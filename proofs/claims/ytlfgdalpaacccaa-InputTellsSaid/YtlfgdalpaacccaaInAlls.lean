/- The contract of input.All, and the mathematics of inputs one after the other. The contract of the document's Codes: are errors the same? -/
import Derived.Test.YtlfgdalpaacccaaApplys
import Derived.Test.YtlfgdalpaacccaaOwnIs
import Derived.BigQuiet
namespace Go.Proofs.Ytlfgdalpaacccaa.Vm
open Go Go.RowKit

theorem allS_more (fl : Int → Bool) : ∀ (l : List Inp) (s : St) (x : Inp), allS fl s (l ++ [x]) = applyS fl (allS fl s l) x
  | [], _, _ => rfl
  | y :: l, s, x => allS_more fl l (applyS fl s y) x
theorem codesS_more (fl : Int → Bool) : ∀ (l : List Inp) (s : St) (x : Inp), codesS fl s (l ++ [x]) = codesS fl s l ++ [codeS fl (allS fl s l) x]
  | [], _, _ => rfl
  | y :: l, s, x => by
    show codeS fl s y :: codesS fl (applyS fl s y) (l ++ [x]) = _
    rw [codesS_more fl l (applyS fl s y) x]
    rfl
theorem codesS_len (fl : Int → Bool) : ∀ (l : List Inp) (s : St), (codesS fl s l).length = l.length
  | [], _ => rfl
  | y :: l, s => by
    show (codesS fl (applyS fl s y) l).length + 1 = l.length + 1
    rw [codesS_len fl l]
theorem all_right (fl : Int → Bool) : ∀ (l : List Inp) (s : St), RightP fl s → RightP fl (allS fl s l)
  | [], _, h => h
  | y :: l, s, h => all_right fl l (applyS fl s y) (apply_right h)
theorem apply_bl (fl : Int → Bool) (s : St) (x : Inp) : (applyS fl s x).bl.length ≤ s.bl.length + 1 := by
  unfold applyS
  split
  · unfold turnS
    repeat' split
    all_goals first
      | exact Nat.le_succ _
      | (show (insZ s.bl x.a).length ≤ _; unfold insZ; simp; omega)
      | (show (delZ s.bl x.a).length ≤ _; exact Nat.le_succ_of_le (del_sub s.bl x.a).length_le)
  · exact Nat.le_succ _
theorem all_bl (fl : Int → Bool) : ∀ (l : List Inp) (s : St), (allS fl s l).bl.length ≤ s.bl.length + l.length
  | [], s => Nat.le_refl _
  | y :: l, s => by
    have h1 := all_bl fl l (applyS fl s y)
    have h2 := apply_bl fl s y
    show (allS fl (applyS fl s y) l).bl.length ≤ s.bl.length + (l.length + 1)
    omega
def zx : Inp := ⟨0, 0, 0, 0⟩
theorem take_x {l : List Inp} {k : Nat} (h : k < l.length) : l.take (k + 1) = l.take k ++ [l.getD k zx] := by
  rw [List.take_succ_eq_append_getElem h]
  simp [List.getD, h]

/-- The slice '.slice a n c' holds these inputs, in a block below B. -/
def RowI (w : World) (B : Nat) (a : Option Addr) (n c : Nat) (l : List Inp) : Prop :=
  l.length = n ∧ n ≤ c ∧ c ≤ maxLen ∧
  (0 < n → ∃ b off, a = some ⟨b, off, none⟩ ∧ b < B ∧ ∀ i, i < n → w.cell? ⟨b, off + i * 4, none⟩ = some (.int .i64 (l.getD i zx).k) ∧ w.cell? ⟨b, off + i * 4 + 1, none⟩ = some (.int .i64 (l.getD i zx).a) ∧ w.cell? ⟨b, off + i * 4 + 2, none⟩ = some (.int .i64 (l.getD i zx).b) ∧ w.cell? ⟨b, off + i * 4 + 3, none⟩ = some (.int .i64 (l.getD i zx).c))
theorem RowI.below {w w' : World} {B n c : Nat} {a : Option Addr} {l : List Inp} (h : RowI w B a n c l) (hb : Below B w w') : RowI w' B a n c l :=
  ⟨h.1, h.2.1, h.2.2.1, fun hn => by
    obtain ⟨b, off, e, hB, hc⟩ := h.2.2.2 hn
    refine ⟨b, off, e, hB, fun i hi => ?_⟩
    obtain ⟨p1, p2, p3, p4⟩ := hc i hi
    exact ⟨(hb.cell (p := ⟨b, off + i * 4, none⟩) hB).trans p1, (hb.cell (p := ⟨b, off + i * 4 + 1, none⟩) hB).trans p2, (hb.cell (p := ⟨b, off + i * 4 + 2, none⟩) hB).trans p3, (hb.cell (p := ⟨b, off + i * 4 + 3, none⟩) hB).trans p4⟩⟩
theorem RowI.mono {w : World} {B B' n c : Nat} {a : Option Addr} {l : List Inp} (h : RowI w B a n c l) (hB : B ≤ B') : RowI w B' a n c l :=
  ⟨h.1, h.2.1, h.2.2.1, fun hn => by
    obtain ⟨b, off, e, hb, hc⟩ := h.2.2.2 hn
    exact ⟨b, off, e, by omega, hc⟩⟩

theorem info_errno : (Try.prog.info? 37).map (fun i => (i.zero, i.size, i.bytes)) = some (some (.int .i64 0), 1, 8) := by kernel_rfl
/-- Errors, in a block of their own. -/
def ErrsZ (w : World) (B lb : Nat) (l : List Int) : Prop := w.ownsRow B 37 1 (.slice (some ⟨lb, 0, none⟩) l.length l.length) l.length (intsZ l)
theorem ErrsZ.set {w : World} {B lb : Nat} {l : List Int} (h : ErrsZ w B lb l) (i : Nat) (z : Int) : ErrsZ (w.setCell ⟨lb, i, none⟩ (.int .i64 z)) B lb (l.set i z) := by
  have := (World.ownsRow.stored h i (.int .i64 z)).1
  unfold ErrsZ
  rw [List.length_set, ← intsZ_set]
  exact this
theorem ErrsZ.cell {w : World} {B lb i : Nat} {l : List Int} (h : ErrsZ w B lb l) (hi : i < l.length) : w.cell? ⟨lb, i, none⟩ = some (.int .i64 (l.getD i 0)) :=
  (World.ownsRow.cellAt h i (by omega)).trans (by simp [intsZ, List.getD, hi])
theorem ErrsZ.row {w : World} {B lb : Nat} {l : List Int} (h : ErrsZ w B lb l) : RowZ .i64 w w.heap.size (some ⟨lb, 0, none⟩) l.length l.length l :=
  ⟨rfl, Nat.le_refl _, by
    rcases h.2 with ⟨h1, _⟩ | ⟨g, cap, cur, h1, _, _, _, hm, _⟩
    · cases h1
    · injection h1 with _ _ h3
      omega, fun _ => ⟨lb, 0, rfl, (World.ownsRow.lt h lb rfl).2, fun i hi => by rw [Nat.zero_add]; exact h.cell hi⟩⟩
theorem errs_made (w : World) (N : Nat) (hN : N ≤ 1000000) : ErrsZ (w.alloc (.cells ⟨intsZ (List.replicate N 0)⟩ 37)) w.heap.size w.heap.size (List.replicate N 0) := by
  have := World.ownsRow_lit (base := w.heap.size) (e := 37) (size := 1) w ⟨intsZ (List.replicate N 0)⟩ N (Nat.le_refl _) (by unfold maxLen; omega) (by simp [intsZ])
  unfold ErrsZ
  rw [List.length_replicate]
  exact this
theorem make_errs (w : World) (N : Nat) (hN : N ≤ 1000000) : (Instr.makeSlice 32 (.int .i64 (N : Int)) (.int .i64 (N : Int))).run Try.prog w = .ok (.slice (some ⟨w.heap.size, 0, none⟩) N N) (w.alloc (.cells ⟨intsZ (List.replicate N 0)⟩ 37)) := by
  obtain ⟨j0, hj0, hy0, hy1, hy2⟩ := info_parts info_errno
  have hmk := run_make (P := Try.prog) w 32 37 j0 (.int .i64 0) Try.underlying32 hj0 hy0 .i64 .i64 N N (by omega) (Int.le_refl _) (by rw [hy2]; omega) (by omega)
  simp only [Int.toNat_natCast] at hmk
  rw [hy1] at hmk
  have hmc : (madeCells (Value.int .i64 0).cells (N * 1)) = ⟨intsZ (List.replicate N 0)⟩ := by
    apply Array.ext'
    simp only [Value.cells]
    rw [Nat.mul_one, toList_madeCells_one]
    simp [intsZ]
  rw [hmc] at hmk
  exact hmk
/-- A store among errors leaves a state. -/
theorem Mine.setE {w : World} {B b B' lb : Nat} {h : Sh} {s : St} {l : List Int} (m : Mine w B b h s) (he : ErrsZ w B' lb l) (hB : B ≤ B') (i : Nat) (v : Value) : Mine (w.setCell ⟨lb, i, none⟩ v) B b h s ∧ Below B w (w.setCell ⟨lb, i, none⟩ v) := by
  have hg := grown_setCell w lb i v
  have hlb : (some b : Option Nat) ≠ some lb := fun e => own_apart he m.o (by decide) (by rw [e]; rfl)
  obtain ⟨hT, o1, o2, o3, e1, e2, e3⟩ := m.c
  exact ⟨⟨(hg.block b m.lt hlb).trans m.o, m.ge, ⟨hT, World.ownsRow.kept o1 hg (own_own he o1 (by decide)), World.ownsRow.kept o2 hg (own_own he o2 (by decide)), World.ownsRow.kept o3 hg (own_own he o3 (by decide)), e1, e2, e3⟩⟩, (Below.refl _ _).setCell (p := ⟨lb, i, none⟩) (Nat.le_trans hB (World.ownsRow.lt he lb rfl).1) v⟩
theorem ErrsZ.calls {w w' : World} {B lb : Nat} {l : List Int} (h : ErrsZ w B lb l) (hb : Below w.heap.size w w') : ErrsZ w' B lb l := own_upto h hb (fun k hk => (World.ownsRow.lt h k hk).2)
/-- What is known of the errors, behind k inputs. -/
noncomputable def errL (fl : Int → Bool) (s : St) (l : List Inp) (k : Nat) : List Int := codesS fl s (l.take k) ++ List.replicate (l.length - k) 0
theorem errL_len (fl : Int → Bool) (s : St) (l : List Inp) {k : Nat} (hk : k ≤ l.length) : (errL fl s l k).length = l.length := by
  unfold errL
  rw [List.length_append, codesS_len, List.length_take, List.length_replicate]
  omega
theorem errL_more (fl : Int → Bool) (s : St) (l : List Inp) {k : Nat} (hk : k < l.length) : (errL fl s l k).set k (codeS fl (allS fl s (l.take k)) (l.getD k zx)) = errL fl s l (k + 1) := by
  unfold errL
  have hl : (codesS fl s (l.take k)).length = k := by rw [codesS_len, List.length_take]; omega
  rw [take_x hk, codesS_more, List.set_append_right _ _ (by omega), hl, Nat.sub_self, show l.length - k = (l.length - (k + 1)) + 1 by omega, List.replicate_succ, List.set_cons_zero]
  simp

/-- A grid, a state, and a state to be: boxed. -/
theorem gsz_head (w : World) (W H : Int) (g : ByteArray) (h : Sh) :
    ∃ w3, w3 = ((w.alloc (gridO W H g)).alloc (shO h)).alloc (shO ⟨0, none, 0, 0, none, 0, 0, none, 0, 0⟩) ∧ Below w.heap.size w w3 ∧ w3.heap.size = w.heap.size + 3 ∧ GridAt w3 w.heap.size W H g ∧ StAt w3 (w.heap.size + 1) h ∧
      StAt w3 (w.heap.size + 1 + 1) ⟨0, none, 0, 0, none, 0, 0, none, 0, 0⟩ ∧ ∀ i, w3.frozen? ⟨w.heap.size + 1 + 1, i, none⟩ = false := by
  obtain ⟨u, hu, h1, z1, g1, s1⟩ := gs_head w W H g h
  have h3 : Below u.heap.size u (u.alloc (shO ⟨0, none, 0, 0, none, 0, 0, none, 0, 0⟩)) := (Below.refl _ _).alloc (Nat.le_refl _) _
  have x3 := stAt_new u ⟨0, none, 0, 0, none, 0, 0, none, 0, 0⟩
  have f3 : ∀ i, (u.alloc (shO ⟨0, none, 0, 0, none, 0, 0, none, 0, 0⟩)).frozen? ⟨u.heap.size, i, none⟩ = false := fun i => by simp
  rw [z1] at x3 f3
  exact ⟨_, by rw [hu], h1.trans (h3.mono (by omega)), by simp [z1], g1.below h3 (by omega), s1.below h3 (by omega), x3, f3⟩

set_option maxRecDepth 100000 in
set_option maxHeartbeats 2000000 in
theorem bigAll_any (W H : Int) (g : ByteArray) (h : Sh) (s : St) (a : Option Addr) (n c : Nat) (l : List Inp) (B : Nat) (w : World) (hg : g.size ≤ maxLen) (hin : StIn w B h s) (hl : RowI w B a n c l) (hB : B ≤ w.heap.size) (hr : RightP (floorS (bytesOf g)) s) (hn : s.bl.length ≤ 90000) (hn2 : n ≤ 1000) :
    Calls Try.prog 8 #[gridV W H g, shV h, .slice a n c] w fun e w' => ∃ h' cb, e = .returned (.tuple #[shV h', .slice (some ⟨cb, 0, none⟩) n n]) ∧ CopyIn w' w.heap.size h' (allS (floorS (bytesOf g)) s l) ∧ RowZ .i64 w' w'.heap.size (some ⟨cb, 0, none⟩) n n (codesS (floorS (bytesOf g)) s l) ∧ Below w.heap.size w w' := by
  obtain ⟨w3, hw3, hB3, hz3, hg3, hs3, hr3, hf3⟩ := gsz_head w W H g h
  have hrn := hr.rn
  have htn := hr.tn
  have h1 := hin.rs.1
  have h2 := hin.ts.1
  have h3 := hin.bl.1
  have HCP := Lib.hid (copy_any h s w.heap.size w3 ((hin.mono hB).below hB3) (by omega) (by omega) (by omega) (by omega))
  have hln := hl.1
  obtain ⟨fl, hfl⟩ : ∃ fl, floorS (bytesOf g) = fl := ⟨_, rfl⟩
  have HAP := Lib.hid fun (V : World) (b : Nat) (h' : Sh) (k : Nat) (x : Inp) (m : Mine V w3.heap.size b h' (allS fl s (l.take k))) => apply_any W H g w3.heap.size b h' (allS fl s (l.take k)) x V m hg (by rw [hfl] at hr ⊢; exact all_right fl _ _ hr) (by have := all_bl fl (l.take k) s; rw [List.length_take] at this; omega)
  rw [hfl] at HAP ⊢
  have HW := Lib.hid hw3
  have HB3 := Lib.hid hB3
  have HG3 := Lib.hid hg3
  have HR3 := Lib.hid hr3
  have HF3 := Lib.hid hf3
  have HL := Lib.hid (hl.mono hB)
  have HLN := Lib.hid hln
  have HMK := Lib.hid fun (V : World) => make_errs V n (by omega)
  have hc1 := hl.2.1
  have hc2 := hl.2.2.1
  unfold maxLen at hc2
  clear hw3 hB3 hg3 hr3 hf3 hr hn hin hg h1 h2 h3 hrn htn hfl hl hln
  obtain ⟨t, a1, n1, c1, a2, n2, c2, a3, n3, c3⟩ := h
  obtain ⟨s0, s1, s2, s3⟩ := hs3
  simp only [] at s0 s1 s2 s3
  go_enter Try.func8, Try.ntmps8
  go_wp2_with fail
  rw [← HW.out]
  refine HCP.out.mono ?_
  rintro e w5 ⟨h1, rfl, hc5, hb5⟩
  have hba : Below w5.heap.size w5 (w5.alloc (shO h1)) := (Below.refl _ _).alloc (Nat.le_refl _) _
  have hm6 : Mine (w5.alloc (shO h1)) w3.heap.size w5.heap.size h1 s :=
    ⟨heap_alloc_new w5 _, hb5.size, ⟨hc5.tick, hc5.rs.calls hba, hc5.ts.calls hba, own_upto hc5.bl hba (fun k hk => (World.ownsRow.lt hc5.bl k hk).2), hc5.n1, hc5.n2, hc5.n3⟩⟩
  have hz5 := hb5.size
  obtain ⟨w6, hw6⟩ : ∃ w6, w6 = w5.alloc (shO h1) := ⟨_, rfl⟩
  rw [← hw6] at hba hm6
  have HW6 := Lib.hid hw6
  have HM6 := Lib.hid hm6
  have hz6 : w6.heap.size = w5.heap.size + 1 := by rw [hw6]; simp
  have HB36 := Lib.hid (hb5.trans (hba.mono hz5))
  have hmk : (Instr.makeSlice 32 (.int .i64 (n : Int)) (.int .i64 (n : Int))).run Try.prog (w5.alloc (.cells #[.int .i64 h1.t, .slice h1.a1 h1.n1 h1.c1, .slice h1.a2 h1.n2 h1.c2, .slice h1.a3 h1.n3 h1.c3] 28)) = .ok (.slice (some ⟨w5.heap.size + 1, 0, none⟩) n n) (w6.alloc (.cells ⟨intsZ (List.replicate n 0)⟩ 37)) := by
    have := HMK.out w6
    rw [hz6] at this
    rw [hw6] at this ⊢
    exact this
  have hb7 : Below w6.heap.size w6 (w6.alloc (.cells ⟨intsZ (List.replicate n 0)⟩ 37)) := (Below.refl _ _).alloc (Nat.le_refl _) _
  have he7 := errs_made w6 n (by omega)
  have hz7 : (w6.alloc (.cells ⟨intsZ (List.replicate n 0)⟩ 37)).heap.size = w5.heap.size + 2 := by simp [hz6]
  generalize w6.alloc (.cells ⟨intsZ (List.replicate n 0)⟩ 37) = w7 at hmk hb7 he7 hz7
  rw [hz6] at he7
  have hb37 := HB36.out.trans (hb7.mono HB36.out.size)
  have HE7 : Hid (ErrsZ w7 w3.heap.size (w5.heap.size + 1) (errL fl s l 0)) := by
    have e : errL fl s l 0 = List.replicate n 0 := by unfold errL; rw [HLN.out]; simp [codesS]
    unfold Hid
    rw [e]
    refine ⟨he7.1, ?_⟩
    rcases he7.2 with h | ⟨g, cap, cur, hv, hb, r⟩
    · exact .inl h
    · exact .inr ⟨g, cap, cur, hv, by omega, r⟩
  have HM7 : Hid (Mine w7 w3.heap.size w5.heap.size h1 (allS fl s (l.take 0))) := HM6.out.calls hb7
  have HB7 := Lib.hid hb37
  clear hw6 hba hb5 hc5 HCP hm6 HMK s0 s1 s2 s3 hb7 he7 HM6 HB36 hb37
  go_wp2_with fail
  go_loopw [19] (fun i wr => ∃ (k : Nat) (hk : Sh), k ≤ n ∧ i = .int .i64 k ∧ Hid (Mine wr w3.heap.size w5.heap.size hk (allS fl s (l.take k))) ∧ Hid (ErrsZ wr w3.heap.size (w5.heap.size + 1) (errL fl s l k)) ∧ Hid (Below w3.heap.size w3 wr)) (fun i _ => n - (intOf i).toNat)
  case atStart => exact ⟨0, _, Nat.zero_le _, rfl, HM7, HE7, HB7⟩
  case round =>
    obtain ⟨k, hk, hkn, rfl, HM, HE, HBR⟩ := hrel
    by_cases hlt : k < n
    · obtain ⟨bi, off, rfl, hbi, hcs⟩ := HL.out.2.2.2 (by omega)
      have hbw := HB3.out.trans (HBR.out.mono (by omega))
      obtain ⟨p1, p2, p3, p4⟩ := hcs k hlt
      have i1 := (hbw.cell (p := ⟨bi, off + k * 4, none⟩) hbi).trans p1
      have i2 := (hbw.cell (p := ⟨bi, off + k * 4 + 1, none⟩) hbi).trans p2
      have i3 := (hbw.cell (p := ⟨bi, off + k * 4 + 2, none⟩) hbi).trans p3
      have i4 := (hbw.cell (p := ⟨bi, off + k * 4 + 3, none⟩) hbi).trans p4
      have hzr := HBR.out.size
      have hwr : w.heap.size < wr.heap.size := by omega
      have hbiw : bi < wr.heap.size := by omega
      have hg := HG3.out.below HBR.out (by omega)
      obtain ⟨g0, g1, g2⟩ := hg
      obtain ⟨x, hx⟩ : ∃ x, l.getD k zx = x := ⟨_, rfl⟩
      have HX := Lib.hid hx
      rw [hx] at i1 i2 i3 i4
      have hba : Below wr.heap.size wr (wr.alloc (inpO x 41)) := (Below.refl _ _).alloc (Nat.le_refl _) _
      obtain ⟨wq, hwq⟩ : ∃ wq, wq = wr.alloc (inpO x 41) := ⟨_, rfl⟩
      rw [← hwq] at hba
      have HWQ := Lib.hid hwq
      have HMQ := Lib.hid (HM.out.calls hba)
      have HEQ := Lib.hid (HE.out.calls hba)
      have HBQ := Lib.hid (HBR.out.trans (hba.mono hzr))
      have HA := Lib.hid (HAP.out wq w5.heap.size hk k x HMQ.out)
      have HCD : Hid (errL fl s l (k + 1) = (errL fl s l k).set k (codeS fl (allS fl s (l.take k)) x)) := by
        unfold Hid
        rw [← HX.out]
        exact (errL_more fl s l (by rw [HLN.out]; exact hlt)).symm
      have HAD : Hid (allS fl s (l.take (k + 1)) = applyS fl (allS fl s (l.take k)) x) := by
        unfold Hid
        rw [take_x (by rw [HLN.out]; exact hlt), allS_more, HX.out]
      have HEL := Lib.hid (errL_len fl s l (k := k) (by rw [HLN.out]; exact hkn))
      generalize codeS fl (allS fl s (l.take k)) x = code at HA HCD
      generalize applyS fl (allS fl s (l.take k)) x = after at HA HAD
      obtain ⟨xk, xa, xb, xc⟩ := x
      simp only [] at i1 i2 i3 i4
      clear hcs p1 p2 p3 p4 hbw hba hwq hx HM HE
      go_wp2_with fail
      rw [← HWQ.out]
      refine HA.out.mono ?_
      rintro e w8 ⟨rfl, t8⟩
      obtain ⟨h8, m8⟩ := t8.m
      have he8 : ErrsZ w8 w3.heap.size (w5.heap.size + 1) (errL fl s l k) := t8.p.own HEQ.out (by decide) (by decide) (by decide) (by decide)
      have hb8 := HBQ.out.trans t8.k
      have c8 := he8.cell (i := k) (by rw [HEL.out, HLN.out]; exact hlt)
      have f8 := World.ownsRow.frozenAt he8 k
      obtain ⟨m9, b9⟩ := m8.setE he8 (Nat.le_refl _) k (.int .i64 code)
      have HE9 : Hid (ErrsZ (w8.setCell ⟨w5.heap.size + 1, k, none⟩ (.int .i64 code)) w3.heap.size (w5.heap.size + 1) (errL fl s l (k + 1))) := by
        unfold Hid
        rw [HCD.out]
        exact he8.set k code
      have HM9 : Hid (Mine (w8.setCell ⟨w5.heap.size + 1, k, none⟩ (.int .i64 code)) w3.heap.size w5.heap.size h8 (allS fl s (l.take (k + 1)))) := by
        unfold Hid
        rw [HAD.out]
        exact m9
      have HB9 := Lib.hid (hb8.trans b9)
      generalize (errL fl s l k).getD k 0 = old at c8
      clear t8 m8 he8 hb8 m9 b9 g0 g1 g2 i1 i2 i3 i4 HA HMQ HEQ
      go_wp2_with fail
      go_roundw
      case rel => exact ⟨k + 1, h8, by omega, by go_num, HM9, HE9, HB9⟩
      case measure => simp [intOf]; omega
    · have hkk : k = n := by omega
      subst hkk
      have hb := HBR.out
      have hst := HM.out.stAt
      obtain ⟨q0, q1, q2, q3⟩ := HR3.out.below hb (by omega)
      have f0 := (hb.frozen (p := ⟨w.heap.size + 1 + 1, 0, none⟩) (show w.heap.size + 1 + 1 < w3.heap.size by omega)).trans (HF3.out 0)
      have f1 := (hb.frozen (p := ⟨w.heap.size + 1 + 1, 1, none⟩) (show w.heap.size + 1 + 1 < w3.heap.size by omega)).trans (HF3.out 1)
      have f2 := (hb.frozen (p := ⟨w.heap.size + 1 + 1, 2, none⟩) (show w.heap.size + 1 + 1 < w3.heap.size by omega)).trans (HF3.out 2)
      have f3 := (hb.frozen (p := ⟨w.heap.size + 1 + 1, 3, none⟩) (show w.heap.size + 1 + 1 < w3.heap.size by omega)).trans (HF3.out 3)
      simp only [] at q0 q1 q2 q3
      obtain ⟨t', b1, m1, d1, b2, m2, d2, b3, m3, d3⟩ := hk
      obtain ⟨s0, s1, s2, s3⟩ := hst
      simp only [] at s0 s1 s2 s3
      have hsr := stAt_set4 q0 q1 q2 q3 ⟨t', b1, m1, d1, b2, m2, d2, b3, m3, d3⟩
      have HLT : Hid (l.take k = l) := List.take_of_length_le (by rw [HLN.out]; exact Nat.le_refl _)
      have HC : Hid (CopyIn ((((wr.setCell ⟨w.heap.size + 1 + 1, 0, none⟩ (.int .i64 t')).setCell ⟨w.heap.size + 1 + 1, 1, none⟩ (.slice b1 m1 d1)).setCell ⟨w.heap.size + 1 + 1, 2, none⟩ (.slice b2 m2 d2)).setCell ⟨w.heap.size + 1 + 1, 3, none⟩ (.slice b3 m3 d3)) w.heap.size ⟨t', b1, m1, d1, b2, m2, d2, b3, m3, d3⟩ (allS fl s l)) := by
        obtain ⟨c0, o1, o2, o3, e1, e2, e3⟩ := HM.out.c
        rw [HLT.out] at c0 o1 o2 o3 e1 e2 e3
        exact ⟨c0, OwnR.mono (own_set4 o1 (show w.heap.size + 1 + 1 < w3.heap.size by omega) _ _ _ _) (by omega), OwnR.mono (own_set4 o2 (show w.heap.size + 1 + 1 < w3.heap.size by omega) _ _ _ _) (by omega), OwnZ.mono (own_set4 o3 (show w.heap.size + 1 + 1 < w3.heap.size by omega) _ _ _ _) (by omega), e1, e2, e3⟩
      have HEF : Hid (ErrsZ ((((wr.setCell ⟨w.heap.size + 1 + 1, 0, none⟩ (.int .i64 t')).setCell ⟨w.heap.size + 1 + 1, 1, none⟩ (.slice b1 m1 d1)).setCell ⟨w.heap.size + 1 + 1, 2, none⟩ (.slice b2 m2 d2)).setCell ⟨w.heap.size + 1 + 1, 3, none⟩ (.slice b3 m3 d3)) w3.heap.size (w5.heap.size + 1) (codesS fl s l)) := by
        have e : errL fl s l k = codesS fl s l := by unfold errL; rw [HLT.out, HLN.out]; simp
        have h9 := HE.out
        rw [e] at h9
        exact own_set4 h9 (show w.heap.size + 1 + 1 < w3.heap.size by omega) _ _ _ _
      have HBF := Lib.hid (below_set4 (HB3.out.trans (hb.mono (by omega))) (show w.heap.size ≤ w.heap.size + 1 + 1 by omega) (.int .i64 t') (.slice b1 m1 d1) (.slice b2 m2 d2) (.slice b3 m3 d3))
      clear hb HM HE HBR
      go_wp2_with fail
      generalize ((((wr.setCell { block := w.heap.size + 1 + 1, off := 0 } (Value.int IntKind.i64 t')).setCell { block := w.heap.size + 1 + 1, off := 1 } (Value.slice b1 m1 d1)).setCell { block := w.heap.size + 1 + 1, off := 2 } (Value.slice b2 m2 d2)).setCell { block := w.heap.size + 1 + 1, off := 3 } (Value.slice b3 m3 d3)) = V at hsr HC HBF HEF
      obtain ⟨r0, r1, r2, r3⟩ := hsr
      simp only [] at r0 r1 r2 r3
      refine bodyPost_ret (v := .tuple #[shV ⟨t', b1, m1, d1, b2, m2, d2, b3, m3, d3⟩, .slice (some ⟨w5.heap.size + 1, 0, none⟩) k k]) (by simp [results, Try.results8, go_sem, r0, r1, r2, r3]) rfl ⟨_, _, rfl, HC.out, ?_, HBF.out⟩
      have h9 := HEF.out.row
      rw [codesS_len, HLN.out] at h9
      exact h9
end Go.Proofs.Ytlfgdalpaacccaa.Vm

namespace Go.Proofs.Ytlfgdalpaacccaa.Vm
open Go Go.RowKit

theorem same_z {l l' : List Int} {n : Nat} (h : l.length = n) (h' : l'.length = n) (he : ∀ j, j < n → l.getD j 0 = l'.getD j 0) : l = l' := by
  apply List.ext_getElem (by omega)
  intro i h1 h2
  have := he i (by omega)
  simpa [List.getD, h1, h2] using this

set_option maxRecDepth 100000 in
set_option maxHeartbeats 1000000 in
theorem rcodes_same (a1 a2 : Option Addr) (n1 c1 n2 c2 B1 B2 : Nat) (l : List Int) (w : World) (h1 : RowZ .i64 w B1 a1 n1 c1 l) (h2 : RowZ .i64 w B2 a2 n2 c2 l) (hB1 : B1 ≤ w.heap.size) (hB2 : B2 ≤ w.heap.size) :
    Calls Try.prog 11 #[.slice a1 n1 c1, .slice a2 n2 c2] w fun e w' => e = .returned (.bool true) ∧ Below w.heap.size w w' := by
  have hn : n1 = n2 := h1.1.symm.trans h2.1
  subst hn
  have HC1 := Lib.hid (h1.mono hB1).cells
  have HC2 := Lib.hid (h2.mono hB2).cells
  have hnm := Nat.le_trans h1.2.1 h1.2.2.1
  unfold maxLen at hnm
  clear h1 h2
  have e0 : ((n1 : Int) != (n1 : Int)) = false := by simp
  go_enter Try.func11, Try.ntmps11
  go_wp2_with fail
  go_loopw [5] (fun i wr => ∃ k : Nat, k ≤ n1 ∧ i = .int .i64 k ∧ Below w.heap.size w wr) (fun i _ => n1 - (intOf i).toNat)
  case atStart => exact ⟨0, Nat.zero_le _, rfl, Below.refl _ _⟩
  case round =>
    obtain ⟨k, hk, rfl, hbel⟩ := hrel
    by_cases hlt : k < n1
    · obtain ⟨b, off, rfl, hb, hcs⟩ := HC1.out (by omega)
      obtain ⟨b', off', rfl, hb', hcs'⟩ := HC2.out (by omega)
      have hcell := (hbel.cell (p := ⟨b, off + k, none⟩) hb).trans (hcs k hlt)
      have hcell' := (hbel.cell (p := ⟨b', off' + k, none⟩) hb').trans (hcs' k hlt)
      generalize l.getD k 0 = y at hcell hcell'
      have hk0 : (0 : Int) ≤ (k : Int) := by omega
      have hk1 : (k : Int) < (n1 : Int) := by omega
      have hz := hbel.size
      have hbr : b < wr.heap.size := by omega
      have hbr' : b' < wr.heap.size := by omega
      have e1 : (y != y) = false := by simp
      have HB := Lib.hid hbel
      clear hcs hcs' hbel
      go_wp2_with fail
      go_quiet (fail)
      go_wp2_with fail
      go_roundw
      case rel => exact ⟨k + 1, by omega, by go_num, below_drewN HB.out _⟩
      case measure => simp [intOf]; omega
    · have hkn : k = n1 := by omega
      subst hkn
      have HB := Lib.hid hbel
      clear hlt hbel
      go_wp2_with fail
      go_ret
      exact ⟨by first | rfl | trivial, HB.out⟩
end Go.Proofs.Ytlfgdalpaacccaa.Vm
