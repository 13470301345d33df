/- tuggerlaw04.DistSteps returns true for every input: a step leads nearer by one at most; from where it is far, some step leads nearer by just one. -/
import Derived.Test.YtgjolllacchdeaaAwakeFour
import Derived.Test.YtgjolllacchdeaaRights
import Derived.Test.YtgjolllacchdeaaArgs
import Derived.Test.YtgjolllacchdeaaIts
import Derived.Test.YtgjolllacchdeaaFarMath
import Derived.BigQuiet
namespace Go.Proofs.Ytgjolllacchdeaa.Vm
open Go Go.RowKit

/-- Which cells are blocked, of the first N. -/
def shutS (N : Nat) (bl : List Int) : List Bool := (List.range N).map fun c : Nat => decide ((c : Int) ∈ bl)
theorem shutS_len (N : Nat) (bl : List Int) : (shutS N bl).length = N := by simp [shutS]
theorem shutS_nil (N : Nat) : shutS N [] = List.replicate N false := by
  unfold shutS
  apply List.ext_getElem
  · simp
  · intro i h1 h2; simp
theorem shutS_at {N c : Nat} {bl : List Int} (h : c < N) : (shutS N bl).getD c false = decide ((c : Int) ∈ bl) := by simp [shutS, List.getD, h]
theorem take_mem {bl : List Int} {k : Nat} {z : Int} (hk : k < bl.length) (hz : bl.getD k 0 = z) (x : Int) : x ∈ bl.take (k + 1) ↔ x ∈ bl.take k ∨ x = z := by
  rw [List.take_succ_eq_append_getElem hk]
  simp only [List.getD, List.getElem?_eq_getElem hk, Option.getD_some] at hz
  rw [hz]
  simp
theorem shutS_set {N k : Nat} {bl : List Int} {m : Nat} (hk : k < bl.length) (hz : bl.getD k 0 = (m : Int)) : (shutS N (bl.take k)).set m true = shutS N (bl.take (k + 1)) := by
  unfold shutS
  apply List.ext_getElem
  · simp
  · intro i h1 h2
    simp only [List.getElem_set, List.getElem_map, List.getElem_range]
    have hm := take_mem hk hz (i : Int)
    by_cases h : m = i
    · subst h
      rw [if_pos rfl]
      exact (decide_eq_true (hm.2 (.inr rfl))).symm
    · rw [if_neg h]
      have : ((i : Int) ∈ bl.take (k + 1)) ↔ ((i : Int) ∈ bl.take k) := ⟨fun h2 => (hm.1 h2).elim id (fun e => absurd e (by omega)), fun h2 => hm.2 (.inl h2)⟩
      exact (decide_eq_decide.2 this).symm
theorem shutS_out {N k : Nat} {bl : List Int} {z : Int} (hk : k < bl.length) (hz : bl.getD k 0 = z) (ho : z < 0 ∨ (N : Int) ≤ z) : shutS N (bl.take k) = shutS N (bl.take (k + 1)) := by
  unfold shutS
  apply List.ext_getElem
  · simp
  · intro i h1 h2
    simp only [List.length_map, List.length_range] at h1
    simp only [List.getElem_map, List.getElem_range]
    have hm := take_mem hk hz (i : Int)
    have : ((i : Int) ∈ bl.take k) ↔ ((i : Int) ∈ bl.take (k + 1)) := ⟨fun h2 => hm.2 (.inl h2), fun h2 => (hm.1 h2).elim id (fun e => absurd e (by omega))⟩
    exact decide_eq_decide.2 this

theorem make_bools (w : World) (N : Nat) (hN : N ≤ 1000000) : (Instr.makeSlice 39 (.int .i64 (N : Int)) (.int .i64 (N : Int))).run Try.prog w = .ok (.slice (some ⟨w.heap.size, 0, none⟩) N N) (w.alloc (.cells ⟨bools (List.replicate N false)⟩ 4)) := by
  obtain ⟨j0, hj0, hy0, hy1, hy2⟩ := info_parts info_bool
  have hmk := run_make (P := Try.prog) w 39 4 j0 (.bool false) Try.underlying39 hj0 hy0 .i64 .i64 N N (by omega) (Int.le_refl _) (by rw [hy2]; omega) (by omega)
  simp only [Int.toNat_natCast] at hmk
  rw [hy1] at hmk
  have hmc : (madeCells (Value.bool false).cells (N * 1)) = ⟨bools (List.replicate N false)⟩ := by
    apply Array.ext'
    simp only [Value.cells]
    rw [Nat.mul_one, toList_madeCells_one]
    simp [bools]
  rw [hmc] at hmk
  exact hmk
theorem marks_made (w : World) (N : Nat) (hN : N ≤ 1000000) : Marks (w.alloc (.cells ⟨bools (List.replicate N false)⟩ 4)) w.heap.size w.heap.size (List.replicate N false) := by
  have := World.ownsRow_lit (base := w.heap.size) (e := 4) (size := 1) w ⟨bools (List.replicate N false)⟩ N (Nat.le_refl _) (by unfold maxLen; omega) (by simp [bools])
  unfold Marks
  rw [List.length_replicate]
  exact this
theorem marks_nums {V : World} {B B' sb lb : Nat} {sh : List Bool} {l : List Int} (h : Marks V B sb sh) (hv : NumsZ V B' lb l) : lb ≠ sb := by
  rcases h.2 with ⟨h1, _⟩ | ⟨g, cap, cur, h1, _, hg, _⟩
  · cases h1
  · rcases hv.2 with ⟨h2, _⟩ | ⟨g', cap', cur', h2, _, hg', _⟩
    · cases h2
    · injection h1 with e1 _ _
      injection e1 with e1
      injection e1 with e1
      injection h2 with e2 _ _
      injection e2 with e2
      injection e2 with e2
      subst e1 e2
      intro e
      subst e
      rw [hg] at hg'
      injection hg' with h3
      injection h3 with h4 h5
      exact absurd h5 (by decide)
theorem Marks.mono {V : World} {B B' sb : Nat} {sh : List Bool} (h : Marks V B sb sh) (hB : B' ≤ B) : Marks V B' sb sh := by
  refine ⟨h.1, ?_⟩
  rcases h.2 with h2 | ⟨g, cap, cur, hv, hb, r⟩
  · exact .inl h2
  · exact .inr ⟨g, cap, cur, hv, by omega, r⟩

/-- What the law holds: the grid, the distances, the marks. -/
structure Bench (b : Nat) (W H : Int) (s : ByteArray) (lb sb : Nat) (l : List Int) (sh : List Bool) (V : World) : Prop where
  g : GridAt V b W H s
  n : NumsZ V (b + 1) lb l
  m : Marks V (b + 1) sb sh
section
variable {b lb sb : Nat} {W H : Int} {s : ByteArray} {l : List Int} {sh : List Bool} {V V' : World}
theorem Bench.calls (h : Bench b W H s lb sb l sh V) (hb : Below V.heap.size V V') : Bench b W H s lb sb l sh V' :=
  ⟨h.g.below hb (by have := h.n.base; omega), h.n.calls hb, own_calls h.m hb⟩
theorem Bench.drewN (h : Bench b W H s lb sb l sh V) (k : Nat) : Bench b W H s lb sb l sh (V.drewN k) := ⟨h.g, h.n, h.m⟩
theorem Bench.set (h : Bench b W H s lb sb l sh V) (i : Nat) : Bench b W H s lb sb l (sh.set i true) (V.setCell ⟨sb, i, none⟩ (.bool true)) := by
  have hbs := h.m.base
  have hne := marks_nums h.m h.n
  refine ⟨h.g.same (Below.heap_setCell V _ _ b (by show b ≠ sb; omega)), ownsRow_setCell_other h.n ?_ _, h.m.set i⟩
  intro e
  have : lb = sb := by simpa [Value.ownBlock] using e
  exact hne this
end

/-- Is it so at the start, or by one of the ways ahead of k? -/
def Found1 (P0 : Prop) (P : Nat → Prop) (k : Nat) (b : Bool) : Prop := b = true ↔ P0 ∨ ∃ w, 1 ≤ w ∧ w < k ∧ P w
theorem Found1.skip {P0 : Prop} {P : Nat → Prop} {k : Nat} {b : Bool} (h : Found1 P0 P k b) (hk : ¬ P k) : Found1 P0 P (k + 1) b :=
  h.trans ⟨fun h => h.imp id fun ⟨w, h1, h2, h3⟩ => ⟨w, h1, by omega, h3⟩, fun h => h.imp id fun ⟨w, h1, h2, h3⟩ => ⟨w, h1, by
    by_cases e : w = k
    · subst e; exact absurd h3 hk
    · omega, h3⟩⟩
theorem Found1.yes {P0 : Prop} {P : Nat → Prop} {k : Nat} {b : Bool} (h1 : 1 ≤ k) (hk : P k) : Found1 P0 P (k + 1) true := ⟨fun _ => .inr ⟨k, h1, by omega, hk⟩, fun _ => rfl⟩
theorem Found1.still {P0 : Prop} {P : Nat → Prop} {k : Nat} (h : Found1 P0 P k true) : Found1 P0 P (k + 1) true := ⟨fun _ => (h.1 rfl).imp id fun ⟨w, h1, h2, h3⟩ => ⟨w, h1, by omega, h3⟩, fun _ => rfl⟩
/-- Some step leads nearer by just one. -/
def Nearer (W H : Int) (s : List Nat) (bl : List Int) (to cell : Nat) (way : Nat) : Prop :=
  ∃ x : Nat, goesS W H s cell way = ((x : Int), true) ∧ (x : Int) ∉ bl ∧ farI (stepsS W H s bl) to x = farI (stepsS W H s bl) to cell - 1 ∧ 0 ≤ farI (stepsS W H s bl) to x
theorem nearer_end {W H : Int} {s : List Nat} {bl : List Int} {to cell : Nat} {b : Bool} (h : Found1 (farI (stepsS W H s bl) to cell ≤ 0) (Nearer W H s bl to cell) 5 b) : b = true := by
  by_cases h0 : farI (stepsS W H s bl) to cell ≤ 0
  · exact h.2 (.inl h0)
  · obtain ⟨x, hx, h1, h2⟩ := farI_step (S := stepsS W H s bl) (to := to) (c := cell) (by omega)
    obtain ⟨way, hw, hg, hb⟩ := steps_mem.1 hx
    exact h.2 (.inr ⟨way, hw.1, by omega, x, hg, hb, h2, h1⟩)
theorem farI_le {W H : Int} {s : List Nat} {bl : List Int} {to c : Nat} (hto : to < s.length) : farI (stepsS W H s bl) to c ≤ s.length := by
  rcases farI_case (stepsS W H s bl) to c with ⟨n, h1, h2⟩ | ⟨h1, _⟩
  · rw [h1]
    have := h2.lt (N := s.length) (fun b c hb => step_from hb) hto
    omega
  · omega

set_option maxRecDepth 100000 in
set_option maxHeartbeats 2000000 in
theorem distSteps_walk (W H : Int) (s : ByteArray) (to : Int) (a1 : Option Addr) (n1 c1 : Nat) (z1 : List Int) (w : World)
    (_ : (Lit.int .i64 W).wf = true) (_ : (Lit.int .i64 H).wf = true) (hs : s.size ≤ maxLen) (_ : (Lit.int .i64 to).wf = true) (hi1 : IsRow .i64 w a1 n1 c1 z1) :
    Calls Try.prog 4 #[gridV W H s, .int .i64 to, .slice a1 n1 c1] w fun e w' => e = .returned (.bool true) ∧ Below w.heap.size w w' := by
  obtain ⟨r1, f1, m1⟩ := hi1.rowZ
  clear hi1
  generalize z1.take n1 = l1 at r1 f1
  have hB0 : Below w.heap.size w (w.alloc (gridO W H s)) := (Below.refl _ _).alloc (Nat.le_refl _) _
  have hg0 := gridAt_new w W H s
  have hz0 : (w.alloc (gridO W H s)).heap.size = w.heap.size + 1 := by simp
  have HF1 := Lib.hid f1
  have HR1 := Lib.hid r1
  have HLI := Lib.hid fun w => light4_any W H s a1 none n1 c1 0 0 w hs m1 (by unfold maxLen; omega)
  have HRC := Lib.hid fun w => right_any W H s w hs
  have HRR := Lib.hid fun w => rright_any W H s w hs
  have HSM := Lib.hid hs
  clear f1 r1
  unfold maxLen at hs m1
  go_enter Try.func4, Try.ntmps4
  go_wp2_with fail
  generalize w.alloc (gridO W H s) = w3 at hB0 hg0 hz0
  refine (awake4_any w3).mono ?_
  rintro e w4 ⟨rfl, hb4⟩
  have hB4 := hB0.trans (hb4.mono hB0.size)
  have hg4 := hg0.below hb4 (by omega)
  have hz4 := hb4.size
  obtain ⟨g1, g2, g3⟩ := id hg4
  have HG4 := Lib.hid hg4
  clear hg0 hg4 hb4
  go_wp2_with fail
  cases hlg : lightS s.size n1 0
  · have hli := HLI.out w4
    rw [hlg] at hli
    have HLI2 := Lib.hid hli
    clear hli hlg HLI
    refine HLI2.out.mono ?_
    rintro e w5 ⟨rfl, hb5⟩
    have hB5 := hB4.trans (hb5.mono hB4.size)
    go_wp2_with fail
    go_ret
    exact ⟨rfl, hB5⟩
  have hli := HLI.out w4
  rw [hlg] at hli
  have HLI2 := Lib.hid hli
  obtain ⟨hle, hn1, -⟩ := lightS_in hlg
  clear hli hlg HLI
  refine HLI2.out.mono ?_
  rintro e w5 ⟨rfl, hb5⟩
  have hB5 := hB4.trans (hb5.mono hB4.size)
  have hg5 := HG4.out.below hb5 (by omega)
  have hz5 := hb5.size
  obtain ⟨g1, g2, g3⟩ := id hg5
  have HG5 := Lib.hid hg5
  clear hg5 HG4 hb5 HLI2 hB4
  go_wp2_with fail
  cases hrg : rightS W H (bytesOf s)
  · have hri := HRC.out w5
    rw [hrg] at hri
    have HRI2 := Lib.hid hri
    clear hri hrg HRC HRR
    refine HRI2.out.mono ?_
    rintro e w6 ⟨rfl, hb6⟩
    have hB6 := hB5.trans (hb6.mono hB5.size)
    go_wp2_with fail
    go_ret
    exact ⟨rfl, hB6⟩
  have hri := HRC.out w5
  rw [hrg] at hri
  have HRI2 := Lib.hid hri
  have hrr := HRR.out
  rw [hrg] at hrr
  have HRR2 := Lib.hid hrr
  have HOK := Lib.hid (Okay.of hrg)
  clear hri hrg HRC hrr HRR
  refine HRI2.out.mono ?_
  rintro e w6 ⟨rfl, hb6⟩
  have hB6 := hB5.trans (hb6.mono hB5.size)
  have hg6 := HG5.out.below hb6 (by omega)
  have hz6 := hb6.size
  obtain ⟨g1, g2, g3⟩ := id hg6
  have HG6 := Lib.hid hg6
  clear hg6 HG5 hb6 HRI2 hB5
  go_wp2_with fail
  refine (HRR2.out _).mono ?_
  rintro e w7 ⟨rfl, hb7⟩
  have hB7 := hB6.trans (hb7.mono hB6.size)
  have hg7 := HG6.out.below hb7 (by omega)
  have hz7 := hb7.size
  obtain ⟨g1, g2, g3⟩ := id hg7
  have HG7 := Lib.hid hg7
  clear hg7 HG6 hb7 HRR2 hB6
  go_wp2_with fail
  cases hft : floorS (bytesOf s) to
  · have HFN := Lib.hid (field_no W H to s a1 n1 c1 w7 HSM.out hft)
    have hfl := fun w => floor_any W H to s w HSM.out
    rw [hft] at hfl
    have HFL := Lib.hid hfl
    clear hfl hft
    refine HFN.out.mono ?_
    rintro e w8 ⟨rfl, hb8⟩
    have hB8 := hB7.trans (hb8.mono hB7.size)
    obtain ⟨g1, g2, g3⟩ := HG7.out.below hb8 (by omega)
    go_wp2_with fail
    refine (HFL.out _).mono ?_
    rintro e w9 ⟨rfl, hb9⟩
    have hB9 := hB8.trans (hb9.mono hB8.size)
    go_wp2_with fail
    go_ret
    exact ⟨rfl, hB9⟩
  obtain ⟨t, rfl⟩ := Int.eq_ofNat_of_zero_le (floorS_in hft).1
  have htn : t < s.size := by have := floorS_in hft; rw [bytesOf_len] at this; omega
  have HFY := Lib.hid (field_yes W H t s l1 a1 n1 c1 w.heap.size w7 HOK.out hft (HR1.out.below hB7) hB7.size HF1.out (by omega))
  clear hft
  refine HFY.out.mono ?_
  rintro e w8 ⟨lb, l, rfl, hfi, hnz, hb8⟩
  have hB8 := hB7.trans (hb8.mono hB7.size)
  have hg8 := HG7.out.below hb8 (by omega)
  have hz8 := hb8.size
  obtain ⟨g1, g2, g3⟩ := id hg8
  have q0 := hnz.cell (i := t) (by rw [hfi.1]; exact htn)
  rw [hfi.at htn, farI_self] at q0
  have hmk := make_bools w8 s.size (by omega)
  have hma := marks_made w8 s.size (by omega)
  have hbm : Below w8.heap.size w8 (w8.alloc (.cells ⟨bools (List.replicate s.size false)⟩ 4)) := (Below.refl _ _).alloc (Nat.le_refl _) _
  generalize w8.alloc (.cells ⟨bools (List.replicate s.size false)⟩ 4) = w9 at hmk hma hbm
  have HBN : Hid (Bench w.heap.size W H s lb w8.heap.size l (shutS s.size []) w9) := ⟨hg8.below hbm (by omega), (hnz.calls hbm).mono (by omega), by rw [shutS_nil]; exact hma.mono (by omega)⟩
  have hB9 := hB8.trans (hbm.mono hB8.size)
  have HFI := Lib.hid hfi
  have HB9 := Lib.hid hB9
  have HL1 := Lib.hid HR1.out.1
  clear hg8 hnz hfi hma hbm hb8 HFY HG7 hB7 hB8 hB9
  go_wp2_with fail
  go_loopg [12] n1 (fun k vi wr => ∃ i : Nat, vi = .int .i64 i ∧ i + k = n1 ∧ Bench w.heap.size W H s lb w8.heap.size l (shutS s.size (l1.take i)) wr ∧ Below w.heap.size w wr)
  case atStart => exact ⟨0, rfl, by omega, HBN.out, HB9.out⟩
  case round =>
    obtain ⟨i, rfl, hik, hbn, hbel⟩ := hrel
    have HBN2 := Lib.hid hbn
    by_cases hi : i < n1
    · obtain ⟨b2, off, rfl, hb2, hcs⟩ := HR1.out.cells (by omega)
      have hcx := (hbel.cell (p := ⟨b2, off + i, none⟩) hb2).trans (hcs i hi)
      generalize hz : l1.getD i 0 = z at hcx
      have HZ := Lib.hid hz
      have hil : i < l1.length := by rw [HL1.out]; exact hi
      have HIL := Lib.hid hil
      clear hcs hz hil
      by_cases hz0 : 0 ≤ z
      · by_cases hz1 : z < (s.size : Int)
        · obtain ⟨m, rfl⟩ := Int.eq_ofNat_of_zero_le hz0
          have hmn : m < s.size := by omega
          have q1 := hbn.m.cell (i := m) (by rw [shutS_len]; exact hmn)
          have q2 := hbn.m.frozen m
          generalize (shutS s.size (l1.take i)).getD m false = bm at q1
          have hb3 := hbn.set m
          rw [shutS_set HIL.out HZ.out] at hb3
          have HB3 := Lib.hid hb3
          have hbel3 : Below w.heap.size w (wr.setCell ⟨w8.heap.size, m, none⟩ (.bool true)) := hbel.setCell (p := ⟨w8.heap.size, m, none⟩) (show w.heap.size ≤ w8.heap.size by omega) _
          have HBL3 := Lib.hid hbel3
          clear hbn hb3 hbel3
          go_wp2_with fail
          go_roundg (gk - 1)
          case measure => omega
          case rel => exact ⟨i + 1, by go_num, by omega, HB3.out, HBL3.out⟩
        · have hb3 := hbn
          rw [shutS_out HIL.out HZ.out (.inr (by omega))] at hb3
          have HB3 := Lib.hid hb3
          clear hbn hb3
          go_wp2_with fail
          go_roundg (gk - 1)
          case measure => omega
          case rel => exact ⟨i + 1, by go_num, by omega, HB3.out, hbel⟩
      · have hb3 := hbn
        rw [shutS_out HIL.out HZ.out (.inl (by omega))] at hb3
        have HB3 := Lib.hid hb3
        clear hbn hb3
        go_wp2_with fail
        go_roundg (gk - 1)
        case measure => omega
        case rel => exact ⟨i + 1, by go_num, by omega, HB3.out, hbel⟩
    · obtain rfl : i = n1 := by omega
      rw [List.take_of_length_le (by rw [HL1.out]; omega)] at hbn
      have HBN3 := Lib.hid hbn
      have HBL3 := Lib.hid hbel
      clear hbn hbel HBN2 hi hik
      go_wp2_with fail
      go_loopg [13] s.size (fun k vc wr => ∃ cell : Nat, vc = .int .i64 cell ∧ cell + k = s.size ∧ Bench w.heap.size W H s lb w8.heap.size l (shutS s.size l1) wr ∧ Below w.heap.size w wr)
      case atStart => exact ⟨0, rfl, by omega, HBN3.out, HBL3.out⟩
      case round =>
        obtain ⟨cell, rfl, hck, hbn, hbel⟩ := hrel
        obtain rfl : gk = s.size - cell := by omega
        by_cases hc : cell < s.size
        · have qc := hbn.n.cell (i := cell) (by rw [HFI.out.1]; exact hc)
          rw [HFI.out.at hc] at qc
          have hd0 := farI_ge (stepsS W H (bytesOf s) l1) t cell
          have hd9 := farI_le (W := W) (H := H) (s := bytesOf s) (bl := l1) (c := cell) (to := t) (by rw [bytesOf_len]; exact htn)
          rw [bytesOf_len] at hd9
          have hstart : Found1 (farI (stepsS W H (bytesOf s) l1) t cell ≤ 0) (Nearer W H (bytesOf s) l1 t cell) 1 (decide (farI (stepsS W H (bytesOf s) l1) t cell ≤ 0)) :=
            ⟨fun h => .inl (of_decide_eq_true h), fun h => h.elim (fun h => decide_eq_true h) (fun ⟨w, h1, h2, _⟩ => by omega)⟩
          obtain ⟨dc, hdc⟩ : ∃ dc, farI (stepsS W H (bytesOf s) l1) t cell = dc := ⟨_, rfl⟩
          rw [hdc] at qc hd0 hd9 hstart
          have HDC := Lib.hid hdc
          have HSTART := Lib.hid hstart
          have HBN4 := Lib.hid hbn
          clear hstart hdc hbn
          go_wp2_with fail
          go_loopg [14, 15] 4 (fun k vb vw wz => ∃ (way : Nat) (sm : Bool), vw = .int .i64 way ∧ way + k = 5 ∧ 1 ≤ way ∧ vb = .bool sm ∧ Bench w.heap.size W H s lb w8.heap.size l (shutS s.size l1) wz ∧ Below w.heap.size w wz ∧ Hid (Found1 (dc ≤ 0) (Nearer W H (bytesOf s) l1 t cell) way sm))
          case atStart => exact ⟨1, decide (dc ≤ 0), rfl, by omega, by omega, rfl, HBN4.out, hbel, HSTART⟩
          case round =>
            obtain ⟨way, sm, rfl, hwk, hw1, rfl, hbz, hbelz, HFO⟩ := hrel
            have HBZ := Lib.hid hbz
            by_cases hw : way ≤ 4
            · have hwi : (way : Int) ≤ 4 := by omega
              obtain ⟨g1, g2, g3⟩ := id hbz.g
              have HRG := goes_any W H cell way s wr HOK.out
              obtain ⟨o, ok, hR⟩ : ∃ o ok, goesS W H (bytesOf s) cell way = (o, ok) := ⟨_, _, rfl⟩
              rw [hR] at HRG
              simp only [] at HRG
              have HRG2 := Lib.hid HRG
              clear HRG hbz qc
              cases ok
              · have HFO2 := Lib.hid (HFO.out.skip (fun ⟨x, hx, _⟩ => by rw [hR] at hx; cases hx))
                clear hR
                go_wp2_with fail
                refine HRG2.out.mono ?_
                rintro e w5z ⟨rfl, hb5⟩
                have HBZ5 := Lib.hid (HBZ.out.calls hb5)
                have hbel5 := hbelz.trans (hb5.mono hbelz.size)
                clear g1 g2 g3 hb5
                go_wp2_with fail
                go_roundg (gk - 1)
                case measure => omega
                case rel => exact ⟨way + 1, sm, by go_num, by omega, by omega, rfl, HBZ5.out, hbel5, HFO2⟩
              · obtain ⟨ho0, hoN⟩ := goesS_nat hR
                rw [bytesOf_len] at hoN
                obtain ⟨m, rfl⟩ := Int.eq_ofNat_of_zero_le ho0
                have hmN : m < s.size := by omega
                by_cases hmb : (m : Int) ∈ l1
                · have HFO2 := Lib.hid (HFO.out.skip (fun ⟨x, hx, hnb, _⟩ => by
                    rw [hR] at hx
                    have h4 : (m : Int) = x := congrArg Prod.fst hx
                    rw [← h4] at hnb
                    exact hnb hmb))
                  have HMB := Lib.hid hmb
                  clear hR hmb
                  go_wp2_with fail
                  refine HRG2.out.mono ?_
                  rintro e w5z ⟨rfl, hb5⟩
                  have hbz5 := HBZ.out.calls hb5
                  have qs := hbz5.m.cell (i := m) (by rw [shutS_len]; exact hmN)
                  rw [shutS_at hmN, decide_eq_true HMB.out] at qs
                  have HBZ5 := Lib.hid hbz5
                  have hbel5 := hbelz.trans (hb5.mono hbelz.size)
                  clear g1 g2 g3 hb5 hbz5
                  go_wp2_with fail
                  go_roundg (gk - 1)
                  case measure => omega
                  case rel => exact ⟨way + 1, sm, by go_num, by omega, by omega, rfl, HBZ5.out, hbel5, HFO2⟩
                · have hxs : m ∈ stepsS W H (bytesOf s) l1 cell := steps_mem.2 ⟨way, ⟨hw1, hw⟩, hR, hmb⟩
                  have hnear := fun h0 => farI_near (S := stepsS W H (bytesOf s) l1) (to := t) hxs h0
                  have hx0 := farI_ge (stepsS W H (bytesOf s) l1) t m
                  have hx9 := farI_le (W := W) (H := H) (s := bytesOf s) (bl := l1) (c := m) (to := t) (by rw [bytesOf_len]; exact htn)
                  rw [bytesOf_len] at hx9
                  obtain ⟨dx, hdx⟩ : ∃ dx, farI (stepsS W H (bytesOf s) l1) t m = dx := ⟨_, rfl⟩
                  rw [hdx, HDC.out] at hnear
                  rw [hdx] at hx0 hx9
                  have hyes : dx = dc - 1 → 0 ≤ dx → Nearer W H (bytesOf s) l1 t cell way := fun h1 h2 => ⟨m, hR, hmb, by rw [hdx, HDC.out]; exact h1, by rw [hdx]; exact h2⟩
                  have hnot : ¬ (dx = dc - 1 ∧ 0 ≤ dx) → ¬ Nearer W H (bytesOf s) l1 t cell way := fun h ⟨x, hx, _, h1, h2⟩ => by
                    rw [hR] at hx
                    have h4 : (m : Int) = x := congrArg Prod.fst hx
                    obtain rfl : m = x := by omega
                    rw [hdx, HDC.out] at h1
                    rw [hdx] at h2
                    exact h ⟨h1, h2⟩
                  have HNEAR := Lib.hid hnear
                  have HYES := Lib.hid hyes
                  have HNOT := Lib.hid hnot
                  have HMB := Lib.hid hmb
                  have HDX := Lib.hid hdx
                  clear hR hmb hxs hnear hyes hnot hdx
                  go_wp2_with fail
                  refine HRG2.out.mono ?_
                  rintro e w5z ⟨rfl, hb5⟩
                  have hbz5 := HBZ.out.calls hb5
                  have qs := hbz5.m.cell (i := m) (by rw [shutS_len]; exact hmN)
                  rw [shutS_at hmN, decide_eq_false HMB.out] at qs
                  have qx := hbz5.n.cell (i := m) (by rw [HFI.out.1]; exact hmN)
                  rw [HFI.out.at hmN, HDX.out] at qx
                  have qc := hbz5.n.cell (i := cell) (by rw [HFI.out.1]; exact hc)
                  rw [HFI.out.at hc, HDC.out] at qc
                  have HBZ5 := Lib.hid hbz5
                  have hbel5 := hbelz.trans (hb5.mono hbelz.size)
                  have HBL5 := Lib.hid hbel5
                  clear g1 g2 g3 hb5 hbz5 hbel5
                  have i1 : (0 : Int) ≤ (m : Int) := by omega
                  have i2 : (m : Int) < (s.size : Int) := by omega
                  have i3 : (0 : Int) ≤ (cell : Int) := by omega
                  have i4 : (cell : Int) < (s.size : Int) := by omega
                  by_cases hx : 0 ≤ dx
                  · obtain ⟨y1, y2⟩ := HNEAR.out hx
                    have y0 : decide (0 ≤ dx) = true := decide_eq_true hx
                    have y3 : decide (dc < 0) = false := decide_eq_false (by omega)
                    have y4 : decide (dx + 1 < dc) = false := decide_eq_false (by omega)
                    cases sm
                    · by_cases hE : dx = dc - 1
                      · have e1 : (dx == dc - 1) = true := by simpa using hE
                        have HFO2 := Lib.hid (Found1.yes (P0 := dc ≤ 0) (b := true) hw1 (HYES.out hE hx))
                        clear hE
                        go_wp2_with fail
                        go_quiet (fail)
                        go_wp2_with fail
                        go_quiet (fail)
                        go_wp2_with fail
                        go_roundg (gk - 1)
                        case measure => omega
                        case rel => exact ⟨way + 1, _, by go_num, by omega, by omega, rfl, (by first | exact HBZ5.out.drewN _ | exact (HBZ5.out.drewN _).drewN _), (by first | exact below_drewN HBL5.out _ | exact below_drewN (below_drewN HBL5.out _) _), HFO2⟩
                      · have e1 : (dx == dc - 1) = false := by simpa using hE
                        have HFO2 := Lib.hid (HFO.out.skip (HNOT.out (fun h => hE h.1)))
                        clear hE
                        go_wp2_with fail
                        go_quiet (fail)
                        go_wp2_with fail
                        go_quiet (fail)
                        go_wp2_with fail
                        go_roundg (gk - 1)
                        case measure => omega
                        case rel => exact ⟨way + 1, _, by go_num, by omega, by omega, rfl, (by first | exact HBZ5.out.drewN _ | exact (HBZ5.out.drewN _).drewN _), (by first | exact below_drewN HBL5.out _ | exact below_drewN (below_drewN HBL5.out _) _), HFO2⟩
                    · have HFO2 := Lib.hid (Found1.still HFO.out)
                      go_wp2_with fail
                      go_quiet (fail)
                      go_wp2_with fail
                      go_quiet (fail)
                      go_wp2_with fail
                      go_roundg (gk - 1)
                      case measure => omega
                      case rel => exact ⟨way + 1, _, by go_num, by omega, by omega, rfl, (by first | exact HBZ5.out.drewN _ | exact (HBZ5.out.drewN _).drewN _), (by first | exact below_drewN HBL5.out _ | exact below_drewN (below_drewN HBL5.out _) _), HFO2⟩
                  · have y0 : decide (0 ≤ dx) = false := decide_eq_false hx
                    have hx2 : dx < 0 := by omega
                    cases sm
                    · have HFO2 := Lib.hid (HFO.out.skip (HNOT.out (fun h => hx h.2)))
                      by_cases hE : dx = dc - 1
                      · have e1 : (dx == dc - 1) = true := by simpa using hE
                        clear hE
                        go_wp2_with fail
                        go_quiet (fail)
                        go_wp2_with fail
                        go_quiet (fail)
                        go_wp2_with fail
                        go_roundg (gk - 1)
                        case measure => omega
                        case rel => exact ⟨way + 1, _, by go_num, by omega, by omega, rfl, (by first | exact HBZ5.out.drewN _ | exact (HBZ5.out.drewN _).drewN _), (by first | exact below_drewN HBL5.out _ | exact below_drewN (below_drewN HBL5.out _) _), HFO2⟩
                      · have e1 : (dx == dc - 1) = false := by simpa using hE
                        clear hE
                        go_wp2_with fail
                        go_quiet (fail)
                        go_wp2_with fail
                        go_quiet (fail)
                        go_wp2_with fail
                        go_roundg (gk - 1)
                        case measure => omega
                        case rel => exact ⟨way + 1, _, by go_num, by omega, by omega, rfl, (by first | exact HBZ5.out.drewN _ | exact (HBZ5.out.drewN _).drewN _), (by first | exact below_drewN HBL5.out _ | exact below_drewN (below_drewN HBL5.out _) _), HFO2⟩
                    · have HFO2 := Lib.hid (Found1.still HFO.out)
                      go_wp2_with fail
                      go_quiet (fail)
                      go_wp2_with fail
                      go_quiet (fail)
                      go_wp2_with fail
                      go_roundg (gk - 1)
                      case measure => omega
                      case rel => exact ⟨way + 1, _, by go_num, by omega, by omega, rfl, (by first | exact HBZ5.out.drewN _ | exact (HBZ5.out.drewN _).drewN _), (by first | exact below_drewN HBL5.out _ | exact below_drewN (below_drewN HBL5.out _) _), HFO2⟩
            · obtain rfl : way = 5 := by omega
              have hsm : sm = true := nearer_end (W := W) (H := H) (s := bytesOf s) (bl := l1) (to := t) (cell := cell) (by rw [HDC.out]; exact HFO.out)
              subst hsm
              have qc := hbz.n.cell (i := cell) (by rw [HFI.out.1]; exact hc)
              rw [HFI.out.at hc, HDC.out] at qc
              have y5 : decide (dc < -1) = false := decide_eq_false (by omega)
              have hzero : dc = 0 → cell = t := fun h => by
                have := HDC.out
                rw [h] at this
                exact farI_zero.1 this
              have HZERO := Lib.hid hzero
              clear hbz hzero hw
              by_cases hdz : dc = 0
              · have HCT := Lib.hid (HZERO.out hdz)
                have y6 : ((cell : Int) != (t : Int)) = false := by rw [HCT.out]; simp
                have y7 : (dc == 0) = true := by simpa using hdz
                clear hdz
                go_wp2_with fail
                go_roundg (s.size - (cell + 1))
                case measure => omega
                case rel => exact ⟨cell + 1, by go_num, by omega, HBZ.out, hbelz⟩
              · have y7 : (dc == 0) = false := by simpa using hdz
                clear hdz
                go_wp2_with fail
                go_roundg (s.size - (cell + 1))
                case measure => omega
                case rel => exact ⟨cell + 1, by go_num, by omega, HBZ.out, hbelz⟩
        · obtain rfl : cell = s.size := by omega
          go_wp2_with fail
          go_ret
          exact ⟨rfl, hbel⟩
end Go.Proofs.Ytgjolllacchdeaa.Vm
