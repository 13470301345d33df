/- The program's disk: burn, begin, Left. -/
import Derived.Test.YtkfjbpcngmipnaaDkOps
import Derived.Deep.QuietTactic
import Derived.BigQuiet
namespace Go.Proofs.Ytkfjbpcngmipnaa.Vm
open Go Go.RowKit Go.Maps
set_option maxRecDepth 100000

set_option maxHeartbeats 1000000 in
theorem pBurn13_any (bd mb : Nat) (g : ByteArray → Option PF) (fu : Int) (d : DiskS) (w : World) (h : PrgAt w bd mb g fu d) (hd : OkD d) :
    Calls Try.prog 48 #[.pointer (some ⟨bd, 0, none⟩)] w fun e w' => e = .returned (.int .i64 (burnS d).1) ∧ (∃ fu', PrgAt w' bd mb g fu' (burnS d).2) ∧ Alt (fun k => k = bd) w w' := by
  obtain ⟨_, _, _, q3, q4⟩ := h.box.cells
  have f3 := h.box.frozen 3
  have f4 := h.box.frozen 4
  have hfu := h.fuse
  have hwf := h.wf
  have hb := hd.burn
  have HR := Lib.hid h
  clear h hd
  by_cases h0 : fu = 0
  · have HB : Hid (burnS d = (9, { d with down := true })) := by unfold Hid burnS; rw [if_pos (.inr (by omega))]
    have HP : Hid (PrgAt (w.setCell ⟨bd, 4, none⟩ (.bool false)) bd mb g fu { d with down := true }) := HR.out.store (d' := { d with down := true }) rfl rfl hfu hwf
    have HA := Lib.hid (setCell_alt w bd 4 (.bool false))
    have e0 : (fu == 0) = true := by simpa using h0
    clear h0 hfu hwf hb
    generalize hdn : d.down = dn at q4
    clear hdn
    go_enter Try.func48, Try.ntmps48
    go_wp2_with fail
    go_ret
    rw [HB.out]
    exact ⟨rfl, ⟨_, HP.out⟩, HA.out⟩
  · have e0 : (fu == 0) = false := by simpa using h0
    cases hdn : d.down with
    | true =>
      rw [hdn] at q4
      have HB : Hid (burnS d = (9, d)) := by
        unfold Hid burnS
        rw [if_pos (.inl hdn)]
        cases d
        simp at hdn
        subst hdn
        rfl
      clear h0 hfu hwf hb hdn
      go_enter Try.func48, Try.ntmps48
      go_wp2_with fail
      go_ret
      rw [HB.out]
      exact ⟨rfl, ⟨_, HR.out⟩, Alt.refl _ _⟩
    | false =>
      rw [hdn] at q4
      have hno : ¬ (d.down = true ∨ d.burn = 0) := by
        rw [hdn]
        rintro (h | h)
        · cases h
        · omega
      by_cases hp : 0 < fu
      · have HB : Hid (burnS d = (0, { d with burn := d.burn - 1 })) := by unfold Hid burnS; rw [if_neg hno, if_pos (by omega)]
        have HP : Hid (PrgAt (w.setCell ⟨bd, 3, none⟩ (.int .i64 (fu - 1))) bd mb g (fu - 1) { d with burn := d.burn - 1 }) := HR.out.store (d' := { d with burn := d.burn - 1 }) rfl rfl (by show max (fu - 1) (-1) = d.burn - 1; omega) (by omega)
        have HA := Lib.hid (setCell_alt w bd 3 (.int .i64 (fu - 1)))
        have d1 : decide (0 < fu) = true := by rw [decide_eq_true_eq]; exact hp
        have hw : IntKind.i64.wrap (fu - 1) = fu - 1 := by rw [IntKind.wrap_i64]; omega
        clear h0 hfu hwf hb hno hdn
        go_enter Try.func48, Try.ntmps48
        go_wp2_with fail
        go_ret
        rw [HB.out]
        exact ⟨rfl, ⟨_, HP.out⟩, HA.out⟩
      · have HB : Hid (burnS d = (0, d)) := by unfold Hid burnS; rw [if_neg hno, if_neg (by omega)]
        have d1 : decide (0 < fu) = false := by rw [decide_eq_false_iff_not]; exact hp
        clear h0 hfu hwf hb hno hdn
        go_enter Try.func48, Try.ntmps48
        go_wp2_with fail
        go_ret
        rw [HB.out]
        exact ⟨rfl, ⟨_, HR.out⟩, Alt.refl _ _⟩

def beginS (d : DiskS) (l : List ByteArray) : Int × DiskS := if ∀ n ∈ l, okName n then burnS d else (1, d)
theorem beginS_one (d : DiskS) (n : ByteArray) : beginS d [n] = burnsS d n n := by
  unfold beginS burnsS
  by_cases h : okName n
  · rw [if_pos (by intro m hm; simp at hm; rw [hm]; exact h), if_pos ⟨h, h⟩]
  · rw [if_neg (fun h2 => h (h2 n (by simp))), if_neg (fun h2 => h h2.1)]
theorem beginS_two (d : DiskS) (n m : ByteArray) : beginS d [n, m] = burnsS d n m := by
  unfold beginS burnsS
  by_cases h : okName n ∧ okName m
  · rw [if_pos (by intro k hk; simp at hk; rcases hk with rfl | rfl; exact h.1; exact h.2), if_pos h]
  · rw [if_neg (fun h2 => h ⟨h2 n (by simp), h2 m (by simp)⟩), if_neg h]
set_option maxHeartbeats 1000000 in
theorem pBegin13_any (bd mb : Nat) (g : ByteArray → Option PF) (fu : Int) (d : DiskS) (a : Option Addr) (n c B : Nat) (l : List ByteArray) (w : World) (h : PrgAt w bd mb g fu d) (hd : OkD d) (hl : RowN w B a n c l) (hm : ∀ x ∈ l, x.size ≤ maxLen) (hn : n ≤ 100) :
    Calls Try.prog 41 #[.pointer (some ⟨bd, 0, none⟩), .slice a n c] w fun e w' => e = .returned (.int .i64 (beginS d l).1) ∧ (∃ fu', PrgAt w' bd mb g fu' (beginS d l).2) ∧ Alt (fun k => k = bd) w w' := by
  have HBU := Lib.hid (pBurn13_any bd mb g fu d w h hd)
  have HR := Lib.hid h
  have HLL := Lib.hid hl.1
  have HL := Lib.hid hl.2.2.2
  have HM := Lib.hid hm
  have hnc := hl.2.1
  have hcm := hl.2.2.1
  unfold maxLen at hcm
  clear h hd hl hm
  go_enter Try.func41, Try.ntmps41
  go_wp2_with fail
  go_loopg [9] n (fun gg v9 wr => ∃ i : Nat, i + gg = n ∧ v9 = .int .i64 i ∧ wr = w ∧ Hid (∀ x ∈ l.take i, okName x))
  case atStart => exact ⟨0, by omega, rfl, rfl, fun x hx => by simp at hx⟩
  case round =>
    obtain ⟨i, hig, rfl, rfl, HO⟩ := hrel
    by_cases hi : i < n
    · have hii : (i : Int) < (n : Int) := by omega
      have d1 : decide ((i : Int) < (n : Int)) = true := by rw [decide_eq_true_eq]; exact hii
      obtain ⟨b, off, rfl, _, hcs⟩ := HL.out (by omega)
      have hc := hcs i hi
      clear hcs
      have hmx := HM.out (l.getD i ⟨#[]⟩) (by simp [List.getD, show i < l.length by rw [HLL.out]; exact hi])
      have hmem : l.getD i ⟨#[]⟩ ∈ l := by simp [List.getD, show i < l.length by rw [HLL.out]; exact hi]
      have HME := Lib.hid hmem
      have HTK : Hid (l.take (i + 1) = l.take i ++ [l.getD i ⟨#[]⟩]) := by
        unfold Hid
        rw [List.take_add_one, List.getElem?_eq_getElem (by rw [HLL.out]; exact hi)]
        simp [List.getD, show i < l.length by rw [HLL.out]; exact hi]
      clear hmem
      generalize l.getD i ⟨#[]⟩ = x at *
      unfold maxLen at hmx
      by_cases h1 : x.size < 1
      · have d2 : decide ((x.size : Int) < 1) = true := by rw [decide_eq_true_eq]; omega
        have HB : Hid (beginS d l = (1, d)) := by unfold Hid beginS; rw [if_neg (fun h => by have := (h x HME.out).1; omega)]
        go_wp2_with fail
        go_ret
        rw [HB.out]
        exact ⟨rfl, ⟨_, HR.out⟩, Alt.refl _ _⟩
      · have d2 : decide ((x.size : Int) < 1) = false := by rw [decide_eq_false_iff_not]; omega
        by_cases h2 : 40 < x.size
        · have d3 : decide ((40 : Int) < (x.size : Int)) = true := by rw [decide_eq_true_eq]; omega
          have HB : Hid (beginS d l = (1, d)) := by unfold Hid beginS; rw [if_neg (fun h => by have := (h x HME.out).2; omega)]
          go_wp2_with fail
          go_ret
          rw [HB.out]
          exact ⟨rfl, ⟨_, HR.out⟩, Alt.refl _ _⟩
        · have d3 : decide ((40 : Int) < (x.size : Int)) = false := by rw [decide_eq_false_iff_not]; omega
          have HO2 : Hid (∀ y ∈ l.take (i + 1), okName y) := by
            intro y hy
            rw [HTK.out] at hy
            rcases List.mem_append.1 hy with hy | hy
            · exact HO.out y hy
            · simp at hy
              rw [hy]
              exact ⟨by omega, by omega⟩
          go_wp2_with fail
          go_roundg (gk - 1)
          case rel => exact ⟨i + 1, by omega, by first | rfl | go_num, rfl, HO2⟩
          case measure => omega
    · obtain rfl : i = n := by omega
      have d1 : decide ((i : Int) < (i : Int)) = false := by simp
      have HB : Hid (beginS d l = burnS d) := by
        unfold Hid beginS
        have := HO.out
        rw [List.take_of_length_le (by rw [HLL.out]; omega)] at this
        rw [if_pos this]
      go_wp2_with fail
      refine HBU.out.mono ?_
      rintro e w1 ⟨rfl, hp, hA⟩
      have HP := Lib.hid hp
      have HA := Lib.hid hA
      clear hp hA
      go_wp2_with fail
      go_ret
      rw [HB.out]
      exact ⟨rfl, HP.out, HA.out⟩

set_option maxHeartbeats 1000000 in
theorem pLeft13_any (bd mb : Nat) (g : ByteArray → Option PF) (fu : Int) (d : DiskS) (w : World) (h : PrgAt w bd mb g fu d) (hd : OkD d) :
    Calls Try.prog 22 #[.pointer (some ⟨bd, 0, none⟩)] w fun e w' => e = .returned (.int .i64 (leftS d)) ∧ ∃ m, w' = w.drewN m := by
  obtain ⟨_, q1, q2, _, _⟩ := h.box.cells
  have hm := hd.most
  have ha := hd.all
  have HE : Hid (leftS d = max (d.most - (allS d.F : Nat)) 0) := rfl
  clear h hd
  generalize d.most = M at *
  generalize allS d.F = A at *
  have hw : IntKind.i64.wrap (M - (A : Int)) = M - (A : Int) := by rw [IntKind.wrap_i64]; omega
  by_cases hl : 0 < M - (A : Int)
  · have HM : Hid (leftS d = M - (A : Int)) := by have := HE.out; unfold Hid; omega
    go_enter Try.func22, Try.ntmps22
    go_wp2_with fail
    go_quiet (fail)
    all_goals
      go_wp2_with fail
      go_ret
      first
        | exact ⟨ret_z13 (by have := HM.out; omega), _, rfl⟩
        | exact absurd hl (by omega)
  · have HM : Hid (leftS d = 0) := by have := HE.out; unfold Hid; omega
    go_enter Try.func22, Try.ntmps22
    go_wp2_with fail
    go_quiet (fail)
    all_goals
      go_wp2_with fail
      go_ret
      first
        | exact ⟨ret_z13 (by have := HM.out; omega), _, rfl⟩
        | exact absurd hl (by omega)
end Go.Proofs.Ytkfjbpcngmipnaa.Vm
