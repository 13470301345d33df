/- The contracts of codec's ReadState: the closure that recovers, read, ReadState. The contracts of codec's ReadRecord: the closure that recovers, read, ReadRecord. -/
import Derived.Test.YtplnaaokapilpaaDoorTakeRecs
import Derived.Defers
import Derived.Recover
import Derived.Laws.Pointers
namespace Go.Proofs.YtplnaaokapilpaaDoor.Vm
open Go Go.RowKit



end Go.Proofs.YtplnaaokapilpaaDoor.Vm

namespace Go.Proofs.YtplnaaokapilpaaDoor.Vm
open Go Go.RowKit

theorem catchR_panicking (p : Addr) (x : Int) (u : TypeId) (pv : Value) (older : List PanicEntry) (w : World) (hc : w.cell? p = some (.int .i64 x)) (hz : w.frozen? p = false) :
    CallsD Tryd.prog 77 #[.pointer (some p)] (.panicking ({ v := .iface u pv, recovered := false } :: older)) w fun e u' w' =>
      e = .returned (.tuple #[]) ∧ u' = .panicking ({ v := .iface u pv, recovered := true } :: older) ∧ w' = w.setCell p (.int .i64 3) := by
  refine callsD_of_wpS Tryd.func77 rfl fun c₀ cs hu => ?_
  apply wpS_seq
  apply wpS_region
  simp [wpOpsS, go_sem, recoverD, hu, Tryd.ntmps77, Exit.thenS]
  refine wpS_cond (t := true) (by simp [Act.eval, Array.replicate]) ?_
  simp only [if_true]
  apply wpS_region
  simp [wpOpsS, go_sem, hc, hz, bodyPostS, results, Tryd.results77]
theorem catchR_idle (p : Addr) (w : World) :
    CallsD Tryd.prog 77 #[.pointer (some p)] .returning w fun e u' w' => e = .returned (.tuple #[]) ∧ u' = .returning ∧ w' = w := by
  refine callsD_of_wpS Tryd.func77 rfl fun c₀ cs hu => ?_
  apply wpS_seq
  apply wpS_region
  simp [wpOpsS, go_sem, recoverD, hu, Tryd.ntmps77, Exit.thenS]
  refine wpS_cond (t := false) (by simp [Act.eval, Array.replicate]) ?_
  simp only [Bool.false_eq_true, if_false]
  refine wpS_of_wp (wp_skip ?_)
  cases c₀
  simp_all [bodyPostS, results, Tryd.results77]

theorem RCopy.low {w w' : World} {B lb : Nat} {h : Rh} {x : Rcd} (c : RCopy w B h x) (hb : But lb w w') (hl : lb < B) : RCopy w' B h x :=
  ⟨c.tick, World.ownsRow.kept c.ins hb (.inr (fun e => by have := (World.ownsRow.lt c.ins lb e).1; omega)), World.ownsRow.kept c.cs hb (.inr (fun e => by have := (World.ownsRow.lt c.cs lb e).1; omega)), World.ownsRow.kept c.ws hb (.inr (fun e => by have := (World.ownsRow.lt c.ws lb e).1; omega)), c.ck⟩
set_option maxRecDepth 100000 in
set_option maxHeartbeats 4000000 in
theorem readR_any (a : Option Addr) (n c : Nat) (zs : List Nat) (w : World) (hr : Row .u8 w w.heap.size a n c zs) (hz : ∀ x ∈ zs, x < 256) (hn : n ≤ 90000) :
    Calls Tryd.prog 68 #[.slice a n c, .func (.func 69) #[] #[]] w fun e w' =>
      ∃ h' er, e = .returned (.tuple #[rhV h', .int .i64 er]) ∧ ((er = 0 ∧ ∃ s, OkR s ∧ encR s = zs ∧ RCopy w' w.heap.size h' s) ∨ (er = 3 ∧ h' = ⟨0, none, 0, 0, none, 0, 0, none, 0, 0, 0⟩ ∧ ¬ ∃ s, OkR s ∧ encR s = zs)) ∧ Below w.heap.size w w' := by
  have hmf : ∀ (fn : Fn) (first cap : Array Value) (w : World), (Instr.makeFunc fn first cap).run Tryd.prog w = .ok (.func fn first cap) w := fun _ _ _ _ => rfl
  obtain ⟨wa, hwa⟩ : ∃ wa, wa = w.alloc (rhO ⟨0, none, 0, 0, none, 0, 0, none, 0, 0, 0⟩) := ⟨_, rfl⟩
  obtain ⟨wb, hwb⟩ : ∃ wb, wb = wa.alloc (.cells #[.int .i64 0] 34) := ⟨_, rfl⟩
  obtain ⟨wc, hwc⟩ : ∃ wc, wc = wb.alloc (.cells #[.slice a n c, .int .i64 0] 131) := ⟨_, rfl⟩
  have hza : wa.heap.size = w.heap.size + 1 := by rw [hwa]; simp
  have hzb : wb.heap.size = w.heap.size + 2 := by rw [hwb]; simp [hza]
  have hzc : wc.heap.size = w.heap.size + 3 := by rw [hwc]; simp [hzb]
  have hba : Below w.heap.size w wa := by rw [hwa]; exact (Below.refl _ _).alloc (Nat.le_refl _) _
  have hbb : Below wa.heap.size wa wb := by rw [hwb]; exact (Below.refl _ _).alloc (Nat.le_refl _) _
  have hbc : Below wb.heap.size wb wc := by rw [hwc]; exact (Below.refl _ _).alloc (Nat.le_refl _) _
  have hxa : BoxAt wa w.heap.size #[.int .i64 0, .slice none 0 0, .slice none 0 0, .slice none 0 0, .int .u32 0] 44 := by rw [hwa]; exact boxAt_new _ _ _
  have hxb : BoxAt wb (w.heap.size + 1) #[.int .i64 0] 34 := by rw [← hza, hwb]; exact boxAt_new _ _ _
  have hxc : BoxAt wc (w.heap.size + 2) #[.slice a n c, .int .i64 0] 131 := by rw [← hzb, hwc]; exact boxAt_new _ _ _
  have HX := Lib.hid ((hxa.calls hbb).calls hbc)
  have HE := Lib.hid (hxb.calls hbc)
  have HB := Lib.hid (hba.trans ((hbb.mono (by omega)).trans (hbc.mono (by omega))))
  have HT := Lib.hid (takeRecord_any (w.heap.size + 2) w.heap.size a n c zs zs wc ⟨0, Nat.zero_le _, rfl, hxc⟩ (hr.below HB.out) hz (by omega) hn)
  have HZN := Lib.hid hr.1
  have HW : Hid (((w.alloc (rhO ⟨0, none, 0, 0, none, 0, 0, none, 0, 0, 0⟩)).alloc (.cells #[.int .i64 0] 34)).alloc (.cells #[.slice a n c, .int .i64 0] 131) = wc) := by rw [hwc, hwb, hwa]; rfl
  have HNY := Lib.hid need_yes
  have HNN := Lib.hid need_no
  clear hwa hwb hwc hba hbb hbc hxa hxb hxc hza hzb hr hz
  go_enter_defers Tryd.func68, Tryd.ntmps68
  go_wp2_with fail
  rw [HW.out]
  refine HT.out.mono ?_
  rintro e w1 ⟨⟨s, r, h', hcan, hzs, rfl, hcp, ⟨p, hp, hpr, hbx⟩⟩ | ⟨hno, rfl⟩, hbt⟩
  · have HX1 := Lib.hid (HX.out.but hbt (by omega))
    have HE1 := Lib.hid (HE.out.but hbt (by omega))
    have HB1 := Lib.hid (HB.out.trans (hbt.below (by omega) (by omega)))
    have hb2 : Below w1.heap.size w1 (w1.alloc (rhO h')) := (Below.refl _ _).alloc (Nat.le_refl _) _
    have cp : (w1.alloc (rhO h')).cell? ⟨w.heap.size + 1 + 1, 1, none⟩ = some (.int .i64 (p : Nat)) := (hbx.calls hb2).cell (i := 1) rfl
    have hz1 := hbt.size
    have hzn := HZN.out
    by_cases hpn : p = n
    · subst hpn
      have HA := Lib.hid ((show RCopy w1 wc.heap.size h' s from hcp).calls hb2)
      have HB2 := Lib.hid (HB1.out.trans (hb2.mono (by omega)))
      have HX2 := Lib.hid (HX1.out.calls hb2)
      have HE2 := Lib.hid (HE1.out.calls hb2)
      have hal := boxAt_new w1 #[.int .i64 h'.t, .slice h'.a1 h'.n1 h'.c1, .slice h'.a2 h'.n2 h'.c2, .slice h'.a3 h'.n3 h'.c3, .int .u32 h'.k] 44
      have a0 := hal.cell (i := 0) rfl
      have a1 := hal.cell (i := 1) rfl
      have a2 := hal.cell (i := 2) rfl
      have a3 := hal.cell (i := 3) rfl
      have a5 := hal.cell (i := 4) rfl
      have q0 := HX2.out.cell (i := 0) rfl
      have q1 := HX2.out.cell (i := 1) rfl
      have q2 := HX2.out.cell (i := 2) rfl
      have q3 := HX2.out.cell (i := 3) rfl
      have q5 := HX2.out.cell (i := 4) rfl
      have f0 := HX2.out.fz 0
      have f1 := HX2.out.fz 1
      have f2 := HX2.out.fz 2
      have f3 := HX2.out.fz 3
      have f5 := HX2.out.fz 4
      have q4 := HE2.out.cell (i := 0) rfl
      have f4 := HE2.out.fz 0
      have hn1 : w.heap.size ≠ w1.heap.size := by omega
      have hn2 : w.heap.size + 1 ≠ w1.heap.size := by omega
      have hrn : r = [] := by rw [← hpr]; exact List.drop_eq_nil_of_le (by omega)
      have HZS : Hid (encR s = zs) := by unfold Hid; rw [hzs, hrn, List.append_nil]
      have HCN := Lib.hid hcan
      clear hcan hzs hcp hpr hbt hbx hrn hal hb2
      go_wp2_with fail
      refine (HNY.out _).mono ?_
      rintro e w3 ⟨rfl, rfl⟩
      go_wp2_with fail
      clear a0 a1 a2 a3 a5 q0 q1 q2 q3 q5 f0 f1 f2 f3 f5 q4 f4 cp
      obtain ⟨V, hV⟩ : ∃ V, V = (((((((w1.alloc (rhO h')).setCell ⟨w.heap.size, 0, none⟩ (.int .i64 h'.t)).setCell ⟨w.heap.size, 1, none⟩ (.slice h'.a1 h'.n1 h'.c1)).setCell ⟨w.heap.size, 2, none⟩ (.slice h'.a2 h'.n2 h'.c2)).setCell ⟨w.heap.size, 3, none⟩ (.slice h'.a3 h'.n3 h'.c3)).setCell ⟨w.heap.size, 4, none⟩ (.int .u32 h'.k)).setCell ⟨w.heap.size + 1, 0, none⟩ (.int .i64 0)) := ⟨_, rfl⟩
      rw [← hV]
      have hk1 : But w.heap.size (w1.alloc (rhO h')) ((((((w1.alloc (rhO h')).setCell ⟨w.heap.size, 0, none⟩ (.int .i64 h'.t)).setCell ⟨w.heap.size, 1, none⟩ (.slice h'.a1 h'.n1 h'.c1)).setCell ⟨w.heap.size, 2, none⟩ (.slice h'.a2 h'.n2 h'.c2)).setCell ⟨w.heap.size, 3, none⟩ (.slice h'.a3 h'.n3 h'.c3)).setCell ⟨w.heap.size, 4, none⟩ (.int .u32 h'.k)) := (((((But.refl _ _).set _).set _).set _).set _).set _
      have hk2 : But (w.heap.size + 1) ((((((w1.alloc (rhO h')).setCell ⟨w.heap.size, 0, none⟩ (.int .i64 h'.t)).setCell ⟨w.heap.size, 1, none⟩ (.slice h'.a1 h'.n1 h'.c1)).setCell ⟨w.heap.size, 2, none⟩ (.slice h'.a2 h'.n2 h'.c2)).setCell ⟨w.heap.size, 3, none⟩ (.slice h'.a3 h'.n3 h'.c3)).setCell ⟨w.heap.size, 4, none⟩ (.int .u32 h'.k)) V := by rw [hV]; exact (But.refl _ _).set _
      have HXV : Hid (BoxAt V w.heap.size #[.int .i64 h'.t, .slice h'.a1 h'.n1 h'.c1, .slice h'.a2 h'.n2 h'.c2, .slice h'.a3 h'.n3 h'.c3, .int .u32 h'.k] 44) := BoxAt.but (((((HX2.out.set 0 _).set 1 _).set 2 _).set 3 _).set 4 _) hk2 (by omega)
      have HEV : Hid (BoxAt V (w.heap.size + 1) #[.int .i64 0] 34) := by rw [hV]; exact BoxAt.set (HE2.out.but hk1 (by omega)) 0 _
      have HAV : Hid (RCopy V wc.heap.size h' s) := (HA.out.turned HX2.out hk1 (by decide) (by decide) (by decide)).low hk2 (by omega)
      have HBV : Hid (Below w.heap.size w V) := HB2.out.trans ((hk1.below (Nat.le_refl _) HB2.out.size).trans (hk2.below (by omega) (Nat.le_trans HB2.out.size hk1.size)))
      clear hV hk1 hk2
      refine leaves_cons (f := 77) (args := #[.pointer (some ⟨w.heap.size + 1, 0, none⟩)]) (by simp) (by simp [go_sem]) ?_
      refine (catchR_idle ⟨w.heap.size + 1, 0, none⟩ _).mono ?_
      rintro e u' w'' ⟨rfl, rfl, rfl⟩
      have q0 := HXV.out.cell (i := 0) rfl
      have q1 := HXV.out.cell (i := 1) rfl
      have q2 := HXV.out.cell (i := 2) rfl
      have q3 := HXV.out.cell (i := 3) rfl
      have q5 := HXV.out.cell (i := 4) rfl
      have q4 := HEV.out.cell (i := 0) rfl
      simp [Leaves, settle, results, Tryd.results68, go_sem, q0, q1, q2, q3, q4, q5]
      exact ⟨h', 0, ⟨⟨rfl, ⟨rfl, rfl, rfl⟩, ⟨rfl, rfl, rfl⟩, ⟨rfl, rfl, rfl⟩, rfl⟩, rfl⟩, .inl ⟨rfl, s, HCN.out, HZS.out, HAV.out.mono (by omega)⟩, HBV.out⟩
    · have hne : ((p : Int) == (n : Int)) = false := by simp; omega
      clear hcp
      go_wp2_with fail
      refine (HNN.out _).mono ?_
      rintro e w3 ⟨rfl, rfl⟩
      have HB2 := Lib.hid (HB1.out.trans (hb2.mono (by omega)))
      have HX2 := Lib.hid (HX1.out.calls hb2)
      have HE2 := Lib.hid (HE1.out.calls hb2)
      refine leaves_cons (f := 77) (args := #[.pointer (some ⟨w.heap.size + 1, 0, none⟩)]) (by simp) (by simp [go_sem]) ?_
      refine (catchR_panicking ⟨w.heap.size + 1, 0, none⟩ 0 34 _ [] _ (HE2.out.cell (i := 0) rfl) (HE2.out.fz 0)).mono ?_
      rintro e u' w'' ⟨rfl, rfl, rfl⟩
      have q0 := HX2.out.cell (i := 0) rfl
      have q1 := HX2.out.cell (i := 1) rfl
      have q2 := HX2.out.cell (i := 2) rfl
      have q3 := HX2.out.cell (i := 3) rfl
      have q5 := HX2.out.cell (i := 4) rfl
      have q4 := HE2.out.cell (i := 0) rfl
      have HNO : Hid (∀ s', OkR s' → ¬ encR s' = zs) := fun s' hs' he => by
        rw [hzs, ← List.append_nil (encR s')] at he
        have h1 := (encR_pf hs' hcan (by rw [he, ← hzs]; omega) he).2
        rw [← h1] at hpr
        have h2 := congrArg List.length hpr
        rw [List.length_drop, List.length_nil] at h2
        omega
      clear hcan hzs hpr hbt hbx cp
      simp [Leaves, settle, results, Tryd.results68, go_sem, q0, q1, q2, q3, q4, q5]
      exact ⟨⟨0, none, 0, 0, none, 0, 0, none, 0, 0, 0⟩, 3, ⟨⟨rfl, ⟨rfl, rfl, rfl⟩, ⟨rfl, rfl, rfl⟩, ⟨rfl, rfl, rfl⟩, rfl⟩, rfl⟩, .inr ⟨rfl, rfl, HNO.out⟩, HB2.out.setCell (by show w.heap.size ≤ w.heap.size + 1; omega) _⟩
  · have HE1 := Lib.hid (HE.out.but hbt (by omega))
    have HX1 := Lib.hid (HX.out.but hbt (by omega))
    have HB1 := Lib.hid (HB.out.trans (hbt.below (by omega) (by omega)))
    refine leaves_cons (f := 77) (args := #[.pointer (some ⟨w.heap.size + 1, 0, none⟩)]) (by simp) (by simp [go_sem]) ?_
    refine (catchR_panicking ⟨w.heap.size + 1, 0, none⟩ 0 34 _ [] _ (HE1.out.cell (i := 0) rfl) (HE1.out.fz 0)).mono ?_
    rintro e u' w'' ⟨rfl, rfl, rfl⟩
    have q0 := HX1.out.cell (i := 0) rfl
    have q1 := HX1.out.cell (i := 1) rfl
    have q2 := HX1.out.cell (i := 2) rfl
    have q3 := HX1.out.cell (i := 3) rfl
    have q5 := HX1.out.cell (i := 4) rfl
    have q4 := HE1.out.cell (i := 0) rfl
    simp [Leaves, settle, results, Tryd.results68, go_sem, q0, q1, q2, q3, q4, q5]
    exact ⟨⟨0, none, 0, 0, none, 0, 0, none, 0, 0, 0⟩, 3, ⟨⟨rfl, ⟨rfl, rfl, rfl⟩, ⟨rfl, rfl, rfl⟩, ⟨rfl, rfl, rfl⟩, rfl⟩, rfl⟩, .inr ⟨rfl, rfl, fun s hs he => hno s [] hs (by rw [List.append_nil]; exact he.symm)⟩, HB1.out.setCell (by show w.heap.size ≤ w.heap.size + 1; omega) _⟩

set_option maxRecDepth 100000 in
theorem readRecord_any (a : Option Addr) (n c : Nat) (zs : List Nat) (w : World) (hr : Row .u8 w w.heap.size a n c zs) (hz : ∀ x ∈ zs, x < 256) (hn : n ≤ 90000) :
    Calls Tryd.prog 51 #[.slice a n c] w fun e w' =>
      ∃ h' er, e = .returned (.tuple #[rhV h', .int .i64 er]) ∧ ((er = 0 ∧ ∃ s, OkR s ∧ encR s = zs ∧ RCopy w' w.heap.size h' s) ∨ (er = 3 ∧ h' = ⟨0, none, 0, 0, none, 0, 0, none, 0, 0, 0⟩ ∧ ¬ ∃ s, OkR s ∧ encR s = zs)) ∧ Below w.heap.size w w' := by
  have hb1 : Below w.heap.size w (w.alloc (rhO ⟨0, none, 0, 0, none, 0, 0, none, 0, 0, 0⟩)) := (Below.refl _ _).alloc (Nat.le_refl _) _
  have hx1 := boxAt_new w #[.int .i64 0, .slice none 0 0, .slice none 0 0, .slice none 0 0, .int .u32 0] 44
  obtain ⟨w1, hw1⟩ : ∃ w1, w1 = w.alloc (rhO ⟨0, none, 0, 0, none, 0, 0, none, 0, 0, 0⟩) := ⟨_, rfl⟩
  have hz1 : w1.heap.size = w.heap.size + 1 := by rw [hw1]; simp
  rw [← hw1] at hb1
  have hx1 : BoxAt w1 w.heap.size #[.int .i64 0, .slice none 0 0, .slice none 0 0, .slice none 0 0, .int .u32 0] 44 := by rw [hw1]; exact hx1
  have HS := Lib.hid (readR_any a n c zs w1 ((hr.below hb1).mono (by omega)) hz hn)
  have HW := Lib.hid hw1
  have HB1 := Lib.hid hb1
  have HX1 := Lib.hid hx1
  clear hr hz hn hb1 hw1 hx1
  go_enter Tryd.func51, Tryd.ntmps51
  go_wp2_with fail
  rw [← HW.out]
  refine HS.out.mono ?_
  rintro e w2 ⟨h', er, rfl, hd, hb⟩
  have HX2 := Lib.hid (HX1.out.calls hb)
  have HB2 := Lib.hid (HB1.out.trans (hb.mono (by omega)))
  have HD := Lib.hid hd
  have q0 := HX2.out.cell (i := 0) rfl
  have q1 := HX2.out.cell (i := 1) rfl
  have q2 := HX2.out.cell (i := 2) rfl
  have q3 := HX2.out.cell (i := 3) rfl
  have q5 := HX2.out.cell (i := 4) rfl
  have f0 := HX2.out.fz 0
  have f1 := HX2.out.fz 1
  have f2 := HX2.out.fz 2
  have f3 := HX2.out.fz 3
  have f5 := HX2.out.fz 4
  clear hd hb HS HX1
  go_wp2_with fail
  have hk1 : But w.heap.size w2 (((((w2.setCell ⟨w.heap.size, 0, none⟩ (.int .i64 h'.t)).setCell ⟨w.heap.size, 1, none⟩ (.slice h'.a1 h'.n1 h'.c1)).setCell ⟨w.heap.size, 2, none⟩ (.slice h'.a2 h'.n2 h'.c2)).setCell ⟨w.heap.size, 3, none⟩ (.slice h'.a3 h'.n3 h'.c3)).setCell ⟨w.heap.size, 4, none⟩ (.int .u32 h'.k)) := (((((But.refl _ _).set _).set _).set _).set _).set _
  refine bodyPost_ret (v := .tuple #[rhV h', .int .i64 er]) (by simp [results, Tryd.results51, go_sem, q0, q1, q2, q3, q5]) rfl ⟨h', er, by first | rfl | trivial, ?_, HB2.out.trans (hk1.below (Nat.le_refl _) HB2.out.size)⟩
  rcases HD.out with ⟨rfl, s, h1, h2, h3⟩ | h
  · exact .inl ⟨rfl, s, h1, h2, (h3.turned HX2.out hk1 (by decide) (by decide) (by decide)).mono (by omega)⟩
  · exact .inr h
end Go.Proofs.YtplnaaokapilpaaDoor.Vm
