/- The contract of state's tasksAgree. The contract of state's tasksAreRight. The contract of state's blockedAreRight. The contract of state.Right. -/
import Derived.Test.YtincamjkfpcpiaaHas
import Derived.Test.YtincamjkfpcpiaaRobots
namespace Go.Proofs.Ytincamjkfpcpiaa.Vm
open Go Go.RowKit Go.Maps

/-- In block mb lies the map of the places of the first k tasks, whose Ids differ. -/
def IdxIn (w : World) (mb k : Nat) (ts : List Rec) : Prop :=
  ∃ D : DataW Unit, w.ownsMap Try.prog 3 (plainElem Try.prog 3) mb k D ∧ IsMap D ∧
    (∀ j, j < k → Maps.has D (.int .i64 (ts.getD j zr).a) = true ∧ ∀ z, D.atKey (.int .i64 (ts.getD j zr).a) z = .lit (.int .i64 (j : Int))) ∧
    (∀ id, (∀ j, j < k → (ts.getD j zr).a ≠ id) → Maps.has D (.int .i64 id) = false)
theorem IdxIn.keep {w w' : World} {mb k : Nat} {ts : List Rec} (h : IdxIn w mb k ts) (hk : w'.heap[mb]? = w.heap[mb]?) : IdxIn w' mb k ts := by
  obtain ⟨D, ⟨es, clock, hb, r⟩, h2⟩ := h
  exact ⟨D, ⟨es, clock, hk.trans hb, r⟩, h2⟩
theorem idxIn_new (w : World) (ts : List Rec) : IdxIn (w.alloc (.map #[] 0)) w.heap.size 0 ts :=
  ⟨.map [], World.ownsMap_made w Try.prog 3 (plainElem Try.prog 3), isMap_empty, fun j hj => absurd hj (Nat.not_lt_zero _), fun id _ => rfl⟩
theorem lit_ne {x y : Int} (h : x ≠ y) : (Lit.int .i64 x) ≠ (Lit.int .i64 y) := fun e => h (by injection e)
/-- One place more. -/
theorem idx_put {D : DataW Unit} {k : Nat} {ts : List Rec} (hm : IsMap D)
    (h1 : ∀ j, j < k → Maps.has D (.int .i64 (ts.getD j zr).a) = true ∧ ∀ z, D.atKey (.int .i64 (ts.getD j zr).a) z = .lit (.int .i64 (j : Int)))
    (h2 : ∀ id, (∀ j, j < k → (ts.getD j zr).a ≠ id) → Maps.has D (.int .i64 id) = false) (hd : ∀ j, j < k → (ts.getD j zr).a ≠ (ts.getD k zr).a) :
    IsMap (D.put (.int .i64 (ts.getD k zr).a) (.lit (.int .i64 (k : Int)))) ∧
    (∀ j, j < k + 1 → Maps.has (D.put (.int .i64 (ts.getD k zr).a) (.lit (.int .i64 (k : Int)))) (.int .i64 (ts.getD j zr).a) = true ∧ ∀ z, (D.put (.int .i64 (ts.getD k zr).a) (.lit (.int .i64 (k : Int)))).atKey (.int .i64 (ts.getD j zr).a) z = .lit (.int .i64 (j : Int))) ∧
    (∀ id, (∀ j, j < k + 1 → (ts.getD j zr).a ≠ id) → Maps.has (D.put (.int .i64 (ts.getD k zr).a) (.lit (.int .i64 (k : Int)))) (.int .i64 id) = false) := by
  refine ⟨hm.put _ _, fun j hj => ?_, fun id hid => ?_⟩
  · by_cases e : j = k
    · subst e
      have hkl : WideAt.IsKeyLit (Lit.int .i64 (ts.getD j zr).a) := trivial
      exact ⟨has_put_same hm hkl _, fun z => atKey_put_same hm hkl _ z⟩
    · have hne := lit_ne (hd j (by omega))
      refine ⟨?_, fun z => ?_⟩
      · rw [has_put_other hne]; exact (h1 j (by omega)).1
      · rw [atKey_put_other hne]; exact (h1 j (by omega)).2 z
  · rw [has_put_other (lit_ne (fun e => hid k (by omega) e.symm))]
    exact h2 id fun j hj => hid j (by omega)

/-- A look-up whose answer is known. -/
theorem lookup_known {P : Program} (w : World) {ops : Array Oper} {rest : List Oper} {o : Oper} {a : Act} {Q : Exit → Act → World → Prop} (hg : o.guard = none) (m x : Operand) (t : TypeId) (hop : o.op = Op.lookup t m x true)
    (k e : TypeId) (K : Keyed P k) (ht : P.underlying t = some (.map k e)) (he : P.underlying e = some (.int .i64)) (hz : (zeroValue e).run P w = .ok (.int .i64 0) w) (b n : Nat) (D : DataW Unit)
    (hm : a.eval m = .map (some b)) (hown : w.ownsMap P k (plainElem P e) b n D) (key : Value) (kl : Lit) (hx : a.eval x = key) (hkey : keyOf P k key = some kl)
    (c : Int) (q : Bool) (hc : D.atKey kl (.lit (.int .i64 0)) = .lit (.int .i64 c)) (hq : Maps.has D kl = q)
    (hK : wpList P ops Q rest (a.put o.dst (.tuple #[.int .i64 c, .bool q])) w) : wpList P ops Q (o :: rest) a w :=
  wpList_lookup_own_ok_int w hg m x t hop k e .i64 K ht he hz b n D hm hown key kl hx hkey fun c' h' _ => by
    have h2 : c' = c := by
      have h3 := h'.symm.trans hc
      injection h3 with h4
      injection h4
    subst h2 hq
    exact hK

theorem mode_none {ts : List Rec} {r : Rec} {i : Nat} (h : findS ts r.c = -1) : ModeP ts r i ↔ FitP r zr := by
  have hn : ∀ st, ¬ OwnP ts r.c i st := fun st ⟨k, _, e, _⟩ => by omega
  unfold ModeP FitP
  simp [hn, zr]
theorem mode_own {ts : List Rec} {r : Rec} {i k : Nat} (hk : k < ts.length) (h : findS ts r.c = k) (he : (ts.getD k zr).e = i) : ModeP ts r i ↔ FitP r (ts.getD k zr) := by
  have hn : ∀ st, OwnP ts r.c i st ↔ (ts.getD k zr).d = st := fun st => ⟨fun ⟨j, _, e, h2, _⟩ => by
    obtain rfl : j = k := by omega
    exact h2, fun h2 => ⟨k, hk, h, h2, he⟩⟩
  unfold ModeP FitP
  simp only [hn]
theorem mode_other {ts : List Rec} {r : Rec} {i k : Nat} (h : findS ts r.c = k) (he : (ts.getD k zr).e ≠ i) : ModeP ts r i ↔ FitP r zr := by
  have hn : ∀ st, ¬ OwnP ts r.c i st := fun st ⟨j, _, e, _, h3⟩ => by
    obtain rfl : j = k := by omega
    exact he h3
  unfold ModeP FitP
  simp [hn, zr]

theorem makeIdx (n : Nat) (w : World) : (Instr.makeMap 72 (some (.int .i64 (n : Int)))).run Try.prog w = .ok (.map (some w.heap.size)) (w.alloc (.map #[] 0)) := by
  simp [Instr.makeMap, go_sem, Result.andThen]
theorem zero_int (w : World) : (zeroValue 3).run Try.prog w = .ok (.int .i64 0) w := by kernel_rfl

/-- Tasks and robots belong to each other. -/
def AgreeP (rs ts : List Rec) : Prop := (∀ i, i < ts.length → RoleP rs (ts.getD i zr)) ∧ ∀ i, i < rs.length → ModeP ts (rs.getD i zr) i

set_option maxRecDepth 100000 in
set_option maxHeartbeats 2000000 in
theorem tasksAgree_any (h : Sh) (s : St) (B : Nat) (w : World) (hin : StIn w B h s) (hB : B ≤ w.heap.size) (hn : h.n2 ≤ 100000) (hwc : WfC s)
    (hid : ∀ i, i < s.ts.length → ∀ k, k < i → (s.ts.getD k zr).a ≠ (s.ts.getD i zr).a) (hwa : ∀ i, i < s.ts.length → (Lit.int .i64 (s.ts.getD i zr).a).wf = true) :
    Calls Try.prog 29 #[shV h] w fun e w' => e = .returned (.bool (yes (AgreeP s.rs s.ts))) ∧ Below w.heap.size w w' := by
  have hR := hin.rs
  have hT := hin.ts
  obtain ⟨t, a1, n1, c1, a2, n2, c2, a3, n3, c3⟩ := h
  obtain ⟨tick, rs, ts, bl⟩ := s
  simp only [] at hR hT hn hid hwa
  have hwc : ∀ i, i < rs.length → (Lit.int .i64 (rs.getD i zr).c).wf = true := hwc
  have hB0 : Below w.heap.size w (w.alloc (shO ⟨t, a1, n1, c1, a2, n2, c2, a3, n3, c3⟩)) := (Below.refl _ _).alloc (Nat.le_refl _) _
  have hs0 := stAt_new w ⟨t, a1, n1, c1, a2, n2, c2, a3, n3, c3⟩
  have hz0 : (w.alloc (shO ⟨t, a1, n1, c1, a2, n2, c2, a3, n3, c3⟩)).heap.size = w.heap.size + 1 := by simp
  generalize hw1 : w.alloc (shO ⟨t, a1, n1, c1, a2, n2, c2, a3, n3, c3⟩) = w1 at hB0 hs0 hz0
  have hmk := fun V => makeIdx n2 V
  have hms := idxIn_new w1 ts
  rw [hz0] at hms
  have hb1 : Below (w.heap.size + 1) w1 (w1.alloc (.map #[] 0)) := (Below.refl _ _).alloc (by omega) _
  have HRL := Lib.hid hR.1
  have HTL := Lib.hid hT.1
  have HTC := Lib.hid hT.cells
  have HRC := Lib.hid hR.cells
  have HRR := Lib.hid hR
  have hn1m := hR.len
  unfold maxLen at hn1m
  have HB1 := Lib.hid hb1
  have HMS := Lib.hid hms
  have HID := Lib.hid hid
  have HWA := Lib.hid hwa
  have HWC := Lib.hid hwc
  have HW1 := Lib.hid hw1
  have hzm : w.heap.size + 1 < (w1.alloc (.map #[] 0)).heap.size := by simp [hz0]
  have HZM := Lib.hid hzm
  have HS0 := Lib.hid hs0
  clear hR hT hb1 hms hid hwa hwc hin hw1 hs0 hzm
  go_enter Try.func29, Try.ntmps29
  go_wp2_with fail
  rw [HW1.out]
  clear hmk
  go_loopw [18] (fun i wr => ∃ k : Nat, k ≤ n2 ∧ i = .int .i64 k ∧ Hid (IdxIn wr (w.heap.size + 1) k ts) ∧ Below (w.heap.size + 1) w1 wr ∧ w.heap.size + 1 < wr.heap.size ∧ Hid (∀ j, j < k → RoleP rs (ts.getD j zr))) (fun i _ => n2 - (intOf i).toNat)
  case atStart => exact ⟨0, Nat.zero_le _, rfl, HMS.out, HB1.out, HZM.out, fun j hj => absurd hj (Nat.not_lt_zero _)⟩
  case round =>
    obtain ⟨k, hk, rfl, HM, hbel, hmb, HA⟩ := hrel
    have hB2 : Below w.heap.size w wr := hB0.trans (hbel.mono (by omega))
    have hsr := HS0.out.below hbel (by omega)
    by_cases hlt : k < n2
    · obtain ⟨b, off, rfl, hb, hcs⟩ := HTC.out (by omega)
      have hcell := (hcs k hlt).below hB2 (by omega)
      have hb3 : b < wr.heap.size := by omega
      have hgz : w.heap.size < wr.heap.size := by omega
      clear hcs
      have HKN : Hid (k < ts.length) := by unfold Hid; rw [HTL.out]; exact hlt
      have HPUT := Lib.hid fun D hm h1 h2 => idx_put (D := D) (k := k) (ts := ts) hm h1 h2 (HID.out k HKN.out)
      have HWK := Lib.hid (HWA.out k HKN.out)
      have hx : ∃ x, ts.getD k zr = x := ⟨_, rfl⟩
      obtain ⟨x, hx⟩ := hx
      rw [hx] at hcell HPUT HWK
      have HX := Lib.hid hx
      clear hx
      obtain ⟨p1, p2, p3, p4, p5⟩ := hcell
      have hba : Below wr.heap.size wr (wr.alloc (.cells #[.int .i64 x.a, .int .i64 x.b, .int .i64 x.c, .int .i64 x.d, .int .i64 x.e] 48)) := (Below.refl _ _).alloc (Nat.le_refl _) _
      have hra := recAt_new wr x 48
      have hza : (wr.alloc (.cells #[.int .i64 x.a, .int .i64 x.b, .int .i64 x.c, .int .i64 x.d, .int .i64 x.e] 48)).heap.size = wr.heap.size + 1 := by simp
      have hbB := hB2.trans (hba.mono (by omega))
      have HRA := Lib.hid hra
      have HBA := Lib.hid hba
      have HBB := Lib.hid hbB
      have HSA := Lib.hid (hsr.below hba (by omega))
      have HHAS := Lib.hid (hasItsRobot_any a1 n1 c1 w.heap.size rs x (wr.alloc (.cells #[.int .i64 x.a, .int .i64 x.b, .int .i64 x.c, .int .i64 x.d, .int .i64 x.e] 48)) ((HRR.out.mono hB).below hbB) (by omega))
      obtain ⟨s0, s1, s2, s3⟩ := hsr
      simp only [] at s0 s1 s2 s3
      clear hra hba hbB
      by_cases hrole : ¬ RoleP rs x
      · have HN : Hid (¬ AgreeP rs ts) := fun hh => hrole (by have := hh.1 k HKN.out; rwa [HX.out] at this)
        have HY := Lib.hid (yes_false hrole)
        clear hrole
        go_wp2_with fail
        refine HHAS.out.mono ?_
        rintro e w2 ⟨he, hv2⟩
        rw [HY.out] at he
        subst he
        have hB3 := HBB.out.trans (hv2.mono (by omega))
        go_wp2_with fail
        go_ret
        exact ⟨ret_bool (yes_false HN.out).symm, hB3⟩
      have HROLE := Lib.hid (Classical.not_not.1 hrole)
      have HY := Lib.hid (yes_true (Classical.not_not.1 hrole))
      clear hrole
      go_wp2_with fail
      refine HHAS.out.mono ?_
      rintro e w2 ⟨he, hv2⟩
      rw [HY.out] at he
      subst he
      have hr2 := HRA.out.below hv2 (by omega)
      have hm2 := HM.out.keep ((hv2.block (w.heap.size + 1) (by omega)).trans (HBA.out.block (w.heap.size + 1) (by omega)))
      have hz2 := hv2.size
      have HBE2 := Lib.hid (hbel.trans ((HBA.out.mono (by omega)).trans (hv2.mono (by omega))))
      obtain ⟨D, hown, hD1, hD2, hD3⟩ := hm2
      have HP2 := Lib.hid (HPUT.out D hD1 hD2 hD3)
      have hkey : keyOf Try.prog 3 (.int .i64 x.a) = some (.int .i64 x.a) := keyOf_int_mk Try.underlying3 HWK.out
      have hval : plainElem (H := Unit) Try.prog 3 (.int .i64 (k : Int)) = some (.lit (.int .i64 (k : Int)), []) := plainElem_int Try.underlying3 (WalkArith.wf_i64 (by omega))
      obtain ⟨r1, r2, r3, r4, r5⟩ := hr2
      clear hD1 hD2 hD3 HPUT HHAS HSA HBA HBB HRA HM hbel hB2 s0 s1 s2 s3 p1 p2 p3 p4 p5 hv2
      go_wp2_with (at_mapUpdate; refine wpList_mapUpdate_own _ rfl _ _ _ 72 rfl 3 3 key_law Try.underlying72 (plainElem Try.prog 3) (w.heap.size + 1) k D rfl hown (by unfold maxLen; omega) _ _ _ rfl rfl hkey _ [] hval ?_; intro w3 hown3 hgrow3)
      have hz3 := hgrow3.size
      go_roundw
      case rel =>
        refine ⟨k + 1, by omega, by go_num, ?_, HBE2.out.grown hgrow3 (by omega) (fun j hj => by injection hj; omega), by omega, upto_more HA.out (by rw [HX.out]; exact HROLE.out)⟩
        have h5 := HP2.out
        rw [← HX.out] at h5 hown3
        exact ⟨_, hown3, h5⟩
      case measure => simp [intOf]; omega
    · have hkn : k = n2 := by omega
      rw [hkn] at HM HA
      have HAA : Hid (∀ i, i < ts.length → RoleP rs (ts.getD i zr)) := by unfold Hid; rw [HTL.out]; exact HA.out
      clear HA hk hkn
      obtain ⟨s0, s1, s2, s3⟩ := hsr
      simp only [] at s0 s1 s2 s3
      go_wp2_with fail
      clear s0 s1 s2 s3 hB2
      go_loopw [36] (fun i V => ∃ k : Nat, k ≤ n1 ∧ i = .int .i64 k ∧ Hid (IdxIn V (w.heap.size + 1) n2 ts) ∧ Below (w.heap.size + 1) w1 V ∧ w.heap.size + 1 < V.heap.size ∧ Hid (∀ j, j < k → ModeP ts (rs.getD j zr) j)) (fun i _ => n1 - (intOf i).toNat)
      case atStart => exact ⟨0, Nat.zero_le _, rfl, HM.out, hbel, hmb, fun j hj => absurd hj (Nat.not_lt_zero _)⟩
      case round =>
        clear HM hbel hmb
        obtain ⟨k, hk, rfl, HM, hbel, hmb, HA⟩ := hrel
        have hB2 : Below w.heap.size w wr := hB0.trans (hbel.mono (by omega))
        have hsr := HS0.out.below hbel (by omega)
        by_cases hlt : k < n1
        · obtain ⟨b, off, rfl, hb, hcs⟩ := HRC.out (by omega)
          have hcell := (hcs k hlt).below hB2 (by omega)
          have hb3 : b < wr.heap.size := by omega
          have hgz : w.heap.size < wr.heap.size := by omega
          clear hcs
          have HKN : Hid (k < rs.length) := by unfold Hid; rw [HRL.out]; exact hlt
          have HWK := Lib.hid (HWC.out k HKN.out)
          have hx : ∃ x, rs.getD k zr = x := ⟨_, rfl⟩
          obtain ⟨x, hx⟩ := hx
          rw [hx] at hcell HWK
          have HX := Lib.hid hx
          clear hx
          obtain ⟨p1, p2, p3, p4, p5⟩ := hcell
          have hkey : keyOf Try.prog 3 (.int .i64 x.c) = some (.int .i64 x.c) := keyOf_int_mk Try.underlying3 HWK.out
          have hba : Below wr.heap.size wr (wr.alloc (.cells #[.int .i64 x.a, .int .i64 x.b, .int .i64 x.c, .int .i64 x.d, .int .i64 x.e] 45)) := (Below.refl _ _).alloc (Nat.le_refl _) _
          have hza : (wr.alloc (.cells #[.int .i64 x.a, .int .i64 x.b, .int .i64 x.c, .int .i64 x.d, .int .i64 x.e] 45)).heap.size = wr.heap.size + 1 := by simp
          have hbo : ∀ o, Below wr.heap.size wr ((wr.alloc (.cells #[.int .i64 x.a, .int .i64 x.b, .int .i64 x.c, .int .i64 x.d, .int .i64 x.e] 45)).alloc o) := fun o => hba.alloc (by omega) o
          have HBO := Lib.hid hbo
          have HBB := Lib.hid fun o => hB2.trans ((hbo o).mono (by omega))
          have hm1 := fun o => HM.out.keep ((hbo o).block (w.heap.size + 1) (by omega))
          have HM1 := Lib.hid hm1
          have HBE := Lib.hid fun o => hbel.trans ((hbo o).mono (by omega))
          have HSZ := Lib.hid fun o => Nat.lt_of_lt_of_le hmb (hbo o).size
          obtain ⟨s0, s1, s2, s3⟩ := hsr
          simp only [] at s0 s1 s2 s3
          clear hba hbo hm1
          rcases findS_cases ts x.c with ⟨hfn, hno⟩ | ⟨j, hj, hfj, hja, hjb⟩
          · obtain ⟨D, hown, hD1, hD2, hD3⟩ := HM1.out (.cells #[.int .i64 0, .int .i64 0, .int .i64 0, .int .i64 0, .int .i64 0] 48)
            have hq := hD3 x.c (fun i hi => hno i (by rw [HTL.out]; exact hi))
            have hc : D.atKey (.int .i64 x.c) (.lit (.int .i64 0)) = .lit (.int .i64 0) := atKey_of_not_has hq _
            have HMODE := Lib.hid (mode_none (r := x) (i := k) hfn)
            clear hfn hno hD1 hD2 hD3
            by_cases hfit : ¬ FitP x ⟨0, 0, 0, 0, 0⟩
            · have HN : Hid (¬ AgreeP rs ts) := fun hh => hfit (by have := hh.2 k HKN.out; rw [HX.out] at this; exact HMODE.out.1 this)
              have HY := Lib.hid (yes_false hfit)
              clear hfit
              go_wp2_with (first
                | (at_lookup; refine lookup_known _ rfl _ _ 72 rfl 3 3 key_law Try.underlying72 Try.underlying3 (zero_int _) (w.heap.size + 1) _ D rfl hown _ _ rfl hkey 0 false hc hq ?_)
                | (go_at_call 47; refine (hasItsTask_any x ⟨0, 0, 0, 0, 0⟩ _).mono ?_; rintro e w2 ⟨he, hv2⟩; rw [HY.out] at he; subst he))
              go_ret
              exact ⟨ret_bool (yes_false HN.out).symm, (HBB.out _).trans (hv2.mono (HBB.out _).size)⟩
            · have HFIT := Lib.hid (Classical.not_not.1 hfit)
              have HY := Lib.hid (yes_true (Classical.not_not.1 hfit))
              have HP : Hid (ModeP ts (rs.getD k zr) k) := by unfold Hid; rw [HX.out]; exact HMODE.out.2 HFIT.out
              clear hfit
              go_wp2_with (first
                | (at_lookup; refine lookup_known _ rfl _ _ 72 rfl 3 3 key_law Try.underlying72 Try.underlying3 (zero_int _) (w.heap.size + 1) _ D rfl hown _ _ rfl hkey 0 false hc hq ?_)
                | (go_at_call 47; refine (hasItsTask_any x ⟨0, 0, 0, 0, 0⟩ _).mono ?_; rintro e w2 ⟨he, hv2⟩; rw [HY.out] at he; subst he))
              go_roundw
              case rel => exact ⟨k + 1, by omega, by go_num, (HM1.out _).keep (hv2.block _ (HSZ.out _)), (HBE.out _).trans (hv2.mono (Nat.le_of_lt (HSZ.out _))), Nat.lt_of_lt_of_le (HSZ.out _) hv2.size, upto_more HA.out HP.out⟩
              case measure => simp [intOf]; omega
          · obtain ⟨D, hown, hD1, hD2, hD3⟩ := HM1.out (.cells #[.int .i64 0, .int .i64 0, .int .i64 0, .int .i64 0, .int .i64 0] 48)
            have hjn : j < n2 := by rw [← HTL.out]; exact hj
            obtain ⟨hq, hc⟩ := hD2 j hjn
            rw [hja] at hq hc
            have hc := hc (.lit (.int .i64 0))
            obtain ⟨b2, off2, rfl, hb2, hcs2⟩ := HTC.out (by omega)
            have hcell2 := (hcs2 j hjn).below hB2 (by omega)
            have hb4 : b2 < wr.heap.size := by omega
            have HMO := Lib.hid (mode_own (r := x) (i := k) hj hfj)
            have HMN := Lib.hid (mode_other (r := x) (i := k) hfj)
            have hy : ∃ y, ts.getD j zr = y := ⟨_, rfl⟩
            obtain ⟨y, hy⟩ := hy
            rw [hy] at hcell2 HMO HMN
            obtain ⟨q1, q2, q3, q4, q5⟩ := hcell2
            clear hfj hja hjb hj hD1 hD2 hD3 hcs2 hy
            by_cases hek : y.e = k
            · have HMODE := Lib.hid (HMO.out hek)
              have e1 : (y.e == (k : Int)) = true := by simpa using hek
              clear hek HMO HMN
              by_cases hfit : ¬ FitP x y
              · have HN : Hid (¬ AgreeP rs ts) := fun hh => hfit (by have := hh.2 k HKN.out; rw [HX.out] at this; exact HMODE.out.1 this)
                have HY := Lib.hid (yes_false hfit)
                clear hfit
                go_wp2_with (first
                  | (at_lookup; refine lookup_known _ rfl _ _ 72 rfl 3 3 key_law Try.underlying72 Try.underlying3 (zero_int _) (w.heap.size + 1) _ D rfl hown _ _ rfl hkey (j : Int) true hc hq ?_)
                  | (go_at_call 47; refine (hasItsTask_any x y _).mono ?_; rintro e w2 ⟨he, hv2⟩; rw [HY.out] at he; subst he))
                go_ret
                exact ⟨ret_bool (yes_false HN.out).symm, (HBB.out _).trans (hv2.mono (HBB.out _).size)⟩
              · have HFIT := Lib.hid (Classical.not_not.1 hfit)
                have HY := Lib.hid (yes_true (Classical.not_not.1 hfit))
                have HP : Hid (ModeP ts (rs.getD k zr) k) := by unfold Hid; rw [HX.out]; exact HMODE.out.2 HFIT.out
                clear hfit
                go_wp2_with (first
                  | (at_lookup; refine lookup_known _ rfl _ _ 72 rfl 3 3 key_law Try.underlying72 Try.underlying3 (zero_int _) (w.heap.size + 1) _ D rfl hown _ _ rfl hkey (j : Int) true hc hq ?_)
                  | (go_at_call 47; refine (hasItsTask_any x y _).mono ?_; rintro e w2 ⟨he, hv2⟩; rw [HY.out] at he; subst he))
                go_roundw
                case rel => exact ⟨k + 1, by omega, by go_num, (HM1.out _).keep (hv2.block _ (HSZ.out _)), (HBE.out _).trans (hv2.mono (Nat.le_of_lt (HSZ.out _))), Nat.lt_of_lt_of_le (HSZ.out _) hv2.size, upto_more HA.out HP.out⟩
                case measure => simp [intOf]; omega
            · have HMODE := Lib.hid (HMN.out hek)
              have e1 : (y.e == (k : Int)) = false := by simpa using hek
              clear hek HMO HMN
              by_cases hfit : ¬ FitP x ⟨0, 0, 0, 0, 0⟩
              · have HN : Hid (¬ AgreeP rs ts) := fun hh => hfit (by have := hh.2 k HKN.out; rw [HX.out] at this; exact HMODE.out.1 this)
                have HY := Lib.hid (yes_false hfit)
                clear hfit
                go_wp2_with (first
                  | (at_lookup; refine lookup_known _ rfl _ _ 72 rfl 3 3 key_law Try.underlying72 Try.underlying3 (zero_int _) (w.heap.size + 1) _ D rfl hown _ _ rfl hkey (j : Int) true hc hq ?_)
                  | (go_at_call 47; refine (hasItsTask_any x ⟨0, 0, 0, 0, 0⟩ _).mono ?_; rintro e w2 ⟨he, hv2⟩; rw [HY.out] at he; subst he))
                go_ret
                exact ⟨ret_bool (yes_false HN.out).symm, (HBB.out _).trans (hv2.mono (HBB.out _).size)⟩
              · have HFIT := Lib.hid (Classical.not_not.1 hfit)
                have HY := Lib.hid (yes_true (Classical.not_not.1 hfit))
                have HP : Hid (ModeP ts (rs.getD k zr) k) := by unfold Hid; rw [HX.out]; exact HMODE.out.2 HFIT.out
                clear hfit
                go_wp2_with (first
                  | (at_lookup; refine lookup_known _ rfl _ _ 72 rfl 3 3 key_law Try.underlying72 Try.underlying3 (zero_int _) (w.heap.size + 1) _ D rfl hown _ _ rfl hkey (j : Int) true hc hq ?_)
                  | (go_at_call 47; refine (hasItsTask_any x ⟨0, 0, 0, 0, 0⟩ _).mono ?_; rintro e w2 ⟨he, hv2⟩; rw [HY.out] at he; subst he))
                go_roundw
                case rel => exact ⟨k + 1, by omega, by go_num, (HM1.out _).keep (hv2.block _ (HSZ.out _)), (HBE.out _).trans (hv2.mono (Nat.le_of_lt (HSZ.out _))), Nat.lt_of_lt_of_le (HSZ.out _) hv2.size, upto_more HA.out HP.out⟩
                case measure => simp [intOf]; omega
        · have hkn : k = n1 := by omega
          rw [hkn] at HA
          go_wp2_with fail
          go_ret
          exact ⟨ret_bool (yes_true ⟨HAA.out, by rw [HRL.out]; exact HA.out⟩).symm, hB2⟩
end Go.Proofs.Ytincamjkfpcpiaa.Vm

namespace Go.Proofs.Ytincamjkfpcpiaa.Vm
open Go Go.RowKit

set_option maxRecDepth 100000 in
set_option maxHeartbeats 1000000 in
theorem tasksAreRight_any (W H : Int) (s : ByteArray) (a : Option Addr) (n c B : Nat) (rs : List Rec) (w : World) (hs : s.size ≤ maxLen) (h : RowR w B a n c rs) (hB : B ≤ w.heap.size) (hn : n ≤ 100000) :
    Calls Try.prog 27 #[gridV W H s, .slice a n c] w fun e w' => e = .returned (.bool (yes (∀ i, i < rs.length → JobP (floorS (bytesOf s)) rs i))) ∧ Below w.heap.size w w' := by
  have hB0 : Below w.heap.size w (w.alloc (gridO W H s)) := (Below.refl _ _).alloc (Nat.le_refl _) _
  have hg0 := gridAt_new w W H s
  have hz0 : (w.alloc (gridO W H s)).heap.size = w.heap.size + 1 := by simp
  have hmk := makeSet n (w.alloc (gridO W H s))
  have hms : ShutIn ((w.alloc (gridO W H s)).alloc (.map #[] 0)) (w.heap.size + 1) 0 [] := by
    have := World.ownsMap_made (H := Unit) (w.alloc (gridO W H s)) Try.prog 3 unitElem
    rwa [hz0] at this
  have hb1 : Below (w.heap.size + 1) (w.alloc (gridO W H s)) ((w.alloc (gridO W H s)).alloc (.map #[] 0)) := (Below.refl _ _).alloc (by omega) _
  have HS := Lib.hid hs
  have HL := Lib.hid h.1
  have HC := Lib.hid h.cells
  have HB1 := Lib.hid hb1
  have HMS := Lib.hid hms
  clear h hs hb1 hms
  go_enter Try.func27, Try.ntmps27
  go_wp2_with fail
  go_loopw [13] (fun i wr => ∃ k : Nat, k ≤ n ∧ i = .int .i64 k ∧ Hid (ShutIn wr (w.heap.size + 1) k ((rs.take k).map Rec.a)) ∧ Below (w.heap.size + 1) (w.alloc (gridO W H s)) wr ∧ w.heap.size + 1 < wr.heap.size ∧ Hid (∀ j, j < k → JobP (floorS (bytesOf s)) rs j)) (fun i _ => n - (intOf i).toNat)
  case atStart => exact ⟨0, Nat.zero_le _, rfl, HMS.out, HB1.out, by simp, fun j hj => absurd hj (Nat.not_lt_zero _)⟩
  case round =>
    obtain ⟨k, hk, rfl, HM, hbel, hmb, HA⟩ := hrel
    have hB2 : Below w.heap.size w wr := hB0.trans (hbel.mono (by omega))
    have hgr := hg0.below hbel (by omega)
    by_cases hlt : k < n
    · obtain ⟨b, off, rfl, hb, hcs⟩ := HC.out (by omega)
      have hcell := (hcs k hlt).below hB2 (by omega)
      have hb3 : b < wr.heap.size := by omega
      have hgz : w.heap.size < wr.heap.size := by omega
      clear hcs
      have HKN : Hid (k < rs.length) := by unfold Hid; rw [HL.out]; exact hlt
      have hx : ∃ x, rs.getD k zr = x := ⟨_, rfl⟩
      obtain ⟨x, hx⟩ := hx
      rw [hx] at hcell
      have HX := Lib.hid hx
      clear hx
      obtain ⟨p1, p2, p3, p4, p5⟩ := hcell
      have hba : Below wr.heap.size wr (wr.alloc (.cells #[.int .i64 x.a, .int .i64 x.b, .int .i64 x.c, .int .i64 x.d, .int .i64 x.e] 48)) := (Below.refl _ _).alloc (Nat.le_refl _) _
      have hra := recAt_new wr x 48
      have hza : (wr.alloc (.cells #[.int .i64 x.a, .int .i64 x.b, .int .i64 x.c, .int .i64 x.d, .int .i64 x.e] 48)).heap.size = wr.heap.size + 1 := by simp
      have hma := HM.out.keep (hba.block (w.heap.size + 1) (by omega))
      have hbB := hB2.trans (hba.mono (by omega))
      have HMA := Lib.hid hma
      have HRA := Lib.hid hra
      have HBA := Lib.hid hba
      have HBB := Lib.hid hbB
      have HGA := Lib.hid (hgr.below hba (by omega))
      clear hma hra hba HM hbB hgr
      by_cases hd : ¬ (1 ≤ x.a ∧ x.a ≤ 2147483647)
      · have HD := Lib.hid (fun V => within_no hd V)
        have HN : Hid (¬ ∀ j, j < rs.length → JobP (floorS (bytesOf s)) rs j) := fun hh => hd (by have := (hh k HKN.out).1; rwa [HX.out] at this)
        clear hd
        go_wp2_with fail
        refine (HD.out _).mono ?_
        rintro e w3 ⟨rfl, rfl⟩
        go_wp2_with fail
        go_ret
        exact ⟨ret_bool (yes_false HN.out).symm, HBB.out⟩
      have hd := Classical.not_not.1 hd
      have HWF : Hid ((Lit.int .i64 x.a).wf = true) := by
        obtain ⟨j, hj⟩ := Int.eq_ofNat_of_zero_le (show 0 ≤ x.a by omega)
        unfold Hid
        rw [hj]
        exact WalkArith.wf_i64 (by omega)
      have HD := Lib.hid (fun V => within_yes hd V)
      have HDD := Lib.hid hd
      clear hd
      by_cases hin : x.a ∈ (rs.take k).map Rec.a
      · have HN : Hid (¬ ∀ j, j < rs.length → JobP (floorS (bytesOf s)) rs j) := fun hh => by
          obtain ⟨j, hj, e⟩ := (mem_takeR (by have := HKN.out; omega)).1 hin
          exact (hh k HKN.out).2.1 j hj (by rw [e, HX.out])
        have HADD := Lib.hid fun (V : World) (h : ShutIn V (w.heap.size + 1) k ((rs.take k).map Rec.a)) => add_no _ _ _ _ V h HWF.out hin
        clear hin
        go_wp2_with fail
        refine (HD.out _).mono ?_
        rintro e w3 ⟨rfl, rfl⟩
        go_wp2_with fail
        refine (HADD.out _ HMA.out).mono ?_
        rintro e w2 ⟨rfl, hv2⟩
        have hB4 := HBB.out.trans (hv2.mono (by omega))
        go_wp2_with fail
        go_ret
        exact ⟨ret_bool (yes_false HN.out).symm, hB4⟩
      have HADD := Lib.hid fun (V : World) (h : ShutIn V (w.heap.size + 1) k ((rs.take k).map Rec.a)) => add_yes _ _ _ _ V h HWF.out (by omega) hin
      have HIN := Lib.hid hin
      clear hin
      go_wp2_with fail
      refine (HD.out _).mono ?_
      rintro e w3 ⟨rfl, rfl⟩
      go_wp2_with fail
      refine (HADD.out _ HMA.out).mono ?_
      rintro e w2 ⟨rfl, hm2, hg2⟩
      have hr2 : RecAt w2 wr.heap.size 0 x := HRA.out.keep fun p hp => hg2.cell_far p (by omega) (by intro e; injection e; omega)
      have hgr2 : GridAt w2 w.heap.size W H s := by
        have hk : ∀ o, w2.cell? ⟨w.heap.size, o, none⟩ = (wr.alloc (.cells #[.int .i64 x.a, .int .i64 x.b, .int .i64 x.c, .int .i64 x.d, .int .i64 x.e] 48)).cell? ⟨w.heap.size, o, none⟩ := fun o => hg2.cell_far ⟨w.heap.size, o, none⟩ (Nat.lt_of_lt_of_eq (show w.heap.size < wr.heap.size + 1 by omega) hza.symm) (by intro e; simp at e)
        exact ⟨(hk 0).trans HGA.out.1, (hk 1).trans HGA.out.2.1, (hk 2).trans HGA.out.2.2⟩
      have hB4 := HBB.out.grown hg2 (by have := HBB.out.size; omega) (fun j hj => by injection hj; omega)
      have hz2 := hg2.size
      have HBE2 := Lib.hid ((hbel.trans (HBA.out.mono (by omega))).grown hg2 (by omega) (fun j hj => by injection hj; omega))
      have HM2 := Lib.hid hm2
      have HR2 := Lib.hid hr2
      have HGR2 := Lib.hid hgr2
      clear hm2 hg2 HADD hbel p1 p2 p3 p4 p5 HMA HRA HGA
      obtain ⟨r1, r2, r3, r4, r5⟩ := hr2
      obtain ⟨g1, g2, g3⟩ := hgr2
      by_cases hbc : x.b = x.c
      · have e1 : (x.b == x.c) = true := by simpa using hbc
        have HN : Hid (¬ ∀ j, j < rs.length → JobP (floorS (bytesOf s)) rs j) := fun hh => by
          have := (hh k HKN.out).2.2.1
          rw [HX.out] at this
          exact this hbc
        clear hbc
        go_wp2_with fail
        go_ret
        exact ⟨ret_bool (yes_false HN.out).symm, hB4⟩
      have e1 : (x.b == x.c) = false := by simpa using hbc
      have HBC := Lib.hid hbc
      clear hbc
      cases hf : floorS (bytesOf s) x.b
      · have HN : Hid (¬ ∀ j, j < rs.length → JobP (floorS (bytesOf s)) rs j) := fun hh => by
          have := (hh k HKN.out).2.2.2.1
          rw [HX.out, hf] at this
          cases this
        have HF := Lib.hid fun (V : World) => floor_no (W := W) (H := H) V HS.out hf
        clear hf
        go_wp2_with fail
        refine (HF.out _).mono ?_
        rintro e w3 ⟨rfl, hv3⟩
        have hB5 := hB4.trans (hv3.mono (by have := hB4.size; omega))
        go_wp2_with fail
        go_ret
        exact ⟨ret_bool (yes_false HN.out).symm, hB5⟩
      have HF := Lib.hid fun (V : World) => floor_yes (W := W) (H := H) V HS.out hf
      have HFB := Lib.hid hf
      clear hf
      cases hf : floorS (bytesOf s) x.c
      · have HN : Hid (¬ ∀ j, j < rs.length → JobP (floorS (bytesOf s)) rs j) := fun hh => by
          have := (hh k HKN.out).2.2.2.2
          rw [HX.out, hf] at this
          cases this
        have HF2 := Lib.hid fun (V : World) => floor_no (W := W) (H := H) V HS.out hf
        clear hf
        go_wp2_with fail
        refine (HF.out _).mono ?_
        rintro e w3 ⟨rfl, hv3⟩
        have hB5 := hB4.trans (hv3.mono (by have := hB4.size; omega))
        obtain ⟨r1, r2, r3, r4, r5⟩ := HR2.out.below hv3 (by omega)
        obtain ⟨g1, g2, g3⟩ := HGR2.out.below hv3 (by omega)
        go_wp2_with fail
        refine (HF2.out _).mono ?_
        rintro e w4 ⟨rfl, hv4⟩
        have hB6 := hB5.trans (hv4.mono (by have := hB5.size; omega))
        go_wp2_with fail
        go_ret
        exact ⟨ret_bool (yes_false HN.out).symm, hB6⟩
      have HF2 := Lib.hid fun (V : World) => floor_yes (W := W) (H := H) V HS.out hf
      have HFC := Lib.hid hf
      clear hf
      have HP : Hid (JobP (floorS (bytesOf s)) rs k) := by
        unfold Hid JobP
        rw [HX.out]
        exact ⟨HDD.out, fun j hj e => HIN.out ((mem_takeR (by have := HKN.out; omega)).2 ⟨j, hj, e⟩), HBC.out, HFB.out, HFC.out⟩
      go_wp2_with fail
      refine (HF.out _).mono ?_
      rintro e w3 ⟨rfl, hv3⟩
      obtain ⟨r1, r2, r3, r4, r5⟩ := HR2.out.below hv3 (by omega)
      obtain ⟨g1, g2, g3⟩ := HGR2.out.below hv3 (by omega)
      go_wp2_with fail
      refine (HF2.out _).mono ?_
      rintro e w4 ⟨rfl, hv4⟩
      have hv := hv3.trans (hv4.mono hv3.size)
      go_wp2_with fail
      go_roundw
      case rel =>
        refine ⟨k + 1, by omega, by go_num, ?_, HBE2.out.trans (hv.mono (by omega)), by have := hv.size; omega, upto_more HA.out HP.out⟩
        unfold Hid
        rw [takeR_more HKN.out, HX.out]
        exact HM2.out.keep (hv.block _ (by omega))
      case measure => simp [intOf]; omega
    · go_wp2_with fail
      go_ret
      have hkn : k = n := by omega
      exact ⟨ret_bool (yes_true (by rw [HL.out, ← hkn]; exact HA.out)).symm, hB2⟩
end Go.Proofs.Ytincamjkfpcpiaa.Vm

namespace Go.Proofs.Ytincamjkfpcpiaa.Vm
open Go Go.RowKit

set_option maxRecDepth 100000 in
set_option maxHeartbeats 1000000 in
theorem blockedAreRight_any (W H : Int) (s : ByteArray) (a : Option Addr) (n c B : Nat) (bl : List Int) (w : World) (hs : s.size ≤ maxLen) (h : RowZ .i64 w B a n c bl) (hB : B ≤ w.heap.size) :
    Calls Try.prog 28 #[gridV W H s, .slice a n c] w fun e w' => e = .returned (.bool (yes (∀ i, i < bl.length → ShutP (floorS (bytesOf s)) bl i))) ∧ Below w.heap.size w w' := by
  have hB0 : Below w.heap.size w (w.alloc (gridO W H s)) := (Below.refl _ _).alloc (Nat.le_refl _) _
  have hg0 := gridAt_new w W H s
  have hz0 : (w.alloc (gridO W H s)).heap.size = w.heap.size + 1 := by simp
  have hnm : n ≤ maxLen := Nat.le_trans h.2.1 h.2.2.1
  have HS := Lib.hid hs
  have HL := Lib.hid h.1
  have HC := Lib.hid h.cells
  unfold maxLen at hnm
  clear h hs
  go_enter Try.func28, Try.ntmps28
  go_wp2_with fail
  go_loopw [9] (fun i wr => ∃ k : Nat, k ≤ n ∧ i = .int .i64 k ∧ Below (w.heap.size + 1) (w.alloc (gridO W H s)) wr ∧ Hid (∀ j, j < k → ShutP (floorS (bytesOf s)) bl j)) (fun i _ => n - (intOf i).toNat)
  case atStart => exact ⟨0, Nat.zero_le _, rfl, Below.refl _ _, fun j hj => absurd hj (Nat.not_lt_zero _)⟩
  case round =>
    obtain ⟨k, hk, rfl, hbel, HA⟩ := hrel
    have hB2 : Below w.heap.size w wr := hB0.trans (hbel.mono (by omega))
    obtain ⟨g1, g2, g3⟩ := hg0.below hbel (by omega)
    have hzr := hbel.size
    by_cases hlt : k < n
    · obtain ⟨b, off, rfl, hb, hcs⟩ := HC.out (by omega)
      have hcell := (hB2.cell (p := ⟨b, off + k, none⟩) (show b < w.heap.size by omega)).trans (hcs k hlt)
      have HKN : Hid (k < bl.length) := by unfold Hid; rw [HL.out]; exact hlt
      have hx : ∃ x, bl.getD k 0 = x := ⟨_, rfl⟩
      obtain ⟨x, hx⟩ := hx
      rw [hx] at hcell
      have HX := Lib.hid hx
      clear hx
      cases hf : floorS (bytesOf s) x
      · have HN : Hid (¬ ∀ j, j < bl.length → ShutP (floorS (bytesOf s)) bl j) := fun hh => by
          have := (hh k HKN.out).1
          rw [HX.out, hf] at this
          cases this
        have HF := Lib.hid fun (V : World) => floor_no (W := W) (H := H) V HS.out hf
        clear hf hcs
        go_wp2_with fail
        refine (HF.out _).mono ?_
        rintro e w1 ⟨rfl, hv1⟩
        have hB3 := hB2.trans (hv1.mono (by omega))
        go_wp2_with fail
        go_ret
        exact ⟨ret_bool (yes_false HN.out).symm, hB3⟩
      have HF := Lib.hid fun (V : World) => floor_yes (W := W) (H := H) V HS.out hf
      have HFX := Lib.hid hf
      clear hf
      by_cases hk0 : 0 < k
      · have hcell2 := (hB2.cell (p := ⟨b, off + (k - 1), none⟩) (show b < w.heap.size by omega)).trans (hcs (k - 1) (by omega))
        have hy : ∃ y, bl.getD (k - 1) 0 = y := ⟨_, rfl⟩
        obtain ⟨y, hy⟩ := hy
        rw [hy] at hcell2
        have HY := Lib.hid hy
        clear hy hcs
        obtain ⟨m, rfl⟩ : ∃ m, k = m + 1 := ⟨k - 1, by omega⟩
        simp only [Nat.add_sub_cancel] at hcell2
        by_cases hle : x ≤ y
        · have HN : Hid (¬ ∀ j, j < bl.length → ShutP (floorS (bytesOf s)) bl j) := fun hh => by
            have := (hh _ HKN.out).2 hk0
            rw [HX.out, HY.out] at this
            omega
          go_wp2_with fail
          refine (HF.out _).mono ?_
          rintro e w1 ⟨rfl, hv1⟩
          have hB3 := hB2.trans (hv1.mono (by omega))
          have hcell2 := (hv1.cell (p := ⟨b, off + m, none⟩) (show b < wr.heap.size by omega)).trans hcell2
          go_wp2_with fail
          go_ret
          exact ⟨ret_bool (yes_false HN.out).symm, hB3⟩
        · have HP : Hid (ShutP (floorS (bytesOf s)) bl (m + 1)) := by
            unfold Hid ShutP
            rw [HX.out, HY.out]
            exact ⟨HFX.out, fun _ => by omega⟩
          go_wp2_with fail
          refine (HF.out _).mono ?_
          rintro e w1 ⟨rfl, hv1⟩
          have hcell2 := (hv1.cell (p := ⟨b, off + m, none⟩) (show b < wr.heap.size by omega)).trans hcell2
          go_wp2_with fail
          go_roundw
          case rel => exact ⟨m + 1 + 1, by omega, by go_num, hbel.trans (hv1.mono (by omega)), upto_more HA.out HP.out⟩
          case measure => simp [intOf]; omega
      · obtain rfl : k = 0 := by omega
        rw [Nat.add_zero] at hcell
        have HP : Hid (ShutP (floorS (bytesOf s)) bl 0) := by
          unfold Hid ShutP
          rw [HX.out]
          exact ⟨HFX.out, fun h => absurd h (Nat.lt_irrefl _)⟩
        clear hcs
        go_wp2_with fail
        refine (HF.out _).mono ?_
        rintro e w1 ⟨rfl, hv1⟩
        go_wp2_with fail
        go_roundw
        case rel => exact ⟨1, by omega, by go_num, hbel.trans (hv1.mono (by omega)), upto_more HA.out HP.out⟩
        case measure => simp [intOf]; omega
    · go_wp2_with fail
      go_ret
      have hkn : k = n := by omega
      exact ⟨ret_bool (yes_true (by rw [HL.out, ← hkn]; exact HA.out)).symm, hB2⟩
end Go.Proofs.Ytincamjkfpcpiaa.Vm

namespace Go.Proofs.Ytincamjkfpcpiaa.Vm
open Go Go.RowKit

theorem job_ids {fl : Int → Bool} {ts : List Rec} (h : ∀ i, i < ts.length → JobP fl ts i) : (∀ i, i < ts.length → ∀ k, k < i → (ts.getD k zr).a ≠ (ts.getD i zr).a) ∧ ∀ i, i < ts.length → (Lit.int .i64 (ts.getD i zr).a).wf = true :=
  ⟨fun i hi => (h i hi).2.1, fun i hi => by
    have h1 := (h i hi).1
    obtain ⟨k, hk⟩ := Int.eq_ofNat_of_zero_le (show 0 ≤ (ts.getD i zr).a by omega)
    rw [hk]
    exact WalkArith.wf_i64 (by omega)⟩

/-- The answer of Right. -/
noncomputable def rightB (fl : Int → Bool) (s : St) : Bool := yes (RightP fl s)

set_option maxRecDepth 100000 in
set_option maxHeartbeats 1000000 in
theorem stRight_any (W H : Int) (g : ByteArray) (h : Sh) (s : St) (B : Nat) (w : World) (hg : g.size ≤ maxLen) (hin : StIn w B h s) (hB : B ≤ w.heap.size) (hwc : WfC s) :
    Calls Try.prog 11 #[gridV W H g, shV h] w fun e w' => e = .returned (.bool (rightB (floorS (bytesOf g)) s)) ∧ Below w.heap.size w w' := by
  obtain ⟨w2, hw2, hB2, hz2, hg2, hs2⟩ := gs_head w W H g h
  have HIN := Lib.hid (hin.mono hB)
  have HT := Lib.hid hin.tick
  have HRL := Lib.hid hin.rs.1
  have HTL := Lib.hid hin.ts.1
  have HW2 := Lib.hid hw2
  have HG := Lib.hid hg
  have HWC := Lib.hid hwc
  have HG2 := Lib.hid hg2
  have HS2 := Lib.hid hs2
  have hm1 := hin.rs.len
  have hm2 := hin.ts.len
  obtain ⟨t, a1, n1, c1, a2, n2, c2, a3, n3, c3⟩ := h
  obtain ⟨tick, rs, ts, bl⟩ := s
  simp only [] at hm1 hm2 HT HRL HTL
  unfold maxLen at hm1 hm2
  obtain ⟨g1, g2, g3⟩ := hg2
  obtain ⟨s0, s1, s2, s3⟩ := hs2
  simp only [] at s0 s1 s2 s3
  generalize hfl : floorS (bytesOf g) = fl
  have HFL := Lib.hid hfl
  have hno : ∀ p : Prop, (RightP fl ⟨tick, rs, ts, bl⟩ → p) → ¬ p → rightB fl ⟨tick, rs, ts, bl⟩ = false := fun p h1 h2 => yes_false fun h3 => h2 (h1 h3)
  have HNO := Lib.hid hno
  clear hin hwc hw2 hg hfl hno
  by_cases ht : ¬ (0 ≤ t ∧ t ≤ 2147483647)
  · have HD := Lib.hid (fun V => within_no ht V)
    have HY := Lib.hid (HNO.out _ (fun h => h.tick) (by show ¬ (0 ≤ tick ∧ tick ≤ 2147483647); rw [← HT.out]; exact ht))
    clear ht
    go_enter Try.func11, Try.ntmps11
    go_wp2_with fail
    rw [← HW2.out]
    refine (HD.out _).mono ?_
    rintro e w' ⟨rfl, rfl⟩
    go_wp2_with fail
    go_ret
    exact ⟨ret_bool HY.out.symm, hB2⟩
  have HD := Lib.hid (fun V => within_yes (Classical.not_not.1 ht) V)
  have HTT := Lib.hid (Classical.not_not.1 ht)
  clear ht
  by_cases hn1 : 1024 < n1
  · have HY := Lib.hid (HNO.out _ (fun h => h.rn) (by show ¬ rs.length ≤ 1024; rw [HRL.out]; omega))
    go_enter Try.func11, Try.ntmps11
    go_wp2_with fail
    rw [← HW2.out]
    refine (HD.out _).mono ?_
    rintro e w' ⟨rfl, rfl⟩
    go_wp2_with fail
    go_ret
    exact ⟨ret_bool HY.out.symm, hB2⟩
  by_cases hn2 : 1000 < n2
  · have HY := Lib.hid (HNO.out _ (fun h => h.tn) (by show ¬ ts.length ≤ 1000; rw [HTL.out]; omega))
    go_enter Try.func11, Try.ntmps11
    go_wp2_with fail
    rw [← HW2.out]
    refine (HD.out _).mono ?_
    rintro e w' ⟨rfl, rfl⟩
    go_wp2_with fail
    go_ret
    exact ⟨ret_bool HY.out.symm, hB2⟩
  have HR := Lib.hid fun (V : World) (hV : Below w.heap.size w V) => robotsAreRight_any W H g a1 n1 c1 w.heap.size rs V HG.out (HIN.out.rs.below hV) hV.size (by omega)
  have HJ := Lib.hid fun (V : World) (hV : Below w.heap.size w V) => tasksAreRight_any W H g a2 n2 c2 w.heap.size ts V HG.out (HIN.out.ts.below hV) hV.size (by omega)
  have HSH := Lib.hid fun (V : World) (hV : Below w.heap.size w V) => blockedAreRight_any W H g a3 n3 c3 w.heap.size bl V HG.out (HIN.out.bl.below hV) hV.size
  rw [HFL.out] at HR HJ HSH
  by_cases hr : ¬ ∀ i, i < rs.length → RestP fl rs i
  · have HY := Lib.hid (HNO.out _ (fun h => h.rest) hr)
    have HYR := Lib.hid (yes_false hr)
    clear hr
    go_enter Try.func11, Try.ntmps11
    go_wp2_with fail
    rw [← HW2.out]
    refine (HD.out _).mono ?_
    rintro e w' ⟨rfl, rfl⟩
    go_wp2_with fail
    refine (HR.out _ hB2).mono ?_
    rintro e w3 ⟨he, hv3⟩
    rw [HYR.out] at he
    subst he
    have hB3 := hB2.trans (hv3.mono hB2.size)
    go_wp2_with fail
    go_ret
    exact ⟨ret_bool HY.out.symm, hB3⟩
  have HYR := Lib.hid (yes_true (Classical.not_not.1 hr))
  have HRP := Lib.hid (Classical.not_not.1 hr)
  clear hr
  by_cases hj : ¬ ∀ i, i < ts.length → JobP fl ts i
  · have HY := Lib.hid (HNO.out _ (fun h => h.job) hj)
    have HYJ := Lib.hid (yes_false hj)
    clear hj
    go_enter Try.func11, Try.ntmps11
    go_wp2_with fail
    rw [← HW2.out]
    refine (HD.out _).mono ?_
    rintro e w' ⟨rfl, rfl⟩
    go_wp2_with fail
    refine (HR.out _ hB2).mono ?_
    rintro e w3 ⟨he, hv3⟩
    rw [HYR.out] at he
    subst he
    have hB3 := hB2.trans (hv3.mono hB2.size)
    obtain ⟨g1, g2, g3⟩ := HG2.out.below hv3 (by omega)
    obtain ⟨s0, s1, s2, s3⟩ := HS2.out.below hv3 (by omega)
    simp only [] at s0 s1 s2 s3
    go_wp2_with fail
    refine (HJ.out _ hB3).mono ?_
    rintro e w4 ⟨he, hv4⟩
    rw [HYJ.out] at he
    subst he
    have hB4 := hB3.trans (hv4.mono hB3.size)
    go_wp2_with fail
    go_ret
    exact ⟨ret_bool HY.out.symm, hB4⟩
  have HYJ := Lib.hid (yes_true (Classical.not_not.1 hj))
  have HJP := Lib.hid (Classical.not_not.1 hj)
  clear hj
  have HAG := Lib.hid fun (V : World) (hV : Below w.heap.size w V) => tasksAgree_any ⟨t, a1, n1, c1, a2, n2, c2, a3, n3, c3⟩ ⟨tick, rs, ts, bl⟩ w.heap.size V (HIN.out.below hV) hV.size (by show n2 ≤ 100000; omega) HWC.out (job_ids HJP.out).1 (job_ids HJP.out).2
  by_cases hsh : ¬ ∀ i, i < bl.length → ShutP fl bl i
  · have HY := Lib.hid (HNO.out _ (fun h => h.shut) hsh)
    have HYS := Lib.hid (yes_false hsh)
    clear hsh
    go_enter Try.func11, Try.ntmps11
    go_wp2_with fail
    rw [← HW2.out]
    refine (HD.out _).mono ?_
    rintro e w' ⟨rfl, rfl⟩
    go_wp2_with fail
    refine (HR.out _ hB2).mono ?_
    rintro e w3 ⟨he, hv3⟩
    rw [HYR.out] at he
    subst he
    have hB3 := hB2.trans (hv3.mono hB2.size)
    have hg3 := HG2.out.below hv3 (by omega)
    have hs3 := HS2.out.below hv3 (by omega)
    have hz3 := hv3.size
    obtain ⟨g1, g2, g3⟩ := id hg3
    obtain ⟨s0, s1, s2, s3⟩ := id hs3
    have HG3 := Lib.hid hg3
    have HS3 := Lib.hid hs3
    simp only [] at s0 s1 s2 s3
    clear hg3 hs3
    go_wp2_with fail
    refine (HJ.out _ hB3).mono ?_
    rintro e w4 ⟨he, hv4⟩
    rw [HYJ.out] at he
    subst he
    have hB4 := hB3.trans (hv4.mono hB3.size)
    obtain ⟨g1, g2, g3⟩ := HG3.out.below hv4 (by omega)
    obtain ⟨s0, s1, s2, s3⟩ := HS3.out.below hv4 (by omega)
    simp only [] at s0 s1 s2 s3
    go_wp2_with fail
    refine (HSH.out _ hB4).mono ?_
    rintro e w5 ⟨he, hv5⟩
    rw [HYS.out] at he
    subst he
    have hB5 := hB4.trans (hv5.mono hB4.size)
    go_wp2_with fail
    go_ret
    exact ⟨ret_bool HY.out.symm, hB5⟩
  have HYS := Lib.hid (yes_true (Classical.not_not.1 hsh))
  have HSP := Lib.hid (Classical.not_not.1 hsh)
  clear hsh
  have HY : Hid (rightB fl ⟨tick, rs, ts, bl⟩ = yes (AgreeP rs ts)) := by
    unfold Hid
    refine yes_same ⟨fun h => ⟨h.role, h.mode⟩, fun h => ⟨?_, ?_, ?_, HRP.out, HJP.out, HSP.out, h.1, h.2⟩⟩
    · show 0 ≤ tick ∧ tick ≤ 2147483647
      rw [← HT.out]; exact HTT.out
    · show rs.length ≤ 1024
      rw [HRL.out]; omega
    · show ts.length ≤ 1000
      rw [HTL.out]; omega
  go_enter Try.func11, Try.ntmps11
  go_wp2_with fail
  rw [← HW2.out]
  refine (HD.out _).mono ?_
  rintro e w' ⟨rfl, rfl⟩
  go_wp2_with fail
  refine (HR.out _ hB2).mono ?_
  rintro e w3 ⟨he, hv3⟩
  rw [HYR.out] at he
  subst he
  have hB3 := hB2.trans (hv3.mono hB2.size)
  have hg3 := HG2.out.below hv3 (by omega)
  have hs3 := HS2.out.below hv3 (by omega)
  have hz3 := hv3.size
  obtain ⟨g1, g2, g3⟩ := id hg3
  obtain ⟨s0, s1, s2, s3⟩ := id hs3
  have HG3 := Lib.hid hg3
  have HS3 := Lib.hid hs3
  simp only [] at s0 s1 s2 s3
  clear hg3 hs3
  go_wp2_with fail
  refine (HJ.out _ hB3).mono ?_
  rintro e w4 ⟨he, hv4⟩
  rw [HYJ.out] at he
  subst he
  have hB4 := hB3.trans (hv4.mono hB3.size)
  have hg4 := HG3.out.below hv4 (by omega)
  have hs4 := HS3.out.below hv4 (by omega)
  have hz4 := hv4.size
  obtain ⟨g1, g2, g3⟩ := id hg4
  obtain ⟨s0, s1, s2, s3⟩ := id hs4
  have HG4 := Lib.hid hg4
  have HS4 := Lib.hid hs4
  simp only [] at s0 s1 s2 s3
  clear hg4 hs4
  go_wp2_with fail
  refine (HSH.out _ hB4).mono ?_
  rintro e w5 ⟨he, hv5⟩
  rw [HYS.out] at he
  subst he
  have hB5 := hB4.trans (hv5.mono hB4.size)
  obtain ⟨g1, g2, g3⟩ := HG4.out.below hv5 (by omega)
  obtain ⟨s0, s1, s2, s3⟩ := HS4.out.below hv5 (by omega)
  simp only [] at s0 s1 s2 s3
  go_wp2_with fail
  refine (HAG.out _ hB5).mono ?_
  rintro e w6 ⟨rfl, hv6⟩
  have hB6 := hB5.trans (hv6.mono hB5.size)
  go_wp2_with fail
  go_ret
  exact ⟨ret_bool HY.out.symm, hB6⟩
end Go.Proofs.Ytincamjkfpcpiaa.Vm
