/- tuggerlaw04.DistTells returns true for every input: distances, and which of some cells is nearest, are as the document has them. -/
import Derived.Test.YtgjolllacchdeaaAwakeFour
import Derived.Test.YtgjolllacchdeaaRights
import Derived.Test.YtgjolllacchdeaaArgs
namespace Go.Proofs.Ytgjolllacchdeaa.Vm
open Go Go.RowKit

/-- What either Field hands back. -/
def FieldPost (w : World) (W H : Int) (s : ByteArray) (bl : List Int) (to er : Int) (l : List Int) (e : Ending) (w' : World) : Prop :=
  ∃ a n c, e = .returned (.tuple #[.slice a n c, .int .i64 er]) ∧ RowZ .i64 w' w'.heap.size a n c l ∧ Below w.heap.size w w'
theorem field_both (W H to : Int) (s : ByteArray) (bl : List Int) (h : Okay W H s) (hw : ∀ z ∈ bl, (Lit.int .i64 z).wf = true) : ∃ (er : Int) (l : List Int),
    (∀ (a : Option Addr) (n c B : Nat) (w : World), RowZ .i64 w B a n c bl → B ≤ w.heap.size → n ≤ 1000000 → Calls Try.prog 9 #[gridV W H s, .int .i64 to, .slice a n c] w (FieldPost w W H s bl to er l)) ∧
    (∀ (a : Option Addr) (n c B : Nat) (w : World), RowZ .i64 w B a n c bl → B ≤ w.heap.size → n ≤ 1000000 → Calls Try.prog 10 #[gridV W H s, .int .i64 to, .slice a n c] w (FieldPost w W H s bl to er l)) := by
  have hle := h.le
  cases hf : floorS (bytesOf s) to
  · refine ⟨1, [], fun a n c B w _ _ _ => ?_, fun a n c B w _ _ _ => ?_⟩
    · exact (field_no W H to s a n c w (by unfold maxLen; omega) hf).mono fun e w' ⟨he, hb⟩ => ⟨none, 0, 0, he, rowZ_nil _ _ _, hb⟩
    · exact (rfield_no W H to s a n c w (by unfold maxLen; omega) hf).mono fun e w' ⟨he, hb⟩ => ⟨none, 0, 0, he, rowZ_nil _ _ _, hb⟩
  · obtain ⟨t, rfl⟩ := Int.eq_ofNat_of_zero_le (floorS_in hf).1
    by_cases hex : ∃ l, IsField (stepsS W H (bytesOf s) bl) t s.size l
    · obtain ⟨l0, hl0⟩ := hex
      have key : ∀ (w w' : World) (e : Ending), (∃ lb l, e = .returned (.tuple #[.slice (some ⟨lb, 0, none⟩) s.size s.size, .int .i64 0]) ∧ IsField (stepsS W H (bytesOf s) bl) t s.size l ∧ NumsZ w' w.heap.size lb l ∧ Below w.heap.size w w') → FieldPost w W H s bl t 0 l0 e w' := by
        rintro w w' e ⟨lb, l, he, hl, hn, hb⟩
        obtain rfl := hl.only hl0
        have hr := hn.row
        rw [hl.1] at hr
        exact ⟨_, _, _, he, hr, hb⟩
      refine ⟨0, l0, fun a n c B w hr hB hn => ?_, fun a n c B w hr hB hn => ?_⟩
      · exact (field_yes W H t s bl a n c B w h hf hr hB hw hn).mono fun e w' he => key w w' e he
      · exact (rfield_yes W H t s bl a n c B w h hf hr hB hn).mono fun e w' he => key w w' e he
    · refine ⟨0, [], fun a n c B w hr hB hn => ?_, fun a n c B w hr hB hn => ?_⟩
      · exact (field_yes W H t s bl a n c B w h hf hr hB hw hn).mono fun e w' ⟨lb, l, _, hl, _⟩ => absurd ⟨l, hl⟩ hex
      · exact (rfield_yes W H t s bl a n c B w h hf hr hB hn).mono fun e w' ⟨lb, l, _, hl, _⟩ => absurd ⟨l, hl⟩ hex

theorem nearest_any (W H fr : Int) (s : ByteArray) (bl of : List Int) (a a' : Option Addr) (n c n' c' B : Nat) (w : World) (h : Okay W H s)
    (hr : RowZ .i64 w B a n c bl) (hr' : RowZ .i64 w B a' n' c' of) (hB : B ≤ w.heap.size) (hw : ∀ z ∈ bl, (Lit.int .i64 z).wf = true) (hw' : ∀ z ∈ of, (Lit.int .i64 z).wf = true) (hn : n ≤ 1000000) (hn' : n' ≤ 1000000) :
    Calls Try.prog 11 #[gridV W H s, .int .i64 fr, .slice a' n' c', .slice a n c] w (NearPost w W H s bl of fr) := by
  have hle := h.le
  cases hf : floorS (bytesOf s) fr
  · exact nearest_no W H fr s bl of a a' n c n' c' w (by unfold maxLen; omega) hf
  · obtain ⟨t, rfl⟩ := Int.eq_ofNat_of_zero_le (floorS_in hf).1
    exact nearest_yes W H t s bl of a a' n c n' c' B w h hf hr hr' hB hw hw' hn hn'

theorem kept_args {A wa : World} {f : FuncId} {args : Array Value} {v v1 v2 : Value} {b : Nat} {W H : Int} {s : ByteArray} {p q : Int} (h : Kept A wa) (hA : Args b W H s [p, q] v1 v2 A) (hb : b + 1 + 1 < A.heap.size)
    (hc : Calls Try.prog f args wa fun e w' => e = .returned v ∧ Below wa.heap.size wa w') :
    Calls Try.prog f args wa fun e w' => e = .returned v ∧ Kept A w' ∧ w'.cell? ⟨b, 0, none⟩ = some (.int .i64 W) ∧ w'.cell? ⟨b, 1, none⟩ = some (.int .i64 H) ∧ w'.cell? ⟨b, 2, none⟩ = some (.string s) ∧
      w'.cell? ⟨b + 1, 0, none⟩ = some (.int .i64 p) ∧ w'.cell? ⟨b + 1, 1, none⟩ = some (.int .i64 q) ∧ w'.cell? ⟨b + 1 + 1, 0, none⟩ = some v1 :=
  hc.mono fun e w' ⟨he, hbl⟩ => by
    have hk : Kept A w' := Below.trans h (hbl.mono h.size)
    have h2 := hA.below hk hb
    exact ⟨he, hk, h2.g.1, h2.g.2.1, h2.g.2.2, h2.ats 0 (by simp), h2.ats 1 (by simp), h2.l0⟩

set_option maxRecDepth 100000 in
set_option maxHeartbeats 2000000 in
theorem distTells_walk (W H : Int) (s : ByteArray) (p q : Int) (a1 : Option Addr) (n1 c1 : Nat) (z1 : List Int) (a2 : Option Addr) (n2 c2 : Nat) (z2 : List Int) (w : World)
    (_ : (Lit.int .i64 W).wf = true) (_ : (Lit.int .i64 H).wf = true) (hs : s.size ≤ maxLen) (_ : (Lit.int .i64 p).wf = true) (_ : (Lit.int .i64 q).wf = true)
    (hi1 : IsRow .i64 w a1 n1 c1 z1) (hi2 : IsRow .i64 w a2 n2 c2 z2) :
    Calls Try.prog 3 #[gridV W H s, .agg #[.int .i64 p, .int .i64 q], .agg #[.slice a1 n1 c1, .slice a2 n2 c2]] w fun e w' => e = .returned (.bool true) ∧ Below w.heap.size w w' := by
  obtain ⟨r1, f1, m1⟩ := hi1.rowZ
  obtain ⟨r2, f2, m2⟩ := hi2.rowZ
  clear hi1 hi2
  generalize z1.take n1 = l1 at r1 f1
  generalize z2.take n2 = l2 at r2 f2
  obtain ⟨w3, hw3, hB3, hz3, hA3⟩ := args_head w W H s [p, q] (.slice a1 n1 c1) (.slice a2 n2 c2) 24 26 #[.int .i64 p, .int .i64 q] rfl
  have HW3 := Lib.hid hw3
  have HF1 := Lib.hid f1
  have HF2 := Lib.hid f2
  have HR1 := Lib.hid r1
  have HR2 := Lib.hid r2
  have HLI := Lib.hid fun w => light4_any W H s a1 a2 n1 c1 n2 c2 w hs m1 m2
  have HRI := Lib.hid fun w => rright_any W H s w hs
  clear hw3 f1 f2 r1 r2
  unfold maxLen at hs m1 m2
  go_enter Try.func3, Try.ntmps3
  go_wp2_with fail
  rw [← HW3.out]
  refine (awake4_any w3).mono ?_
  rintro e w4 ⟨rfl, hb4⟩
  have hB4 := hB3.trans (hb4.mono hB3.size)
  have hA4 := hA3.below hb4 (by omega)
  have hz4 := hb4.size
  obtain ⟨g1, g2, g3⟩ := id hA4.g
  have g4 := hA4.l0
  have g5 := hA4.l1
  have HA4 := Lib.hid hA4
  clear hA3 hA4 hb4
  go_wp2_with fail
  cases hlg : lightS s.size n1 n2
  · have hli := HLI.out w4
    rw [hlg] at hli
    have HLI2 := Lib.hid hli
    clear hli hlg HLI
    refine HLI2.out.mono ?_
    rintro e w5 ⟨rfl, hb5⟩
    have hB5 := hB4.trans (hb5.mono hB4.size)
    go_wp2_with fail
    go_ret
    exact ⟨rfl, hB5⟩
  have hli := HLI.out w4
  rw [hlg] at hli
  have HLI2 := Lib.hid hli
  obtain ⟨hle, hn1, hn2⟩ := lightS_in hlg
  clear hli hlg HLI
  refine HLI2.out.mono ?_
  rintro e w5 ⟨rfl, hb5⟩
  have hB5 := hB4.trans (hb5.mono hB4.size)
  have hA5 := HA4.out.below hb5 (by omega)
  have hz5 := hb5.size
  obtain ⟨g1, g2, g3⟩ := id hA5.g
  have HA5 := Lib.hid hA5
  clear hA5 HA4 hb5 g4 g5 HLI2 hB4
  go_wp2_with fail
  cases hrg : rightS W H (bytesOf s)
  · have hri := HRI.out w5
    rw [hrg] at hri
    have HRI2 := Lib.hid hri
    clear hri hrg HRI
    refine HRI2.out.mono ?_
    rintro e w6 ⟨rfl, hb6⟩
    have hB6 := hB5.trans (hb6.mono hB5.size)
    go_wp2_with fail
    go_ret
    exact ⟨rfl, hB6⟩
  have hri := HRI.out w5
  rw [hrg] at hri
  have HRI2 := Lib.hid hri
  have HOK := Lib.hid (Okay.of hrg)
  clear hri hrg HRI
  refine HRI2.out.mono ?_
  rintro e w6 ⟨rfl, hb6⟩
  have hB6 := hB5.trans (hb6.mono hB5.size)
  have hA6 := HA5.out.below hb6 (by omega)
  have hz6 := hb6.size
  have HA6 := Lib.hid hA6
  obtain ⟨er, lf, hfc, hfr⟩ := field_both W H p s l1 HOK.out HF1.out
  have HK1 := Lib.hid fun (V : World) (h : Below w6.heap.size w6 V) => HR1.out.below (hB6.trans (h.mono hB6.size))
  have HK2 := Lib.hid fun (V : World) (h : Below w6.heap.size w6 V) => HR2.out.below (hB6.trans (h.mono hB6.size))
  have hwz : w.heap.size ≤ w6.heap.size := hB6.size
  have HFC := Lib.hid fun (V : World) (h : Below w6.heap.size w6 V) => hfc a1 n1 c1 _ V (HK1.out V h) (by have := h.size; omega) (by omega)
  have HFR := Lib.hid fun (V : World) (h : Below w6.heap.size w6 V) => hfr a1 n1 c1 _ V (HK1.out V h) (by have := h.size; omega) (by omega)
  have HNC := Lib.hid fun (V : World) (h : Below w6.heap.size w6 V) => nearest_any W H q s l1 l2 a1 a2 n1 c1 n2 c2 _ V HOK.out (HK1.out V h) (HK2.out V h) (by have := h.size; omega) HF1.out HF2.out (by omega) (by omega)
  have HNR := Lib.hid fun (V : World) (h : Below w6.heap.size w6 V) => rnearest_any W H q s l1 l2 a1 a2 n1 c1 n2 c2 _ V HOK.out (HK1.out V h) (HK2.out V h) (by have := h.size; omega) (by omega) (by omega)
  have HDC := Lib.hid fun (V : World) (h : Below w6.heap.size w6 V) => far_any W H q p s l1 a1 n1 c1 _ V HOK.out (HK1.out V h) (by have := h.size; omega) HF1.out (by omega)
  have HDR := Lib.hid fun (V : World) (h : Below w6.heap.size w6 V) => rfar_any W H q p s l1 a1 n1 c1 _ V HOK.out (HK1.out V h) (by have := h.size; omega) (by omega)
  obtain ⟨g1, g2, g3⟩ := id hA6.g
  have t0 := hA6.ats 0 (by simp)
  have t1 := hA6.ats 1 (by simp)
  have g4 := hA6.l0
  have g5 := hA6.l1
  simp only [List.getD_cons_zero, List.getD_cons_succ] at t0 t1
  clear hA6 HA5 hb6 HRI2 hB5 hfc hfr
  go_wp2_with fail
  refine (HFC.out w6 (Below.refl _ _)).mono ?_
  rintro e u1 ⟨da, dn, dc, rfl, hrow1, hu1⟩
  have hy1 := hu1.size
  have hA7 := HA6.out.below hu1 (by omega)
  obtain ⟨g1, g2, g3⟩ := id hA7.g
  have t0 := hA7.ats 0 (by simp)
  have t1 := hA7.ats 1 (by simp)
  have g4 := hA7.l0
  have g5 := hA7.l1
  simp only [List.getD_cons_zero, List.getD_cons_succ] at t0 t1
  have HROW1 := Lib.hid hrow1
  clear hA7 hrow1
  go_wp2_with fail
  refine (HFR.out u1 hu1).mono ?_
  rintro e u2 ⟨ea, en, ec, rfl, hrow2, hu2⟩
  have hu12 := hu1.trans (hu2.mono hy1)
  have hy2 := hu12.size
  have hA8 := HA6.out.below hu12 (by omega)
  obtain ⟨g1, g2, g3⟩ := id hA8.g
  have t0 := hA8.ats 0 (by simp)
  have t1 := hA8.ats 1 (by simp)
  have g4 := hA8.l0
  have g5 := hA8.l1
  simp only [List.getD_cons_zero, List.getD_cons_succ] at t0 t1
  have HROW12 := Lib.hid (HROW1.out.below hu2)
  have HROW2 := Lib.hid hrow2
  have hy12 := hu2.size
  clear hA8 hrow2 HROW1 hu1
  go_wp2_with fail
  refine (HNC.out u2 hu12).mono ?_
  rintro e u3 ⟨rfl, hu3⟩
  have hu13 := hu12.trans (hu3.mono hy2)
  have hy3 := hu13.size
  have hA9 := HA6.out.below hu13 (by omega)
  obtain ⟨g1, g2, g3⟩ := id hA9.g
  have t0 := hA9.ats 0 (by simp)
  have t1 := hA9.ats 1 (by simp)
  have g4 := hA9.l0
  have g5 := hA9.l1
  simp only [List.getD_cons_zero, List.getD_cons_succ] at t0 t1
  clear hA9 hu12
  go_wp2_with fail
  refine (HNR.out u3 hu13).mono ?_
  rintro e u4 ⟨rfl, hu4⟩
  generalize nearG W H (bytesOf s) l1 l2 q = RN
  have hu14 := hu13.trans (hu4.mono hy3)
  have hu24 := hu3.trans (hu4.mono hu3.size)
  have hy4 := hu14.size
  have HI := Lib.hid (ints_anyZ da ea dn dc en ec u2.heap.size lf lf u4 ((HROW12.out.mono hy12).below hu24) (HROW2.out.below hu24))
  have HU14 := Lib.hid hu14
  clear hu13 hu3 hu4 hu24 HNC HNR HFC HFR
  go_wp2_with fail
  refine HI.out.mono ?_
  rintro e u5 ⟨rfl, mm, rfl⟩
  have huR : Below w6.heap.size w6 (u4.drewN mm) := below_drewN hu14 mm
  clear HI HROW12 HROW2 hu14 HU14 hu2 g1 g2 g3 g4 g5 t0 t1
  generalize u4.drewN mm = wR at huR
  have hyR := huR.size
  have hAR := HA6.out.below huR (by omega)
  have hBR := hB6.trans (huR.mono hB6.size)
  have hlR : w.heap.size + 1 + 1 < wR.heap.size := by omega
  have HC := Lib.hid fun (V : World) (h : Kept wR V) => kept_args h hAR hlR (HDC.out V (huR.trans (Below.mono h hyR)))
  have HR := Lib.hid fun (V : World) (h : Kept wR V) => kept_args h hAR hlR (HDR.out V (huR.trans (Below.mono h hyR)))
  obtain ⟨g1, g2, g3⟩ := id hAR.g
  have t0 := hAR.ats 0 (by simp)
  have t1 := hAR.ats 1 (by simp)
  have g4 := hAR.l0
  simp only [List.getD_cons_zero, List.getD_cons_succ] at t0 t1
  have k0 : Kept wR wR := Kept.refl _
  generalize farG W H (bytesOf s) l1 q p = y at HC HR
  have HBR := Lib.hid hBR
  clear hAR huR hBR HDC HDR
  go_wp2_with fail
  go_region_held3 (fun w' => Kept wR w' ∧ w'.cell? ⟨w.heap.size, 0, none⟩ = some (.int .i64 W) ∧ w'.cell? ⟨w.heap.size, 1, none⟩ = some (.int .i64 H) ∧ w'.cell? ⟨w.heap.size, 2, none⟩ = some (.string s) ∧
      w'.cell? ⟨w.heap.size + 1, 0, none⟩ = some (.int .i64 p) ∧ w'.cell? ⟨w.heap.size + 1, 1, none⟩ = some (.int .i64 q) ∧ w'.cell? ⟨w.heap.size + 1 + 1, 0, none⟩ = some (.slice a1 n1 c1))
    (first | (refine ⟨?_, ?_, ?_, ?_, ?_, ?_, ?_⟩ <;> first | assumption | exact Kept.drew (by assumption)))
    (first
      | (go_at_call 14; refine (HC.out _ ?_).mono ?_; (first | assumption | exact Kept.drew (by assumption)); rintro e wa ⟨rfl, ka, e1, e2, e3, e4, e5, e6⟩)
      | (go_at_call 15; refine (HR.out _ ?_).mono ?_; (first | assumption | exact Kept.drew (by assumption)); rintro e wb ⟨rfl, kb, d1, d2, d3, d4, d5, d6⟩))
  all_goals
    go_wp2_with fail
    go_ret
    refine ⟨rfl, HBR.out.trans (Below.mono ?_ HBR.out.size)⟩
    first | exact kb | exact ka | exact Kept.drew kb | exact Kept.drew ka
end Go.Proofs.Ytgjolllacchdeaa.Vm
