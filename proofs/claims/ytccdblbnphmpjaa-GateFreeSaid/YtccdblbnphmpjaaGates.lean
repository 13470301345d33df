/- The contract of gate.Gate. -/
import Derived.Test.YtccdblbnphmpjaaGateRuns
namespace Go.Proofs.Ytccdblbnphmpjaa.Vm
open Go Go.RowKit Go.Maps

set_option maxRecDepth 100000 in
set_option maxHeartbeats 400000 in
theorem gate_len (a1 a2 a3 : Option Addr) (n1 c1 n2 c2 n3 c3 : Nat) (w : World) (hne : n1 ≠ n2) :
    Calls Try.prog 8 #[.slice a1 n1 c1, .slice a2 n2 c2, .slice a3 n3 c3] w fun e w' => e = .returned (.tuple #[.slice none 0 0, .int .i64 1]) ∧ Below w.heap.size w w' := by
  have e0 : ((n2 : Int) != (n1 : Int)) = true := by rw [bne_iff_ne]; omega
  clear hne
  go_enter Try.func8, Try.ntmps8
  go_wp2_with fail
  go_ret2
  exact ⟨rfl, Below.refl _ _⟩

set_option maxRecDepth 100000 in
set_option maxHeartbeats 1000000 in
theorem gate_any : SaysGate 8 := by
  intro a1 a2 a3 n1 c1 n2 c2 n3 c3 B cells wants bl w h1 h2 h3 hB hn1 hn2 hn3 y1 y2 y3
  by_cases hne : n1 ≠ n2
  · refine (gate_len a1 a2 a3 n1 c1 n2 c2 n3 c3 w hne).mono ?_
    rintro e w' ⟨rfl, hb⟩
    refine ⟨none, 0, 0, 1, [], rfl, .inl ⟨fun e => hne (by rw [← h1.1, ← h2.1, e]), rfl, rfl⟩, ⟨rfl, Nat.le_refl _, by simp [maxLen], fun h => absurd h (by omega)⟩, hb⟩
  obtain rfl : n1 = n2 := Classical.not_not.1 hne
  clear hne
  have e0 : ((n1 : Int) != (n1 : Int)) = false := by simp
  obtain rfl : cells.length = n1 := h1.1
  have HL : Hid (cells.length = wants.length) := h2.1.symm
  have HRO := Lib.hid (robotsIn_any a1 _ c1 B cells w h1 hB y1 hn1)
  have HR1 := Lib.hid h1
  have HR2 := Lib.hid h2
  have HR3 := Lib.hid h3
  have HY1 := Lib.hid y1
  have HY2 := Lib.hid y2
  have HY3 := Lib.hid y3
  clear h1 h2 h3 y1 y2 y3
  go_enter Try.func8, Try.ntmps8
  go_wp2_with fail
  refine HRO.out.mono ?_
  rintro e w1 ⟨⟨ht, rfl⟩ | ⟨ht, rfl, hmi⟩, hb1⟩
  · have HB1 := Lib.hid hb1
    have HT := Lib.hid ht
    clear ht hb1
    go_wp2_with fail
    go_ret2
    exact ⟨none, 0, 0, 6, [], rfl, .inr (.inl ⟨HL.out, HT.out, rfl, rfl⟩), ⟨rfl, Nat.le_refl _, by simp [maxLen], fun h => absurd h (by omega)⟩, HB1.out⟩
  have HT := Lib.hid ht
  have hz1 := hb1.size
  have HB1 := Lib.hid hb1
  have HM1 := Lib.hid hmi
  have HCL := Lib.hid (cloneZ_any a2 _ c2 B wants w1 (HR2.out.below (hb1.mono hB)) (by omega) hn1)
  clear ht hmi hb1
  go_wp2_with fail
  refine HCL.out.mono ?_
  rintro e w2 ⟨a', c', rfl, how, hb2⟩
  have hz2 := hb2.size
  have HB2 := Lib.hid (HB1.out.trans (hb2.mono hz1))
  have HM2 := Lib.hid (HM1.out.keep (hb2.block _ HM1.out.lt))
  have HO2 := Lib.hid how
  have HSE := Lib.hid (setG_any a3 n3 c3 B bl w2 (HR3.out.below (HB2.out.mono hB)) (by omega) HY3.out hn3)
  clear how hb2 HCL
  go_wp2_with fail
  refine HSE.out.mono ?_
  rintro e w3 ⟨rfl, hsh, hb3⟩
  have hz3 := hb3.size
  have HB3 := Lib.hid (HB2.out.trans (hb3.mono (by omega)))
  have HM3 := Lib.hid (HM2.out.keep (hb3.block _ HM2.out.lt))
  have HO3 := Lib.hid (HO2.out.calls hb3)
  have HS3 := Lib.hid hsh
  have HFI := Lib.hid (firstTo_any a1 a2 _ c1 c2 B cells wants w3 (HR1.out.below (HB3.out.mono hB)) (HR2.out.below (HB3.out.mono hB)) (by omega) HY2.out hn1)
  clear hsh hb3 HSE
  go_wp2_with fail
  refine HFI.out.mono ?_
  rintro e w4 ⟨rfl, hmf, hb4⟩
  have hz4 := hb4.size
  have HB4 := Lib.hid (HB3.out.trans (hb4.mono (by omega)))
  have HM4 := Lib.hid (HM3.out.keep (hb4.block _ HM3.out.lt))
  have HO4 := Lib.hid (HO3.out.calls hb4)
  have HS4 := Lib.hid (HS3.out.keep (hb4.block _ HS3.out.lt))
  have HF4 := Lib.hid hmf
  clear hmf hb4 HFI
  go_wp2_with fail
  have HT5 : Hid (∀ o, o = Obj.cells #[.slice a1 cells.length c1, .slice a' cells.length c', .map (some w2.heap.size), .map (some w.heap.size), .map (some w3.heap.size)] 40 →
      Tr (w4.alloc o) w.heap.size w4.heap.size w2.heap.size w.heap.size w3.heap.size a1 cells.length c1 a' c' cells wants bl wants) := by
    rintro o rfl
    have hba : ∀ o, Below w4.heap.size w4 (w4.alloc o) := fun o => (Below.refl _ _).alloc (Nat.le_refl _) o
    have hca : ∀ (cs : Array Value) (t : TypeId) (i : Nat) (v : Value), cs[i]? = some v → (w4.alloc (.cells cs t)).cell? ⟨w4.heap.size, i, none⟩ = some v := fun cs t i v hv => by
      rw [cell_of_row (w4.alloc (.cells cs t)) w4.heap.size i cs t (0, 0) (heap_alloc_new w4 _)]
      exact hv
    refine ⟨hca _ _ 0 _ rfl, hca _ _ 1 _ rfl, hca _ _ 2 _ rfl, hca _ _ 3 _ rfl, hca _ _ 4 _ rfl, ((HR1.out.mono hB).below HB4.out).below ((hba _).mono (by omega)), (HO4.out.calls (hba _)).lower hz1, HL.out.symm,
      ⟨_, HS4.out.keep ((hba _).block _ HS4.out.lt)⟩, ⟨_, HM4.out.keep ((hba _).block _ HM4.out.lt)⟩, ⟨_, HF4.out.keep ((hba _).block _ HF4.out.lt)⟩, by omega, by simp, fun g hg => ?_⟩
    have hl1 := HM1.out.lt
    rcases HO2.out.2 with ⟨hv, _⟩ | ⟨g', cap, cur, hv, hb, hgl, _⟩
    · injection hv with hv
      rw [hg] at hv
      cases hv
    · injection hv with hv
      rw [hg] at hv
      injection hv with hv
      injection hv with hv _ _
      subst hv
      have hlt := (Array.getElem?_eq_some_iff.1 hgl).1
      omega
  have HT6 := Lib.hid (HT5.out _ rfl)
  have HRS := Lib.hid (resolve_any _ w.heap.size w4.heap.size w2.heap.size w.heap.size w3.heap.size c1 c' a1 a' cells wants bl HT6.out HY1.out HY2.out hn1 HT.out)
  have HB5 := Lib.hid (fun o => HB4.out.alloc HB4.out.size o)
  clear HT5
  refine HRS.out.mono ?_
  rintro e w6 ⟨rfl, ht6, hb6⟩
  have s1 := ht6.s1
  have HT7 := Lib.hid ht6
  have HB6 := Lib.hid ((HB5.out _).trans hb6)
  clear ht6 hb6 HRS HT6
  go_wp2_with fail
  go_ret2
  exact ⟨a', _, c', 0, _, rfl, .inr (.inr ⟨HL.out, HT.out, rfl, rfl⟩), HT7.out.ow.rowAt HT7.out.ln, HB6.out⟩
end Go.Proofs.Ytccdblbnphmpjaa.Vm
