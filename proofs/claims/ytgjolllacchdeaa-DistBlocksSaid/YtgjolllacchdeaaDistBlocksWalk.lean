/- tuggerlaw04.DistBlocks returns true for every input: what is blocked more lets nothing be nearer; there, and on from there, is no less far than at once. -/
import Derived.Test.YtgjolllacchdeaaFarMath
import Derived.Test.YtgjolllacchdeaaAppendZ
import Derived.Test.YtgjolllacchdeaaAwakeFour
import Derived.Test.YtgjolllacchdeaaRights
import Derived.Test.YtgjolllacchdeaaArgs
namespace Go.Proofs.Ytgjolllacchdeaa.Vm
open Go Go.RowKit

set_option maxRecDepth 100000 in
set_option maxHeartbeats 1200000 in
theorem distBlocks_walk (W H : Int) (s : ByteArray) (p q r : Int) (a1 : Option Addr) (n1 c1 : Nat) (z1 : List Int) (a2 : Option Addr) (n2 c2 : Nat) (z2 : List Int) (w : World)
    (_ : (Lit.int .i64 W).wf = true) (_ : (Lit.int .i64 H).wf = true) (hs : s.size ≤ maxLen) (_ : (Lit.int .i64 p).wf = true) (_ : (Lit.int .i64 q).wf = true) (_ : (Lit.int .i64 r).wf = true)
    (hi1 : IsRow .i64 w a1 n1 c1 z1) (hi2 : IsRow .i64 w a2 n2 c2 z2) :
    Calls Try.prog 5 #[gridV W H s, .agg #[.int .i64 p, .int .i64 q, .int .i64 r], .agg #[.slice a1 n1 c1, .slice a2 n2 c2]] w fun e w' => e = .returned (.bool true) ∧ Below w.heap.size w w' := by
  obtain ⟨r1, f1, m1⟩ := hi1.rowZ
  obtain ⟨r2, f2, m2⟩ := hi2.rowZ
  clear hi1 hi2
  generalize z1.take n1 = l1 at r1 f1
  generalize z2.take n2 = l2 at r2 f2
  obtain ⟨w3, hw3, hB3, hz3, hA3⟩ := args_head w W H s [p, q, r] (.slice a1 n1 c1) (.slice a2 n2 c2) 43 26 #[.int .i64 p, .int .i64 q, .int .i64 r] rfl
  have HW3 := Lib.hid hw3
  have HF1 := Lib.hid f1
  have HF2 := Lib.hid f2
  have HR1 := Lib.hid r1
  have HR2 := Lib.hid r2
  have HLI := Lib.hid fun w => light4_any W H s a1 a2 n1 c1 n2 c2 w hs m1 m2
  have HRI := Lib.hid fun w => rright_any W H s w hs
  clear hw3 f1 f2 r1 r2
  unfold maxLen at hs m1 m2
  go_enter Try.func5, Try.ntmps5
  go_wp2_with fail
  rw [← HW3.out]
  refine (awake4_any w3).mono ?_
  rintro e w4 ⟨rfl, hb4⟩
  have hB4 := hB3.trans (hb4.mono hB3.size)
  have hA4 := hA3.below hb4 (by omega)
  have hz4 := hb4.size
  obtain ⟨g1, g2, g3⟩ := id hA4.g
  have g4 := hA4.l0
  have g5 := hA4.l1
  have HA4 := Lib.hid hA4
  clear hA3 hA4 hb4
  cases hlg : lightS s.size n1 n2
  · have hli := HLI.out w4
    rw [hlg] at hli
    have HLI2 := Lib.hid hli
    clear hli hlg HLI
    go_wp2_with fail
    refine HLI2.out.mono ?_
    rintro e w5 ⟨rfl, hb5⟩
    have hB5 := hB4.trans (hb5.mono hB4.size)
    go_wp2_with fail
    go_ret
    exact ⟨rfl, hB5⟩
  have hli := HLI.out w4
  rw [hlg] at hli
  have HLI2 := Lib.hid hli
  obtain ⟨hle, hn1, hn2⟩ := lightS_in hlg
  clear hli hlg HLI
  go_wp2_with fail
  refine HLI2.out.mono ?_
  rintro e w5 ⟨rfl, hb5⟩
  have hB5 := hB4.trans (hb5.mono hB4.size)
  have hA5 := HA4.out.below hb5 (by omega)
  have hz5 := hb5.size
  obtain ⟨g1, g2, g3⟩ := id hA5.g
  have HA5 := Lib.hid hA5
  clear hA5 HA4 hb5 g4 g5 HLI2 hB4
  cases hrg : rightS W H (bytesOf s)
  · have hri := HRI.out w5
    rw [hrg] at hri
    have HRI2 := Lib.hid hri
    clear hri hrg HRI
    go_wp2_with fail
    refine HRI2.out.mono ?_
    rintro e w6 ⟨rfl, hb6⟩
    have hB6 := hB5.trans (hb6.mono hB5.size)
    go_wp2_with fail
    go_ret
    exact ⟨rfl, hB6⟩
  have hri := HRI.out w5
  rw [hrg] at hri
  have HRI2 := Lib.hid hri
  have HOK := Lib.hid (Okay.of hrg)
  clear hri hrg HRI
  go_wp2_with fail
  refine HRI2.out.mono ?_
  rintro e w6 ⟨rfl, hb6⟩
  have hB6 := hB5.trans (hb6.mono hB5.size)
  have hA6 := HA5.out.below hb6 (by omega)
  have hz6 := hb6.size
  have g4 := hA6.l0
  have g5 := hA6.l1
  have HA6 := Lib.hid hA6
  have k0 : Kept w6 w6 := Kept.refl _
  have HK1 := Lib.hid fun (V : World) (h : Kept w6 V) => HR1.out.below (hB6.trans (Below.mono h hB6.size))
  have HK2 := Lib.hid fun (V : World) (h : Kept w6 V) => HR2.out.below (hB6.trans (Below.mono h hB6.size))
  have HL1 := Lib.hid HR1.out.1
  have HL2 := Lib.hid HR2.out.1
  clear hA6 HA5 hb6 HRI2 hB5 g1 g2 g3
  go_wp2_with fail
  have hlt6 : w.heap.size + 1 + 1 < w6.heap.size := by omega
  have k1 : ∀ o, Kept w6 (w6.alloc o).drew := fun o => Kept.drew (Kept.alloc k0 o)
  have d5 : ∀ o, (w6.alloc o).drew.cell? ⟨w.heap.size + 1 + 1, 0, none⟩ = some (.slice a1 n1 c1) := fun o => (Below.cell (k1 o) (p := ⟨w.heap.size + 1 + 1, 0, none⟩) hlt6).trans g4
  have d6 : ∀ o, (w6.alloc o).drew.cell? ⟨w.heap.size + 1 + 1, 1, none⟩ = some (.slice a2 n2 c2) := fun o => (Below.cell (k1 o) (p := ⟨w.heap.size + 1 + 1, 1, none⟩) hlt6).trans g5
  go_region_held3 (fun w' => Kept w6 w' ∧ w'.cell? ⟨w.heap.size + 1 + 1, 0, none⟩ = some (.slice a1 n1 c1) ∧ w'.cell? ⟨w.heap.size + 1 + 1, 1, none⟩ = some (.slice a2 n2 c2))
    (first | (refine ⟨?_, ?_, ?_⟩ <;> first | assumption | exact Kept.drew (by assumption) | exact k1 _ | exact d5 _ | exact d6 _))
    (first
      | (refine step_append_kept rfl _ _ rfl (A := w6) rfl (by assumption) rfl (HK2.out _ (by assumption)) (by simp [HL1.out, HL2.out]; omega) (by assumption) ?_; intro v2 V2 own2 kv2; have d1 := (Below.cell kv2 (p := ⟨w.heap.size + 1 + 1, 0, none⟩) hlt6).trans g4; have d2 := (Below.cell kv2 (p := ⟨w.heap.size + 1 + 1, 1, none⟩) hlt6).trans g5)
      | (refine step_append_kept rfl _ _ rfl (A := w6) rfl (OwnZ.drew (ownZ_empty _ (Nat.le_refl _))) rfl (HK1.out _ (Kept.drew (Kept.alloc k0 _))) (by simp; omega) (Kept.drew (Kept.alloc k0 _)) ?_; intro v1 V1 own1 kv1; have d3 := (Below.cell kv1 (p := ⟨w.heap.size + 1 + 1, 0, none⟩) hlt6).trans g4; have d4 := (Below.cell kv1 (p := ⟨w.heap.size + 1 + 1, 1, none⟩) hlt6).trans g5))
  obtain ⟨ab, cb, hv2, rb⟩ := own2.row
  obtain ⟨nb, hnb⟩ : ∃ nb, nb = ([] ++ l1 ++ l2).length := ⟨_, rfl⟩
  rw [← hnb] at hv2 rb
  rw [List.nil_append] at rb hnb
  subst hv2
  have hB7 : Below w.heap.size w V2 := hB6.trans (Below.mono kv2 hB6.size)
  have hA7 := HA6.out.below kv2 hlt6
  have hz7 := kv2.size
  have HRB := Lib.hid rb
  have HLB : Hid (nb = n1 + n2) := by show nb = n1 + n2; rw [hnb, List.length_append, HL1.out, HL2.out]
  have HRW1 := Lib.hid (HK1.out V2 kv2)
  have HSUB : Hid (∀ x ∈ l1, x ∈ l1 ++ l2) := fun x hx => List.mem_append.2 (.inl hx)
  have HFB : Hid (∀ z ∈ l1 ++ l2, (Lit.int .i64 z).wf = true) := fun z hz => by
    rcases List.mem_append.1 hz with h | h
    · exact HF1.out z h
    · exact HF2.out z h
  have hlb := HLB.out
  clear hnb
  generalize l1 ++ l2 = lb at HRB HSUB HFB
  have HA7 := Lib.hid hA7
  have HFN := Lib.hid fun V fr to (hk : Below V2.heap.size V2 V) => far_any W H fr to s l1 a1 n1 c1 w.heap.size V HOK.out (HRW1.out.below (hk.mono hB7.size)) (by have := hB7.size; have := hk.size; omega) HF1.out (by omega)
  have HFM := Lib.hid fun V fr to (hk : Below V2.heap.size V2 V) => far_any W H fr to s lb ab nb cb V2.heap.size V HOK.out (HRB.out.below hk) hk.size HFB.out (by omega)
  obtain ⟨g1, g2, g3⟩ := id hA7.g
  have t0 := hA7.ats 0 (by simp)
  have t1 := hA7.ats 1 (by simp)
  have g6 := hA7.l0
  simp only [List.getD_cons_zero, List.getD_cons_succ] at t0 t1
  clear hlb own2 rb own1 kv1 kv2 d1 d2 d3 d4 d5 d6 k0 k1 g4 g5 hA7 HK1 HK2 HA6 hB6 HR1 HR2
  go_wp2_with fail
  refine (HFN.out _ p q (Below.refl _ _)).mono ?_
  rintro e u1 ⟨rfl, hu1⟩
  have hA8 := HA7.out.below hu1 (by omega)
  have hy1 := hu1.size
  obtain ⟨g1, g2, g3⟩ := id hA8.g
  have t0 := hA8.ats 0 (by simp)
  have t1 := hA8.ats 1 (by simp)
  simp only [List.getD_cons_zero, List.getD_cons_succ] at t0 t1
  clear hA8
  go_wp2_with fail
  refine (HFM.out _ p q hu1).mono ?_
  rintro e u2 ⟨rfl, hu2⟩
  have hu12 := hu1.trans (hu2.mono hy1)
  have hA9 := HA7.out.below hu12 (by omega)
  have hy2 := hu12.size
  obtain ⟨g1, g2, g3⟩ := id hA9.g
  have t0 := hA9.ats 0 (by simp)
  have t1 := hA9.ats 1 (by simp)
  have t2 := hA9.ats 2 (by simp)
  have g6 := hA9.l0
  simp only [List.getD_cons_zero, List.getD_cons_succ] at t0 t1 t2
  clear hA9 hu1 hu2 hy1
  have hmore := fun h => farG_more (W := W) (H := H) (l := bytesOf s) (bl := l1) (bl' := lb) (a := p) (b := q) HSUB.out h
  have hn0 := farG_ge W H (bytesOf s) l1 p q
  have hm0 := farG_ge W H (bytesOf s) lb p q
  have hk0 := farG_ge W H (bytesOf s) l1 q r
  have ha0 := farG_ge W H (bytesOf s) l1 p r
  have hn9 := farG_lt (W := W) (H := H) (l := bytesOf s) (bl := l1) (a := p) (b := q)
  have hk9 := farG_lt (W := W) (H := H) (l := bytesOf s) (bl := l1) (a := q) (b := r)
  have hon := fun h1 h2 => farG_on (W := W) (H := H) (l := bytesOf s) (bl := l1) (a := p) (b := q) (c := r) h1 h2
  rw [bytesOf_len] at hn9 hk9
  generalize farG W H (bytesOf s) l1 p q = dn at hmore hn0 hn9 hon
  generalize farG W H (bytesOf s) lb p q = dm at hmore hm0
  have HFK := Lib.hid (HFN.out u2 q r hu12)
  have HFA := Lib.hid fun V hk => HFN.out V p r hk
  have hcond : 0 ≤ dm → decide (dn < 0) = false ∧ decide (dm < dn) = false := fun h => by
    have := hmore h
    exact ⟨decide_eq_false (by omega), decide_eq_false (by omega)⟩
  have HON := Lib.hid hon
  have HCOND := Lib.hid hcond
  clear hmore hon hcond HFN HFM
  have fin : ∀ (u3 : World) (ok : Below V2.heap.size V2 u3), Hid (Below w.heap.size w u3) := fun u3 h => hB7.trans (h.mono hB7.size)
  have HFIN := Lib.hid fin
  clear fin
  by_cases hdm : 0 ≤ dm
  · obtain ⟨q1, q2⟩ := HCOND.out hdm
    have hdn : 0 ≤ dn := by have := of_decide_eq_false q1; omega
    go_wp2_with fail
    refine HFK.out.mono ?_
    rintro e u3 ⟨rfl, hu3⟩
    have hu13 := hu12.trans (hu3.mono hy2)
    have hA10 := HA7.out.below hu13 (by omega)
    have hy3 := hu13.size
    obtain ⟨g1, g2, g3⟩ := id hA10.g
    have t0 := hA10.ats 0 (by simp)
    have t2 := hA10.ats 2 (by simp)
    have g6 := hA10.l0
    simp only [List.getD_cons_zero, List.getD_cons_succ] at t0 t2
    clear hA10 hu3
    have HFA2 := Lib.hid (HFA.out u3 hu13)
    have hon := HON.out
    generalize farG W H (bytesOf s) l1 q r = dk at hk0 hk9 hon
    have HON2 := Lib.hid hon
    clear hon
    go_wp2_with fail
    refine HFA2.out.mono ?_
    rintro e u4 ⟨rfl, hu4⟩
    have HE := Lib.hid (HFIN.out u4 (hu13.trans (hu4.mono hy3)))
    have hon := HON2.out
    generalize farG W H (bytesOf s) l1 p r = da at ha0 hon ⊢
    have HON3 := Lib.hid hon
    clear hon HON2
    clear g1 g2 g3 g6 t0 t2 hu4 hu13 hu12 HFA HON HFA2 HFK
    by_cases hcn : dn < 0
    · go_wp2_with fail
      go_ret
      exact ⟨rfl, HE.out.out⟩
    · by_cases hck : dk < 0
      · go_wp2_with fail
        go_ret
        exact ⟨rfl, HE.out.out⟩
      · obtain ⟨x1, x2⟩ := HON3.out (by omega) (by omega)
        have x3 : decide (da ≤ dn + dk) = true := decide_eq_true x2
        go_wp2_with fail
        go_ret
        exact ⟨rfl, HE.out.out⟩
  · go_wp2_with fail
    refine HFK.out.mono ?_
    rintro e u3 ⟨rfl, hu3⟩
    have hu13 := hu12.trans (hu3.mono hy2)
    have hA10 := HA7.out.below hu13 (by omega)
    have hy3 := hu13.size
    obtain ⟨g1, g2, g3⟩ := id hA10.g
    have t0 := hA10.ats 0 (by simp)
    have t2 := hA10.ats 2 (by simp)
    have g6 := hA10.l0
    simp only [List.getD_cons_zero, List.getD_cons_succ] at t0 t2
    clear hA10 hu3
    have HFA2 := Lib.hid (HFA.out u3 hu13)
    have hon := HON.out
    generalize farG W H (bytesOf s) l1 q r = dk at hk0 hk9 hon
    have HON2 := Lib.hid hon
    clear hon
    go_wp2_with fail
    refine HFA2.out.mono ?_
    rintro e u4 ⟨rfl, hu4⟩
    have HE := Lib.hid (HFIN.out u4 (hu13.trans (hu4.mono hy3)))
    have hon := HON2.out
    generalize farG W H (bytesOf s) l1 p r = da at ha0 hon ⊢
    have HON3 := Lib.hid hon
    clear hon HON2
    clear g1 g2 g3 g6 t0 t2 hu4 hu13 hu12 HFA HON HFA2 HFK
    by_cases hcn : dn < 0
    · go_wp2_with fail
      go_ret
      exact ⟨rfl, HE.out.out⟩
    · by_cases hck : dk < 0
      · go_wp2_with fail
        go_ret
        exact ⟨rfl, HE.out.out⟩
      · obtain ⟨x1, x2⟩ := HON3.out (by omega) (by omega)
        have x3 : decide (da ≤ dn + dk) = true := decide_eq_true x2
        go_wp2_with fail
        go_ret
        exact ⟨rfl, HE.out.out⟩
end Go.Proofs.Ytgjolllacchdeaa.Vm
