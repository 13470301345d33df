/- The contract of the document's Apply, at an order. The contract of the document's Apply, at what happens to a robot. -/
import Derived.Test.YtlfgdalpaacccaaRefApply
import Derived.Test.YtlfgdalpaacccaaInChecksB
namespace Go.Proofs.Ytlfgdalpaacccaa.Vm
open Go Go.RowKit

set_option maxRecDepth 100000 in
set_option maxHeartbeats 4000000 in
theorem rap_order (W H : Int) (g : ByteArray) (h : Sh) (s : St) (x : Inp) (w : World) (hg : g.size ≤ maxLen) (hin : StIn w w.heap.size h s) (hn1 : h.n1 ≤ 90000) (hn2 : h.n2 ≤ 90000) (hn3 : h.n3 ≤ 90000) (hk : x.k = 1) :
    Calls Try.prog 13 #[gridV W H g, shV h, inpV x] w fun e w' => ∃ h', e = .returned (.tuple #[shV h', .int .i64 (codeO (floorS (bytesOf g)) s x)]) ∧ Fine w' h s w.heap.size h' (if codeO (floorS (bytesOf g)) s x = 0 then turnO s x else s) ∧ Below w.heap.size w w' := by
  obtain ⟨w4, hw4, hB4, hz4, hg4, hs4, hx4, hq4, hf4⟩ := gsxz_head w W H g h x
  have HCP := Lib.hid (rcopy_any h s w.heap.size w4 (hin.below hB4) (by omega) (by omega) (by omega) (by omega))
  obtain ⟨code, hcode⟩ : ∃ code, codeO (floorS (bytesOf g)) s x = code := ⟨_, rfl⟩
  obtain ⟨res, hres⟩ : ∃ res, (if codeO (floorS (bytesOf g)) s x = 0 then turnO s x else s) = res := ⟨_, rfl⟩
  rw [hres, hcode]
  rw [hcode] at hres
  have HR0 : Hid (code = 0 → res = turnO s x) := fun h => by rw [← hres, if_pos h]
  have HR1 : Hid (code ≠ 0 → res = s) := fun h => by rw [← hres, if_neg h]
  clear hres
  have HFL := Lib.hid fun (c : Int) (V : World) => rfloor_any W H c g V hg
  have HC1 : Hid (_ → code = 1) := fun h => hcode.symm.trans (codeO_1 h)
  have HC5 : Hid (_ → _ → _ → code = 5) := fun h h2 h3 => hcode.symm.trans (codeO_5 h h2 h3)
  have HCN : Hid (_ → _ → _ → _ → code = _) := fun h h2 h3 h4 => hcode.symm.trans (codeO_n h h2 h3 h4)
  have HFD := Lib.hid fun (V : World) (hV : Below w.heap.size w V) => rfind_any h s.ts x.a w.heap.size V (hin.ts.below hV) hV.size
  have HTO : Hid (turnO s x = ⟨s.tick, s.rs, s.ts ++ [⟨x.a, x.b, x.c, 1, -1⟩], s.bl⟩) := rfl
  clear hcode
  have HQB4 : Hid (StB w4 (w.heap.size + 1 + 1 + 1)) := by
    obtain ⟨u, hu, hbu, zu, _⟩ := gsx_head w W H g h x
    refine ⟨#[.int .i64 0, .slice none 0 0, .slice none 0 0, .slice none 0 0], ?_⟩
    rw [hw4, ← hu, show w.heap.size + 1 + 1 + 1 = u.heap.size by omega]
    exact heap_alloc_new u _
  have HW := Lib.hid hw4
  have HB4 := Lib.hid hB4
  have HG4 := Lib.hid hg4
  have HS4 := Lib.hid hs4
  have HX4 := Lib.hid hx4
  have HQ4 := Lib.hid hq4
  have HF4 := Lib.hid hf4
  have HIN := Lib.hid hin
  have HN1 := Lib.hid hin.rs.1
  have HN2 := Lib.hid hin.ts.1
  have hnm1 := hin.rs.len
  have hnm2 := hin.ts.len
  unfold maxLen at hnm1 hnm2
  obtain ⟨t, a1, n1, c1, a2, n2, c2, a3, n3, c3⟩ := h
  obtain ⟨xk, xa, xb, xc⟩ := x
  obtain ⟨s0, s1, s2, s3⟩ := hs4
  obtain ⟨x0, x1, x2, x3⟩ := hx4
  simp only [] at s0 s1 s2 s3 x0 x1 x2 x3 hk hn1 hn2 hn3 HN1 HN2 hnm1 hnm2 HC1 HC5 HCN HFD HTO
  subst hk
  clear hin hw4 hB4 hg4 hq4 hf4 hg
  go_enter Try.func13, Try.ntmps13
  go_wp2_with fail
  rw [← HW.out]
  refine HCP.out.mono ?_
  rintro e w5 ⟨h1, rfl, hc5, hb5⟩
  have hz5 := hb5.size
  have HW5 := Lib.hid (HB4.out.trans (hb5.mono HB4.out.size))
  have HG5 := Lib.hid (HG4.out.below hb5 (by omega))
  have HS5 := Lib.hid (HS4.out.below hb5 (by omega))
  have HX5 := Lib.hid (HX4.out.below hb5 (by omega))
  have HQ5 := Lib.hid (HQ4.out.below hb5 (by omega))
  have HF5 : Hid (∀ i, w5.frozen? ⟨w.heap.size + 1 + 1 + 1, i, none⟩ = false) := fun i => (hb5.frozen (p := ⟨w.heap.size + 1 + 1 + 1, i, none⟩) (show w.heap.size + 1 + 1 + 1 < w4.heap.size by omega)).trans (HF4.out i)
  have HZ4 := Lib.hid hz4
  have hl0 : w.heap.size < w5.heap.size := by omega
  have hl1 : w.heap.size + 1 < w5.heap.size := by omega
  have hl2 : w.heap.size + 1 + 1 < w5.heap.size := by omega
  have hl3 : w.heap.size + 1 + 1 + 1 < w5.heap.size := by omega
  have hba : Below w5.heap.size w5 (w5.alloc (shO h1)) := (Below.refl _ _).alloc (Nat.le_refl _) _
  obtain ⟨w6, hw6⟩ : ∃ w6, w6 = w5.alloc (shO h1) := ⟨_, rfl⟩
  have hz6 : w6.heap.size = w5.heap.size + 1 := by rw [hw6]; simp
  have hob : StB w6 w5.heap.size := ⟨_, by rw [hw6]; exact heap_alloc_new w5 _⟩
  have hoa : StAt w6 w5.heap.size h1 := by rw [hw6]; exact stAt_new w5 h1
  have hof : ∀ i, w6.frozen? ⟨w5.heap.size, i, none⟩ = false := fun i => by rw [hw6]; simp
  rw [← hw6] at hba
  have HW6 := Lib.hid hw6
  have HBW6 := Lib.hid (HW5.out.trans (hba.mono HW5.out.size))
  have HC6 := Lib.hid (hc5.calls hba)
  have HOB := Lib.hid hob
  have HOA := Lib.hid hoa
  have HOF := Lib.hid hof
  have HG6 := Lib.hid (HG5.out.below hba (by omega))
  have HS6 := Lib.hid (HS5.out.below hba (by omega))
  have HX6 := Lib.hid (HX5.out.below hba (by omega))
  have HQ6 := Lib.hid (HQ5.out.below hba (by omega))
  have HF6 : Hid (∀ i, w6.frozen? ⟨w.heap.size + 1 + 1 + 1, i, none⟩ = false) := fun i => (hba.frozen (p := ⟨w.heap.size + 1 + 1 + 1, i, none⟩) (show w.heap.size + 1 + 1 + 1 < w5.heap.size by omega)).trans (HF5.out i)
  have HZ6 := Lib.hid hz6
  have HZ5 : Hid (w4.heap.size ≤ w5.heap.size) := hz5
  have HQB := Lib.hid ((HQB4.out.calls hb5).calls hba)
  obtain ⟨g0, g1, g2⟩ := id HG5.out
  obtain ⟨x0', x1', x2', x3'⟩ := id HX5.out
  obtain ⟨s0', s1', s2', s3'⟩ := id HS5.out
  obtain ⟨q0, q1, q2, q3⟩ := id HQ5.out
  have f0 := HF5.out 0
  have f1 := HF5.out 1
  have f2 := HF5.out 2
  have f3 := HF5.out 3
  obtain ⟨t', b1, m1, d1, b2, m2, d2, b3, m3, d3⟩ := h1
  simp only [] at x0' x1' x2' x3' s0' s1' s2' s3' q0 q1 q2 q3
  clear s0 s1 s2 s3 x0 x1 x2 x3 hb5 hc5 HCP hz4 hz5 hba hw6 hob hoa hof hz6
  obtain ⟨fb, hfb⟩ : ∃ fb, floorS (bytesOf g) xb = fb := ⟨_, rfl⟩
  obtain ⟨fc, hfc⟩ : ∃ fc, floorS (bytesOf g) xc = fc := ⟨_, rfl⟩
  have HFB := Lib.hid fun V => HFL.out xb V
  have HFC := Lib.hid fun V => HFL.out xc V
  rw [hfb] at HFB
  rw [hfc] at HFC
  rw [hfb, hfc] at HC5 HCN
  clear hfb hfc HFL
  have hsp : (xa < 1) ∨ (1 ≤ xa ∧ 2147483647 < xa) ∨ (1 ≤ xa ∧ xa ≤ 2147483647) := by omega
  rcases hsp with h1 | ⟨h1, h2⟩ | ⟨h1, h2⟩
  · have hc1 := HC1.out (.inl (by omega))
    have HRES := Lib.hid (HR1.out (by omega))
    subst hc1
    clear HR0 HR1 HC1 HC5 HCN HFB HFC HFD
    have HRR := Lib.hid (rap_err (B := 0) HIN.out HW5.out (show w.heap.size ≤ w.heap.size + 1 + 1 + 1 by omega) (.int .i64 t) (.slice a1 n1 c1) (.slice a2 n2 c2) (.slice a3 n3 c3) (shO ⟨t', b1, m1, d1, b2, m2, d2, b3, m3, d3⟩))
    go_wp2_with fail
    refine bodyPost_ret (v := .tuple #[shV ⟨t, a1, n1, c1, a2, n2, c2, a3, n3, c3⟩, .int .i64 1]) (by simp [results, Try.results13, go_sem, q0, q1, q2, q3, hl3]) rfl ⟨_, by first | rfl | trivial, ?_⟩
    rw [HRES.out]
    exact HRR.out
  · have hc1 := HC1.out (.inl (by omega))
    have HRES := Lib.hid (HR1.out (by omega))
    subst hc1
    clear HR0 HR1 HC1 HC5 HCN HFB HFC HFD
    have h1' : ¬ xa < 1 := by omega
    have HRR := Lib.hid (rap_err (B := 0) HIN.out HW5.out (show w.heap.size ≤ w.heap.size + 1 + 1 + 1 by omega) (.int .i64 t) (.slice a1 n1 c1) (.slice a2 n2 c2) (.slice a3 n3 c3) (shO ⟨t', b1, m1, d1, b2, m2, d2, b3, m3, d3⟩))
    go_wp2_with fail
    refine bodyPost_ret (v := .tuple #[shV ⟨t, a1, n1, c1, a2, n2, c2, a3, n3, c3⟩, .int .i64 1]) (by simp [results, Try.results13, go_sem, q0, q1, q2, q3, hl3]) rfl ⟨_, by first | rfl | trivial, ?_⟩
    rw [HRES.out]
    exact HRR.out
  have h1' : ¬ xa < 1 := by omega
  have h2' : ¬ 2147483647 < xa := by omega
  have HH1 : Hid (1 ≤ xa ∧ xa ≤ 2147483647) := ⟨h1, h2⟩
  by_cases h3 : xb = xc
  · have hc1 := HC1.out (.inr h3)
    have HRES := Lib.hid (HR1.out (by omega))
    subst hc1
    have e3 : (xb == xc) = true := by simpa using h3
    clear HR0 HR1 HC1 HC5 HCN HFB HFC HFD h3
    have HRR := Lib.hid (rap_err (B := 0) HIN.out HW5.out (show w.heap.size ≤ w.heap.size + 1 + 1 + 1 by omega) (.int .i64 t) (.slice a1 n1 c1) (.slice a2 n2 c2) (.slice a3 n3 c3) (shO ⟨t', b1, m1, d1, b2, m2, d2, b3, m3, d3⟩))
    go_wp2_with fail
    refine bodyPost_ret (v := .tuple #[shV ⟨t, a1, n1, c1, a2, n2, c2, a3, n3, c3⟩, .int .i64 1]) (by simp [results, Try.results13, go_sem, q0, q1, q2, q3, hl3]) rfl ⟨_, by first | rfl | trivial, ?_⟩
    rw [HRES.out]
    exact HRR.out
  have e3 : (xb == xc) = false := by simpa using h3
  have HH3 : Hid (xb ≠ xc) := h3
  clear h3 HC1
  go_wp2_with fail
  rw [← HW6.out]
  refine (HFB.out _).mono ?_
  rintro e w7 ⟨rfl, hb7⟩
  have HB7 := Lib.hid hb7
  clear g0 g1 g2 x0' x1' x2' x3' s0' s1' s2' s3' q0 q1 q2 q3 f0 f1 f2 f3
  have HW7 := Lib.hid (HBW6.out.trans (HB7.out.mono HBW6.out.size))
  have HC7 := Lib.hid (HC6.out.calls HB7.out)
  have HOB7 := Lib.hid (HOB.out.calls HB7.out)
  have HQB7 := Lib.hid (HQB.out.calls HB7.out)
  obtain ⟨g0, g1, g2⟩ := HG6.out.below HB7.out (show w.heap.size < w6.heap.size by have := HZ6.out; omega)
  obtain ⟨x0', x1', x2', x3'⟩ := HX6.out.below HB7.out (show w.heap.size + 1 + 1 < w6.heap.size by have := HZ6.out; omega)
  obtain ⟨s0', s1', s2', s3'⟩ := HS6.out.below HB7.out (show w.heap.size + 1 < w6.heap.size by have := HZ6.out; omega)
  obtain ⟨q0, q1, q2, q3⟩ := HQ6.out.below HB7.out (show w.heap.size + 1 + 1 + 1 < w6.heap.size by have := HZ6.out; omega)
  obtain ⟨o0, o1, o2, o3⟩ := HOA.out.below HB7.out (show w5.heap.size < w6.heap.size by have := HZ6.out; omega)
  have f0 := (HB7.out.frozen (p := ⟨w.heap.size + 1 + 1 + 1, 0, none⟩) (show w.heap.size + 1 + 1 + 1 < w6.heap.size by have := HZ6.out; omega)).trans (HF6.out 0)
  have f1 := (HB7.out.frozen (p := ⟨w.heap.size + 1 + 1 + 1, 1, none⟩) (show w.heap.size + 1 + 1 + 1 < w6.heap.size by have := HZ6.out; omega)).trans (HF6.out 1)
  have f2 := (HB7.out.frozen (p := ⟨w.heap.size + 1 + 1 + 1, 2, none⟩) (show w.heap.size + 1 + 1 + 1 < w6.heap.size by have := HZ6.out; omega)).trans (HF6.out 2)
  have f3 := (HB7.out.frozen (p := ⟨w.heap.size + 1 + 1 + 1, 3, none⟩) (show w.heap.size + 1 + 1 + 1 < w6.heap.size by have := HZ6.out; omega)).trans (HF6.out 3)
  simp only [] at x0' x1' x2' x3' s0' s1' s2' s3' q0 q1 q2 q3 o0 o1 o2 o3
  clear hb7 HFB
  cases fb
  · have hc5 := HC5.out HH1.out HH3.out (.inl rfl)
    have HRES := Lib.hid (HR1.out (by omega))
    subst hc5
    clear HR0 HR1 HC5 HCN HFC HFD
    have HRR := Lib.hid (rap_err0 HIN.out HW7.out (show w.heap.size ≤ w.heap.size + 1 + 1 + 1 by omega) (.int .i64 t) (.slice a1 n1 c1) (.slice a2 n2 c2) (.slice a3 n3 c3))
    go_wp2_with fail
    refine bodyPost_ret (v := .tuple #[shV ⟨t, a1, n1, c1, a2, n2, c2, a3, n3, c3⟩, .int .i64 5]) (by simp [results, Try.results13, go_sem, q0, q1, q2, q3]) rfl ⟨_, by first | rfl | trivial, ?_⟩
    rw [HRES.out]
    exact HRR.out
  go_wp2_with fail
  refine (HFC.out _).mono ?_
  rintro e w8 ⟨rfl, hb8⟩
  have HB8 := Lib.hid (HB7.out.trans (hb8.mono HB7.out.size))
  clear g0 g1 g2 x0' x1' x2' x3' s0' s1' s2' s3' q0 q1 q2 q3 f0 f1 f2 f3 o0 o1 o2 o3
  have HW8 := Lib.hid (HBW6.out.trans (HB8.out.mono HBW6.out.size))
  have HC8 := Lib.hid (HC6.out.calls HB8.out)
  have HOB8 := Lib.hid (HOB.out.calls HB8.out)
  have HQB8 := Lib.hid (HQB.out.calls HB8.out)
  obtain ⟨g0, g1, g2⟩ := HG6.out.below HB8.out (show w.heap.size < w6.heap.size by have := HZ6.out; omega)
  obtain ⟨x0', x1', x2', x3'⟩ := HX6.out.below HB8.out (show w.heap.size + 1 + 1 < w6.heap.size by have := HZ6.out; omega)
  obtain ⟨s0', s1', s2', s3'⟩ := HS6.out.below HB8.out (show w.heap.size + 1 < w6.heap.size by have := HZ6.out; omega)
  obtain ⟨q0, q1, q2, q3⟩ := HQ6.out.below HB8.out (show w.heap.size + 1 + 1 + 1 < w6.heap.size by have := HZ6.out; omega)
  obtain ⟨o0, o1, o2, o3⟩ := HOA.out.below HB8.out (show w5.heap.size < w6.heap.size by have := HZ6.out; omega)
  have f0 := (HB8.out.frozen (p := ⟨w.heap.size + 1 + 1 + 1, 0, none⟩) (show w.heap.size + 1 + 1 + 1 < w6.heap.size by have := HZ6.out; omega)).trans (HF6.out 0)
  have f1 := (HB8.out.frozen (p := ⟨w.heap.size + 1 + 1 + 1, 1, none⟩) (show w.heap.size + 1 + 1 + 1 < w6.heap.size by have := HZ6.out; omega)).trans (HF6.out 1)
  have f2 := (HB8.out.frozen (p := ⟨w.heap.size + 1 + 1 + 1, 2, none⟩) (show w.heap.size + 1 + 1 + 1 < w6.heap.size by have := HZ6.out; omega)).trans (HF6.out 2)
  have f3 := (HB8.out.frozen (p := ⟨w.heap.size + 1 + 1 + 1, 3, none⟩) (show w.heap.size + 1 + 1 + 1 < w6.heap.size by have := HZ6.out; omega)).trans (HF6.out 3)
  simp only [] at x0' x1' x2' x3' s0' s1' s2' s3' q0 q1 q2 q3 o0 o1 o2 o3
  clear hb8 HFC
  cases fc
  · have hc5 := HC5.out HH1.out HH3.out (.inr rfl)
    have HRES := Lib.hid (HR1.out (by omega))
    subst hc5
    clear HR0 HR1 HC5 HCN HFD
    have HRR := Lib.hid (rap_err0 HIN.out HW8.out (show w.heap.size ≤ w.heap.size + 1 + 1 + 1 by omega) (.int .i64 t) (.slice a1 n1 c1) (.slice a2 n2 c2) (.slice a3 n3 c3))
    go_wp2_with fail
    refine bodyPost_ret (v := .tuple #[shV ⟨t, a1, n1, c1, a2, n2, c2, a3, n3, c3⟩, .int .i64 5]) (by simp [results, Try.results13, go_sem, q0, q1, q2, q3]) rfl ⟨_, by first | rfl | trivial, ?_⟩
    rw [HRES.out]
    exact HRR.out
  have hcn := HCN.out HH1.out HH3.out (by trivial) (by trivial)
  rw [HN2.out] at hcn
  have HCO := Lib.hid hcn
  clear HC5 HCN hcn
  go_wp2_with fail
  refine (HFD.out _ HW8.out).mono ?_
  rintro e w9 ⟨rfl, hb9⟩
  have HB9 := Lib.hid (HB8.out.trans (hb9.mono HB8.out.size))
  clear g0 g1 g2 x0' x1' x2' x3' s0' s1' s2' s3' q0 q1 q2 q3 f0 f1 f2 f3 o0 o1 o2 o3
  have HW9 := Lib.hid (HBW6.out.trans (HB9.out.mono HBW6.out.size))
  have HC9 := Lib.hid (HC6.out.calls HB9.out)
  have HOB9 := Lib.hid (HOB.out.calls HB9.out)
  have HQB9 := Lib.hid (HQB.out.calls HB9.out)
  obtain ⟨g0, g1, g2⟩ := HG6.out.below HB9.out (show w.heap.size < w6.heap.size by have := HZ6.out; omega)
  obtain ⟨x0', x1', x2', x3'⟩ := HX6.out.below HB9.out (show w.heap.size + 1 + 1 < w6.heap.size by have := HZ6.out; omega)
  obtain ⟨s0', s1', s2', s3'⟩ := HS6.out.below HB9.out (show w.heap.size + 1 < w6.heap.size by have := HZ6.out; omega)
  obtain ⟨q0, q1, q2, q3⟩ := HQ6.out.below HB9.out (show w.heap.size + 1 + 1 + 1 < w6.heap.size by have := HZ6.out; omega)
  obtain ⟨o0, o1, o2, o3⟩ := HOA.out.below HB9.out (show w5.heap.size < w6.heap.size by have := HZ6.out; omega)
  have f0 := (HB9.out.frozen (p := ⟨w.heap.size + 1 + 1 + 1, 0, none⟩) (show w.heap.size + 1 + 1 + 1 < w6.heap.size by have := HZ6.out; omega)).trans (HF6.out 0)
  have f1 := (HB9.out.frozen (p := ⟨w.heap.size + 1 + 1 + 1, 1, none⟩) (show w.heap.size + 1 + 1 + 1 < w6.heap.size by have := HZ6.out; omega)).trans (HF6.out 1)
  have f2 := (HB9.out.frozen (p := ⟨w.heap.size + 1 + 1 + 1, 2, none⟩) (show w.heap.size + 1 + 1 + 1 < w6.heap.size by have := HZ6.out; omega)).trans (HF6.out 2)
  have f3 := (HB9.out.frozen (p := ⟨w.heap.size + 1 + 1 + 1, 3, none⟩) (show w.heap.size + 1 + 1 + 1 < w6.heap.size by have := HZ6.out; omega)).trans (HF6.out 3)
  simp only [] at x0' x1' x2' x3' s0' s1' s2' s3' q0 q1 q2 q3 o0 o1 o2 o3
  clear hb9 HFD
  generalize findS s.ts xa = fd at HCO
  by_cases h4 : 0 ≤ fd
  · have hc6 : code = 6 := by have := HCO.out; rw [if_pos h4] at this; exact this
    have HRES := Lib.hid (HR1.out (by omega))
    subst hc6
    clear HR0 HR1 HCO
    have HRR := Lib.hid (rap_err0 HIN.out HW9.out (show w.heap.size ≤ w.heap.size + 1 + 1 + 1 by omega) (.int .i64 t) (.slice a1 n1 c1) (.slice a2 n2 c2) (.slice a3 n3 c3))
    go_wp2_with fail
    refine bodyPost_ret (v := .tuple #[shV ⟨t, a1, n1, c1, a2, n2, c2, a3, n3, c3⟩, .int .i64 6]) (by simp [results, Try.results13, go_sem, q0, q1, q2, q3]) rfl ⟨_, by first | rfl | trivial, ?_⟩
    rw [HRES.out]
    exact HRR.out
  by_cases h5 : 1000 ≤ n2
  · have hc6 : code = 4 := by have := HCO.out; rw [if_neg h4, if_pos h5] at this; exact this
    have HRES := Lib.hid (HR1.out (by omega))
    subst hc6
    have h5' : (1000 : Int) ≤ (n2 : Int) := by omega
    clear HR0 HR1 HCO h5
    have HRR := Lib.hid (rap_err0 HIN.out HW9.out (show w.heap.size ≤ w.heap.size + 1 + 1 + 1 by omega) (.int .i64 t) (.slice a1 n1 c1) (.slice a2 n2 c2) (.slice a3 n3 c3))
    go_wp2_with fail
    refine bodyPost_ret (v := .tuple #[shV ⟨t, a1, n1, c1, a2, n2, c2, a3, n3, c3⟩, .int .i64 4]) (by simp [results, Try.results13, go_sem, q0, q1, q2, q3]) rfl ⟨_, by first | rfl | trivial, ?_⟩
    rw [HRES.out]
    exact HRR.out
  have hc6 : code = 0 := by have := HCO.out; rw [if_neg h4, if_neg h5] at this; exact this
  have HRES := Lib.hid ((HR0.out hc6).trans HTO.out)
  subst hc6
  have h5' : ¬ (1000 : Int) ≤ (n2 : Int) := by omega
  obtain ⟨o, ho⟩ : ∃ o, o = Obj.cells #[.int .i64 xa, .int .i64 xb, .int .i64 xc, .int .i64 1, .int .i64 (-1)] 46 := ⟨_, rfl⟩
  have hbo : Below w9.heap.size w9 (w9.alloc o) := (Below.refl _ _).alloc (Nat.le_refl _) _
  obtain ⟨a', c', w10, hrun, hc10, hsb, hb10⟩ := copy0_append (HC9.out.calls hbo) ⟨xa, xb, xc, 1, -1⟩ (ad := ⟨w9.heap.size, 0, none⟩) (by rw [ho]; exact rec_cells6 w9 ⟨xa, xb, xc, 1, -1⟩ 46) (by have := HN2.out; omega) (by have e1 := hbo.size; have e2 := HB9.out.size; have e3 := HZ6.out; have e4 := HZ5.out; omega) 25
  have hrun' : (Builtin.append_ #[25, 25] 25 #[.slice b2 m2 d2, .slice (some ⟨w9.heap.size, 0, none⟩) 1 1]).run Try.prog (w9.alloc o) = .ok (.slice a' (m2 + 1) c') w10 := hrun
  have hB9 := HW9.out.trans (hbo.mono HW9.out.size)
  have hB10 := hB9.trans (hb10.mono HB4.out.size)
  obtain ⟨hob10, eob⟩ := hsb w5.heap.size (HOB9.out.calls hbo)
  obtain ⟨hqb10, eqb⟩ := hsb (w.heap.size + 1 + 1 + 1) (HQB9.out.calls hbo)
  have hl59 : w5.heap.size < w9.heap.size := by have := HB9.out.size; have := HZ6.out; omega
  have hl39 : w.heap.size + 1 + 1 + 1 < w9.heap.size := by omega
  have hce : ∀ i, w10.cell? ⟨w5.heap.size, i, none⟩ = w9.cell? ⟨w5.heap.size, i, none⟩ := fun i => (World.cell?_of_block (w := w9.alloc o) (a := ⟨w5.heap.size, i, none⟩) eob).trans (World.cell?_alloc_lt w9 o ⟨w5.heap.size, i, none⟩ hl59)
  have hcq : ∀ i, w10.cell? ⟨w.heap.size + 1 + 1 + 1, i, none⟩ = w9.cell? ⟨w.heap.size + 1 + 1 + 1, i, none⟩ := fun i => (World.cell?_of_block (w := w9.alloc o) (a := ⟨w.heap.size + 1 + 1 + 1, i, none⟩) eqb).trans (World.cell?_alloc_lt w9 o ⟨w.heap.size + 1 + 1 + 1, i, none⟩ hl39)
  have hff : ∀ b, StB w10 b → ∀ i, w10.frozen? ⟨b, i, none⟩ = false := fun b ⟨cs, hb⟩ i => frozen_of_row w10 b i cs _ hb
  have r0 := (hce 0).trans o0
  have r1 := (hce 1).trans o1
  have r2 := (hce 2).trans o2
  have r3 := (hce 3).trans o3
  have v0 := hff _ hob10 2
  have z0 := (hcq 0).trans q0
  have z1 := (hcq 1).trans q1
  have z2 := (hcq 2).trans q2
  have z3 := (hcq 3).trans q3
  have y0 := hff _ hqb10 0
  have y1 := hff _ hqb10 1
  have y2 := hff _ hqb10 2
  have y3 := hff _ hqb10 3
  have hne : w.heap.size + 1 + 1 + 1 ≠ w5.heap.size := by omega
  have hne' : w5.heap.size ≠ w.heap.size + 1 + 1 + 1 := by omega
  obtain ⟨M1, _⟩ := hc10.setB (i := 2) (u := .slice a' (m2 + 1) c') hob10
  have S1 := hqb10.set (i := 2) (u := .slice a' (m2 + 1) c') hne
  have M2 := M1.setB4 S1 (.int .i64 t') (.slice b1 m1 d1) (.slice a' (m2 + 1) c') (.slice b3 m3 d3)
  have HFIN := Lib.hid (And.intro (show Fine _ ⟨t, a1, n1, c1, a2, n2, c2, a3, n3, c3⟩ s w.heap.size _ _ from .inr (M2.mono (by have := HZ4.out; omega))) (below_set4 (hB10.setCell (p := ⟨w5.heap.size, 2, none⟩) (by show w.heap.size ≤ w5.heap.size; omega) (.slice a' (m2 + 1) c')) (show w.heap.size ≤ w.heap.size + 1 + 1 + 1 by omega) (.int .i64 t') (.slice b1 m1 d1) (.slice a' (m2 + 1) c') (.slice b3 m3 d3)))
  rw [ho] at hrun'
  clear HR0 HR1 HCO h5 hrun hc10 hsb hb10 hbo hB9 hB10 hob10 eob hqb10 eqb hce hcq hff M1 S1 M2 ho
  go_wp2_with (at_builtin; refine Lib.wpList_append_run _ rfl _ _ _ _ rfl _ _ rfl rfl _ _ hrun' ?_)
  refine bodyPost_ret (v := .tuple #[shV ⟨t', b1, m1, d1, a', m2 + 1, c', b3, m3, d3⟩, .int .i64 0]) (by simp [results, Try.results13, go_sem, z0, z1, z2, z3]) rfl ⟨⟨t', b1, m1, d1, a', m2 + 1, c', b3, m3, d3⟩, by first | rfl | trivial, ?_⟩
  rw [HRES.out]
  exact HFIN.out
end Go.Proofs.Ytlfgdalpaacccaa.Vm

namespace Go.Proofs.Ytlfgdalpaacccaa.Vm
open Go Go.RowKit

theorem isr_two {s : St} {a : Int} {n : Nat} (hn : n = s.rs.length) (h : IsR s a) : 0 ≤ a ∧ a < (n : Int) := by
  unfold IsR at h
  omega
theorem not_isr {s : St} {a : Int} {n : Nat} (hn : n = s.rs.length) (h : ¬ IsR s a) : a < 0 ∨ 0 ≤ a ∧ (n : Int) ≤ a := by
  unfold IsR at h
  omega

set_option maxRecDepth 100000 in
set_option maxHeartbeats 4000000 in
theorem rap_robot2 (W H : Int) (g : ByteArray) (h : Sh) (s : St) (x : Inp) (w : World) (hg : g.size ≤ maxLen) (hin : StIn w w.heap.size h s) (hn1 : h.n1 ≤ 90000) (hn2 : h.n2 ≤ 90000) (hn3 : h.n3 ≤ 90000) (hfd : IsR s x.a → (s.rs.getD x.a.toNat zr).b = 1 → 0 ≤ findS s.ts (s.rs.getD x.a.toNat zr).c) (hk : x.k = 2) :
    Calls Try.prog 13 #[gridV W H g, shV h, inpV x] w fun e w' => ∃ h', e = .returned (.tuple #[shV h', .int .i64 (codeF s x)]) ∧ Fine w' h s w.heap.size h' (if codeF s x = 0 then turnF s x else s) ∧ Below w.heap.size w w' := by
  obtain ⟨w4, hw4, hB4, hz4, hg4, hs4, hx4, hq4, hf4⟩ := gsxz_head w W H g h x
  have HCP := Lib.hid (rcopy_any h s w.heap.size w4 (hin.below hB4) (by omega) (by omega) (by omega) (by omega))
  have HRB := Lib.hid fun (ho : Sh) (V : World) (hV : Below w.heap.size w V) (B : Nat) (hc : Copy0 V B ho s) (hB : B ≤ V.heap.size) (hr : IsR s x.a) => rrobot2_any ho h s x B V ((hin.below hV).mono hV.size) hc hB hk hr (hfd hr)
  obtain ⟨code, hcode⟩ : ∃ code, codeF s x = code := ⟨_, rfl⟩
  have HC5 : Hid (_ → code = 5) := fun h => hcode.symm.trans (codeF_no (s := s) (x := x) h)
  obtain ⟨res, hres⟩ : ∃ res, (if codeF s x = 0 then turnF s x else s) = res := ⟨_, rfl⟩
  have HR1 : Hid (code = 5 → res = s) := fun h => by rw [← hres, hcode, if_neg (by omega)]
  rw [hres, hcode] at HRB
  rw [hres, hcode]
  clear hcode hres
  have HQB4 : Hid (StB w4 (w.heap.size + 1 + 1 + 1)) := by
    obtain ⟨u, hu, hbu, zu, _⟩ := gsx_head w W H g h x
    refine ⟨#[.int .i64 0, .slice none 0 0, .slice none 0 0, .slice none 0 0], ?_⟩
    rw [hw4, ← hu, show w.heap.size + 1 + 1 + 1 = u.heap.size by omega]
    exact heap_alloc_new u _
  have HW := Lib.hid hw4
  have HB4 := Lib.hid hB4
  have HG4 := Lib.hid hg4
  have HS4 := Lib.hid hs4
  have HX4 := Lib.hid hx4
  have HQ4 := Lib.hid hq4
  have HF4 := Lib.hid hf4
  have HIN := Lib.hid hin
  have HN1 := Lib.hid hin.rs.1
  have HN2 := Lib.hid hin.ts.1
  have hnm1 := hin.rs.len
  have hnm2 := hin.ts.len
  unfold maxLen at hnm1 hnm2
  obtain ⟨t, a1, n1, c1, a2, n2, c2, a3, n3, c3⟩ := h
  obtain ⟨xk, xa, xb, xc⟩ := x
  obtain ⟨s0, s1, s2, s3⟩ := hs4
  obtain ⟨x0, x1, x2, x3⟩ := hx4
  simp only [] at s0 s1 s2 s3 x0 x1 x2 x3 hk hn1 hn2 hn3 HN1 HN2 hnm1 hnm2 HC5 HRB
  subst hk
  clear hin hw4 hB4 hg4 hq4 hf4 hg
  go_enter Try.func13, Try.ntmps13
  go_wp2_with fail
  rw [← HW.out]
  refine HCP.out.mono ?_
  rintro e w5 ⟨h1, rfl, hc5, hb5⟩
  have hz5 := hb5.size
  have HW5 := Lib.hid (HB4.out.trans (hb5.mono HB4.out.size))
  have HG5 := Lib.hid (HG4.out.below hb5 (by omega))
  have HS5 := Lib.hid (HS4.out.below hb5 (by omega))
  have HX5 := Lib.hid (HX4.out.below hb5 (by omega))
  have HQ5 := Lib.hid (HQ4.out.below hb5 (by omega))
  have HF5 : Hid (∀ i, w5.frozen? ⟨w.heap.size + 1 + 1 + 1, i, none⟩ = false) := fun i => (hb5.frozen (p := ⟨w.heap.size + 1 + 1 + 1, i, none⟩) (show w.heap.size + 1 + 1 + 1 < w4.heap.size by omega)).trans (HF4.out i)
  have HZ4 := Lib.hid hz4
  have hl0 : w.heap.size < w5.heap.size := by omega
  have hl1 : w.heap.size + 1 < w5.heap.size := by omega
  have hl2 : w.heap.size + 1 + 1 < w5.heap.size := by omega
  have hl3 : w.heap.size + 1 + 1 + 1 < w5.heap.size := by omega
  have hba : Below w5.heap.size w5 (w5.alloc (shO h1)) := (Below.refl _ _).alloc (Nat.le_refl _) _
  obtain ⟨w6, hw6⟩ : ∃ w6, w6 = w5.alloc (shO h1) := ⟨_, rfl⟩
  have hz6 : w6.heap.size = w5.heap.size + 1 := by rw [hw6]; simp
  have hob : StB w6 w5.heap.size := ⟨_, by rw [hw6]; exact heap_alloc_new w5 _⟩
  have hoa : StAt w6 w5.heap.size h1 := by rw [hw6]; exact stAt_new w5 h1
  have hof : ∀ i, w6.frozen? ⟨w5.heap.size, i, none⟩ = false := fun i => by rw [hw6]; simp
  rw [← hw6] at hba
  have HW6 := Lib.hid hw6
  have HBW6 := Lib.hid (HW5.out.trans (hba.mono HW5.out.size))
  have HC6 := Lib.hid (hc5.calls hba)
  have HOB := Lib.hid hob
  have HOA := Lib.hid hoa
  have HOF := Lib.hid hof
  have HG6 := Lib.hid (HG5.out.below hba (by omega))
  have HS6 := Lib.hid (HS5.out.below hba (by omega))
  have HX6 := Lib.hid (HX5.out.below hba (by omega))
  have HQ6 := Lib.hid (HQ5.out.below hba (by omega))
  have HF6 : Hid (∀ i, w6.frozen? ⟨w.heap.size + 1 + 1 + 1, i, none⟩ = false) := fun i => (hba.frozen (p := ⟨w.heap.size + 1 + 1 + 1, i, none⟩) (show w.heap.size + 1 + 1 + 1 < w5.heap.size by omega)).trans (HF5.out i)
  have HZ6 := Lib.hid hz6
  have HZ5 : Hid (w4.heap.size ≤ w5.heap.size) := hz5
  have HQB := Lib.hid ((HQB4.out.calls hb5).calls hba)
  obtain ⟨g0, g1, g2⟩ := id HG5.out
  obtain ⟨x0', x1', x2', x3'⟩ := id HX5.out
  obtain ⟨s0', s1', s2', s3'⟩ := id HS5.out
  obtain ⟨q0, q1, q2, q3⟩ := id HQ5.out
  have f0 := HF5.out 0
  have f1 := HF5.out 1
  have f2 := HF5.out 2
  have f3 := HF5.out 3
  obtain ⟨t', b1, m1, d1, b2, m2, d2, b3, m3, d3⟩ := h1
  simp only [] at x0' x1' x2' x3' s0' s1' s2' s3' q0 q1 q2 q3
  clear s0 s1 s2 s3 x0 x1 x2 x3 hb5 hc5 HCP hz4 hz5 hba hw6 hob hoa hof hz6
  by_cases hr : IsR s xa
  · obtain ⟨hr1, hr2⟩ := isr_two HN1.out.symm hr
    have h1' : ¬ xa < 0 := by omega
    have h2' : ¬ (n1 : Int) ≤ xa := by omega
    have HRC := Lib.hid (HRB.out ⟨t', b1, m1, d1, b2, m2, d2, b3, m3, d3⟩ w6 HBW6.out w4.heap.size HC6.out (by have := HZ6.out; have := HZ5.out; omega) hr)
    clear HRB HC5 HR1 hr
    go_wp2_with fail
    rw [← HW6.out]
    refine HRC.out.mono ?_
    rintro e w7 ⟨h2, rfl, hfine, hb7⟩
    obtain ⟨q0, q1, q2, q3⟩ := HQ6.out.below hb7 (by have := HZ4.out; omega)
    have hfz : ∀ i, w7.frozen? ⟨w.heap.size + 1 + 1 + 1, i, none⟩ = false := fun i => (hb7.frozen (p := ⟨w.heap.size + 1 + 1 + 1, i, none⟩) (show w.heap.size + 1 + 1 + 1 < w4.heap.size by have := HZ4.out; omega)).trans (HF6.out i)
    have hqb : StB w7 (w.heap.size + 1 + 1 + 1) := by
      obtain ⟨cs, hcs⟩ := HQB.out
      exact ⟨cs, (hb7.block _ (show w.heap.size + 1 + 1 + 1 < w4.heap.size by have := HZ4.out; omega)).trans hcs⟩
    obtain ⟨u0, e1, k1, y1, e2, k2, y2, e3, k3, y3⟩ := h2
    simp only [] at q0 q1 q2 q3
    have f0 := hfz 0
    have f1 := hfz 1
    have f2 := hfz 2
    have f3 := hfz 3
    have hl7 : w.heap.size + 1 + 1 + 1 < w7.heap.size := by have := hb7.size; have := HZ6.out; omega
    have hb47 := HBW6.out.trans (hb7.mono (show w.heap.size ≤ w4.heap.size by have := HZ4.out; omega))
    have HFIN := Lib.hid (And.intro ((hfine.set4 hqb (.int .i64 u0) (.slice e1 k1 y1) (.slice e2 k2 y2) (.slice e3 k3 y3)).mono (show w.heap.size ≤ w4.heap.size by have := HZ4.out; omega)) (below_set4 hb47 (show w.heap.size ≤ w.heap.size + 1 + 1 + 1 by omega) (.int .i64 u0) (.slice e1 k1 y1) (.slice e2 k2 y2) (.slice e3 k3 y3)))
    clear hfine hqb hfz hb7 hb47 g0 g1 g2 x0' x1' x2' x3' s0' s1' s2' s3'
    go_wp2_with fail
    refine bodyPost_ret (v := .tuple #[shV ⟨u0, e1, k1, y1, e2, k2, y2, e3, k3, y3⟩, .int .i64 code]) (by simp [results, Try.results13, go_sem, q0, q1, q2, q3, hl7]) rfl ⟨⟨u0, e1, k1, y1, e2, k2, y2, e3, k3, y3⟩, by first | rfl | trivial, ?_⟩
    exact HFIN.out
  · have hc5 := HC5.out hr
    have HRES := Lib.hid (HR1.out hc5)
    subst hc5
    have hrr := not_isr HN1.out.symm hr
    clear HR1 HC5 HRB hr
    have HRR := Lib.hid (rap_err (B := 0) HIN.out HW5.out (show w.heap.size ≤ w.heap.size + 1 + 1 + 1 by omega) (.int .i64 t) (.slice a1 n1 c1) (.slice a2 n2 c2) (.slice a3 n3 c3) (shO ⟨t', b1, m1, d1, b2, m2, d2, b3, m3, d3⟩))
    rcases hrr with h1 | ⟨h1, h2⟩
    · go_wp2_with fail
      refine bodyPost_ret (v := .tuple #[shV ⟨t, a1, n1, c1, a2, n2, c2, a3, n3, c3⟩, .int .i64 5]) (by simp [results, Try.results13, go_sem, q0, q1, q2, q3, hl3]) rfl ⟨_, by first | rfl | trivial, ?_⟩
      rw [HRES.out]
      exact HRR.out
    · have h1' : ¬ xa < 0 := by omega
      go_wp2_with fail
      refine bodyPost_ret (v := .tuple #[shV ⟨t, a1, n1, c1, a2, n2, c2, a3, n3, c3⟩, .int .i64 5]) (by simp [results, Try.results13, go_sem, q0, q1, q2, q3, hl3]) rfl ⟨_, by first | rfl | trivial, ?_⟩
      rw [HRES.out]
      exact HRR.out

set_option maxRecDepth 100000 in
set_option maxHeartbeats 4000000 in
theorem rap_robot3 (W H : Int) (g : ByteArray) (h : Sh) (s : St) (x : Inp) (w : World) (hg : g.size ≤ maxLen) (hin : StIn w w.heap.size h s) (hn1 : h.n1 ≤ 90000) (hn2 : h.n2 ≤ 90000) (hn3 : h.n3 ≤ 90000) (hk : x.k = 3) :
    Calls Try.prog 13 #[gridV W H g, shV h, inpV x] w fun e w' => ∃ h', e = .returned (.tuple #[shV h', .int .i64 (codeR s x)]) ∧ Fine w' h s w.heap.size h' (if codeR s x = 0 then turnR s x else s) ∧ Below w.heap.size w w' := by
  obtain ⟨w4, hw4, hB4, hz4, hg4, hs4, hx4, hq4, hf4⟩ := gsxz_head w W H g h x
  have HCP := Lib.hid (rcopy_any h s w.heap.size w4 (hin.below hB4) (by omega) (by omega) (by omega) (by omega))
  have HRB := Lib.hid fun (ho : Sh) (V : World) (hV : Below w.heap.size w V) (B : Nat) (hc : Copy0 V B ho s) (hB : B ≤ V.heap.size) (hr : IsR s x.a) => rrobot3_any ho h s x B V ((hin.below hV).mono hV.size) hc hB hk hr
  obtain ⟨code, hcode⟩ : ∃ code, codeR s x = code := ⟨_, rfl⟩
  have HC5 : Hid (_ → code = 5) := fun h => hcode.symm.trans (codeR_no (s := s) (x := x) h)
  obtain ⟨res, hres⟩ : ∃ res, (if codeR s x = 0 then turnR s x else s) = res := ⟨_, rfl⟩
  have HR1 : Hid (code = 5 → res = s) := fun h => by rw [← hres, hcode, if_neg (by omega)]
  rw [hres, hcode] at HRB
  rw [hres, hcode]
  clear hcode hres
  have HQB4 : Hid (StB w4 (w.heap.size + 1 + 1 + 1)) := by
    obtain ⟨u, hu, hbu, zu, _⟩ := gsx_head w W H g h x
    refine ⟨#[.int .i64 0, .slice none 0 0, .slice none 0 0, .slice none 0 0], ?_⟩
    rw [hw4, ← hu, show w.heap.size + 1 + 1 + 1 = u.heap.size by omega]
    exact heap_alloc_new u _
  have HW := Lib.hid hw4
  have HB4 := Lib.hid hB4
  have HG4 := Lib.hid hg4
  have HS4 := Lib.hid hs4
  have HX4 := Lib.hid hx4
  have HQ4 := Lib.hid hq4
  have HF4 := Lib.hid hf4
  have HIN := Lib.hid hin
  have HN1 := Lib.hid hin.rs.1
  have HN2 := Lib.hid hin.ts.1
  have hnm1 := hin.rs.len
  have hnm2 := hin.ts.len
  unfold maxLen at hnm1 hnm2
  obtain ⟨t, a1, n1, c1, a2, n2, c2, a3, n3, c3⟩ := h
  obtain ⟨xk, xa, xb, xc⟩ := x
  obtain ⟨s0, s1, s2, s3⟩ := hs4
  obtain ⟨x0, x1, x2, x3⟩ := hx4
  simp only [] at s0 s1 s2 s3 x0 x1 x2 x3 hk hn1 hn2 hn3 HN1 HN2 hnm1 hnm2 HC5 HRB
  subst hk
  clear hin hw4 hB4 hg4 hq4 hf4 hg
  go_enter Try.func13, Try.ntmps13
  go_wp2_with fail
  rw [← HW.out]
  refine HCP.out.mono ?_
  rintro e w5 ⟨h1, rfl, hc5, hb5⟩
  have hz5 := hb5.size
  have HW5 := Lib.hid (HB4.out.trans (hb5.mono HB4.out.size))
  have HG5 := Lib.hid (HG4.out.below hb5 (by omega))
  have HS5 := Lib.hid (HS4.out.below hb5 (by omega))
  have HX5 := Lib.hid (HX4.out.below hb5 (by omega))
  have HQ5 := Lib.hid (HQ4.out.below hb5 (by omega))
  have HF5 : Hid (∀ i, w5.frozen? ⟨w.heap.size + 1 + 1 + 1, i, none⟩ = false) := fun i => (hb5.frozen (p := ⟨w.heap.size + 1 + 1 + 1, i, none⟩) (show w.heap.size + 1 + 1 + 1 < w4.heap.size by omega)).trans (HF4.out i)
  have HZ4 := Lib.hid hz4
  have hl0 : w.heap.size < w5.heap.size := by omega
  have hl1 : w.heap.size + 1 < w5.heap.size := by omega
  have hl2 : w.heap.size + 1 + 1 < w5.heap.size := by omega
  have hl3 : w.heap.size + 1 + 1 + 1 < w5.heap.size := by omega
  have hba : Below w5.heap.size w5 (w5.alloc (shO h1)) := (Below.refl _ _).alloc (Nat.le_refl _) _
  obtain ⟨w6, hw6⟩ : ∃ w6, w6 = w5.alloc (shO h1) := ⟨_, rfl⟩
  have hz6 : w6.heap.size = w5.heap.size + 1 := by rw [hw6]; simp
  have hob : StB w6 w5.heap.size := ⟨_, by rw [hw6]; exact heap_alloc_new w5 _⟩
  have hoa : StAt w6 w5.heap.size h1 := by rw [hw6]; exact stAt_new w5 h1
  have hof : ∀ i, w6.frozen? ⟨w5.heap.size, i, none⟩ = false := fun i => by rw [hw6]; simp
  rw [← hw6] at hba
  have HW6 := Lib.hid hw6
  have HBW6 := Lib.hid (HW5.out.trans (hba.mono HW5.out.size))
  have HC6 := Lib.hid (hc5.calls hba)
  have HOB := Lib.hid hob
  have HOA := Lib.hid hoa
  have HOF := Lib.hid hof
  have HG6 := Lib.hid (HG5.out.below hba (by omega))
  have HS6 := Lib.hid (HS5.out.below hba (by omega))
  have HX6 := Lib.hid (HX5.out.below hba (by omega))
  have HQ6 := Lib.hid (HQ5.out.below hba (by omega))
  have HF6 : Hid (∀ i, w6.frozen? ⟨w.heap.size + 1 + 1 + 1, i, none⟩ = false) := fun i => (hba.frozen (p := ⟨w.heap.size + 1 + 1 + 1, i, none⟩) (show w.heap.size + 1 + 1 + 1 < w5.heap.size by omega)).trans (HF5.out i)
  have HZ6 := Lib.hid hz6
  have HZ5 : Hid (w4.heap.size ≤ w5.heap.size) := hz5
  have HQB := Lib.hid ((HQB4.out.calls hb5).calls hba)
  obtain ⟨g0, g1, g2⟩ := id HG5.out
  obtain ⟨x0', x1', x2', x3'⟩ := id HX5.out
  obtain ⟨s0', s1', s2', s3'⟩ := id HS5.out
  obtain ⟨q0, q1, q2, q3⟩ := id HQ5.out
  have f0 := HF5.out 0
  have f1 := HF5.out 1
  have f2 := HF5.out 2
  have f3 := HF5.out 3
  obtain ⟨t', b1, m1, d1, b2, m2, d2, b3, m3, d3⟩ := h1
  simp only [] at x0' x1' x2' x3' s0' s1' s2' s3' q0 q1 q2 q3
  clear s0 s1 s2 s3 x0 x1 x2 x3 hb5 hc5 HCP hz4 hz5 hba hw6 hob hoa hof hz6
  by_cases hr : IsR s xa
  · obtain ⟨hr1, hr2⟩ := isr_two HN1.out.symm hr
    have h1' : ¬ xa < 0 := by omega
    have h2' : ¬ (n1 : Int) ≤ xa := by omega
    have HRC := Lib.hid (HRB.out ⟨t', b1, m1, d1, b2, m2, d2, b3, m3, d3⟩ w6 HBW6.out w4.heap.size HC6.out (by have := HZ6.out; have := HZ5.out; omega) hr)
    clear HRB HC5 HR1 hr
    go_wp2_with fail
    rw [← HW6.out]
    refine HRC.out.mono ?_
    rintro e w7 ⟨h2, rfl, hfine, hb7⟩
    obtain ⟨q0, q1, q2, q3⟩ := HQ6.out.below hb7 (by have := HZ4.out; omega)
    have hfz : ∀ i, w7.frozen? ⟨w.heap.size + 1 + 1 + 1, i, none⟩ = false := fun i => (hb7.frozen (p := ⟨w.heap.size + 1 + 1 + 1, i, none⟩) (show w.heap.size + 1 + 1 + 1 < w4.heap.size by have := HZ4.out; omega)).trans (HF6.out i)
    have hqb : StB w7 (w.heap.size + 1 + 1 + 1) := by
      obtain ⟨cs, hcs⟩ := HQB.out
      exact ⟨cs, (hb7.block _ (show w.heap.size + 1 + 1 + 1 < w4.heap.size by have := HZ4.out; omega)).trans hcs⟩
    obtain ⟨u0, e1, k1, y1, e2, k2, y2, e3, k3, y3⟩ := h2
    simp only [] at q0 q1 q2 q3
    have f0 := hfz 0
    have f1 := hfz 1
    have f2 := hfz 2
    have f3 := hfz 3
    have hl7 : w.heap.size + 1 + 1 + 1 < w7.heap.size := by have := hb7.size; have := HZ6.out; omega
    have hb47 := HBW6.out.trans (hb7.mono (show w.heap.size ≤ w4.heap.size by have := HZ4.out; omega))
    have HFIN := Lib.hid (And.intro ((hfine.set4 hqb (.int .i64 u0) (.slice e1 k1 y1) (.slice e2 k2 y2) (.slice e3 k3 y3)).mono (show w.heap.size ≤ w4.heap.size by have := HZ4.out; omega)) (below_set4 hb47 (show w.heap.size ≤ w.heap.size + 1 + 1 + 1 by omega) (.int .i64 u0) (.slice e1 k1 y1) (.slice e2 k2 y2) (.slice e3 k3 y3)))
    clear hfine hqb hfz hb7 hb47 g0 g1 g2 x0' x1' x2' x3' s0' s1' s2' s3'
    go_wp2_with fail
    refine bodyPost_ret (v := .tuple #[shV ⟨u0, e1, k1, y1, e2, k2, y2, e3, k3, y3⟩, .int .i64 code]) (by simp [results, Try.results13, go_sem, q0, q1, q2, q3, hl7]) rfl ⟨⟨u0, e1, k1, y1, e2, k2, y2, e3, k3, y3⟩, by first | rfl | trivial, ?_⟩
    exact HFIN.out
  · have hc5 := HC5.out hr
    have HRES := Lib.hid (HR1.out hc5)
    subst hc5
    have hrr := not_isr HN1.out.symm hr
    clear HR1 HC5 HRB hr
    have HRR := Lib.hid (rap_err (B := 0) HIN.out HW5.out (show w.heap.size ≤ w.heap.size + 1 + 1 + 1 by omega) (.int .i64 t) (.slice a1 n1 c1) (.slice a2 n2 c2) (.slice a3 n3 c3) (shO ⟨t', b1, m1, d1, b2, m2, d2, b3, m3, d3⟩))
    rcases hrr with h1 | ⟨h1, h2⟩
    · go_wp2_with fail
      refine bodyPost_ret (v := .tuple #[shV ⟨t, a1, n1, c1, a2, n2, c2, a3, n3, c3⟩, .int .i64 5]) (by simp [results, Try.results13, go_sem, q0, q1, q2, q3, hl3]) rfl ⟨_, by first | rfl | trivial, ?_⟩
      rw [HRES.out]
      exact HRR.out
    · have h1' : ¬ xa < 0 := by omega
      go_wp2_with fail
      refine bodyPost_ret (v := .tuple #[shV ⟨t, a1, n1, c1, a2, n2, c2, a3, n3, c3⟩, .int .i64 5]) (by simp [results, Try.results13, go_sem, q0, q1, q2, q3, hl3]) rfl ⟨_, by first | rfl | trivial, ?_⟩
      rw [HRES.out]
      exact HRR.out

set_option maxRecDepth 100000 in
set_option maxHeartbeats 4000000 in
theorem rap_robot4 (W H : Int) (g : ByteArray) (h : Sh) (s : St) (x : Inp) (w : World) (hg : g.size ≤ maxLen) (hin : StIn w w.heap.size h s) (hn1 : h.n1 ≤ 90000) (hn2 : h.n2 ≤ 90000) (hn3 : h.n3 ≤ 90000) (hk : x.k = 4) :
    Calls Try.prog 13 #[gridV W H g, shV h, inpV x] w fun e w' => ∃ h', e = .returned (.tuple #[shV h', .int .i64 (codeH s x)]) ∧ Fine w' h s w.heap.size h' (if codeH s x = 0 then turnH s x else s) ∧ Below w.heap.size w w' := by
  obtain ⟨w4, hw4, hB4, hz4, hg4, hs4, hx4, hq4, hf4⟩ := gsxz_head w W H g h x
  have HCP := Lib.hid (rcopy_any h s w.heap.size w4 (hin.below hB4) (by omega) (by omega) (by omega) (by omega))
  have HRB := Lib.hid fun (ho : Sh) (V : World) (hV : Below w.heap.size w V) (B : Nat) (hc : Copy0 V B ho s) (hB : B ≤ V.heap.size) (hr : IsR s x.a) => rrobot4_any ho h s x B V ((hin.below hV).mono hV.size) hc hB hk hr
  obtain ⟨code, hcode⟩ : ∃ code, codeH s x = code := ⟨_, rfl⟩
  have HC5 : Hid (_ → code = 5) := fun h => hcode.symm.trans (codeH_no (s := s) (x := x) h)
  obtain ⟨res, hres⟩ : ∃ res, (if codeH s x = 0 then turnH s x else s) = res := ⟨_, rfl⟩
  have HR1 : Hid (code = 5 → res = s) := fun h => by rw [← hres, hcode, if_neg (by omega)]
  rw [hres, hcode] at HRB
  rw [hres, hcode]
  clear hcode hres
  have HQB4 : Hid (StB w4 (w.heap.size + 1 + 1 + 1)) := by
    obtain ⟨u, hu, hbu, zu, _⟩ := gsx_head w W H g h x
    refine ⟨#[.int .i64 0, .slice none 0 0, .slice none 0 0, .slice none 0 0], ?_⟩
    rw [hw4, ← hu, show w.heap.size + 1 + 1 + 1 = u.heap.size by omega]
    exact heap_alloc_new u _
  have HW := Lib.hid hw4
  have HB4 := Lib.hid hB4
  have HG4 := Lib.hid hg4
  have HS4 := Lib.hid hs4
  have HX4 := Lib.hid hx4
  have HQ4 := Lib.hid hq4
  have HF4 := Lib.hid hf4
  have HIN := Lib.hid hin
  have HN1 := Lib.hid hin.rs.1
  have HN2 := Lib.hid hin.ts.1
  have hnm1 := hin.rs.len
  have hnm2 := hin.ts.len
  unfold maxLen at hnm1 hnm2
  obtain ⟨t, a1, n1, c1, a2, n2, c2, a3, n3, c3⟩ := h
  obtain ⟨xk, xa, xb, xc⟩ := x
  obtain ⟨s0, s1, s2, s3⟩ := hs4
  obtain ⟨x0, x1, x2, x3⟩ := hx4
  simp only [] at s0 s1 s2 s3 x0 x1 x2 x3 hk hn1 hn2 hn3 HN1 HN2 hnm1 hnm2 HC5 HRB
  subst hk
  clear hin hw4 hB4 hg4 hq4 hf4 hg
  go_enter Try.func13, Try.ntmps13
  go_wp2_with fail
  rw [← HW.out]
  refine HCP.out.mono ?_
  rintro e w5 ⟨h1, rfl, hc5, hb5⟩
  have hz5 := hb5.size
  have HW5 := Lib.hid (HB4.out.trans (hb5.mono HB4.out.size))
  have HG5 := Lib.hid (HG4.out.below hb5 (by omega))
  have HS5 := Lib.hid (HS4.out.below hb5 (by omega))
  have HX5 := Lib.hid (HX4.out.below hb5 (by omega))
  have HQ5 := Lib.hid (HQ4.out.below hb5 (by omega))
  have HF5 : Hid (∀ i, w5.frozen? ⟨w.heap.size + 1 + 1 + 1, i, none⟩ = false) := fun i => (hb5.frozen (p := ⟨w.heap.size + 1 + 1 + 1, i, none⟩) (show w.heap.size + 1 + 1 + 1 < w4.heap.size by omega)).trans (HF4.out i)
  have HZ4 := Lib.hid hz4
  have hl0 : w.heap.size < w5.heap.size := by omega
  have hl1 : w.heap.size + 1 < w5.heap.size := by omega
  have hl2 : w.heap.size + 1 + 1 < w5.heap.size := by omega
  have hl3 : w.heap.size + 1 + 1 + 1 < w5.heap.size := by omega
  have hba : Below w5.heap.size w5 (w5.alloc (shO h1)) := (Below.refl _ _).alloc (Nat.le_refl _) _
  obtain ⟨w6, hw6⟩ : ∃ w6, w6 = w5.alloc (shO h1) := ⟨_, rfl⟩
  have hz6 : w6.heap.size = w5.heap.size + 1 := by rw [hw6]; simp
  have hob : StB w6 w5.heap.size := ⟨_, by rw [hw6]; exact heap_alloc_new w5 _⟩
  have hoa : StAt w6 w5.heap.size h1 := by rw [hw6]; exact stAt_new w5 h1
  have hof : ∀ i, w6.frozen? ⟨w5.heap.size, i, none⟩ = false := fun i => by rw [hw6]; simp
  rw [← hw6] at hba
  have HW6 := Lib.hid hw6
  have HBW6 := Lib.hid (HW5.out.trans (hba.mono HW5.out.size))
  have HC6 := Lib.hid (hc5.calls hba)
  have HOB := Lib.hid hob
  have HOA := Lib.hid hoa
  have HOF := Lib.hid hof
  have HG6 := Lib.hid (HG5.out.below hba (by omega))
  have HS6 := Lib.hid (HS5.out.below hba (by omega))
  have HX6 := Lib.hid (HX5.out.below hba (by omega))
  have HQ6 := Lib.hid (HQ5.out.below hba (by omega))
  have HF6 : Hid (∀ i, w6.frozen? ⟨w.heap.size + 1 + 1 + 1, i, none⟩ = false) := fun i => (hba.frozen (p := ⟨w.heap.size + 1 + 1 + 1, i, none⟩) (show w.heap.size + 1 + 1 + 1 < w5.heap.size by omega)).trans (HF5.out i)
  have HZ6 := Lib.hid hz6
  have HZ5 : Hid (w4.heap.size ≤ w5.heap.size) := hz5
  have HQB := Lib.hid ((HQB4.out.calls hb5).calls hba)
  obtain ⟨g0, g1, g2⟩ := id HG5.out
  obtain ⟨x0', x1', x2', x3'⟩ := id HX5.out
  obtain ⟨s0', s1', s2', s3'⟩ := id HS5.out
  obtain ⟨q0, q1, q2, q3⟩ := id HQ5.out
  have f0 := HF5.out 0
  have f1 := HF5.out 1
  have f2 := HF5.out 2
  have f3 := HF5.out 3
  obtain ⟨t', b1, m1, d1, b2, m2, d2, b3, m3, d3⟩ := h1
  simp only [] at x0' x1' x2' x3' s0' s1' s2' s3' q0 q1 q2 q3
  clear s0 s1 s2 s3 x0 x1 x2 x3 hb5 hc5 HCP hz4 hz5 hba hw6 hob hoa hof hz6
  by_cases hr : IsR s xa
  · obtain ⟨hr1, hr2⟩ := isr_two HN1.out.symm hr
    have h1' : ¬ xa < 0 := by omega
    have h2' : ¬ (n1 : Int) ≤ xa := by omega
    have HRC := Lib.hid (HRB.out ⟨t', b1, m1, d1, b2, m2, d2, b3, m3, d3⟩ w6 HBW6.out w4.heap.size HC6.out (by have := HZ6.out; have := HZ5.out; omega) hr)
    clear HRB HC5 HR1 hr
    go_wp2_with fail
    rw [← HW6.out]
    refine HRC.out.mono ?_
    rintro e w7 ⟨h2, rfl, hfine, hb7⟩
    obtain ⟨q0, q1, q2, q3⟩ := HQ6.out.below hb7 (by have := HZ4.out; omega)
    have hfz : ∀ i, w7.frozen? ⟨w.heap.size + 1 + 1 + 1, i, none⟩ = false := fun i => (hb7.frozen (p := ⟨w.heap.size + 1 + 1 + 1, i, none⟩) (show w.heap.size + 1 + 1 + 1 < w4.heap.size by have := HZ4.out; omega)).trans (HF6.out i)
    have hqb : StB w7 (w.heap.size + 1 + 1 + 1) := by
      obtain ⟨cs, hcs⟩ := HQB.out
      exact ⟨cs, (hb7.block _ (show w.heap.size + 1 + 1 + 1 < w4.heap.size by have := HZ4.out; omega)).trans hcs⟩
    obtain ⟨u0, e1, k1, y1, e2, k2, y2, e3, k3, y3⟩ := h2
    simp only [] at q0 q1 q2 q3
    have f0 := hfz 0
    have f1 := hfz 1
    have f2 := hfz 2
    have f3 := hfz 3
    have hl7 : w.heap.size + 1 + 1 + 1 < w7.heap.size := by have := hb7.size; have := HZ6.out; omega
    have hb47 := HBW6.out.trans (hb7.mono (show w.heap.size ≤ w4.heap.size by have := HZ4.out; omega))
    have HFIN := Lib.hid (And.intro ((hfine.set4 hqb (.int .i64 u0) (.slice e1 k1 y1) (.slice e2 k2 y2) (.slice e3 k3 y3)).mono (show w.heap.size ≤ w4.heap.size by have := HZ4.out; omega)) (below_set4 hb47 (show w.heap.size ≤ w.heap.size + 1 + 1 + 1 by omega) (.int .i64 u0) (.slice e1 k1 y1) (.slice e2 k2 y2) (.slice e3 k3 y3)))
    clear hfine hqb hfz hb7 hb47 g0 g1 g2 x0' x1' x2' x3' s0' s1' s2' s3'
    go_wp2_with fail
    refine bodyPost_ret (v := .tuple #[shV ⟨u0, e1, k1, y1, e2, k2, y2, e3, k3, y3⟩, .int .i64 code]) (by simp [results, Try.results13, go_sem, q0, q1, q2, q3, hl7]) rfl ⟨⟨u0, e1, k1, y1, e2, k2, y2, e3, k3, y3⟩, by first | rfl | trivial, ?_⟩
    exact HFIN.out
  · have hc5 := HC5.out hr
    have HRES := Lib.hid (HR1.out hc5)
    subst hc5
    have hrr := not_isr HN1.out.symm hr
    clear HR1 HC5 HRB hr
    have HRR := Lib.hid (rap_err (B := 0) HIN.out HW5.out (show w.heap.size ≤ w.heap.size + 1 + 1 + 1 by omega) (.int .i64 t) (.slice a1 n1 c1) (.slice a2 n2 c2) (.slice a3 n3 c3) (shO ⟨t', b1, m1, d1, b2, m2, d2, b3, m3, d3⟩))
    rcases hrr with h1 | ⟨h1, h2⟩
    · go_wp2_with fail
      refine bodyPost_ret (v := .tuple #[shV ⟨t, a1, n1, c1, a2, n2, c2, a3, n3, c3⟩, .int .i64 5]) (by simp [results, Try.results13, go_sem, q0, q1, q2, q3, hl3]) rfl ⟨_, by first | rfl | trivial, ?_⟩
      rw [HRES.out]
      exact HRR.out
    · have h1' : ¬ xa < 0 := by omega
      go_wp2_with fail
      refine bodyPost_ret (v := .tuple #[shV ⟨t, a1, n1, c1, a2, n2, c2, a3, n3, c3⟩, .int .i64 5]) (by simp [results, Try.results13, go_sem, q0, q1, q2, q3, hl3]) rfl ⟨_, by first | rfl | trivial, ?_⟩
      rw [HRES.out]
      exact HRR.out

end Go.Proofs.Ytlfgdalpaacccaa.Vm
