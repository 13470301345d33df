/- tuggerlaw07.CodecOne returns true for every input: what is read, laid again, is the bytes it was read of. -/
import Derived.Test.YtdhaoacnedgogaaAwakeSeven
import Derived.Test.YtdhaoacnedgogaaSames
namespace Go.Proofs.Ytdhaoacnedgogaa.Vm
open Go Go.RowKit

theorem len_of_encS {s : St} {n : Nat} (h : (encS s).length ≤ n) : s.rs.length ≤ n ∧ s.ts.length ≤ n ∧ s.bl.length ≤ n := by
  have h1 := encRobs_len s.rs
  have h2 := encJobs_len s.ts
  have h3 := encG_len s.bl (-1)
  unfold encS at h
  simp only [List.length_append] at h
  omega
theorem len_of_encR {x : Rcd} {n : Nat} (hc : CanR x) (h : (encR x).length ≤ n) : x.ins.length ≤ n ∧ (runs x.ws).length ≤ n := by
  have h1 := encR_ins hc h
  have h2 := encRuns_len (runs x.ws)
  unfold encR at h
  simp only [List.length_append] at h
  omega
theorem sameB_eq {xs ys : List Nat} (h : xs = ys) : sameB xs ys = true := by unfold sameB; exact decide_eq_true h
theorem below_drawn {w V : World} {B : Nat} (h : Below B w V) (m : Nat) : Below B w (V.drewN m) := below_drewN h m

set_option maxRecDepth 100000 in
set_option maxHeartbeats 4000000 in
theorem codecOne_walk (a : Option Addr) (n c : Nat) (z : List Int) (w : World) (w0 : IsRow .u8 w a n c z) :
    Calls Try.prog 6 #[.slice a n c] w fun e w' => e = .returned (.bool true) ∧ Below w.heap.size w w' := by
  have hr := Row.of_isRow w0 (fun n hn => (bounds_u8 (w0.wf n hn)).1)
  have hz : ∀ x ∈ (z.take n).map Int.toNat, x < 256 := by
    intro x hx
    obtain ⟨n, hn, rfl⟩ := List.mem_map.1 hx
    have := bounds_u8 (w0.wf n (List.mem_of_mem_take hn))
    omega
  clear w0
  generalize (z.take n).map Int.toNat = zs at hr hz
  have HR := Lib.hid hr
  have HZ := Lib.hid hz
  have HN := Lib.hid hr.1
  clear hr hz
  go_enter Try.func6, Try.ntmps6
  go_wp2_with fail
  refine (awake_any w).mono ?_
  rintro e w1 ⟨rfl, hb1⟩
  have HB1 := Lib.hid hb1
  have hz1 := hb1.size
  by_cases hbig : 600 < n
  · have hbig' : (600 : Int) < (n : Int) := by omega
    clear hb1
    go_wp2_with fail
    go_ret
    exact ⟨rfl, HB1.out⟩
  · have hbig' : ¬ (600 : Int) < (n : Int) := by omega
    have HRS := Lib.hid (readState_any a n c zs w1 ((HR.out.below hb1).mono hb1.size) HZ.out (by omega))
    clear hb1
    go_wp2_with fail
    refine HRS.out.mono ?_
    rintro e w2 ⟨ht, er, rfl, hd, hb2⟩
    have HB2 := Lib.hid (HB1.out.trans (hb2.mono HB1.out.size))
    have hba : Below w2.heap.size w2 (w2.alloc (shO ht)) := (Below.refl _ _).alloc (Nat.le_refl _) _
    have HB3 := Lib.hid (HB2.out.trans (hba.mono HB2.out.size))
    have hxt : BoxAt (w2.alloc (shO ht)) w2.heap.size #[.int .i64 ht.t, .slice ht.a1 ht.n1 ht.c1, .slice ht.a2 ht.n2 ht.c2, .slice ht.a3 ht.n3 ht.c3] 26 := boxAt_new _ _ _
    clear hb2 HRS
    rcases hd with ⟨rfl, s, hs, he, hcp⟩ | ⟨rfl, hzero, _⟩
    · have hl := len_of_encS (s := s) (n := 600) (by rw [he, HN.out]; omega)
      have HS := Lib.hid (codS_any ht s (w2.alloc (shO ht)) ((hcp.calls hba).stIn) ⟨by omega, by omega, by omega⟩)
      have HCAN := Lib.hid hs
      have HE := Lib.hid he
      have s0 := hxt.cell (i := 0) rfl
      have s1 := hxt.cell (i := 1) rfl
      have s2 := hxt.cell (i := 2) rfl
      have s3 := hxt.cell (i := 3) rfl
      clear hba hxt hs he hcp hl
      go_wp2_with fail
      refine HS.out.mono ?_
      rintro e w4 ⟨v, er, rfl, h1, _, hb4⟩
      obtain ⟨rfl, ho⟩ := h1 HCAN.out
      obtain ⟨va, vc, rfl, hrow⟩ := ho.slice
      have HB4 := Lib.hid (HB3.out.trans (hb4.mono HB3.out.size))
      have HSA := Lib.hid (same_any a va n c _ vc w4.heap.size zs (encS s) w4 ((HR.out.below HB4.out).mono HB4.out.size) hrow)
      rw [sameB_eq HE.out.symm] at HSA
      obtain ⟨nl, hnl⟩ : ∃ nl, (encS s).length = nl := ⟨_, rfl⟩
      rw [hnl] at HSA ⊢
      clear h1 ho hrow hb4 HS s0 s1 s2 s3 hnl
      go_wp2_with fail
      refine HSA.out.mono ?_
      rintro e wm ⟨rfl, mm, hV⟩
      have HBM : Hid (Below w.heap.size w wm) := by rw [hV]; exact below_drewN HB4.out mm
      clear hV HSA
      have HRR := Lib.hid (readRecord_any a n c zs wm ((HR.out.below HBM.out).mono HBM.out.size) HZ.out (by omega))
      go_wp2_with fail
      refine HRR.out.mono ?_
      rintro e w5 ⟨hy, er, rfl, hd, hb5⟩
      have HB5 := Lib.hid (HBM.out.trans (hb5.mono HBM.out.size))
      have hba : Below w5.heap.size w5 (w5.alloc (rhO hy)) := (Below.refl _ _).alloc (Nat.le_refl _) _
      have HB6 := Lib.hid (HB5.out.trans (hba.mono HB5.out.size))
      have hxt : BoxAt (w5.alloc (rhO hy)) w5.heap.size #[.int .i64 hy.t, .slice hy.a1 hy.n1 hy.c1, .slice hy.a2 hy.n2 hy.c2, .slice hy.a3 hy.n3 hy.c3, .int .u32 hy.k] 31 := boxAt_new _ _ _
      clear hb5 HRR
      rcases hd with ⟨rfl, x, hok, he, hcp⟩ | ⟨rfl, hzero, _⟩
      · have hl := len_of_encR (x := x) (n := 600) hok.can (by rw [he, HN.out]; omega)
        have HP := Lib.hid (codP_any hy x (w5.alloc (rhO hy)) ((hcp.calls hba).rhIn) hok.wf ⟨by omega, hok.ws, by omega⟩)
        have HOK := Lib.hid hok
        have HEX := Lib.hid he
        have s0 := hxt.cell (i := 0) rfl
        have s1 := hxt.cell (i := 1) rfl
        have s2 := hxt.cell (i := 2) rfl
        have s3 := hxt.cell (i := 3) rfl
        have s4 := hxt.cell (i := 4) rfl
        clear hba hxt hok he hcp hl
        go_wp2_with fail
        refine HP.out.mono ?_
        rintro e w7 ⟨v, er, rfl, h1, _, hb7⟩
        obtain ⟨rfl, ho⟩ := h1 HOK.out.can
        obtain ⟨vb, vd, rfl, hrow⟩ := ho.slice
        have HB7 := Lib.hid (HB6.out.trans (hb7.mono HB6.out.size))
        have HSR := Lib.hid (same_any a vb n c _ vd w7.heap.size zs (encR x) w7 ((HR.out.below HB7.out).mono HB7.out.size) hrow)
        rw [sameB_eq HEX.out.symm] at HSR
        obtain ⟨nr, hnr⟩ : ∃ nr, (encR x).length = nr := ⟨_, rfl⟩
        rw [hnr] at HSR ⊢
        clear h1 ho hrow hb7 HP s0 s1 s2 s3 s4 hnr
        go_wp2_with fail
        refine HSR.out.mono ?_
        rintro e w8 ⟨rfl, mk, hV⟩
        have HB8 : Hid (Below w.heap.size w w8) := by rw [hV]; exact below_drewN HB7.out mk
        clear hV HSR
        go_wp2_with fail
        go_ret
        exact ⟨rfl, HB8.out⟩
      · have h3x : ((3 : Int) == 0) = false := by decide
        clear hba hxt hzero
        go_wp2_with fail
        go_ret
        exact ⟨rfl, HB6.out⟩
    · have h3' : ((3 : Int) == 0) = false := by decide
      obtain ⟨wm, hwm⟩ : ∃ wm, wm = w2.alloc (shO ht) := ⟨_, rfl⟩
      have HBM : Hid (Below w.heap.size w wm) := by rw [hwm]; exact HB3.out
      have HWM : Hid (w2.alloc (.cells #[.int .i64 ht.t, .slice ht.a1 ht.n1 ht.c1, .slice ht.a2 ht.n2 ht.c2, .slice ht.a3 ht.n3 ht.c3] 26) = wm) := hwm.symm
      clear hba hxt hwm hzero
      have HRR := Lib.hid (readRecord_any a n c zs wm ((HR.out.below HBM.out).mono HBM.out.size) HZ.out (by omega))
      go_wp2_with fail
      rw [HWM.out]
      refine HRR.out.mono ?_
      rintro e w5 ⟨hy, er, rfl, hd, hb5⟩
      have HB5 := Lib.hid (HBM.out.trans (hb5.mono HBM.out.size))
      have hba : Below w5.heap.size w5 (w5.alloc (rhO hy)) := (Below.refl _ _).alloc (Nat.le_refl _) _
      have HB6 := Lib.hid (HB5.out.trans (hba.mono HB5.out.size))
      have hxt : BoxAt (w5.alloc (rhO hy)) w5.heap.size #[.int .i64 hy.t, .slice hy.a1 hy.n1 hy.c1, .slice hy.a2 hy.n2 hy.c2, .slice hy.a3 hy.n3 hy.c3, .int .u32 hy.k] 31 := boxAt_new _ _ _
      clear hb5 HRR
      rcases hd with ⟨rfl, x, hok, he, hcp⟩ | ⟨rfl, hzero, _⟩
      · have hl := len_of_encR (x := x) (n := 600) hok.can (by rw [he, HN.out]; omega)
        have HP := Lib.hid (codP_any hy x (w5.alloc (rhO hy)) ((hcp.calls hba).rhIn) hok.wf ⟨by omega, hok.ws, by omega⟩)
        have HOK := Lib.hid hok
        have HEX := Lib.hid he
        have s0 := hxt.cell (i := 0) rfl
        have s1 := hxt.cell (i := 1) rfl
        have s2 := hxt.cell (i := 2) rfl
        have s3 := hxt.cell (i := 3) rfl
        have s4 := hxt.cell (i := 4) rfl
        clear hba hxt hok he hcp hl
        go_wp2_with fail
        refine HP.out.mono ?_
        rintro e w7 ⟨v, er, rfl, h1, _, hb7⟩
        obtain ⟨rfl, ho⟩ := h1 HOK.out.can
        obtain ⟨vb, vd, rfl, hrow⟩ := ho.slice
        have HB7 := Lib.hid (HB6.out.trans (hb7.mono HB6.out.size))
        have HSR := Lib.hid (same_any a vb n c _ vd w7.heap.size zs (encR x) w7 ((HR.out.below HB7.out).mono HB7.out.size) hrow)
        rw [sameB_eq HEX.out.symm] at HSR
        obtain ⟨nr, hnr⟩ : ∃ nr, (encR x).length = nr := ⟨_, rfl⟩
        rw [hnr] at HSR ⊢
        clear h1 ho hrow hb7 HP s0 s1 s2 s3 s4 hnr
        go_wp2_with fail
        refine HSR.out.mono ?_
        rintro e w8 ⟨rfl, mk, hV⟩
        have HB8 : Hid (Below w.heap.size w w8) := by rw [hV]; exact below_drewN HB7.out mk
        clear hV HSR
        go_wp2_with fail
        go_ret
        exact ⟨rfl, HB8.out⟩
      · have h3x : ((3 : Int) == 0) = false := by decide
        clear hba hxt hzero
        go_wp2_with fail
        go_ret
        exact ⟨rfl, HB6.out⟩
end Go.Proofs.Ytdhaoacnedgogaa.Vm
