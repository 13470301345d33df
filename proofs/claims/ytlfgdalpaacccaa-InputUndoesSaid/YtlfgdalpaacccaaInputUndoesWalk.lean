/- tuggerlaw06.InputUndoes returns true for every input. -/
import Derived.Test.YtlfgdalpaacccaaUndoMath
import Derived.Test.YtlfgdalpaacccaaInAlls
import Derived.Test.YtlfgdalpaacccaaLightSix
import Derived.Test.YtlfgdalpaacccaaStSames
import Derived.Test.YtlfgdalpaacccaaOpens
import Derived.Test.YtlfgdalpaacccaaAwakeSix
namespace Go.Proofs.Ytlfgdalpaacccaa.Vm
open Go Go.RowKit

theorem same_yes {s s' : St} (h : s = s') : sameSt s s' = true := by subst h; exact yes_true ⟨rfl, rfl, rfl, rfl⟩
theorem bl_small {h : Sh} {s : St} {w : World} {B : Nat} (hin : StIn w B h s) (hn : h.n3 ≤ 20) : s.bl.length ≤ 80000 := by have := hin.bl.1; omega

set_option maxRecDepth 100000 in
set_option maxHeartbeats 4000000 in
theorem inputUndoes_walk (W H : Int) (g : ByteArray) (h : Sh) (s : St) (p : Int) (w : World) (hg : g.size ≤ maxLen) (hi : IsSt w h s) :
    Calls Try.prog 5 #[gridV W H g, shV h, .int .i64 p] w fun e w' => e = .returned (.bool true) ∧ Below w.heap.size w w' := by
  obtain ⟨w2, hw2, hB2, hz2, hg2, hs2⟩ := gs_head w W H g h
  have HW2 := Lib.hid hw2
  have HI := Lib.hid hi.stIn
  have HLI := Lib.hid fun (V : World) (hV : Below w.heap.size w V) => light6_any W H g h s _ V hg (hi.stIn.below hV) hV.size
  have HLN := Lib.hid fun (hl : light6 W H g h s = true) => light6_in hl
  have HG := Lib.hid hg
  have HG2 := Lib.hid hg2
  have HS2 := Lib.hid hs2
  have HB2 := Lib.hid hB2
  have hnm := hi.stIn.rs.len
  unfold maxLen at hnm
  obtain ⟨fl, hfl⟩ : ∃ fl, floorS (bytesOf g) = fl := ⟨_, rfl⟩
  have HFL := Lib.hid hfl
  generalize hL : light6 W H g h s = L at HLI HLN
  clear hL hw2 hi hg hg2 hs2 hB2 hfl
  obtain ⟨t, a1, n1, c1, a2, n2, c2, a3, n3, c3⟩ := h
  simp only [] at HLI HLN hnm
  go_enter Try.func5, Try.ntmps5
  go_wp2_with fail
  rw [← HW2.out]
  refine (awake6_any w2).mono ?_
  rintro e w3 ⟨rfl, hb3⟩
  have HB3 := Lib.hid (HB2.out.trans (hb3.mono HB2.out.size))
  have HG3 := Lib.hid (HG2.out.below hb3 (by omega))
  have HS3 := Lib.hid (HS2.out.below hb3 (by omega))
  have hz3 : w.heap.size + 2 ≤ w3.heap.size := by have := hb3.size; omega
  clear hb3
  obtain ⟨g0, g1, g2⟩ := id HG3.out
  obtain ⟨s0, s1, s2, s3⟩ := id HS3.out
  simp only [] at s0 s1 s2 s3
  go_wp2_with fail
  refine (HLI.out _ HB3.out).mono ?_
  rintro e w4 ⟨rfl, hb4⟩
  have HB4 := Lib.hid (HB3.out.trans (hb4.mono HB3.out.size))
  have HG4 := Lib.hid (HG3.out.below hb4 (by omega))
  have HS4 := Lib.hid (HS3.out.below hb4 (by omega))
  have hz4 : w.heap.size + 2 ≤ w4.heap.size := by have := hb4.size; omega
  clear hb4 g0 g1 g2 s0 s1 s2 s3 HLI HG2 HS2 HG3 HS3
  cases L
  · go_wp2_with fail
    go_ret
    exact ⟨rfl, HB4.out⟩
  obtain ⟨⟨_, hl1, hl2, hl3⟩, hr⟩ := HLN.out (by trivial)
  rw [HFL.out] at hr
  have HR := Lib.hid hr
  have HBL := Lib.hid (bl_small HI.out hl3)
  have HAP := Lib.hid fun (V : World) (h' : Sh) (s' : St) (x : Inp) (hin : StIn V V.heap.size h' s') (hr' : RightP fl s') (hb' : s'.bl.length ≤ 90000) => (by
    have := bigApply_any W H g h' s' x _ V HG.out hin (Nat.le_refl _) (by rw [HFL.out]; exact hr') hb'
    rw [HFL.out] at this
    exact this : Calls Try.prog 12 #[gridV W H g, shV h', inpV x] V fun e w' => ∃ h'', e = .returned (.tuple #[shV h'', .int .i64 (codeS fl s' x)]) ∧ CopyIn w' V.heap.size h'' (applyS fl s' x) ∧ Below V.heap.size V w')
  have HIV := Lib.hid fun (V : World) (hV : Below w.heap.size w V) => ((HI.out.below hV).mono hV.size : StIn V V.heap.size _ s)
  clear hr hl2 hl3
  obtain ⟨g0, g1, g2⟩ := id HG4.out
  obtain ⟨s0, s1, s2, s3⟩ := id HS4.out
  simp only [] at s0 s1 s2 s3
  -- a block
  have HC1 := Lib.hid (HAP.out w4 _ s ⟨5, p, 0, 0⟩ (HIV.out _ HB4.out) HR.out (by have := HBL.out; omega))
  go_wp2_with fail
  refine HC1.out.mono ?_
  rintro e w5 ⟨h1, rfl, hc5, hb5⟩
  have HB5 := Lib.hid (HB4.out.trans (hb5.mono HB4.out.size))
  have HG5 := Lib.hid (HG4.out.below hb5 (by omega))
  have HS5 := Lib.hid (HS4.out.below hb5 (by omega))
  have hz5 := hb5.size
  have hba : Below w5.heap.size w5 (w5.alloc (shO h1)) := (Below.refl _ _).alloc (Nat.le_refl _) _
  have hz6' : (w5.alloc (shO h1)).heap.size = w5.heap.size + 1 := by simp
  obtain ⟨w6, hw6⟩ : ∃ w6, w6 = w5.alloc (shO h1) := ⟨_, rfl⟩
  rw [← hw6] at hba hz6'
  have HW6 := Lib.hid hw6
  have HI6 := Lib.hid ((hc5.stIn.below hba).mono (show w5.heap.size ≤ w6.heap.size by omega))
  have HBA6 := Lib.hid hba
  have HC2 := Lib.hid (HAP.out w6 h1 _ ⟨6, p, 0, 0⟩ HI6.out (apply_right HR.out) (by have := apply_bl fl s ⟨5, p, 0, 0⟩; have := HBL.out; omega))
  have HU := Lib.hid fun he => undo_block (a := p) HR.out he
  clear g0 g1 g2 s0 s1 s2 s3 hb5 hba hw6 HC1 HG4 HS4
  have hlt0 : w.heap.size < w5.heap.size := by omega
  have hlt1 : w.heap.size + 1 < w5.heap.size := by omega
  obtain ⟨g0, g1, g2⟩ := id HG5.out
  obtain ⟨s0, s1, s2, s3⟩ := id HS5.out
  simp only [] at s0 s1 s2 s3
  clear hc5
  obtain ⟨t1, b1, m1, d1, b2, m2, d2, b3, m3, d3⟩ := h1
  generalize hE : codeS fl s ⟨5, p, 0, 0⟩ = E at HU
  generalize hS1 : applyS fl s ⟨5, p, 0, 0⟩ = st1 at HC2 HI6 HU
  generalize hF : codeS fl st1 ⟨6, p, 0, 0⟩ = F at HC2 HU
  generalize hS2 : applyS fl st1 ⟨6, p, 0, 0⟩ = st2 at HC2 HU
  clear hE hS1 hF hS2
  -- a clearing
  go_wp2_with fail
  rw [← HW6.out]
  refine HC2.out.mono ?_
  rintro e w7 ⟨h2, rfl, hc7, hb7⟩
  have hb57 := HBA6.out.trans (hb7.mono (by omega))
  have HB7 := Lib.hid (HB5.out.trans (hb57.mono HB5.out.size))
  have HG7 := Lib.hid (HG5.out.below hb57 (by omega))
  have HS7 := Lib.hid (HS5.out.below hb57 (by omega))
  have hz7 := hb57.size
  have hba : Below w7.heap.size w7 (w7.alloc (shO h2)) := (Below.refl _ _).alloc (Nat.le_refl _) _
  have hz8' : (w7.alloc (shO h2)).heap.size = w7.heap.size + 1 := by simp
  obtain ⟨w8, hw8⟩ : ∃ w8, w8 = w7.alloc (shO h2) := ⟨_, rfl⟩
  rw [← hw8] at hba hz8'
  have HW8 := Lib.hid hw8
  have HBA8 := Lib.hid hba
  have HB8 := Lib.hid (HB7.out.trans (hba.mono HB7.out.size))
  have HSM := Lib.hid (stSame_any ⟨t, a1, n1, c1, a2, n2, c2, a3, n3, c3⟩ h2 s st2 w8.heap.size w8 (HIV.out _ HB8.out) ((hc7.stIn.below hba).mono (by omega)) (Nat.le_refl _))
  have HU2 : Hid (E = 0 → F = 0 ∧ sameSt s st2 = true) := fun he => ⟨(HU.out he).1, same_yes (HU.out he).2.symm⟩
  generalize sameSt s st2 = back at HSM HU2
  clear g0 g1 g2 s0 s1 s2 s3 hb7 hb57 hba hw8 HC2 HG5 HS5 HU HI6 HW6 HBA6 hc7 hlt0 hlt1
  have hlt0 : w.heap.size < w7.heap.size := by omega
  have hlt1 : w.heap.size + 1 < w7.heap.size := by omega
  obtain ⟨g0, g1, g2⟩ := id HG7.out
  obtain ⟨s0, s1, s2, s3⟩ := id HS7.out
  simp only [] at s0 s1 s2 s3
  obtain ⟨t2, e1, p1, f1, e2, p2, f2, e3, p3, f3⟩ := h2
  go_wp2_with fail
  rw [← HW8.out]
  refine HSM.out.mono ?_
  rintro e w9 ⟨rfl, hb9⟩
  have HB9 := Lib.hid (HB8.out.trans (hb9.mono HB8.out.size))
  have hb79 := HBA8.out.trans (hb9.mono (by omega))
  have HG9 := Lib.hid (HG7.out.below hb79 (by omega))
  have HS9 := Lib.hid (HS7.out.below hb79 (by omega))
  have hz9 := hb79.size
  clear g0 g1 g2 s0 s1 s2 s3 hb9 hb79 HSM HG7 HS7 HW8 HBA8 hlt0 hlt1
  have hlt0 : w.heap.size < w9.heap.size := by omega
  have hlt1 : w.heap.size + 1 < w9.heap.size := by omega
  obtain ⟨g0, g1, g2⟩ := id HG9.out
  obtain ⟨s0, s1, s2, s3⟩ := id HS9.out
  simp only [] at s0 s1 s2 s3
  have HC3 := Lib.hid (HAP.out w9 _ s ⟨2, p, 0, 0⟩ (HIV.out _ HB9.out) HR.out (by have := HBL.out; omega))
  have hsplit : (E = 0 ∧ F = 0 ∧ back = true) ∨ (E == 0) = false := by
    by_cases he : E = 0
    · exact .inl ⟨he, HU2.out he⟩
    · exact .inr (by simpa using he)
  clear HU2
  rcases hsplit with ⟨rfl, rfl, rfl⟩ | he0
  all_goals
    go_wp2_with fail
    refine HC3.out.mono ?_
    rintro e w10 ⟨h3, rfl, hc10, hb10⟩
    have HB10 := Lib.hid (HB9.out.trans (hb10.mono HB9.out.size))
    have HG10 := Lib.hid (HG9.out.below hb10 (by omega))
    have HS10 := Lib.hid (HS9.out.below hb10 (by omega))
    have hz10 := hb10.size
    have hba : Below w10.heap.size w10 (w10.alloc (shO h3)) := (Below.refl _ _).alloc (Nat.le_refl _) _
    have hz11' : (w10.alloc (shO h3)).heap.size = w10.heap.size + 1 := by simp
    obtain ⟨w11, hw11⟩ : ∃ w11, w11 = w10.alloc (shO h3) := ⟨_, rfl⟩
    rw [← hw11] at hba hz11'
    have HW11 := Lib.hid hw11
    have HI11 := Lib.hid ((hc10.stIn.below hba).mono (show w10.heap.size ≤ w11.heap.size by omega))
    have HBA11 := Lib.hid hba
    have HC4 := Lib.hid (HAP.out w11 h3 _ ⟨3, p, 0, 0⟩ HI11.out (apply_right HR.out) (by have := apply_bl fl s ⟨2, p, 0, 0⟩; have := HBL.out; omega))
    clear g0 g1 g2 s0 s1 s2 s3 hb10 hba hw11 HC3 HG9 HS9 hc10 hlt0 hlt1
    have hlt0 : w.heap.size < w10.heap.size := by omega
    have hlt1 : w.heap.size + 1 < w10.heap.size := by omega
    obtain ⟨g0, g1, g2⟩ := id HG10.out
    obtain ⟨s0, s1, s2, s3⟩ := id HS10.out
    simp only [] at s0 s1 s2 s3
    obtain ⟨t3, q1, r1, u1, q2, r2, u2, q3, r3, u3⟩ := h3
    have HUE := Lib.hid (undo_fault_err (fl := fl) (s := s) (a := p))
    have HUF := Lib.hid (undo_fault (a := p) HR.out)
    have HAA : Hid (allS fl s [⟨2, p, 0, 0⟩, ⟨3, p, 0, 0⟩] = applyS fl (applyS fl s ⟨2, p, 0, 0⟩) ⟨3, p, 0, 0⟩) := rfl
    generalize hHH : codeS fl s ⟨2, p, 0, 0⟩ = HH at HUE HUF
    generalize hS3 : applyS fl s ⟨2, p, 0, 0⟩ = st3 at HC4 HI11 HUF HAA
    generalize hII : codeS fl st3 ⟨3, p, 0, 0⟩ = II at HC4 HUF
    generalize hS4 : applyS fl st3 ⟨3, p, 0, 0⟩ = st4 at HC4 HUF HAA
    clear hHH hS3 hII hS4
    go_wp2_with fail
    rw [← HW11.out]
    refine HC4.out.mono ?_
    rintro e w12 ⟨h4, rfl, hc12, hb12⟩
    have hb1012 := HBA11.out.trans (hb12.mono (by omega))
    have HB12 := Lib.hid (HB10.out.trans (hb1012.mono HB10.out.size))
    have HG12 := Lib.hid (HG10.out.below hb1012 (by omega))
    have HS12 := Lib.hid (HS10.out.below hb1012 (by omega))
    have hz12 := hb1012.size
    have HC12 := Lib.hid hc12
    clear g0 g1 g2 s0 s1 s2 s3 hb12 hb1012 HC4 HG10 HS10 HI11 HW11 HBA11 hlt0 hlt1
    by_cases hne : HH = 0
    · obtain ⟨hii, hrr, hlen, h22, h20⟩ := HUF.out hne
      subst hne hii
      obtain ⟨i, rfl, hin⟩ := isR_int hrr
      rw [Int.toNat_natCast] at h22 h20
      have hb3 := HB12.out
      obtain ⟨rb, off, ha1, hrb, hcs⟩ := HI.out.rs.cells (show 0 < n1 by have := HI.out.rs.1; simp only [] at this; omega)
      have hn1 : i < n1 := by have := HI.out.rs.1; simp only [] at this; omega
      simp only [] at ha1
      subst ha1
      have cw := (hb3.cell (p := ⟨rb, off + i * 5 + 1, none⟩) hrb).trans (hcs i hn1).2.1
      have k1 : h4.n1 = n1 := by have := HC12.out.n1; have := HI.out.rs.1; simp only [] at this; omega
      obtain ⟨lb, hlb, _, hlt, hr4, _⟩ := HC12.out.rs.at (by omega)
      have cn := (hr4 i (by omega)).2.1
      generalize (s.rs.getD i zr).b = was at cw h22 h20
      generalize (st4.rs.getD i zr).b = now at cn h22 h20
      have hrbw : rb < w12.heap.size := by omega
      have hi0 : (0 : Int) ≤ (i : Int) := by omega
      have hi1 : (i : Int) < (n1 : Int) := by omega
      -- both at once
      have hsl : (w12.alloc (shO h4)).heap.size = w12.heap.size + 1 := by simp
      have hba : Below w12.heap.size w12 (w12.alloc (shO h4)) := (Below.refl _ _).alloc (Nat.le_refl _) _
      obtain ⟨o, ho⟩ : ∃ o, o = Obj.cells #[.int .i64 2, .int .i64 (i : Int), .int .i64 0, .int .i64 0, .int .i64 3, .int .i64 (i : Int), .int .i64 0, .int .i64 0] 41 := ⟨_, rfl⟩
      have hrow : RowI ((w12.alloc (shO h4)).alloc o) (w12.heap.size + 1 + 1) (some ⟨w12.heap.size + 1, 0, none⟩) 2 2 [⟨2, (i : Int), 0, 0⟩, ⟨3, (i : Int), 0, 0⟩] := by
        have := rowI_lit (w12.alloc (shO h4)) [⟨2, (i : Int), 0, 0⟩, ⟨3, (i : Int), 0, 0⟩] 41 #[.int .i64 2, .int .i64 (i : Int), .int .i64 0, .int .i64 0, .int .i64 3, .int .i64 (i : Int), .int .i64 0, .int .i64 0] (by simp) (fun k hk => by
          have hk2 : k < 2 := hk
          match k, hk2 with
          | 0, _ => exact ⟨rfl, rfl, rfl, rfl⟩
          | 1, _ => exact ⟨rfl, rfl, rfl, rfl⟩)
        rw [hsl] at this
        rw [ho]
        exact this
      have hba2 : Below w12.heap.size w12 ((w12.alloc (shO h4)).alloc o) := hba.alloc (by omega) _
      have hzA : ((w12.alloc (shO h4)).alloc o).heap.size = w12.heap.size + 2 := by simp
      have hBA := HB12.out.trans (hba2.mono (by omega))
      have HALL : Hid (Calls Try.prog 8 #[gridV W H g, shV ⟨t, some ⟨rb, off, none⟩, n1, c1, a2, n2, c2, a3, n3, c3⟩, .slice (some ⟨w12.heap.size + 1, 0, none⟩) 2 2] ((w12.alloc (shO h4)).alloc o) fun e w' => ∃ h' cb, e = .returned (.tuple #[shV h', .slice (some ⟨cb, 0, none⟩) 2 2]) ∧ CopyIn w' ((w12.alloc (shO h4)).alloc o).heap.size h' st4 ∧ Below ((w12.alloc (shO h4)).alloc o).heap.size ((w12.alloc (shO h4)).alloc o) w') := by
        have h1 := bigAll_any W H g ⟨t, some ⟨rb, off, none⟩, n1, c1, a2, n2, c2, a3, n3, c3⟩ s _ 2 2 [⟨2, (i : Int), 0, 0⟩, ⟨3, (i : Int), 0, 0⟩] _ ((w12.alloc (shO h4)).alloc o) HG.out (HIV.out _ hBA) (hrow.mono (by omega)) (Nat.le_refl _) (by rw [HFL.out]; exact HR.out) (by have := HBL.out; omega) (by omega)
        rw [HFL.out, HAA.out] at h1
        exact h1.mono fun e w' ⟨h', cb, he, hc, _, hb⟩ => ⟨h', cb, he, hc, hb⟩
      have HI4 : Hid (StIn ((w12.alloc (shO h4)).alloc o) w12.heap.size h4 st4) := HC12.out.stIn.below hba2
      have HBA := Lib.hid hBA
      have hs4 : StAt ((w12.alloc (shO h4)).alloc o) w12.heap.size h4 := (stAt_new w12 h4).below ((Below.refl (w12.alloc (shO h4)).heap.size _).alloc (Nat.le_refl _) _) (by omega)
      have HS4 := Lib.hid hs4
      have H22 := Lib.hid h22
      have H20 := Lib.hid h20
      rw [ho] at HALL HI4 HBA HS4 hzA
      obtain ⟨g0, g1, g2⟩ := id HG12.out
      obtain ⟨s0, s1, s2, s3⟩ := id HS12.out
      have HI4' := HI4
      obtain ⟨t4, v1, x1, y1, v2, x2, y2, v3, x3, y3⟩ := h4
      simp only [] at s0 s1 s2 s3 k1 hlb
      subst k1 hlb
      have hlt0 : w.heap.size < w12.heap.size := by omega
      have hlt1 : w.heap.size + 1 < w12.heap.size := by omega
      clear hcs hr4 hba hrow hba2 hBA hs4 ho h22 h20 HC12 hb3 HUE HUF hrr hlen HAP
      go_wp2_with fail
      refine HALL.out.mono ?_
      rintro e w13 ⟨h5, cb, rfl, hc13, hb13⟩
      have hz13 := hb13.size
      have hs13 := HS4.out.below hb13 (by omega)
      have hba : Below w13.heap.size w13 (w13.alloc (shO h5)) := (Below.refl _ _).alloc (Nat.le_refl _) _
      have hz14' : (w13.alloc (shO h5)).heap.size = w13.heap.size + 1 := by simp
      obtain ⟨w14, hw14⟩ : ∃ w14, w14 = w13.alloc (shO h5) := ⟨_, rfl⟩
      rw [← hw14] at hba hz14'
      have HW14 := Lib.hid hw14
      have hb1314 := hb13.trans (hba.mono hz13)
      have HSM := Lib.hid (stSame_any h5 ⟨t4, some ⟨lb, 0, none⟩, x1, y1, v2, x2, y2, v3, x3, y3⟩ st4 st4 w14.heap.size w14 ((hc13.stIn.below hba).mono (by omega)) ((HI4.out.below (hb1314.mono (by omega))).mono (by omega)) (Nat.le_refl _))
      rw [same_yes rfl] at HSM
      have HB14 := Lib.hid (HBA.out.trans (hb1314.mono HBA.out.size))
      have hlt13 : w12.heap.size < w13.heap.size := by omega
      obtain ⟨t5, z1, zz1, zc1, z2, zz2, zc2, z3, zz3, zc3⟩ := h5
      clear g0 g1 g2 s0 s1 s2 s3 hb13 hba hw14 hb1314 hc13 HALL HS4 HI4 HI4' cw cn
      obtain ⟨s0, s1, s2, s3⟩ := hs13
      simp only [] at s0 s1 s2 s3
      go_wp2_with fail
      rw [← HW14.out]
      refine HSM.out.mono ?_
      rintro e w15 ⟨rfl, hb15⟩
      have HB15 := Lib.hid (HB14.out.trans (hb15.mono HB14.out.size))
      clear hb15 s0 s1 s2 s3
      by_cases hw : was = 2
      · have hn := H22.out hw
        subst hw hn
        go_wp2_with fail
        go_ret
        exact ⟨rfl, HB15.out⟩
      · have hn := H20.out hw
        subst hn
        have e2 : (was == 2) = false := by simpa using hw
        have e3 : (was != 2) = true := by simpa using hw
        clear hw
        go_wp2_with fail
        go_ret
        exact ⟨rfl, HB15.out⟩
    · have e1 : (HH != 0) = true := by simpa using hne
      have HBF : Hid (Below w.heap.size w (w12.alloc (shO h4))) := HB12.out.alloc HB12.out.size _
      obtain ⟨t4, v1, x1, y1, v2, x2, y2, v3, x3, y3⟩ := h4
      rcases HUE.out hne with rfl | rfl
      · go_wp2_with fail
        go_ret
        exact ⟨rfl, HBF.out⟩
      · go_wp2_with fail
        go_ret
        exact ⟨rfl, HBF.out⟩
theorem inputUndoes_say (W H : Int) (g : ByteArray) (h : Sh) (s : St) (p : Int) (w : World) (_ : (Lit.int .i64 W).wf = true) (_ : (Lit.int .i64 H).wf = true) (hg : g.size ≤ maxLen) (hi : IsSt w h s) (_ : (Lit.int .i64 p).wf = true) :
    Calls Try.prog 5 #[gridV W H g, shV h, .int .i64 p] w fun e w' => e = .returned (.bool true) ∧ Below w.heap.size w w' :=
  inputUndoes_walk W H g h s p w hg hi
end Go.Proofs.Ytlfgdalpaacccaa.Vm
