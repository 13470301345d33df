/- The contracts of codec's small readers: need, number, small, signed, count. The contracts of codec's takeRobot, takeTask, takeInput. -/
import Derived.Test.YtplnaaokapilpaaDoorCodMath
import Derived.Test.YtplnaaokapilpaaDoorRefCods
import Derived.Test.YtplnaaokapilpaaDoorRefTakes
import Derived.Test.YtplnaaokapilpaaDoorZigs
import Derived.Test.YtplnaaokapilpaaDoorOwnRs
namespace Go.Proofs.YtplnaaokapilpaaDoor.Vm
open Go Go.RowKit

/-- The panic of bytes that are not as they must be. -/
abbrev pan : Ending := .panicked [{ v := .iface 34 (.int .i64 3), recovered := false }]
theorem need_yes (w : World) : Calls Tryd.prog 78 #[.bool true] w fun e w' => e = .returned (.tuple #[]) ∧ w = w' := by
  go_enter Tryd.func78, Tryd.ntmps78
  go_wp2_with fail
  exact bodyPost_end (results_none rfl _ _ _) rfl ⟨rfl, rfl⟩
theorem need_no (w : World) : Calls Tryd.prog 78 #[.bool false] w fun e w' => e = pan ∧ w = w' := by
  go_enter Tryd.func78, Tryd.ntmps78
  go_wp2_with fail
  exact ⟨rfl, rfl, rfl⟩
/-- The reader in block b stands ahead of ys, of the bytes zs. -/
def RdAt (w : World) (b : Nat) (a : Option Addr) (n c : Nat) (zs ys : List Nat) : Prop :=
  ∃ p : Nat, p ≤ zs.length ∧ zs.drop p = ys ∧ BoxAt w b #[.slice a n c, .int .i64 p] 131
theorem RdAt.lt {w : World} {b : Nat} {a : Option Addr} {n c : Nat} {zs ys : List Nat} (h : RdAt w b a n c zs ys) : b < w.heap.size := by
  obtain ⟨p, _, _, h⟩ := h
  exact h.lt
theorem RdAt.calls {w w' : World} {b : Nat} {a : Option Addr} {n c : Nat} {zs ys : List Nat} (h : RdAt w b a n c zs ys) (hb : Below w.heap.size w w') : RdAt w' b a n c zs ys := by
  obtain ⟨p, h1, h2, h⟩ := h
  exact ⟨p, h1, h2, h.calls hb⟩

set_option maxRecDepth 100000 in
set_option maxHeartbeats 1000000 in
theorem number_any (b B : Nat) (a : Option Addr) (n c : Nat) (zs ys : List Nat) (M : Nat) (w : World) (h : RdAt w b a n c zs ys) (hr : Row .u8 w B a n c zs) (hz : ∀ x ∈ zs, x < 256) (hB : B ≤ w.heap.size) (hM : M < 18446744073709551616) :
    Calls Tryd.prog 83 #[.pointer (some ⟨b, 0, none⟩), .int .u64 (M : Nat)] w fun e w' =>
      ((∃ x r, x ≤ M ∧ ys = enc x ++ r ∧ e = .returned (.int .u64 (x : Nat)) ∧ RdAt w' b a n c zs r) ∨ ((∀ x r, x ≤ M → ys ≠ enc x ++ r) ∧ e = pan)) ∧ But b w w' := by
  obtain ⟨p, hp, rfl, h⟩ := h
  have hb := h.lt
  have h0 : w.cell? ⟨b, 0, none⟩ = some (.slice a n c) := h.cell (i := 0) rfl
  have h1 : w.cell? ⟨b, 1, none⟩ = some (.int .i64 (p : Nat)) := h.cell (i := 1) rfl
  have f1 := h.fz 1
  have HT := Lib.hid fun (V : World) (hV : Below B w V) => take_any a n c B zs p V (hr.below hV) hz
  have HY := Lib.hid (takeS_yes (p := p) hz)
  have HN := Lib.hid (takeS_no hp)
  have HH := Lib.hid h
  have HMM := Lib.hid hM
  clear hr hM h hp
  obtain ⟨⟨x, q, er⟩, hD⟩ : ∃ D, takeS zs p = D := ⟨_, rfl⟩
  simp only [hD] at HT HY HN
  clear hD hz
  have k0 : Kept w w := Kept.refl _
  have HKS : Hid (∀ V, Kept w V → Kept w V ∧ V.cell? ⟨b, 0, none⟩ = some (.slice a n c) ∧ V.cell? ⟨b, 1, none⟩ = some (.int .i64 (p : Nat))) := fun V hV => ⟨hV, (Below.cell hV (p := ⟨b, 0, none⟩) hb).trans h0, (Below.cell hV (p := ⟨b, 1, none⟩) hb).trans h1⟩
  have HNY := Lib.hid (need_yes)
  have HNN := Lib.hid (need_no)
  have HBu : Hid (But b w w) := But.refl _ _
  by_cases he : er = 0
  · subst he
    by_cases hx : x ≤ M
    · have hx' : (x : Int) ≤ (M : Int) := by omega
      go_enter Tryd.func83, Tryd.ntmps83
      go_wp2_with fail
      go_region_held3 (fun V => Kept w V ∧ V.cell? ⟨b, 0, none⟩ = some (.slice a n c) ∧ V.cell? ⟨b, 1, none⟩ = some (.int .i64 (p : Nat)))
        (first | exact HKS.out _ (by assumption) | exact HKS.out _ (Kept.drew (by assumption)))
        (first | (go_at_call 43; refine (HT.out _ ?_).mono ?_; (first | exact Below.mono k0 hB | exact Below.mono (Kept.drew k0) hB); rintro e w1 ⟨rfl, rfl⟩))
      go_wp2_with fail
      refine (HNY.out _).mono ?_
      rintro e w1 ⟨rfl, rfl⟩
      go_wp2_with fail
      go_ret
      refine ⟨.inl ⟨x, zs.drop q, hx, (HY.out trivial).2.1, rfl, q, (HY.out trivial).1, rfl, ?_⟩, ?_⟩
      · exact (HH.out.drew).set 1 _
      · exact HBu.out.drew.set _
    · have hx' : ¬ (x : Int) ≤ (M : Int) := by omega
      go_enter Tryd.func83, Tryd.ntmps83
      go_wp2_with fail
      go_region_held3 (fun V => Kept w V ∧ V.cell? ⟨b, 0, none⟩ = some (.slice a n c) ∧ V.cell? ⟨b, 1, none⟩ = some (.int .i64 (p : Nat)))
        (first | exact HKS.out _ (by assumption) | exact HKS.out _ (Kept.drew (by assumption)))
        (first | (go_at_call 43; refine (HT.out _ ?_).mono ?_; (first | exact Below.mono k0 hB | exact Below.mono (Kept.drew k0) hB); rintro e w1 ⟨rfl, rfl⟩))
      go_wp2_with fail
      refine (HNN.out _).mono ?_
      rintro e w1 ⟨rfl, rfl⟩
      go_wp2_with fail
      refine ⟨rfl, .inr ⟨fun y r hy he => ?_, rfl⟩, HBu.out.drew⟩
      have hM := HMM.out
      rw [(HY.out trivial).2.1] at he
      have := (enc_pf (HY.out trivial).2.2 (by omega) he).1
      omega
  · have he' : ((er : Int) == 0) = false := by simp; omega
    have HE := Lib.hid he
    clear he
    go_enter Tryd.func83, Tryd.ntmps83
    go_wp2_with fail
    go_region_held3 (fun V => Kept w V ∧ V.cell? ⟨b, 0, none⟩ = some (.slice a n c) ∧ V.cell? ⟨b, 1, none⟩ = some (.int .i64 (p : Nat)))
      (first | exact HKS.out _ (by assumption) | exact HKS.out _ (Kept.drew (by assumption)))
      (first | (go_at_call 43; refine (HT.out _ ?_).mono ?_; (first | exact Below.mono k0 hB | exact Below.mono (Kept.drew k0) hB); rintro e w1 ⟨rfl, rfl⟩))
    go_wp2_with fail
    refine (HNN.out _).mono ?_
    rintro e w1 ⟨rfl, rfl⟩
    go_wp2_with fail
    have hM := HMM.out
    exact ⟨rfl, .inr ⟨fun y r hy => HN.out HE.out y r (by omega), rfl⟩, HBu.out.drew⟩
set_option maxRecDepth 100000 in
set_option maxHeartbeats 1000000 in
theorem small_any (b B : Nat) (a : Option Addr) (n c : Nat) (zs ys : List Nat) (M : Nat) (w : World) (h : RdAt w b a n c zs ys) (hr : Row .u8 w B a n c zs) (hz : ∀ x ∈ zs, x < 256) (hB : B ≤ w.heap.size) (hM : M ≤ 9223372036854775807) :
    Calls Tryd.prog 79 #[.pointer (some ⟨b, 0, none⟩), .int .i64 (M : Nat)] w fun e w' =>
      ((∃ x r, x ≤ M ∧ ys = enc x ++ r ∧ e = .returned (.int .i64 (x : Nat)) ∧ RdAt w' b a n c zs r) ∨ ((∀ x r, x ≤ M → ys ≠ enc x ++ r) ∧ e = pan)) ∧ But b w w' := by
  have HT := Lib.hid (number_any b B a n c zs ys M w h hr hz hB (by omega))
  have hM' : IntKind.u64.wrap (M : Int) = (M : Int) := by simp only [IntKind.wrap_u64]; omega
  have HX : Hid (∀ x : Nat, x ≤ M → IntKind.i64.wrap (x : Int) = (x : Int)) := fun x hx => by simp only [IntKind.wrap_i64]; omega
  clear h hr hz hB hM
  go_enter Tryd.func79, Tryd.ntmps79
  go_wp2_with fail
  refine HT.out.mono ?_
  rintro e w1 ⟨⟨x, r, hx, hy, rfl, hq⟩ | ⟨hno, rfl⟩, hb⟩
  · have hxx := HX.out x hx
    have HQ := Lib.hid hq
    have HY := Lib.hid hy
    have HXX := Lib.hid hx
    have HB := Lib.hid hb
    clear hq hy hx hb HX
    go_wp2_with fail
    go_ret
    exact ⟨.inl ⟨x, r, HXX.out, HY.out, rfl, HQ.out⟩, HB.out⟩
  · exact ⟨rfl, .inr ⟨hno, rfl⟩, hb⟩
set_option maxRecDepth 100000 in
set_option maxHeartbeats 1000000 in
theorem count_any (b B : Nat) (a : Option Addr) (n c : Nat) (zs ys : List Nat) (w : World) (h : RdAt w b a n c zs ys) (hr : Row .u8 w B a n c zs) (hz : ∀ x ∈ zs, x < 256) (hB : B ≤ w.heap.size) :
    Calls Tryd.prog 80 #[.pointer (some ⟨b, 0, none⟩)] w fun e w' =>
      ((∃ x r, x ≤ n ∧ ys = enc x ++ r ∧ e = .returned (.int .i64 (x : Nat)) ∧ RdAt w' b a n c zs r) ∨ ((∀ x r, x ≤ n → ys ≠ enc x ++ r) ∧ e = pan)) ∧ But b w w' := by
  have hm : n ≤ 9223372036854775807 := by
    have h1 := hr.2.1
    have h2 := hr.2.2.1
    unfold maxLen at h2
    omega
  have HT := Lib.hid (small_any b B a n c zs ys n w h hr hz hB hm)
  have h0 : w.cell? ⟨b, 0, none⟩ = some (.slice a n c) := by
    obtain ⟨p, _, _, h⟩ := h
    exact h.cell (i := 0) rfl
  clear h hr hz hB hm
  go_enter Tryd.func80, Tryd.ntmps80
  go_wp2_with fail
  refine HT.out.mono ?_
  rintro e w1 ⟨⟨x, r, hx, hy, rfl, hq⟩ | ⟨hno, rfl⟩, hb⟩
  · have HQ := Lib.hid hq
    have HY := Lib.hid hy
    have HXX := Lib.hid hx
    have HB := Lib.hid hb
    clear hq hy hx hb
    go_wp2_with fail
    go_ret
    exact ⟨.inl ⟨x, r, HXX.out, HY.out, rfl, HQ.out⟩, HB.out⟩
  · exact ⟨rfl, .inr ⟨hno, rfl⟩, hb⟩
set_option maxRecDepth 100000 in
set_option maxHeartbeats 1000000 in
theorem sgn_any (b B : Nat) (a : Option Addr) (n c : Nat) (zs ys : List Nat) (w : World) (h : RdAt w b a n c zs ys) (hr : Row .u8 w B a n c zs) (hz : ∀ x ∈ zs, x < 256) (hB : B ≤ w.heap.size) :
    Calls Tryd.prog 90 #[.pointer (some ⟨b, 0, none⟩)] w fun e w' =>
      ((∃ (x : Nat) (r : List Nat), x < 18446744073709551616 ∧ ys = enc x ++ r ∧ e = .returned (.int .i64 (zag x)) ∧ RdAt w' b a n c zs r) ∨ ((∀ x r, x ≤ 18446744073709551615 → ys ≠ enc x ++ r) ∧ e = pan)) ∧ But b w w' := by
  have HT := Lib.hid (number_any b B a n c zs ys 18446744073709551615 w h hr hz hB (by omega))
  have HG := Lib.hid fun (x : Nat) (V : World) (hx : x ≤ 18446744073709551615) => zag_any x V (by omega) (by omega)
  have HX : Hid (∀ x : Nat, x ≤ 18446744073709551615 → IntKind.i64.wrap (zag x) = zag x) := fun x hx => by
    have := (zig_zag (n := x) (by omega)).2
    simp only [IntKind.wrap_i64]
    omega
  clear h hr hz hB
  go_enter Tryd.func90, Tryd.ntmps90
  go_wp2_with fail
  refine HT.out.mono ?_
  rintro e w1 ⟨⟨x, r, hx, hy, rfl, hq⟩ | ⟨hno, rfl⟩, hb⟩
  · have hxx := HX.out x hx
    have HQ := Lib.hid hq
    have HY := Lib.hid hy
    have HXX := Lib.hid hx
    have HB := Lib.hid hb
    clear hq hy hx hb HX
    go_wp2_with fail
    refine (HG.out x _ HXX.out).mono ?_
    rintro e w2 ⟨rfl, rfl⟩
    go_wp2_with fail
    go_ret
    exact ⟨.inl ⟨x, r, by have := HXX.out; omega, HY.out, rfl, HQ.out⟩, HB.out⟩
  · exact ⟨rfl, .inr ⟨hno, rfl⟩, hb⟩
end Go.Proofs.YtplnaaokapilpaaDoor.Vm

namespace Go.Proofs.YtplnaaokapilpaaDoor.Vm
open Go Go.RowKit

/-- What has been laid in a new block q of the call, between two numbers. -/
structure Laid (w V : World) (b q : Nat) (a : Option Addr) (n c : Nat) (zs ys : List Nat) (cs : Array Value) (ty : TypeId) : Prop where
  but : But b w V
  rd : RdAt V b a n c zs ys
  bx : BoxAt V q cs ty
  new : w.heap.size ≤ q
  old : b < w.heap.size
section
variable {w V V' : World} {b q : Nat} {a : Option Addr} {n c : Nat} {zs ys r : List Nat} {cs : Array Value} {ty : TypeId}
theorem Laid.begin (h : RdAt w b a n c zs ys) (cs : Array Value) (ty : TypeId) : Laid w (w.alloc (.cells cs ty)) b w.heap.size a n c zs ys cs ty :=
  ⟨(But.refl _ _).calls ((Below.refl _ _).alloc (Nat.le_refl _) _), h.calls ((Below.refl _ _).alloc (Nat.le_refl _) _), boxAt_new _ _ _, Nat.le_refl _, h.lt⟩
theorem Laid.step (h : Laid w V b q a n c zs ys cs ty) (hq : RdAt V' b a n c zs r) (hb : But b V V') : Laid w V' b q a n c zs r cs ty :=
  ⟨h.but.trans hb, hq, h.bx.but hb (by have := h.new; have := h.old; omega), h.new, h.old⟩
theorem Laid.store (h : Laid w V b q a n c zs ys cs ty) (k : Nat) (v : Value) : Laid w (V.setCell ⟨q, k, none⟩ v) b q a n c zs ys (cs.set! k v) ty := by
  refine ⟨h.but.setNew h.new v, ?_, h.bx.set k v, h.new, h.old⟩
  obtain ⟨p, h1, h2, h3⟩ := h.rd
  exact ⟨p, h1, h2, (heap_setCell_other V ⟨q, k, none⟩ b v (by have := h.new; have := h.old; show b ≠ q; omega)).trans h3⟩
end



set_option maxRecDepth 100000 in
set_option maxHeartbeats 4000000 in
theorem takeInput_any (b B : Nat) (a : Option Addr) (n c : Nat) (zs ys : List Nat) (w : World) (h : RdAt w b a n c zs ys) (hr : Row .u8 w B a n c zs) (hz : ∀ x ∈ zs, x < 256) (hB : B ≤ b) :
    Calls Tryd.prog 81 #[.pointer (some ⟨b, 0, none⟩)] w fun e w' =>
      ((∃ x r, InpWf x ∧ ys = encInp x ++ r ∧ e = .returned (.agg #[.int .i64 x.k, .int .i64 x.a, .int .i64 x.b, .int .i64 x.c]) ∧ RdAt w' b a n c zs r) ∨ ((∀ x r, InpWf x → ys ≠ encInp x ++ r) ∧ e = pan)) ∧ But b w w' := by
  have hb := h.lt
  have HSG := Lib.hid fun (V : World) (l : List Nat) (hV : But b w V) (hq : RdAt V b a n c zs l) => sgn_any b B a n c zs l V hq (hr.below (hV.below hB (by omega))) hz (by have := hV.size; omega)
  have HL0 := Lib.hid (Laid.begin h #[.int .i64 0, .int .i64 0, .int .i64 0, .int .i64 0] 89)
  have HE : Ate ys [] ys := rfl
  clear h hr hz hB
  go_enter Tryd.func81, Tryd.ntmps81
  go_wp2_with fail
  refine (HSG.out _ _ HL0.out.but HL0.out.rd).mono ?_
  rintro e w1 ⟨⟨x1, r1, hx, hy, rfl, hq⟩ | ⟨hno, rfl⟩, hbt⟩
  rotate_left
  · refine ⟨rfl, .inr ⟨fun y r hok he => ?_, rfl⟩, HL0.out.but.trans hbt⟩
    rw [encInp_L] at he
    refine encs_fail (pre := []) (l := inpN y) (M := 18446744073709551615) ?_ hno (by simp [inpN]) ?_ ?_ (inpN_lt hok) he
    · simp
    · obtain ⟨⟨h1, h2⟩, ⟨h3, h4⟩, ⟨h5, h6⟩, ⟨h7, h8⟩⟩ := hok; have z1 := zig_bd h1 h2; have z2 := zig_bd h3 h4; have z3 := zig_bd h5 h6; have z4 := zig_bd h7 h8; simp [inpN]; omega
    · intro z hz
      simp at hz
  have HX1 := Lib.hid hx
  have HY1 := Lib.hid hy
  have HL1 := Lib.hid (HL0.out.step hq hbt)

  clear hx hy hq hbt
  go_wp2_with fail
  refine (HSG.out _ _ HL1.out.but HL1.out.rd).mono ?_
  rintro e w2 ⟨⟨x2, r2, hx, hy, rfl, hq⟩ | ⟨hno, rfl⟩, hbt⟩
  rotate_left
  · refine ⟨rfl, .inr ⟨fun y r hok he => ?_, rfl⟩, HL1.out.but.trans hbt⟩
    rw [encInp_L] at he
    refine encs_fail (pre := [x1]) (l := inpN y) (M := 18446744073709551615) ?_ hno (by simp [inpN]) ?_ ?_ (inpN_lt hok) he
    · simp [HY1.out]
    · obtain ⟨⟨h1, h2⟩, ⟨h3, h4⟩, ⟨h5, h6⟩, ⟨h7, h8⟩⟩ := hok; have z1 := zig_bd h1 h2; have z2 := zig_bd h3 h4; have z3 := zig_bd h5 h6; have z4 := zig_bd h7 h8; simp [inpN]; omega
    · intro z hz
      have h1 := HX1.out
      simp at hz
      omega
  have HX2 := Lib.hid hx
  have HY2 := Lib.hid hy
  have HL2 := Lib.hid (HL1.out.step hq hbt)

  clear hx hy hq hbt
  go_wp2_with fail
  refine (HSG.out _ _ HL2.out.but HL2.out.rd).mono ?_
  rintro e w3 ⟨⟨x3, r3, hx, hy, rfl, hq⟩ | ⟨hno, rfl⟩, hbt⟩
  rotate_left
  · refine ⟨rfl, .inr ⟨fun y r hok he => ?_, rfl⟩, HL2.out.but.trans hbt⟩
    rw [encInp_L] at he
    refine encs_fail (pre := [x1, x2]) (l := inpN y) (M := 18446744073709551615) ?_ hno (by simp [inpN]) ?_ ?_ (inpN_lt hok) he
    · simp [HY1.out, HY2.out]
    · obtain ⟨⟨h1, h2⟩, ⟨h3, h4⟩, ⟨h5, h6⟩, ⟨h7, h8⟩⟩ := hok; have z1 := zig_bd h1 h2; have z2 := zig_bd h3 h4; have z3 := zig_bd h5 h6; have z4 := zig_bd h7 h8; simp [inpN]; omega
    · intro z hz
      have h1 := HX1.out
      have h2 := HX2.out
      simp at hz
      rcases hz with rfl | rfl <;> omega
  have HX3 := Lib.hid hx
  have HY3 := Lib.hid hy
  have HL3 := Lib.hid (HL2.out.step hq hbt)

  clear hx hy hq hbt
  go_wp2_with fail
  refine (HSG.out _ _ HL3.out.but HL3.out.rd).mono ?_
  rintro e w4 ⟨⟨x4, r4, hx, hy, rfl, hq⟩ | ⟨hno, rfl⟩, hbt⟩
  rotate_left
  · refine ⟨rfl, .inr ⟨fun y r hok he => ?_, rfl⟩, HL3.out.but.trans hbt⟩
    rw [encInp_L] at he
    refine encs_fail (pre := [x1, x2, x3]) (l := inpN y) (M := 18446744073709551615) ?_ hno (by simp [inpN]) ?_ ?_ (inpN_lt hok) he
    · simp [HY1.out, HY2.out, HY3.out]
    · obtain ⟨⟨h1, h2⟩, ⟨h3, h4⟩, ⟨h5, h6⟩, ⟨h7, h8⟩⟩ := hok; have z1 := zig_bd h1 h2; have z2 := zig_bd h3 h4; have z3 := zig_bd h5 h6; have z4 := zig_bd h7 h8; simp [inpN]; omega
    · intro z hz
      have h1 := HX1.out
      have h2 := HX2.out
      have h3 := HX3.out
      simp at hz
      rcases hz with rfl | rfl | rfl <;> omega
  have HX4 := Lib.hid hx
  have HY4 := Lib.hid hy
  have HL4 := Lib.hid (HL3.out.step hq hbt)

  have hc0 := HL4.out.bx.cell (i := 0) rfl
  have hf0 := HL4.out.bx.fz 0
  have hc1 := HL4.out.bx.cell (i := 1) rfl
  have hf1 := HL4.out.bx.fz 1
  have hc2 := HL4.out.bx.cell (i := 2) rfl
  have hf2 := HL4.out.bx.fz 2
  have hc3 := HL4.out.bx.cell (i := 3) rfl
  have hf3 := HL4.out.bx.fz 3
  clear hx hy hq hbt
  go_wp2_with fail
  have HF := Lib.hid ((((HL4.out.store 0 (.int .i64 (zag x1))).store 1 (.int .i64 (zag x2))).store 2 (.int .i64 (zag x3))).store 3 (.int .i64 (zag x4)))
  have q0 := HF.out.bx.cell (i := 0) rfl
  have q1 := HF.out.bx.cell (i := 1) rfl
  have q2 := HF.out.bx.cell (i := 2) rfl
  have q3 := HF.out.bx.cell (i := 3) rfl
  refine bodyPost_ret (v := .agg #[(.int .i64 (zag x1)), (.int .i64 (zag x2)), (.int .i64 (zag x3)), (.int .i64 (zag x4))]) (by simp [results, Tryd.results81, go_sem, hf0, hf1, hf2, hf3, hc0, hc1, hc2, hc3]) rfl ?_
  clear hf0 hf1 hf2 hf3 hc0 hc1 hc2 hc3 q0 q1 q2 q3
  have h1 := HX1.out
  have h2 := HX2.out
  have h3 := HX3.out
  have h4 := HX4.out
  refine ⟨.inl ⟨⟨zag x1, zag x2, zag x3, zag x4⟩, r4, ⟨(zig_zag h1).2, (zig_zag h2).2, (zig_zag h3).2, (zig_zag h4).2⟩, ?_, rfl, HF.out.rd⟩, HF.out.but⟩
  rw [HY1.out, HY2.out, HY3.out, HY4.out, encInp_L]
  simp [inpN, (zig_zag h1).1, (zig_zag h2).1, (zig_zag h3).1, (zig_zag h4).1, List.append_assoc]

end Go.Proofs.YtplnaaokapilpaaDoor.Vm
