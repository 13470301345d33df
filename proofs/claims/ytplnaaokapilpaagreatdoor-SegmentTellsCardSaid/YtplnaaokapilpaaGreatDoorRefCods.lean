/- The contracts of the document's small functions for encodings: in, put, sign, take, small. -/
import Derived.Test.YtplnaaokapilpaaGreatDoorCodMath
import Derived.Test.YtplnaaokapilpaaGreatDoorRefPuts
import Derived.Test.YtplnaaokapilpaaGreatDoorRefTakes
import Derived.Test.YtplnaaokapilpaaGreatDoorZigs
import Derived.Test.YtplnaaokapilpaaGreatDoorAppends
import Derived.Test.YtplnaaokapilpaaGreatDoorAppendZ
import Derived.Deep.RegionHeld3
set_option linter.unusedVariables false
set_option linter.unusedSimpArgs false
namespace Go.Proofs.YtplnaaokapilpaaGreatDoor.Vm
open Go Go.RowKit

set_option maxRecDepth 100000 in
theorem rin_any (n : Int) (w : World) : Calls Tryz.prog 64 #[.int .i64 n] w fun e w' => e = .returned (.bool (decide (InR n))) ∧ w = w' := by
  by_cases h1 : 0 ≤ n
  · by_cases h2 : n ≤ 2147483647
    · have e : decide (InR n) = true := by simp [InR, h1, h2]
      rw [e]
      clear e
      go_enter Tryz.func64, Tryz.ntmps64
      go_wp2_with fail
      go_ret
      simp [h2]
    · have e : decide (InR n) = false := by simp [InR]; omega
      rw [e]
      clear e
      go_enter Tryz.func64, Tryz.ntmps64
      go_wp2_with fail
      go_ret
      simp [h2]
  · have e : decide (InR n) = false := by simp [InR]; omega
    rw [e]
    clear e
    go_enter Tryz.func64, Tryz.ntmps64
    go_wp2_with fail
    go_ret
    simp [h1]

set_option maxRecDepth 100000 in
theorem rputn_any (x : Int) (w : World) (h0 : 0 ≤ x) (h1 : x ≤ 9223372036854775807) :
    Calls Tryz.prog 65 #[.int .i64 x] w fun e w' => ∃ v, e = .returned v ∧ Own w' w.heap.size v (encI x) ∧ Below w.heap.size w w' := by
  obtain ⟨n, rfl⟩ := Int.eq_ofNat_of_zero_le h0
  unfold encI
  rw [Int.toNat_natCast]
  have HP := Lib.hid (rput_one n w (by omega))
  have hx : IntKind.u64.wrap (n : Int) = (n : Int) := by
    simp only [IntKind.wrap_u64]
    omega
  go_enter Tryz.func65, Tryz.ntmps65
  go_wp2_with fail
  refine HP.out.mono ?_
  rintro e w1 ⟨v, rfl, h1, h2⟩
  go_wp2_with fail
  go_ret
  exact ⟨v, rfl, h1, h2⟩

set_option maxRecDepth 100000 in
theorem rsign_any (x : Int) (w : World) (hx : I64 x) :
    Calls Tryz.prog 66 #[.int .i64 x] w fun e w' => ∃ v, e = .returned v ∧ Own w' w.heap.size v (encZ x) ∧ Below w.heap.size w w' := by
  have hz := zig_bd hx.1 hx.2
  have HZ := Lib.hid (rzig_any x w hx.1 hx.2)
  have HP := Lib.hid (rput_one (zig x).toNat w (by omega))
  rw [Int.toNat_of_nonneg hz.1] at HP
  unfold encZ
  go_enter Tryz.func66, Tryz.ntmps66
  go_wp2_with fail
  refine HZ.out.mono ?_
  rintro e w1 ⟨rfl, rfl⟩
  go_wp2_with fail
  refine HP.out.mono ?_
  rintro e w1 ⟨v, rfl, h1, h2⟩
  go_wp2_with fail
  go_ret
  exact ⟨v, rfl, h1, h2⟩

theorem Own.calls {w w' : World} {B : Nat} {v : Value} {l : List Nat} (h : Own w B v l) (hb : Below w.heap.size w w') : Own w' B v l := own_upto h hb (fun k hk => (World.ownsRow.lt h k hk).2)
theorem kept_tr {A w w' : World} (h : Kept A w) (h' : Kept w w') : Kept A w' := Below.trans h (Below.mono h' h.size)
/-- The same, where what lay at A is held. -/
theorem rputk (A : World) (x : Int) (h0 : 0 ≤ x) (h1 : x ≤ 9223372036854775807) : ∀ V, Kept A V →
    Calls Tryz.prog 65 #[.int .i64 x] V fun e w' => ∃ a c, e = .returned (.slice a (encI x).length c) ∧ Own w' A.heap.size (.slice a (encI x).length c) (encI x) ∧ Kept A w' := fun V hV =>
  (rputn_any x V h0 h1).mono fun e w' ⟨v, he, ho, hb⟩ => by
    obtain ⟨a, c, rfl, _⟩ := ho.slice
    exact ⟨a, c, he, ho.mono hV.size, Below.trans hV (hb.mono hV.size)⟩
theorem rsignk (A : World) (x : Int) (hx : I64 x) : ∀ V, Kept A V →
    Calls Tryz.prog 66 #[.int .i64 x] V fun e w' => ∃ a c, e = .returned (.slice a (encZ x).length c) ∧ Own w' A.heap.size (.slice a (encZ x).length c) (encZ x) ∧ Kept A w' := fun V hV =>
  (rsign_any x V hx).mono fun e w' ⟨v, he, ho, hb⟩ => by
    obtain ⟨a, c, rfl, _⟩ := ho.slice
    exact ⟨a, c, he, ho.mono hV.size, Below.trans hV (hb.mono hV.size)⟩

/-- A block of these cells. -/
def BoxAt (w : World) (b : Nat) (cs : Array Value) (t : TypeId) : Prop := w.heap[b]? = some (.cells cs t (0, 0))
section
variable {w w' : World} {b : Nat} {cs : Array Value} {t : TypeId}
theorem boxAt_new (w : World) (cs : Array Value) (t : TypeId) : BoxAt (w.alloc (.cells cs t)) w.heap.size cs t := heap_alloc_new w _
theorem BoxAt.lt (h : BoxAt w b cs t) : b < w.heap.size := (Array.getElem?_eq_some_iff.1 h).1
theorem BoxAt.cell (h : BoxAt w b cs t) {i : Nat} {v : Value} (hv : cs[i]? = some v) : w.cell? ⟨b, i, none⟩ = some v := (cell_of_row w b i cs t (0, 0) h).trans hv
theorem BoxAt.calls (h : BoxAt w b cs t) (hb : Below w.heap.size w w') : BoxAt w' b cs t := (hb.block b h.lt).trans h
theorem BoxAt.grown {B : Nat} {v : Value} {l : List Nat} (h : BoxAt w b cs t) (ho : Own w B v l) (hg : w.grownBy w' v.ownBlock) (hne : 5 ≠ t) : BoxAt w' b cs t :=
  (hg.block b h.lt (fun e => own_apart ho h hne e.symm)).trans h
end
/-- What an append of bytes leaves. -/
theorem run_append_b {w : World} (ty : TypeId) {B : Nat} {v : Value} {out : List Nat} (hown : Own w B v out) {ao : Option Addr} {m c B2 : Nat} {l : List Nat} (hr : Row .u8 w B2 ao m c l) (hlen : out.length + m ≤ 100000000) (hB : B ≤ w.heap.size) :
    ∃ v' w', (Builtin.append_ #[22, 22] ty #[v, .slice ao m c]).run Tryz.prog w = .ok v' w' ∧ Own w' B v' (out ++ l) ∧ w.grownBy w' v.ownBlock := by
  obtain ⟨i0, hi0, hz0, hz1, hz2⟩ := info_parts info_u8
  have hlm : l.length = m := hr.1
  cases ao with
  | none =>
    have hm0 : m = 0 := by
      rcases Nat.eq_zero_or_pos m with h0 | h0
      · exact h0
      · obtain ⟨b, off, e, _⟩ := hr.cells h0; cases e
    subst hm0
    obtain rfl := List.eq_nil_of_length_eq_zero hlm
    exact ⟨v, w, run_append_none B 22 ty 5 i0 1 Tryz.underlying22 hi0 v out.length c (u8s out) hown, by rw [List.append_nil]; exact hown, World.grownBy.refl _ _⟩
  | some ad =>
    obtain ⟨v', w', hrun, hown', hg, _⟩ := run_append_own (P := Tryz.prog) w B 22 ty 5 i0 (.int .u8 0) 1 1 Tryz.underlying22 hi0 hz0 hz1 hz2 rfl (by decide) v out.length (u8s out) hown ad m c (u8s l) (by rw [u8s_len]; omega) (cells_row hr)
      (u8s_one _) (by unfold maxLen; omega) (by omega) hB
    exact ⟨v', w', hrun, Own.of_append hlm hown', hg⟩
/-- An append of bytes as one step of a region that draws its order; what lay at A is held. -/
theorem step_append_b {ops : Array Oper} {o : Oper} {a : Act} {w A : World} {K : Act → World → Prop} {Q : Exit → Act → World → Prop} {E : Prop} (hgd : o.guard = none) (s x : Operand)
    (ho : o.op = .call { callee := .builtin .append, args := #[s, x], argTypes := #[22, 22] })
    {B : Nat} {v : Value} {out : List Nat} (hs : a.eval s = v) {ao : Option Addr} {m c B2 : Nat} {l : List Nat} (hx : a.eval x = .slice ao m c) (hown : Own w B v out) (hr : Own w B2 (.slice ao m c) l)
    (hlen : out.length + l.length ≤ 100000000) (hB : B ≤ A.heap.size) (hk : Below B A w) (h : ∀ v' w', Own w' B v' (out ++ l) → w.grownBy w' v.ownBlock → Below B A w' → K (a.put o.dst v') w') :
    if Region.wanted o (yielded ops a.tmps) = true then Oper.wp Tryz.prog o a w K Q else E := by
  have hw : Region.wanted o (yielded ops a.tmps) = true := by simp [Region.wanted, hgd]
  rw [if_pos hw]
  have hrow := hr.row
  have hlm := hrow.1
  obtain ⟨v', w', hrun, h1, h2⟩ := run_append_b o.type hown hrow (by omega) (Nat.le_trans hB hk.size)
  unfold Oper.wp
  simp [execOp, ho, resolve, invoke, builtin, hs, hx, hrun, Result.andThen]
  exact h v' w' h1 h2 (hk.grown h2 (Nat.le_trans hB hk.size) (fun k hk2 => (World.ownsRow.lt hown k hk2).1))

/-- What reads, in a block. -/
def TkAt (w : World) (b : Nat) (a : Option Addr) (n c : Nat) (t : Tk) : Prop := BoxAt w b #[.slice a n c, .int .i64 (t.p : Nat), .bool t.o] 96
section
variable {w w' : World} {b : Nat} {a : Option Addr} {n c : Nat} {t : Tk}
theorem TkAt.c0 (h : TkAt w b a n c t) : w.cell? ⟨b, 0, none⟩ = some (.slice a n c) := BoxAt.cell h (i := 0) rfl
theorem TkAt.c1 (h : TkAt w b a n c t) : w.cell? ⟨b, 1, none⟩ = some (.int .i64 (t.p : Nat)) := BoxAt.cell h (i := 1) rfl
theorem TkAt.c2 (h : TkAt w b a n c t) : w.cell? ⟨b, 2, none⟩ = some (.bool t.o) := BoxAt.cell h (i := 2) rfl
theorem BoxAt.fz {cs : Array Value} {ty : TypeId} (h : BoxAt w b cs ty) (i : Nat) : w.frozen? ⟨b, i, none⟩ = false := frozen_of_row w b i cs ty h
theorem BoxAt.set {cs : Array Value} {ty : TypeId} (h : BoxAt w b cs ty) (i : Nat) (u : Value) : BoxAt (w.setCell ⟨b, i, none⟩ u) b (cs.set! i u) ty := heap_setCell_same w b i cs _ u h
theorem BoxAt.drew {cs : Array Value} {ty : TypeId} (h : BoxAt w b cs ty) : BoxAt w.drew b cs ty := h
theorem BoxAt.but {cs : Array Value} {ty : TypeId} {lb : Nat} (h : BoxAt w b cs ty) (hb : But lb w w') (hne : b ≠ lb) : BoxAt w' b cs ty := (hb.block b h.lt (fun e => hne (by injection e))).trans h
theorem TkAt.setp (h : TkAt w b a n c t) (q : Nat) : TkAt (w.setCell ⟨b, 1, none⟩ (.int .i64 (q : Nat))) b a n c ⟨q, t.o⟩ := BoxAt.set h 1 _
theorem TkAt.seto (h : TkAt w b a n c t) (o : Bool) : TkAt (w.setCell ⟨b, 2, none⟩ (.bool o)) b a n c ⟨t.p, o⟩ := BoxAt.set h 2 _
end

set_option maxRecDepth 100000 in
set_option maxHeartbeats 1000000 in
theorem rtk_any (b B : Nat) (a : Option Addr) (n c : Nat) (zs : List Nat) (t : Tk) (w : World) (h : TkAt w b a n c t) (hr : Row .u8 w B a n c zs) (hz : ∀ x ∈ zs, x < 256) (hB : B ≤ w.heap.size) :
    Calls Tryz.prog 50 #[.pointer (some ⟨b, 0, none⟩)] w fun e w' => e = .returned (.int .u64 ((tk zs t).1 : Nat)) ∧ TkAt w' b a n c (tk zs t).2 ∧ But b w w' := by
  have hb := BoxAt.lt h
  have HH := Lib.hid h
  have h0 := h.c0
  have h1 := h.c1
  have h2 := h.c2
  have f1 := BoxAt.fz h 1
  have f2 := BoxAt.fz h 2
  clear h
  obtain ⟨p, o⟩ := t
  simp only [] at h1 h2
  have HT := Lib.hid fun (V : World) (hV : Below B w V) => rtake_any a n c B zs p V (hr.below hV) hz
  cases o
  · have HE : Hid (∀ e, (takeS zs p).2.2 = e → tk zs ⟨p, false⟩ = if e = 0 then ((takeS zs p).1, ⟨(takeS zs p).2.1, false⟩) else (0, ⟨p, true⟩)) := fun e he => by
      unfold tk
      rw [if_neg (by simp), he]
    obtain ⟨⟨x, q, er⟩, hD⟩ : ∃ D, takeS zs p = D := ⟨_, rfl⟩
    simp only [hD] at HT HE
    have k0 : Kept w w := Kept.refl _
    have HKS : Hid (∀ V, Kept w V → Kept w V ∧ V.cell? ⟨b, 0, none⟩ = some (.slice a n c) ∧ V.cell? ⟨b, 1, none⟩ = some (.int .i64 (p : Nat))) := fun V hV => ⟨hV, (Below.cell hV (p := ⟨b, 0, none⟩) hb).trans h0, (Below.cell hV (p := ⟨b, 1, none⟩) hb).trans h1⟩
    clear hr hz hD
    by_cases he : er = 0
    · subst he
      have HR := HE.out 0 rfl
      rw [if_pos rfl] at HR
      rw [HR]
      clear HR
      go_enter Tryz.func50, Tryz.ntmps50
      go_wp2_with fail
      go_region_held3 (fun V => Kept w V ∧ V.cell? ⟨b, 0, none⟩ = some (.slice a n c) ∧ V.cell? ⟨b, 1, none⟩ = some (.int .i64 (p : Nat)))
        (first | exact HKS.out _ (by assumption) | exact HKS.out _ (Kept.drew (by assumption)))
        (first | (go_at_call 24; refine (HT.out _ ?_).mono ?_; (first | exact Below.mono k0 hB | exact Below.mono (Kept.drew k0) hB); rintro e w1 ⟨rfl, rfl⟩))
      go_wp2_with fail
      go_ret
      exact ⟨rfl, (HH.out.setp q), (by first | exact ((But.refl _ _).set _).drew | exact ((But.refl _ _).drew).set _)⟩
    · have HR := HE.out er rfl
      rw [if_neg he] at HR
      rw [HR]
      have he' : ((er : Int) == 0) = false := by simp; omega
      clear HR
      go_enter Tryz.func50, Tryz.ntmps50
      go_wp2_with fail
      go_region_held3 (fun V => Kept w V ∧ V.cell? ⟨b, 0, none⟩ = some (.slice a n c) ∧ V.cell? ⟨b, 1, none⟩ = some (.int .i64 (p : Nat)))
        (first | exact HKS.out _ (by assumption) | exact HKS.out _ (Kept.drew (by assumption)))
        (first | (go_at_call 24; refine (HT.out _ ?_).mono ?_; (first | exact Below.mono k0 hB | exact Below.mono (Kept.drew k0) hB); rintro e w1 ⟨rfl, rfl⟩))
      go_wp2_with fail
      go_ret
      exact ⟨rfl, (HH.out.seto true), (by first | exact ((But.refl _ _).set _).drew | exact ((But.refl _ _).drew).set _)⟩
  · have HR : tk zs ⟨p, true⟩ = (0, ⟨p, true⟩) := by unfold tk; rw [if_pos rfl]
    rw [HR]
    clear hr hz HR HT
    go_enter Tryz.func50, Tryz.ntmps50
    go_wp2_with fail
    go_ret
    exact ⟨rfl, HH.out, But.refl _ _⟩

set_option maxRecDepth 100000 in
set_option maxHeartbeats 1000000 in
theorem rsm_any (b B : Nat) (a : Option Addr) (n c : Nat) (zs : List Nat) (t : Tk) (w : World) (h : TkAt w b a n c t) (hr : Row .u8 w B a n c zs) (hz : ∀ x ∈ zs, x < 256) (hB : B ≤ w.heap.size) :
    Calls Tryz.prog 48 #[.pointer (some ⟨b, 0, none⟩)] w fun e w' => e = .returned (.int .i64 ((sm zs t).1 : Nat)) ∧ TkAt w' b a n c (sm zs t).2 ∧ But b w w' := by
  have HT := Lib.hid (rtk_any b B a n c zs t w h hr hz hB)
  unfold sm
  generalize tk zs t = D at HT
  obtain ⟨x, p, o⟩ := D
  clear h hr hz
  by_cases hx : 2147483648 < x
  · rw [if_pos (by simpa using hx)]
    have hx' : (2147483648 : Int) < (x : Int) := by omega
    go_enter Tryz.func48, Tryz.ntmps48
    go_wp2_with fail
    refine HT.out.mono ?_
    rintro e w1 ⟨rfl, h, hbt⟩
    have HH := Lib.hid h
    have h2 := h.c2
    have f2 := BoxAt.fz h 2
    have HB := Lib.hid hbt
    clear h hbt
    go_wp2_with fail
    go_ret
    exact ⟨rfl, HH.out.seto true, HB.out.set _⟩
  · rw [if_neg (by simpa using hx)]
    have hx' : ¬ (2147483648 : Int) < (x : Int) := by omega
    have hxx : IntKind.i64.wrap (x : Int) = (x : Int) := by simp only [IntKind.wrap_i64]; omega
    go_enter Tryz.func48, Tryz.ntmps48
    go_wp2_with fail
    refine HT.out.mono ?_
    rintro e w1 ⟨rfl, ht, hbt⟩
    have HA := Lib.hid ht
    have HB := Lib.hid hbt
    clear ht hbt
    go_wp2_with fail
    go_ret
    exact ⟨rfl, HA.out, HB.out⟩
end Go.Proofs.YtplnaaokapilpaaGreatDoor.Vm
