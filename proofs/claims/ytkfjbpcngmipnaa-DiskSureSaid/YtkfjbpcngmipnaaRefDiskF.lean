/- The document's disk: Append. -/
import Derived.Test.YtkfjbpcngmipnaaRefDiskE
import Derived.Deep.RegionLaw
namespace Go.Proofs.Ytkfjbpcngmipnaa.Vm
open Go Go.RowKit
set_option maxRecDepth 100000

/-- Bytes appended, as an equation. -/
theorem run_app_row {w : World} {B : Nat} {v : Value} {out : List Nat} (hown : Own w B v out) {ao : Option Addr} {m c B2 : Nat} {l : List Nat} (hr : Row .u8 w B2 ao m c l) (hlen : out.length + m ≤ 140737488355328) (hB : B ≤ w.heap.size) :
    ∃ v' w', (Builtin.append_ #[33, 33] 33 #[v, .slice ao m c]).run Try.prog w = .ok v' w' ∧ Own w' B v' (out ++ l) ∧ w.grownBy w' v.ownBlock := by
  obtain ⟨i0, hi0, hz0, hz1, hz2⟩ := info_parts info_u8
  have hlm : l.length = m := hr.1
  cases ao with
  | none =>
    have hm0 : m = 0 := by
      rcases Nat.eq_zero_or_pos m with h0 | h0
      · exact h0
      · obtain ⟨b, off, e, _⟩ := hr.cells h0; cases e
    subst hm0
    obtain rfl := List.eq_nil_of_length_eq_zero hlm
    exact ⟨v, w, run_append_none (P := Try.prog) (w := w) B 33 33 5 i0 1 Try.underlying33 hi0 v out.length c (u8s out) hown, by simpa using hown, World.grownBy.refl _ _⟩
  | some ad =>
    obtain ⟨v', w', h1, h2, h3, _⟩ := run_append_own (P := Try.prog) w B 33 33 5 i0 (.int .u8 0) 1 1 Try.underlying33 hi0 hz0 hz1 hz2 rfl (by decide) v _ _ hown ad m c (u8s l) (by rw [u8s_len]; omega) (cells_row hr) (u8s_one _) (by simp only [maxLen]; omega) (by omega) hB
    exact ⟨v', w', h1, Own.of_append hlm h2, h3⟩
theorem step_app13 {ops : Array Oper} {o : Oper} {a : Act} {w : World} {K : Act → World → Prop} {Q : Exit → Act → World → Prop} {E : Prop} (hgd : o.guard = none) (s x : Operand) (t : TypeId)
    (ho : o.op = .call { callee := .builtin .append, args := #[s, x], argTypes := #[t, t] }) {vs vx v' : Value} {w' : World} (hs : a.eval s = vs) (hx : a.eval x = vx)
    (hrun : (Builtin.append_ #[t, t] o.type #[vs, vx]).run Try.prog w = .ok v' w') (h : K (a.put o.dst v') w') :
    if Region.wanted o (yielded ops a.tmps) = true then Oper.wp Try.prog o a w K Q else E := by
  have hw : Region.wanted o (yielded ops a.tmps) = true := by simp [Region.wanted, hgd]
  rw [if_pos hw]
  unfold Oper.wp
  simp [execOp, ho, resolve, invoke, builtin, hs, hx, hrun, Result.andThen]
  exact h
theorem ByteIn.wide {w : World} {O O' S : Nat → Prop} {f : FileV} {g : FileS} (h : ByteIn w O S f g) (hO : ∀ k, O k → O' k) : ByteIn w O' S f g :=
  ⟨h.name, h.sure, h.n, h.row, fun b o hn e => ⟨hO b (h.off b o hn e).1, (h.off b o hn e).2⟩⟩
/-- New memory may be the disk's. -/
theorem RefAt.grow {w V : World} {O : Nat → Prop} {bd : Nat} {v : Value} {l : List FileV} {d : DiskS} (h : RefAt w O bd v l d) (hb : Below w.heap.size w V) : RefAt V (fun k => O k ∨ (w.heap.size ≤ k ∧ k < V.heap.size)) bd v l d := by
  have h1 := h.alt (S := fun _ => False) (Alt.ofBelow hb) (fun _ _ h => h)
  exact ⟨h1.box, h1.own, h1.len, fun i hi => (h1.like i hi).wide (fun k hk => .inl hk), .inl h1.obd, fun k hk => ⟨.inl (h1.ov k hk).1, (h1.ov k hk).2⟩, fun k hk => hk.elim (fun h => h1.lt k h) (fun h => h.2)⟩
/-- Bytes in new memory, as a file's. -/
theorem own_byteIn {w V : World} {O : Nat → Prop} {S : Nat → Prop} {a : Option Addr} {m c : Nat} {b : List Nat} {nm : ByteArray} {su : Nat} (h : Own V w.heap.size (.slice a m c) b) (hS : ∀ k, S k → k < w.heap.size) :
    ByteIn V (fun k => O k ∨ (w.heap.size ≤ k ∧ k < V.heap.size)) S ⟨nm, a, m, c, su⟩ ⟨nm, b, su⟩ := by
  have hr := h.row
  have hm : m = b.length := hr.1.symm
  subst hm
  refine ⟨rfl, rfl, rfl, hr, fun k o hn e => ?_⟩
  obtain ⟨g, cap, hv, hg1, hg2, _⟩ := h.form hn
  injection hv with h1 h2 h3
  change a = some ⟨k, o, none⟩ at e
  rw [e] at h1
  injection h1 with h1
  injection h1 with h1 h2
  subst h1
  exact ⟨.inr ⟨hg1, hg2⟩, fun hs => by have := hS k hs; omega⟩

set_option maxHeartbeats 2000000 in
theorem rAppend13_any (bd : Nat) (v : Value) (l : List FileV) (d : DiskS) (O : Nat → Prop) (n : ByteArray) (ao : Option Addr) (mo co B : Nat) (x : List Nat) (w : World) (h : RefAt w O bd v l d) (hd : OkD d) (hF : d.F.length ≤ 900000) (hn : n.size ≤ maxLen) (hx : Row .u8 w B ao mo co x) (hB : B ≤ bd) :
    Calls Try.prog 27 #[.pointer (some ⟨bd, 0, none⟩), .string n, .slice ao mo co] w fun e w' => e = .returned (.int .i64 (appendS d n x).1) ∧ RefPost w O bd (appendS d n x).2 w' := by
  have HBU := Lib.hid (rBurns13_any bd v l d O n n w h hd hn hn)
  have HDE : Hid (appendS d n x = if (burnsS d n n).1 ≠ 0 then burnsS d n n else if leftS (burnsS d n n).2 < (x.length : Nat) then (8, (burnsS d n n).2) else if atS (burnsS d n n).2.F n < (burnsS d n n).2.F.length then (0, { (burnsS d n n).2 with F := (burnsS d n n).2.F.set (atS (burnsS d n n).2.F n) { (burnsS d n n).2.F.getD (atS (burnsS d n n).2.F n) zfile with b := ((burnsS d n n).2.F.getD (atS (burnsS d n n).2.F n) zfile).b ++ x } }) else (0, { (burnsS d n n).2 with F := inS (burnsS d n n).2.F ⟨n, x, 0⟩ })) := rfl
  have HFL : Hid ((burnsS d n n).2.F.length ≤ 900000) := by unfold Hid; rw [(burnsS_F d n n).1]; exact hF
  have HOK : Hid (OkD (burnsS d n n).2) := hd.burnsS n n
  have HBD := Lib.hid (h.lt bd h.obd)
  have HX : Hid (∀ V, Alt (fun k => k = bd) w V → Row .u8 V V.heap.size ao mo co x) := fun V hV => by
    have hb : Below bd w V := hV.below (fun k hk => by omega) (by have := h.lt bd h.obd; omega)
    exact ((hx.mono hB).below hb).mono (by have := h.lt bd h.obd; have := hV.size; omega)
  have HXL : Hid (x.length = mo) := hx.1
  have hmc := hx.2.1
  have hcm := hx.2.2.1
  unfold maxLen at hcm
  clear h hF hn hd hx hB
  generalize burnsS d n n = bs at *
  generalize appendS d n x = ds at *
  obtain ⟨code, d1⟩ := bs
  go_enter Try.func27, Try.ntmps27
  go_wp2_with fail
  refine HBU.out.mono ?_
  rintro e w1 ⟨rfl, hr1, hA1⟩
  have HR1 := Lib.hid hr1
  have HA1 := Lib.hid hA1
  have HAT := Lib.hid (rAt13_any bd v l d1 O n w1 hr1 (Nat.le_trans HFL.out (by omega)))
  have HLE := Lib.hid (rLeft13_any bd v l d1 O w1 hr1 (Nat.le_trans HFL.out (by omega)) HOK.out)
  clear hr1 hA1
  by_cases hc : code = 0
  · have d0 : (code != 0) = false := by simpa using hc
    have HDE' : Hid (ds = if leftS d1 < (x.length : Nat) then (8, d1) else if atS d1.F n < d1.F.length then (0, { d1 with F := d1.F.set (atS d1.F n) { d1.F.getD (atS d1.F n) zfile with b := (d1.F.getD (atS d1.F n) zfile).b ++ x } }) else (0, { d1 with F := inS d1.F ⟨n, x, 0⟩ })) := by
      have := HDE.out
      rwa [if_neg (by simpa using hc)] at this
    clear hc HDE
    go_wp2_with fail
    refine HLE.out.mono ?_
    rintro e w2 ⟨rfl, rfl⟩
    by_cases hl : leftS d1 < (mo : Int)
    · have HD : Hid (ds = (8, d1)) := by have := HDE'.out; rwa [HXL.out, if_pos hl] at this
      have d2 : decide (leftS d1 < (mo : Int)) = true := by rw [decide_eq_true_eq]; exact hl
      generalize leftS d1 = ls at *
      clear hl HDE'
      go_wp2_with fail
      go_ret
      rw [HD.out]
      exact ⟨rfl, RefPost.of HR1.out HA1.out⟩
    · have HFI := Lib.hid (leftS_fits HOK.out hl)
      have HDE2 : Hid (ds = if atS d1.F n < d1.F.length then (0, { d1 with F := d1.F.set (atS d1.F n) { d1.F.getD (atS d1.F n) zfile with b := (d1.F.getD (atS d1.F n) zfile).b ++ x } }) else (0, { d1 with F := inS d1.F ⟨n, x, 0⟩ })) := by have := HDE'.out; rwa [HXL.out, if_neg hl] at this
      have d2 : decide (leftS d1 < (mo : Int)) = false := by rw [decide_eq_false_iff_not]; exact hl
      generalize leftS d1 = ls at *
      clear hl HDE'
      go_wp2_with fail
      refine HAT.out.mono ?_
      rintro e w2' ⟨rfl, rfl⟩
      by_cases hi : atS d1.F n < d1.F.length
      · have HD : Hid (ds = (0, { d1 with F := d1.F.set (atS d1.F n) { d1.F.getD (atS d1.F n) zfile with b := (d1.F.getD (atS d1.F n) zfile).b ++ x } })) := by have := HDE2.out; rwa [if_pos hi] at this
        have hnn : decide (atI d1.F n < 0) = false := by rw [decide_eq_false_iff_not, atI_nat hi]; omega
        have HAI := Lib.hid (atI_nat hi)
        obtain ⟨q0, _, _, _⟩ := HR1.out.cells
        obtain ⟨a, c, rfl⟩ := HR1.out.form
        obtain ⟨hnl, hnc, hcm2, hcl⟩ := HR1.out.own.at
        clear hnl
        unfold maxLen at hcm2
        obtain ⟨lb, rfl, _, hlb, hcs, hfz⟩ := hcl (by omega)
        obtain ⟨_, c1, _⟩ := hcs _ hi
        have f1 := hfz (atS d1.F n * 3 + 1)
        have hLK := HR1.out.like (atS d1.F n) (by rw [HR1.out.len]; exact hi)
        have hbl := Nat.le_trans (b_le hi) HOK.out.all
        have HLK := Lib.hid hLK
        have HBL := Lib.hid hbl
        have HHI := Lib.hid hi
        have hixi : ((atS d1.F n : Nat) : Int) < (d1.F.length : Int) := by omega
        have HKC : Hid (∀ V, Below w2'.heap.size w2' V → V.cell? ⟨bd, 0, none⟩ = some (.slice (some ⟨lb, 0, none⟩) d1.F.length c) ∧ V.cell? ⟨lb, atS d1.F n * 3 + 1, none⟩ = some (.slice (l.getD (atS d1.F n) zfv).a (l.getD (atS d1.F n) zfv).n (l.getD (atS d1.F n) zfv).c) ∧ V.frozen? ⟨lb, atS d1.F n * 3 + 1, none⟩ = false) := fun V hV =>
          ⟨(Below.cell (p := ⟨bd, 0, none⟩) hV (HR1.out.lt bd HR1.out.obd)).trans q0, (Below.cell (p := ⟨lb, atS d1.F n * 3 + 1, none⟩) hV hlb).trans c1, (Below.frozen (p := ⟨lb, atS d1.F n * 3 + 1, none⟩) hV hlb).trans f1⟩
        have HXR : Hid (∀ V, Below w2'.heap.size w2' V → Row .u8 V w2'.heap.size ao mo co x) := fun V hV => (HX.out _ HA1.out).below hV
        have HLR : Hid (∀ V, Below w2'.heap.size w2' V → Row .u8 V w2'.heap.size (l.getD (atS d1.F n) zfv).a (l.getD (atS d1.F n) zfv).n (l.getD (atS d1.F n) zfv).c (d1.F.getD (atS d1.F n) zfile).b) := fun V hV => hLK.row.below hV
        have HMN : Hid ((l.getD (atS d1.F n) zfv).n = (d1.F.getD (atS d1.F n) zfile).b.length) := hLK.n
        rw [HAI.out] at hnn ⊢
        clear HDE2 hcl hcs hfz hLK HAI hbl hi
        generalize hix : atS d1.F n = ix at *
        generalize hf : d1.F.getD ix zfile = f at *
        generalize hg : l.getD ix zfv = g at *
        have HIX := Lib.hid hix
        have HFE := Lib.hid hf
        have HGE := Lib.hid hg
        clear hix hf hg
        generalize hN : d1.F.length = N at *
        have HN := Lib.hid hN
        clear hN
        have hba0 : Below w2'.heap.size w2' (w2'.alloc (.cells #[] 5)) := (Below.refl _ _).alloc (Nat.le_refl _) _
        have hba : Below w2'.heap.size w2' (w2'.alloc (.cells #[] 5)).drew := ⟨hba0.os, hba0.tape, hba0.output, hba0.size, hba0.block⟩
        obtain ⟨k1, k2, k3⟩ := HKC.out _ hba0
        obtain ⟨v6, w6, hrun6, ho6, hg6⟩ := run_app_row (w := (w2'.alloc (.cells #[] 5)).drew) (own_upto (own_none w2') (⟨rfl, rfl, rfl, Nat.le_refl _, fun _ _ => rfl⟩ : Below (w2'.alloc (.cells #[] 5)).heap.size (w2'.alloc (.cells #[] 5)) (w2'.alloc (.cells #[] 5)).drew) (fun k hk => by have e : w2'.heap.size = k := (by injection hk); rw [World.size_alloc]; omega)) (HLR.out _ hba) (by have h1 := HBL.out; have h2 := HMN.out; simp only [List.length_nil]; omega) (by simp)
        have hg6' : (w2'.alloc (.cells #[] 5)).drew.grownBy w6 (some w2'.heap.size) := hg6
        have hb6 : Below w2'.heap.size w2' w6 := hba.grown hg6' (by simp) (fun k hk => by injection hk with hk; omega)
        have hz6 : w2'.heap.size ≤ w6.heap.size := hb6.size
        rw [List.nil_append] at ho6
        have ho6' : Own w6 w2'.heap.size v6 f.b := ho6
        obtain ⟨m1, m2, m3⟩ := HKC.out _ hb6
        obtain ⟨v8, w8, hrun8, ho8, hg8⟩ := run_app_row ho6' (HXR.out _ hb6) (by have h1 := HBL.out; have h2 := HFI.out; omega) hz6
        have hb8 : Below w2'.heap.size w2' w8 := hb6.grown hg8 hz6 (fun k hk => (World.ownsRow.lt ho6' k hk).1)
        obtain ⟨n1, n2, n3⟩ := HKC.out _ hb8
        obtain ⟨a8, c8, rfl, hr8⟩ := ho8.slice
        have HO8 := Lib.hid ho8
        have HB8 := Lib.hid hb8
        clear hba hba0 hg6 hg6' hb6 hz6 ho6 ho6' hg8 hb8 ho8 hr8
        have HP : Hid (RefPost w O bd { d1 with F := d1.F.set ix { f with b := f.b ++ x } } (w8.setCell ⟨lb, ix * 3 + 1, none⟩ (.slice a8 (f.b ++ x).length c8))) := by
          have hbI := own_byteIn (O := O) (S := Mine13 bd (.slice (some ⟨lb, 0, none⟩) N c)) (nm := f.name) (su := f.sure) HO8.out (fun k hk => by
            rcases hk with hk | hk
            · rw [hk]; exact HR1.out.lt bd HR1.out.obd
            · injection hk with hk; rw [← hk]; exact hlb)
          have hput := HR1.out.putAt (V := w8) HB8.out (i := ix) (by rw [HN.out]; exact HHI.out) (j := 1) (by omega) ⟨⟨#[]⟩, a8, (f.b ++ x).length, c8, 0⟩ { f with b := f.b ++ x } (fun k => O k ∨ (w2'.heap.size ≤ k ∧ k < w8.heap.size)) (fun k => Iff.rfl) (by
            rw [HGE.out]
            exact ⟨HLK.out.name, HLK.out.sure, hbI.n, hbI.row, hbI.off⟩)
          refine ⟨_, ⟨_, _, hput.1⟩, (HA1.out.mono (fun k hk _ => by rw [hk]; exact HR1.out.obd)).trans hput.2 (fun k hk _ => hk), fun k hk => hk.imp id (fun h => Nat.le_trans HA1.out.size h.1)⟩
        rw [List.length_append] at HP
        go_wp2_with fail
        go_region_law (first | (refine step_app13 rfl _ _ _ rfl rfl rfl hrun6 ?_) | (refine step_app13 rfl _ _ _ rfl rfl rfl hrun8 ?_))
        all_goals
          go_wp2_with fail
          go_ret
          rw [HD.out]
          first
            | exact ⟨rfl, HP.out⟩
            | exact ⟨rfl, HP.out.drew⟩
      · have HD : Hid (ds = (0, { d1 with F := inS d1.F ⟨n, x, 0⟩ })) := by have := HDE2.out; rwa [if_neg hi] at this
        have hnn : decide (atI d1.F n < 0) = true := by rw [decide_eq_true_eq, atI_none hi]; omega
        have HROW := Lib.hid ((HX.out _ HA1.out).below ((Below.refl _ _).alloc (Nat.le_refl _) (.cells #[] 5)))
        generalize atI d1.F n = z at *
        clear hi HDE2
        go_wp2_with (at_builtin; (refine wpList_append_row rfl (.tmp 28) (.tmp 29) rfl rfl (own_none w2') rfl HROW.out (by have h1 := HFI.out; simp only [List.length_nil]; omega) (by simp) ?_; intro v6 w6 ho6 hg6 _; obtain ⟨a6, c6, rfl, hr6⟩ := ho6.slice; have hg6' : (w2'.alloc (.cells #[] 5)).grownBy w6 (some w2'.heap.size) := hg6; have HB6 : Hid (Below w2'.heap.size w2' w6) := ((Below.refl _ _).alloc (Nat.le_refl _) _).grown hg6' (by simp) (fun k hk => (by injection hk with hk; omega)); have HO6 := Lib.hid ho6; clear hr6 hg6' hg6 ho6))
        have HR6 := Lib.hid (HR1.out.grow HB6.out)
        have HFV : Hid (ByteIn w6 (fun k => O k ∨ (w2'.heap.size ≤ k ∧ k < w6.heap.size)) (fun k => k = bd) ⟨n, a6, x.length, c6, (0 : Nat)⟩ ⟨n, x, 0⟩) := own_byteIn (by have := HO6.out; simpa using this) (fun k hk => by rw [hk]; exact HR1.out.lt bd HR1.out.obd)
        have HIN := Lib.hid (rIn13_any bd v l d1 _ _ _ w6 HR6.out (Nat.le_trans HFL.out (by omega)) HFV.out)
        refine HIN.out.mono ?_
        rintro e w7 ⟨rfl, hp7⟩
        have HP7 := Lib.hid hp7
        clear hp7
        go_wp2_with fail
        go_ret
        rw [HD.out]
        refine ⟨rfl, ?_⟩
        have h1 := HP7.out.post HR6.out.obd
        have hAA : Alt O w w6 := (HA1.out.mono (fun k hk _ => by rw [hk]; exact HR1.out.obd)).calls (HB6.out.mono HA1.out.size)
        exact h1.behind hAA (fun k hk => hk.imp id (fun h => Nat.le_trans HA1.out.size h.1))
  · have d0 : (code != 0) = true := by simpa using hc
    have HD : Hid (ds = (code, d1)) := by
      have := HDE.out
      rwa [if_pos (by simpa using hc)] at this
    clear hc HDE
    go_wp2_with fail
    go_ret
    rw [HD.out]
    exact ⟨rfl, RefPost.of HR1.out HA1.out⟩
end Go.Proofs.Ytkfjbpcngmipnaa.Vm
