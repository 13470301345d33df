/- The program's disk: Append. -/
import Derived.Test.YtkfjbpcngmipnaaDkRename
import Derived.Maps.AppendAt
namespace Go.Proofs.Ytkfjbpcngmipnaa.Vm
open Go Go.RowKit Go.Maps
set_option maxRecDepth 100000

/-- Bytes appended, as an equation: what is owned, and where it lies. -/
theorem run_app_at {w : World} {B : Nat} {v : Value} {out : List Nat} (hown : Own w B v out) {ao : Option Addr} {m c B2 : Nat} {l : List Nat} (hr : Row .u8 w B2 ao m c l) (hlen : out.length + m ≤ 140737488355328) (hB : B ≤ w.heap.size) :
    ∃ v' w', (Builtin.append_ #[33, 33] 33 #[v, .slice ao m c]).run Try.prog w = .ok v' w' ∧ Own w' B v' (out ++ l) ∧ w.grownBy w' v.ownBlock ∧ (v'.ownBlock = v.ownBlock ∨ v'.ownBlock = some w.heap.size) := by
  obtain ⟨i0, hi0, hz0, hz1, hz2⟩ := info_parts info_u8
  have hlm : l.length = m := hr.1
  cases ao with
  | none =>
    have hm0 : m = 0 := by
      rcases Nat.eq_zero_or_pos m with h0 | h0
      · exact h0
      · obtain ⟨b, off, e, _⟩ := hr.cells h0; cases e
    subst hm0
    obtain rfl := List.eq_nil_of_length_eq_zero hlm
    exact ⟨v, w, run_append_none (P := Try.prog) (w := w) B 33 33 5 i0 1 Try.underlying33 hi0 v out.length c (u8s out) hown, by simpa using hown, World.grownBy.refl _ _, .inl rfl⟩
  | some ad =>
    obtain ⟨v', w', h1, h2, h3, _, h5⟩ := run_append_own_at (P := Try.prog) w B 33 33 5 i0 (.int .u8 0) 1 1 Try.underlying33 hi0 hz0 hz1 hz2 rfl (by decide) v _ _ hown ad m c (u8s l) (by rw [u8s_len]; omega) (cells_row hr) (u8s_one _) (by simp only [maxLen]; omega) (by omega) hB
    exact ⟨v', w', h1, Own.of_append hlm h2, h3, h5⟩
theorem wpList_append_eq {ops : Array Oper} {rest : List Oper} {o : Oper} {a : Act} {Q : Exit → Act → World → Prop} {w w' : World} (hgd : o.guard = none) (s x : Operand) (t : TypeId)
    (ho : o.op = .call { callee := .builtin .append, args := #[s, x], argTypes := #[t, t] }) {vs vx v' : Value} (hs : a.eval s = vs) (hx : a.eval x = vx)
    (hrun : (Builtin.append_ #[t, t] o.type #[vs, vx]).run Try.prog w = .ok v' w') (h : wpList Try.prog ops Q rest (a.put o.dst v') w') : wpList Try.prog ops Q (o :: rest) a w := by
  refine wpList_plain hgd fun K hK' => ?_
  unfold Oper.wp
  simp [execOp, ho, resolve, invoke, builtin, hs, hx, hrun, Result.andThen]
  exact hK' _ _ h
theorem Row.alt13 {k : IntKind} {S : Nat → Prop} {w w' : World} {a : Option Addr} {n c : Nat} {l : List Nat} (h : Row k w w.heap.size a n c l) (hA : Alt S w w') (hS : ∀ b o, a = some ⟨b, o, none⟩ → 0 < n → ¬ S b) : Row k w' w'.heap.size a n c l :=
  ⟨h.1, h.2.1, h.2.2.1, fun hn => by
    obtain ⟨b, o, e, hb, hc⟩ := h.2.2.2 hn
    exact ⟨b, o, e, Nat.lt_of_lt_of_le hb hA.size, fun i hi => (hA.cell (p := ⟨b, o + i, none⟩) hb (hS b o e hn)).trans (hc i hi)⟩⟩
theorem Row.grow13 {k : IntKind} {w w' : World} {a : Option Addr} {n c : Nat} {l : List Nat} (h : Row k w w.heap.size a n c l) (hb : Below w.heap.size w w') : Row k w' w'.heap.size a n c l := (h.below hb).mono hb.size
theorem Row.off13 {k : IntKind} {w : World} {B : Nat} {a : Option Addr} {n c : Nat} {l : List Nat} (h : Row k w B a n c l) : ∀ b o, a = some ⟨b, o, none⟩ → 0 < n → b < B := fun b o e hn => by
  obtain ⟨b', o', e', hb, _⟩ := h.2.2.2 hn
  rw [e'] at e
  injection e with e
  injection e with e _
  omega
/-- The file of a name, or an empty one. -/
def fileOf (F : List FileS) (n : ByteArray) : FileS := if atS F n < F.length then F.getD (atS F n) zfile else ⟨n, [], 0⟩
/-- The files behind bytes that were appended. -/
def appF (F : List FileS) (n : ByteArray) (x : List Nat) : List FileS :=
  if atS F n < F.length then F.set (atS F n) { F.getD (atS F n) zfile with b := (F.getD (atS F n) zfile).b ++ x } else inS F ⟨n, x, 0⟩
theorem appendS_eq (d : DiskS) (n : ByteArray) (x : List Nat) : appendS d n x = if (burnsS d n n).1 ≠ 0 then burnsS d n n else if leftS (burnsS d n n).2 < (x.length : Nat) then (8, (burnsS d n n).2) else (0, { (burnsS d n n).2 with F := appF (burnsS d n n).2.F n x }) := by
  unfold appendS appF
  simp only []
  split
  · rfl
  · split
    · rfl
    · split
      · rfl
      · rfl
section
variable {F : List FileS} {n y : ByteArray} {x : List Nat}
theorem fileOf_le (F : List FileS) (n : ByteArray) : (fileOf F n).b.length ≤ allS F := by
  unfold fileOf
  split
  · rename_i h; exact b_le h
  · exact Nat.zero_le _
theorem appF_look : lookF (appF F n x) y = if y = n then some { fileOf F n with b := (fileOf F n).b ++ x } else lookF F y := by
  unfold appF fileOf
  by_cases h : atS F n < F.length
  · simp only [if_pos h]
    exact lookF_set h (atS_lt h)
  · simp only [if_neg h]
    exact lookF_in (fun g hg => atS_none h g hg)
theorem appF_all : allS (appF F n x) = allS F + x.length := by
  unfold appF
  by_cases h : atS F n < F.length
  · rw [if_pos h]
    have h1 := allS_set h { F.getD (atS F n) zfile with b := (F.getD (atS F n) zfile).b ++ x }
    have h2 : ({ F.getD (atS F n) zfile with b := (F.getD (atS F n) zfile).b ++ x } : FileS).b.length = (F.getD (atS F n) zfile).b.length + x.length := List.length_append
    rw [h2] at h1
    omega
  · rw [if_neg h, allS_in]
theorem appF_ok {d : DiskS} (hd : OkD d) (hl : ¬ leftS d < (x.length : Nat)) (hk : okName n) : OkD { d with F := appF d.F n x } := by
  have hf := leftS_fits hd hl
  unfold appF
  by_cases hi : atS d.F n < d.F.length
  · rw [if_pos hi]
    refine hd.set hi rfl ?_ ?_
    · have := hd.sure _ (getD_mem hi)
      show (d.F.getD (atS d.F n) zfile).sure ≤ ((d.F.getD (atS d.F n) zfile).b ++ x).length
      rw [List.length_append]
      omega
    · show allS d.F + ((d.F.getD (atS d.F n) zfile).b ++ x).length ≤ _
      rw [List.length_append]
      omega
  · rw [if_neg hi]
    exact hd.put (atS_none hi) hk (Nat.zero_le _) hf
theorem FilesBut.fileOf {w : World} {mb : Nat} {g : ByteArray → Option PF} (h : FilesP w mb g F) (hn : n.size ≤ maxLen) :
    ∃ p, (g n = some p ∨ (g n = none ∧ p = zpf)) ∧ FileP w p (Vm.fileOf F n) ∧ (Instr.lookup 61 (.map (some mb)) (.string n) false).run Try.prog w = .ok (.agg #[slV p.v, .int .i64 p.s]) w := by
  unfold Vm.fileOf
  by_cases hi : atS F n < F.length
  · obtain ⟨p, hgp, hfp⟩ := h.has hi id
    rw [if_pos hi]
    exact ⟨p, .inl hgp, hfp, ((h.look hn).2 hgp).2⟩
  · rw [if_neg hi]
    exact ⟨zpf, .inr ⟨h.hasNot hi, rfl⟩, ⟨World.ownsRow_nil _ _ _ _, rfl⟩, ((h.look (p := zpf) hn).1 (h.hasNot hi)).2⟩
end

set_option maxHeartbeats 2000000 in
theorem pAppend13_any (bd : Nat) (d : DiskS) (P : Nat → Prop) (n : ByteArray) (ao : Option Addr) (mo co : Nat) (x : List Nat) (w : World) (h : PrgD w P bd d) (hd : OkD d) (hF : d.F.length ≤ 900000) (hn : n.size ≤ maxLen) (hx : Row .u8 w w.heap.size ao mo co x) (hB : ∀ b o, ao = some ⟨b, o, none⟩ → 0 < mo → b ≠ bd) :
    Calls Try.prog 20 #[.pointer (some ⟨bd, 0, none⟩), .string n, .slice ao mo co] w fun e w' => e = .returned (.int .i64 (appendS d n x).1) ∧ PrgPost w P bd (appendS d n x).2 w' := by
  obtain ⟨mb, g, fu, h, hP, hlt⟩ := h
  have HBE := Lib.hid (begun_one bd mb g fu d n w h hd hn)
  have HDE : Hid (appendS d n x = if (burnsS d n n).1 ≠ 0 then burnsS d n n else if leftS (burnsS d n n).2 < (x.length : Nat) then (8, (burnsS d n n).2) else (0, { (burnsS d n n).2 with F := appF (burnsS d n n).2.F n x })) := appendS_eq d n x
  have HFL : Hid ((burnsS d n n).2.F.length ≤ 900000) := by unfold Hid; rw [(burnsS_F d n n).1]; exact hF
  have HOK := Lib.hid (hd.burnsS n n)
  have HKN : Hid ((burnsS d n n).1 = 0 → okName n) := fun h => (burnsS_ok h).1
  have HR := Lib.hid h
  have HPP := Lib.hid hP
  have HX := Lib.hid hx
  have hmc := hx.2.1
  have hcm := hx.2.2.1
  unfold maxLen at hcm
  have hxl := hx.1
  clear h hF hd hlt hP hx
  generalize burnsS d n n = bs at *
  generalize appendS d n x = ds at *
  obtain ⟨code, d1⟩ := bs
  go_enter Try.func20, Try.ntmps20
  go_wp2_with fail
  refine HBE.out.mono ?_
  rintro e w0 ⟨rfl, ⟨fu1, hp0⟩, hA0⟩
  have HP0 := Lib.hid hp0
  have HA0 := Lib.hid hA0
  clear hp0 hA0
  by_cases hc : code = 0
  · have d0 : (code != 0) = false := by simpa using hc
    have HKN : Hid (okName n) := HKN.out hc
    have HDE' : Hid (ds = if leftS d1 < (x.length : Nat) then (8, d1) else (0, { d1 with F := appF d1.F n x })) := by
      have := HDE.out
      rwa [if_neg (by simpa using hc)] at this
    have HLE := Lib.hid (pLeft13_any bd mb g fu1 d1 w0 HP0.out HOK.out)
    clear hc HDE
    go_wp2_with fail
    refine HLE.out.mono ?_
    rintro e w1 ⟨rfl, m1, hw1⟩
    have hdr : Alt (fun _ => False) w0 w1 := by rw [hw1]; exact ⟨rfl, rfl, rfl, Nat.le_refl _, fun _ _ _ => rfl⟩
    have HP1 : Hid (PrgAt w1 bd mb g fu1 d1) := HP0.out.alt hdr (fun _ _ h => h)
    have HA1 : Hid (Alt (fun k => k = bd) w w1) := HA0.out.trans hdr (fun _ h _ => absurd h id)
    clear hw1 hdr
    obtain ⟨q0, _, _, _, _⟩ := HP1.out.box.cells
    by_cases hl : leftS d1 < (x.length : Nat)
    · have HD : Hid (ds = (8, d1)) := by have := HDE'.out; rwa [if_pos hl] at this
      rw [hxl] at hl
      have d2 : decide (leftS d1 < (mo : Int)) = true := by rw [decide_eq_true_eq]; exact hl
      clear HDE' HLE
      go_wp2_with fail
      go_ret
      rw [HD.out]
      exact ⟨rfl, HR.out.same HPP.out HP1.out HA1.out⟩
    · have HD : Hid (ds = (0, { d1 with F := appF d1.F n x })) := by have := HDE'.out; rwa [if_neg hl] at this
      have HOKa := Lib.hid (appF_ok HOK.out hl HKN.out)
      have hfits := leftS_fits HOK.out hl
      rw [hxl] at hl hfits
      have d2 : decide (leftS d1 < (mo : Int)) = false := by rw [decide_eq_false_iff_not]; exact hl
      obtain ⟨p, hgp, hfp, hlook⟩ := HP1.out.files.fileOf hn
      obtain ⟨a, c, esl, hrow⟩ := hfp.own.slice
      have hrc := hrow.2.1
      have hrm := hrow.2.2.1
      unfold maxLen at hrm
      have hfl := fileOf_le d1.F n
      clear hrow
      rw [esl, hfp.sure] at hlook
      have HGP := Lib.hid hgp
      have HFP := Lib.hid hfp
      have HES := Lib.hid esl
      have HLK : Hid (∀ y, lookF (appF d1.F n x) y = if y = n then some { fileOf d1.F n with b := (fileOf d1.F n).b ++ x } else lookF d1.F y) := fun y => appF_look
      clear HDE' HLE hgp hfp esl hl
      generalize fileOf d1.F n = f at *
      generalize hL : f.b.length = L at *
      have HLE := Lib.hid hL
      clear hL
      obtain ⟨w2, hw2⟩ : ∃ w2, w2 = w1.alloc (.cells #[.slice a L c, .int .i64 f.sure] 66) := ⟨_, rfl⟩
      have hfb2 : FileB w2 w1.heap.size a L c f.sure := by rw [hw2]; exact FileB.new w1
      have hs2 : w2.heap.size = w1.heap.size + 1 := by rw [hw2]; simp
      have hb2 : Below w1.heap.size w1 w2 := by rw [hw2]; exact (Below.refl _ _).alloc (Nat.le_refl _) _
      have hA2 : Alt (fun _ => False) w1 w2 := Alt.ofBelow hb2
      obtain ⟨c0, c1, fz2⟩ := hfb2.cells
      have f20 := fz2 0
      have hbd := HP1.out.box.lt
      have hbw : bd < w.heap.size := HR.out.box.lt
      have HW2 := Lib.hid hw2
      have hx2 : Row .u8 w2 w2.heap.size ao mo co x := (HX.out.alt13 HA1.out hB).grow13 hb2
      have hown2 : Own w2 0 (.slice a L c) f.b := by have := HFP.out.own.alt hA2 (fun _ _ h => h); rwa [HES.out] at this
      obtain ⟨v3, w3, hrun3, hown3, hg3, hat3⟩ := run_app_at hown2 hx2 (by rw [HLE.out]; omega) (Nat.zero_le _)
      have hvb : ∀ k, (Value.slice a L c).ownBlock = some k → k < w1.heap.size ∧ k ≠ bd ∧ k ≠ mb := fun k hk => by
        rw [← HES.out] at hk
        obtain ⟨_, h1, cs, h2⟩ := HFP.out.own.blk hk
        exact ⟨h1, HP1.out.box.ne_bytes h2, HP1.out.files.kin.ne_bytes h2⟩
      have hA3 : Alt (fun k => (Value.slice a L c).ownBlock = some k) w2 w3 := ⟨hg3.os, hg3.tape, hg3.output, hg3.size, fun k hk hn => hg3.block k hk (fun e => hn e.symm)⟩
      have hfb3 : FileB w3 w1.heap.size a L c f.sure := hfb2.alt hA3 (fun e => by have := (hvb _ e).1; omega)
      obtain ⟨a3, c3, rfl, hrow3⟩ := hown3.slice
      have hlen3 : (f.b ++ x).length = L + mo := by rw [List.length_append, HLE.out, hxl]
      rw [hlen3] at hown3 hrun3 hat3 hrow3
      have hrc3 := hrow3.2.1
      have hrm3 := hrow3.2.2.1
      unfold maxLen at hrm3
      obtain ⟨e0, e1, fz3⟩ := hfb3.cells
      have f30 := fz3 0
      obtain ⟨w4, hw4⟩ : ∃ w4, w4 = w3.setCell ⟨w1.heap.size, 0, none⟩ (.slice a3 (L + mo) c3) := ⟨_, rfl⟩
      have hfb4 : FileB w4 w1.heap.size a3 (L + mo) c3 f.sure := by rw [hw4]; exact hfb3.bytes
      have hA4 : Alt (fun k => k = w1.heap.size) w3 w4 := by rw [hw4]; exact setCell_alt _ _ _ _
      have hd4 : Alt (fun _ => False) w4 w4.drew := ⟨rfl, rfl, rfl, Nat.le_refl _, fun _ _ _ => rfl⟩
      have hA14 : Alt (fun k => (Value.slice a L c).ownBlock = some k) w1 w4.drew := (((hA2.mono (S' := fun k => (Value.slice a L c).ownBlock = some k) (fun _ h _ => absurd h id)).trans hA3 (fun _ h _ => h)).trans hA4 (fun k hk hlt => by omega)).trans hd4 (fun _ h _ => absurd h id)
      have hbx4 : BoxP w4.drew bd mb d1.most (allS d1.F : Nat) fu1 (!d1.down) := HP1.out.box.alt hA14 (fun e => (hvb _ e).2.1 rfl)
      obtain ⟨g0, g1, _⟩ := hfb4.cells
      obtain ⟨s0, _, _, _, _⟩ := hbx4.cells
      have s0 : w4.cell? ⟨bd, 0, none⟩ = some (.map (some mb)) := by have q := s0; exact q
      have hown4 : Own w4.drew 0 (.slice a3 (L + mo) c3) (f.b ++ x) := (hown3.alt hA4 (fun k hk e => by
        rcases hat3 with h1 | h1
        · rw [h1] at hk; have := (hvb _ hk).1; omega
        · rw [h1] at hk; injection hk with hk; omega)).alt hd4 (fun _ _ h => h)
      obtain ⟨sv, hsv⟩ := hown4.sv
      have hpf : FileP w4.drew ⟨sv, f.sure⟩ { f with b := f.b ++ x } := ⟨by rw [← hsv]; exact hown4, rfl⟩
      have hbut := HP1.out.files.alt (no := fun y => y = n) hA14 (fun e => (hvb _ e).2.2 rfl) (fun y q k hy hq hk e => by
        rw [← HES.out] at e
        rcases HGP.out with h1 | ⟨_, h1⟩
        · exact HP1.out.files.apart n y p q k (Ne.symm hy) h1 hq e hk
        · rw [h1] at e; cases e)
      have hput := FilesBut.put (n := n) (p := ⟨sv, f.sure⟩) (f := { f with b := f.b ++ x }) (F' := appF d1.F n x) hbut (Nat.le_trans HFL.out (by omega)) hn hpf
        (fun y q k hy hq hk hk2 => by
          rw [← hsv] at hk
          rcases hat3 with h1 | h1
          · rw [h1, ← HES.out] at hk
            rcases HGP.out with h2 | ⟨_, h2⟩
            · exact HP1.out.files.apart n y p q k (Ne.symm hy) h2 hq hk hk2
            · rw [h2] at hk; cases hk
          · rw [h1] at hk
            injection hk with hk
            have := (HP1.out.files.blk hq hk2).1
            omega) HOKa.out.asc HOKa.out.wf13 HLK.out
      obtain ⟨w5, hrun5, hf5, hA5, hs5⟩ := hput
      rw [← hsv] at hrun5
      have hbx5 := hbx4.alt hA5 (fun e => HP1.out.box.ne_map HP1.out.files.kin e.symm)
      obtain ⟨_, _, t2, _, _⟩ := hbx5.cells
      have tf := hbx5.frozen 2
      have hall : (allS (appF d1.F n x) : Nat) = allS d1.F + mo := by rw [appF_all, hxl]
      have hwr : IntKind.i64.wrap ((allS d1.F : Nat) + (mo : Int)) = ((allS (appF d1.F n x) : Nat) : Int) := by rw [IntKind.wrap_i64]; omega
      have HP6 : Hid (PrgPost w P bd { d1 with F := appF d1.F n x } (w5.setCell ⟨bd, 2, none⟩ (.int .i64 (allS (appF d1.F n x) : Nat)))) := by
        have hA6 := setCell_alt w5 bd 2 (.int .i64 (allS (appF d1.F n x) : Nat))
        refine HR.out.changed HPP.out HA1.out (d' := { d1 with F := appF d1.F n x }) (fu' := fu1) ⟨hbx5.store rfl, hf5.box hbx5, HP1.out.fuse, HP1.out.wf⟩
          (((hA14.mono (S' := P) (fun k hk _ => ?_)).trans hA5 (fun k hk _ => by rw [hk]; exact HPP.out _ (.inr (.inl rfl)))).trans hA6 (fun k hk _ => by rw [hk]; exact HPP.out _ (.inl rfl))) (fun y q k hy hk => ?_)
        · rw [← HES.out] at hk
          rcases HGP.out with h2 | ⟨_, h2⟩
          · exact HPP.out _ (.inr (.inr ⟨n, p, h2, hk⟩))
          · rw [h2] at hk; cases hk
        · by_cases e : y = n
          · simp only [e, if_true] at hy
            injection hy with hy
            subst hy
            rw [← hsv] at hk
            rcases hat3 with h1 | h1
            · rw [h1, ← HES.out] at hk
              rcases HGP.out with h2 | ⟨_, h2⟩
              · exact .inl ⟨n, p, h2, hk⟩
              · rw [h2] at hk; cases hk
            · rw [h1] at hk
              injection hk with hk
              have := HA1.out.size
              exact .inr (by omega)
          · simp only [e, if_false] at hy
            exact .inl ⟨y, q, hy, hk⟩
      have HW4 := Lib.hid hw4
      have HRUN3 := Lib.hid hrun3
      clear hw2 hfb2 hs2 hb2 hA2 hx2 hown2 hown3 hg3 hat3 hvb hA3 hfb3 hrow3 hlen3 hw4 hfb4 hA4 hd4 hA14 hbx4 hown4 hsv hpf hbut hf5 hA5 hs5 hbx5 hall hrun3 fz2 fz3
      generalize allS (appF d1.F n x) = A2 at *
      generalize allS d1.F = A1 at *
      go_upto_region 7 with fail
      rw [← HW2.out]
      go_wp2_with (at_builtin; refine wpList_append_eq rfl (.tmp 28) (.tmp 29) 33 rfl rfl rfl HRUN3.out ?_)
      rw [← HW4.out]
      go_still_tail 6, (by kernel_rfl)
      change wpList _ _ _ _ _ w4.drew
      go_wp2_with fail
      go_ret
      rw [HD.out]
      exact ⟨rfl, HP6.out⟩
  · have d0 : (code != 0) = true := by simpa using hc
    have HD : Hid (ds = (code, d1)) := by
      have := HDE.out
      rwa [if_pos (by simpa using hc)] at this
    clear hc HDE
    go_wp2_with fail
    go_ret
    rw [HD.out]
    exact ⟨rfl, HR.out.same HPP.out HP0.out HA0.out⟩
end Go.Proofs.Ytkfjbpcngmipnaa.Vm
