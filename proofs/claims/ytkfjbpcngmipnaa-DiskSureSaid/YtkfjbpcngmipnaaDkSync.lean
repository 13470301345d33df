/- The program's disk: Sync, Delete. -/
import Derived.Test.YtkfjbpcngmipnaaDkPut
namespace Go.Proofs.Ytkfjbpcngmipnaa.Vm
open Go Go.RowKit Go.Maps
set_option maxRecDepth 100000

/-- A file in a block of its own. -/
def FileB (w : World) (fb : Nat) (a : Option Addr) (L c : Nat) (s : Int) : Prop := w.heap[fb]? = some (.cells #[.slice a L c, .int .i64 s] 66 (0, 0))
section
variable {S : Nat → Prop} {w w' : World} {fb L c L' c' : Nat} {a a' : Option Addr} {s s' : Int}
theorem FileB.cells (h : FileB w fb a L c s) : w.cell? ⟨fb, 0, none⟩ = some (.slice a L c) ∧ w.cell? ⟨fb, 1, none⟩ = some (.int .i64 s) ∧ ∀ i, w.frozen? ⟨fb, i, none⟩ = false := by
  have key : ∀ i (u : Value), (#[.slice a L c, .int .i64 s] : Array Value)[i]? = some u → w.cell? ⟨fb, i, none⟩ = some u := fun i u hu => by
    unfold World.cell?
    rw [show w.heap[fb]? = _ from h]
    exact hu
  exact ⟨key 0 _ rfl, key 1 _ rfl, fun i => frozen_of h⟩
theorem FileB.new (w : World) : FileB (w.alloc (.cells #[.slice a L c, .int .i64 s] 66)) w.heap.size a L c s := heap_alloc_new w _
theorem FileB.sure (h : FileB w fb a L c s) : FileB (w.setCell ⟨fb, 1, none⟩ (.int .i64 s')) fb a L c s' := by
  unfold FileB at h ⊢
  rw [Go.heap_setCell_same _ _ _ _ _ _ h]
  rfl
theorem FileB.bytes (h : FileB w fb a L c s) : FileB (w.setCell ⟨fb, 0, none⟩ (.slice a' L' c')) fb a' L' c' s := by
  unfold FileB at h ⊢
  rw [Go.heap_setCell_same _ _ _ _ _ _ h]
  rfl
theorem FileB.alt (h : FileB w fb a L c s) (hA : Alt S w w') (hS : ¬ S fb) : FileB w' fb a L c s := by
  unfold FileB at h ⊢
  rw [hA.block fb (Array.getElem?_eq_some_iff.1 h).1 hS]
  exact h
theorem below_set {B : Nat} {b i : Nat} {u : Value} (hb : B ≤ b) : Below B w (w.setCell ⟨b, i, none⟩ u) := ⟨rfl, rfl, rfl, by simp [World.setCell], fun k hk => Below.heap_setCell _ _ _ _ (by simp; omega)⟩
end
/-- What a call that changed a disk's files leaves. -/
theorem PrgAt.changed {w w1 w4 : World} {P : Nat → Prop} {bd mb : Nat} {g g' : ByteArray → Option PF} {fu fu' : Int} {d d' : DiskS} (h : PrgAt w bd mb g fu d) (hP : ∀ k, Dk bd mb g k → P k) (hA1 : Alt (fun k => k = bd) w w1) (h4 : PrgAt w4 bd mb g' fu' d')
    (hA4 : Alt P w1 w4) (hg : ∀ y p k, g' y = some p → (slV p.v).ownBlock = some k → (∃ z q, g z = some q ∧ (slV q.v).ownBlock = some k) ∨ w.heap.size ≤ k) : PrgPost w P bd d' w4 :=
  h4.post ((hA1.mono (S' := P) (fun k hk _ => by rw [hk]; exact hP bd (.inl rfl))).trans hA4 (fun k hk _ => hk)) (fun k hk => by
    rcases hk with rfl | rfl | ⟨y, p, hy, hk⟩
    · exact .inl (hP _ (.inl rfl))
    · exact .inl (hP _ (.inr (.inl rfl)))
    · rcases hg y p k hy hk with ⟨z, q, hz, hq⟩ | h
      · exact .inl (hP k (.inr (.inr ⟨z, q, hz, hq⟩)))
      · exact .inr h)

set_option maxHeartbeats 2000000 in
theorem pSync13_any (bd : Nat) (d : DiskS) (P : Nat → Prop) (n : ByteArray) (w : World) (h : PrgD w P bd d) (hd : OkD d) (hF : d.F.length ≤ 900000) (hn : n.size ≤ maxLen) :
    Calls Try.prog 21 #[.pointer (some ⟨bd, 0, none⟩), .string n] w fun e w' => e = .returned (.int .i64 (syncS d n).1) ∧ PrgPost w P bd (syncS d n).2 w' := by
  obtain ⟨mb, g, fu, h, hP, hlt⟩ := h
  have HBE := Lib.hid (begun_one bd mb g fu d n w h hd hn)
  have HDE : Hid (syncS d n = if (burnsS d n n).1 ≠ 0 then burnsS d n n else if atS (burnsS d n n).2.F n < (burnsS d n n).2.F.length then (0, { (burnsS d n n).2 with F := (burnsS d n n).2.F.set (atS (burnsS d n n).2.F n) (sureF ((burnsS d n n).2.F.getD (atS (burnsS d n n).2.F n) zfile)) }) else (5, (burnsS d n n).2)) := rfl
  have HFL : Hid ((burnsS d n n).2.F.length ≤ 900000) := by unfold Hid; rw [(burnsS_F d n n).1]; exact hF
  have HOK := Lib.hid (hd.burnsS n n)
  have HR := Lib.hid h
  have HPP := Lib.hid hP
  clear h hF hd hlt hP
  generalize burnsS d n n = bs at *
  generalize syncS d n = ds at *
  obtain ⟨code, d1⟩ := bs
  go_enter Try.func21, Try.ntmps21
  go_wp2_with fail
  refine HBE.out.mono ?_
  rintro e w1 ⟨rfl, ⟨fu1, hp1⟩, hA1⟩
  have HP1 := Lib.hid hp1
  have HA1 := Lib.hid hA1
  obtain ⟨q0, _, _, _, _⟩ := hp1.box.cells
  clear hp1 hA1
  by_cases hc : code = 0
  · have d0 : (code != 0) = false := by simpa using hc
    have HDE' : Hid (ds = if atS d1.F n < d1.F.length then (0, { d1 with F := d1.F.set (atS d1.F n) (sureF (d1.F.getD (atS d1.F n) zfile)) }) else (5, d1)) := by
      have := HDE.out
      rwa [if_neg (by simpa using hc)] at this
    clear hc
    by_cases hi : atS d1.F n < d1.F.length
    · have HD : Hid (ds = (0, { d1 with F := d1.F.set (atS d1.F n) (sureF (d1.F.getD (atS d1.F n) zfile)) })) := by have := HDE'.out; rwa [if_pos hi] at this
      obtain ⟨p, hgp, hfp⟩ := HP1.out.files.has hi id
      have hlook := ((HP1.out.files.look hn).2 hgp).1
      obtain ⟨a, c, esl, hrow⟩ := hfp.own.slice
      have HROW := Lib.hid hrow
      have hrc := hrow.2.1
      have hrm := hrow.2.2.1
      unfold maxLen at hrm
      clear hrow
      rw [esl, hfp.sure] at hlook
      have HI := Lib.hid hi
      have HGP := Lib.hid hgp
      have HFP := Lib.hid hfp
      have HES := Lib.hid esl
      clear hi HDE HDE' hgp hfp esl
      generalize hf : d1.F.getD (atS d1.F n) zfile = f at *
      have HFE := Lib.hid hf
      clear hf
      generalize hL : f.b.length = L at *
      have HLE := Lib.hid hL
      clear hL
      obtain ⟨w2, hw2⟩ : ∃ w2, w2 = w1.alloc (.cells #[.slice a L c, .int .i64 f.sure] 66) := ⟨_, rfl⟩
      have hfb2 : FileB w2 w1.heap.size a L c f.sure := by rw [hw2]; exact FileB.new w1
      have hb2 : Below w1.heap.size w1 w2 := by rw [hw2]; exact (Below.refl _ _).alloc (Nat.le_refl _) _
      obtain ⟨c0, c1, fz⟩ := hfb2.cells
      have f1 := fz 1
      have hbd := HP1.out.box.lt
      have q2 := (hb2.cell (p := ⟨bd, 0, none⟩) hbd).trans q0
      have HW2 := Lib.hid hw2
      clear hw2
      obtain ⟨w3, hw3⟩ : ∃ w3, w3 = w2.setCell ⟨w1.heap.size, 1, none⟩ (.int .i64 L) := ⟨_, rfl⟩
      have hfb3 : FileB w3 w1.heap.size a L c L := by rw [hw3]; exact hfb2.sure
      have hb3 : Below w1.heap.size w1 w3 := by rw [hw3]; exact hb2.trans (below_set (Nat.le_refl _))
      obtain ⟨x0, x1, fx⟩ := hfb3.cells
      have q3 := (hb3.cell (p := ⟨bd, 0, none⟩) hbd).trans q0
      have HW3 := Lib.hid hw3
      clear hw3 fz fx hfb2 hb2
      have hb3d : Below w1.heap.size w1 w3.drew := hb3.trans ⟨rfl, rfl, rfl, Nat.le_refl _, fun _ _ => rfl⟩
      have hA3 : Alt (fun _ => False) w1 w3.drew := Alt.ofBelow hb3d
      have hown3 := HFP.out.own.alt hA3 (fun _ _ h => h)
      have hput := FilesBut.put (p := ⟨p.v, L⟩) (f := sureF f) (F' := d1.F.set (atS d1.F n) (sureF f)) (n := n) (HP1.out.files.alt hA3 (fun h => h) (fun _ _ _ _ _ _ h => h)) (Nat.le_trans HFL.out (by omega)) hn ⟨hown3, by rw [← HLE.out]; rfl⟩ (fun y q k hy hq hk hk2 => HP1.out.files.apart n y p q k (Ne.symm hy) HGP.out hq hk hk2)
        (HOK.out.asc.set HI.out (by rw [HFE.out]; rfl)) (fun f' hf' => (HOK.out.set HI.out (g := sureF f) (by rw [HFE.out]; rfl) (Nat.le_refl _) (by rw [HFE.out]; have := HOK.out.all; simp [sureF]; omega)).wf13 f' hf') (fun y => lookF_set HI.out (by rw [← HFE.out]; exact atS_lt HI.out))
      obtain ⟨w4, hrun, hf4, hA4, hs4⟩ := hput
      rw [HES.out] at hrun
      have HP4 : Hid (PrgPost w P bd { d1 with F := d1.F.set (atS d1.F n) (sureF f) } w4) := by
        have hall : allS (d1.F.set (atS d1.F n) (sureF f)) = allS d1.F := by
          have h1 := allS_set HI.out (sureF f)
          rw [HFE.out] at h1
          have h2 : (sureF f).b.length = f.b.length := rfl
          omega
        have hA14 : Alt (fun k => k = mb) w1 w4 := (hA3.mono (S' := fun k => k = mb) (fun _ h _ => absurd h id)).trans hA4 (fun k hk _ => hk)
        refine HR.out.changed HPP.out HA1.out (d' := { d1 with F := d1.F.set (atS d1.F n) (sureF f) }) (fu' := fu1) ⟨?_, hf4, HP1.out.fuse, HP1.out.wf⟩ (hA14.mono (fun k hk _ => by rw [hk]; exact HPP.out _ (.inr (.inl rfl)))) (fun y q k hy hk => .inl ?_)
        · have h1 := HP1.out.box.alt hA14 (fun h => HP1.out.box.ne_map HP1.out.files.kin h.symm)
          show BoxP w4 bd mb d1.most (allS (d1.F.set _ _) : Nat) fu1 (!d1.down)
          rw [hall]
          exact h1
        · by_cases e : y = n
          · simp only [e, if_true] at hy
            injection hy with hy
            subst hy
            exact ⟨n, p, HGP.out, hk⟩
          · simp only [e, if_false] at hy
            exact ⟨y, q, hy, hk⟩
      clear hf4 hA4 hs4 hown3 hA3 hb3d hb3 hfb3
      go_upto_region 5 with fail
      rw [← HW2.out]
      go_upto_region 8 with fail
      rw [← HW3.out]
      go_still_tail 6, (by kernel_rfl)
      change wpList _ _ _ _ _ w3.drew
      go_wp2_with fail
      go_ret
      rw [HD.out]
      exact ⟨rfl, HP4.out⟩
    · have HD : Hid (ds = (5, d1)) := by have := HDE'.out; rwa [if_neg hi] at this
      have hlook := ((HP1.out.files.look (p := zpf) hn).1 (HP1.out.files.hasNot hi)).1
      clear hi HDE HDE'
      have HP5 : Hid (PrgPost w P bd d1 (w1.alloc (.cells #[.slice none 0 0, .int .i64 0] 66))) := (HR.out.same HPP.out HP1.out HA1.out).calls ((Below.refl _ _).alloc (Nat.le_refl _) _)
      go_wp2_with fail
      go_ret
      rw [HD.out]
      exact ⟨rfl, HP5.out⟩
  · have d0 : (code != 0) = true := by simpa using hc
    have HD : Hid (ds = (code, d1)) := by
      have := HDE.out
      rwa [if_pos (by simpa using hc)] at this
    clear hc HDE
    go_wp2_with fail
    go_ret
    rw [HD.out]
    exact ⟨rfl, HR.out.same HPP.out HP1.out HA1.out⟩

set_option maxHeartbeats 2000000 in
theorem pDelete13_any (bd : Nat) (d : DiskS) (P : Nat → Prop) (n : ByteArray) (w : World) (h : PrgD w P bd d) (hd : OkD d) (hF : d.F.length ≤ 900000) (hn : n.size ≤ maxLen) :
    Calls Try.prog 24 #[.pointer (some ⟨bd, 0, none⟩), .string n] w fun e w' => e = .returned (.int .i64 (deleteS d n).1) ∧ PrgPost w P bd (deleteS d n).2 w' := by
  obtain ⟨mb, g, fu, h, hP, hlt⟩ := h
  have HBE := Lib.hid (begun_one bd mb g fu d n w h hd hn)
  have HDE : Hid (deleteS d n = if (burnsS d n n).1 ≠ 0 then burnsS d n n else if atS (burnsS d n n).2.F n < (burnsS d n n).2.F.length then (0, { (burnsS d n n).2 with F := (burnsS d n n).2.F.eraseIdx (atS (burnsS d n n).2.F n) }) else (5, (burnsS d n n).2)) := rfl
  have HFL : Hid ((burnsS d n n).2.F.length ≤ 900000) := by unfold Hid; rw [(burnsS_F d n n).1]; exact hF
  have HOK := Lib.hid (hd.burnsS n n)
  have HR := Lib.hid h
  have HPP := Lib.hid hP
  clear h hF hd hlt hP
  generalize burnsS d n n = bs at *
  generalize deleteS d n = ds at *
  obtain ⟨code, d1⟩ := bs
  go_enter Try.func24, Try.ntmps24
  go_wp2_with fail
  refine HBE.out.mono ?_
  rintro e w1 ⟨rfl, ⟨fu1, hp1⟩, hA1⟩
  have HP1 := Lib.hid hp1
  have HA1 := Lib.hid hA1
  obtain ⟨q0, _, _, _, _⟩ := hp1.box.cells
  clear hp1 hA1
  by_cases hc : code = 0
  · have d0 : (code != 0) = false := by simpa using hc
    have HDE' : Hid (ds = if atS d1.F n < d1.F.length then (0, { d1 with F := d1.F.eraseIdx (atS d1.F n) }) else (5, d1)) := by
      have := HDE.out
      rwa [if_neg (by simpa using hc)] at this
    clear hc
    by_cases hi : atS d1.F n < d1.F.length
    · have HD : Hid (ds = (0, { d1 with F := d1.F.eraseIdx (atS d1.F n) })) := by have := HDE'.out; rwa [if_pos hi] at this
      obtain ⟨p, hgp, hfp⟩ := HP1.out.files.has hi id
      have hlook := ((HP1.out.files.look hn).2 hgp).1
      obtain ⟨a, c, esl, hrow⟩ := hfp.own.slice
      have HROW := Lib.hid hrow
      have hrc := hrow.2.1
      have hrm := hrow.2.2.1
      unfold maxLen at hrm
      clear hrow
      rw [esl, hfp.sure] at hlook
      have HI := Lib.hid hi
      have HGP := Lib.hid hgp
      have HFP := Lib.hid hfp
      have HES := Lib.hid esl
      clear hi HDE HDE' hgp hfp esl
      generalize hf : d1.F.getD (atS d1.F n) zfile = f at *
      have HFE := Lib.hid hf
      clear hf
      generalize hL : f.b.length = L at *
      have HLE := Lib.hid hL
      clear hL
      obtain ⟨w2, hw2⟩ : ∃ w2, w2 = w1.alloc (.cells #[.slice a L c, .int .i64 f.sure] 66) := ⟨_, rfl⟩
      have hfb2 : FileB w2 w1.heap.size a L c f.sure := by rw [hw2]; exact FileB.new w1
      have hb2 : Below w1.heap.size w1 w2 := by rw [hw2]; exact (Below.refl _ _).alloc (Nat.le_refl _) _
      obtain ⟨c0, c1, fz⟩ := hfb2.cells
      have f1 := fz 1
      have hbd := HP1.out.box.lt
      have q2 := (hb2.cell (p := ⟨bd, 0, none⟩) hbd).trans q0
      have HW2 := Lib.hid hw2
      clear hw2
      obtain ⟨z0, _, z2, _, _⟩ := HP1.out.box.cells
      have hA2 : Alt (fun _ => False) w1 w2 := Alt.ofBelow hb2
      have hf2 := HP1.out.files.alt (no := fun _ => False) hA2 (fun h => h) (fun _ _ _ _ _ _ h => h)
      obtain ⟨w3, hrun, hf3, hA3, hs3⟩ := FilesBut.drop hf2 HOK.out.asc HOK.out.wf13 hn 0
      have hb2x := HP1.out.box.alt hA2 (fun h => h)
      have hbx3 := hb2x.alt hA3 (fun h => hb2x.ne_map hf2.kin h.symm)
      have hfb3 := hfb2.alt hA3 (fun e => by
        have := HP1.out.files.kin.lt
        omega)
      obtain ⟨p0, _, p2, _, _⟩ := hbx3.cells
      have pf := hbx3.frozen 2
      obtain ⟨x0, x1, _⟩ := hfb3.cells
      have hal := allS_erase HI.out
      rw [HFE.out, HLE.out] at hal
      have hA : allS d1.F ≤ 16777216 := HOK.out.all
      have HAL := Lib.hid hal
      have hwr : IntKind.i64.wrap ((allS d1.F : Nat) - (L : Int)) = ((allS (d1.F.eraseIdx (atS d1.F n)) : Nat) : Int) := by rw [IntKind.wrap_i64]; omega
      have HP4 : Hid (PrgPost w P bd { d1 with F := d1.F.eraseIdx (atS d1.F n) } (w3.drew.setCell ⟨bd, 2, none⟩ (.int .i64 (allS (d1.F.eraseIdx (atS d1.F n)) : Nat)))) := by
        have hbd3 : Alt (fun _ => False) w3 w3.drew := ⟨rfl, rfl, rfl, Nat.le_refl _, fun _ _ _ => rfl⟩
        have hbx4 := hbx3.alt hbd3 (fun h => h)
        have hf4 := FilesBut.alt (no := fun _ => False) hf3 hbd3 (fun h => h) (fun _ _ _ _ _ _ h => h)
        have hA5 := setCell_alt w3.drew bd 2 (.int .i64 (allS (d1.F.eraseIdx (atS d1.F n)) : Nat))
        have hA15 : Alt P w1 (w3.drew.setCell ⟨bd, 2, none⟩ (.int .i64 (allS (d1.F.eraseIdx (atS d1.F n)) : Nat))) :=
          (((hA2.mono (S' := P) (fun _ h _ => absurd h id)).trans hA3 (fun k hk _ => by rw [hk]; exact HPP.out _ (.inr (.inl rfl)))).trans hbd3 (fun _ h _ => absurd h id)).trans hA5 (fun k hk _ => by rw [hk]; exact HPP.out _ (.inl rfl))
        refine HR.out.changed HPP.out HA1.out (d' := { d1 with F := d1.F.eraseIdx (atS d1.F n) }) (fu' := fu1) ⟨hbx4.store rfl, hf4.box hbx4, HP1.out.fuse, HP1.out.wf⟩ hA15 (fun y q k hy hk => .inl ?_)
        by_cases e : y = n
        · simp only [e, if_true] at hy; cases hy
        · simp only [e, if_false] at hy
          exact ⟨y, q, hy, hk⟩
      clear hal hf2 hf3 hA3 hs3 hb2x hbx3 hfb3 hb2 hfb2 hA2 hA
      generalize allS (d1.F.eraseIdx (atS d1.F n)) = A2 at *
      generalize allS d1.F = A1 at *
      go_upto_region 5 with fail
      rw [← HW2.out]
      go_upto_region 8 with fail
      go_still_tail 10, (by kernel_rfl)
      change wpList _ _ _ _ _ w3.drew
      go_wp2_with fail
      go_ret
      rw [HD.out]
      exact ⟨rfl, HP4.out⟩
    · have HD : Hid (ds = (5, d1)) := by have := HDE'.out; rwa [if_neg hi] at this
      have hlook := ((HP1.out.files.look (p := zpf) hn).1 (HP1.out.files.hasNot hi)).1
      clear hi HDE HDE'
      have HP5 : Hid (PrgPost w P bd d1 (w1.alloc (.cells #[.slice none 0 0, .int .i64 0] 66))) := (HR.out.same HPP.out HP1.out HA1.out).calls ((Below.refl _ _).alloc (Nat.le_refl _) _)
      go_wp2_with fail
      go_ret
      rw [HD.out]
      exact ⟨rfl, HP5.out⟩
  · have d0 : (code != 0) = true := by simpa using hc
    have HD : Hid (ds = (code, d1)) := by
      have := HDE.out
      rwa [if_pos (by simpa using hc)] at this
    clear hc HDE
    go_wp2_with fail
    go_ret
    rw [HD.out]
    exact ⟨rfl, HR.out.same HPP.out HP1.out HA1.out⟩
end Go.Proofs.Ytkfjbpcngmipnaa.Vm
