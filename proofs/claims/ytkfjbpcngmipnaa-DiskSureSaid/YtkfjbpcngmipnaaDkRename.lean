/- The program's disk: Rename. -/
import Derived.Test.YtkfjbpcngmipnaaDkSync
namespace Go.Proofs.Ytkfjbpcngmipnaa.Vm
open Go Go.RowKit Go.Maps
set_option maxRecDepth 100000

/-- The files behind a renaming. -/
def renF (F : List FileS) (n m : ByteArray) : List FileS := if n = m then F else inS ((F.eraseIdx (atS F n)).eraseIdx (atS (F.eraseIdx (atS F n)) m)) { F.getD (atS F n) zfile with name := m }
/-- How many bytes a file has; none, where there is none. -/
def lenF (F : List FileS) (m : ByteArray) : Nat := if atS F m < F.length then (F.getD (atS F m) zfile).b.length else 0
theorem renameS_eq (d : DiskS) (n m : ByteArray) : renameS d n m = if (burnsS d n m).1 ≠ 0 then burnsS d n m else if atS (burnsS d n m).2.F n < (burnsS d n m).2.F.length then (0, { (burnsS d n m).2 with F := renF (burnsS d n m).2.F n m }) else (5, (burnsS d n m).2) := by
  unfold renameS renF
  simp only []
  split
  · rfl
  · split
    · split
      · rfl
      · rfl
    · rfl
theorem field_dk (a : Option Addr) (n c : Nat) (s : Int) (w : World) : (Instr.field 66 (.agg #[.slice a n c, .int .i64 s]) 0).run Try.prog w = .ok (.slice a n c) w := by kernel_rfl
section
variable {F : List FileS} {n m y : ByteArray}
theorem lenF_erase (F : List FileS) (m : ByteArray) : allS (F.eraseIdx (atS F m)) + lenF F m = allS F := by
  unfold lenF
  split
  · rename_i h; exact allS_erase h
  · rename_i h; rw [List.eraseIdx_of_length_le (by omega)]; rfl
theorem lenF_off (hA : Asc F) : lenF (F.eraseIdx (atS F n)) n = 0 := by
  unfold lenF
  rw [if_neg]
  intro h
  have h1 := lookF_at h
  rw [lookF_erase hA, if_pos rfl] at h1
  cases h1
theorem renF_all (hA : Asc F) (hi : atS F n < F.length) : allS (renF F n m) + lenF (F.eraseIdx (atS F n)) m = allS F := by
  unfold renF
  split
  · rename_i e
    rw [← e, lenF_off hA]; rfl
  · rw [allS_in]
    have h1 := lenF_erase (F.eraseIdx (atS F n)) m
    have h2 := allS_erase hi
    show _ + (F.getD (atS F n) zfile).b.length + _ = _
    omega
theorem renF_look (hA : Asc F) (hi : atS F n < F.length) : lookF (renF F n m) y = if y = m then some { F.getD (atS F n) zfile with name := m } else lookF (F.eraseIdx (atS F n)) y := by
  unfold renF
  split
  · rename_i e
    subst e
    rw [lookF_erase hA]
    by_cases ey : y = n
    · subst ey
      rw [if_pos rfl, lookF_at hi]
      have h1 := atS_lt hi
      generalize F.getD (atS F y) zfile = f at *
      cases f
      simp only [] at h1
      rw [h1]
    · rw [if_neg ey, if_neg ey]
  · rw [lookF_in (fun g hg => Asc.erased (hA.erase _) m g hg)]
    by_cases ey : y = m
    · rw [if_pos ey, if_pos ey]
    · show (if y = m then _ else _) = _
      rw [if_neg ey, if_neg ey, lookF_erase (hA.erase _), if_neg ey]
theorem renF_ok {d : DiskS} (h : OkD d) (hi : atS d.F n < d.F.length) (hk : okName m) : OkD { d with F := renF d.F n m } := by
  unfold renF
  by_cases e : n = m
  · rw [if_pos e]; exact h
  · rw [if_neg e]
    refine ((h.erase _).erase _).put (Asc.erased (h.asc.erase _) m) hk (show (d.F.getD (atS d.F n) zfile).sure ≤ (d.F.getD (atS d.F n) zfile).b.length from h.sure _ (getD_mem hi)) ?_
    have h1 := allS_erase hi
    have h2 := allS_erase_le (d.F.eraseIdx (atS d.F n)) (atS (d.F.eraseIdx (atS d.F n)) m)
    have h3 := h.all
    show allS ((d.F.eraseIdx _).eraseIdx _) + (d.F.getD _ zfile).b.length ≤ _
    omega
theorem FilesBut.lookLen {w : World} {mb : Nat} {g : ByteArray → Option PF} (h : FilesP w mb g F) (hm : m.size ≤ maxLen) :
    ∃ a c s, (Instr.lookup 61 (.map (some mb)) (.string m) false).run Try.prog w = .ok (.agg #[.slice a (lenF F m) c, .int .i64 s]) w ∧ lenF F m ≤ c ∧ c ≤ maxLen := by
  unfold lenF
  by_cases hi : atS F m < F.length
  · obtain ⟨p, hgp, hfp⟩ := h.has hi id
    have hl := ((h.look hm).2 hgp).2
    obtain ⟨a, c, e, hr⟩ := hfp.own.slice
    rw [e] at hl
    rw [if_pos hi]
    exact ⟨a, c, _, hl, hr.2.1, hr.2.2.1⟩
  · rw [if_neg hi]
    exact ⟨none, 0, 0, ((h.look (p := zpf) hm).1 (h.hasNot hi)).2, Nat.le_refl _, by simp [maxLen]⟩
end

set_option maxHeartbeats 2000000 in
theorem pRename13_any (bd : Nat) (d : DiskS) (P : Nat → Prop) (n m : ByteArray) (w : World) (h : PrgD w P bd d) (hd : OkD d) (hF : d.F.length ≤ 900000) (hn : n.size ≤ maxLen) (hm : m.size ≤ maxLen) :
    Calls Try.prog 23 #[.pointer (some ⟨bd, 0, none⟩), .string n, .string m] w fun e w' => e = .returned (.int .i64 (renameS d n m).1) ∧ PrgPost w P bd (renameS d n m).2 w' := by
  obtain ⟨mb, g, fu, h, hP, hlt⟩ := h
  have HBE := Lib.hid (begun_two bd mb g fu d n m w h hd hn hm)
  have HDE : Hid (renameS d n m = if (burnsS d n m).1 ≠ 0 then burnsS d n m else if atS (burnsS d n m).2.F n < (burnsS d n m).2.F.length then (0, { (burnsS d n m).2 with F := renF (burnsS d n m).2.F n m }) else (5, (burnsS d n m).2)) := renameS_eq d n m
  have HFL : Hid ((burnsS d n m).2.F.length ≤ 900000) := by unfold Hid; rw [(burnsS_F d n m).1]; exact hF
  have HOK := Lib.hid (hd.burnsS n m)
  have HKM : Hid ((burnsS d n m).1 = 0 → okName m) := fun h => (burnsS_ok h).2
  have HR := Lib.hid h
  have HPP := Lib.hid hP
  clear h hF hd hlt hP
  generalize burnsS d n m = bs at *
  generalize renameS d n m = ds at *
  obtain ⟨code, d1⟩ := bs
  go_enter Try.func23, Try.ntmps23
  go_wp2_with fail
  refine HBE.out.mono ?_
  rintro e w1 ⟨rfl, ⟨fu1, hp1⟩, hA1⟩
  have HP1 := Lib.hid hp1
  have HA1 := Lib.hid hA1
  obtain ⟨q0, _, _, _, _⟩ := hp1.box.cells
  clear hp1 hA1
  by_cases hc : code = 0
  · have d0 : (code != 0) = false := by simpa using hc
    have HDE' : Hid (ds = if atS d1.F n < d1.F.length then (0, { d1 with F := renF d1.F n m }) else (5, d1)) := by
      have := HDE.out
      rwa [if_neg (by simpa using hc)] at this
    have HKM : Hid (okName m) := HKM.out hc
    clear hc
    by_cases hi : atS d1.F n < d1.F.length
    · have HD : Hid (ds = (0, { d1 with F := renF d1.F n m })) := by have := HDE'.out; rwa [if_pos hi] at this
      obtain ⟨p, hgp, hfp⟩ := HP1.out.files.has hi id
      have hlook := ((HP1.out.files.look hn).2 hgp).1
      obtain ⟨a, c, esl, hrow⟩ := hfp.own.slice
      have HROW := Lib.hid hrow
      have hrc := hrow.2.1
      have hrm := hrow.2.2.1
      unfold maxLen at hrm
      clear hrow
      rw [esl, hfp.sure] at hlook
      have HI := Lib.hid hi
      have HGP := Lib.hid hgp
      have HFP := Lib.hid hfp
      have HES := Lib.hid esl
      clear hi HDE HDE' hgp hfp esl
      generalize hf : d1.F.getD (atS d1.F n) zfile = f at *
      have HFE := Lib.hid hf
      clear hf
      generalize hL : f.b.length = L at *
      have HLE := Lib.hid hL
      clear hL
      obtain ⟨w2, hw2⟩ : ∃ w2, w2 = w1.alloc (.cells #[.slice a L c, .int .i64 f.sure] 66) := ⟨_, rfl⟩
      have hfb2 : FileB w2 w1.heap.size a L c f.sure := by rw [hw2]; exact FileB.new w1
      have hb2 : Below w1.heap.size w1 w2 := by rw [hw2]; exact (Below.refl _ _).alloc (Nat.le_refl _) _
      obtain ⟨c0, c1, fz⟩ := hfb2.cells
      have f1 := fz 1
      have hbd := HP1.out.box.lt
      have q2 := (hb2.cell (p := ⟨bd, 0, none⟩) hbd).trans q0
      have HW2 := Lib.hid hw2
      clear hw2
      obtain ⟨z0, _, z2, _, _⟩ := HP1.out.box.cells
      have hA2 : Alt (fun _ => False) w1 w2 := Alt.ofBelow hb2
      have hf2 := HP1.out.files.alt (no := fun _ => False) hA2 (fun h => h) (fun _ _ _ _ _ _ h => h)
      obtain ⟨w3, hrun, hf3, hA3, hs3⟩ := FilesBut.drop hf2 HOK.out.asc HOK.out.wf13 hn 0
      have hb2x := HP1.out.box.alt hA2 (fun h => h)
      have hbx3 := hb2x.alt hA3 (fun h => hb2x.ne_map hf2.kin h.symm)
      have hfb3 := hfb2.alt hA3 (fun e => by
        have := HP1.out.files.kin.lt
        omega)
      obtain ⟨p0, _, p2, _, _⟩ := hbx3.cells
      have pf := hbx3.frozen 2
      obtain ⟨x0, x1, _⟩ := hfb3.cells
      have hal := renF_all (m := m) HOK.out.asc HI.out
      obtain ⟨a6, c6, s6, hlook6, hc6, hm6⟩ := FilesBut.lookLen (FilesBut.alt (no := fun _ => False) (w' := w3.drew) (S := fun _ => False) hf3 ⟨rfl, rfl, rfl, Nat.le_refl _, fun _ _ _ => rfl⟩ (fun h => h) (fun _ _ _ _ _ _ h => h)) hm
      unfold maxLen at hm6
      have hA : allS d1.F ≤ 16777216 := HOK.out.all
      have hwr : IntKind.i64.wrap ((allS d1.F : Nat) - ((lenF (d1.F.eraseIdx (atS d1.F n)) m : Nat) : Int)) = ((allS (renF d1.F n m) : Nat) : Int) := by rw [IntKind.wrap_i64]; omega
      obtain ⟨w3d, hw3d⟩ : ∃ w3d, w3d = w3.drew := ⟨_, rfl⟩
      have p2d : w3d.cell? ⟨bd, 2, none⟩ = some (.int .i64 (allS d1.F : Nat)) := by rw [hw3d]; exact p2
      have pfd : w3d.frozen? ⟨bd, 2, none⟩ = false := by rw [hw3d]; exact pf
      obtain ⟨w4, hw4⟩ : ∃ w4, w4 = w3d.setCell ⟨bd, 2, none⟩ (.int .i64 (allS (renF d1.F n m) : Nat)) := ⟨_, rfl⟩
      have hd3 : Alt (fun _ => False) w3 w3d := by rw [hw3d]; exact ⟨rfl, rfl, rfl, Nat.le_refl _, fun _ _ _ => rfl⟩
      have hd4 : Alt (fun _ => False) w4 w4.drew := ⟨rfl, rfl, rfl, Nat.le_refl _, fun _ _ _ => rfl⟩
      have hbx3d := hbx3.alt hd3 (fun h => h)
      have hbx4 : BoxP w4 bd mb d1.most (allS (renF d1.F n m) : Nat) fu1 (!d1.down) := by rw [hw4]; exact hbx3d.store rfl
      have hf4 : FilesP w4 mb (fun y => if y = n then none else g y) (d1.F.eraseIdx (atS d1.F n)) := by rw [hw4]; exact (FilesBut.alt (no := fun _ => False) hf3 hd3 (fun h => h) (fun _ _ _ _ _ _ h => h)).box hbx3d
      have hA4 : Alt (fun k => k = bd) w3 w4 := by rw [hw4]; exact (hd3.mono (S' := fun k => k = bd) (fun _ h _ => absurd h id)).trans (setCell_alt _ _ _ _) (fun k hk _ => hk)
      have hA14 : Alt P w1 w4 := ((hA2.mono (S' := P) (fun _ h _ => absurd h id)).trans hA3 (fun k hk _ => by rw [hk]; exact HPP.out _ (.inr (.inl rfl)))).trans hA4 (fun k hk _ => by rw [hk]; exact HPP.out _ (.inl rfl))
      have hfb4 := hfb3.alt hA4 (fun e => by
        have := HP1.out.box.lt
        omega)
      obtain ⟨y0, y1, _⟩ := hfb4.cells
      obtain ⟨r0, _, _, _, _⟩ := hbx4.cells
      have hpf4 : FileP w4.drew ⟨p.v, f.sure⟩ { f with name := m } := by
        refine ⟨?_, rfl⟩
        have h1 := HFP.out.own.alt ((hA2.mono (S' := fun k => k = mb) (fun _ h _ => absurd h id)).trans hA3 (fun k hk _ => hk)) (fun k hk => by
          obtain ⟨_, _, cs, hc⟩ := HFP.out.own.blk hk
          exact HP1.out.files.kin.ne_bytes hc)
        exact (h1.alt hA4 (fun k hk => by
          obtain ⟨_, _, cs, hc⟩ := h1.blk hk
          exact hbx3.ne_bytes hc)).alt hd4 (fun k _ h => h)
      have hlen1 : (d1.F.eraseIdx (atS d1.F n)).length ≤ 999999 := by
        have h1 := (List.eraseIdx_sublist d1.F (atS d1.F n)).length_le
        exact Nat.le_trans h1 (Nat.le_trans HFL.out (by omega))
      have hOKr := renF_ok HOK.out HI.out (m := m) HKM.out
      have hput := FilesBut.put (n := m) (p := ⟨p.v, f.sure⟩) (f := { f with name := m }) (F' := renF d1.F n m) (FilesBut.alt (no := fun y => y = m) hf4 hd4 (fun h => h) (fun _ _ _ _ _ _ h => h)) hlen1 hm hpf4
        (fun y q k hy hq hk hk2 => by
          by_cases e : y = n
          · simp only [e, if_true] at hq; cases hq
          · simp only [e, if_false] at hq
            exact HP1.out.files.apart n y p q k (Ne.symm e) HGP.out hq hk hk2) hOKr.asc hOKr.wf13 (fun y => by rw [renF_look HOK.out.asc HI.out, HFE.out])
      obtain ⟨w5, hrun5, hf5, hA5, hs5⟩ := hput
      rw [HES.out] at hrun5
      have HP5 : Hid (PrgPost w P bd { d1 with F := renF d1.F n m } w5) := by
        have hA45 : Alt (fun k => k = mb) w4 w5 := (hd4.mono (S' := fun k => k = mb) (fun _ h _ => absurd h id)).trans hA5 (fun k hk _ => hk)
        refine HR.out.changed HPP.out HA1.out (d' := { d1 with F := renF d1.F n m }) (fu' := fu1) ⟨hbx4.alt hA45 (fun h => hbx4.ne_map hf4.kin h.symm), hf5, HP1.out.fuse, HP1.out.wf⟩ (hA14.trans hA45 (fun k hk _ => by rw [hk]; exact HPP.out _ (.inr (.inl rfl)))) (fun y q k hy hk => .inl ?_)
        by_cases e : y = m
        · simp only [e, if_true] at hy
          injection hy with hy
          subst hy
          exact ⟨n, p, HGP.out, hk⟩
        · simp only [e, if_false] at hy
          by_cases e2 : y = n
          · simp only [e2, if_true] at hy; cases hy
          · simp only [e2, if_false] at hy
            exact ⟨y, q, hy, hk⟩
      have HW4 := Lib.hid hw4
      have HW3 := Lib.hid hw3d
      clear hw3d
      clear hal hf2 hf3 hA3 hs3 hb2x hbx3 hfb3 hb2 hfb2 hA2 hA hw4 hd3 hd4 hbx3d hbx4 hf4 hA4 hA14 hfb4 hpf4 hlen1 hOKr hf5 hA5 hs5
      generalize allS (renF d1.F n m) = A2 at *
      generalize allS d1.F = A1 at *
      generalize lenF (d1.F.eraseIdx (atS d1.F n)) m = L6 at *
      go_upto_region 5 with fail
      rw [← HW2.out]
      go_upto_region 8 with fail
      have hfield := field_dk a6 L6 c6 s6 w3.drew
      go_still_tail 14, (by kernel_rfl)
      change wpList _ _ _ _ _ w3.drew
      rw [← HW3.out]
      go_upto_region 9 with fail
      rw [← HW4.out]
      go_still_tail 6, (by kernel_rfl)
      change wpList _ _ _ _ _ w4.drew
      go_wp2_with fail
      go_ret
      rw [HD.out]
      exact ⟨rfl, HP5.out⟩
    · have HD : Hid (ds = (5, d1)) := by have := HDE'.out; rwa [if_neg hi] at this
      have hlook := ((HP1.out.files.look (p := zpf) hn).1 (HP1.out.files.hasNot hi)).1
      clear hi HDE HDE'
      have HP5 : Hid (PrgPost w P bd d1 (w1.alloc (.cells #[.slice none 0 0, .int .i64 0] 66))) := (HR.out.same HPP.out HP1.out HA1.out).calls ((Below.refl _ _).alloc (Nat.le_refl _) _)
      go_wp2_with fail
      go_ret
      rw [HD.out]
      exact ⟨rfl, HP5.out⟩
  · have d0 : (code != 0) = true := by simpa using hc
    have HD : Hid (ds = (code, d1)) := by
      have := HDE.out
      rwa [if_pos (by simpa using hc)] at this
    clear hc HDE
    go_wp2_with fail
    go_ret
    rw [HD.out]
    exact ⟨rfl, HR.out.same HPP.out HP1.out HA1.out⟩
end Go.Proofs.Ytkfjbpcngmipnaa.Vm
