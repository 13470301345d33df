/- The program's disk: cut. -/
import Derived.Test.YtkfjbpcngmipnaaDkAppend
import Derived.Test.YtkfjbpcngmipnaaRefDiskG
namespace Go.Proofs.Ytkfjbpcngmipnaa.Vm
open Go Go.RowKit Go.Maps
set_option maxRecDepth 100000

theorem Own.take {w : World} {B : Nat} {a : Option Addr} {L c m : Nat} {l : List Nat} (h : Own w B (.slice a L c) l) (hm : m ≤ l.length) (hp : 0 < l.length) : Own w B (.slice a m c) (l.take m) := by
  have hlen : (u8s l).length = l.length * 1 := h.1
  have hl : (l.take m).length = m := by rw [List.length_take]; omega
  have ht : u8s (l.take m) = (u8s l).take m := by simp [u8s]
  unfold Own
  rw [hl]
  refine ⟨by rw [u8s_len, hl, Nat.mul_one], ?_⟩
  rcases h.2 with ⟨_, hn⟩ | ⟨g, cap, cur, hv, hb, hg, hnc, hcm, hcs, htk⟩
  · omega
  · injection hv with h1 h2 h3
    subst h1 h3
    refine .inr ⟨g, c, cur, rfl, hb, hg, Nat.le_trans hm hnc, hcm, hcs, ?_⟩
    rw [ht, ← htk, List.take_take, Nat.mul_one, Nat.mul_one, Nat.min_eq_left hm]
/-- The file that a cut leaves, in the map. -/
def CutPost (w : World) (bd mb : Nat) (g : ByteArray → Option PF) (fu : Int) (d' : DiskS) (w' : World) : Prop :=
  ∃ g', PrgAt w' bd mb g' fu d' ∧ Alt (fun k => Dk bd mb g k) w w' ∧ ∀ k, Dk bd mb g' k → Dk bd mb g k
/-- One file of the map changed. -/
theorem cut_put {w V : World} {bd mb : Nat} {g : ByteArray → Option PF} {fu : Int} {d : DiskS} {i : Nat} {p : PF} {sv : SV} {k : Int} (h : PrgAt w bd mb g fu d) (hd : OkD d) (hF : d.F.length ≤ 900000) (hi : i < d.F.length) (hgp : g (d.F.getD i zfile).name = some p)
    (hA : Alt (fun k => k = bd) w V) (hbx : BoxP V bd mb d.most (allS (d.F.set i (cutF (d.F.getD i zfile) k)) : Nat) fu (!d.down)) (hown : Own V 0 (slV sv) (cutF (d.F.getD i zfile) k).b) (hsv : (slV sv).ownBlock = (slV p.v).ownBlock) :
    ∃ w', (Instr.mapUpdate 61 (.map (some mb)) (.string (d.F.getD i zfile).name) (.agg #[slV sv, .int .i64 ((cutF (d.F.getD i zfile) k).b.length : Nat)])).run Try.prog V = .ok () w' ∧ CutPost w bd mb g fu { d with F := d.F.set i (cutF (d.F.getD i zfile) k) } w' := by
  have hcl := cutF_le (d.F.getD i zfile) k (hd.sure _ (getD_mem hi))
  have hOK : OkD { d with F := d.F.set i (cutF (d.F.getD i zfile) k) } := hd.set hi rfl (Nat.le_refl _) (by have := hd.all; omega)
  have hat := hd.asc.atS hi
  have hbut := FilesBut.alt (no := fun y => y = (d.F.getD i zfile).name) h.files hA (h.box.ne_map h.files.kin) (fun y q k _ hy hk => by
    obtain ⟨_, cs, hc⟩ := h.files.blk hy hk
    exact h.box.ne_bytes hc)
  obtain ⟨w', hrun, hf, hA', hs⟩ := FilesBut.put (p := ⟨sv, ((cutF (d.F.getD i zfile) k).b.length : Nat)⟩) (f := cutF (d.F.getD i zfile) k) (F' := d.F.set i (cutF (d.F.getD i zfile) k)) hbut (Nat.le_trans hF (by omega)) (hd.wf13 _ (getD_mem hi)) ⟨hown, rfl⟩
    (fun y q k hy hq hk hk2 => by
      rw [hsv] at hk
      exact h.files.apart _ y p q k (Ne.symm hy) hgp hq hk hk2) hOK.asc hOK.wf13 (fun y => by
        have h1 := lookF_set (F := d.F) (n := (d.F.getD i zfile).name) (g := cutF (d.F.getD i zfile) k) (y := y) (by rw [hat]; exact hi) rfl
        rwa [hat] at h1)
  refine ⟨w', hrun, _, ⟨hbx.alt hA' (fun e => h.box.ne_map h.files.kin e.symm), hf, h.fuse, h.wf⟩, ((hA.mono (S' := fun k => Dk bd mb g k) (fun k hk _ => .inl hk)).trans hA' (fun k hk _ => .inr (.inl hk))), fun k hk => ?_⟩
  rcases hk with rfl | rfl | ⟨y, q, hy, hk⟩
  · exact .inl rfl
  · exact .inr (.inl rfl)
  · by_cases e : y = (d.F.getD i zfile).name
    · simp only [e, if_true] at hy
      injection hy with hy
      subst hy
      exact .inr (.inr ⟨_, p, hgp, by rw [← hsv]; exact hk⟩)
    · simp only [e, if_false] at hy
      exact .inr (.inr ⟨y, q, hy, hk⟩)

set_option maxHeartbeats 2000000 in
theorem pCut13_any (bd mb : Nat) (g : ByteArray → Option PF) (fu : Int) (d : DiskS) (i : Nat) (k : Int) (w : World) (h : PrgAt w bd mb g fu d) (hd : OkD d) (hF : d.F.length ≤ 900000) (hi : i < d.F.length) (hk : k ≤ 9223372036854775807) :
    Calls Try.prog 40 #[.pointer (some ⟨bd, 0, none⟩), .string (d.F.getD i zfile).name, .int .i64 k] w fun e w' => e = .returned (.tuple #[]) ∧ CutPost w bd mb g fu { d with F := d.F.set i (cutF (d.F.getD i zfile) k) } w' := by
  have hat := hd.asc.atS hi
  have hnl := hd.wf13 _ (getD_mem hi)
  obtain ⟨p, hgp, hfp⟩ := h.files.has (n := (d.F.getD i zfile).name) (by rw [hat]; exact hi) id
  rw [hat] at hfp
  have hlook := ((h.files.look hnl).2 hgp).2
  obtain ⟨a, c, esl, hrow⟩ := hfp.own.slice
  have hrc := hrow.2.1
  have hrm := hrow.2.2.1
  unfold maxLen at hrm
  rw [esl, hfp.sure] at hlook
  have HPUT := Lib.hid (fun V sv => cut_put (V := V) (sv := sv) (k := k) h hd hF hi hgp)
  have hsu := hd.sure _ (getD_mem hi)
  have hbl := Nat.le_trans (b_le hi) hd.all
  have hall := allS_set hi (cutF (d.F.getD i zfile) k)
  have hb1 := b_le hi
  have hda := hd.all
  have HCF : Hid (cutF (d.F.getD i zfile) k = ⟨(d.F.getD i zfile).name, (if max k 0 < ((d.F.getD i zfile).b.length : Int) - (d.F.getD i zfile).sure then (d.F.getD i zfile).b.take ((d.F.getD i zfile).sure + (max k 0).toNat) else (d.F.getD i zfile).b), (if max k 0 < ((d.F.getD i zfile).b.length : Int) - (d.F.getD i zfile).sure then (d.F.getD i zfile).b.take ((d.F.getD i zfile).sure + (max k 0).toNat) else (d.F.getD i zfile).b).length⟩) := rfl
  have HR := Lib.hid h
  have HES := Lib.hid esl
  have HFP := Lib.hid hfp
  obtain ⟨q0, _, q2, _, _⟩ := h.box.cells
  have qf := h.box.frozen 2
  have hbd := h.box.lt
  clear h hd hF hat hgp hrow hfp esl hi hnl
  generalize d.F.set i (cutF (d.F.getD i zfile) k) = F2 at *
  generalize hcf : cutF (d.F.getD i zfile) k = cf at *
  generalize d.F.getD i zfile = f at *
  clear hcf
  generalize hL : f.b.length = L at *
  have HLE := Lib.hid hL
  generalize hS : f.sure = S at *
  have HSE := Lib.hid hS
  clear hL hS
  obtain ⟨w2, hw2⟩ : ∃ w2, w2 = w.alloc (.cells #[.slice a L c, .int .i64 S] 66) := ⟨_, rfl⟩
  have hfb2 : FileB w2 w.heap.size a L c S := by rw [hw2]; exact FileB.new w
  have hb2 : Below w.heap.size w w2 := by rw [hw2]; exact (Below.refl _ _).alloc (Nat.le_refl _) _
  obtain ⟨c0, c1, fz2⟩ := hfb2.cells
  have f20 := fz2 0
  have f21 := fz2 1
  have q0x := (Below.cell (p := ⟨bd, 0, none⟩) hb2 hbd).trans q0
  have q2x := (Below.cell (p := ⟨bd, 2, none⟩) hb2 hbd).trans q2
  have qfx := (Below.frozen (p := ⟨bd, 2, none⟩) hb2 hbd).trans qf
  have HW2 := Lib.hid hw2
  have hm0 : 0 ≤ max k 0 := by omega
  have hmk : max k 0 ≤ 9223372036854775807 := by omega
  have hw1 : IntKind.i64.wrap ((L : Int) - (S : Int)) = (L : Int) - (S : Int) := by rw [IntKind.wrap_i64]; omega
  have hw0 : IntKind.i64.wrap ((L : Int) - (S : Int) - max k 0) = (L : Int) - (S : Int) - max k 0 := by rw [IntKind.wrap_i64]; omega
  have HMX : Hid (max k 0 = if 0 < k then k else 0) := by unfold Hid; split <;> omega
  clear hw2 fz2
  by_cases hcut : max k 0 < (L : Int) - (S : Int)
  · obtain ⟨mn, hmn⟩ := Int.eq_ofNat_of_zero_le hm0
    have hcf2 : cf = ⟨f.name, f.b.take (S + mn), S + mn⟩ := by
      have h1 := HCF.out
      rw [if_pos hcut, hmn, Int.toNat_natCast] at h1
      rw [h1, List.length_take, show f.b.length = L from HLE.out, Nat.min_eq_left (by omega)]
    have HC2 := Lib.hid hcf2
    have hlen : cf.b.length = S + mn := by rw [hcf2]; show (f.b.take _).length = _; rw [List.length_take, show f.b.length = L from HLE.out, Nat.min_eq_left (by omega)]
    rw [hlen] at hall
    obtain ⟨r, hpr⟩ : ∃ r, p.v = some r := by
      cases e : p.v with
      | some r => exact ⟨r, rfl⟩
      | none =>
        have h1 := HES.out
        rw [e] at h1
        injection h1 with _ h2 _
        omega
    have hesr := HES.out
    rw [hpr] at hesr
    injection hesr with e1 e2 e3
    have HA1 := Lib.hid e1
    subst e1
    obtain ⟨w3, hw3⟩ : ∃ w3, w3 = w2.setCell ⟨w.heap.size, 0, none⟩ (.slice (some ⟨r.1, 0, none⟩) (S + mn) c) := ⟨_, rfl⟩
    have hfb3 : FileB w3 w.heap.size (some ⟨r.1, 0, none⟩) (S + mn) c S := by rw [hw3]; exact hfb2.bytes
    have hb3 : Below w.heap.size w w3 := by rw [hw3]; exact hb2.trans (below_set (Nat.le_refl _))
    obtain ⟨w4, hw4⟩ : ∃ w4, w4 = w3.setCell ⟨bd, 2, none⟩ (.int .i64 (allS F2 : Nat)) := ⟨_, rfl⟩
    have hA34 : Alt (fun k => k = bd) w3 w4 := by rw [hw4]; exact setCell_alt _ _ _ _
    have hfb4 : FileB w4 w.heap.size (some ⟨r.1, 0, none⟩) (S + mn) c S := hfb3.alt hA34 (fun e => by omega)
    have hbx4 : BoxP w4 bd mb d.most (allS F2 : Nat) fu (!d.down) := by rw [hw4]; exact (HR.out.box.alt (Alt.ofBelow hb3 : Alt (fun _ => False) w w3) (fun h => h)).store rfl
    obtain ⟨w5, hw5⟩ : ∃ w5, w5 = w4.setCell ⟨w.heap.size, 1, none⟩ (.int .i64 ((S : Int) + (mn : Int))) := ⟨_, rfl⟩
    have hA45 : Alt (fun k => k = w.heap.size) w4 w5 := by rw [hw5]; exact setCell_alt _ _ _ _
    have hfb5 : FileB w5 w.heap.size (some ⟨r.1, 0, none⟩) (S + mn) c ((S : Int) + (mn : Int)) := by rw [hw5]; exact hfb4.sure
    have hA5 : Alt (fun k => k = bd) w w5.drew := (((Alt.ofBelow hb3 : Alt (fun k => k = bd) w w3).trans hA34 (fun _ h _ => h)).trans hA45 (fun k hk hlt => by omega)).trans (⟨rfl, rfl, rfl, Nat.le_refl _, fun _ _ _ => rfl⟩ : Alt (fun _ => False) w5 w5.drew) (fun _ h _ => absurd h id)
    have hbx5 : BoxP w5.drew bd mb d.most (allS F2 : Nat) fu (!d.down) := (hbx4.alt hA45 (fun e => by omega)).alt (⟨rfl, rfl, rfl, Nat.le_refl _, fun _ _ _ => rfl⟩ : Alt (fun _ => False) w5 w5.drew) (fun h => h)
    obtain ⟨z0, _, _, _, _⟩ := hbx5.cells
    have z0 : w5.cell? ⟨bd, 0, none⟩ = some (.map (some mb)) := by have q := z0; exact q
    obtain ⟨g0, g1, _⟩ := hfb5.cells
    have hown5 : Own w5.drew 0 (slV (some (r.1, S + mn, c))) cf.b := by
      have h1 := HFP.out.own.alt hA5 (fun k hk => by
        obtain ⟨_, _, cs, hc⟩ := HFP.out.own.blk hk
        exact HR.out.box.ne_bytes hc)
      rw [HES.out] at h1
      rw [hcf2]
      have h2 : Own w5.drew 0 (.slice (some ⟨r.1, 0, none⟩) (S + mn) c) (f.b.take (S + mn)) := h1.take (by rw [HLE.out]; omega) (by rw [HLE.out]; omega)
      exact h2
    obtain ⟨w6, hrun6, hpost⟩ := HPUT.out w5.drew (some (r.1, S + mn, c)) hA5 hbx5 hown5 (by rw [hpr]; rfl)
    rw [hlen] at hrun6
    have hrun6 : (Instr.mapUpdate 61 (.map (some mb)) (.string f.name) (.agg #[.slice (some ⟨r.1, 0, none⟩) (S + mn) c, .int .i64 ((S : Int) + (mn : Int))])).run Try.prog w5.drew = .ok () w6 := by rw [← Int.natCast_add]; exact hrun6
    have HPOST := Lib.hid hpost
    obtain ⟨t0, t1, tz⟩ := hfb3.cells
    have t30 := tz 0
    obtain ⟨s0, s1, sz⟩ := hfb4.cells
    have s41 := sz 1
    have y0 : w4.cell? ⟨bd, 0, none⟩ = some (.map (some mb)) := hbx4.cells.1
    have u2 := (Below.cell (p := ⟨bd, 2, none⟩) hb3 hbd).trans q2
    have uf := (Below.frozen (p := ⟨bd, 2, none⟩) hb3 hbd).trans qf
    have d3 : decide ((0 : Int) < (L : Int) - (S : Int) - (mn : Int)) = true := by rw [decide_eq_true_eq]; omega
    have hw5' : IntKind.i64.wrap ((L : Int) - ((L : Int) - (S : Int) - (mn : Int))) = (S : Int) + (mn : Int) := by rw [IntKind.wrap_i64]; omega
    have hwa : IntKind.i64.wrap ((allS d.F : Nat) - ((L : Int) - (S : Int) - (mn : Int))) = ((allS F2 : Nat) : Int) := by rw [IntKind.wrap_i64]; omega
    have hx1 : (0 : Int) ≤ (S : Int) + (mn : Int) := by omega
    have hx2 : (S : Int) + (mn : Int) ≤ (c : Int) := by omega
    have hx3 : S + mn ≤ c := by omega
    rw [hmn] at hw0 HMX hcut
    have HW3 := Lib.hid hw3
    have HW4 := Lib.hid hw4
    have HW5 := Lib.hid hw5
    clear hall hda hb1 hcf2 hlen hpr e2 e3 hw3 hb3 hfb3 hw4 hA34 hfb4 hbx4 hw5 hA45 hfb5 hA5 hbx5 hown5 hpost tz sz hfb2 hb2 hm0 hmk hsu hbl
    generalize allS F2 = A2 at *
    generalize allS d.F = A1 at *
    clear HPUT HCF hmn
    by_cases hk0 : 0 < k
    · have HK := HMX.out
      rw [if_pos hk0] at HK
      subst HK
      clear HMX
      have hk1 : 0 < mn := by omega
      go_enter Try.func40, Try.ntmps40
      go_upto_region 1 with fail
      rw [← HW2.out]
      go_upto_region 4 with fail
      rw [← HW3.out]
      go_upto_region 5 with fail
      rw [← HW4.out]
      go_upto_region 6 with fail
      rw [← HW5.out]
      go_still_tail 6, (by kernel_rfl)
      change wpList _ _ _ _ _ w5.drew
      go_wp2_with fail
      go_end0
      exact ⟨rfl, HPOST.out⟩
    · have HK := HMX.out
      rw [if_neg hk0] at HK
      obtain rfl : mn = 0 := by omega
      clear HMX HK
      simp only [Int.natCast_zero, Int.sub_zero, Nat.add_zero, Int.add_zero] at *
      have hcut2 : (S : Int) < (L : Int) := by omega
      have hcut3 : S < L := by omega
      go_enter Try.func40, Try.ntmps40
      go_upto_region 1 with fail
      rw [← HW2.out]
      go_upto_region 4 with fail
      rw [← HW3.out]
      go_upto_region 5 with fail
      rw [← HW4.out]
      go_upto_region 6 with fail
      rw [← HW5.out]
      go_still_tail 6, (by kernel_rfl)
      change wpList _ _ _ _ _ w5.drew
      go_wp2_with fail
      go_end0
      exact ⟨rfl, HPOST.out⟩
  · have HC2 : Hid (cf = ⟨f.name, f.b, L⟩) := by
      have h1 := HCF.out
      rw [if_neg hcut] at h1
      rw [h1]
      unfold Hid
      rw [HLE.out]
    have hlen : cf.b.length = L := by rw [HC2.out]; exact HLE.out
    rw [hlen] at hall
    have hA2 : allS F2 = allS d.F := by omega
    obtain ⟨w3, hw3⟩ : ∃ w3, w3 = w2.setCell ⟨w.heap.size, 1, none⟩ (.int .i64 (L : Int)) := ⟨_, rfl⟩
    have hfb3 : FileB w3 w.heap.size a L c L := by rw [hw3]; exact hfb2.sure
    have hb3 : Below w.heap.size w w3 := by rw [hw3]; exact hb2.trans (below_set (Nat.le_refl _))
    have hA3 : Alt (fun k => k = bd) w w3.drew := (Alt.ofBelow hb3 : Alt (fun k => k = bd) w w3).trans (⟨rfl, rfl, rfl, Nat.le_refl _, fun _ _ _ => rfl⟩ : Alt (fun _ => False) w3 w3.drew) (fun _ h _ => absurd h id)
    have hbx3 : BoxP w3.drew bd mb d.most (allS F2 : Nat) fu (!d.down) := by
      rw [hA2]
      exact (HR.out.box.alt (Alt.ofBelow hb3 : Alt (fun _ => False) w w3) (fun h => h)).alt (⟨rfl, rfl, rfl, Nat.le_refl _, fun _ _ _ => rfl⟩ : Alt (fun _ => False) w3 w3.drew) (fun h => h)
    have hown3 : Own w3.drew 0 (slV p.v) cf.b := by
      rw [HC2.out]
      exact HFP.out.own.alt hA3 (fun k hk => by
        obtain ⟨_, _, cs, hc⟩ := HFP.out.own.blk hk
        exact HR.out.box.ne_bytes hc)
    obtain ⟨w6, hrun6, hpost⟩ := HPUT.out w3.drew p.v hA3 hbx3 hown3 rfl
    rw [hlen, HES.out] at hrun6
    have HPOST := Lib.hid hpost
    obtain ⟨z0, _, _, _, _⟩ := hbx3.cells
    have z0 : w3.cell? ⟨bd, 0, none⟩ = some (.map (some mb)) := by have q := z0; exact q
    obtain ⟨g0, g1, _⟩ := hfb3.cells
    have HW3 := Lib.hid hw3
    have d3 : decide ((0 : Int) < (L : Int) - (S : Int) - max k 0) = false := by rw [decide_eq_false_iff_not]; omega
    clear hall hda hb1 hlen hA2 hw3 hfb3 hb3 hA3 hbx3 hown3 hpost HPUT HCF hfb2 hb2 hm0 hmk hsu hbl
    by_cases hk0 : 0 < k
    · have HK := HMX.out
      rw [if_pos hk0] at HK
      rw [HK] at hw0 d3 hcut
      clear HMX HK
      go_enter Try.func40, Try.ntmps40
      go_upto_region 1 with fail
      rw [← HW2.out]
      go_upto_region 6 with fail
      rw [← HW3.out]
      go_still_tail 6, (by kernel_rfl)
      change wpList _ _ _ _ _ w3.drew
      go_wp2_with fail
      go_end0
      exact ⟨rfl, HPOST.out⟩
    · have HK := HMX.out
      rw [if_neg hk0] at HK
      rw [HK] at hw0 d3 hcut
      clear HMX HK
      simp only [Int.sub_zero] at hw0 d3
      have hcut2 : (L : Int) ≤ (S : Int) := by omega
      have hcut3 : L ≤ S := by omega
      go_enter Try.func40, Try.ntmps40
      go_upto_region 1 with fail
      rw [← HW2.out]
      go_upto_region 6 with fail
      rw [← HW3.out]
      go_still_tail 6, (by kernel_rfl)
      change wpList _ _ _ _ _ w3.drew
      go_wp2_with fail
      go_end0
      exact ⟨rfl, HPOST.out⟩
end Go.Proofs.Ytkfjbpcngmipnaa.Vm
