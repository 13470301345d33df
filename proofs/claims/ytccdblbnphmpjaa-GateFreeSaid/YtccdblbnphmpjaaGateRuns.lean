/- The contracts of package gate's followers, resolve. -/
import Derived.Test.YtccdblbnphmpjaaGateStops
import Derived.Deep.LoopGhost
namespace Go.Proofs.Ytccdblbnphmpjaa.Vm
open Go Go.RowKit Go.Maps

theorem behind_take {cells wants S : List Int} {k : Nat} (hk : k < S.length) :
    behindG cells wants (S.take (k + 1)) = behindG cells wants (S.take k) ++ (match firstG cells wants cells.length (cells.getD (S.getD k 0).toNat 0) with | none => [] | some x => [x]) := by
  unfold behindG
  rw [List.take_succ_eq_append_getElem hk, List.filterMap_append]
  congr 1
  have e : S.getD k 0 = S[k] := by simp [List.getD, hk]
  rw [e]
  cases h : firstG cells wants cells.length (cells.getD (S[k]).toNat 0) <;> simp only [List.filterMap_cons, List.filterMap_nil, h]
theorem Late.wf {cells wants now : List Int} (h : Late cells wants now) (hl : wants.length = cells.length) (hc : WfZ cells) (hw : WfZ wants) : WfZ now := by
  intro z hz
  obtain ⟨i, hi, e⟩ := List.getElem_of_mem hz
  have hi' : i < cells.length := by rw [← h.len]; exact hi
  have e' : now.getD i 0 = z := by simp [List.getD, hi, e]
  rcases h.own i hi' with h1 | h1
  · rw [← e', h1]; exact hc.at i hi'
  · rw [← e', h1]; exact hw.at i (by omega)

set_option maxRecDepth 100000 in
set_option maxHeartbeats 1000000 in
theorem followers_any (w : World) (B b m2 m3 m4 c1 c2 : Nat) (a1 a2 : Option Addr) (cells wants blocked now : List Int) (h : Tr w B b m2 m3 m4 a1 cells.length c1 a2 c2 cells wants blocked now) (hw : WfZ cells) (hn : cells.length ≤ 100000)
    (a : Option Addr) (n c B2 : Nat) (S : List Int) (hr : RowZ .i64 w B2 a n c S) (hB2 : B2 ≤ w.heap.size) (hS : ∀ s ∈ S, ∃ i : Nat, s = i ∧ i < cells.length) (hm : n ≤ 100000) :
    Calls Try.prog 23 #[.pointer (some ⟨b, 0, none⟩), .slice a n c] w fun e w' =>
      ∃ a' c', e = .returned (.slice a' (behindG cells wants S).length c') ∧ OwnZ w' w.heap.size (.slice a' (behindG cells wants S).length c') (behindG cells wants S) ∧ Below w.heap.size w w' := by
  obtain ⟨i0, hi0, hz0, hz1, hz2⟩ := info_parts info_int
  have hl := hr.1
  have HCS := Lib.hid (fun h' => hr.cells h')
  have hc1 := hr.2.1
  have HTR := Lib.hid h
  have HW := Lib.hid hw
  have HS := Lib.hid hS
  clear hr h hw hS
  go_enter Try.func23, Try.ntmps23
  go_wp2_with fail
  go_loopw [5, 12] (fun v i wr => ∃ (k : Nat) (out : List Int), k ≤ n ∧ out.length ≤ k ∧ i = .int .i64 k ∧ OwnZ wr w.heap.size v out ∧ Below w.heap.size w wr ∧ Hid (out = behindG cells wants (S.take k))) (fun _ i _ => n - (intOf i).toNat)
  case atStart => exact ⟨0, [], Nat.zero_le _, Nat.le_refl _, rfl, World.ownsRow_nil _ _ _ _, Below.refl _ _, by simp [Hid, behindG]⟩
  case round =>
    obtain ⟨k, out, hk, hol, rfl, hown, hbel, HO⟩ := hrel
    by_cases hlt : k < n
    · obtain ⟨bb, off, rfl, hb, hcs⟩ := HCS.out (by omega)
      have hcell := (hbel.cell (p := ⟨bb, off + k, none⟩) (show bb < w.heap.size by omega)).trans (hcs k hlt)
      obtain ⟨i, hsi, hi⟩ := HS.out (S.getD k 0) (by simp [List.getD, hl, hlt])
      have hsn := behind_take (cells := cells) (wants := wants) (S := S) (k := k) (by omega)
      rw [hsi] at hcell hsn
      rw [Int.toNat_natCast, ← HO.out] at hsn
      have hT := HTR.out.calls hbel
      have hc1 := hT.rc.2.1
      obtain ⟨bc, off', rfl, hbc, hcc⟩ := hT.rc.cells (by omega)
      have hci := hcc i hi
      have hwz := HW.out.at i hi
      have s0 := hT.s0
      have s4 := hT.s4
      obtain ⟨k4, hmf⟩ := hT.mf
      have L4 : ∀ d, (Instr.lookup 32 (.map (some m4)) (.int .i64 (cells.getD i 0)) true).run Try.prog (wr.drewN d) = .ok (.tuple #[.int .i64 ((firstG cells wants cells.length (cells.getD i 0)).getD 0), .bool (firstG cells wants cells.length (cells.getD i 0)).isSome]) (wr.drewN d) :=
        fun d => MapIn.look (w := wr.drewN d) (hmf.keep rfl) hwz
      generalize hF : firstG cells wants cells.length (cells.getD i 0) = F at L4 hsn
      generalize cells.getD i 0 = y at hci L4
      have HOD : Hid (∀ d, OwnZ (wr.drewN d) w.heap.size _ out) := fun d => hown.calls (below_drewN (Below.refl _ _) d)
      have HBD : Hid (∀ d, Below w.heap.size w (wr.drewN d)) := fun d => below_drewN hbel d
      clear hcs hcc hmf hwz hF HO hown hbel hT
      cases F with
      | none =>
        simp only [Option.getD_none, Option.isSome_none] at L4
        simp only [List.append_nil] at hsn
        have HSN := Lib.hid hsn
        clear hsn
        go_wp2_with fail
        go_quiet (fail)
        go_wp2_with fail
        go_roundw
        case rel => exact ⟨k + 1, out, by omega, by omega, by go_num, HOD.out _, HBD.out _, HSN.out.symm⟩
        case measure => simp [intOf]; omega
      | some x =>
        simp only [Option.getD_some, Option.isSome_some] at L4
        have HSN := Lib.hid hsn
        clear hsn
        go_wp2_with fail
        go_quiet (fail)
        go_wp2_with (at_builtin; refine wpList_append_own _ rfl (.tmp 32) (.tmp 34) 22 rfl w.heap.size 3 i0 (.int .i64 0) 1 8 Try.underlying22 hi0 hz0 hz1 hz2 rfl (by decide) _ _ _ rfl (World.ownsRow.alloc (HOD.out nq) _) ⟨(wr.drewN nq).heap.size, 0, none⟩ 1 1 [.int .i64 x] rfl rfl (one_cell _ _ _) (by simp [Value.oneCell']) (by simp only [maxLen]; omega) (by omega) (by have h1 := (HBD.out nq).size; have h2 : (wr.drewN nq).heap.size = wr.heap.size := rfl; simp; omega) ?_; intro v' w2 hown2 hgrow2 _)
        have RR := push_stepZ (HOD.out nq) (HBD.out nq) (Nat.le_refl _) hown2 hgrow2
        clear hown2 hgrow2
        go_wp2_with fail
        go_roundw
        case rel => exact ⟨k + 1, out ++ [x], by omega, by simp; omega, by go_num, RR.1, RR.2, HSN.out.symm⟩
        case measure => simp [intOf]; omega
    · obtain rfl : k = n := by omega
      have HO2 := HO.out
      rw [List.take_of_length_le (by omega)] at HO2
      obtain ⟨a', c', rfl⟩ := own_slice hown
      have HWN := Lib.hid hown
      go_wp2_with fail
      go_ret
      rw [← HO2]
      exact ⟨a', c', rfl, HWN.out, hbel⟩

set_option maxRecDepth 100000 in
set_option maxHeartbeats 2000000 in
theorem resolve_any (w : World) (B b m2 m3 m4 c1 c2 : Nat) (a1 a2 : Option Addr) (cells wants blocked : List Int) (h : Tr w B b m2 m3 m4 a1 cells.length c1 a2 c2 cells wants blocked wants) (hwc : WfZ cells) (hww : WfZ wants) (hn : cells.length ≤ 100000) (ht : ¬ TwiceP cells) :
    Calls Try.prog 17 #[.pointer (some ⟨b, 0, none⟩)] w fun e w' =>
      e = .returned (.tuple #[]) ∧ Tr w' B b m2 m3 m4 a1 cells.length c1 a2 c2 cells wants blocked (gateG cells wants blocked) ∧ Below B w w' := by
  have hlw := h.ln
  have hG0 := Lib.hid (Going.start (blocked := blocked) ht hlw)
  have HTR := Lib.hid h
  have HWC := Lib.hid hwc
  have HWW := Lib.hid hww
  have HIX := Lib.hid (indices_any cells.length w hn)
  have HT := Lib.hid ht
  have hBw : B ≤ w.heap.size := Nat.le_of_lt (Nat.lt_of_le_of_lt h.hB h.lt)
  have s0 := h.s0
  -- what 'those' answers
  have HTH : Hid (∀ (V : World) (now l : List Int) (a : Option Addr) (m c B2 : Nat), Tr V B b m2 m3 m4 a1 cells.length c1 a2 c2 cells wants blocked now → WfZ now → RowZ .i64 V B2 a m c l → B2 ≤ V.heap.size → m ≤ 100000 → (∀ s ∈ l, ∃ i : Nat, s = i ∧ i < cells.length) →
      Calls Try.prog 20 #[.slice a m c, .func (.func 22) #[.pointer (some ⟨b, 0, none⟩)] #[]] V fun e w' =>
        ∃ a' c', e = .returned (.slice a' (l.filter (stopB cells wants blocked now)).length c') ∧ OwnZ w' V.heap.size (.slice a' (l.filter (stopB cells wants blocked now)).length c') (l.filter (stopB cells wants blocked now)) ∧ Below V.heap.size V w') :=
    fun V now l a m c B2 hT hwn hr hB2 hm hl => those_any b a m c B2 l _ V hr hB2 hm fun wr s hs hb => by
      obtain ⟨i, rfl, hi⟩ := hl s hs
      exact isStopped_any wr B b m2 m3 m4 cells.length c1 c2 a1 a2 cells wants blocked now (hT.calls hb) hwn hn i hi
  clear h hwc hww ht
  go_enter Try.func17, Try.ntmps17
  go_wp2_with fail
  refine HIX.out.mono ?_
  rintro e w1 ⟨rfl, hnum, hb1⟩
  have hz1 := hb1.size
  have hrow := hnum.row
  rw [allG_len] at hrow
  have HTH1 := Lib.hid (HTH.out w1 wants (allG cells.length) _ _ _ _ (HTR.out.calls hb1) HWW.out hrow (Nat.le_refl _) hn (fun s hs => by obtain ⟨i, hi, rfl⟩ := List.mem_map.1 hs; exact ⟨i, rfl, by simpa using hi⟩))
  have HB1 := Lib.hid hb1
  clear hnum hrow hb1
  go_wp2_with fail
  refine HTH1.out.mono ?_
  rintro e w2 ⟨a', c', rfl, hown, hb2⟩
  have HB2 := Lib.hid (HB1.out.trans (hb2.mono hz1))
  have HTR2 := Lib.hid (HTR.out.calls HB2.out)
  have HOW := Lib.hid hown
  have hz2 := hb2.size
  generalize (allG cells.length).filter (stopB cells wants blocked wants) = S0 at hG0 HOW ⊢
  clear hown hb2 HTH1 s0
  go_wp2_with fail
  go_loopg [2] (movers cells wants) (fun k v wr => ∃ (now S : List Int) (a : Option Addr) (c B2 : Nat), v = .slice a S.length c ∧ Hid (movers cells now = k) ∧ Hid (Going cells wants blocked now S) ∧ Hid (Tr wr B b m2 m3 m4 a1 cells.length c1 a2 c2 cells wants blocked now) ∧ Hid (OwnZ wr B2 (.slice a S.length c) S) ∧ w.heap.size ≤ B2 ∧ Hid (Below B w wr))
  case atStart => exact ⟨wants, S0, a', c', w1.heap.size, rfl, rfl, hG0.out, HTR2.out, HOW.out, hz1, HB2.out.mono hBw⟩
  case round =>
    obtain ⟨now, S, a, c, B2, rfl, HMV, HG, HTT, HO, hB2, HBW⟩ := hrel
    obtain ⟨go, hgo⟩ : ∃ go, go = gk := ⟨_, rfl⟩
    subst hgo
    obtain ⟨W, hW⟩ : ∃ W, W = wr := ⟨_, rfl⟩
    subst hW
    by_cases hS : S = []
    · subst hS
      have HGD := Lib.hid HG.out.done
      go_wp2_with fail
      go_end0
      exact ⟨rfl, by rw [HGD.out]; exact HTT.out, HBW.out⟩
    · have hpos : 0 < S.length := by
        cases S with
        | nil => exact absurd rfl hS
        | cons => simp
      have hfew := HG.out.few
      have HSN := Lib.hid (HG.out.next HT.out hS)
      have HLE := Lib.hid (HG.out.less hS)
      obtain ⟨i1, hi1, _⟩ := HG.out.has hS
      obtain ⟨g, rfl, hBg, hgl, _⟩ := HTT.out.want hi1 0
      have HGW : Hid (g < w.heap.size) := by
        obtain ⟨g', e, _, hgl', _⟩ := HTR.out.want hi1 0
        injection e with e
        injection e with e _ _
        subst e
        exact hgl'
      have HSE := Lib.hid HG.out.these.1
      have HLN := Lib.hid HG.out.late.len
      obtain ⟨m, hm⟩ : ∃ m, m = S.length := ⟨_, rfl⟩
      have HSM := Lib.hid hm.symm
      rw [← hm] at hpos hfew ⊢
      have HOC : Hid (∀ k, k < m → ∃ gs, a = some ⟨gs, 0, none⟩ ∧ gs ≠ g ∧ gs < W.heap.size ∧ W.cell? ⟨gs, k, none⟩ = some (.int .i64 (S.getD k 0))) := fun k hk => by
        have ho := HO.out
        rw [← hm] at ho
        obtain ⟨gs, e, hg1, _, hc, _⟩ := ho.at HSM.out hk 0
        have := HGW.out
        exact ⟨gs, e, by omega, World.block_lt_of_cell? W _ hc, hc⟩
      have hmc : m ≤ c := by
        obtain ⟨a'', c'', e, hr⟩ := HO.out.sliced rfl
        injection e with _ _ e
        subst e
        rw [hm]
        exact hr.2.1
      clear hm hi1
      go_wp2_with fail
      go_loopw [19] (fun i wq => ∃ k : Nat, k ≤ m ∧ i = .int .i64 k ∧ Hid (Tr wq B b m2 m3 m4 a1 cells.length c1 (some ⟨g, 0, none⟩) c2 cells wants blocked (haltG cells now (S.take k))) ∧ Hid (But g W wq)) (fun i _ => m - (intOf i).toNat)
      case atStart => exact ⟨0, Nat.zero_le _, rfl, by rw [List.take_zero, haltG_nil HLN.out]; exact HTT.out, But.refl _ _⟩
      case round =>
        obtain ⟨k, hk, rfl, HTQ, HBU⟩ := hrel
        by_cases hlt : k < m
        · obtain ⟨gs, rfl, hgs, hgw, hcs⟩ := HOC.out k hlt
          have hcell := (HBU.out.cell (p := ⟨gs, k, none⟩) hgw hgs).trans hcs
          obtain ⟨i, hsi, hi⟩ := HSE.out (S.getD k 0) (by have := HSM.out; simp [List.getD, this, hlt])
          rw [hsi] at hcell
          have hT := HTQ.out
          have hc1 := hT.rc.2.1
          obtain ⟨bc, off', rfl, hbc, hcc⟩ := hT.rc.cells (by omega)
          have hci := hcc i hi
          have s0 := hT.s0
          have s1 := hT.s1
          have hTD := hT.calls (w' := wr.drew) (Below.refl wr.heap.size wr).drew
          obtain ⟨g', e, _, _, hfz, hcg, hT2⟩ := hTD.want hi (cells.getD i 0)
          injection e with e
          injection e with e _ _
          subst e
          have hc2 : cells.length ≤ c2 := by
            obtain ⟨a'', c'', e, hr⟩ := hT.ow.sliced hT.ln
            injection e with _ _ e
            subst e
            exact hr.2.1
          have hhs : (haltG cells now (S.take k)).set i (cells.getD i 0) = haltG cells now (S.take (k + 1)) := by
            have e1 : S.take (k + 1) = S.take k ++ [(i : Int)] := by
              rw [← hsi, List.take_succ_eq_append_getElem (by have := HSM.out; omega)]
              simp [List.getD, show k < S.length by have := HSM.out; omega]
            rw [e1, haltG_snoc]
          rw [hhs] at hT2
          have HT2 := Lib.hid hT2
          have HB3 := Lib.hid (HBU.out.drew.set (o := i) (.int .i64 (cells.getD i 0)))
          generalize cells.getD i 0 = y at hci HT2 HB3
          generalize (haltG cells now (S.take k)).getD i 0 = u at hcg
          clear hcs hcc hT hTD hT2 hhs hsi HBU HTQ
          go_wp2_with fail
          go_still_tail 13, (by kernel_rfl)
          change wpList _ _ _ _ _ wr.drew
          go_wp2_with fail
          go_roundw
          case rel => exact ⟨k + 1, by omega, by go_num, HT2.out, HB3.out⟩
          case measure => simp [intOf]; omega
        · obtain rfl : k = m := by omega
          have hT := HTQ.out
          rw [List.take_of_length_le (Nat.le_of_eq HSM.out)] at hT
          have HT3 := Lib.hid hT
          have HLT : Hid (Late cells wants (haltG cells now S)) := HSN.out.late
          have hsz := HBU.out.size
          have hrq : Hid (RowZ .i64 wr wr.heap.size a k c S) := by
            refine ⟨HSM.out, hmc, ?_, fun h0 => ?_⟩
            · obtain ⟨a'', c'', e, hr⟩ := HO.out.sliced rfl
              injection e with _ _ e
              subst e
              exact hr.2.2.1
            · obtain ⟨gs, e, hgs, hgw, _⟩ := HOC.out 0 h0
              refine ⟨gs, 0, e, by omega, fun j hj => ?_⟩
              obtain ⟨gs', e', hgs', hgw', hc'⟩ := HOC.out j hj
              obtain rfl : gs = gs' := by rw [e] at e'; injection e' with e'; injection e'
              rw [Nat.zero_add]
              exact (HBU.out.cell (p := ⟨gs, j, none⟩) hgw' hgs').trans hc'
          have HFO := Lib.hid (followers_any wr B b m2 m3 m4 c1 c2 a1 _ cells wants blocked _ hT HWC.out hn a k c wr.heap.size S hrq.out (Nat.le_refl _) HSE.out (by omega))
          have HB4 := Lib.hid (HBW.out.trans (HBU.out.below hBg (Nat.le_trans hBw HBW.out.size)))
          have hzw := HBW.out.size
          clear hT hrq HTQ
          go_wp2_with fail
          refine HFO.out.mono ?_
          rintro e w3 ⟨a3, c3, rfl, ho3, hb3⟩
          have hz3 := hb3.size
          have HTH3 := Lib.hid (HTH.out w3 (haltG cells now S) (behindG cells wants S) _ _ _ _ (HT3.out.calls hb3) (HLT.out.wf (by have := HTR.out.ln; omega) HWC.out HWW.out) (ho3.rowAt rfl) (Nat.le_refl _) (by have := behindG_len cells wants S; have := HSM.out; omega) (fun s hs => behindG_in s hs))
          have HB5 := Lib.hid (HB4.out.trans (hb3.mono (by omega)))
          have HT5 := Lib.hid (HT3.out.calls hb3)
          clear hb3 ho3
          go_wp2_with fail
          refine HTH3.out.mono ?_
          rintro e w4 ⟨a4, c4, rfl, ho4, hb4⟩
          have HB6 := Lib.hid (HB5.out.trans (hb4.mono (by omega)))
          have HT6 := Lib.hid (HT5.out.calls hb4)
          have HO4 := Lib.hid ho4
          clear ho4 hb4 HTH3
          go_wp2_with fail
          go_roundg (movers cells (haltG cells now S))
          case measure => rw [← HMV.out]; exact HLE.out
          case rel => exact ⟨_, _, a4, c4, w3.heap.size, rfl, rfl, HSN.out, HT6.out, HO4.out, by omega, HB6.out⟩
end Go.Proofs.Ytccdblbnphmpjaa.Vm
