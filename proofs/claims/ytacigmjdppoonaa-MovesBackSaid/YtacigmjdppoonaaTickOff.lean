/- The contract of ticks' iterator. -/
import Derived.Test.YtacigmjdppoonaaTickIt
namespace Go.Proofs.Ytacigmjdppoonaa.Vm
open Go Go.RowKit
set_option maxRecDepth 100000

theorem grow_drew {a b : World} {r : Option Nat} (h : a.grownBy b r) : a.grownBy b.drew r := ⟨h.os, h.tape, h.output, h.size, h.block⟩

set_option maxHeartbeats 4000000 in
theorem iterT_any (W H : Int) (g : ByteArray) (n : Nat) (hn2 : 2 ≤ n) (l : Nat) (c1 c2 c3 lo b B B0 : Nat) (a al : Option Addr) (nn cc nl cl : Nat) (cs : List Int) (ls : List (List Int)) (V : World) (hok : Okay W H g)
    (hb : b ≤ c1 ∧ b ≤ c2 ∧ b ≤ c3) (hB : c1 < B ∧ c2 < B ∧ c3 < B) (hBV : B ≤ V.heap.size) (hlo : lo ≤ B) (hbB : b ≤ B) (k1 : V.cell? ⟨c1, 0, none⟩ = some (.slice a nn cc)) (k2 : V.cell? ⟨c2, 0, none⟩ = some (.slice al nl cl)) (k3 : GridAt V c3 W H g)
    (hr : RowZ .i64 V lo a nn cc cs) (hl : RowL V lo al nl cl ls) (hnn : nn ≤ 100000) (hnl : nl ≤ 100000) (hB0 : B0 ≤ V.heap.size)
    (J Jx : Option Nat → List El → World → Prop) (hJ : ∀ r s A A', (∀ q, r = some q → V.heap.size ≤ q) → J r s A → A.grownBy A' r → J r s A') (hJx : ∀ r s A A', (∀ q, r = some q → V.heap.size ≤ q) → Jx r s A → A.grownBy A' r → Jx r s A')
    (hY : ∀ r pre x A, (∀ q, r = some q → V.heap.size ≤ q) → J r pre A → OkT W H (bytesOf g) B0 cs ls r (pre ++ [x]) A → YieldAt Fence.wide (n - 1) Try.prog l (elV x) A fun e A' =>
      (e = .returned (.bool true) ∧ ¬ BadT x ∧ J r (pre ++ [x]) A' ∧ SparesL lo b B A A') ∨ (e = .returned (.bool false) ∧ Jx r (pre ++ [x]) A'))
    (h0 : ∀ r, (∀ q, r = some q → V.heap.size ≤ q) → J r [] V) :
    CallsIn Fence.wide n Try.prog 36 #[.func (.yield l) #[] #[], .pointer (some ⟨c1, 0, none⟩), .pointer (some ⟨c2, 0, none⟩), .pointer (some ⟨c3, 0, none⟩)] V fun e A =>
      (∃ v, e = .returned v) ∧ ((∃ r xs, AllT W H (bytesOf g) cs ls xs ∧ J r xs A) ∨ (∃ r pre, SomeT W H (bytesOf g) cs ls pre ∧ Jx r pre A)) := by
  have HCL := Lib.hid (cloneZ_any a nn cc V.heap.size cs V (hr.mono (by omega)) (Nat.le_refl _) hnn)
  have HCN := Lib.hid fun (ak : Option Addr) (ck : Nat) (cur : List Int) (A : World) (h : RowZ .i64 A A.heap.size ak nn ck cur) => cloneZ_any ak nn ck A.heap.size cur A h (Nat.le_refl _) hnn
  have HLN := Lib.hid hr.1
  have HLL := Lib.hid hl.1
  have HSL : Hid (∀ A, SparesL lo b B V A → A.cell? ⟨c2, 0, none⟩ = some (.slice al nl cl) ∧ GridAt A c3 W H g ∧ RowL A lo al nl cl ls) := fun A hA =>
    ⟨hA.cell (p := ⟨c2, 0, none⟩) (.inr hb.2.1) k2, ⟨hA.cell (p := ⟨c3, 0, none⟩) (.inr hb.2.2) k3.1, hA.cell (p := ⟨c3, 1, none⟩) (.inr hb.2.2) k3.2.1, hA.cell (p := ⟨c3, 2, none⟩) (.inr hb.2.2) k3.2.2⟩, hA.rowL hl⟩
  have HMV := Lib.hid fun (ak : Option Addr) (ck : Nat) (cur ws : List Int) (a2 : Option Addr) (n2 d2 : Nat) (A : World) (ho : OwnZ A V.heap.size (.slice ak nn ck) cur) (hc : cur.length = nn) (hr2 : RowZ .i64 A V.heap.size a2 n2 d2 ws) (hV : V.heap.size ≤ A.heap.size) => move_any W H g ak a2 nn ck n2 d2 V.heap.size cur ws A hok ho hc hr2 hV hnn
  have HLO : Hid (lo ≤ V.heap.size) := by unfold Hid; omega
  have HHB := Lib.hid hb
  have HHC := Lib.hid hB
  have hc2 := hl.2.1
  have hx2 := hl.2.2.1
  unfold maxLen at hx2
  have HJ := Lib.hid hJ
  have HY := Lib.hid hY
  have HH0 := Lib.hid h0
  have HBV := Lib.hid hBV
  have HBB := Lib.hid hbB
  have HB0 := Lib.hid hB0
  clear hr hl hok k2 k3 hJ hJx hY h0 hb hB hBV hbB hB0 hlo
  refine callsIn_of_wp Try.func36 rfl trivial ?_ rfl
  simp only [Try.ntmps36, List.size_toArray, List.length_cons, List.length_nil, Nat.reduceAdd, Nat.reduceSub, Array.replicate_succ, Array.replicate_zero, List.push_toArray, List.append_toArray, List.nil_append, List.cons_append]
  gi_wp2_with fail
  refine ⟨trivial, fun _ => by omega, (callsIn_wide.2 HCL.out).mono ?_⟩
  rintro e A0 ⟨ak, ck, rfl, ho, hbA⟩
  have HR : Hid (∀ q, (Value.slice ak nn ck).ownBlock = some q → V.heap.size ≤ q) := fun q hq => (World.ownsRow.lt ho q hq).1
  have HO0 := Lib.hid (And.intro ho HLN.out)
  have HJ0 : Hid (J (Value.slice ak nn ck).ownBlock [] A0) := HJ.out _ _ _ _ HR.out (HH0.out _ HR.out) (grow_calls hbA)
  have HS0 : Hid (SparesL lo b B V A0) := (SparesL.refl lo b B V).grown (r := none) (grow_calls hbA) (fun q hq => by cases hq)
  clear ho hbA k1
  gi_wp2_with fail
  gi_loopg [6, 7] (nl + 1) (fun gg v6 v7 wr => ∃ (j : Nat) (cur : List Int) (x : Int) (pre : List El), j + gg = nl + 1 ∧ j ≤ nl ∧ v6 = .int .i64 x ∧ v7 = .int .i64 j ∧ Hid (OwnZ wr V.heap.size (.slice ak nn ck) cur ∧ cur.length = nn) ∧ Hid (Tk W H (bytesOf g) cs ls (pre.map El.ct ++ [(cur, x)])) ∧ Hid (pre.length = j ∧ ∀ y ∈ pre, y.e = 0) ∧ Hid (SparesL lo b B V wr) ∧ Hid (J (Value.slice ak nn ck).ownBlock pre wr))
  case atStart => exact ⟨0, cs, 0, [], by omega, by omega, rfl, rfl, HO0.out, .one _ _, ⟨rfl, fun y hy => by cases hy⟩, HS0.out, HJ0.out⟩
  case round =>
    obtain ⟨j, cur, x, pre, hj, hjl, rfl, rfl, HO, HT, HP, HS, HJJ⟩ := hrel
    have HC := Lib.hid (HCN.out ak ck cur wr (HO.out.1.rowAt HO.out.2))
    have hszr : V.heap.size ≤ wr.heap.size := HS.out.size
    gi_wp2_with fail
    refine ⟨trivial, fun _ => by omega, (callsIn_wide.2 HC.out).mono ?_⟩
    rintro e wa ⟨ac, c9, rfl, hoc, hba⟩
    have hOk : OkT W H (bytesOf g) B0 cs ls (Value.slice ak nn ck).ownBlock (pre ++ [⟨ac, nn, c9, x, cur⟩]) wa := by
      refine ⟨?_, fun p y hy => ?_⟩
      · rw [List.map_append]; exact HT.out
      · obtain ⟨_, e2⟩ := List.append_inj' hy rfl
        injection e2 with e2
        subst e2
        refine ⟨hoc.lower (by have := HB0.out; omega), HO.out.2, ?_⟩
        cases hob : (Value.slice ac nn c9).ownBlock with
        | none => exact .inl rfl
        | some q =>
          refine .inr fun e => ?_
          have h1 := (World.ownsRow.lt hoc q hob).1
          have h2 := (World.ownsRow.lt HO.out.1 q e.symm).2
          omega
    obtain ⟨fn, tmps, assign, body, hy, hR⟩ := HY.out _ pre ⟨ac, nn, c9, x, cur⟩ wa HR.out (HJ.out _ _ _ _ HR.out HJJ.out (grow_calls hba)) hOk
    dsimp only [elV, El.v] at hy
    have HOA := Lib.hid (And.intro (HO.out.1.calls hba) HO.out.2)
    have HSA : Hid (SparesL lo b B V wa) := HS.out.grown (r := none) (grow_calls hba) (fun q hq => by cases hq)
    clear hoc hba hOk hszr
    gi_wp2_with fail
    refine ⟨fun _ => by omega, hR.mono ?_⟩
    rintro e w3 (⟨rfl, hnb, hJ3, hsp⟩ | ⟨rfl, hJx3⟩)
    · obtain rfl : x = 0 := Classical.byContradiction fun h => hnb h
      have HO3 := Lib.hid (And.intro (hsp.ownZ HOA.out.1 (by have := HBV.out; have := HBB.out; omega)) HOA.out.2)
      have HS3 := Lib.hid (HSA.out.trans hsp)
      have HJ3 := Lib.hid hJ3
      have hsz3 : V.heap.size ≤ w3.heap.size := HS3.out.size
      obtain ⟨q2, ⟨g0, g1, g2⟩, hrl⟩ := HSL.out w3 HS3.out
      have HP2 : Hid ((pre ++ [(⟨ac, nn, c9, 0, cur⟩ : El)]).length = j + 1 ∧ ∀ y ∈ pre ++ [(⟨ac, nn, c9, 0, cur⟩ : El)], y.e = 0) := by
        refine ⟨by rw [List.length_append, HP.out.1]; rfl, fun y hy => ?_⟩
        rcases List.mem_append.1 hy with hy | hy
        · exact HP.out.2 y hy
        · obtain rfl := List.mem_singleton.1 hy; rfl
      have HT2 : Hid (Tk W H (bytesOf g) cs ls ((pre ++ [(⟨ac, nn, c9, 0, cur⟩ : El)]).map El.ct)) := by
        unfold Hid
        rw [List.map_append]
        exact HT.out
      clear hR hy hnb hJ3 hsp
      by_cases hjn : j < nl
      · obtain ⟨b2, o2, rfl, hb2, hrow⟩ := hrl.cells (by omega)
        obtain ⟨ai, ni, ci, hci, hri⟩ := hrow j hjn
        have HNX : Hid (∀ cur' x', MoveOut W H (bytesOf g) cur (ls.getD j []) cur' x' → Tk W H (bytesOf g) cs ls ((pre ++ [(⟨ac, nn, c9, 0, cur⟩ : El)]).map El.ct ++ [(cur', x')])) := fun cur' x' hm => by
          refine HT2.out.snoc (p := pre.map El.ct) (cur := cur) (w := ls.getD j []) (by rw [List.map_append]; rfl) ?_ hm
          rw [List.length_map, HP.out.1]
          have : j < ls.length := by rw [HLL.out]; exact hjn
          simp [List.getD, this]
        have hc2l : c2 < w3.heap.size := by have := HHC.out; have := HBV.out; omega
        have hc3l : c3 < w3.heap.size := by have := HHC.out; have := HBV.out; omega
        have hb2l : b2 < w3.heap.size := by have := HLO.out; omega
        have HK : Hid (∀ A, w3.grownBy A (Value.slice ak nn ck).ownBlock → (w3.grownBy A (Value.slice ak nn ck).ownBlock ∧ (A.cell? ⟨c3, 0, none⟩ = some (.int .i64 W) ∧ A.cell? ⟨c3, 1, none⟩ = some (.int .i64 H) ∧ A.cell? ⟨c3, 2, none⟩ = some (.string g)) ∧ A.cell? ⟨c2, 0, none⟩ = some (.slice (some ⟨b2, o2, none⟩) nl cl) ∧ A.cell? ⟨b2, o2 + j, none⟩ = some (.slice ai ni ci))) := fun A hA => by
          have hk : ∀ (k o : Nat), k < V.heap.size → A.cell? ⟨k, o, none⟩ = w3.cell? ⟨k, o, none⟩ := fun k o hk => World.cell?_of_block (w := w3) (hA.block k (by omega) (fun e => by have := HR.out k e.symm; omega))
          have h3 : c3 < V.heap.size := by have := HHC.out; have := HBV.out; omega
          have h2 : c2 < V.heap.size := by have := HHC.out; have := HBV.out; omega
          have h4 : b2 < V.heap.size := by have := HLO.out; omega
          exact ⟨hA, ⟨(hk c3 0 h3).trans g0, (hk c3 1 h3).trans g1, (hk c3 2 h3).trans g2⟩, (hk c2 0 h2).trans q2, (hk b2 _ h4).trans hci⟩
        have HMC : Hid (∀ A, Kept w3 A → Calls Try.prog 24 #[gridV W H g, .slice ak nn ck, .slice ai ni ci] A fun e A' => ∃ x L, e = .returned (.int .i64 x) ∧ (MoveOut W H (bytesOf g) cur (ls.getD j []) L x ∧ L.length = nn ∧ OwnZ A' V.heap.size (.slice ak nn ck) L ∧ w3.grownBy A' (Value.slice ak nn ck).ownBlock)) := fun A hA =>
          (HMV.out ak ck cur _ ai ni ci A (HO3.out.1.calls hA) HO3.out.2 ((hri.mono (by have := HLO.out; omega)).below (Below.mono hA hsz3)) (Nat.le_trans hsz3 (Below.size hA))).mono fun e A' ⟨x, L, h1, h2, h3, h4, h5⟩ => ⟨x, L, h1, h2, h3, h4, grow_trans (grow_calls hA) h5⟩
        have hji : (j : Int) < (nl : Int) := by omega
        have kk : Kept w3 w3 := Kept.refl _
        clear hrow hri hrl
        have kg : w3.grownBy w3 (Value.slice ak nn ck).ownBlock := .refl _ _
        gi_wp2_with fail
        refine wpIn_wide.2 ?_
        go_region_held3 (fun A => w3.grownBy A (Value.slice ak nn ck).ownBlock ∧ (A.cell? ⟨c3, 0, none⟩ = some (.int .i64 W) ∧ A.cell? ⟨c3, 1, none⟩ = some (.int .i64 H) ∧ A.cell? ⟨c3, 2, none⟩ = some (.string g)) ∧ A.cell? ⟨c2, 0, none⟩ = some (.slice (some ⟨b2, o2, none⟩) nl cl) ∧ A.cell? ⟨b2, o2 + j, none⟩ = some (.slice ai ni ci))
          (first | exact HK.out _ (by assumption) | exact HK.out _ (grow_drew (by assumption)))
          (first | (go_at_call 24; refine (HMC.out _ (by first | exact kk | exact Kept.drew kk)).mono ?_; rintro e w5 ⟨x5, L5, rfl, hm5, hl5, ho5, hg5⟩))
        have HT5 := Lib.hid (HNX.out L5 x5 hm5)
        have HO5 := Lib.hid (And.intro ho5 hl5)
        have HS5 : Hid (SparesL lo b B V w5) := HS3.out.grown hg5 HR.out
        have HJ5 : Hid (J (Value.slice ak nn ck).ownBlock (pre ++ [(⟨ac, nn, c9, 0, cur⟩ : El)]) w5) := HJ.out _ _ _ _ HR.out HJ3.out hg5
        clear hm5 hl5 ho5 hg5 kg kk g0 g1 g2 q2 hci
        gi_wp2_with fail
        gi_roundg (gk - 1)
        case rel => exact ⟨j + 1, L5, x5, _, by omega, by omega, rfl, by go_num, HO5.out, HT5.out, HP2.out, HS5.out, HJ5.out⟩
        case measure => omega
      · obtain rfl : j = nl := by omega
        gi_wp2_with fail
        go_end0
        exact ⟨⟨_, rfl⟩, .inl ⟨_, _, ⟨HT2.out, by rw [HP2.out.1, HLL.out], HP2.out.2⟩, HJ3.out⟩⟩
    · have HSM : Hid (SomeT W H (bytesOf g) cs ls (pre ++ [(⟨ac, nn, c9, x, cur⟩ : El)])) := by
        unfold Hid SomeT
        rw [List.map_append]
        exact HT.out
      have HJX := Lib.hid hJx3
      clear hR hy hJx3
      gi_wp2_with fail
      go_end0
      exact ⟨⟨_, rfl⟩, .inr ⟨_, _, HSM.out, HJX.out⟩⟩
end Go.Proofs.Ytacigmjdppoonaa.Vm
