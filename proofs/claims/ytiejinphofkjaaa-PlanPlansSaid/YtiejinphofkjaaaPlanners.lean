/- The contracts of plan's newPlanner and of planner.field. The contracts of planner.field and planner.forget. The contracts of search.permits and search.cost. What plan's search says: how a path goes on, what is known, the world of a search. -/
import Derived.Test.YtiejinphofkjaaaTraffic
import Derived.Test.YtiejinphofkjaaaRefPaths
import Derived.Test.YtiejinphofkjaaaFars
import Derived.Test.YtiejinphofkjaaaWays
namespace Go.Proofs.Ytiejinphofkjaaa.Vm
open Go Go.RowKit Go.Maps
set_option maxRecDepth 100000

abbrev plV (W H : Int) (s : ByteArray) (a : Option Addr) (n c cb pb mb fb : Nat) : Value := .agg #[.int .i64 W, .int .i64 H, .string s, .slice a n c, .map (some cb), .map (some pb), .map (some mb), .map (some fb)]
abbrev plO (W H : Int) (s : ByteArray) (a : Option Addr) (n c cb pb mb fb : Nat) : Obj := .cells #[.int .i64 W, .int .i64 H, .string s, .slice a n c, .map (some cb), .map (some pb), .map (some mb), .map (some fb)] 55
theorem make_setN (t : TypeId) (w : World) : (Instr.makeMap t none).run Try.prog w = .ok (.map (some w.heap.size)) (w.alloc (.map #[] 0)) := by
  simp [Instr.makeMap, go_sem, Result.andThen]

theorem GridAt.but {lb b : Nat} {A V : World} {W H : Int} {s : ByteArray} (h : GridAt A b W H s) (hb : But lb A V) (hlt : b < A.heap.size) (hne : b ≠ lb) : GridAt V b W H s :=
  h.same (hb.block b hlt (by intro e; injection e with e; exact hne e))

theorem cell_new (w : World) (cs : Array Value) (t : TypeId) {k i : Nat} (hk : k = w.heap.size) {v : Value} (hv : cs[i]? = some v) : (w.alloc (.cells cs t)).cell? ⟨k, i, none⟩ = some v := by
  subst hk
  have e : (w.alloc (.cells cs t)).heap[w.heap.size]? = some (.cells cs t (0, 0)) := by
    show (w.heap.push _)[w.heap.size]? = _
    rw [Array.getElem?_push, if_pos rfl]
  unfold World.cell?
  rw [e]
  exact hv
theorem below_set8 {B b : Nat} {a V : World} (h : Below B a V) (hb : B ≤ b) (v0 v1 v2 v3 v4 v5 v6 v7 : Value) : Below B a ((((((((V.setCell ⟨b, 0, none⟩ v0).setCell ⟨b, 1, none⟩ v1).setCell ⟨b, 2, none⟩ v2).setCell ⟨b, 3, none⟩ v3).setCell ⟨b, 4, none⟩ v4).setCell ⟨b, 5, none⟩ v5).setCell ⟨b, 6, none⟩ v6).setCell ⟨b, 7, none⟩ v7) :=
  (((((((h.setCell (p := ⟨b, 0, none⟩) hb v0).setCell (p := ⟨b, 1, none⟩) hb v1).setCell (p := ⟨b, 2, none⟩) hb v2).setCell (p := ⟨b, 3, none⟩) hb v3).setCell (p := ⟨b, 4, none⟩) hb v4).setCell (p := ⟨b, 5, none⟩) hb v5).setCell (p := ⟨b, 6, none⟩) hb v6).setCell (p := ⟨b, 7, none⟩) hb v7
theorem heap_set8 {b k : Nat} (V : World) (hk : k ≠ b) (v0 v1 v2 v3 v4 v5 v6 v7 : Value) : ((((((((V.setCell ⟨b, 0, none⟩ v0).setCell ⟨b, 1, none⟩ v1).setCell ⟨b, 2, none⟩ v2).setCell ⟨b, 3, none⟩ v3).setCell ⟨b, 4, none⟩ v4).setCell ⟨b, 5, none⟩ v5).setCell ⟨b, 6, none⟩ v6).setCell ⟨b, 7, none⟩ v7).heap[k]? = V.heap[k]? := by
  exact (Below.heap_setCell _ ⟨b, 7, none⟩ _ k hk).trans ((Below.heap_setCell _ ⟨b, 6, none⟩ _ k hk).trans ((Below.heap_setCell _ ⟨b, 5, none⟩ _ k hk).trans ((Below.heap_setCell _ ⟨b, 4, none⟩ _ k hk).trans ((Below.heap_setCell _ ⟨b, 3, none⟩ _ k hk).trans ((Below.heap_setCell _ ⟨b, 2, none⟩ _ k hk).trans ((Below.heap_setCell _ ⟨b, 1, none⟩ _ k hk).trans (Below.heap_setCell _ ⟨b, 0, none⟩ _ k hk)))))))

set_option maxHeartbeats 1000000 in
theorem newPlanner_any (W H : Int) (s : ByteArray) (a : Option Addr) (n c B : Nat) (bl : List Int) (w : World) (h : RowZ .i64 w B a n c bl) (hB : B ≤ w.heap.size) (hw : WfZ bl) (hn : n ≤ 100000) :
    Calls Try.prog 20 #[gridV W H s, .slice a n c] w fun e w' => ∃ cb pb mb fb, e = .returned (plV W H s a n c cb pb mb fb) ∧ (w.heap.size ≤ cb ∧ cb < pb ∧ pb < mb ∧ mb < fb) ∧ ShutIn w' cb n bl ∧ TrafIn w' pb mb 0 [] ∧ KIn fieldM w' fb 0 (fun _ => none) ∧ Below w.heap.size w w' := by
  obtain ⟨w0, hw0⟩ : ∃ w0, w0 = (w.alloc (.cells #[.int .i64 W, .int .i64 H, .string s] 23)).alloc (.cells #[.int .i64 0, .int .i64 0, .string ⟨#[]⟩, .slice none 0 0, .map none, .map none, .map none, .map none] 55) := ⟨_, rfl⟩
  have hb0 : Below w.heap.size w w0 := by rw [hw0]; exact ((Below.refl _ _).alloc (Nat.le_refl _) _).alloc (by simp) _
  have hz0 : w0.heap.size = w.heap.size + 2 := by rw [hw0]; simp
  have g0 : GridAt w0 w.heap.size W H s := by
    rw [hw0]
    exact (gridAt_new w W H s).below ((Below.refl _ _).alloc (Nat.le_refl _) _) (by simp)
  have f0 : ∀ i, w0.frozen? ⟨w.heap.size + 1, i, none⟩ = false := fun i => by rw [hw0]; simp
  have z0 : ∀ i, i < 8 → w0.cell? ⟨w.heap.size + 1, i, none⟩ = some (#[Value.int .i64 0, .int .i64 0, .string ⟨#[]⟩, .slice none 0 0, .map none, .map none, .map none, .map none].getD i (.int .i64 0)) := fun i hi => by
    rw [hw0]
    have hX : (w.alloc (.cells #[.int .i64 W, .int .i64 H, .string s] 23)).heap.size = w.heap.size + 1 := by simp
    rw [← hX]
    match i, hi with
    | 0, _ => simp
    | 1, _ => simp
    | 2, _ => simp
    | 3, _ => simp
    | 4, _ => simp
    | 5, _ => simp
    | 6, _ => simp
    | 7, _ => simp
  have hmm := make_setI n w0
  have hb1 : Below w.heap.size w (w0.alloc (.map #[] 0)) := hb0.alloc hb0.size _
  have hs1 : ShutIn (w0.alloc (.map #[] 0)) (w.heap.size + 2) 0 (bl.take 0) := by
    have := World.ownsMap_made w0 Try.prog 3 (unitElem (H := Unit))
    rw [hz0] at this
    exact this
  have hz1 : (w0.alloc (.map #[] 0)).heap.size = w.heap.size + 3 := by simp [hz0]
  have hbb1 : Below (w.heap.size + 2) w0 (w0.alloc (.map #[] 0)) := (Below.refl _ _).alloc (by omega) _
  rw [hz0, hw0] at hmm
  rw [hw0] at hs1 hb1 hz1 hbb1
  generalize hW1 : ((w.alloc (.cells #[.int .i64 W, .int .i64 H, .string s] 23)).alloc (.cells #[.int .i64 0, .int .i64 0, .string ⟨#[]⟩, .slice none 0 0, .map none, .map none, .map none, .map none] 55)).alloc (.map #[] 0) = w1 at hmm hs1 hb1 hz1 hbb1
  rw [← hw0] at hbb1
  have hl := h.1
  have HCS := Lib.hid (fun h' => h.cells h')
  have hc1 := h.2.1
  have HW := Lib.hid hw
  have HB1 := Lib.hid hb1
  have HS1 := Lib.hid hs1
  have HBB := Lib.hid hbb1
  have HG0 := Lib.hid (g0.below hbb1 (by omega))
  have HF0 := Lib.hid fun i => (hbb1.frozen (p := ⟨w.heap.size + 1, i, none⟩) (by simp)).trans (f0 i)
  have HC0 := Lib.hid fun i (hi : i < 8) => (hbb1.cell (p := ⟨w.heap.size + 1, i, none⟩) (by simp)).trans (z0 i hi)
  clear hw h hb0 hw0 hb1 hs1 hbb1 g0 f0 hW1 hz0 z0
  go_enter Try.func20, Try.ntmps20
  go_wp2_with fail
  clear hmm
  go_loopw [14] (fun i wr => ∃ k : Nat, k ≤ n ∧ i = .int .i64 k ∧ Hid (ShutIn wr (w.heap.size + 2) k (bl.take k)) ∧ Hid (But (w.heap.size + 2) w1 wr)) (fun i _ => n - (intOf i).toNat)
  case atStart => exact ⟨0, Nat.zero_le _, rfl, HS1.out, But.refl _ _⟩
  case round =>
    obtain ⟨k, hk, rfl, HM, HBU⟩ := hrel
    have hbel := HB1.out.trans (HBU.out.below (B := w.heap.size) (by omega) (by omega))
    by_cases hlt : k < n
    · obtain ⟨b, off, rfl, hb, hcs⟩ := HCS.out (by omega)
      have hcell := (hbel.cell (p := ⟨b, off + k, none⟩) (show b < w.heap.size by omega)).trans (hcs k hlt)
      obtain ⟨w2, hrun, hm1, hg1⟩ := HM.out.put (by omega) (by omega) (HW.out.at k (by omega))
      have HM1 := Lib.hid hm1
      have HBU1 := Lib.hid (HBU.out.trans hg1)
      generalize bl.getD k 0 = z at hcell hrun
      clear hcs hm1 hg1 hbel
      go_wp2_with fail
      go_roundw
      case rel => exact ⟨k + 1, by omega, by go_num, HM1.out, HBU1.out⟩
      case measure => simp [intOf]; omega
    · obtain rfl : k = n := by omega
      have HM2 := HM.out
      rw [List.take_of_length_le (by omega)] at HM2
      have HMM := Lib.hid HM2
      have hsz := HBU.out.size
      have hbg := HG0.out
      have m1 : (Instr.makeMap 49 none).run Try.prog wr = .ok (.map (some wr.heap.size)) (wr.alloc (.map #[] 0)) := make_setN _ wr
      have m2 : (Instr.makeMap 50 none).run Try.prog (wr.alloc (.map #[] 0)) = .ok (.map (some (wr.heap.size + 1))) ((wr.alloc (.map #[] 0)).alloc (.map #[] 0)) := by
        have := make_setN 50 (wr.alloc (.map #[] 0))
        rw [show (wr.alloc (.map #[] 0)).heap.size = wr.heap.size + 1 by simp] at this
        exact this
      obtain ⟨g0, g1, g2⟩ := HG0.out.but (lb := w.heap.size + 2) HBU.out (by omega) (by omega)
      have hf0 : ∀ i, wr.frozen? ⟨w.heap.size + 1, i, none⟩ = false := fun i => (World.frozen?_of_block (HBU.out.block (w.heap.size + 1) (by omega) (by intro e; injection e with e; omega))).trans (HF0.out i)
      have hc0 : Hid (∀ i, i < 8 → wr.cell? ⟨w.heap.size + 1, i, none⟩ = some (#[Value.int .i64 0, .int .i64 0, .string ⟨#[]⟩, .slice none 0 0, .map none, .map none, .map none, .map none].getD i (.int .i64 0))) := fun i hi =>
        (World.cell?_of_block (HBU.out.block (w.heap.size + 1) (by omega) (by intro e; injection e with e; omega))).trans (HC0.out i hi)
      obtain ⟨V, hV⟩ : ∃ V, V = ((wr.alloc (.map #[] 0)).alloc (.map #[] 0)).alloc (.cells #[.map (some wr.heap.size), .map (some (wr.heap.size + 1))] 52) := ⟨_, rfl⟩
      have hbV : Below wr.heap.size wr V := by rw [hV]; exact (((Below.refl _ _).alloc (Nat.le_refl _) _).alloc (by simp) _).alloc (by simp; omega) _
      have hzV : V.heap.size = wr.heap.size + 3 := by rw [hV]; simp
      have HP0 : Hid (KIn placeM V wr.heap.size 0 (plF [])) := by
        have := kIn_new placeM wr (f := plF []) plF_nil
        refine KIn.keep this ?_
        rw [hV]
        have h1 : wr.heap.size < (wr.alloc (.map #[] 0)).heap.size := by simp
        rw [Below.heap_alloc _ _ _ (by simp; omega), Below.heap_alloc _ _ _ h1]
      have HM0 : Hid (KIn stepM V (wr.heap.size + 1) 0 (mvF [])) := by
        have := kIn_new stepM (wr.alloc (.map #[] 0)) (f := mvF []) mvF_nil
        rw [show (wr.alloc (.map #[] 0)).heap.size = wr.heap.size + 1 by simp] at this
        refine KIn.keep this ?_
        rw [hV]
        rw [Below.heap_alloc _ _ _ (by simp)]
      have hF0 := kIn_new fieldM V (f := fun _ => none) (fun _ => rfl)
      have m3 := make_setN 53 V
      have k0 := (hbV.cell (p := ⟨w.heap.size, 0, none⟩) (show w.heap.size < wr.heap.size by omega)).trans g0
      have k1 := (hbV.cell (p := ⟨w.heap.size, 1, none⟩) (show w.heap.size < wr.heap.size by omega)).trans g1
      have k2 := (hbV.cell (p := ⟨w.heap.size, 2, none⟩) (show w.heap.size < wr.heap.size by omega)).trans g2
      have t0 : V.cell? ⟨wr.heap.size + 1 + 1, 0, none⟩ = some (.map (some wr.heap.size)) := by rw [hV]; exact cell_new _ _ _ (by simp) rfl
      have t1 : V.cell? ⟨wr.heap.size + 1 + 1, 1, none⟩ = some (.map (some (wr.heap.size + 1))) := by rw [hV]; exact cell_new _ _ _ (by simp) rfl
      have hfV : ∀ i, (V.alloc (.map #[] 0)).frozen? ⟨w.heap.size + 1, i, none⟩ = false := fun i => by
        rw [((Below.refl V.heap.size V).alloc (Nat.le_refl _) (.map #[] 0)).frozen (p := ⟨w.heap.size + 1, i, none⟩) (show w.heap.size + 1 < V.heap.size by omega)]
        rw [hbV.frozen (p := ⟨w.heap.size + 1, i, none⟩) (show w.heap.size + 1 < wr.heap.size by omega)]
        exact hf0 i
      have hcV : ∀ i, (V.alloc (.map #[] 0)).cell? ⟨w.heap.size + 1, i, none⟩ = wr.cell? ⟨w.heap.size + 1, i, none⟩ := fun i => by
        rw [((Below.refl V.heap.size V).alloc (Nat.le_refl _) (.map #[] 0)).cell (p := ⟨w.heap.size + 1, i, none⟩) (show w.heap.size + 1 < V.heap.size by omega)]
        exact hbV.cell (p := ⟨w.heap.size + 1, i, none⟩) (show w.heap.size + 1 < wr.heap.size by omega)
      have z0 := (hcV 0).trans (hc0.out 0 (by omega))
      have z1 := (hcV 1).trans (hc0.out 1 (by omega))
      have z2 := (hcV 2).trans (hc0.out 2 (by omega))
      have z3 := (hcV 3).trans (hc0.out 3 (by omega))
      have z4 := (hcV 4).trans (hc0.out 4 (by omega))
      have z5 := (hcV 5).trans (hc0.out 5 (by omega))
      have z6 := (hcV 6).trans (hc0.out 6 (by omega))
      have z7 := (hcV 7).trans (hc0.out 7 (by omega))
      have HFIN : Hid (KIn fieldM (V.alloc (.map #[] 0)) (wr.heap.size + 3) 0 (fun _ => none)) := by unfold Hid; rw [← hzV]; exact hF0
      have HBV := Lib.hid hbV
      have HZV := Lib.hid hzV
      rw [hzV] at m3
      rw [hV] at m3 k0 k1 k2 t0 t1 hfV z0 z1 z2 z3 z4 z5 z6 z7
      have HV := Lib.hid hV
      clear hF0 hbV hzV hcV
      clear hV hf0 hbg
      go_wp2_with fail
      refine bodyPost_ret (v := plV W H s a k c (w.heap.size + 2) wr.heap.size (wr.heap.size + 1) (wr.heap.size + 3)) (by simp [results, Try.results20, go_sem, z0, z1, z2, z3, z4, z5, z6, z7]) rfl ⟨_, _, _, _, rfl, ⟨by omega, by omega, by omega, by omega⟩, ?_, ⟨?_, ?_, by omega⟩, ?_, ?_⟩
      all_goals rw [← HV.out]
      · exact HMM.out.keep ((heap_set8 _ (by omega) _ _ _ _ _ _ _ _).trans ((Below.heap_alloc _ _ _ (by have := HZV.out; omega)).trans (HBV.out.block _ (by omega))))
      · exact HP0.out.keep ((heap_set8 _ (by omega) _ _ _ _ _ _ _ _).trans (Below.heap_alloc _ _ _ (by have := HZV.out; omega)))
      · exact HM0.out.keep ((heap_set8 _ (by omega) _ _ _ _ _ _ _ _).trans (Below.heap_alloc _ _ _ (by have := HZV.out; omega)))
      · exact HFIN.out.keep (heap_set8 _ (by omega) _ _ _ _ _ _ _ _)
      · exact below_set8 ((hbel.trans (HBV.out.mono (by omega))).alloc (by have := HZV.out; omega) _) (by omega) _ _ _ _ _ _ _ _
end Go.Proofs.Ytiejinphofkjaaa.Vm

namespace Go.Proofs.Ytiejinphofkjaaa.Vm
open Go Go.RowKit Go.Maps
set_option maxRecDepth 100000

/-- The fields of goals that have been found. -/
def FldIn (w : World) (fb n : Nat) (W H : Int) (s : ByteArray) (bl : List Int) : Prop :=
  ∃ f : Int → Option (Nat × Nat), KIn fieldM w fb n f ∧ ∀ z, wfI z → ∀ r, f z = some r → floorS (bytesOf s) z = true ∧ r.2 = s.size ∧ RowZ .i64 w w.heap.size (some ⟨r.1, 0, none⟩) s.size s.size (fieldG W H (bytesOf s) bl z)
section
variable {w w' : World} {fb n : Nat} {W H : Int} {s : ByteArray} {bl : List Int}
theorem FldIn.isMap (h : FldIn w fb n W H s bl) : MapAt w fb := by obtain ⟨f, h, _⟩ := h; exact h.isMap
theorem FldIn.lt (h : FldIn w fb n W H s bl) : fb < w.heap.size := by obtain ⟨f, h, _⟩ := h; exact h.lt
theorem FldIn.less {m : Nat} (h : FldIn w fb n W H s bl) (hm : n ≤ m) : FldIn w fb m W H s bl := by obtain ⟨f, h, h'⟩ := h; exact ⟨f, h.less hm, h'⟩
theorem FldIn.alt {S : Nat → Prop} (h : FldIn w fb n W H s bl) (hA : Alt S w w') (hS : ∀ k, S k → MapAt w k) (hne : ¬ S fb) : FldIn w' fb n W H s bl := by
  obtain ⟨f, h1, h2⟩ := h
  refine ⟨f, h1.keep (hA.block _ h1.lt hne), fun z hz r hr => ?_⟩
  obtain ⟨h3, h4, h5⟩ := h2 z hz r hr
  exact ⟨h3, h4, (hA.rowZ hS h5).mono hA.size⟩
theorem FldIn.calls (h : FldIn w fb n W H s bl) (hb : Below w.heap.size w w') : FldIn w' fb n W H s bl := h.alt (S := fun _ => False) (.ofBelow hb) (fun _ h => h.elim) (fun h => h)
theorem fldIn_new (h : KIn fieldM w fb n (fun _ => none)) : FldIn w fb n W H s bl := ⟨_, h, fun z _ r hr => by cases hr⟩
end
theorem ret_si {a : Option Addr} {n c : Nat} {b b' : Bool} (h : b = b') : Ending.returned (.tuple #[.slice a n c, .bool b]) = .returned (.tuple #[.slice a n c, .bool b']) := by rw [h]

set_option maxHeartbeats 1000000 in
theorem plField_any (W H to : Int) (s : ByteArray) (a : Option Addr) (n c cb pb mb fb m B : Nat) (bl : List Int) (w : World) (hok : Okay W H s) (hr : RowZ .i64 w B a n c bl) (hB : B ≤ w.heap.size) (hw : WfZ bl) (hn : n ≤ 100000) (hF : FldIn w fb m W H s bl) (hm : m ≤ 1000000) (hto : wfI to) :
    Calls Try.prog 37 #[plV W H s a n c cb pb mb fb, .int .i64 to] w fun e w' =>
      ((floorS (bytesOf s) to = false ∧ e = .returned (.tuple #[.slice none 0 0, .bool false])) ∨ (floorS (bytesOf s) to = true ∧ ∃ lb, e = .returned (.tuple #[.slice (some ⟨lb, 0, none⟩) s.size s.size, .bool true]) ∧ RowZ .i64 w' w'.heap.size (some ⟨lb, 0, none⟩) s.size s.size (fieldG W H (bytesOf s) bl to))) ∧
        FldIn w' fb (m + 1) W H s bl ∧ Alt (fun k => k = fb) w w' := by
  obtain ⟨w0, hw0⟩ : ∃ w0, w0 = w.alloc (plO W H s a n c cb pb mb fb) := ⟨_, rfl⟩
  have hb0 : Below w.heap.size w w0 := by rw [hw0]; exact (Below.refl _ _).alloc (Nat.le_refl _) _
  have hz0 : w0.heap.size = w.heap.size + 1 := by rw [hw0]; simp
  have q0 : w0.cell? ⟨w.heap.size, 0, none⟩ = some (.int .i64 W) := by rw [hw0]; exact cell_new _ _ _ rfl rfl
  have q1 : w0.cell? ⟨w.heap.size, 1, none⟩ = some (.int .i64 H) := by rw [hw0]; exact cell_new _ _ _ rfl rfl
  have q2 : w0.cell? ⟨w.heap.size, 2, none⟩ = some (.string s) := by rw [hw0]; exact cell_new _ _ _ rfl rfl
  have q3 : w0.cell? ⟨w.heap.size, 3, none⟩ = some (.slice a n c) := by rw [hw0]; exact cell_new _ _ _ rfl rfl
  have q7 : w0.cell? ⟨w.heap.size, 7, none⟩ = some (.map (some fb)) := by rw [hw0]; exact cell_new _ _ _ rfl rfl
  have hF0 := hF.calls hb0
  have hF0c := hF0
  obtain ⟨f, hK, hAll⟩ := hF0c
  have hlook : (Instr.lookup 53 (.map (some fb)) (.int .i64 to) true).run Try.prog w0 = .ok (.tuple #[fieldM.at (f to), .bool (f to).isSome]) w0 := hK.look fieldL hto
  have hfb : fb < w.heap.size := hF.lt
  have HB0 := Lib.hid hb0
  have HF0 := Lib.hid hF0
  cases hft : f to with
  | some r =>
    obtain ⟨e1, e2, e3⟩ := hAll to hto r hft
    obtain ⟨rb, rn⟩ := r
    simp only [] at e2
    subst e2
    have HY : Hid (floorS (bytesOf s) to = true) := e1
    have HR := Lib.hid e3
    rw [hft] at hlook
    have hlook : (Instr.lookup 53 (.map (some fb)) (.int .i64 to) true).run Try.prog w0 = .ok (.tuple #[.slice (some ⟨rb, 0, none⟩) s.size s.size, .bool true]) w0 := hlook
    rw [hw0] at hlook q7
    have HW0 := Lib.hid hw0
    clear e1 e3 hft hAll hK hF hF0 hb0 hw0
    go_enter Try.func37, Try.ntmps37
    go_wp2_with fail
    go_ret2
    rw [← HW0.out]
    exact ⟨.inr ⟨HY.out, _, rfl, HR.out⟩, HF0.out.less (by omega), .ofBelow HB0.out⟩
  | none =>
    rw [hft] at hlook
    have hlook : (Instr.lookup 53 (.map (some fb)) (.int .i64 to) true).run Try.prog w0 = .ok (.tuple #[.slice none 0 0, .bool false]) w0 := hlook
    have hle := hok.le
    have HW0 := Lib.hid hw0
    cases hfl : floorS (bytesOf s) to with
    | false =>
      have HC := Lib.hid (field_no W H to s a n c w0 (by unfold maxLen; omega) hfl)
      have HY : Hid (floorS (bytesOf s) to = false) := hfl
      rw [hw0] at hlook q0 q1 q2 q3 q7
      clear hft hAll hK hF hF0 hb0 hfl hw0
      go_enter Try.func37, Try.ntmps37
      go_wp2_with fail
      rw [← HW0.out]
      refine HC.out.mono ?_
      rintro e w1 ⟨rfl, hb1⟩
      have HB1 := Lib.hid hb1
      clear hb1
      go_wp2_with fail
      go_ret2
      exact ⟨.inl ⟨by first | rfl | trivial, rfl⟩, (HF0.out.calls HB1.out).less (by omega), .ofBelow (HB0.out.trans (HB1.out.mono HB0.out.size))⟩
    | true =>
      have hin := floorS_in hfl
      obtain ⟨t, rfl⟩ := Int.eq_ofNat_of_zero_le hin.1
      have HC := Lib.hid (field_yes W H t s bl a n c B w0 hok hfl (hr.below (hb0.mono hB)) (Nat.le_trans hB hb0.size) hw (by omega))
      have HY : Hid (floorS (bytesOf s) (t : Int) = true) := hfl
      have HQ7 := Lib.hid q7
      have HTO := Lib.hid hto
      have HK := Lib.hid hK
      have HAll := Lib.hid hAll
      rw [hw0] at hlook q0 q1 q2 q3 q7
      clear hft hAll hK hF hF0 hb0 hfl hin hw0
      go_enter Try.func37, Try.ntmps37
      go_wp2_with fail
      rw [← HW0.out]
      refine HC.out.mono ?_
      rintro e w1 ⟨lb, l, rfl, hfd, hnum, hb1⟩
      have hll : l.length = s.size := hfd.1
      have HL : Hid (l = fieldG W H (bytesOf s) bl (t : Int)) := IsField.only (N := s.size) hfd (by have := fieldG_is W H (bytesOf s) bl (t : Int); rw [bytesOf_len, Int.toNat_natCast] at this; exact this)
      have hrow := hnum.row
      rw [hll] at hrow
      obtain ⟨w2, hrun, hK2, hg2, hz2⟩ := (HK.out.keep (hb1.block fb (by omega))).put fieldL (a := (t : Int)) (b := (lb, s.size)) (by omega) HTO.out trivial
      have hrun : (Instr.mapUpdate 53 (.map (some fb)) (.int .i64 (t : Nat)) (.slice (some ⟨lb, 0, none⟩) s.size s.size)).run Try.prog w1 = .ok () w2 := hrun
      have hc7 := (hb1.cell (p := ⟨w.heap.size, 7, none⟩) (show w.heap.size < w0.heap.size by omega)).trans HQ7.out
      have hA1 : Alt (fun k => k = fb) w0 w1 := .ofBelow hb1
      have hA2 : Alt (fun k => k = fb) w1 w2 := (Alt.refl _ w1).grown hg2 (fun _ => rfl)
      have hS1 : ∀ k, (fun k => k = fb) k → MapAt w1 k := fun k hk => by
        have hk : k = fb := hk
        subst hk
        exact (HK.out.keep (hb1.block k (by omega))).isMap
      have HROW := Lib.hid ((hA2.rowZ hS1 hrow).mono hA2.size)
      have HFF : Hid (FldIn w2 fb (m + 1) W H s bl) := by
        refine ⟨_, hK2, fun z hz r hr => ?_⟩
        by_cases e : z = (t : Int)
        · subst e
          rw [if_pos rfl] at hr
          injection hr with hr
          subst hr
          exact ⟨HY.out, rfl, by rw [← HL.out]; exact HROW.out⟩
        · rw [if_neg e] at hr
          obtain ⟨h3, h4, h5⟩ := HAll.out z hz r hr
          exact ⟨h3, h4, (hA2.rowZ hS1 ((h5.below hb1).mono hb1.size)).mono hA2.size⟩
      have HAF := Lib.hid (((Alt.ofBelow HB0.out).trans hA1 (fun k hk _ => hk)).trans hA2 (fun k hk _ => hk))
      clear hfd hnum hb1 hK2 hg2 hA1 hA2 hrow hS1
      go_wp2_with fail
      go_ret2
      exact ⟨.inr ⟨by first | rfl | trivial, _, rfl, by rw [← HL.out]; exact HROW.out⟩, HFF.out, HAF.out⟩

set_option maxHeartbeats 1000000 in
theorem forget_any (W H to : Int) (s : ByteArray) (a : Option Addr) (n c cb pb mb fb m : Nat) (bl : List Int) (w : World) (hF : FldIn w fb m W H s bl) (hto : wfI to) :
    Calls Try.prog 31 #[plV W H s a n c cb pb mb fb, .int .i64 to] w fun e w' => e = .returned (.tuple #[]) ∧ FldIn w' fb m W H s bl ∧ Alt (fun k => k = fb) w w' := by
  obtain ⟨w0, hw0⟩ : ∃ w0, w0 = w.alloc (plO W H s a n c cb pb mb fb) := ⟨_, rfl⟩
  have hb0 : Below w.heap.size w w0 := by rw [hw0]; exact (Below.refl _ _).alloc (Nat.le_refl _) _
  have q7 : w0.cell? ⟨w.heap.size, 7, none⟩ = some (.map (some fb)) := by rw [hw0]; exact cell_new _ _ _ rfl rfl
  obtain ⟨f, hK, hAll⟩ := hF.calls hb0
  obtain ⟨w2, hrun, hK2, hg2, hz2⟩ := hK.drop fieldL 0 hto
  have hrun : (Builtin.delete_ #[53, 3] 0 #[.map (some fb), .int .i64 to]).run Try.prog w0 = .ok (.tuple #[]) w2 := hrun
  have hA2 : Alt (fun k => k = fb) w0 w2 := (Alt.refl _ w0).grown hg2 (fun _ => rfl)
  have hS1 : ∀ k, (fun k => k = fb) k → MapAt w0 k := fun k hk => by
    have hk : k = fb := hk
    subst hk
    exact hK.isMap
  have HFF : Hid (FldIn w2 fb m W H s bl) := by
    refine ⟨_, hK2, fun z hz r hr => ?_⟩
    by_cases e : z = to
    · rw [if_pos e] at hr; cases hr
    · rw [if_neg e] at hr
      obtain ⟨h3, h4, h5⟩ := hAll z hz r hr
      exact ⟨h3, h4, (hA2.rowZ hS1 h5).mono hA2.size⟩
  have HAF := Lib.hid ((Alt.ofBelow hb0).trans hA2 (fun k hk _ => hk))
  rw [hw0] at hrun q7
  clear hK hAll hK2 hg2 hA2 hS1 hw0 hb0 hF
  go_enter Try.func31, Try.ntmps31
  go_wp2_with fail
  go_end0
  exact ⟨rfl, HFF.out, HAF.out⟩
end Go.Proofs.Ytiejinphofkjaaa.Vm

namespace Go.Proofs.Ytiejinphofkjaaa.Vm
open Go Go.RowKit Go.Maps
set_option maxRecDepth 100000

abbrev srV (W H : Int) (s : ByteArray) (a : Option Addr) (n c cb pb mb fb lb kb : Nat) : Value := .agg #[.int .i64 W, .int .i64 H, .string s, .slice a n c, .map (some cb), .map (some pb), .map (some mb), .map (some fb), .slice (some ⟨lb, 0, none⟩) s.size s.size, .map (some kb)]
abbrev srO (W H : Int) (s : ByteArray) (a : Option Addr) (n c cb pb mb fb lb kb : Nat) : Obj := .cells #[.int .i64 W, .int .i64 H, .string s, .slice a n c, .map (some cb), .map (some pb), .map (some mb), .map (some fb), .slice (some ⟨lb, 0, none⟩) s.size s.size, .map (some kb)] 81
abbrev atV (p : Nat) (x : Int) : Value := .agg #[.int .i64 (p : Int), .int .i64 x]
abbrev atO (p : Nat) (x : Int) : Obj := .cells #[.int .i64 (p : Int), .int .i64 x] 75

theorem ShutIn.keepB {w w' : World} {mb m : Nat} {bl : List Int} (h : ShutIn w mb m bl) (hb : Below w.heap.size w w') : ShutIn w' mb m bl := h.keep (hb.block _ h.lt)

set_option maxHeartbeats 1000000 in
theorem permits_any (W H : Int) (s : ByteArray) (a : Option Addr) (n c cb pb mb fb lb kb m nt p : Nat) (bl : List Int) (oth : List (List Int)) (f t : Int) (w : World) (hS : ShutIn w cb m bl) (hT : TrafIn w pb mb nt oth) (hp : p ≤ 5) (hf : wfI f) (ht : wfI t) :
    Calls Try.prog 58 #[srV W H s a n c cb pb mb fb lb kb, atV p f, .int .i64 t] w fun e w' => e = .returned (.bool (decide (MayP bl oth p f t))) ∧ Below w.heap.size w w' := by
  obtain ⟨w0, hw0⟩ : ∃ w0, w0 = (w.alloc (srO W H s a n c cb pb mb fb lb kb)).alloc (atO p f) := ⟨_, rfl⟩
  have hb0 : Below w.heap.size w w0 := by rw [hw0]; exact ((Below.refl _ _).alloc (Nat.le_refl _) _).alloc (by simp) _
  have hz0 : w0.heap.size = w.heap.size + 2 := by rw [hw0]; simp
  obtain ⟨w1, hw1⟩ : ∃ w1, w1 = w0.alloc (.cells #[] 73) := ⟨_, rfl⟩
  have hb1 : Below w0.heap.size w0 w1 := by rw [hw1]; exact (Below.refl _ _).alloc (Nat.le_refl _) _
  have hcell : ∀ i v, (#[.int .i64 W, .int .i64 H, .string s, .slice a n c, .map (some cb), .map (some pb), .map (some mb), .map (some fb), .slice (some ⟨lb, 0, none⟩) s.size s.size, .map (some kb)] : Array Value)[i]? = some v → w0.cell? ⟨w.heap.size, i, none⟩ = some v := fun i v hv => by
    rw [hw0]
    exact (Below.cell ((Below.refl (w.heap.size + 1) (w.alloc (srO W H s a n c cb pb mb fb lb kb))).alloc (by simp) _) (p := ⟨w.heap.size, i, none⟩) (by simp)).trans (cell_new _ _ _ rfl hv)
  have hat : ∀ i v, (#[.int .i64 (p : Int), .int .i64 f] : Array Value)[i]? = some v → w0.cell? ⟨w.heap.size + 1, i, none⟩ = some v := fun i v hv => by
    rw [hw0]; exact cell_new _ _ _ (by simp) hv
  have q4 := hcell 4 _ rfl
  have a0 := hat 0 _ rfl
  have a1 := hat 1 _ rfl
  have q5 := (hb1.cell (p := ⟨w.heap.size, 5, none⟩) (show w.heap.size < w0.heap.size by omega)).trans (hcell 5 _ rfl)
  have q6 := (hb1.cell (p := ⟨w.heap.size, 6, none⟩) (show w.heap.size < w0.heap.size by omega)).trans (hcell 6 _ rfl)
  have b0 := (hb1.cell (p := ⟨w.heap.size + 1, 0, none⟩) (show w.heap.size + 1 < w0.heap.size by omega)).trans a0
  have b1 := (hb1.cell (p := ⟨w.heap.size + 1, 1, none⟩) (show w.heap.size + 1 < w0.heap.size by omega)).trans a1
  have hlook := (hS.keepB hb0).look (z := t) ht
  have HL := Lib.hid (lets_tr w1 pb mb nt p oth f t (hT.calls (hb0.trans (hb1.mono hb0.size))) hp hf ht)
  have HW1 := Lib.hid (show w1 = ((w.alloc (srO W H s a n c cb pb mb fb lb kb)).alloc (atO p f)).alloc (.cells #[] 73) by rw [hw1, hw0])
  have HB1 := Lib.hid (hb0.trans (hb1.mono hb0.size))
  have HLM := Lib.hid (lets_may (oth := oth) hp f t)
  rw [hw0] at q4 a0 a1 hlook
  rw [hw1, hw0] at b0 b1 q5 q6
  clear hcell hat hb0 hb1 hz0 hw0 hw1 hS hT hf ht
  by_cases hin : t ∈ bl
  · rw [decide_eq_true hin] at hlook
    by_cases hft : t = f
    · have e1 : (t != f) = false := by simpa using hft
      have HE : Hid (decide (MayP bl oth p f t) = letsP oth p f t) := by
        unfold Hid
        cases hl : letsP oth p f t with
        | true => exact decide_eq_true ⟨fun _ => hft.symm, HLM.out.1 hl⟩
        | false => exact decide_eq_false fun h => by rw [HLM.out.2 h.2] at hl; cases hl
      clear hin hft
      go_enter Try.func58, Try.ntmps58
      go_wp2_with fail
      rw [← HW1.out]
      refine HL.out.mono ?_
      rintro e w2 ⟨rfl, hb2⟩
      have HB2 := Lib.hid (HB1.out.trans (hb2.mono HB1.out.size))
      clear hb2
      go_wp2_with fail
      go_ret
      exact ⟨ret_bool HE.out.symm, HB2.out⟩
    · have e1 : (t != f) = true := by rw [bne_iff_ne]; exact hft
      have HE : Hid (decide (MayP bl oth p f t) = false) := decide_eq_false fun h => hft (h.1 hin).symm
      clear hin hft HL
      go_enter Try.func58, Try.ntmps58
      go_wp2_with fail
      go_ret
      rw [← HW1.out]
      exact ⟨ret_bool HE.out.symm, HB1.out⟩
  · rw [decide_eq_false hin] at hlook
    have HE : Hid (decide (MayP bl oth p f t) = letsP oth p f t) := by
      unfold Hid
      cases hl : letsP oth p f t with
      | true => exact decide_eq_true ⟨fun h => absurd h hin, HLM.out.1 hl⟩
      | false => exact decide_eq_false fun h => by rw [HLM.out.2 h.2] at hl; cases hl
    clear hin
    go_enter Try.func58, Try.ntmps58
    go_wp2_with fail
    rw [← HW1.out]
    refine HL.out.mono ?_
    rintro e w2 ⟨rfl, hb2⟩
    have HB2 := Lib.hid (HB1.out.trans (hb2.mono HB1.out.size))
    clear hb2
    go_wp2_with fail
    go_ret
    exact ⟨ret_bool HE.out.symm, HB2.out⟩

set_option maxHeartbeats 1000000 in
theorem cost_any (W H : Int) (s : ByteArray) (a : Option Addr) (n c cb pb mb fb lb kb B : Nat) (far : List Int) (t : Int) (w : World) (hr : RowZ .i64 w B (some ⟨lb, 0, none⟩) s.size s.size far) (hB : B ≤ w.heap.size) (ht : 0 ≤ t ∧ t < s.size) :
    Calls Try.prog 59 #[srV W H s a n c cb pb mb fb lb kb, .int .i64 t] w fun e w' => e = .returned (.int .i64 (costP far t)) ∧ Below w.heap.size w w' := by
  obtain ⟨t, rfl⟩ := Int.eq_ofNat_of_zero_le ht.1
  obtain ⟨w0, hw0⟩ : ∃ w0, w0 = w.alloc (srO W H s a n c cb pb mb fb lb kb) := ⟨_, rfl⟩
  have hb0 : Below w.heap.size w w0 := by rw [hw0]; exact (Below.refl _ _).alloc (Nat.le_refl _) _
  have q8 : w0.cell? ⟨w.heap.size, 8, none⟩ = some (.slice (some ⟨lb, 0, none⟩) s.size s.size) := by rw [hw0]; exact cell_new _ _ _ rfl rfl
  obtain ⟨b, off, e, hlt, hcs⟩ := (hr.below (hb0.mono hB)).cells (by omega)
  injection e with e
  injection e with e1 e2 _
  subst e1 e2
  have hc := hcs t (by omega)
  have ht2 : t < s.size := by omega
  have hm := hr.2.2.1
  rw [Nat.zero_add] at hc
  have HB0 := Lib.hid hb0
  have HW0 := Lib.hid hw0
  generalize hz : far.getD t 0 = z at hc
  have HE : Hid (costP far (t : Int) = if 0 ≤ z then z else 1000000) := by
    unfold Hid costP
    rw [Int.toNat_natCast, hz]
    by_cases h : z < 0
    · rw [if_pos h, if_neg (by omega)]
    · rw [if_neg h, if_pos (by omega)]
  rw [hw0] at hc q8
  clear hcs hr hb0 hz hw0 ht
  by_cases hz0 : 0 ≤ z
  · have e0 : decide (z ≥ 0) = true := decide_eq_true hz0
    rw [if_pos hz0] at HE
    go_enter Try.func59, Try.ntmps59
    go_wp2_with fail
    go_ret
    rw [← HW0.out]
    exact ⟨ret_int HE.out.symm, HB0.out⟩
  · have e0 : decide (z ≥ 0) = false := decide_eq_false hz0
    rw [if_neg hz0] at HE
    go_enter Try.func59, Try.ntmps59
    go_wp2_with fail
    go_ret
    rw [← HW0.out]
    exact ⟨ret_int HE.out.symm, HB0.out⟩
end Go.Proofs.Ytiejinphofkjaaa.Vm

namespace Go.Proofs.Ytiejinphofkjaaa.Vm
open Go Go.RowKit Go.Maps
set_option maxRecDepth 100000

/-- How a path goes on. -/
def rstOf : Option (List Int × Int) → Bool × Int × Int
  | none => (false, 0, 0)
  | some x => (true, x.1.headD 0, x.2)
def betterR (b c : Bool × Int × Int) : Bool × Int × Int := if (c.1 && (!b.1 || decide (c.2.2 < b.2.2))) = true then c else b
theorem rstOf_better (x y : Option (List Int × Int)) : rstOf (betterP x y) = betterR (rstOf x) (rstOf y) := by
  cases y with
  | none => rfl
  | some y => cases x with
    | none => rfl
    | some x =>
      unfold betterP betterR rstOf
      by_cases h : y.2 < x.2
      · simp [h]
      · simp [h]
/-- A step, and the best path on. -/
def thruP (W H : Int) (cells : List Nat) (far bl : List Int) (oth : List (List Int)) (k : Nat) (c t : Int) : Option (List Int × Int) :=
  if MayP bl oth (5 - k) c t then (pathS W H cells far bl oth k t).map fun x => (t :: x.1, x.2 + costP far t) else none
theorem candP_thru {W H : Int} {cells : List Nat} {far bl : List Int} {oth : List (List Int)} {k way : Nat} {c : Int} (h : (goesS W H cells c (way : Nat)).2 = true) : candP W H cells far bl oth k c way = thruP W H cells far bl oth k c (goesS W H cells c (way : Nat)).1 := by
  unfold candP thruP
  by_cases hm : MayP bl oth (5 - k) c (goesS W H cells c (way : Nat)).1
  · rw [if_pos ⟨h, hm⟩, if_pos hm]
  · rw [if_neg (fun h' => hm h'.2), if_neg hm]
theorem candP_not {W H : Int} {cells : List Nat} {far bl : List Int} {oth : List (List Int)} {k way : Nat} {c : Int} (h : (goesS W H cells c (way : Nat)).2 = false) : candP W H cells far bl oth k c way = none := by
  unfold candP
  rw [if_neg (fun h' => by rw [h] at h'; cases h'.1)]
/-- The best of a list. -/
def bestL (f : Nat → Option (List Int × Int)) (l : List Nat) : Option (List Int × Int) := l.foldl (fun cur w => betterP cur (f w)) none
theorem bestL_snoc (f : Nat → Option (List Int × Int)) (l : List Nat) (w : Nat) : bestL f (l ++ [w]) = betterP (bestL f l) (f w) := by simp [bestL, List.foldl_append]
theorem bestL_range (f : Nat → Option (List Int × Int)) : ∀ m, bestP f m = bestL f (List.range m)
  | 0 => rfl
  | m + 1 => by rw [List.range_succ, bestL_snoc, bestP, bestL_range f m]
theorem bestL_filter (f : Nat → Option (List Int × Int)) (p : Nat → Bool) (hp : ∀ w, p w = false → f w = none) (m : Nat) : bestL f ((List.range m).filter p) = bestL f (List.range m) := by
  induction m with
  | zero => rfl
  | succ m ih =>
    rw [filter_snoc, List.range_succ, bestL_snoc]
    cases h : p m with
    | true => simp only [if_true]; rw [bestL_snoc, ih]
    | false =>
      rw [hp m h]
      simp only [Bool.false_eq_true, if_false, List.append_nil]
      rw [ih]
      rfl
theorem pathS_ways (W H : Int) (cells : List Nat) (far bl : List Int) (oth : List (List Int)) (k : Nat) (c : Int) : pathS W H cells far bl oth (k + 1) c = bestL (candP W H cells far bl oth k c) (waysS W H cells c) := by
  rw [pathS_succ, bestL_range]
  exact (bestL_filter _ _ (fun w h => candP_not h) 5).symm
theorem bestL_take {f : Nat → Option (List Int × Int)} {l : List Nat} {i : Nat} (hi : i < l.length) : bestL f (l.take (i + 1)) = betterP (bestL f (l.take i)) (f (l.getD i 0)) := by
  rw [List.take_add_one, show l[i]?.toList = [l.getD i 0] by simp [List.getD, hi], bestL_snoc]
theorem waysS_at {W H : Int} {cells : List Nat} {c : Int} {i : Nat} (hi : i < (waysS W H cells c).length) : (goesS W H cells c ((waysS W H cells c).getD i 0 : Nat)).2 = true := by
  have hm : (waysS W H cells c).getD i 0 ∈ waysS W H cells c := by
    simp only [List.getD, List.getElem?_eq_getElem hi, Option.getD_some]
    exact List.getElem_mem hi
  generalize (waysS W H cells c).getD i 0 = w at hm ⊢
  unfold waysS at hm
  exact (List.mem_filter.1 hm).2
theorem waysS_len (W H : Int) (cells : List Nat) (c : Int) : (waysS W H cells c).length ≤ 5 := filter_len _ 5
/-- The rest of the best path is the best path on. -/
theorem pathS_next {W H : Int} {cells : List Nat} {far bl : List Int} {oth : List (List Int)} {k : Nat} {c : Int} {x : List Int × Int} (h : pathS W H cells far bl oth (k + 1) c = some x) :
    ∃ t r n, x.1 = t :: r ∧ pathS W H cells far bl oth k t = some (r, n) ∧ ∃ way : Nat, goesS W H cells c (way : Nat) = (t, true) := by
  rw [pathS_succ] at h
  obtain ⟨⟨way, _, hc⟩, _⟩ := bestP_some h
  obtain ⟨t, y, h1, h2, h3, rfl⟩ := candP_some hc
  exact ⟨t, y.1, y.2, rfl, h3, way, h1⟩

/-- What is known of places. -/
def KnIn (w : World) (kb n : Nat) (W H : Int) (cells : List Nat) (far bl : List Int) (oth : List (List Int)) : Prop :=
  ∃ f : Int × Int → Option (Bool × Int × Int), KIn knownM w kb n f ∧ ∀ p x : Int, wfI p → wfI x → ∀ r, f (p, x) = some r → ∃ k : Nat, k ≤ 6 ∧ p = ((6 - k : Nat) : Int) ∧ r = rstOf (pathS W H cells far bl oth k x)
section
variable {w w' : World} {kb n : Nat} {W H : Int} {cells : List Nat} {far bl : List Int} {oth : List (List Int)}
theorem KnIn.keep (h : KnIn w kb n W H cells far bl oth) (hk : w'.heap[kb]? = w.heap[kb]?) : KnIn w' kb n W H cells far bl oth := by obtain ⟨f, h1, h2⟩ := h; exact ⟨f, h1.keep hk, h2⟩
theorem KnIn.less {m : Nat} (h : KnIn w kb n W H cells far bl oth) (hm : n ≤ m) : KnIn w kb m W H cells far bl oth := by obtain ⟨f, h1, h2⟩ := h; exact ⟨f, h1.less hm, h2⟩
theorem KnIn.lt (h : KnIn w kb n W H cells far bl oth) : kb < w.heap.size := by obtain ⟨f, h1, h2⟩ := h; exact h1.lt
theorem knIn_new (h : KIn knownM w kb n (fun _ => none)) : KnIn w kb n W H cells far bl oth := ⟨_, h, fun p x _ _ r hr => by cases hr⟩
end
/-- How often it may become known, so many steps on. -/
def cntK : Nat → Nat
  | 0 => 0
  | k + 1 => 5 * cntK k + 1
theorem cntK_le {k : Nat} (h : k ≤ 6) : cntK k ≤ 3906 := by
  match k, h with
  | 0, _ => decide
  | 1, _ => decide
  | 2, _ => decide
  | 3, _ => decide
  | 4, _ => decide
  | 5, _ => decide
  | 6, _ => decide

/-- The world of a search. -/
structure SrIn (w : World) (B : Nat) (W H : Int) (s : ByteArray) (cb pb mb lb kb m nt nk : Nat) (far bl : List Int) (oth : List (List Int)) : Prop where
  sh : ShutIn w cb m bl
  tr : TrafIn w pb mb nt oth
  fr : RowZ .i64 w B (some ⟨lb, 0, none⟩) s.size s.size far
  kn : KnIn w kb nk W H (bytesOf s) far bl oth
  ne : kb ≠ cb ∧ kb ≠ pb ∧ kb ≠ mb
  lt : cb < B ∧ pb < B ∧ mb < B ∧ kb < B
  hB : B ≤ w.heap.size
  km : MapAt w kb
section
variable {w w' : World} {B : Nat} {W H : Int} {s : ByteArray} {cb pb mb lb kb m nt nk nk' : Nat} {far bl : List Int} {oth : List (List Int)}
theorem SrIn.below (h : SrIn w B W H s cb pb mb lb kb m nt nk far bl oth) (hb : Below B w w') : SrIn w' B W H s cb pb mb lb kb m nt nk far bl oth := by
  obtain ⟨l1, l2, l3, l4⟩ := h.lt
  obtain ⟨es, ck, hm⟩ := h.km
  exact ⟨h.sh.keep (hb.block _ l1), h.tr.keep (hb.block _ l2) (hb.block _ l3), h.fr.below hb, h.kn.keep (hb.block _ l4), h.ne, h.lt, Nat.le_trans h.hB hb.size, es, ck, (hb.block _ l4).trans hm⟩
theorem SrIn.alt {S : Nat → Prop} (h : SrIn w B W H s cb pb mb lb kb m nt nk far bl oth) (hA : Alt S w w') (hS : ∀ k, S k → k = kb ∨ B ≤ k) (hK : KnIn w' kb nk' W H (bytesOf s) far bl oth) : SrIn w' B W H s cb pb mb lb kb m nt nk' far bl oth := by
  obtain ⟨l1, l2, l3, l4⟩ := h.lt
  obtain ⟨n1, n2, n3⟩ := h.ne
  have hB := h.hB
  have hn : ∀ k, k < B → k ≠ kb → ¬ S k := fun k hk hne hs => by rcases hS k hs with e | e; exact hne e; omega
  refine ⟨h.sh.keep (hA.block _ (by omega) (hn _ l1 n1.symm)), h.tr.keep (hA.block _ (by omega) (hn _ l2 n2.symm)) (hA.block _ (by omega) (hn _ l3 n3.symm)), ?_, hK, h.ne, h.lt, Nat.le_trans h.hB hA.size, ?_⟩
  · obtain ⟨r1, r2, r3, r4⟩ := h.fr
    refine ⟨r1, r2, r3, fun hn0 => ?_⟩
    obtain ⟨b, off, e, hb, hc⟩ := r4 hn0
    refine ⟨b, off, e, hb, fun i hi => ?_⟩
    have hne : b ≠ kb := fun e => by
      have h1 := hc i hi
      rw [e, h.km.cell] at h1
      cases h1
    exact (hA.cell (p := ⟨b, off + i, none⟩) (by show b < _; omega) (hn b hb hne)).trans (hc i hi)
  · obtain ⟨f, h1, _⟩ := hK
    exact h1.isMap
end
/-- The ints of new memory, where they lie. -/
theorem OwnI.cells {w : World} {B n : Nat} {v : Value} {l : List Nat} (h : OwnI w B v l) (hl : l.length = n) : ∃ a c, v = .slice a n c ∧ n ≤ c ∧ c ≤ maxLen ∧ (0 < n → ∃ g, a = some ⟨g, 0, none⟩ ∧ B ≤ g ∧ g < w.heap.size ∧ ∀ i, i < n → w.cell? ⟨g, i, none⟩ = some (.int .i64 ((l.getD i 0 : Nat) : Int))) := by
  rcases h.2 with ⟨rfl, h2⟩ | ⟨g, cap, cur, rfl, hg, hh, hc, hm, hsz, htk⟩
  · exact ⟨none, 0, by rw [← hl, h2], by omega, by simp [maxLen], fun h' => by omega⟩
  · refine ⟨_, _, by rw [← hl], by omega, hm, fun _ => ⟨g, rfl, hg, (Array.getElem?_eq_some_iff.1 hh).1, fun i hi => ?_⟩⟩
    have e : (i64s l)[i]? = some (.int .i64 ((l.getD i 0 : Nat) : Int)) := by simp [i64s, List.getD, List.getElem?_eq_getElem (show i < l.length by omega)]
    rw [← htk, List.getElem?_take, if_pos (by omega)] at e
    unfold World.cell?
    rw [hh]
    simpa using e
end Go.Proofs.Ytiejinphofkjaaa.Vm
