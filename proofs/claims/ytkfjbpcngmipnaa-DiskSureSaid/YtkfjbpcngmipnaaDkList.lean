/- The program's disk: List. -/
import Derived.Test.YtkfjbpcngmipnaaDkRead
import Derived.Test.YtkfjbpcngmipnaaDkIter
namespace Go.Proofs.Ytkfjbpcngmipnaa.Vm
open Go Go.RowKit Go.Maps Go.Sort Go.Shelf
set_option maxRecDepth 100000

theorem encStr_names (F : List FileS) : (F.map fun f => f.name.data.toList).map encStr = namesV (namesS F) := by
  unfold namesV namesS
  rw [List.map_map, List.map_map]
  refine List.map_congr_left (fun f _ => ?_)
  simp [encStr]
/-- What List tells, the names in new memory. -/
def SaysListN (w : World) (F : List FileS) (e : Ending) (w' : World) : Prop := ∃ a c, e = .returned (.slice a F.length c) ∧ OwnN w' w.heap.size (.slice a F.length c) (namesS F) ∧ Below w.heap.size w w'
theorem SaysListN.says {w w' : World} {F : List FileS} {e : Ending} (h : SaysListN w F e w') : SaysList w F e w' := by
  obtain ⟨a, c, he, ho, hb⟩ := h
  obtain ⟨a', c', e2, hr⟩ := ho.row
  have hl : (namesS F).length = F.length := by simp [namesS]
  rw [hl] at e2 hr
  injection e2 with h1 h2 h3
  subst h1 h3
  exact ⟨a, c, he, hr, hb⟩
set_option maxHeartbeats 1000000 in
theorem pList13_any (bd mb : Nat) (g : ByteArray → Option PF) (fu : Int) (d : DiskS) (w : World) (h : PrgAt w bd mb g fu d) (hd : OkD d) (hF : d.F.length ≤ 1000000) :
    Calls Try.prog 15 #[.pointer (some ⟨bd, 0, none⟩)] w (SaysListN w d.F) := by
  obtain ⟨q0, _, _, _, _⟩ := h.box.cells
  obtain ⟨D, hown, hsz, hperm⟩ := h.files.kin.keys hd.asc h.files.is hd.wf13
  have hmax : Maps.size D ≤ maxLen := by rw [hsz]; unfold maxLen; omega
  have hbytes : Maps.size D * 16 ≤ 140737488355328 := by rw [hsz]; omega
  have HSAY : Hid (∀ (v : Value) (ss : List (List UInt8)) (w' : World), ss.Perm (strKeys D) → w'.ownsRow (w.heap.size + 1) 9 1 v ss.length ((ss.mergeSort (fun x y => decide (x ≤ y))).map encStr) → Below (w.heap.size + 1) (w.alloc (.cells #[.map (some mb)] 61)) w' → SaysListN w d.F (.returned v) w') := fun v ss w' hs hrow hb => by
    have hlen : ss.length = d.F.length := by rw [(hs.trans hperm.symm).length_eq, List.length_map]
    have e := hd.asc.sorted (hs.trans hperm.symm)
    unfold leB at e
    rw [hlen, e, encStr_names] at hrow
    have hrow2 : w'.ownsRow w.heap.size 9 1 v d.F.length (namesV (namesS d.F)) := by
      refine ⟨hrow.1, ?_⟩
      rcases hrow.2 with h2 | ⟨g, cap, cur, hv, hb, r⟩
      · exact .inl h2
      · exact .inr ⟨g, cap, cur, hv, by omega, r⟩
    obtain ⟨a, c, rfl⟩ := own_slice hrow2
    have hl : (namesS d.F).length = d.F.length := by simp [namesS]
    exact ⟨a, c, rfl, by unfold OwnN; rw [hl]; exact hrow2, ((Below.refl _ w).alloc (Nat.le_refl _) _).trans (hb.mono (by omega))⟩
  have HK := Lib.hid (Try.maps_Keys_Dk (some mb))
  have HS := Lib.hid (Try.slices_Sorted_keys_Dk mb d.F.length D pfR w hown hmax hbytes)
  clear h hd hown hsz hperm hmax hbytes hF
  refine (callsIn_wide (n := 6)).1 ?_
  have hfK : Fence.wide.fn 39 := trivial
  have hfS : Fence.wide.fn 38 := trivial
  refine callsIn_of_wp Try.func15 rfl trivial ?_ rfl
  simp only [Try.ntmps15, List.size_toArray, List.length_cons, List.length_nil, Nat.reduceAdd, Nat.reduceSub, Array.replicate_succ, Array.replicate_zero, List.push_toArray, List.append_toArray, List.nil_append, List.cons_append]
  gi_wp2_with (first
    | (gi_at_call 39; refine (HK.out _).mono ?_; rintro e w' ⟨rfl, rfl⟩)
    | (gi_at_call 38; refine HS.out.mono ?_; rintro e w' ⟨v, ss, rfl, hS, hrow, hnil, hb⟩))
  go_ret
  exact HSAY.out v ss _ hS (by simpa using hrow) (by simpa using hb)
end Go.Proofs.Ytkfjbpcngmipnaa.Vm
