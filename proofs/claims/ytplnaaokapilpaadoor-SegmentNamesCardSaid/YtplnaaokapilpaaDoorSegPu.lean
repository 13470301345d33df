/- The program's Put of a manifest, and the closure that puts its lists. The program's Put of a manifest. -/
import Derived.Test.YtplnaaokapilpaaDoorRefSegRd
import Derived.Test.YtplnaaokapilpaaDoorRecNums
import Derived.Deep.LoopGhost
import Derived.Deep.DeepCutAuto
namespace Go.Proofs.YtplnaaokapilpaaDoor.Vm
open Go Go.RowKit
set_option maxRecDepth 100000

theorem encs_gap : ∀ (l : List Int) (p : Int), encs ((gapP p l).map Int.toNat) = encG p l
  | [], _ => rfl
  | x :: l, p => by
    have ih := encs_gap l x
    unfold encs at ih ⊢
    unfold gapP
    rw [List.map_cons, List.flatMap_cons, ih]
    rfl
theorem encs_list (l : List Int) : encs (((l.length : Int) :: gapP (-1) l).map Int.toNat) = encL l := by
  have h := encs_gap l (-1)
  unfold encs at h ⊢
  rw [List.map_cons, List.flatMap_cons, h]
  rfl
theorem encs_append (a b : List Nat) : encs (a ++ b) = encs a ++ encs b := by simp [encs]
theorem gapP_snoc : ∀ (l : List Int) (p x : Int), gapP p (l ++ [x]) = gapP p l ++ [x - lastG p l - 1]
  | [], _, _ => rfl
  | y :: l, p, x => by
    have ih := gapP_snoc l y x
    simp only [List.cons_append, gapP, ih, lastG]
theorem gapP_up : ∀ {l : List Int} {p : Int}, -1 ≤ p → UpIn p l → ∀ y ∈ gapP p l, 0 ≤ y ∧ y < 18446744073709551616
  | [], _, _, _, y, hy => by simp [gapP] at hy
  | x :: r, p, hp, ⟨h1, h2, h3⟩, y, hy => by
    unfold gapP at hy
    rcases List.mem_cons.1 hy with rfl | hy
    · omega
    · exact gapP_up (by omega) h3 y hy
/-- A cell of numbers. -/
def NumB (w : World) (g : Nat) (v : Value) : Prop := w.heap[g]? = some (.cells #[v] 63 (0, 0))
section
variable {w w' : World} {g B : Nat} {u v x : Value} {l : List Int}
theorem NumB.cell (h : NumB w g v) : w.cell? ⟨g, 0, none⟩ = some v := by
  unfold World.cell?
  rw [show w.heap[g]? = _ from h]
  rfl
theorem NumB.frozen (h : NumB w g v) : w.frozen? ⟨g, 0, none⟩ = false := by simp [World.frozen?, show w.heap[g]? = _ from h]
theorem NumB.lt (h : NumB w g v) : g < w.heap.size := (Array.getElem?_eq_some_iff.1 h).1
theorem NumB.below (h : NumB w g v) (hb : Below B w w') (hB : g < B) : NumB w' g v := by
  unfold NumB at h ⊢
  rw [hb.block g hB]
  exact h
theorem OwnU.apartB (h : OwnU w B v l) (hn : NumB w g u) : v.ownBlock ≠ some g := by
  rcases h.2 with ⟨rfl, _⟩ | ⟨gg, cap, cur, rfl, hb, hg, _⟩
  · simp [Value.ownBlock]
  · intro e
    simp only [Value.ownBlock, Option.some.injEq] at e
    subst e
    have h1 := hg.symm.trans hn
    injection h1 with h1
    injection h1 with _ h2 _
    exact absurd h2 (by decide)
theorem NumB.grown (hn : NumB w g u) (h : OwnU w B v l) (hg : w.grownBy w' v.ownBlock) : NumB w' g u := by
  unfold NumB
  rw [hg.block g hn.lt (fun e => h.apartB hn e.symm)]
  exact hn
theorem OwnU.put (h : OwnU w B v l) (hn : NumB w g u) : OwnU (w.setCell ⟨g, 0, none⟩ x) B v l := by
  have ha := h.apartB hn
  refine ⟨h.1, ?_⟩
  rcases h.2 with h2 | ⟨gg, cap, cur, rfl, hb, hh, r⟩
  · exact .inl h2
  · have hne : gg ≠ g := fun e => ha (by rw [e]; rfl)
    exact .inr ⟨gg, cap, cur, rfl, hb, (Below.heap_setCell _ _ _ _ (by simpa using hne)).trans hh, r⟩
theorem NumB.put (h : NumB w g v) : NumB (w.setCell ⟨g, 0, none⟩ x) g x := by
  unfold NumB at h ⊢
  simp [World.setCell, Array.getElem?_modify, h]
theorem below_num (hn : NumB w g v) (h : Below g w' w) : Below g w' (w.setCell ⟨g, 0, none⟩ x) :=
  h.trans ⟨rfl, rfl, rfl, by simp [World.setCell], fun k hk => Below.heap_setCell _ _ _ _ (by simp; omega)⟩
end
/-- What the closure does to its numbers. -/
def SaysPL (g : Nat) (w : World) (out l : List Int) (e : Ending) (w' : World) : Prop :=
  ∃ v', NumB w' g v' ∧ Below g w w' ∧ ((UpIn (-1) l ∧ e = .returned (.bool true) ∧ OwnU w' g v' (out ++ ((l.length : Int) :: gapP (-1) l))) ∨ (¬ UpIn (-1) l ∧ e = .returned (.bool false)))
set_option maxHeartbeats 4000000 in
theorem putL_any (g : Nat) (a : Option Addr) (n c : Nat) (l out : List Int) (v : Value) (w : World) (hg : NumB w g v) (ho : OwnU w g v out) (h : RowZ .i64 w g a n c l) (hout : out.length ≤ 100000) (hn : n ≤ 100000) :
    Calls Tryd.prog 26 #[.slice a n c, .pointer (some ⟨g, 0, none⟩)] w (SaysPL g w out l) := by
  have hgl := hg.lt
  have hcell := hg.cell
  have hcv : IntKind.u64.wrap (n : Int) = (n : Int) := by rw [IntKind.wrap_u64]; omega
  obtain ⟨v1, w1, hrun, ho1, hgr⟩ := append_us ho [(n : Int)] 1 rfl #[.int .u64 (n : Int)] rfl (by omega) (Nat.le_of_lt hgl)
  have hn1 := hg.grown ho hgr
  have hb1 : Below g w w1 := (Below.refl _ _).grown hgr (Nat.le_of_lt hgl) (fun k hk => (World.ownsRow.lt ho k hk).1)
  have hfz := hn1.frozen
  have hcell1 := hn1.cell
  have HN1 := Lib.hid (hn1.put (x := v1))
  have HO1 := Lib.hid (ho1.put (x := v1) hn1)
  have HB1 := Lib.hid (below_num (x := v1) hn1 hb1)
  have HR := Lib.hid (fun V (hV : Below g w V) => h.below hV)
  have HL : Hid (l.length = n) := h.1
  have hnc := h.2.1
  have hcm := h.2.2.1
  unfold maxLen at hcm
  have HGL := Lib.hid hgl
  have HOL : Hid (∀ x : List Int, (out ++ x).length ≤ 100000 + x.length) := fun x => by rw [List.length_append]; omega
  obtain ⟨a0, c0, rfl⟩ := ho.slice
  obtain ⟨a1, c1, hv1⟩ := ho1.slice
  generalize (out ++ [(n : Int)]).length = N1 at hv1
  subst hv1
  generalize out.length = N0 at *
  clear hg ho h hgr hb1 hn1 ho1 hgl hout
  go_enter Tryd.func26, Tryd.ntmps26
  go_wp2_with (at_builtin; refine Lib.wpList_append_run _ rfl _ _ _ _ rfl _ _ rfl rfl _ _ hrun ?_)
  obtain ⟨w2, hw2⟩ : ∃ w2, w2 = w1.setCell ⟨g, 0, none⟩ (.slice a1 N1 c1) := ⟨_, rfl⟩
  rw [← hw2] at HN1 HO1 HB1 ⊢
  clear hw2 hrun hcell hcell1 hfz
  go_loopg [4, 15] n (fun gg v4 v15 wr => ∃ (k : Nat) (vv : Value), k + gg = n ∧ v15 = .int .i64 k ∧ v4 = .int .i64 (prevG (-1) l k) ∧ Hid (UpIn (-1) (l.take k)) ∧ Hid (NumB wr g vv) ∧ Hid (OwnU wr g vv (out ++ ((n : Int) :: gapP (-1) (l.take k)))) ∧ Hid (Below g w wr))
  case atStart => exact ⟨0, .slice a1 N1 c1, by omega, rfl, rfl, trivial, HN1.out, HO1.out, HB1.out⟩
  case round =>
    obtain ⟨k, vv, hkg, rfl, rfl, HU, HNB, HO, HB⟩ := hrel
    by_cases hk : k < n
    · have hki : (k : Int) < (n : Int) := by omega
      have d1 : decide ((k : Int) < (n : Int)) = true := by rw [decide_eq_true_eq]; exact hki
      have hkl : k < l.length := by rw [HL.out]; exact hk
      obtain ⟨b, o, rfl, hbl, hcs⟩ := (HR.out wr HB.out).cells (by omega)
      have hck := hcs k hk
      have hpb := prevG_bd (l := l) (k := k) (by omega) HU.out
      have HNO : Hid (¬ (prevG (-1) l k < l.getD k 0 ∧ l.getD k 0 ≤ 2147483647) → ¬ UpIn (-1) l) := fun h h' => h (upIn_at hkl h')
      have HGO : Hid (prevG (-1) l k < l.getD k 0 ∧ l.getD k 0 ≤ 2147483647 → UpIn (-1) (l.take (k + 1))) := fun h => upIn_more hkl HU.out h.1 h.2
      have HGP : Hid (gapP (-1) (l.take (k + 1)) = gapP (-1) (l.take k) ++ [l.getD k 0 - prevG (-1) l k - 1]) := by
        unfold Hid
        rw [take_z hkl, gapP_snoc, lastG_take l (-1) k (by omega)]
      have HPN : Hid (prevG (-1) l (k + 1) = l.getD k 0) := rfl
      have HLE : Hid ((out ++ ((n : Int) :: gapP (-1) (l.take k))).length ≤ 300000) := by
        unfold Hid
        have := HOL.out ((n : Int) :: gapP (-1) (l.take k))
        rw [List.length_cons, gapP_len, List.length_take] at this
        omega
      have hnf := HNB.out.frozen
      have hnc2 := HNB.out.cell
      have HGW : Hid (g ≤ wr.heap.size) := Nat.le_of_lt HNB.out.lt
      clear hcs hkl
      generalize prevG (-1) l k = y at *
      generalize l.getD k 0 = x at *
      by_cases hx : y < x ∧ x ≤ 2147483647
      · have e1 : decide (x ≤ y) = false := by rw [decide_eq_false_iff_not]; omega
        have e2 : decide ((2147483647 : Int) < x) = false := by rw [decide_eq_false_iff_not]; omega
        have e1p : ¬ x ≤ y := by omega
        have e2p : ¬ (2147483647 : Int) < x := by omega
        have hw1 : IntKind.i64.wrap (x - y) = x - y := by rw [IntKind.wrap_i64]; omega
        have hw2 : IntKind.i64.wrap (x - y - 1) = x - y - 1 := by rw [IntKind.wrap_i64]; omega
        have hcx : IntKind.u64.wrap (x - y - 1) = x - y - 1 := by rw [IntKind.wrap_u64]; omega
        have HUN := Lib.hid (HGO.out hx)
        obtain ⟨v3, w3, hrun, ho3, hgr⟩ := append_us HO.out [x - y - 1] 1 rfl #[.int .u64 (x - y - 1)] rfl (by have := HLE.out; omega) HGW.out
        rw [List.append_assoc, List.cons_append, ← HGP.out] at ho3
        have hn3 := HNB.out.grown HO.out hgr
        have hb3 : Below g w w3 := HB.out.grown hgr HGW.out (fun k hk => (World.ownsRow.lt HO.out k hk).1)
        have hfz3 := hn3.frozen
        have hc3 := hn3.cell
        have HN3 := Lib.hid (hn3.put (x := v3))
        have HO3 := Lib.hid (ho3.put (x := v3) hn3)
        have HB3 := Lib.hid (below_num (x := v3) hn3 hb3)
        obtain ⟨a4, c4, rfl⟩ := HO.out.slice
        obtain ⟨a5, c5, hv3⟩ := ho3.slice
        generalize (out ++ ((n : Int) :: gapP (-1) (l.take (k + 1)))).length = M1 at hv3
        subst hv3
        clear HNO HGO HGP hx hgr hn3 hb3 ho3
        generalize (out ++ ((n : Int) :: gapP (-1) (l.take k))).length = M at *
        go_wp2_with (at_builtin; refine Lib.wpList_append_run _ rfl _ _ _ _ rfl _ _ rfl rfl _ _ hrun ?_)
        go_roundg (gk - 1)
        case rel => exact ⟨k + 1, .slice a5 M1 c5, by omega, by first | rfl | go_num, by rw [HPN.out], HUN.out, HN3.out, HO3.out, HB3.out⟩
        case measure => omega
      · have HF : Hid (SaysPL g w out l (.returned (.bool false)) wr) := ⟨vv, HNB.out, HB.out, .inr ⟨HNO.out hx, rfl⟩⟩
        clear HNO HGO HGP
        by_cases h1 : x ≤ y
        · have e1 : decide (x ≤ y) = true := by rw [decide_eq_true_eq]; exact h1
          clear hx
          go_wp2_with fail
          exact bodyPost_ret (v := .bool false) (by simp [results, Tryd.results26, go_sem]) rfl HF.out
        · have e1 : decide (x ≤ y) = false := by rw [decide_eq_false_iff_not]; exact h1
          have e2p : (2147483647 : Int) < x := by omega
          have e2 : decide ((2147483647 : Int) < x) = true := by rw [decide_eq_true_eq]; exact e2p
          clear hx
          go_wp2_with fail
          exact bodyPost_ret (v := .bool false) (by simp [results, Tryd.results26, go_sem]) rfl HF.out
    · obtain rfl : k = n := by omega
      have d1 : decide ((k : Int) < (k : Int)) = false := by simp
      have hu := HU.out
      have ho := HO.out
      rw [List.take_of_length_le (by rw [HL.out]; omega)] at hu ho
      have HF : Hid (SaysPL g w out l (.returned (.bool true)) wr) := ⟨vv, HNB.out, HB.out, .inl ⟨hu, rfl, by rw [HL.out]; exact ho⟩⟩
      clear hu ho
      go_wp2_with fail
      exact bodyPost_ret (v := .bool true) (by simp [results, Tryd.results26, go_sem]) rfl HF.out
end Go.Proofs.YtplnaaokapilpaaDoor.Vm

namespace Go.Proofs.YtplnaaokapilpaaDoor.Vm
open Go Go.RowKit
set_option maxRecDepth 100000

theorem list_ok {l : List Int} (h : UpIn (-1) l) (hn : l.length < 18446744073709551616) : ∀ x ∈ ((l.length : Int) :: gapP (-1) l), 0 ≤ x ∧ x < 18446744073709551616 := fun x hx => by
  rcases List.mem_cons.1 hx with rfl | hx
  · omega
  · exact gapP_up (by omega) h x hx
set_option maxHeartbeats 4000000 in
theorem mput_any (a : Option Addr) (n c : Nat) (l : List Int) (a' : Option Addr) (n' c' : Nat) (l' : List Int) (w : World) (h : RowZ .i64 w w.heap.size a n c l) (h' : RowZ .i64 w w.heap.size a' n' c' l') (hn : n ≤ 30000) (hn' : n' ≤ 30000) :
    Calls Tryd.prog 12 #[.agg #[.slice a n c, .slice a' n' c']] w (SaysM w l l') := by
  have hmf : ∀ (fn : Fn) (first cap : Array Value) (w : World), (Instr.makeFunc fn first cap).run Tryd.prog w = .ok (.func fn first cap) w := fun _ _ _ _ => rfl
  obtain ⟨w1, hw1⟩ : ∃ w1, w1 = w.alloc (.cells #[.slice a n c, .slice a' n' c'] 32) := ⟨_, rfl⟩
  have hb1 : Below w.heap.size w w1 := by rw [hw1]; exact (Below.refl _ _).alloc (Nat.le_refl _) _
  have hm1 : ManB w1 w.heap.size 32 a n c a' n' c' := by rw [hw1]; exact ManB.new w
  have hs1 : w1.heap.size = w.heap.size + 1 := by rw [hw1]; simp
  obtain ⟨w2, hw2⟩ : ∃ w2, w2 = w1.alloc (.cells #[.slice none 0 0] 63) := ⟨_, rfl⟩
  have hb2 : Below w1.heap.size w1 w2 := by rw [hw2]; exact (Below.refl _ _).alloc (Nat.le_refl _) _
  have hn2 : NumB w2 w1.heap.size (.slice none 0 0) := by rw [hw2]; exact heap_alloc_new w1 _
  rw [hs1] at hb2 hn2
  have hm2 := hm1.below hb2 (Nat.lt_succ_self _)
  have hbw2 : Below w.heap.size w w2 := hb1.trans (hb2.mono (Nat.le_succ _))
  have hr2 : RowZ .i64 w2 (w.heap.size + 1) a n c l := (h.below hbw2).mono (Nat.le_succ _)
  have HP1 := Lib.hid (putL_any (w.heap.size + 1) a n c l [] (.slice none 0 0) w2 hn2 (World.ownsRow_nil _ _ _ _) hr2 (by simp) (by omega))
  have HW1 := Lib.hid hw1
  have HW2 : Hid (w1.alloc (.cells #[.slice none 0 0] 63) = w2) := hw2.symm
  have HS1 := Lib.hid hs1
  have HB2 := Lib.hid hbw2
  have HM := Lib.hid (fun V (hV : Below (w.heap.size + 1) w2 V) => (hm2.below hV (Nat.lt_succ_self _)).cells)
  have HR' := Lib.hid (fun V (hV : Below w.heap.size w V) => ((h'.below hV).mono (Nat.le_succ _) : RowZ .i64 V (w.heap.size + 1) a' n' c' l'))
  have HL : Hid (l.length = n) := h.1
  have HL' : Hid (l'.length = n') := h'.1
  obtain ⟨q0, q1, _, _⟩ := hm2.cells
  clear h h' hw1 hw2 hb1 hb2 hm1 hm2 hn2 hr2 hbw2 hs1
  go_enter Tryd.func12, Tryd.ntmps12
  go_upto_region 1 with fail
  rw [← HW1.out]
  go_upto_region 2 with fail
  rw [HW2.out, HS1.out]
  go_wp2_with fail
  refine HP1.out.mono ?_
  rintro e w3 ⟨v3, hn3, hb3, hd3⟩
  have HN3 := Lib.hid hn3
  have HC3 := Lib.hid hb3
  have HB3 := Lib.hid (HB2.out.trans (hb3.mono (Nat.le_succ _)))
  have HZ3 := Lib.hid hn3.lt
  clear q0 q1
  obtain ⟨q0, q1, _, _⟩ := HM.out w3 hb3
  clear hn3 hb3 HP1
  rcases hd3 with ⟨hu, rfl, ho3⟩ | ⟨hu, rfl⟩
  · rw [List.nil_append] at ho3
    have HU := Lib.hid hu
    have HP2 := Lib.hid (putL_any (w.heap.size + 1) a' n' c' l' _ v3 w3 HN3.out ho3 (HR'.out w3 HB3.out) (by rw [List.length_cons, gapP_len, HL.out]; omega) (by omega))
    clear ho3 hu
    go_wp2_with fail
    refine HP2.out.mono ?_
    rintro e w4 ⟨v4, hn4, hb4, hd4⟩
    have HB4 := Lib.hid (HB3.out.trans (hb4.mono (Nat.le_succ _)))
    have HC4 := Lib.hid (HC3.out.trans hb4)
    have hc4 := hn4.cell
    have HZ4 : Hid (w.heap.size ≤ w4.heap.size) := by have := hn4.lt; unfold Hid; omega
    clear q0 q1 hb4 HP2 hn4
    rcases hd4 with ⟨hu', rfl, ho4⟩ | ⟨hu', rfl⟩
    · have HU' := Lib.hid hu'
      have hok : ∀ x ∈ ((l.length : Int) :: gapP (-1) l) ++ ((l'.length : Int) :: gapP (-1) l'), 0 ≤ x ∧ x < 18446744073709551616 := fun x hx => by
        rcases List.mem_append.1 hx with hx | hx
        · exact list_ok HU.out (by rw [HL.out]; omega) x hx
        · exact list_ok hu' (by rw [HL'.out]; omega) x hx
      obtain ⟨av, cv, rfl⟩ := ho4.slice
      have hlen : (((l.length : Int) :: gapP (-1) l) ++ ((l'.length : Int) :: gapP (-1) l')).length ≤ 65536 := by
        rw [List.length_append, List.length_cons, List.length_cons, gapP_len, gapP_len, HL.out, HL'.out]
        omega
      have HPU := Lib.hid (put_any av _ cv _ w4 (ho4.row fun x hx => (hok x hx).1) (fun x hx => by
        obtain ⟨y, hy, rfl⟩ := List.mem_map.1 hx
        have := hok y hy
        omega) hlen)
      rw [List.map_append, encs_append, encs_list, encs_list, show encL l ++ encL l' = bodyM l l' from rfl] at HPU
      have HLE : Hid ((bodyM l l').length ≤ 1000000) := by
        have h1 := encL_len (l := l) HU.out (by rw [HL.out]; omega)
        have h2 := encL_len (l := l') hu' (by rw [HL'.out]; omega)
        rw [HL.out] at h1
        rw [HL'.out] at h2
        unfold Hid bodyM
        rw [List.length_append]
        omega
      clear ho4 hok hlen hu'
      generalize (((l.length : Int) :: gapP (-1) l) ++ ((l'.length : Int) :: gapP (-1) l')).length = M at *
      go_wp2_with fail
      refine HPU.out.mono ?_
      rintro e w5 ⟨v5, rfl, ho5, hb5⟩
      obtain ⟨a5, c5, rfl, hr5⟩ := ho5.slice
      have HB5 := Lib.hid (HB4.out.trans (hb5.mono HZ4.out))
      have HFP := Lib.hid (fput_any a5 _ c5 (bodyM l l') w5 hr5 (bodyM_byte l l') HLE.out)
      clear ho5 hr5 hb5 HPU
      generalize (bodyM l l').length = M5 at *
      go_wp2_with fail
      refine HFP.out.mono ?_
      rintro e w6 ⟨v6, rfl, ho6, hb6⟩
      have HF : Hid (SaysM w l l' (.returned (.tuple #[v6, .int .i64 0])) w6) := ⟨.inl ⟨⟨HU.out, HU'.out⟩, v6, rfl, ho6.mono HB5.out.size⟩, HB5.out.trans (hb6.mono HB5.out.size)⟩
      obtain ⟨a6, c6, rfl, _⟩ := ho6.slice
      clear ho6 hb6 HFP
      go_wp2_with fail
      exact bodyPost_ret (v := .tuple #[_, .int .i64 0]) (by simp [results, Tryd.results12, go_sem]) rfl HF.out
    · have HF : Hid (SaysM w l l' (.returned (.tuple #[.slice none 0 0, .int .i64 1])) w4) := ⟨.inr ⟨fun h => hu' h.snaps, rfl⟩, HB4.out⟩
      clear hu'
      go_wp2_with fail
      exact bodyPost_ret (v := .tuple #[.slice none 0 0, .int .i64 1]) (by simp [results, Tryd.results12, go_sem]) rfl HF.out
  · have HF : Hid (SaysM w l l' (.returned (.tuple #[.slice none 0 0, .int .i64 1])) w3) := ⟨.inr ⟨fun h => hu h.segs, rfl⟩, HB3.out⟩
    clear hu
    go_wp2_with fail
    exact bodyPost_ret (v := .tuple #[.slice none 0 0, .int .i64 1]) (by simp [results, Tryd.results12, go_sem]) rfl HF.out
end Go.Proofs.YtplnaaokapilpaaDoor.Vm
