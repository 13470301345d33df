/- The contract of the program's Near. -/
import Derived.Test.YtacigmjdppoonaaRobIns
import Derived.Test.YtacigmjdppoonaaPairRows
import Derived.Test.YtacigmjdppoonaaSorts
namespace Go.Proofs.Ytacigmjdppoonaa.Vm
open Go Go.RowKit Go.Maps
set_option maxRecDepth 100000

theorem info_pairI : (Try.prog.info? 42).map (fun i => (i.zero, i.size, i.bytes)) = some (some (.agg #[.int .i64 0, .int .i64 0]), 2, 16) := by kernel_rfl
theorem ownZ_cut {w : World} {B n c : Nat} {a : Option Addr} {l : List Int} (h : OwnZ w B (.slice a n c) l) : OwnZ w B (.slice a 0 c) [] := by
  refine ⟨rfl, ?_⟩
  rcases h.2 with ⟨hv, hn⟩ | ⟨g, cap, cur, hv, hb, hg, hnc, hcm, hcs, htk⟩
  · injection hv with h1 h2 h3
    subst h1 h3
    exact .inl ⟨rfl, rfl⟩
  · injection hv with h1 h2 h3
    subst h1 h3
    exact .inr ⟨g, c, cur, rfl, hb, hg, Nat.zero_le _, hcm, hcs, by simp [intsZ]⟩
/-- Pairs of the call's own where some of its ints have turned; and the other way round. -/
theorem ownPr_grow {w w' : World} {B B' n : Nat} {v u : Value} {l : List (Nat × Nat)} {xs : List Value} (h : OwnPr w B 42 v l) (hu : w.ownsRow B' 3 1 u n xs) (hg : w.grownBy w' u.ownBlock) : OwnPr w' B 42 v l :=
  World.ownsRow.kept h hg (by
    rcases own_own hu h (by decide) with h1 | h1
    · exact .inl h1
    · exact .inr h1)
theorem ownZ_grow {w w' : World} {B B' n : Nat} {v u : Value} {l : List Int} {xs : List Value} (h : OwnZ w B v l) (hu : w.ownsRow B' 42 2 u n xs) (hg : w.grownBy w' u.ownBlock) : OwnZ w' B v l :=
  World.ownsRow.kept h hg (by
    rcases own_own hu h (by decide) with h1 | h1
    · exact .inl h1
    · exact .inr h1)
theorem run_cut0 (a : Option Addr) (n c : Nat) (h : a = none → c = 0) (V : World) : (Instr.sliceAt 27 (.slice a n c) none (some (.int .i64 0)) none).run Try.prog V = .ok (.slice a 0 c) V := by
  have hs : (sizeOf (Try.prog.elem 27)).run Try.prog V = .ok 1 V := by kernel_rfl
  have he : Try.prog.underlying 27 = some (.slice (Try.prog.elem 27)) := by kernel_rfl
  rw [run_sliceAt_slice (h := he), run_slice_h (ht := he) (h0 := Int.le_refl _) (h2 := by omega), hs]
  cases a with
  | none => rw [h rfl]; rfl
  | some p =>
    simp only [Result.andThen, sliced]
    split <;> simp [Addr.add]
theorem own_none {w : World} {B n c : Nat} {l : List Int} (h : OwnZ w B (.slice none n c) l) : c = 0 := by
  rcases h.2 with ⟨hv, _⟩ | ⟨g, cap, cur, hv, _⟩
  · injection hv
  · injection hv with h1 _ _; cases h1
/-- What an append of ints leaves, whose block is told. -/
theorem run_append_zg {w : World} (ty : TypeId) {B : Nat} {v : Value} {out : List Int} (hown : OwnZ w B v out) {ao : Option Addr} {m c B2 : Nat} {l : List Int} (hr : RowZ .i64 w B2 ao m c l) (hlen : out.length + m ≤ 1000000) (hB : B ≤ w.heap.size) :
    ∃ v' w', (Builtin.append_ #[27, 27] ty #[v, .slice ao m c]).run Try.prog w = .ok v' w' ∧ OwnZ w' B v' (out ++ l) ∧ w.grownBy w' v.ownBlock ∧ (v'.ownBlock = v.ownBlock ∨ v'.ownBlock = some w.heap.size) := by
  obtain ⟨i0, hi0, hz0, hz1, hz2⟩ := info_parts info_int
  have hlm : l.length = m := hr.1
  cases ao with
  | none =>
    have hm0 : m = 0 := by
      rcases Nat.eq_zero_or_pos m with h0 | h0
      · exact h0
      · obtain ⟨b, off, e, _⟩ := hr.cells h0; cases e
    subst hm0
    obtain rfl := List.eq_nil_of_length_eq_zero hlm
    exact ⟨v, w, run_append_noneZ B 27 ty 3 i0 1 Try.underlying27 hi0 v out.length c (intsZ out) hown, by rw [List.append_nil]; exact hown, .refl _ _, .inl rfl⟩
  | some ad =>
    obtain ⟨v', w', hrun, hown', hg, _, hat⟩ := run_append_own_at (P := Try.prog) w B 27 ty 3 i0 (.int .i64 0) 1 8 Try.underlying27 hi0 hz0 hz1 hz2 rfl (by decide) v out.length (intsZ out) hown ad m c (intsZ l) (by rw [intsZ_len]; omega) (cells_rowZ hr)
      (fun u hu => by obtain ⟨_, _, rfl⟩ := List.mem_map.1 hu; rfl) (by unfold maxLen; omega) (by omega) hB
    refine ⟨v', w', hrun, ?_, hg, hat⟩
    unfold OwnZ
    rw [List.length_append, hlm]
    simpa [intsZ] using hown'
theorem wpList_append_zg {ops : Array Oper} {rest : List Oper} {o : Oper} {a : Act} {Q : Exit → Act → World → Prop} {w : World} (hgd : o.guard = none) (s x : Operand)
    (ho : o.op = .call { callee := .builtin .append, args := #[s, x], argTypes := #[27, 27] })
    {B : Nat} {v : Value} {out : List Int} (hs : a.eval s = v) (hown : OwnZ w B v out) {ao : Option Addr} {m c B2 : Nat} {l : List Int} (hx : a.eval x = .slice ao m c) (hr : RowZ .i64 w B2 ao m c l)
    (hlen : out.length + m ≤ 1000000) (hB : B ≤ w.heap.size)
    (h : ∀ v' w', OwnZ w' B v' (out ++ l) → w.grownBy w' v.ownBlock → (v'.ownBlock = v.ownBlock ∨ v'.ownBlock = some w.heap.size) → wpList Try.prog ops Q rest (a.put o.dst v') w') : wpList Try.prog ops Q (o :: rest) a w := by
  refine wpList_plain hgd fun K hK' => ?_
  obtain ⟨v', w', hrun, h1, h2, h3⟩ := run_append_zg o.type hown hr hlen hB
  unfold Oper.wp
  simp [execOp, ho, resolve, invoke, builtin, hs, hx, hrun, Result.andThen]
  exact hK' _ _ (h v' w' h1 h2 h3)
theorem alt_grown {S : Nat → Prop} {A V V' : World} {r : Option Nat} (h : Alt S A V) (hg : V.grownBy V' r) (hr : ∀ q, r = some q → q < A.heap.size → S q) : Alt S A V' :=
  ⟨hg.os.trans h.os, hg.tape.trans h.tape, hg.output.trans h.output, Nat.le_trans h.size hg.size, fun k hk hn => (hg.block k (Nat.lt_of_lt_of_le hk h.size) (fun e => hn (hr k e.symm hk))).trans (h.block k hk hn)⟩
/-- What is owned from B on lies where nothing beyond B has turned but what is listed, below B. -/
theorem ownZ_alt {S : Nat → Prop} {A V : World} {B : Nat} {v : Value} {l : List Int} (h : OwnZ A B v l) (hA : Alt S A V) (hS : ∀ q, S q → q < B) : OwnZ V B v l := by
  refine ⟨h.1, ?_⟩
  rcases h.2 with h1 | ⟨g, cap, cur, hv, hb, hg, r⟩
  · exact .inl h1
  · exact .inr ⟨g, cap, cur, hv, hb, by rw [hA.block g (Array.getElem?_eq_some_iff.1 hg).1 (fun e => by have := hS g e; omega)]; exact hg, r⟩
/-- The robots behind i in the cells that have been gone through. -/
theorem othC_len (S : Nat) (cells : List Int) (n i : Nat) : ∀ l : List Int, (othC S cells n i l).length ≤ l.length * n
  | [] => by simp [othC]
  | z :: l => by
    have h1 := othC_len S cells n i l
    have h2 : ((inC S cells n z).filter (fun j => i < j)).length ≤ n := Nat.le_trans (List.length_filter_le _ _) inC_len
    have e : othC S cells n i (z :: l) = (inC S cells n z).filter (fun j => i < j) ++ othC S cells n i l := rfl
    rw [e, List.length_append, List.length_cons, Nat.add_mul]
    omega
theorem beside_wf {W z : Int} {S : Nat} (hW : 1 ≤ W) (hW2 : W ≤ 256) (hS : S ≤ 1000000) (hz : InG S z) {x : Int} (hx : x ∈ besideL W z) : wfI x := by
  obtain ⟨h0, h1⟩ := hz
  rcases mem_beside.1 hx with h | h | ⟨_, h⟩ | ⟨_, h⟩ <;> exact WalkArith.wf_i64 (by omega)
theorem beside_len (W z : Int) : (besideL W z).length ≤ 4 := by
  unfold besideL
  by_cases h1 : 0 < z % W <;> by_cases h2 : z % W < W - 1 <;> simp [h1, h2]

/-- What Near leaves. -/
def NearPost (w : World) (l : List (Nat × Nat)) (e : Ending) (w' : World) : Prop := ∃ a n c, e = .returned (.slice a n c) ∧ l.length = n ∧ OwnPr w' w.heap.size 42 (.slice a n c) l ∧ Below w.heap.size w w'

set_option maxHeartbeats 8000000 in
theorem mNear_any (W H : Int) (g : ByteArray) (a : Option Addr) (n c B : Nat) (cells : List Int) (w : World) (hok : Okay W H g) (h : RowZ .i64 w B a n c cells) (hB : B ≤ w.heap.size) (hn : n ≤ 1000) :
    Calls Try.prog 17 #[gridV W H g, .slice a n c] w (NearPost w (nearC W g.size cells n n)) := by
  obtain ⟨w1, hw1⟩ : ∃ w1, w1 = w.alloc (gridO W H g) := ⟨_, rfl⟩
  have hb1 : Below w.heap.size w w1 := by rw [hw1]; exact (Below.refl _ _).alloc (Nat.le_refl _) _
  have hz1 : w1.heap.size = w.heap.size + 1 := by rw [hw1]; simp
  have hg1 : GridAt w1 w.heap.size W H g := by rw [hw1]; exact gridAt_new w W H g
  obtain ⟨i0, hi0, hy0, hy1, hy2⟩ := info_parts info_int
  obtain ⟨i1, hi1, hx0, hx1, hx2⟩ := info_parts info_pairI
  have HRI := Lib.hid (mRobotsIn_any W H g a n c w.heap.size cells w1 hok ((h.mono hB).below hb1) (by omega) (by omega))
  have hle := hok.le
  have hW1 := hok.w1
  have hW2 := hok.w2
  have HL := Lib.hid h.1
  have HC := Lib.hid fun h' => h.cells h'
  have hc1 := h.2.1
  have hxc := h.2.2.1
  unfold maxLen at hxc
  have HB := Lib.hid hB
  have HB1 := Lib.hid hb1
  have HZ1 := Lib.hid hz1
  have HW1 := Lib.hid hw1
  have HG := Lib.hid hg1
  have HEX := Lib.hid fun z V => exists_any W H z g V hok
  have HBS := Lib.hid fun z V hz => mBeside_any W H z g V hok hz
  clear hw1 hb1 hg1 h hB hok hz1
  go_enter Try.func17, Try.ntmps17
  go_upto_region 1 with fail
  rw [← HW1.out]
  obtain ⟨g0, g1, g2⟩ := HG.out
  go_wp2_with fail
  refine HRI.out.mono ?_
  rintro e w2 ⟨mb, f, rfl, hrm, hb2⟩
  have HRM := Lib.hid hrm
  have HB2 : Hid (Below (w.heap.size + 1) w1 w2) := hb2.mono (by rw [HZ1.out]; exact Nat.le_refl _)
  have HZ2 : Hid (w.heap.size + 1 ≤ w2.heap.size) := by have := hb2.size; have := HZ1.out; unfold Hid; omega
  clear g0 g1 g2 hrm hb2
  go_upto_region 4 with fail
  have HMR : Hid (∀ V, Below w2.heap.size w2 V → RobMap V mb w1.heap.size g.size cells n f) := fun V hV => HRM.out.calls hV
  have HMA : Hid (∀ V z, Below w2.heap.size w2 V → wfI z → ∃ a' c', (Instr.lookup 49 (.map (some mb)) (.int .i64 z) false).run Try.prog V = .ok (.slice a' (inC g.size cells n z).length c') V ∧ RowZ .i64 V w2.heap.size a' (inC g.size cells n z).length c' (toZ (inC g.size cells n z))) := fun V z hV hz => by
    obtain ⟨a', c', e1, e2⟩ := HRM.out.row z
    have := (HRM.out.calls hV).kin.look1 rowMl (a := z) hz
    rw [e1] at this
    exact ⟨a', c', this, e2.below hV⟩
  have HGV : Hid (∀ V, Below w2.heap.size w2 V → GridAt V w.heap.size W H g) := fun V hV => HG.out.below (HB2.out.trans (hV.mono HZ2.out)) (Nat.lt_succ_self _)
  have HEND : Hid (∀ V, Below w2.heap.size w2 V → Below w.heap.size w V) := fun V hV => HB1.out.trans ((HB2.out.trans (hV.mono HZ2.out)).mono (Nat.le_succ _))
  go_wp2_with fail
  go_loopg [6, 7, 19] n (fun gg v6 v7 i wr => ∃ (k : Nat) (a7 : Option Addr) (n7 c7 : Nat) (l7 : List Int), k + gg = n ∧ i = .int .i64 k ∧ v7 = .slice a7 n7 c7 ∧ Hid (OwnPr wr w2.heap.size 42 v6 (nearC W g.size cells n k)) ∧ Hid (OwnZ wr w2.heap.size (.slice a7 n7 c7) l7) ∧ Hid (Below w2.heap.size w2 wr))
  case atStart => exact ⟨0, none, 0, 0, [], by omega, rfl, rfl, World.ownsRow_nil _ _ _ _, World.ownsRow_nil _ _ _ _, Below.refl _ _⟩
  case round =>
    obtain ⟨k, a7, n7, c7, l7, hk, rfl, rfl, HP, HO, HBB⟩ := hrel
    have hszr : w2.heap.size ≤ wr.heap.size := HBB.out.size
    by_cases hlt : k < n
    · obtain ⟨b, o, rfl, hb, hq⟩ := HC.out (by omega)
      have hr1 : wr.cell? ⟨b, o + k, none⟩ = some (.int .i64 (cells.getD k 0)) := ((HEND.out wr HBB.out).cell (p := ⟨b, o + k, none⟩) (show b < w.heap.size by have := HB.out; omega)).trans (hq k hlt)
      obtain ⟨z, hz⟩ : ∃ z, cells.getD k 0 = z := ⟨_, rfl⟩
      rw [hz] at hr1
      have HE := Lib.hid (HEX.out z wr)
      obtain ⟨g0, g1, g2⟩ := HGV.out wr HBB.out
      have HZK := Lib.hid hz
      have HLT := Lib.hid hlt
      clear hq hz
      by_cases hin : InG g.size z
      · rw [decide_eq_true hin] at HE
        have HIN := Lib.hid hin
        clear hin
        go_upto_region 8 with (go_at_call 27; refine HE.out.mono ?_; rintro e wa ⟨rfl, hba⟩)
        have hcut := fun V => run_cut0 a7 n7 c7 (fun e => by subst e; exact own_none HO.out) V
        have HPA := Lib.hid (HP.out.calls hba)
        have HOA : Hid (OwnZ wa w2.heap.size (.slice a7 0 c7) []) := ownZ_cut (HO.out.calls hba)
        have HBA : Hid (Below w2.heap.size w2 wa) := HBB.out.trans (hba.mono hszr)
        clear hba g0 g1 g2 hr1 hszr HP HO HBB HE
        go_upto_region 9 with fail
        have hsza : w2.heap.size ≤ wa.heap.size := HBA.out.size
        have HQ := Lib.hid (HBS.out z wa HIN.out)
        obtain ⟨g0, g1, g2⟩ := HGV.out wa HBA.out
        go_wp2_with fail
        refine HQ.out.mono ?_
        rintro e w5 ⟨ab, m, cb, rfl, hm, hob, hb5⟩
        have hobl := hob.rowAt hm
        have HS7 : Hid (∀ q, (Value.slice a7 0 c7).ownBlock = some q → q < wa.heap.size) := fun q hq => (World.ownsRow.lt HOA.out q hq).2
        have HROW : Hid (∀ V, Alt (fun q => (Value.slice a7 0 c7).ownBlock = some q) w5 V → RowZ .i64 V V.heap.size ab m cb (besideL W z)) := fun V hV => (ownZ_alt hob hV HS7.out).rowAt hm
        have hmc := hobl.2.1
        have hmx := hobl.2.2.1
        unfold maxLen at hmx
        have HP5 := Lib.hid (HPA.out.calls hb5)
        have HO5 := Lib.hid (HOA.out.calls hb5)
        have HB5 : Hid (Below w2.heap.size w2 w5) := HBA.out.trans (hb5.mono hsza)
        have HM := Lib.hid hm
        clear hcut hb5 hob hobl hm g0 g1 g2 hsza HQ
        go_wp2_with fail
        go_loopg [7, 34] m (fun gg v7 i V => ∃ (j : Nat) (a8 : Option Addr) (n8 c8 : Nat), j + gg = m ∧ i = .int .i64 j ∧ v7 = .slice a8 n8 c8 ∧ Hid (OwnZ V w2.heap.size (.slice a8 n8 c8) (toZ (othC g.size cells n k ((besideL W z).take j)))) ∧ Hid (OwnPr V w2.heap.size 42 u6 (nearC W g.size cells n k)) ∧ Hid (Alt (fun q => (Value.slice a7 0 c7).ownBlock = some q) w5 V) ∧ Hid ((Value.slice a8 n8 c8).ownBlock = (Value.slice a7 0 c7).ownBlock ∨ ∃ q, (Value.slice a8 n8 c8).ownBlock = some q ∧ w5.heap.size ≤ q))
        case atStart => exact ⟨0, a7, 0, c7, by omega, rfl, rfl, by rw [List.take_zero]; exact HO5.out, HP5.out, Alt.refl _ _, .inl rfl⟩
        case round =>
          obtain ⟨j, a8, n8, c8, hj, rfl, rfl, HO8, HP8, HA8, HS8⟩ := hrel
          have HB8 : Hid (Below w2.heap.size w2 wr) := HB5.out.trans (HA8.out.below (fun q hq => (World.ownsRow.lt HO5.out q hq).1) HB5.out.size)
          have hsz8 : w2.heap.size ≤ wr.heap.size := HB8.out.size
          by_cases hjm : j < m
          · have HRJ := Lib.hid (HROW.out wr HA8.out)
            obtain ⟨bb, ob, rfl, hbb, hqb⟩ := HRJ.out.cells (by omega)
            have hrj := hqb j hjm
            have hmem : (besideL W z).getD j 0 ∈ besideL W z := by
              have : j < (besideL W z).length := by rw [HM.out]; exact hjm
              simp [List.getD, this]
            have hwf := beside_wf hW1 hW2 (by omega) HIN.out hmem
            have HTK : Hid ((besideL W z).take (j + 1) = (besideL W z).take j ++ [(besideL W z).getD j 0]) := by
              have : j < (besideL W z).length := by rw [HM.out]; exact hjm
              unfold Hid
              rw [List.take_succ_eq_append_getElem this]
              simp [List.getD, this]
            obtain ⟨x, hx⟩ : ∃ x, (besideL W z).getD j 0 = x := ⟨_, rfl⟩
            rw [hx] at hrj hwf HTK
            obtain ⟨ax, cx, hlook, hrx⟩ := HMA.out wr x HB8.out hwf
            have HNB := Lib.hid (notBelow_any ax _ cx w2.heap.size ((k + 1 : Nat) : Int) (toZ (inC g.size cells n x)) wr hrx (by unfold toZ; rw [List.pairwise_map]; exact inC_up.imp fun h => by omega) (Nat.le_trans inC_len (by omega)))
            have HLD : Hid ((toZ (inC g.size cells n x)).drop (lowZ (toZ (inC g.size cells n x)) ((k + 1 : Nat) : Int)) = toZ ((inC g.size cells n x).filter fun j => k + 1 ≤ j)) := low_drop inC_up (k + 1)
            have HLE : Hid (((inC g.size cells n x).filter fun j => k + 1 ≤ j).length ≤ n) := Nat.le_trans (List.length_filter_le _ _) inC_len
            have HOL : Hid ((toZ (othC g.size cells n k ((besideL W z).take j))).length ≤ 4 * n) := by
              unfold Hid
              rw [toZ_len]
              refine Nat.le_trans (othC_len _ _ _ _ _) (Nat.mul_le_mul_right _ ?_)
              rw [List.length_take]
              have := beside_len W z
              omega
            have HOS : Hid (toZ (othC g.size cells n k ((besideL W z).take (j + 1))) = toZ (othC g.size cells n k ((besideL W z).take j)) ++ toZ ((inC g.size cells n x).filter fun j => k + 1 ≤ j)) := by
              unfold Hid
              rw [HTK.out, othC_snoc, toZ_append]
            have ek : IntKind.i64.wrap ((k : Int) + 1) = ((k + 1 : Nat) : Int) := by simp only [IntKind.wrap_i64]; have := HLT.out; omega
            rw [HLD.out] at HNB
            clear hx hmem hqb hwf hrx
            generalize (inC g.size cells n x).length = nx at hlook HNB
            go_wp2_with fail
            refine HNB.out.mono ?_
            rintro e w9 ⟨⟨ay, ny, cy, rfl, hry⟩, q9, rfl⟩
            have HO9 := Lib.hid (HO8.out.calls (below_drewN (Below.refl _ wr) q9))
            have HP9 := Lib.hid (HP8.out.calls (below_drewN (Below.refl _ wr) q9))
            have HA9 := Lib.hid (HA8.out.drewN q9)
            have HR9 := Lib.hid (hry.below (below_drewN (Below.refl _ wr) q9))
            have HB9 : Hid (Below w2.heap.size w2 (wr.drewN q9)) := below_drewN HB8.out q9
            generalize wr.drewN q9 = V9 at HO9 HP9 HA9 HR9 HB9 ⊢
            have hsz9 : w2.heap.size ≤ V9.heap.size := HB9.out.size
            have HNL : Hid (ny ≤ n) := by
              have := HR9.out.1
              rw [toZ_len] at this
              have h2 := HLE.out
              unfold Hid; omega
            clear hry hrj hlook hbb hsz8
            go_wp2_with (at_builtin; refine wpList_append_zg rfl (.tmp 38) (.tmp 44) rfl rfl HO9.out rfl HR9.out (by have := HOL.out; have := HNL.out; omega) hsz9 ?_; intro v10 w10 ho10 hg10 hat10)
            have hg10 : V9.grownBy w10 (Value.slice a8 n8 c8).ownBlock := hg10
            have hat10 : v10.ownBlock = (Value.slice a8 n8 c8).ownBlock ∨ v10.ownBlock = some V9.heap.size := hat10
            rw [← HOS.out] at ho10
            have HO10 := Lib.hid ho10
            have HP10 := Lib.hid (ownPr_grow HP9.out HO9.out hg10)
            have HA10 : Hid (Alt (fun q => (Value.slice a7 0 c7).ownBlock = some q) w5 w10) := alt_grown HA9.out hg10 (fun q hq hlt => by
              rcases HS8.out with e | ⟨q', e, hge⟩
              · rw [← e]; exact hq
              · rw [e] at hq; injection hq with hq; omega)
            have HS10 : Hid (v10.ownBlock = (Value.slice a7 0 c7).ownBlock ∨ ∃ q, v10.ownBlock = some q ∧ w5.heap.size ≤ q) := by
              rcases hat10 with e | e
              · rw [show v10.ownBlock = (Value.slice a8 n8 c8).ownBlock from e]; exact HS8.out
              · exact .inr ⟨_, e, HA9.out.size⟩
            obtain ⟨a10, c10, rfl, _⟩ := ho10.row
            clear ho10 hg10 hat10 hsz9
            go_wp2_with fail
            go_roundg (gk - 1)
            case rel => exact ⟨j + 1, a10, _, c10, by omega, by go_num, rfl, HO10.out, HP10.out, HA10.out, HS10.out⟩
            case measure => omega
          · obtain rfl : j = m := by omega
            have HOF : Hid (OwnZ wr w2.heap.size (.slice a8 n8 c8) (toZ (othC g.size cells n k (besideL W z)))) := by
              have := HO8.out
              rw [List.take_of_length_le (by rw [HM.out]; exact Nat.le_refl _)] at this
              exact this
            have HPM : Hid ((othC g.size cells n k (besideL W z)).Perm (nextC W g.size cells k n)) := by
              have := othC_perm (W := W) (S := g.size) (cells := cells) (n := n) (i := k) hW1 (by rw [HZK.out]; exact HIN.out)
              rw [HZK.out] at this
              exact this
            have hn8 : (toZ (othC g.size cells n k (besideL W z))).length = n8 := by
              obtain ⟨a', c', e, _⟩ := HOF.out.row
              injection e with _ e _
              exact e.symm
            have HN8 : Hid ((nextC W g.size cells k n).length = n8) := by
              unfold Hid
              rw [← HPM.out.length_eq, ← toZ_len]
              exact hn8
            have hn8b : n8 ≤ n := by rw [← HN8.out]; exact nextC_len
            have HSO := Lib.hid (sortZ_any a8 n8 c8 w2.heap.size _ wr HOF.out hn8 (by omega))
            rw [sort_is HPM.out nextC_up] at HSO
            clear hn8
            go_wp2_with fail
            refine HSO.out.mono ?_
            rintro e w11 ⟨rfl, ho11, hg11⟩
            have HO11 := Lib.hid ho11
            have HP11 := Lib.hid (ownPr_grow HP8.out HOF.out hg11)
            have HB11 : Hid (Below w2.heap.size w2 w11) := HB8.out.grown hg11 hsz8 (fun q hq => (World.ownsRow.lt HOF.out q hq).1)
            clear ho11 hg11 hsz8
            go_wp2_with fail
            go_loopg [6, 51] n8 (fun gg v6 i V => ∃ j : Nat, j + gg = n8 ∧ i = .int .i64 j ∧ Hid (OwnPr V w2.heap.size 42 v6 (nearC W g.size cells n k ++ ((nextC W g.size cells k n).take j).map fun o => (k, o))) ∧ Hid (OwnZ V w2.heap.size (.slice a8 n8 c8) (toZ (nextC W g.size cells k n))) ∧ Hid (Below w2.heap.size w2 V))
            case atStart => exact ⟨0, by omega, rfl, by unfold Hid; simpa using HP11.out, HO11.out, HB11.out⟩
            case round =>
              obtain ⟨j2, hj2, rfl, HPV, HOV, HBV⟩ := hrel
              by_cases hjn : j2 < n8
              · have hjl : j2 < (nextC W g.size cells k n).length := by rw [HN8.out]; exact hjn
                have hrow := HOV.out.rowAt (by rw [toZ_len]; exact HN8.out)
                obtain ⟨bb, ob, rfl, hbb, hqb⟩ := hrow.cells (by omega)
                have hrj := hqb j2 hjn
                rw [toZ_at hjl] at hrj
                have HTK : Hid ((nextC W g.size cells k n).take (j2 + 1) = (nextC W g.size cells k n).take j2 ++ [(nextC W g.size cells k n).getD j2 0]) := by
                  unfold Hid
                  rw [List.take_succ_eq_append_getElem hjl]
                  simp [List.getD, hjl]
                have HMX : Hid (nextC W g.size cells k n = nextC W g.size cells k n) := rfl
                have HNL : Hid ((nearC W g.size cells n k ++ ((nextC W g.size cells k n).take j2).map fun o => (k, o)).length ≤ 2000000) := by
                  unfold Hid
                  have h1 := nearC_len (W := W) (S := g.size) (cells := cells) (n := n) k
                  have h2 : k * n ≤ 1000 * 1000 := Nat.mul_le_mul (by have := HLT.out; omega) hn
                  rw [List.length_append, List.length_map, List.length_take]
                  omega
                have hmc2 := hrow.2.1
                have hmx2 := hrow.2.2.1
                unfold maxLen at hmx2
                have hszV : w2.heap.size ≤ wr.heap.size := HBV.out.size
                have HOF2 := Lib.hid HOV.out
                have HFIN : Hid (nearC W g.size cells n k ++ ((nextC W g.size cells k n).take (j2 + 1)).map (fun o => (k, o)) = (nearC W g.size cells n k ++ ((nextC W g.size cells k n).take j2).map fun o => (k, o)) ++ [(k, (nextC W g.size cells k n).getD j2 0)]) := by
                  unfold Hid
                  rw [HTK.out]
                  simp
                generalize (nextC W g.size cells k n).getD j2 0 = y at hrj HFIN
                generalize nearC W g.size cells n k ++ ((nextC W g.size cells k n).take j2).map (fun o => (k, o)) = ps at HPV HNL HFIN
                have hp := HPV.out
                clear hrow hqb hbb hjl HTK HMX
                go_wp2_with (at_builtin; (refine wpList_append_own _ rfl (.tmp 55) (.tmp 59) 36 rfl w2.heap.size 42 i1 (.agg #[.int .i64 0, .int .i64 0]) 2 16 Try.underlying36 hi1 hx0 hx1 hx2 rfl (by decide) _ _ _ rfl (World.ownsRow.alloc hp _) ⟨wr.heap.size, 0, none⟩ 1 1 [.int .i64 (k : Nat), .int .i64 (y : Nat)] rfl rfl (two_cell _ _ _ _) (by simp [Value.oneCell']) (by have := HNL.out; simp only [maxLen]; omega) (by have := HNL.out; omega) (by simp; omega) ?_; intro v12 w12 hown12 hgrow12 _))
                have HP12 : Hid (OwnPr w12 w2.heap.size 42 v12 (nearC W g.size cells n k ++ ((nextC W g.size cells k n).take (j2 + 1)).map fun o => (k, o))) := by
                  unfold Hid OwnPr
                  rw [HFIN.out, List.length_append, List.length_singleton, pairsL_append]
                  exact hown12
                have HO12 := Lib.hid (ownZ_grow (World.ownsRow.alloc HOF2.out _) (World.ownsRow.alloc hp _) hgrow12)
                have HB12 : Hid (Below w2.heap.size w2 w12) := (HBV.out.alloc hszV _).grown hgrow12 (by simp; omega) (fun q hq => (World.ownsRow.lt hp q hq).1)
                clear hown12 hgrow12 hp hrj
                go_wp2_with fail
                go_roundg (gk - 1)
                case rel => exact ⟨j2 + 1, by omega, by go_num, HP12.out, HO12.out, HB12.out⟩
                case measure => omega
              · obtain rfl : j2 = n8 := by omega
                have HPF : Hid (OwnPr wr w2.heap.size 42 u6 (nearC W g.size cells n (k + 1))) := by
                  have := HPV.out
                  rw [List.take_of_length_le (by rw [HN8.out]; exact Nat.le_refl _), ← nearC_succ] at this
                  exact this
                go_wp2_with fail
                go_roundg (n - (k + 1))
                case rel => exact ⟨k + 1, a8, j2, c8, _, by have := HLT.out; omega, by go_num, rfl, HPF.out, HOV.out, HBV.out⟩
                case measure => have := HLT.out; omega
      · have HNO : Hid (nearC W g.size cells n (k + 1) = nearC W g.size cells n k) := by
          unfold Hid
          rw [nearC_succ, nextC_none (by rw [HZK.out]; exact hin)]
          simp
        rw [decide_eq_false hin] at HE
        clear hin
        go_wp2_with fail
        refine HE.out.mono ?_
        rintro e wa ⟨rfl, hba⟩
        have HPA := Lib.hid (HP.out.calls hba)
        have HOA := Lib.hid (HO.out.calls hba)
        have HBA : Hid (Below w2.heap.size w2 wa) := HBB.out.trans (hba.mono hszr)
        clear hba g0 g1 g2 hr1 hszr HP HO HBB HE
        go_wp2_with fail
        go_roundg (gk - 1)
        case rel => exact ⟨k + 1, a7, n7, c7, l7, by omega, by go_num, rfl, by rw [HNO.out]; exact HPA, HOA.out, HBA.out⟩
        case measure => omega
    · obtain rfl : k = n := by omega
      obtain ⟨a6, c6, rfl, _⟩ := HP.out.row
      have HBE := Lib.hid (HEND.out wr HBB.out)
      go_wp2_with fail
      go_ret
      refine ⟨a6, _, c6, rfl, rfl, ?_, HBE.out⟩
      have h1 := HP.out
      exact ⟨h1.1, by
        rcases h1.2 with h2 | ⟨gg, cap, cur, hv, hb, r⟩
        · exact .inl h2
        · exact .inr ⟨gg, cap, cur, hv, by have := HZ2.out; omega, r⟩⟩
end Go.Proofs.Ytacigmjdppoonaa.Vm
