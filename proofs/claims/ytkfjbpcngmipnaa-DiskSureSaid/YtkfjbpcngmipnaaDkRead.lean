/- The program's disk: Read; the contract of slices.Clone at bytes. -/
import Derived.Test.YtkfjbpcngmipnaaDkSync
namespace Go.Proofs.Ytkfjbpcngmipnaa.Vm
open Go Go.RowKit Go.Maps
set_option maxRecDepth 100000

theorem eql_nilB {t e : TypeId} (ht : Try.prog.underlying t = some (.slice e)) (a : Option Addr) (n c : Nat) (w : World) : (binOp .eql t (.slice a n c) (.slice none 0 0)).run Try.prog w = .ok (.bool a.isNone) w := by
  simp only [binOp]
  simp [run_equal_slice_nil w t e a n c ht, Result.andThen]
set_option maxHeartbeats 400000 in
theorem cloneB_any (a : Option Addr) (n c B : Nat) (rs : List Nat) (w : World) (h : Row .u8 w B a n c rs) (hB : B ≤ w.heap.size) (hn : n ≤ 16777216) :
    Calls Try.prog 36 #[.slice a n c] w fun e w' => ∃ a' c', e = .returned (.slice a' n c') ∧ Own w' w.heap.size (.slice a' n c') rs ∧ Below w.heap.size w w' := by
  have hl := h.1
  have hen := eql_nilB Try.underlying33 a n c
  cases a with
  | none =>
    obtain rfl : n = 0 := by
      rcases Nat.eq_zero_or_pos n with h0 | h0
      · exact h0
      · obtain ⟨_, _, e, _⟩ := h.cells h0; cases e
    obtain rfl := List.eq_nil_of_length_eq_zero hl
    clear h
    go_enter Try.func36, Try.ntmps36
    go_wp2_with fail
    go_ret
    exact ⟨none, 0, rfl, World.ownsRow_nil _ _ _ _, Below.refl _ _⟩
  | some ad =>
    have HR := Lib.hid (fun o : Obj => h.below ((Below.refl B w).alloc hB o))
    have HL := Lib.hid hl
    have HBE := Lib.hid fun o : Obj => (Below.refl w.heap.size w).alloc (Nat.le_refl _) o
    clear h hl
    go_enter Try.func36, Try.ntmps36
    go_wp2_with (at_builtin; refine wpList_append_row rfl (.tmp 5) (.tmp 6) rfl rfl (own_none w) rfl (HR.out _) (by simp only [List.length_nil]; omega) (by simp) ?_; intro v' w3 hown3 hgrow3 _)
    have HO : Hid (Own w3 w.heap.size v' rs) := by
      have := hown3
      rwa [List.nil_append] at this
    obtain ⟨a', c', rfl, _⟩ := HO.out.slice
    have HB3 := Lib.hid ((HBE.out _).grown hgrow3 (by simp) (fun k hk => ((own_none w).blk hk).1))
    clear hown3 hgrow3
    go_wp2_with fail
    go_ret
    rw [HL.out] at HO ⊢
    exact ⟨a', c', rfl, HO.out, HB3.out⟩

/-- What Read tells, the bytes in new memory. -/
def SaysReadN (w : World) (F : List FileS) (n : ByteArray) (e : Ending) (w' : World) : Prop :=
  ∃ a m c x, e = .returned (.tuple #[.slice a m c, .int .i64 x]) ∧ Own w' w.heap.size (.slice a m c) (if atS F n < F.length then (F.getD (atS F n) zfile).b else []) ∧ x = (if atS F n < F.length then 0 else 5) ∧ Below w.heap.size w w'
theorem SaysReadN.says {w w' : World} {F : List FileS} {n : ByteArray} {e : Ending} (h : SaysReadN w F n e w') : SaysRead w F n e w' := by
  obtain ⟨a, m, c, x, he, ho, hx, hb⟩ := h
  exact ⟨a, m, c, x, he, ho.row, hx, hb⟩
set_option maxHeartbeats 1000000 in
theorem pRead13_any (bd mb : Nat) (g : ByteArray → Option PF) (fu : Int) (d : DiskS) (n : ByteArray) (w : World) (h : PrgAt w bd mb g fu d) (hd : OkD d) (hn : n.size ≤ maxLen) :
    Calls Try.prog 13 #[.pointer (some ⟨bd, 0, none⟩), .string n] w (SaysReadN w d.F n) := by
  obtain ⟨q0, _, _, _, _⟩ := h.box.cells
  have HAL := Lib.hid hd.all
  by_cases hi : atS d.F n < d.F.length
  · obtain ⟨p, hgp, hfp⟩ := h.files.has hi id
    have hlook := ((h.files.look hn).2 hgp).1
    obtain ⟨a, c, esl, hrow⟩ := hfp.own.slice
    have hrc := hrow.2.1
    have hrm := hrow.2.2.1
    unfold maxLen at hrm
    rw [esl, hfp.sure] at hlook
    have hbl := Nat.le_trans (b_le hi) HAL.out
    have HSR : Hid (∀ (a' : Option Addr) (c' : Nat) (w1 w' : World), Own w' w1.heap.size (.slice a' (d.F.getD (atS d.F n) zfile).b.length c') (d.F.getD (atS d.F n) zfile).b → Below w1.heap.size w1 w' → w.heap.size ≤ w1.heap.size → Below w.heap.size w w1 → SaysReadN w d.F n (.returned (.tuple #[.slice a' (d.F.getD (atS d.F n) zfile).b.length c', .int .i64 0])) w') := fun a' c' w1 w' h1 h2 h3 h4 => ⟨a', _, c', 0, rfl, by rw [if_pos hi]; exact h1.mono h3, by rw [if_pos hi], h4.trans (h2.mono h3)⟩
    clear hgp hfp esl
    have HROW := Lib.hid hrow
    clear hrow hi
    generalize d.F.getD (atS d.F n) zfile = f at *
    obtain ⟨b, hfb⟩ : ∃ b, b = f.b := ⟨_, rfl⟩
    rw [← hfb] at HSR HROW hlook hrc hbl
    have HBL : Hid (b.length ≤ 16777216) := hbl
    generalize hL : b.length = L at *
    obtain ⟨w2, hw2⟩ : ∃ w2, w2 = w.alloc (.cells #[.slice a L c, .int .i64 f.sure] 66) := ⟨_, rfl⟩
    have hfb2 : FileB w2 w.heap.size a L c f.sure := by rw [hw2]; exact FileB.new w
    have hb2 : Below w.heap.size w w2 := by rw [hw2]; exact (Below.refl _ _).alloc (Nat.le_refl _) _
    obtain ⟨c0, c1, _⟩ := hfb2.cells
    have HB2 := Lib.hid hb2
    have HCL := Lib.hid (cloneB_any a L c w2.heap.size b w2 ((HROW.out.below hb2).mono hb2.size) (Nat.le_refl _) hbl)
    have HW2 := Lib.hid hw2
    clear hw2 hb2 hfb2 h hd hfb hL hbl
    go_enter Try.func13, Try.ntmps13
    go_upto_region 2 with fail
    rw [← HW2.out]
    go_wp2_with fail
    refine HCL.out.mono ?_
    rintro e w3 ⟨a', c', rfl, hown, hb3⟩
    have HO := Lib.hid hown
    have HB3 := Lib.hid hb3
    clear hown hb3
    go_wp2_with fail
    exact bodyPost_ret (v := .tuple #[.slice a' L c', .int .i64 0]) (by simp [results, Try.results13, go_sem]) rfl (HSR.out _ _ _ _ HO.out HB3.out HB2.out.size HB2.out)
  · have hlook := ((h.files.look (p := zpf) hn).1 (h.files.hasNot hi)).1
    have HSR : Hid (SaysReadN w d.F n (.returned (.tuple #[.slice none 0 0, .int .i64 5])) (w.alloc (.cells #[.slice none 0 0, .int .i64 0] 66))) := ⟨none, 0, 0, 5, rfl, by rw [if_neg hi]; exact World.ownsRow_nil _ _ _ _, by rw [if_neg hi], (Below.refl _ _).alloc (Nat.le_refl _) _⟩
    clear hi h hd
    go_enter Try.func13, Try.ntmps13
    go_wp2_with fail
    exact bodyPost_ret (v := .tuple #[.slice none 0 0, .int .i64 5]) (by simp [results, Try.results13, go_sem]) rfl HSR.out
end Go.Proofs.Ytkfjbpcngmipnaa.Vm
