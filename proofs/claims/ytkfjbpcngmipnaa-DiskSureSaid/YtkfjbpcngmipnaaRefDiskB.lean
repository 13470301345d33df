/- The document's disk: files without one, files with one more. -/
import Derived.Test.YtkfjbpcngmipnaaRefDisk
import Derived.Deep.DeepCutAuto
namespace Go.Proofs.Ytkfjbpcngmipnaa.Vm
open Go Go.RowKit
set_option maxRecDepth 100000

theorem info_file : (Try.prog.info? 51).map (fun i => (i.zero, i.size, i.bytes)) = some (some (.agg #[.string ⟨#[]⟩, .slice none 0 0, .int .i64 0]), 3, 48) := by kernel_rfl
theorem three_cell (w : World) (u v x : Value) (t : TypeId) : ∀ j y, [u, v, x][j]? = some y → (w.alloc (.cells #[u, v, x] t)).cell? ((⟨w.heap.size, 0, none⟩ : Addr).add j) = some y := by
  intro j y hj
  have hjn : j < 3 := by simpa using (List.getElem?_eq_some_iff.1 hj).1
  rw [Row.add, Nat.zero_add]
  match j, hjn with
  | 0, _ => simpa using hj
  | 1, _ => simpa using hj
  | 2, _ => simpa using hj
/-- All but one, where the one is there. -/
def eraseI {α : Type} (z : Int) (l : List α) : List α := if 0 ≤ z then l.eraseIdx z.toNat else l
section
variable {α : Type} {z : Int} {l : List α} {i : Nat}
theorem eraseI_ne (x : α) (hi : i < l.length) (hz : (i : Int) ≠ z) : eraseI z (l.take (i + 1)) = eraseI z (l.take i) ++ [l.getD i x] := by
  have e : l.take (i + 1) = l.take i ++ [l.getD i x] := by
    rw [List.take_add_one, List.getElem?_eq_getElem hi]
    simp [List.getD, hi]
  unfold eraseI
  split
  · rw [e]
    by_cases h : z.toNat < i
    · rw [List.eraseIdx_append_of_lt_length (by rw [List.length_take]; omega)]
    · rw [List.eraseIdx_of_length_le (by rw [List.length_append, List.length_take]; simp; omega), List.eraseIdx_of_length_le (by rw [List.length_take]; omega)]
  · exact e
theorem eraseI_eq (x : α) (hi : i < l.length) (hz : (i : Int) = z) : eraseI z (l.take (i + 1)) = eraseI z (l.take i) := by
  subst hz
  unfold eraseI
  rw [if_pos (by omega), if_pos (by omega), Int.toNat_natCast, List.eraseIdx_of_length_le (k := i) (l := l.take i) (by rw [List.length_take]; omega), List.take_add_one, List.eraseIdx_append_of_length_le (by rw [List.length_take]; omega)]
  rw [List.length_take, Nat.min_eq_left (by omega), Nat.sub_self, List.getElem?_eq_getElem hi]
  simp
theorem eraseI_all : eraseI z (l.take l.length) = eraseI z l := by rw [List.take_length]
theorem eraseI_len_le : (eraseI z l).length ≤ l.length := by
  unfold eraseI
  split
  · exact (List.eraseIdx_sublist _ _).length_le
  · omega
theorem eraseI_two {β : Type} {m : List β} (hl : l.length = m.length) : (eraseI z l).length = (eraseI z m).length ∧ ∀ (x : α) (y : β) (j : Nat), j < (eraseI z l).length → ∃ k, k < l.length ∧ (eraseI z l).getD j x = l.getD k x ∧ (eraseI z m).getD j y = m.getD k y := by
  unfold eraseI
  split
  · refine ⟨by rw [List.length_eraseIdx, List.length_eraseIdx, hl], fun x y j hj => ?_⟩
    have hj2 : j < (m.eraseIdx z.toNat).length := by rw [List.length_eraseIdx, ← hl, ← List.length_eraseIdx]; exact hj
    have h3 := (List.eraseIdx_sublist l z.toNat).length_le
    by_cases h : j < z.toNat
    · exact ⟨j, by omega, by simp [List.getD, List.getElem?_eraseIdx, h], by simp [List.getD, List.getElem?_eraseIdx, h]⟩
    · refine ⟨j + 1, ?_, by simp [List.getD, List.getElem?_eraseIdx, h], by simp [List.getD, List.getElem?_eraseIdx, h]⟩
      rw [List.length_eraseIdx] at hj
      split at hj <;> omega
  · exact ⟨hl, fun x y j hj => ⟨j, hj, rfl, rfl⟩⟩
end
/-- Other files in a disk. -/
theorem RefAt.repl {w V : World} {O : Nat → Prop} {bd : Nat} {v v' : Value} {l l' : List FileV} {d : DiskS} {F : List FileS} (h : RefAt w O bd v l d) (hb : Below w.heap.size w V) (ho : OwnFs V w.heap.size 51 v' l') (hl : l'.length = F.length)
    (hk : ∀ i, i < l'.length → ByteIn w O (fun k => k = bd) (l'.getD i zfv) (F.getD i zfile)) :
    RefAt (V.setCell ⟨bd, 0, none⟩ v') (fun k => O k ∨ (w.heap.size ≤ k ∧ k < V.heap.size)) bd v' l' { d with F := F } ∧ Alt (fun k => k = bd) w (V.setCell ⟨bd, 0, none⟩ v') := by
  have hbd := h.lt bd h.obd
  have hA1 : Alt (fun k => k = bd) w (V.setCell ⟨bd, 0, none⟩ v') := ⟨hb.os, hb.tape, hb.output, by have := hb.size; simpa [World.setCell] using this, fun k hk hn => (Below.heap_setCell _ _ _ _ hn).trans (hb.block k hk)⟩
  have hA2 : Alt (fun k => k = bd) V (V.setCell ⟨bd, 0, none⟩ v') := ⟨rfl, rfl, rfl, by simp [World.setCell], fun k hk hn => Below.heap_setCell _ _ _ _ hn⟩
  have hvb : ∀ k, v'.ownBlock = some k → w.heap.size ≤ k ∧ k < V.heap.size := fun k hk => World.ownsRow.lt ho k hk
  refine ⟨⟨?_, (ho.alt hA2 (fun k hk => by have := hvb k hk; omega)).lower, hl, fun i hi => ?_, .inl h.obd, fun k hk => ⟨.inr (hvb k hk), by have := hvb k hk; omega⟩, fun k hk => ?_⟩, hA1⟩
  · rw [Go.heap_setCell_same _ _ _ _ _ _ ((hb.block bd hbd).trans h.box)]
    simp
  · have h1 := (hk i hi).alt hA1 (fun k _ hs => hs)
    refine ⟨h1.name, h1.sure, h1.n, h1.row, fun b o hn e => ?_⟩
    have h2 := h1.off b o hn e
    refine ⟨.inl h2.1, fun hm => ?_⟩
    rcases hm with hm | hm
    · exact h2.2 hm
    · have := hvb b hm
      have := h.lt b h2.1
      omega
  · have hs : (V.setCell ⟨bd, 0, none⟩ v').heap.size = V.heap.size := by simp [World.setCell]
    rw [hs]
    rcases hk with hk | hk
    · exact Nat.lt_of_lt_of_le (h.lt k hk) hb.size
    · exact hk.2
/-- What a change of the files leaves: other blocks than the disk's own are as they were. -/
def RefPostB (w : World) (O : Nat → Prop) (bd : Nat) (d' : DiskS) (w' : World) : Prop := ∃ O' v' l', RefAt w' O' bd v' l' d' ∧ Alt (fun k => k = bd) w w' ∧ (∀ k, O' k → O k ∨ w.heap.size ≤ k) ∧ ∀ k, O k → O' k
theorem RefPostB.post {w w' : World} {O : Nat → Prop} {bd : Nat} {d' : DiskS} (h : RefPostB w O bd d' w') (hb : O bd) : RefPost w O bd d' w' := by
  obtain ⟨O', v', l', h1, h2, h3, _⟩ := h
  exact ⟨O', ⟨v', l', h1⟩, h2.mono (fun k hk _ => by rw [hk]; exact hb), h3⟩
theorem repl_post {w V W : World} {O : Nat → Prop} {bd : Nat} {v' : Value} {l' : List FileV} {d' : DiskS} (h : RefAt W (fun k => O k ∨ (w.heap.size ≤ k ∧ k < V.heap.size)) bd v' l' d' ∧ Alt (fun k => k = bd) w W) : RefPostB w O bd d' W :=
  ⟨_, _, _, h.1, h.2, fun k hk => hk.imp id (·.1), fun k hk => .inl hk⟩
theorem ByteIn.sub {w : World} {O S S' : Nat → Prop} {f : FileV} {g : FileS} (h : ByteIn w O S f g) (hs : ∀ k, S' k → S k) : ByteIn w O S' f g :=
  ⟨h.name, h.sure, h.n, h.row, fun b o hn e => ⟨(h.off b o hn e).1, fun hk => (h.off b o hn e).2 (hs b hk)⟩⟩

set_option maxHeartbeats 2000000 in
theorem rOut13_any (bd : Nat) (v : Value) (l : List FileV) (d : DiskS) (O : Nat → Prop) (z : Int) (w : World) (h : RefAt w O bd v l d) (hF : d.F.length ≤ 1000000) :
    Calls Try.prog 44 #[.pointer (some ⟨bd, 0, none⟩), .int .i64 z] w fun e w' => e = .returned (.tuple #[]) ∧ RefPostB w O bd { d with F := eraseI z d.F } w' := by
  obtain ⟨a, c, rfl⟩ := h.form
  obtain ⟨q0, _, _, _⟩ := h.cells
  have f0 := h.frozen 0
  have hat := h.own.at
  have HC := Lib.hid hat.2.2.2
  have hnc := hat.2.1
  have HL := Lib.hid h.len
  have HR := Lib.hid h
  have hcm := hat.2.2.1
  have hbd := h.lt bd h.obd
  have hln := h.len
  unfold maxLen at hcm
  obtain ⟨i1, hi1, hy0, hy1, hy2⟩ := info_parts info_file
  clear hat h
  generalize hN : d.F.length = N at *
  have HN := Lib.hid hN
  clear hN
  go_enter Try.func44, Try.ntmps44
  go_wp2_with fail
  go_loopg [4, 5] N (fun gg v4 v5 wr => ∃ i : Nat, i + gg = N ∧ v5 = .int .i64 i ∧ Hid (OwnFs wr w.heap.size 51 v4 (eraseI z (l.take i))) ∧ Hid (Below w.heap.size w wr))
  case atStart => exact ⟨0, by omega, rfl, by rw [List.take_zero]; unfold eraseI; split <;> exact OwnFs.nil _ _ _, Below.refl _ _⟩
  case round =>
    obtain ⟨i, hig, rfl, HO, HB⟩ := hrel
    have q0r := (Below.cell (p := ⟨bd, 0, none⟩) HB.out hbd).trans q0
    by_cases hi : i < N
    · have hii : (i : Int) < (N : Int) := by omega
      have d1 : decide ((i : Int) < (N : Int)) = true := by rw [decide_eq_true_eq]; exact hii
      by_cases hz : (i : Int) = z
      · have d2 : ((i : Int) != z) = false := by simpa using hz
        have HO' : Hid (OwnFs wr w.heap.size 51 u4 (eraseI z (l.take (i + 1)))) := by unfold Hid; rw [eraseI_eq zfv (by omega) hz]; exact HO.out
        clear hz
        go_wp2_with fail
        go_roundg (gk - 1)
        case rel => exact ⟨i + 1, by omega, by first | rfl | go_num, HO', HB⟩
        case measure => omega
      · have d2 : ((i : Int) != z) = true := by simpa using hz
        obtain ⟨lb, rfl, _, hlb, hcs, _⟩ := HC.out (by omega)
        have hc0 := (Below.cell (p := ⟨lb, i * 3, none⟩) HB.out hlb).trans (hcs i hi).1
        have hc1 := (Below.cell (p := ⟨lb, i * 3 + 1, none⟩) HB.out hlb).trans (hcs i hi).2.1
        have hc2 := (Below.cell (p := ⟨lb, i * 3 + 2, none⟩) HB.out hlb).trans (hcs i hi).2.2
        have HE : Hid (eraseI z (l.take (i + 1)) = eraseI z (l.take i) ++ [l.getD i zfv]) := eraseI_ne zfv (by omega) hz
        have hlen : (eraseI z (l.take i)).length ≤ 1000000 := Nat.le_trans eraseI_len_le (by rw [List.length_take]; omega)
        have HZ := Lib.hid HB.out.size
        clear hcs hz
        generalize hf : l.getD i zfv = f at hc0 hc1 hc2 HE
        have HF := Lib.hid hf
        generalize hlx : eraseI z (l.take i) = lx at hlen HE HO
        clear hf hlx
        go_wp2_with (at_builtin; (refine wpList_append_own _ rfl (.tmp 18) (.tmp 26) 47 rfl w.heap.size 51 i1 (.agg #[.string ⟨#[]⟩, .slice none 0 0, .int .i64 0]) 3 48 Try.underlying47 hi1 hy0 hy1 hy2 rfl (by decide) _ _ _ rfl (World.ownsRow.alloc HO.out _) ⟨wr.heap.size, 0, none⟩ 1 1 [.string f.name, .slice f.a f.n f.c, .int .i64 f.sure] rfl rfl (three_cell _ _ _ _ _) (by simp [Value.oneCell']) (by simp only [maxLen]; omega) (by omega) (by have := HZ.out; simp; omega) ?_; intro v6 w6 hown6 hgrow6 _))
        have HO6 : Hid (OwnFs w6 w.heap.size 51 v6 (eraseI z (l.take (i + 1)))) := by
          unfold Hid OwnFs
          rw [HE.out, List.length_append, filesL_append]
          simpa [filesL, fileL] using hown6
        have HB6 : Hid (Below w.heap.size w w6) := (HB.out.alloc (by have := HZ.out; omega) _).grown hgrow6 (by have := HZ.out; simp; omega) (fun k hk => (World.ownsRow.lt HO.out k hk).1)
        clear hown6 hgrow6
        go_wp2_with fail
        go_roundg (gk - 1)
        case rel => exact ⟨i + 1, by omega, by first | rfl | go_num, HO6, HB6⟩
        case measure => omega
    · obtain rfl : i = N := by omega
      have d1 : decide ((i : Int) < (i : Int)) = false := by simp
      have f0r : wr.frozen? ⟨bd, 0, none⟩ = false := (Below.frozen (p := ⟨bd, 0, none⟩) HB.out hbd).trans f0
      have hE := eraseI_two (z := z) (l := l) (m := d.F) (by rw [HL.out, HN.out])
      have hRP := HR.out.repl (F := eraseI z d.F) HB.out (by have := HO.out; rwa [show l.take i = l by rw [← HL.out, List.take_length]] at this) hE.1 (fun j hj => by
        obtain ⟨k, hk, e1, e2⟩ := hE.2 zfv zfile j hj
        rw [e1, e2]
        exact (HR.out.like k hk).sub (fun k hk => .inl hk))
      obtain ⟨a4, c4, rfl⟩ := HO.out.slice
      have HRP := Lib.hid hRP
      clear hE hRP
      generalize (eraseI z (l.take i)).length = n4 at *
      go_wp2_with fail
      go_end0
      exact ⟨rfl, repl_post HRP.out⟩
end Go.Proofs.Ytkfjbpcngmipnaa.Vm
