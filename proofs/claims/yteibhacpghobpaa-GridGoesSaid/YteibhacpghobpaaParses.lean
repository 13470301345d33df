/- The contract of grid.Parse. -/
import Derived.Test.YteibhacpghobpaaMeasures
import Derived.Test.YteibhacpghobpaaOwns
import Derived.Lib.OthersKept
import Derived.Laws.MakeOwn
namespace Go.Proofs.Yteibhacpghobpaa.Vm
open Go.RowKit

theorem own_iterAt {w : World} {B e size n : Nat} {v : Value} {xs : List Value} {k : Nat} {s : ByteArray} {pos : Nat} (h : w.ownsRow B e size v n xs) (hk : w.heap[k]? = some (.stringIter s pos)) (pos' : Nat) : (w.iterAt k s pos').ownsRow B e size v n xs := by
  refine ⟨h.1, ?_⟩
  rcases h.2 with h0 | ⟨g, cap, cur, hv, hb, hg, rest⟩
  · exact .inl h0
  · refine .inr ⟨g, cap, cur, hv, hb, ?_, rest⟩
    rw [Lib.iterAt_other _ _ _ _ _ (fun e => by subst e; rw [hk] at hg; cases hg)]
    exact hg
theorem own_ne_iter {w : World} {B e size n : Nat} {v : Value} {xs : List Value} {k : Nat} {s : ByteArray} {pos : Nat} (h : w.ownsRow B e size v n xs) (hk : w.heap[k]? = some (.stringIter s pos)) : some k ≠ v.ownBlock := by
  rcases h.2 with ⟨rfl, _⟩ | ⟨g, cap, cur, rfl, hb, hg, rest⟩
  · simp [Value.ownBlock]
  · intro e
    simp only [Value.ownBlock, Option.some.injEq] at e
    subst e
    rw [hk] at hg
    cases hg

theorem heap_keep {w : World} {o : Obj} {k : Nat} (h : k < w.heap.size) : (w.alloc o).heap[k]? = w.heap[k]? := by
  show (w.heap.push o)[k]? = _
  rw [Array.getElem?_push_lt h, Array.getElem?_eq_getElem h]
/-- A grid and an error, as Parse answers them. -/
def ParsePost (w : World) (R : Nat × Nat × List Nat × Nat) (e : Ending) (w' : World) : Prop :=
  e = .returned (.tuple #[gridV R.1 R.2.1 (strOf R.2.2.1), .int .i64 (R.2.2.2 : Nat)]) ∧ Below w.heap.size w w'
theorem parsePost_no {w w' : World} {R : Nat × Nat × List Nat × Nat} {er : Nat} (h : R = (0, 0, [], er)) (hb : Below w.heap.size w w') : ParsePost w R (.returned (.tuple #[.agg #[.int .i64 0, .int .i64 0, .string ⟨#[]⟩], .int .i64 er])) w' := by
  subst h
  exact ⟨rfl, hb⟩
theorem parsePost_yes {w w' : World} {R : Nat × Nat × List Nat × Nat} {W H : Nat} {l : List Nat} (h : R = (W, H, l, 0)) (hb : Below w.heap.size w w') : ParsePost w R (.returned (.tuple #[.agg #[.int .i64 W, .int .i64 H, .string (strOf l)], .int .i64 0])) w' := by
  subst h
  exact ⟨rfl, hb⟩

/-- A grid stored into a block of the call's own. -/
theorem below_three {w w1 : World} {a b c : Value} (h : Below w.heap.size w w1) : Below w.heap.size w (((w1.setCell ⟨w.heap.size, 0, none⟩ a).setCell ⟨w.heap.size, 1, none⟩ b).setCell ⟨w.heap.size, 2, none⟩ c) :=
  ((h.setCell (by simp) _).setCell (by simp) _).setCell (by simp) _

set_option maxRecDepth 100000 in
set_option maxHeartbeats 800000 in
theorem parse_any (s : ByteArray) (w : World) (hs : s.size ≤ 1099511627776) : Calls Try.prog 8 #[.string s] w (ParsePost w (parseS (bytesOf s))) := by
  obtain ⟨i0, hi0, hz0, hz1, hz2⟩ := info_parts info_u8
  have HL := Lib.hid (bytesOf_len s)
  have hB : Below w.heap.size w (w.alloc (gridO 0 0 ⟨#[]⟩)) := (Below.refl _ _).alloc (Nat.le_refl _) _
  have HM := Lib.hid (measure_any s (w.alloc (gridO 0 0 ⟨#[]⟩)) (by unfold maxLen; omega))
  go_enter Try.func8, Try.ntmps8
  go_wp2_with fail
  refine HM.out.mono ?_
  rintro e w1 (⟨W, H, cells, hM, hW, hH, rfl, hb⟩ | ⟨hM, W, H, rfl, hb⟩)
  · have hb2 := hB.trans (hb.mono hB.size)
    obtain ⟨hc, hfz⟩ := bcell hb
    have hz : w.heap.size < w1.heap.size := by have := hb.size; simp at this; omega
    have hP := parseS_some hM
    rw [HL.out] at hW hH
    by_cases hbig : 256 < W ∨ 256 < H
    · have HP := Lib.hid (hP.trans (if_pos hbig))
      clear hP hM
      have hbig2 : 256 < W ∨ (W ≤ 256 ∧ 256 < H) := by omega
      clear hbig
      rcases hbig2 with h | ⟨h1, h2⟩
      all_goals
        go_wp2_with fail
        refine bodyPost_ret (v := .tuple #[.agg #[.int .i64 0, .int .i64 0, .string ⟨#[]⟩], .int .i64 4]) (by simp [results, Try.results8, go_sem, hc, hz]) rfl (parsePost_no HP.out (below_three hb2))
    · have HP := Lib.hid (hP.trans (if_neg hbig))
      obtain ⟨hrl, hrok⟩ := measS_read hM
      obtain ⟨hall, hflat⟩ := measS_flat hM
      have hW2 : W ≤ 256 := by omega
      have hH2 : H ≤ 256 := by omega
      have hprod : W * H ≤ 65536 := Nat.le_trans (Nat.mul_le_mul hW2 hH2) (by omega)
      have hp0 : (0 : Int) ≤ (W : Int) * H := Int.mul_nonneg (by omega) (by omega)
      have hp1 : (W : Int) * H ≤ 65536 := by rw [← Int.natCast_mul]; omega
      have hlen : cells.length ≤ 65536 := by omega
      have HALL := Lib.hid hall
      have HFL := Lib.hid hflat
      clear hP hM hbig hrl hrok hall hflat
      obtain ⟨w2, hmk, hown2, hg2⟩ := run_make_own (P := Try.prog) w1 w1.heap.size 44 5 i0 _ 1 Try.underlying44 hi0 hz0 hz1 .i64 .i64 (W * H) (by rw [hz2]; omega) (by unfold maxLen; omega) (Nat.le_refl _)
      rw [Int.natCast_mul] at hmk
      have hbel2 : Below w1.heap.size w1 w2 := (Below.refl _ _).grown hg2 (Nat.le_refl _) (fun k hk => by simp at hk)
      have hs12 := hbel2.size
      have Hc := Lib.hid hc
      have Hfz := Lib.hid hfz
      clear hc hfz hg2
      go_wp2_with fail
      go_loopw [7] (fun v wr => ∃ (k : Nat) (out : List Nat), k ≤ s.size ∧ out.length ≤ 65536 ∧ wr.heap[w2.heap.size]? = some (.stringIter s k) ∧ Own wr w1.heap.size v out ∧ Below w1.heap.size w1 wr ∧ Hid (out = flatS ((bytesOf s).take k))) (fun _ wr => s.size - wr.iterPos w2.heap.size)
      case atStart => exact ⟨0, [], Nat.zero_le _, Nat.zero_le _, World.iter_heap _ _ _, World.ownsRow.alloc hown2 _, hbel2.alloc hs12 _, rfl⟩
      case round =>
        obtain ⟨k, out, hk, hol, hit, hown, hbel, HO⟩ := hrel
        have hpos : wr.iterPos w2.heap.size = k := by simp [World.iterPos, hit]
        have HPOS := Lib.hid hpos
        clear hpos
        by_cases hlt : k < s.size
        · have hat := bytesOf_at s k hlt
          have hkl : k < (bytesOf s).length := by rw [HL.out]; exact hlt
          have hc := HALL.out ((bytesOf s).getD k 0) (by simp [List.getD, hkl])
          rw [hat] at hc
          have ha : (s[k]'hlt).toNat < 128 := by
            rcases hc with h | h
            · omega
            · exact letterS_lt h
          have hnx := fun ty => Lib.run_next_ascii_at (P := Try.prog) wr w2.heap.size s k ty hit hlt ha
          have hfl := flatS_snoc hkl hat
          have hfln := flatS_len (bytesOf s) (k + 1)
          rw [← HFL.out] at hfln
          generalize (s[k]'hlt).toNat = c at hat hnx hc ha hfl
          have hitlt : w2.heap.size < wr.heap.size := (Array.getElem?_eq_some_iff.1 hit).1
          by_cases hc10 : c = 10
          · subst hc10
            rw [if_pos rfl, List.append_nil] at hfl
            have HO2 := Lib.hid (HO.out.trans hfl.symm)
            clear hfl hfln hat HO hc
            go_wp2_with fail
            go_roundw
            case rel => exact ⟨k + 1, out, by omega, hol, Lib.iterAt_heap _ _ _ _ _ hit, own_iterAt hown hit _, Lib.below_iterAt hbel hs12 _ _, HO2.out⟩
            case measure => rw [World.iterPos, Lib.iterAt_heap _ _ _ _ _ hit, HPOS.out]; simp only []; omega
          · have e0 : ((c : Int) != 10) = true := by rw [bne_iff_ne]; omega
            rw [if_neg hc10, ← HO.out] at hfl
            have HO2 := Lib.hid hfl.symm
            have hol2 : (out ++ [c]).length ≤ 65536 := by rw [← hfl]; omega
            clear hfl hfln hat hc hc10
            have hit2 := Lib.iterAt_heap wr _ s k (k + 1) hit
            have hown2' : Own (wr.iterAt w2.heap.size s (k + 1)) w1.heap.size u7 out := own_iterAt hown hit _
            have hbel2' : Below w1.heap.size w1 (wr.iterAt w2.heap.size s (k + 1)) := Lib.below_iterAt hbel hs12 _ _
            have HNX := Lib.hid hnx
            clear hnx hown hbel hit hitlt HO
            generalize hwi : wr.iterAt w2.heap.size s (k + 1) = wi at HNX hit2 hown2' hbel2'
            have HWI := Lib.hid hwi
            have hnx := HNX.out
            clear HNX hwi
            have hitlt : w2.heap.size < wi.heap.size := (Array.getElem?_eq_some_iff.1 hit2).1
            go_wp2_with (at_builtin; refine wpList_append_own _ rfl (.tmp 37) (.tmp 40) 44 rfl w1.heap.size 5 i0 (.int .u8 0) 1 1 Try.underlying44 hi0 hz0 hz1 hz2 rfl (by decide) _ _ _ rfl (World.ownsRow.alloc hown2' _) ⟨wi.heap.size, 0, none⟩ 1 1 [.int .u8 (c : Int)] rfl rfl (one_cell _ _ _) (by simp [Value.oneCell']) (by simp only [maxLen]; omega) (by omega) (by have := hbel2'.size; simp; omega) ?_; intro v' w3 hown3 hgrow3 _)
            have RR := push_step rfl hown2' hbel2' (Nat.le_refl _) hown3 hgrow3
            have hit3 : w3.heap[w2.heap.size]? = some (.stringIter s (k + 1)) := (hgrow3.block _ (by simp; omega) (own_ne_iter hown2' hit2)).trans ((heap_keep hitlt).trans hit2)
            clear hown3 hgrow3 hown2' hbel2'
            go_wp2_with fail
            go_roundw
            case rel => exact ⟨k + 1, out ++ [c], by omega, hol2, hit3, RR.1, RR.2, HO2.out⟩
            case measure => rw [World.iterPos, hit3, HPOS.out]; simp only []; omega
        · have hnx := fun ty => Lib.run_next_end_at (P := Try.prog) wr w2.heap.size s k ty hit hlt
          have hfin : out = cells := by rw [HO.out, HFL.out, List.take_of_length_le (by rw [HL.out]; omega)]
          subst hfin
          obtain ⟨a, cp, rfl⟩ := own_slice hown
          have hcv := conv_row (P := Try.prog) 44 5 9 Try.underlying44 Try.underlying5 Try.underlying9 (Row.of_own (e := 5) hown)
          have hb3 := hb2.trans (hbel.mono hb2.size)
          have hc := Hc.out
          have hfz := Hfz.out
          obtain ⟨hc3, hfz3⟩ := bcell hbel
          clear hown HO HFL hown2
          go_wp2_with fail
          refine bodyPost_ret (v := .tuple #[.agg #[.int .i64 W, .int .i64 H, .string (strOf out)], .int .i64 0]) (by simp [results, Try.results8, go_sem, hc, hc3, hz]) rfl (parsePost_yes HP.out (below_three hb3))
  · have hb2 := hB.trans (hb.mono hB.size)
    obtain ⟨hc, hfz⟩ := bcell hb
    have hz : w.heap.size < w1.heap.size := by have := hb.size; simp at this; omega
    have HP := Lib.hid (parseS_none hM)
    clear hM
    go_wp2_with fail
    refine bodyPost_ret (v := .tuple #[.agg #[.int .i64 0, .int .i64 0, .string ⟨#[]⟩], .int .i64 3]) (by simp [results, Try.results8, go_sem, hc, hz]) rfl (parsePost_no HP.out (below_three hb2))
end Go.Proofs.Yteibhacpghobpaa.Vm
