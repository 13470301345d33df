/- What codec's takeState keeps. The contract of codec's takeState. The contract of codec's takeWays. What codec's takeRecord keeps. The contract of codec's takeRecord. -/
import Derived.Test.YtplnaaokapilpaaDoorReads
import Derived.Test.YtplnaaokapilpaaDoorCodMath
import Derived.Test.YtplnaaokapilpaaDoorPushes
import Derived.Deep.LoopGhost
import Derived.Lib.AppendZeros
import Derived.Deep.RegionLaw
import Derived.BigRegion
import Derived.BigQuiet
import Derived.Deep.CutRange
import Derived.Deep.DeepCutAuto
import Derived.Deep.CutBlock
namespace Go.Proofs.YtplnaaokapilpaaDoor.Vm
open Go Go.RowKit

theorem But.grownNew {lb B n : Nat} {A V V' : World} {e : TypeId} {size : Nat} {v : Value} {xs : List Value} (h : But lb A V) (hg : V.grownBy V' v.ownBlock) (ho : V.ownsRow B e size v n xs) (hB : A.heap.size ≤ B) : But lb A V' :=
  ⟨hg.os.trans h.os, hg.tape.trans h.tape, hg.output.trans h.output, Nat.le_trans h.size hg.size, fun k hk hne => (hg.block k (Nat.lt_of_lt_of_le hk h.size) (fun e => by have := (World.ownsRow.lt ho k e.symm).1; omega)).trans (h.block k hk hne)⟩
theorem RdAt.but {w w' : World} {b lb : Nat} {a : Option Addr} {n c : Nat} {zs ys : List Nat} (h : RdAt w b a n c zs ys) (hb : But lb w w') (hne : b ≠ lb) : RdAt w' b a n c zs ys := by
  obtain ⟨p, h1, h2, h3⟩ := h
  exact ⟨p, h1, h2, h3.but hb hne⟩
theorem RdAt.grown {w w' : World} {b B m size : Nat} {a : Option Addr} {n c : Nat} {zs ys : List Nat} {e : TypeId} {v : Value} {xs : List Value} (h : RdAt w b a n c zs ys) (ho : w.ownsRow B e size v m xs) (hg : w.grownBy w' v.ownBlock) (hB : b < B) : RdAt w' b a n c zs ys := by
  obtain ⟨p, h1, h2, h3⟩ := h
  exact ⟨p, h1, h2, (hg.block b h3.lt (fun e => by have := (World.ownsRow.lt ho b e.symm).1; omega)).trans h3⟩
theorem RdAt.len {w : World} {b : Nat} {a : Option Addr} {n c : Nat} {zs ys : List Nat} (h : RdAt w b a n c zs ys) : ys.length ≤ zs.length := by
  obtain ⟨p, _, rfl, _⟩ := h
  rw [List.length_drop]
  omega
section
variable {w V V' : World} {b q bs : Nat} {a : Option Addr} {n c : Nat} {zs ys ys' : List Nat} {h : Sh} {s : St}
end
section
variable {w A : World} {b q bs : Nat} {a a1 a2 a3 : Option Addr} {n c n1 c1 n2 c2 n3 c3 : Nat} {zs ys : List Nat} {v tick : Int} {rs ts : List Rec} {bl : List Int}
end
end Go.Proofs.YtplnaaokapilpaaDoor.Vm

namespace Go.Proofs.YtplnaaokapilpaaDoor.Vm
open Go Go.RowKit

end Go.Proofs.YtplnaaokapilpaaDoor.Vm

namespace Go.Proofs.YtplnaaokapilpaaDoor.Vm
open Go Go.RowKit

/-- The reader, in block b; the ways so far, in memory of the call's own. -/
structure Tkw (w V : World) (b : Nat) (a : Option Addr) (n c : Nat) (zs ys : List Nat) (v : Value) (ls : List Int) : Prop where
  but : But b w V
  rd : RdAt V b a n c zs ys
  own : OwnZ V w.heap.size v ls
  old : b < w.heap.size
section
variable {w V V' : World} {b : Nat} {a : Option Addr} {n c : Nat} {zs ys ys' : List Nat} {v : Value} {ls : List Int}
theorem Tkw.step (t : Tkw w V b a n c zs ys v ls) (hr : RdAt V' b a n c zs ys') (hb : But b V V') : Tkw w V' b a n c zs ys' v ls := by
  obtain ⟨p, _, _, hx⟩ := t.rd
  exact ⟨t.but.trans hb, hr, World.ownsRow.kept t.own hb (.inr (own_apart t.own hx (by decide))), t.old⟩
theorem Tkw.drew (t : Tkw w V b a n c zs ys v ls) : Tkw w V.drew b a n c zs ys v ls := ⟨t.but.drew, t.rd, own_upto t.own (Below.refl V.heap.size V).drew (fun k hk => (World.ownsRow.lt t.own k hk).2), t.old⟩
theorem Tkw.push (t : Tkw w V b a n c zs ys v ls) (x : Int) (hl : ls.length ≤ 200000) :
    ∃ a' c' w', (Builtin.append_ #[30, 30] 30 #[v, .slice (some ⟨V.heap.size, 0, none⟩) 1 1]).run Tryd.prog (V.alloc (.cells #[.int .i64 x] 3)) = .ok (.slice a' (ls ++ [x]).length c') w' ∧ Tkw w w' b a n c zs ys (.slice a' (ls ++ [x]).length c') (ls ++ [x]) := by
  obtain ⟨v', w', hrun, hown, hg⟩ := append_way t.own x hl t.but.size
  obtain ⟨a', c', rfl⟩ := hown.slice
  exact ⟨a', c', w', hrun, t.but.grownNew hg t.own (Nat.le_refl _), t.rd.grown t.own hg t.old, hown, t.old⟩
theorem Tkw.cell {la : Option Addr} {m lc : Nat} (t : Tkw w V b a n c zs ys (.slice la m lc) ls) (hl : ls.length = m) (h0 : 0 < m) : ∃ g off x, la = some ⟨g, off, none⟩ ∧ ls.getLast? = some x ∧ V.cell? ⟨g, off + (m - 1), none⟩ = some (.int .i64 x) := by
  obtain ⟨a1, c1, e1, hr⟩ := t.own.row
  injection e1 with e1 e2 e3
  subst e1 e2 e3
  obtain ⟨g, off, rfl, _, hc⟩ := hr.cells (by omega)
  refine ⟨g, off, ls.getD (ls.length - 1) 0, rfl, ?_, hc (ls.length - 1) (by omega)⟩
  rw [List.getLast?_eq_getElem?]
  simp [List.getD, show ls.length - 1 < ls.length by omega]
end

set_option maxRecDepth 100000 in
set_option maxHeartbeats 8000000 in
theorem takeWays_any (b B : Nat) (a : Option Addr) (n c : Nat) (zs ys : List Nat) (w : World) (h : RdAt w b a n c zs ys) (hr : Row .u8 w B a n c zs) (hz : ∀ x ∈ zs, x < 256) (hB : B ≤ b) (hn : n ≤ 90000) :
    Calls Tryd.prog 82 #[.pointer (some ⟨b, 0, none⟩)] w fun e w' =>
      ((∃ ws r v, WOk ws ∧ ys = encW ws ++ r ∧ e = .returned v ∧ OwnZ w' w.heap.size v ws ∧ RdAt w' b a n c zs r) ∨ ((∀ ws r, WOk ws → ys ≠ encW ws ++ r) ∧ e = pan)) ∧ But b w w' := by
  have hb := h.lt
  have hzn : zs.length = n := hr.1
  have HS4 : Hid (∀ (V : World) (l : List Nat), But b w V → RdAt V b a n c zs l → Calls Tryd.prog 79 #[.pointer (some ⟨b, 0, none⟩), .int .i64 4] V fun e w' => ((∃ x r, x ≤ 4 ∧ l = enc x ++ r ∧ e = .returned (.int .i64 (x : Nat)) ∧ RdAt w' b a n c zs r) ∨ ((∀ x r, x ≤ 4 → l ≠ enc x ++ r) ∧ e = pan)) ∧ But b V w') := fun V l hV hq =>
    small_any b B a n c zs l 4 V hq (hr.below (hV.below hB (by omega))) hz (by have := hV.size; omega) (by omega)
  have HS100000 : Hid (∀ (V : World) (l : List Nat), But b w V → RdAt V b a n c zs l → Calls Tryd.prog 79 #[.pointer (some ⟨b, 0, none⟩), .int .i64 100000] V fun e w' => ((∃ x r, x ≤ 100000 ∧ l = enc x ++ r ∧ e = .returned (.int .i64 (x : Nat)) ∧ RdAt w' b a n c zs r) ∨ ((∀ x r, x ≤ 100000 → l ≠ enc x ++ r) ∧ e = pan)) ∧ But b V w') := fun V l hV hq =>
    small_any b B a n c zs l 100000 V hq (hr.below (hV.below hB (by omega))) hz (by have := hV.size; omega) (by omega)
  have HC : Hid (∀ (V : World) (l : List Nat), But b w V → RdAt V b a n c zs l → Calls Tryd.prog 80 #[.pointer (some ⟨b, 0, none⟩)] V fun e w' => ((∃ x r, x ≤ n ∧ l = enc x ++ r ∧ e = .returned (.int .i64 (x : Nat)) ∧ RdAt w' b a n c zs r) ∨ ((∀ x r, x ≤ n → l ≠ enc x ++ r) ∧ e = pan)) ∧ But b V w') := fun V l hV hq =>
    count_any b B a n c zs l V hq (hr.below (hV.below hB (by omega))) hz (by have := hV.size; omega)
  have HNY := Lib.hid need_yes
  have HNN := Lib.hid need_no
  have HT0 : Hid (Tkw w w b a n c zs ys (.slice none 0 0) []) := ⟨But.refl _ _, h, World.ownsRow_nil _ _ _ _, hb⟩
  clear h hr hz hB
  go_enter Tryd.func82, Tryd.ntmps82
  go_wp2_with fail
  refine (HC.out _ _ HT0.out.but HT0.out.rd).mono ?_
  rintro e w1 ⟨⟨m, y2, hm, hy, rfl, hq⟩ | ⟨hno, rfl⟩, hbt⟩
  rotate_left
  · exact ⟨rfl, .inr ⟨ways_no1 (by have := HT0.out.rd.len; omega) hno, rfl⟩, HT0.out.but.trans hbt⟩
  have HY := Lib.hid hy
  have HT1 := Lib.hid (HT0.out.step hq hbt)
  clear hy hq hbt HT0
  go_wp2_with fail
  go_loopg [3, 4, 5, 8] m (fun gg v vw vf i wr => ∃ (k : Nat) (la : Option Addr) (lc L : Nat) (pre : List (Int × Nat)) (y : List Nat), i = .int .i64 k ∧ k + gg = m ∧ v = .slice la L lc ∧ L ≤ 100000 ∧ Hid (pre.length = k) ∧ Hid ((expand pre).length = L) ∧ Hid (∀ p ∈ pre, RunOk p) ∧ Hid (Apart pre) ∧ Hid (y2 = pre.flatMap encRun ++ y) ∧ Hid (Tkw w wr b a n c zs y v (expand pre)))
  case atStart => exact ⟨0, none, 0, 0, [], y2, rfl, by omega, rfl, by omega, rfl, rfl, by simp [Hid], trivial, rfl, HT1.out⟩
  case round =>
    clear HT1
    obtain ⟨G, rfl⟩ : ∃ G, G = gk := ⟨gk, rfl⟩
    obtain ⟨k, la, lc, L, pre, y, rfl, hkg, rfl, hL, HPL, HEL, HRO, HAP, HRE, HT⟩ := hrel
    by_cases hgo : k < m
    · have hgo' : (k : Int) < (m : Int) := by omega
      go_wp2_with fail
      refine (HS4.out _ _ HT.out.but HT.out.rd).mono ?_
      rintro e w3 ⟨⟨x, y3, hx, hy, rfl, hq⟩ | ⟨hno, rfl⟩, hbt⟩
      rotate_left
      · refine ⟨rfl, .inr ⟨ways_no2 HY.out (by omega) HRE.out (by rw [HPL.out]; exact hgo) HRO.out (fun p r hp _ _ he => ?_), rfl⟩, HT.out.but.trans hbt⟩
        unfold encRun encI at he
        rw [List.append_assoc] at he
        exact hno _ _ (by have := hp.1; have := hp.2.1; omega) he
      have HX := Lib.hid hy
      have HT3 := Lib.hid (HT.out.step hq hbt)
      clear hy hq hbt HT
      by_cases hL0 : L = 0
      · subst hL0
        have HNX : Hid (∀ z, (expand pre).getLast? = some z → z ≠ (x : Int)) := fun z hz => by
          rw [List.eq_nil_of_length_eq_zero HEL.out] at hz
          simp at hz
        go_wp2_with fail
        refine (HNY.out _).mono ?_
        rintro e w4 ⟨rfl, rfl⟩
        go_wp2_with fail
        refine (HS100000.out _ _ HT3.out.but HT3.out.rd).mono ?_
        rintro e w5 ⟨⟨f, y4, hf, hy, rfl, hq⟩ | ⟨hno, rfl⟩, hbt⟩
        rotate_left
        · refine ⟨rfl, .inr ⟨ways_no2 HY.out (by omega) HRE.out (by rw [HPL.out]; exact hgo) HRO.out (fun p r hp _ _ he => ?_), rfl⟩, HT3.out.but.trans hbt⟩
          unfold encRun encI at he
          rw [List.append_assoc, HX.out] at he
          have h1 := hp.1
          have h2 := hp.2.1
          obtain ⟨_, e2⟩ := enc_pf (by omega) (by omega) he
          exact hno _ _ (by have := hp.2.2.2; omega) e2
        have HF := Lib.hid hy
        have HT5 := Lib.hid (HT3.out.step hq hbt)
        clear hy hq hbt HT3
        have hw1 : IntKind.i64.wrap ((f : Int)) = (f : Int) := by simp only [IntKind.wrap_i64]; omega
        have hw2 : IntKind.i64.wrap ((f : Int) + 1) = (f : Int) + 1 := by simp only [IntKind.wrap_i64]; omega
        by_cases hlt : f < 100000
        · have hlt' : (f : Int) < 100000 := by omega
          go_wp2_with fail
          refine (HNY.out _).mono ?_
          rintro e w6 ⟨rfl, rfl⟩
          obtain ⟨ls, hls⟩ : ∃ ls, expand pre = ls := ⟨_, rfl⟩
          have HLS := Lib.hid hls
          rw [hls] at HT5
          have HEL2 : Hid (ls.length = 0) := by rw [← hls]; exact HEL.out
          clear hls
          go_wp2_with fail
          go_loopg [3, 36] (f + 1) (fun g2 v i wr => ∃ (j : Nat) (la : Option Addr) (lc : Nat), i = .int .i64 j ∧ j + g2 = f + 1 ∧ v = .slice la j lc ∧ Hid (Tkw w wr b a n c zs y4 v (ls ++ List.replicate j (x : Int))))
          case atStart => exact ⟨0, _, lc, by first | rfl | trivial, by omega, by first | rfl | trivial, by simpa [Hid] using HT5.out⟩
          case round =>
            clear HT5
            obtain ⟨j, la2, lc2, rfl, hjg, rfl, HTj⟩ := hrel
            by_cases hj : j < f + 1
            · have hj' : (j : Int) < (f : Int) + 1 := by omega
              obtain ⟨a', c', w8, hrun, ht8⟩ := HTj.out.push (x : Int) (by rw [List.length_append, List.length_replicate, HEL2.out]; omega)
              rw [List.append_assoc, ← List.replicate_succ'] at hrun ht8
              have hll : (ls ++ List.replicate (j + 1) (x : Int)).length = j + 1 := by (rw [List.length_append, List.length_replicate, HEL2.out]; try omega)
              rw [hll] at hrun ht8
              have HTN := Lib.hid ht8
              clear ht8 hll
              go_wp2_with (at_builtin; refine Lib.wpList_append_run _ rfl _ _ _ _ rfl _ _ rfl rfl _ _ hrun ?_)
              go_roundg (gk - 1)
              case measure => omega
              case rel => exact ⟨j + 1, a', c', by go_num, by omega, by first | rfl | trivial, HTN.out⟩
            · obtain rfl : j = f + 1 := by omega
              have hnj : ¬ ((f : Int) + 1 < (f : Int) + 1) := by omega
              go_wp2_with fail
              go_roundg (G - 1)
              case measure => omega
              case rel =>
                refine ⟨k + 1, la2, lc2, f + 1, pre ++ [((x : Int), f + 1)], y4, by go_num, by omega, by first | rfl | trivial, by omega, ?_, ?_, ?_, ?_, ?_, ?_⟩
                · unfold Hid
                  rw [List.length_append, HPL.out]
                  rfl
                · unfold Hid
                  (rw [expand_append, expand_one, List.length_append, List.length_replicate, HEL.out]; try omega)
                · exact all_snoc HRO.out ⟨by show (0 : Int) ≤ x; omega, by show (x : Int) ≤ 4; omega, by show 1 ≤ f + 1; omega, by show f + 1 ≤ 100000; omega⟩
                · exact apart_snoc HAP.out (fun q hq => (HRO.out q hq).2.2.1) HNX.out
                · refine flat_snoc HRE.out ?_
                  rw [HX.out, HF.out]
                  simp [encRun, encI, List.append_assoc]
                · unfold Hid
                  rw [expand_append, expand_one, HLS.out]
                  exact HTj.out
        · have hlt' : decide ((f : Int) < 100000) = false := by simp; omega
          go_wp2_with fail
          refine (HNN.out _).mono ?_
          rintro e w6 ⟨rfl, rfl⟩
          refine ⟨rfl, .inr ⟨ways_no2 HY.out (by omega) HRE.out (by rw [HPL.out]; exact hgo) HRO.out (fun p r hp _ hs he => ?_), rfl⟩, HT5.out.but⟩
          unfold encRun encI at he
          rw [List.append_assoc, HX.out, HF.out] at he
          have h1 := hp.1
          have h2 := hp.2.1
          have h3 := hp.2.2.2
          obtain ⟨_, e2⟩ := enc_pf (by omega) (by omega) he
          obtain ⟨e3, _⟩ := enc_pf (by omega) (by omega) e2
          rw [HEL.out] at hs
          have h4 := hp.2.2.1
          omega
      · obtain ⟨g, off, z, hla, hlast, hcell⟩ := HT3.out.cell HEL.out (by omega)
        subst hla
        have hb0 : ((L : Int) == 0) = false := by simp; omega
        by_cases hzx : z = (x : Int)
        · have hb1 : ((x : Int) != z) = false := by rw [hzx]; simp
          have HLA := Lib.hid hlast
          have HZX := Lib.hid hzx
          clear hlast hzx
          go_wp2_with fail
          refine (HNN.out _).mono ?_
          rintro e w4 ⟨rfl, rfl⟩
          refine ⟨rfl, .inr ⟨ways_no2 HY.out (by omega) HRE.out (by rw [HPL.out]; exact hgo) HRO.out (fun p r hp hl _ he => ?_), rfl⟩, HT3.out.but⟩
          unfold encRun encI at he
          rw [List.append_assoc, HX.out] at he
          have h1 := hp.1
          have h2 := hp.2.1
          obtain ⟨e1, _⟩ := enc_pf (by omega) (by omega) he
          have h3 := hl z HLA.out
          have h4 := HZX.out
          omega
        · have hb1 : ((x : Int) != z) = true := by simp; omega
          have HNX : Hid (∀ z, (expand pre).getLast? = some z → z ≠ (x : Int)) := fun z' hz' => by
            rw [hlast] at hz'
            injection hz' with hz'
            rw [← hz']
            exact hzx
          clear hlast hzx
          go_wp2_with fail
          refine (HNY.out _).mono ?_
          rintro e w4 ⟨rfl, rfl⟩
          clear hb0 hb1 hcell
          go_wp2_with fail
          refine (HS100000.out _ _ HT3.out.but HT3.out.rd).mono ?_
          rintro e w5 ⟨⟨f, y4, hf, hy, rfl, hq⟩ | ⟨hno, rfl⟩, hbt⟩
          rotate_left
          · refine ⟨rfl, .inr ⟨ways_no2 HY.out (by omega) HRE.out (by rw [HPL.out]; exact hgo) HRO.out (fun p r hp _ _ he => ?_), rfl⟩, HT3.out.but.trans hbt⟩
            unfold encRun encI at he
            rw [List.append_assoc, HX.out] at he
            have h1 := hp.1
            have h2 := hp.2.1
            obtain ⟨_, e2⟩ := enc_pf (by omega) (by omega) he
            exact hno _ _ (by have := hp.2.2.2; omega) e2
          have HF := Lib.hid hy
          have HT5 := Lib.hid (HT3.out.step hq hbt)
          clear hy hq hbt HT3
          have hw1 : IntKind.i64.wrap ((L : Int) + (f : Int)) = (L : Int) + (f : Int) := by simp only [IntKind.wrap_i64]; omega
          have hw2 : IntKind.i64.wrap ((f : Int) + 1) = (f : Int) + 1 := by simp only [IntKind.wrap_i64]; omega
          by_cases hlt : L + f < 100000
          · have hlt' : (L : Int) + (f : Int) < 100000 := by omega
            go_wp2_with fail
            refine (HNY.out _).mono ?_
            rintro e w6 ⟨rfl, rfl⟩
            obtain ⟨ls, hls⟩ : ∃ ls, expand pre = ls := ⟨_, rfl⟩
            have HLS := Lib.hid hls
            rw [hls] at HT5
            have HEL2 : Hid (ls.length = L) := by rw [← hls]; exact HEL.out
            clear hls
            go_wp2_with fail
            go_loopg [3, 36] (f + 1) (fun g2 v i wr => ∃ (j : Nat) (la : Option Addr) (lc : Nat), i = .int .i64 j ∧ j + g2 = f + 1 ∧ v = .slice la (L + j) lc ∧ Hid (Tkw w wr b a n c zs y4 v (ls ++ List.replicate j (x : Int))))
            case atStart => exact ⟨0, _, lc, by first | rfl | trivial, by omega, by first | rfl | trivial, by simpa [Hid] using HT5.out⟩
            case round =>
              clear HT5
              obtain ⟨j, la2, lc2, rfl, hjg, rfl, HTj⟩ := hrel
              by_cases hj : j < f + 1
              · have hj' : (j : Int) < (f : Int) + 1 := by omega
                obtain ⟨a', c', w8, hrun, ht8⟩ := HTj.out.push (x : Int) (by rw [List.length_append, List.length_replicate, HEL2.out]; omega)
                rw [List.append_assoc, ← List.replicate_succ'] at hrun ht8
                have hll : (ls ++ List.replicate (j + 1) (x : Int)).length = L + (j + 1) := by (rw [List.length_append, List.length_replicate, HEL2.out]; try omega)
                rw [hll] at hrun ht8
                have HTN := Lib.hid ht8
                clear ht8 hll
                go_wp2_with (at_builtin; refine Lib.wpList_append_run _ rfl _ _ _ _ rfl _ _ rfl rfl _ _ hrun ?_)
                go_roundg (gk - 1)
                case measure => omega
                case rel => exact ⟨j + 1, a', c', by go_num, by omega, by first | rfl | trivial, HTN.out⟩
              · obtain rfl : j = f + 1 := by omega
                have hnj : ¬ ((f : Int) + 1 < (f : Int) + 1) := by omega
                go_wp2_with fail
                go_roundg (G - 1)
                case measure => omega
                case rel =>
                  refine ⟨k + 1, la2, lc2, L + (f + 1), pre ++ [((x : Int), f + 1)], y4, by go_num, by omega, by first | rfl | trivial, by omega, ?_, ?_, ?_, ?_, ?_, ?_⟩
                  · unfold Hid
                    rw [List.length_append, HPL.out]
                    rfl
                  · unfold Hid
                    (rw [expand_append, expand_one, List.length_append, List.length_replicate, HEL.out]; try omega)
                  · exact all_snoc HRO.out ⟨by show (0 : Int) ≤ x; omega, by show (x : Int) ≤ 4; omega, by show 1 ≤ f + 1; omega, by show f + 1 ≤ 100000; omega⟩
                  · exact apart_snoc HAP.out (fun q hq => (HRO.out q hq).2.2.1) HNX.out
                  · refine flat_snoc HRE.out ?_
                    rw [HX.out, HF.out]
                    simp [encRun, encI, List.append_assoc]
                  · unfold Hid
                    rw [expand_append, expand_one, HLS.out]
                    exact HTj.out
          · have hlt' : decide ((L : Int) + (f : Int) < 100000) = false := by simp; omega
            go_wp2_with fail
            refine (HNN.out _).mono ?_
            rintro e w6 ⟨rfl, rfl⟩
            refine ⟨rfl, .inr ⟨ways_no2 HY.out (by omega) HRE.out (by rw [HPL.out]; exact hgo) HRO.out (fun p r hp _ hs he => ?_), rfl⟩, HT5.out.but⟩
            unfold encRun encI at he
            rw [List.append_assoc, HX.out, HF.out] at he
            have h1 := hp.1
            have h2 := hp.2.1
            have h3 := hp.2.2.2
            obtain ⟨_, e2⟩ := enc_pf (by omega) (by omega) he
            obtain ⟨e3, _⟩ := enc_pf (by omega) (by omega) e2
            rw [HEL.out] at hs
            have h4 := hp.2.2.1
            omega
    · obtain rfl : m = k := by omega
      go_wp2_with fail
      go_ret
      obtain ⟨hw, he⟩ := ways_yes HY.out HRE.out HPL.out HRO.out HAP.out (by rw [HEL.out]; exact hL)
      exact ⟨.inl ⟨expand pre, y, _, hw, he, rfl, HT.out.own, HT.out.rd⟩, HT.out.but⟩
end Go.Proofs.YtplnaaokapilpaaDoor.Vm

namespace Go.Proofs.YtplnaaokapilpaaDoor.Vm
open Go Go.RowKit

/-- The reader, in block b; the result, in block q, not laid yet; the record so far, in block bs, its slices in memory of the call's own. -/
structure Tkr (w V : World) (b q bs : Nat) (a : Option Addr) (n c : Nat) (zs ys : List Nat) (h : Rh) (x : Rcd) : Prop where
  but : But b w V
  rd : RdAt V b a n c zs ys
  res : BoxAt V q #[.int .i64 0, .slice none 0 0, .slice none 0 0, .slice none 0 0, .int .u32 0] 44
  st : BoxAt V bs #[.int .i64 h.t, .slice h.a1 h.n1 h.c1, .slice h.a2 h.n2 h.c2, .slice h.a3 h.n3 h.c3, .int .u32 h.k] 44
  c : RCopy V w.heap.size h x
  new : w.heap.size ≤ bs
  old : b < w.heap.size
  nq : w.heap.size ≤ q ∧ q ≠ bs
section
variable {w V V' : World} {b q bs : Nat} {a : Option Addr} {n c : Nat} {zs ys ys' : List Nat} {h : Rh} {x : Rcd}
theorem Tkr.begin (h : RdAt w b a n c zs ys) : Tkr w ((w.alloc (.cells #[.int .i64 0, .slice none 0 0, .slice none 0 0, .slice none 0 0, .int .u32 0] 44)).alloc (.cells #[.int .i64 0, .slice none 0 0, .slice none 0 0, .slice none 0 0, .int .u32 0] 44)) b w.heap.size (w.heap.size + 1) a n c zs ys ⟨0, none, 0, 0, none, 0, 0, none, 0, 0, 0⟩ ⟨0, [], [], [], 0⟩ := by
  have h1 : Below w.heap.size w (w.alloc (.cells #[.int .i64 0, .slice none 0 0, .slice none 0 0, .slice none 0 0, .int .u32 0] 44)) := (Below.refl _ _).alloc (Nat.le_refl _) _
  have h2 : Below (w.heap.size + 1) (w.alloc (.cells #[.int .i64 0, .slice none 0 0, .slice none 0 0, .slice none 0 0, .int .u32 0] 44)) ((w.alloc (.cells #[.int .i64 0, .slice none 0 0, .slice none 0 0, .slice none 0 0, .int .u32 0] 44)).alloc (.cells #[.int .i64 0, .slice none 0 0, .slice none 0 0, .slice none 0 0, .int .u32 0] 44)) := (Below.refl _ _).alloc (by simp) _
  have hz : (w.alloc (.cells #[.int .i64 0, .slice none 0 0, .slice none 0 0, .slice none 0 0, .int .u32 0] 44)).heap.size = w.heap.size + 1 := by simp
  have h3 := boxAt_new (w.alloc (.cells #[.int .i64 0, .slice none 0 0, .slice none 0 0, .slice none 0 0, .int .u32 0] 44)) #[.int .i64 0, .slice none 0 0, .slice none 0 0, .slice none 0 0, .int .u32 0] 44
  rw [hz] at h3
  have h4 : Below w.heap.size w ((w.alloc (.cells #[.int .i64 0, .slice none 0 0, .slice none 0 0, .slice none 0 0, .int .u32 0] 44)).alloc (.cells #[.int .i64 0, .slice none 0 0, .slice none 0 0, .slice none 0 0, .int .u32 0] 44)) := h1.trans (h2.mono (by omega))
  exact ⟨(But.refl _ _).calls h4, h.calls h4, (boxAt_new w _ _).calls (by rw [hz]; exact h2), h3, ⟨rfl, World.ownsRow_nil _ _ _ _, World.ownsRow_nil _ _ _ _, World.ownsRow_nil _ _ _ _, rfl⟩, by omega, h.lt, by omega, by omega⟩
theorem Tkr.step (t : Tkr w V b q bs a n c zs ys h x) (hr : RdAt V' b a n c zs ys') (hb : But b V V') : Tkr w V' b q bs a n c zs ys' h x := by
  obtain ⟨p, _, _, hx⟩ := t.rd
  exact ⟨t.but.trans hb, hr, t.res.but hb (by have := t.nq; have := t.old; omega), t.st.but hb (by have := t.new; have := t.old; omega), t.c.turned hx hb (by decide) (by decide) (by decide), t.new, t.old, t.nq⟩
theorem Tkr.drew (t : Tkr w V b q bs a n c zs ys h x) : Tkr w V.drew b q bs a n c zs ys h x := ⟨t.but.drew, t.rd, t.res, t.st, t.c.calls (Below.refl _ _).drew, t.new, t.old, t.nq⟩
theorem Tkr.alloc (t : Tkr w V b q bs a n c zs ys h x) (hb : Below V.heap.size V V') : Tkr w V' b q bs a n c zs ys h x :=
  ⟨t.but.calls (hb.mono t.but.size), t.rd.calls hb, t.res.calls hb, t.st.calls hb, t.c.calls hb, t.new, t.old, t.nq⟩
theorem Tkr.done (t : Tkr w V b q bs a n c zs ys h x) (u0 u1 u2 u3 u4 : Value) :
    RCopy (((((V.setCell ⟨q, 0, none⟩ u0).setCell ⟨q, 1, none⟩ u1).setCell ⟨q, 2, none⟩ u2).setCell ⟨q, 3, none⟩ u3).setCell ⟨q, 4, none⟩ u4) w.heap.size h x ∧ RdAt (((((V.setCell ⟨q, 0, none⟩ u0).setCell ⟨q, 1, none⟩ u1).setCell ⟨q, 2, none⟩ u2).setCell ⟨q, 3, none⟩ u3).setCell ⟨q, 4, none⟩ u4) b a n c zs ys ∧ But b w (((((V.setCell ⟨q, 0, none⟩ u0).setCell ⟨q, 1, none⟩ u1).setCell ⟨q, 2, none⟩ u2).setCell ⟨q, 3, none⟩ u3).setCell ⟨q, 4, none⟩ u4) := by
  have hk : But q V (((((V.setCell ⟨q, 0, none⟩ u0).setCell ⟨q, 1, none⟩ u1).setCell ⟨q, 2, none⟩ u2).setCell ⟨q, 3, none⟩ u3).setCell ⟨q, 4, none⟩ u4) := (((((But.refl _ _).set _).set _).set _).set _).set _
  exact ⟨t.c.turned t.res hk (by decide) (by decide) (by decide), t.rd.but hk (by have := t.nq; have := t.old; omega), ((((t.but.setNew t.nq.1 _).setNew t.nq.1 _).setNew t.nq.1 _).setNew t.nq.1 _).setNew t.nq.1 _⟩
end
section
variable {w A : World} {b q bs : Nat} {a a1 a2 a3 : Option Addr} {n c n1 c1 n2 c2 n3 c3 : Nat} {zs ys : List Nat} {v tick k kk : Int} {ins : List Inp} {cs ws : List Int}
theorem Tkr.setTick (t : Tkr w A b q bs a n c zs ys ⟨v, a1, n1, c1, a2, n2, c2, a3, n3, c3, k⟩ ⟨tick, ins, cs, ws, kk⟩) (x : Int) : Tkr w (A.setCell ⟨bs, 0, none⟩ (.int .i64 x)) b q bs a n c zs ys ⟨x, a1, n1, c1, a2, n2, c2, a3, n3, c3, k⟩ ⟨x, ins, cs, ws, kk⟩ := by
  have hk : But bs A (A.setCell ⟨bs, 0, none⟩ (.int .i64 x)) := (But.refl _ _).set _
  have hne : b ≠ bs := by have := t.new; have := t.old; omega
  have hc := t.c.turned t.st hk (by decide) (by decide) (by decide)
  exact ⟨t.but.setNew t.new _, t.rd.but hk hne, t.res.but hk t.nq.2, BoxAt.set t.st 0 _, ⟨rfl, hc.ins, hc.cs, hc.ws, hc.ck⟩, t.new, t.old, t.nq⟩
theorem Tkr.setCk (t : Tkr w A b q bs a n c zs ys ⟨v, a1, n1, c1, a2, n2, c2, a3, n3, c3, k⟩ ⟨tick, ins, cs, ws, kk⟩) (x : Int) : Tkr w (A.setCell ⟨bs, 4, none⟩ (.int .u32 x)) b q bs a n c zs ys ⟨v, a1, n1, c1, a2, n2, c2, a3, n3, c3, x⟩ ⟨tick, ins, cs, ws, x⟩ := by
  have hk : But bs A (A.setCell ⟨bs, 4, none⟩ (.int .u32 x)) := (But.refl _ _).set _
  have hne : b ≠ bs := by have := t.new; have := t.old; omega
  have hc := t.c.turned t.st hk (by decide) (by decide) (by decide)
  exact ⟨t.but.setNew t.new _, t.rd.but hk hne, t.res.but hk t.nq.2, BoxAt.set t.st 4 _, ⟨hc.tick, hc.ins, hc.cs, hc.ws, rfl⟩, t.new, t.old, t.nq⟩
theorem Tkr.setWays (t : Tkr w A b q bs a n c zs ys ⟨v, a1, n1, c1, a2, n2, c2, a3, n3, c3, k⟩ ⟨tick, ins, cs, ws, kk⟩) {aw : Option Addr} {nw cw : Nat} {ls : List Int} (ho : OwnZ A w.heap.size (.slice aw nw cw) ls) : Tkr w (A.setCell ⟨bs, 3, none⟩ (.slice aw nw cw)) b q bs a n c zs ys ⟨v, a1, n1, c1, a2, n2, c2, aw, nw, cw, k⟩ ⟨tick, ins, cs, ls, kk⟩ := by
  have hk : But bs A (A.setCell ⟨bs, 3, none⟩ (.slice aw nw cw)) := (But.refl _ _).set _
  have hne : b ≠ bs := by have := t.new; have := t.old; omega
  have hc := t.c.turned t.st hk (by decide) (by decide) (by decide)
  exact ⟨t.but.setNew t.new _, t.rd.but hk hne, t.res.but hk t.nq.2, BoxAt.set t.st 3 _, ⟨hc.tick, hc.ins, hc.cs, World.ownsRow.kept ho hk (.inr (own_apart ho t.st (by decide))), hc.ck⟩, t.new, t.old, t.nq⟩
theorem Tkr.push_inp (t : Tkr w A b q bs a n c zs ys ⟨v, a1, n1, c1, a2, n2, c2, a3, n3, c3, k⟩ ⟨tick, ins, cs, ws, kk⟩) (x : Inp) (hlen : ins.length ≤ 200000) :
    ∃ a' c' w', (Builtin.append_ #[40, 40] 40 #[.slice a1 n1 c1, .slice (some ⟨A.heap.size, 0, none⟩) 1 1]).run Tryd.prog (A.alloc (.cells #[.int .i64 x.k, .int .i64 x.a, .int .i64 x.b, .int .i64 x.c] 89)) = .ok (.slice a' (ins ++ [x]).length c') w' ∧
      BoxAt w' bs #[.int .i64 v, .slice a1 n1 c1, .slice a2 n2 c2, .slice a3 n3 c3, .int .u32 k] 44 ∧
      Tkr w (w'.setCell ⟨bs, 1, none⟩ (.slice a' (ins ++ [x]).length c')) b q bs a n c zs ys ⟨v, a', (ins ++ [x]).length, c', a2, n2, c2, a3, n3, c3, k⟩ ⟨tick, ins ++ [x], cs, ws, kk⟩ := by
  have ho := t.c.ins
  obtain ⟨v', w', hrun, hown, hg⟩ := append_inp ho x hlen t.but.size
  obtain ⟨a', c', rfl⟩ := own_is_slice hown
  have ap : ∀ {b : Nat} {cs : Array Value} {ty : TypeId}, BoxAt A b cs ty → 89 ≠ ty → BoxAt w' b cs ty := fun hk hne => (hg.block _ hk.lt (fun e => own_apart ho hk hne e.symm)).trans hk
  have hst := ap t.st (by decide)
  have hk2 : But bs w' (w'.setCell ⟨bs, 1, none⟩ (.slice a' (ins ++ [x]).length c')) := (But.refl _ _).set _
  have kp : ∀ {e : TypeId} {size m : Nat} {u : Value} {xs : List Value}, w'.ownsRow w.heap.size e size u m xs → e ≠ 44 → (w'.setCell ⟨bs, 1, none⟩ (.slice a' (ins ++ [x]).length c')).ownsRow w.heap.size e size u m xs := fun hh hne => World.ownsRow.kept hh hk2 (.inr (own_apart hh hst hne))
  have hne : b ≠ bs := by have := t.new; have := t.old; omega
  refine ⟨a', c', w', hrun, hst, ⟨(t.but.grownNew hg ho (Nat.le_refl _)).setNew t.new _, (t.rd.grown ho hg t.old).but hk2 hne, (ap t.res (by decide)).but hk2 t.nq.2, BoxAt.set hst 1 _, ⟨t.c.tick, ?_, ?_, ?_, t.c.ck⟩, t.new, t.old, t.nq⟩⟩
  · exact kp hown (by decide)
  · exact kp (World.ownsRow.kept t.c.cs hg (own_own ho t.c.cs (by decide))) (by decide)
  · exact kp (World.ownsRow.kept t.c.ws hg (own_own ho t.c.ws (by decide))) (by decide)
theorem Tkr.push_err (t : Tkr w A b q bs a n c zs ys ⟨v, a1, n1, c1, a2, n2, c2, a3, n3, c3, k⟩ ⟨tick, ins, cs, ws, kk⟩) (x : Int) (hlen : cs.length ≤ 200000) :
    ∃ a' c' w', (Builtin.append_ #[41, 41] 41 #[.slice a2 n2 c2, .slice (some ⟨A.heap.size, 0, none⟩) 1 1]).run Tryd.prog (A.alloc (.cells #[.int .i64 x] 34)) = .ok (.slice a' (cs ++ [x]).length c') w' ∧
      BoxAt w' bs #[.int .i64 v, .slice a1 n1 c1, .slice a2 n2 c2, .slice a3 n3 c3, .int .u32 k] 44 ∧
      Tkr w (w'.setCell ⟨bs, 2, none⟩ (.slice a' (cs ++ [x]).length c')) b q bs a n c zs ys ⟨v, a1, n1, c1, a', (cs ++ [x]).length, c', a3, n3, c3, k⟩ ⟨tick, ins, cs ++ [x], ws, kk⟩ := by
  have ho := t.c.cs
  obtain ⟨v', w', hrun, hown, hg⟩ := append_err ho x hlen t.but.size
  obtain ⟨a', c', rfl⟩ := own_is_slice hown
  have ap : ∀ {b : Nat} {cs : Array Value} {ty : TypeId}, BoxAt A b cs ty → 34 ≠ ty → BoxAt w' b cs ty := fun hk hne => (hg.block _ hk.lt (fun e => own_apart ho hk hne e.symm)).trans hk
  have hst := ap t.st (by decide)
  have hk2 : But bs w' (w'.setCell ⟨bs, 2, none⟩ (.slice a' (cs ++ [x]).length c')) := (But.refl _ _).set _
  have kp : ∀ {e : TypeId} {size m : Nat} {u : Value} {xs : List Value}, w'.ownsRow w.heap.size e size u m xs → e ≠ 44 → (w'.setCell ⟨bs, 2, none⟩ (.slice a' (cs ++ [x]).length c')).ownsRow w.heap.size e size u m xs := fun hh hne => World.ownsRow.kept hh hk2 (.inr (own_apart hh hst hne))
  have hne : b ≠ bs := by have := t.new; have := t.old; omega
  refine ⟨a', c', w', hrun, hst, ⟨(t.but.grownNew hg ho (Nat.le_refl _)).setNew t.new _, (t.rd.grown ho hg t.old).but hk2 hne, (ap t.res (by decide)).but hk2 t.nq.2, BoxAt.set hst 2 _, ⟨t.c.tick, ?_, ?_, ?_, t.c.ck⟩, t.new, t.old, t.nq⟩⟩
  · exact kp (World.ownsRow.kept t.c.ins hg (own_own ho t.c.ins (by decide))) (by decide)
  · exact kp hown (by decide)
  · exact kp (World.ownsRow.kept t.c.ws hg (own_own ho t.c.ws (by decide))) (by decide)
end
end Go.Proofs.YtplnaaokapilpaaDoor.Vm

namespace Go.Proofs.YtplnaaokapilpaaDoor.Vm
open Go Go.RowKit

set_option maxRecDepth 100000 in
set_option maxHeartbeats 8000000 in
theorem takeRecord_any (b B : Nat) (a : Option Addr) (n c : Nat) (zs ys : List Nat) (w : World) (h : RdAt w b a n c zs ys) (hr : Row .u8 w B a n c zs) (hz : ∀ x ∈ zs, x < 256) (hB : B ≤ b) (hn : n ≤ 90000) :
    Calls Tryd.prog 69 #[.pointer (some ⟨b, 0, none⟩)] w fun e w' =>
      ((∃ x r h', OkR x ∧ ys = encR x ++ r ∧ e = .returned (rhV h') ∧ RCopy w' w.heap.size h' x ∧ RdAt w' b a n c zs r) ∨ ((∀ x r, OkR x → ys ≠ encR x ++ r) ∧ e = pan)) ∧ But b w w' := by
  have hb := h.lt
  have hzn : zs.length = n := hr.1
  have HS2147483647 : Hid (∀ (V : World) (l : List Nat), But b w V → RdAt V b a n c zs l → Calls Tryd.prog 79 #[.pointer (some ⟨b, 0, none⟩), .int .i64 2147483647] V fun e w' => ((∃ x r, x ≤ 2147483647 ∧ l = enc x ++ r ∧ e = .returned (.int .i64 (x : Nat)) ∧ RdAt w' b a n c zs r) ∨ ((∀ x r, x ≤ 2147483647 → l ≠ enc x ++ r) ∧ e = pan)) ∧ But b V w') := fun V l hV hq =>
    small_any b B a n c zs l 2147483647 V hq (hr.below (hV.below hB (by omega))) hz (by have := hV.size; omega) (by omega)
  have HS255 : Hid (∀ (V : World) (l : List Nat), But b w V → RdAt V b a n c zs l → Calls Tryd.prog 79 #[.pointer (some ⟨b, 0, none⟩), .int .i64 255] V fun e w' => ((∃ x r, x ≤ 255 ∧ l = enc x ++ r ∧ e = .returned (.int .i64 (x : Nat)) ∧ RdAt w' b a n c zs r) ∨ ((∀ x r, x ≤ 255 → l ≠ enc x ++ r) ∧ e = pan)) ∧ But b V w') := fun V l hV hq =>
    small_any b B a n c zs l 255 V hq (hr.below (hV.below hB (by omega))) hz (by have := hV.size; omega) (by omega)
  have HC : Hid (∀ (V : World) (l : List Nat), But b w V → RdAt V b a n c zs l → Calls Tryd.prog 80 #[.pointer (some ⟨b, 0, none⟩)] V fun e w' => ((∃ x r, x ≤ n ∧ l = enc x ++ r ∧ e = .returned (.int .i64 (x : Nat)) ∧ RdAt w' b a n c zs r) ∨ ((∀ x r, x ≤ n → l ≠ enc x ++ r) ∧ e = pan)) ∧ But b V w') := fun V l hV hq =>
    count_any b B a n c zs l V hq (hr.below (hV.below hB (by omega))) hz (by have := hV.size; omega)
  have HNM : Hid (∀ (V : World) (l : List Nat), But b w V → RdAt V b a n c zs l → Calls Tryd.prog 83 #[.pointer (some ⟨b, 0, none⟩), .int .u64 4294967295] V fun e w' => ((∃ x r, x ≤ 4294967295 ∧ l = enc x ++ r ∧ e = .returned (.int .u64 (x : Nat)) ∧ RdAt w' b a n c zs r) ∨ ((∀ x r, x ≤ 4294967295 → l ≠ enc x ++ r) ∧ e = pan)) ∧ But b V w') := fun V l hV hq =>
    number_any b B a n c zs l 4294967295 V hq (hr.below (hV.below hB (by omega))) hz (by have := hV.size; omega) (by omega)
  have HR := Lib.hid fun (V : World) (l : List Nat) (hV : But b w V) (hq : RdAt V b a n c zs l) => takeInput_any b B a n c zs l V hq (hr.below (hV.below hB (by omega))) hz hB
  have HWY := Lib.hid fun (V : World) (l : List Nat) (hV : But b w V) (hq : RdAt V b a n c zs l) => takeWays_any b B a n c zs l V hq (hr.below (hV.below hB (by omega))) hz hB hn
  have HT0 := Lib.hid (Tkr.begin h)
  obtain ⟨w0, hw0⟩ : ∃ w0, w0 = ((w.alloc (.cells #[.int .i64 0, .slice none 0 0, .slice none 0 0, .slice none 0 0, .int .u32 0] 44)).alloc (.cells #[.int .i64 0, .slice none 0 0, .slice none 0 0, .slice none 0 0, .int .u32 0] 44)) := ⟨_, rfl⟩
  rw [← hw0] at HT0
  have HW0 := Lib.hid hw0
  clear h hr hz hB hw0
  go_enter Tryd.func69, Tryd.ntmps69
  go_wp2_with fail
  rw [← HW0.out]
  refine (HS2147483647.out _ _ HT0.out.but HT0.out.rd).mono ?_
  rintro e w1 ⟨⟨v1, y1, hv1, hy1, rfl, hq⟩ | ⟨hno, rfl⟩, hbt⟩
  rotate_left
  · exact ⟨rfl, .inr ⟨g1_no hno, rfl⟩, HT0.out.but.trans hbt⟩
  have HG1 := Lib.hid (g1_of hy1 hv1)
  have HY1 := Lib.hid hy1
  have HV1 := Lib.hid hv1
  have HT1 := Lib.hid (HT0.out.step hq hbt)
  have cf := HT1.out.st.fz 0
  have cc := HT1.out.st.cell (i := 0) rfl
  clear hv1 hy1 hq hbt
  go_wp2_with fail
  have HT2 := Lib.hid (HT1.out.setTick (v1 : Nat))
  obtain ⟨w2, hw2⟩ : ∃ w2, w2 = w1.setCell ⟨w.heap.size + 1, 0, none⟩ (.int .i64 (v1 : Nat)) := ⟨_, rfl⟩
  rw [← hw2] at HT2 ⊢
  clear cf cc hw2 HT1
  refine (HC.out _ _ HT2.out.but HT2.out.rd).mono ?_
  rintro e w3 ⟨⟨v2, y2, hv2, hy2, rfl, hq⟩ | ⟨hno, rfl⟩, hbt⟩
  rotate_left
  · exact ⟨rfl, .inr ⟨g2_no HG1.out (by have := HT2.out.rd.len; omega) hno, rfl⟩, HT2.out.but.trans hbt⟩
  have HG2 := Lib.hid (g2_of HG1.out hy2 (by omega) (by have := HT2.out.rd.len; omega))
  have HY2 := Lib.hid hy2
  have HT3 := Lib.hid (HT2.out.step hq hbt)
  clear hy2 hq hbt HT2
  go_wp2_with fail
  go_loopg [9] v2 (fun gg i wr => ∃ (k : Nat) (sa : Option Addr) (sc : Nat) (sb : Option Addr) (sd : Nat) (ps : List (Inp × Int)) (is : List Inp) (cs : List Int) (y : List Nat), i = .int .i64 k ∧ k + gg = v2 ∧ Hid (is = ps.map Prod.fst) ∧ Hid (cs = ps.map Prod.snd) ∧ Hid (ps.length = k) ∧ Hid (∀ p ∈ ps, PutIn p) ∧ Hid (y2 = ps.flatMap encPut ++ y) ∧ Hid (Tkr w wr b w.heap.size (w.heap.size + 1) a n c zs y ⟨v1, sa, k, sc, sb, k, sd, none, 0, 0, 0⟩ ⟨v1, is, cs, [], 0⟩))
  case atStart => exact ⟨0, none, 0, none, 0, [], [], [], y2, rfl, by omega, rfl, rfl, rfl, by simp [Hid], rfl, HT3.out⟩
  case round =>
    clear HT3
    obtain ⟨k, sa, sc, sb, sd, ps, is, cs, y, rfl, hkg, HIS, HCS, HRL, HRO, HRE, HT⟩ := hrel
    by_cases hgo : k < v2
    · have hgo' : (k : Int) < (v2 : Int) := by omega
      have HTD := Lib.hid HT.out.drew
      have c1 := HT.out.st.cell (i := 1) rfl
      have HLL : Hid (∀ x, (is ++ [x]).length = k + 1) := fun x => by rw [List.length_append, HIS.out, List.length_map, HRL.out]; rfl
      have HLC : Hid (∀ x, (cs ++ [x]).length = k + 1) := fun x => by rw [List.length_append, HCS.out, List.length_map, HRL.out]; rfl
      have HBN : Hid (is.length ≤ 200000) := by unfold Hid; rw [HIS.out, List.length_map, HRL.out]; omega
      have HBC : Hid (cs.length ≤ 200000) := by unfold Hid; rw [HCS.out, List.length_map, HRL.out]; omega
      go_wp2_with fail
      go_region_law (first
        | (refine step_append_of rfl _ _ _ rfl rfl rfl hrun ?_)
        | (refine step_call_two rfl _ _ _ rfl Tryd.func81 (by decide) rfl rfl (HR.out _ y HTD.out.but HTD.out.rd) (g := fun l w' => l = [{ v := .iface 34 (.int .i64 3), recovered := false }] ∧ (∀ x r, InpWf x → y ≠ encInp x ++ r) ∧ But b wr.drew w') (by
            rintro l w' ⟨rfl, hno, hbt⟩
            exact ⟨rfl, .inr ⟨g3_no HG2.out HRE.out (by rw [HRL.out]; exact hgo) HRO.out (put_no1 hno), rfl⟩, HTD.out.but.trans hbt⟩) ?_
           rintro e w4 ⟨⟨x, r, hx, hy, rfl, hq⟩ | ⟨hno, rfl⟩, hbt⟩
           rotate_left
           · exact .inl ⟨_, rfl, rfl, hno, hbt⟩
           refine .inr ⟨_, rfl, ?_⟩
           have HT4 := Lib.hid (HTD.out.step hq hbt)
           have c4 := HT4.out.st.cell (i := 1) rfl
           have c6 := (HT4.out.alloc ((Below.refl _ w4).alloc (Nat.le_refl _) (.cells #[.int .i64 x.k, .int .i64 x.a, .int .i64 x.b, .int .i64 x.c] 89))).st.cell (i := 1) rfl
           obtain ⟨a', c', w5, hrun, hst, ht5⟩ := HT4.out.push_inp x HBN.out
           rw [HLL.out x] at hrun ht5
           have c5 := hst.cell (i := 1) rfl
           have f5 := hst.fz 1))
      all_goals
        have HX := Lib.hid hx
        have HYR := Lib.hid hy
        have HTN := Lib.hid ht5
        clear hx hy hq hbt c4 c6 c1 c5 f5 hrun hst ht5 HT4 HTD
        have HTD := Lib.hid HTN.out.drew
        have c1 := HTN.out.st.cell (i := 2) rfl
        go_wp2_with fail
        go_region_law (first
          | (refine step_append_of rfl _ _ _ rfl rfl rfl hrun ?_)
          | (refine step_call_twob rfl _ _ _ _ rfl Tryd.func79 (by decide) rfl rfl rfl (HS255.out _ r HTD.out.but HTD.out.rd) (g := fun l w' => l = [{ v := .iface 34 (.int .i64 3), recovered := false }] ∧ (∀ x r', x ≤ 255 → r ≠ enc x ++ r') ∧ But b _ w') (by
              rintro l w' ⟨rfl, hno, hbt⟩
              exact ⟨rfl, .inr ⟨g3_no HG2.out HRE.out (by rw [HRL.out]; exact hgo) HRO.out (put_no2 HYR.out HX.out hno), rfl⟩, HTD.out.but.trans hbt⟩) ?_
             rintro e w6 ⟨⟨d, r2, hd, hy, rfl, hq⟩ | ⟨hno, rfl⟩, hbt⟩
             rotate_left
             · exact .inl ⟨_, rfl, rfl, hno, hbt⟩
             refine .inr ⟨_, rfl, ?_⟩
             have HT6 := Lib.hid (HTD.out.step hq hbt)
             have c4 := HT6.out.st.cell (i := 2) rfl
             have c6 := (HT6.out.alloc ((Below.refl _ w6).alloc (Nat.le_refl _) (.cells #[.int .i64 (d : Nat)] 34))).st.cell (i := 2) rfl
             obtain ⟨a'', c'', w7, hrun, hst, ht7⟩ := HT6.out.push_err (d : Nat) HBC.out
             rw [HLC.out (d : Nat)] at hrun ht7
             have c5 := hst.cell (i := 2) rfl
             have f5 := hst.fz 2))
        all_goals
          have HDD := Lib.hid hd
          have HYD := Lib.hid hy
          have HTM := Lib.hid ht7
          clear hd hy hq hbt c4 c6 c1 c5 f5 hrun hst ht7 HT6 HTD HTN
          go_wp2_with fail
          go_roundg (gk - 1)
          case measure => omega
          case rel =>
            refine ⟨k + 1, a', c', a'', c'', ps ++ [(x, (d : Int))], is ++ [x], cs ++ [(d : Int)], r2, by go_num, by omega, ?_, ?_, ?_, ?_, ?_, HTM.out⟩
            · unfold Hid; rw [HIS.out, List.map_append]; rfl
            · unfold Hid; rw [HCS.out, List.map_append]; rfl
            · unfold Hid; rw [List.length_append, HRL.out]; rfl
            · exact all_snoc HRO.out ⟨HX.out, by show (0 : Int) ≤ d; omega, by have := HDD.out; show (d : Int) ≤ 255; omega⟩
            · refine flat_snoc HRE.out ?_
              rw [encPut_inp, HYR.out, HYD.out, List.append_assoc]
              rfl
    · obtain rfl : v2 = k := by omega
      have HG3 := Lib.hid (g3_of HG2.out HRE.out HRL.out HRO.out)
      go_wp2_with fail
      refine (HWY.out _ _ HT.out.but HT.out.rd).mono ?_
      rintro e w4 ⟨⟨ws, y4, vw, hwok, hy, rfl, how, hq⟩ | ⟨hno, rfl⟩, hbt⟩
      rotate_left
      · exact ⟨rfl, .inr ⟨g4_no HG3.out hno, rfl⟩, HT.out.but.trans hbt⟩
      have HG4 := Lib.hid (g4_of HG3.out hy hwok)
      have HWK := Lib.hid hwok
      have HYW := Lib.hid hy
      have HT4 := Lib.hid (HT.out.step hq hbt)
      obtain ⟨aw, cw, rfl⟩ := own_is_slice how
      have HOW : Hid (OwnZ w4 w.heap.size (.slice aw ws.length cw) ws) := OwnZ.mono how HT.out.but.size
      have c3 := HT4.out.st.cell (i := 3) rfl
      have f3 := HT4.out.st.fz 3
      clear hwok hy hq hbt how HT
      go_wp2_with fail
      have HT5 := Lib.hid (HT4.out.setWays HOW.out)
      obtain ⟨w5, hw5⟩ : ∃ w5, w5 = w4.setCell ⟨w.heap.size + 1, 3, none⟩ (.slice aw ws.length cw) := ⟨_, rfl⟩
      rw [← hw5] at HT5 ⊢
      clear c3 f3 hw5 HT4 HOW
      refine (HNM.out _ _ HT5.out.but HT5.out.rd).mono ?_
      rintro e w6 ⟨⟨ck, y5, hck, hy, rfl, hq⟩ | ⟨hno, rfl⟩, hbt⟩
      rotate_left
      · exact ⟨rfl, .inr ⟨g5_no HG4.out hno, rfl⟩, HT5.out.but.trans hbt⟩
      have HYC := Lib.hid hy
      have HT6 := Lib.hid (HT5.out.step hq hbt)
      have c3 := HT6.out.st.cell (i := 4) rfl
      have f3 := HT6.out.st.fz 4
      have hcw : IntKind.u32.wrap (ck : Int) = (ck : Int) := by simp only [IntKind.wrap_u32]; omega
      clear hy hq hbt HT5
      go_upto_region 10 with fail
      have HT7 := Lib.hid (HT6.out.setCk (ck : Nat))
      obtain ⟨w7, hw7⟩ : ∃ w7, w7 = w6.setCell ⟨w.heap.size + 1, 4, none⟩ (.int .u32 (ck : Nat)) := ⟨_, rfl⟩
      rw [← hw7] at HT7 ⊢
      clear c3 f3 hw7 HT6
      have d0 := HT7.out.st.cell (i := 0) rfl
      have d1 := HT7.out.st.cell (i := 1) rfl
      have d2 := HT7.out.st.cell (i := 2) rfl
      have d3 := HT7.out.st.cell (i := 3) rfl
      have d4 := HT7.out.st.cell (i := 4) rfl
      have q0 := HT7.out.res.cell (i := 0) rfl
      have q1 := HT7.out.res.cell (i := 1) rfl
      have q2 := HT7.out.res.cell (i := 2) rfl
      have q3 := HT7.out.res.cell (i := 3) rfl
      have q4 := HT7.out.res.cell (i := 4) rfl
      have f0 := HT7.out.res.fz 0
      have f1 := HT7.out.res.fz 1
      have f2 := HT7.out.res.fz 2
      have f3 := HT7.out.res.fz 3
      have f4 := HT7.out.res.fz 4
      go_wp2_with fail
      obtain ⟨hc, hr, hbt⟩ := HT7.out.done (.int .i64 v1) (.slice sa v2 sc) (.slice sb v2 sd) (.slice aw ws.length cw) (.int .u32 ck)
      obtain ⟨hok, heq⟩ := ate_rec HY1.out HY2.out HRE.out HYW.out HYC.out HV1.out HRL.out HRO.out HWK.out hck
      rw [← HIS.out, ← HCS.out] at hok heq
      refine bodyPost_ret (v := rhV ⟨v1, sa, v2, sc, sb, v2, sd, aw, ws.length, cw, ck⟩) (by simp [results, Tryd.results69, go_sem, q0, q1, q2, q3, q4]) rfl ⟨.inl ?_, hbt⟩
      first
        | exact ⟨_, y5, _, hok, heq, rfl, hc, hr⟩
        | exact ⟨⟨v1, is, cs, ws, ck⟩, hok, y5, heq, _, rfl, hc, hr⟩
end Go.Proofs.YtplnaaokapilpaaDoor.Vm
