/- Names in new memory; the document's List and Names. -/
import Derived.Test.YtkfjbpcngmipnaaRefDiskE
import Derived.Deep.QuietTactic
import Derived.BigQuiet
namespace Go.Proofs.Ytkfjbpcngmipnaa.Vm
open Go Go.RowKit
set_option maxRecDepth 100000

theorem info_string : (Try.prog.info? 9).map (fun i => (i.zero, i.size, i.bytes)) = some (some (.string ⟨#[]⟩), 1, 16) := by kernel_rfl
def namesV (l : List ByteArray) : List Value := l.map fun s => Value.string s
/-- The slice '.slice a n c' holds these names, in a block below B. -/
def RowN (w : World) (B : Nat) (a : Option Addr) (n c : Nat) (l : List ByteArray) : Prop :=
  l.length = n ∧ n ≤ c ∧ c ≤ maxLen ∧ (0 < n → ∃ b off, a = some ⟨b, off, none⟩ ∧ b < B ∧ ∀ i, i < n → w.cell? ⟨b, off + i, none⟩ = some (.string (l.getD i ⟨#[]⟩)))
section
variable {w w' : World} {B B' : Nat} {a : Option Addr} {n c : Nat} {l : List ByteArray} {v : Value}
theorem RowN.below (h : RowN w B a n c l) (hb : Below B w w') : RowN w' B a n c l :=
  ⟨h.1, h.2.1, h.2.2.1, fun hn => by
    obtain ⟨b, off, e, hlt, hc⟩ := h.2.2.2 hn
    exact ⟨b, off, e, hlt, fun i hi => (hb.cell (p := ⟨b, off + i, none⟩) hlt).trans (hc i hi)⟩⟩
theorem RowN.mono (h : RowN w B a n c l) (hB : B ≤ B') : RowN w B' a n c l :=
  ⟨h.1, h.2.1, h.2.2.1, fun hn => by
    obtain ⟨b, off, e, hlt, hc⟩ := h.2.2.2 hn
    exact ⟨b, off, e, by omega, hc⟩⟩
/-- The call owns these names. -/
def OwnN (w : World) (B : Nat) (v : Value) (l : List ByteArray) : Prop := w.ownsRow B 9 1 v l.length (namesV l)
theorem OwnN.nil (w : World) (B : Nat) : OwnN w B (.slice none 0 0) [] := World.ownsRow_nil _ _ _ _
theorem OwnN.push {x : ByteArray} (h : w.ownsRow B 9 1 v (l.length + 1) (namesV l ++ [.string x])) : OwnN w B v (l ++ [x]) := by
  unfold OwnN
  rw [List.length_append]
  simpa [namesV] using h
theorem OwnN.row (h : OwnN w B v l) : ∃ a c, v = .slice a l.length c ∧ RowN w w.heap.size a l.length c l := by
  rcases h.2 with ⟨rfl, hn⟩ | ⟨g, cap, cur, rfl, hb, hg, hnc, hm, hcs, htk⟩
  · obtain rfl := List.eq_nil_of_length_eq_zero hn
    exact ⟨none, 0, rfl, rfl, Nat.le_refl _, by simp [maxLen], fun h => absurd h (by simp)⟩
  · have hc := World.ownsRow.cells h (g := g) rfl
    refine ⟨_, cap, rfl, rfl, hnc, hm, fun _ => ⟨g, 0, rfl, (Array.getElem?_eq_some_iff.1 hg).1, fun i hi => ?_⟩⟩
    have := hc i (.string (l.getD i ⟨#[]⟩)) (by simp [namesV, List.getD, hi])
    rwa [Row.add] at this
end
def namesS (F : List FileS) : List ByteArray := F.map (·.name)
theorem namesS_take {F : List FileS} {i : Nat} (hi : i < F.length) : namesS (F.take (i + 1)) = namesS (F.take i) ++ [(F.getD i zfile).name] := by
  unfold namesS
  rw [List.take_add_one, List.getElem?_eq_getElem hi, List.map_append]
  simp [List.getD, hi]

/-- What List tells. -/
def SaysList (w : World) (F : List FileS) (e : Ending) (w' : World) : Prop := ∃ a c, e = .returned (.slice a F.length c) ∧ RowN w' w'.heap.size a F.length c (namesS F) ∧ Below w.heap.size w w'
set_option maxHeartbeats 1000000 in
theorem rList13_any (bd : Nat) (v : Value) (l : List FileV) (d : DiskS) (O : Nat → Prop) (w : World) (h : RefAt w O bd v l d) (hF : d.F.length ≤ 1000000) :
    Calls Try.prog 34 #[.pointer (some ⟨bd, 0, none⟩)] w (SaysList w d.F) := by
  obtain ⟨a, c, rfl⟩ := h.form
  obtain ⟨q0, _, _, _⟩ := h.cells
  have hat := h.own.at
  have HC := Lib.hid hat.2.2.2
  have hnc := hat.2.1
  have HL := Lib.hid h.len
  have HK := Lib.hid h.like
  have hcm := hat.2.2.1
  have hbd := h.lt bd h.obd
  unfold maxLen at hcm
  obtain ⟨i1, hi1, hy0, hy1, hy2⟩ := info_parts info_string
  clear hat h
  generalize hN : d.F.length = N at *
  have HN := Lib.hid hN
  clear hN
  go_enter Try.func34, Try.ntmps34
  go_wp2_with fail
  go_loopg [3, 4] N (fun gg v3 v4 wr => ∃ i : Nat, i + gg = N ∧ v4 = .int .i64 i ∧ Hid (OwnN wr w.heap.size v3 (namesS (d.F.take i))) ∧ Hid (Below w.heap.size w wr))
  case atStart => exact ⟨0, by omega, rfl, OwnN.nil _ _, Below.refl _ _⟩
  case round =>
    obtain ⟨i, hig, rfl, HO, HB⟩ := hrel
    have q0r := (Below.cell (p := ⟨bd, 0, none⟩) HB.out hbd).trans q0
    by_cases hi : i < N
    · have hii : (i : Int) < (N : Int) := by omega
      have d1 : decide ((i : Int) < (N : Int)) = true := by rw [decide_eq_true_eq]; exact hii
      obtain ⟨lb, rfl, _, hlb, hcs, _⟩ := HC.out (by omega)
      have hc0 := (Below.cell (p := ⟨lb, i * 3, none⟩) HB.out hlb).trans (hcs i hi).1
      rw [(HK.out i (by rw [HL.out]; exact hi)).name] at hc0
      have HT : Hid (namesS (d.F.take (i + 1)) = namesS (d.F.take i) ++ [(d.F.getD i zfile).name]) := namesS_take (by rw [HN.out]; exact hi)
      have hln : (namesS (d.F.take i)).length ≤ 1000000 := by unfold namesS; rw [List.length_map, List.length_take]; omega
      have HLN := Lib.hid hln
      have HZ := Lib.hid HB.out.size
      clear hcs hln
      generalize (d.F.getD i zfile).name = nm at *
      generalize namesS (d.F.take i) = ns at *
      go_wp2_with (at_builtin; (refine wpList_append_own _ rfl (.tmp 14) (.tmp 23) 42 rfl w.heap.size 9 i1 (.string ⟨#[]⟩) 1 16 Try.underlying42 hi1 hy0 hy1 hy2 rfl (by decide) _ _ _ rfl (World.ownsRow.alloc HO.out _) ⟨wr.heap.size, 0, none⟩ 1 1 [.string nm] rfl rfl (one_cell _ _ _) (by simp [Value.oneCell']) (by have := HLN.out; simp only [maxLen]; omega) (by have := HLN.out; omega) (by have := HZ.out; simp; omega) ?_; intro v6 w6 hown6 hgrow6 _))
      have HO6 : Hid (OwnN w6 w.heap.size v6 (namesS (d.F.take (i + 1)))) := by unfold Hid; rw [HT.out]; exact OwnN.push hown6
      have HB6 : Hid (Below w.heap.size w w6) := (HB.out.alloc (by have := HZ.out; omega) _).grown hgrow6 (by have := HZ.out; simp; omega) (fun k hk => (World.ownsRow.lt HO.out k hk).1)
      clear hown6 hgrow6
      go_wp2_with fail
      go_roundg (gk - 1)
      case rel => exact ⟨i + 1, by omega, by first | rfl | go_num, HO6, HB6⟩
      case measure => omega
    · obtain rfl : i = N := by omega
      have d1 : decide ((i : Int) < (i : Int)) = false := by simp
      have HS : Hid (SaysList w d.F (.returned u3) wr) := by
        have h1 := HO.out
        rw [List.take_of_length_le (by rw [HN.out]; omega)] at h1
        obtain ⟨a', c', e, hr⟩ := h1.row
        have hl : (namesS d.F).length = d.F.length := by simp [namesS]
        rw [hl] at e hr
        exact ⟨a', c', by rw [e], hr, HB.out⟩
      go_wp2_with fail
      go_ret
      exact HS.out

set_option maxHeartbeats 1000000 in
theorem rNames13_any (a1 a2 : Option Addr) (n1 c1 n2 c2 B : Nat) (xs ys : List ByteArray) (w : World) (h1 : RowN w B a1 n1 c1 xs) (h2 : RowN w B a2 n2 c2 ys) :
    Calls Try.prog 17 #[.slice a1 n1 c1, .slice a2 n2 c2] w fun e w' => e = .returned (.bool (decide (xs = ys))) ∧ ∃ m, w' = w.drewN m := by
  have hm1 := h1.2.2.1
  have hm2 := h2.2.2.1
  have hc1 := h1.2.1
  have hc2 := h2.2.1
  unfold maxLen at hm1 hm2
  have HX := Lib.hid h1.1
  have HY := Lib.hid h2.1
  have HR1 := Lib.hid h1
  have HR2 := Lib.hid h2
  clear h1 h2
  by_cases hne : n1 = n2
  · subst hne
    have e0 : ((n1 : Int) != (n1 : Int)) = false := by simp
    go_enter Try.func17, Try.ntmps17
    go_wp2_with fail
    go_loopg [5] n1 (fun gg v5 wr => ∃ k m : Nat, k + gg = n1 ∧ v5 = .int .i64 k ∧ wr = w.drewN m ∧ Hid (xs.take k = ys.take k))
    case atStart => exact ⟨0, 0, by omega, rfl, rfl, rfl⟩
    case round =>
      obtain ⟨k, m, hkg, rfl, rfl, HT⟩ := hrel
      by_cases hlt : k < n1
      · have hlti : (k : Int) < (n1 : Int) := by omega
        have d1 : decide ((k : Int) < (n1 : Int)) = true := by rw [decide_eq_true_eq]; exact hlti
        obtain ⟨b, off, rfl, _, hcs⟩ := HR1.out.2.2.2 (by omega)
        obtain ⟨b', off', rfl, _, hcs'⟩ := HR2.out.2.2.2 (by omega)
        have p1 := hcs k hlt
        have p2 := hcs' k hlt
        clear hcs hcs'
        have HXT : Hid (xs.take (k + 1) = xs.take k ++ [xs.getD k ⟨#[]⟩]) := by
          unfold Hid
          rw [List.take_add_one, List.getElem?_eq_getElem (by rw [HX.out]; exact hlt)]
          simp [List.getD, List.getElem?_eq_getElem (show k < xs.length by rw [HX.out]; exact hlt)]
        have HYT : Hid (ys.take (k + 1) = ys.take k ++ [ys.getD k ⟨#[]⟩]) := by
          unfold Hid
          rw [List.take_add_one, List.getElem?_eq_getElem (by rw [HY.out]; exact hlt)]
          simp [List.getD, List.getElem?_eq_getElem (show k < ys.length by rw [HY.out]; exact hlt)]
        have HNE : Hid (xs.getD k ⟨#[]⟩ ≠ ys.getD k ⟨#[]⟩ → xs ≠ ys) := fun h e => h (by rw [e])
        generalize xs.getD k ⟨#[]⟩ = x at *
        generalize ys.getD k ⟨#[]⟩ = y at *
        by_cases hxy : x = y
        · have d2 : (x.toList == y.toList) = true := by rw [name_beq]; simpa using hxy
          have HXY := Lib.hid hxy
          clear hxy
          go_wp2_with fail
          go_quiet (fail)
          have HN2 : Hid (xs.take (k + 1) = ys.take (k + 1)) := by unfold Hid; rw [HXT.out, HYT.out, HT.out, HXY.out]
          go_wp2_with fail
          go_roundg (gk - 1)
          case rel => exact ⟨k + 1, m + nq, by omega, by first | rfl | go_num, by first | rfl | rw [World.drewN_drewN], HN2⟩
          case measure => omega
        · have d2 : (x.toList == y.toList) = false := by rw [name_beq]; simpa using hxy
          have HF := Lib.hid (HNE.out hxy)
          clear hxy
          go_wp2_with fail
          go_quiet (fail)
          go_wp2_with fail
          go_ret
          exact ⟨ret_bool (decide_eq_false HF.out).symm, m + nq, by first | rfl | rw [World.drewN_drewN]⟩
      · obtain rfl : k = n1 := by omega
        have d1 : decide ((k : Int) < (k : Int)) = false := by simp
        have HE : Hid (xs = ys) := by
          have := HT.out
          rwa [List.take_of_length_le (by rw [HX.out]; omega), List.take_of_length_le (by rw [HY.out]; omega)] at this
        go_wp2_with fail
        go_ret
        exact ⟨ret_bool (decide_eq_true HE.out).symm, m, rfl⟩
  · have e0 : ((n1 : Int) != (n2 : Int)) = true := by rw [bne_iff_ne]; omega
    have HE : Hid (xs ≠ ys) := fun e => hne (by rw [← HX.out, ← HY.out, e])
    clear hne
    go_enter Try.func17, Try.ntmps17
    go_wp2_with fail
    go_ret
    exact ⟨ret_bool (decide_eq_false HE.out).symm, 0, rfl⟩
end Go.Proofs.Ytkfjbpcngmipnaa.Vm
