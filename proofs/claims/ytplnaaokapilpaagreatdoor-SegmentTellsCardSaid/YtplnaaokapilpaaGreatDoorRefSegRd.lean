/- The document's Head, list and Put of manifests. The document's Put of manifests, what it takes of bytes (rising), and its Read. The document's rising: numbers that rise, taken of bytes; and its Read of manifests. The document's Read of manifests. -/
import Derived.Test.YtplnaaokapilpaaGreatDoorSegMath
import Derived.Test.YtplnaaokapilpaaGreatDoorRefPuts
import Derived.Test.YtplnaaokapilpaaGreatDoorRefScans
import Derived.Test.YtplnaaokapilpaaGreatDoorAppendZ
import Derived.Test.YtplnaaokapilpaaGreatDoorRefTakes
import Derived.Test.YtplnaaokapilpaaGreatDoorSames
import Derived.Deep.LoopGhost
import Derived.BigRegion
import Derived.Deep.DeepCutAuto
import Derived.Laws.ResultCell
set_option linter.unusedVariables false
set_option linter.unusedSimpArgs false
namespace Go.Proofs.YtplnaaokapilpaaGreatDoor.Vm
open Go Go.RowKit
set_option maxRecDepth 100000

/-- The one ahead of a place, or p. -/
def prevG (p : Int) (l : List Int) (k : Nat) : Int := if k = 0 then p else l.getD (k - 1) 0
theorem lastG_take : ∀ (l : List Int) (p : Int) (k : Nat), k ≤ l.length → lastG p (l.take k) = prevG p l k
  | _, _, 0, _ => rfl
  | [], _, k + 1, h => by simp at h
  | x :: l, p, k + 1, h => by
    have ih := lastG_take l x k (by simpa using h)
    rw [List.take_succ_cons]
    unfold lastG
    rw [ih]
    unfold prevG
    cases k with
    | zero => simp
    | succ j => simp
theorem take_z {l : List Int} {k : Nat} (hk : k < l.length) : l.take (k + 1) = l.take k ++ [l.getD k 0] := by
  rw [List.take_add_one, List.getElem?_eq_getElem hk]
  simp [List.getD, hk]
theorem upIn_more {l : List Int} {k : Nat} (hk : k < l.length) (h : UpIn (-1) (l.take k)) (h1 : prevG (-1) l k < l.getD k 0) (h2 : l.getD k 0 ≤ 2147483647) : UpIn (-1) (l.take (k + 1)) := by
  rw [take_z hk]
  exact upIn_snoc _ _ _ h (by rw [lastG_take l (-1) k (by omega)]; exact h1) h2
theorem upIn_at : ∀ {l : List Int} {p : Int} {k : Nat}, k < l.length → UpIn p l → prevG p l k < l.getD k 0 ∧ l.getD k 0 ≤ 2147483647
  | [], _, _, h, _ => by simp at h
  | x :: l, p, 0, _, ⟨a, b, _⟩ => ⟨by simpa [prevG] using a, by simpa using b⟩
  | x :: l, p, k + 1, h, ⟨a, b, c⟩ => by
    have ih := upIn_at (l := l) (p := x) (k := k) (by simpa using h) c
    unfold prevG at ih ⊢
    cases k with
    | zero => simpa using ih
    | succ j => simpa using ih
theorem prevG_bd {l : List Int} {k : Nat} (hk : k ≤ l.length) (h : UpIn (-1) (l.take k)) : -1 ≤ prevG (-1) l k ∧ prevG (-1) l k ≤ 2147483647 := by
  rw [← lastG_take l (-1) k hk]
  exact upIn_last _ _ h (by omega) (by omega)
theorem encI_nat (x : Int) (h : 0 ≤ x) : ∃ n : Nat, x = (n : Int) ∧ encI x = enc n := ⟨x.toNat, by omega, rfl⟩


/-- Numbers as a manifest's list. -/
def SaysL (w : World) (l : List Int) (e : Ending) (w' : World) : Prop :=
  ((UpIn (-1) l ∧ ∃ v, e = .returned (.tuple #[v, .bool true]) ∧ Own w' w.heap.size v (encL l)) ∨ (¬ UpIn (-1) l ∧ e = .returned (.tuple #[.slice none 0 0, .bool false]))) ∧ Below w.heap.size w w'
set_option maxHeartbeats 2000000 in
theorem rlist14_any (a : Option Addr) (n c : Nat) (l : List Int) (w : World) (h : RowZ .i64 w w.heap.size a n c l) (hn : n ≤ 100000) :
    Calls Tryz.prog 31 #[.slice a n c] w (SaysL w l) := by
  have hnc := h.2.1
  have hcm := h.2.2.1
  unfold maxLen at hcm
  have HL : Hid (l.length = n) := h.1
  have HR := Lib.hid h
  have hcv : IntKind.u64.wrap (n : Int) = (n : Int) := by rw [IntKind.wrap_u64]; omega
  have HPU := Lib.hid (rput_one n w (by omega))
  clear h
  go_enter Tryz.func31, Tryz.ntmps31
  go_wp2_with fail
  refine HPU.out.mono ?_
  rintro e w1 ⟨v1, rfl, ho1, hb1⟩
  have HO1 := Lib.hid ho1
  have HB1 := Lib.hid hb1
  clear ho1 hb1 HPU
  go_wp2_with fail
  go_loopg [4, 5] n (fun gg v4 v5 wr => ∃ k : Nat, k + gg = n ∧ v5 = .int .i64 k ∧ Hid (UpIn (-1) (l.take k)) ∧ Hid (Own wr w.heap.size v4 (enc n ++ encG (-1) (l.take k))) ∧ Hid (Below w.heap.size w wr))
  case atStart => exact ⟨0, by omega, rfl, trivial, (by have := HO1.out; show Own w1 w.heap.size v1 (enc n ++ []); rw [List.append_nil]; exact this), HB1.out⟩
  case round =>
    obtain ⟨k, hkg, rfl, HU, HO, HB⟩ := hrel
    by_cases hk : k < n
    · have hki : (k : Int) < (n : Int) := by omega
      have d1 : decide ((k : Int) < (n : Int)) = true := by rw [decide_eq_true_eq]; exact hki
      have hkl : k < l.length := by rw [HL.out]; exact hk
      obtain ⟨b, o, rfl, hbl, hcs⟩ := (HR.out.below HB.out).cells (by omega)
      have hck := hcs k hk
      have hpb := prevG_bd (l := l) (k := k) (by omega) HU.out
      have HNO : Hid (¬ (prevG (-1) l k < l.getD k 0 ∧ l.getD k 0 ≤ 2147483647) → ¬ UpIn (-1) l) := fun h h' => h (upIn_at hkl h')
      have HGO : Hid (prevG (-1) l k < l.getD k 0 ∧ l.getD k 0 ≤ 2147483647 → UpIn (-1) (l.take (k + 1)) ∧ encG (-1) (l.take (k + 1)) = encG (-1) (l.take k) ++ encI (l.getD k 0 - prevG (-1) l k - 1)) := fun h => ⟨upIn_more hkl HU.out h.1 h.2, encG_take l (-1) k hkl⟩
      have HFA : Hid (¬ UpIn (-1) l → ∀ V, Below w.heap.size w V → SaysL w l (.returned (.tuple #[.slice none 0 0, .bool false])) V) := fun h V hV => ⟨.inr ⟨h, rfl⟩, hV⟩
      have hle := encG_le (l.take k) (-1) (by omega) HU.out
      rw [List.length_take] at hle
      have hel := enc_len64 (n := n) (by omega)
      have HLE : Hid ((enc n ++ encG (-1) (l.take k)).length ≤ 1000010) := by unfold Hid; rw [List.length_append]; omega
      have hz := HB.out.size
      by_cases hk0 : k = 0
      · subst hk0
        have hpv : prevG (-1) l 0 = -1 := rfl
        rw [hpv] at hpb HNO HGO
        rw [Nat.add_zero] at hck
        clear hcs hkl hle hel hpv hpb
        generalize l.getD 0 0 = x at *
        by_cases hx : -1 < x ∧ x ≤ 2147483647
        · have e1 : decide (x < 0) = false := by rw [decide_eq_false_iff_not]; omega
          have e2 : decide ((2147483647 : Int) < x) = false := by rw [decide_eq_false_iff_not]; omega
          obtain ⟨m, hm, hen⟩ := encI_nat x (by omega)
          subst hm
          have hG := HGO.out hx
          have e3 : ((m : Int) - -1 - 1) = (m : Int) := by omega
          rw [e3, hen] at hG
          have HG := Lib.hid hG
          have hcx : IntKind.u64.wrap (m : Int) = (m : Int) := by rw [IntKind.wrap_u64]; omega
          have HPM := Lib.hid (rput_one m wr (by omega))
          have hem := enc_len64 (n := m) (by omega)
          have HEM := Lib.hid hem
          clear hG e3 hen hem HGO HNO HFA
          go_wp2_with fail
          refine HPM.out.mono ?_
          rintro e w2 ⟨v2, rfl, ho2, hb2⟩
          obtain ⟨a2, c2, rfl, hr2⟩ := ho2.slice
          have HO2 := Lib.hid (own_below HO.out hb2 (fun k hk => (World.ownsRow.lt HO.out k hk).2))
          have HB2 := Lib.hid (HB.out.trans (hb2.mono HB.out.size))
          have HR2 := Lib.hid hr2
          generalize hen : (enc m).length = en at *
          clear ho2 hb2 hr2 HPM
          go_wp2_with (at_builtin; refine wpList_append_row rfl (.tmp 50) (.tmp 53) rfl rfl HO2.out rfl HR2.out (by have := HLE.out; have := HEM.out; omega) HB2.out.size ?_; intro v3 w3 hown3 hgrow3 _; have HO3 := Lib.hid hown3; have HB3 := Lib.hid (Below.grows HB2.out HB2.out.size HO2.out hgrow3); clear hown3 hgrow3)
          have HO4 : Hid (Own w3 w.heap.size v3 (enc n ++ encG (-1) (l.take (0 + 1)))) := by
            unfold Hid
            rw [HG.out.2, ← List.append_assoc]
            exact HO3.out
          go_roundg (gk - 1)
          case rel => exact ⟨0 + 1, by omega, by first | rfl | go_num, HG.out.1, HO4.out, HB3.out⟩
          case measure => omega
        · have HF := Lib.hid (HFA.out (HNO.out hx) wr HB.out)
          clear HGO HNO HFA
          by_cases h0 : x < 0
          · have e1 : decide (x < 0) = true := by rw [decide_eq_true_eq]; exact h0
            clear hx
            go_wp2_with fail
            exact bodyPost_ret (v := .tuple #[.slice none 0 0, .bool false]) (by simp [results, Tryz.results31, go_sem]) rfl HF.out
          · have e1 : decide (x < 0) = false := by rw [decide_eq_false_iff_not]; exact h0
            have e2 : decide ((2147483647 : Int) < x) = true := by rw [decide_eq_true_eq]; omega
            clear hx
            go_wp2_with fail
            exact bodyPost_ret (v := .tuple #[.slice none 0 0, .bool false]) (by simp [results, Tryz.results31, go_sem]) rfl HF.out
      · obtain ⟨j, rfl⟩ : ∃ j, k = j + 1 := ⟨k - 1, by omega⟩
        have hcj := hcs j (by omega)
        have hpv : prevG (-1) l (j + 1) = l.getD j 0 := rfl
        rw [hpv] at hpb HNO HGO
        have hw1 : IntKind.i64.wrap ((j : Int) + 1 - 1) = (j : Int) := by rw [IntKind.wrap_i64]; omega
        have e0 : decide ((0 : Int) < (j : Int) + 1) = true := by rw [decide_eq_true_eq]; omega
        have e0' : (0 : Int) < (j : Int) + 1 := by omega
        clear hcs hkl hle hel hpv hk0
        generalize l.getD (j + 1) 0 = x at *
        generalize l.getD j 0 = y at *
        by_cases hx : y < x ∧ x ≤ 2147483647
        · have e1 : decide (x < 0) = false := by rw [decide_eq_false_iff_not]; omega
          have e2 : decide ((2147483647 : Int) < x) = false := by rw [decide_eq_false_iff_not]; omega
          have e3 : decide (x ≤ y) = false := by rw [decide_eq_false_iff_not]; omega
          obtain ⟨m, hm, hen⟩ := encI_nat (x - y - 1) (by omega)
          have hG := HGO.out hx
          rw [hen] at hG
          have HG := Lib.hid hG
          have hw2 : IntKind.i64.wrap (x - y) = x - y := by rw [IntKind.wrap_i64]; omega
          have hw3 : IntKind.i64.wrap (x - y - 1) = (m : Int) := by rw [IntKind.wrap_i64]; omega
          have hcx : IntKind.u64.wrap (m : Int) = (m : Int) := by rw [IntKind.wrap_u64]; omega
          have HPM := Lib.hid (rput_one m wr (by omega))
          have hem := enc_len64 (n := m) (by omega)
          have HEM := Lib.hid hem
          clear hG hen hem HGO HNO HFA
          go_wp2_with fail
          refine HPM.out.mono ?_
          rintro e w2 ⟨v2, rfl, ho2, hb2⟩
          obtain ⟨a2, c2, rfl, hr2⟩ := ho2.slice
          have HO2 := Lib.hid (own_below HO.out hb2 (fun k hk => (World.ownsRow.lt HO.out k hk).2))
          have HB2 := Lib.hid (HB.out.trans (hb2.mono HB.out.size))
          have HR2 := Lib.hid hr2
          generalize hen : (enc m).length = en at *
          clear ho2 hb2 hr2 HPM
          go_wp2_with (at_builtin; refine wpList_append_row rfl (.tmp 50) (.tmp 53) rfl rfl HO2.out rfl HR2.out (by have := HLE.out; have := HEM.out; omega) HB2.out.size ?_; intro v3 w3 hown3 hgrow3 _; have HO3 := Lib.hid hown3; have HB3 := Lib.hid (Below.grows HB2.out HB2.out.size HO2.out hgrow3); clear hown3 hgrow3)
          have HO4 : Hid (Own w3 w.heap.size v3 (enc n ++ encG (-1) (l.take (j + 1 + 1)))) := by
            unfold Hid
            rw [HG.out.2, ← List.append_assoc]
            exact HO3.out
          go_roundg (gk - 1)
          case rel => exact ⟨j + 1 + 1, by omega, by first | rfl | go_num, HG.out.1, HO4.out, HB3.out⟩
          case measure => omega
        · have HF := Lib.hid (HFA.out (HNO.out hx) wr HB.out)
          clear HGO HNO HFA
          by_cases h0 : x < 0
          · have e1 : decide (x < 0) = true := by rw [decide_eq_true_eq]; exact h0
            clear hx
            go_wp2_with fail
            exact bodyPost_ret (v := .tuple #[.slice none 0 0, .bool false]) (by simp [results, Tryz.results31, go_sem]) rfl HF.out
          · have e1 : decide (x < 0) = false := by rw [decide_eq_false_iff_not]; exact h0
            by_cases h1 : 2147483647 < x
            · have e2 : decide ((2147483647 : Int) < x) = true := by rw [decide_eq_true_eq]; exact h1
              clear hx
              go_wp2_with fail
              exact bodyPost_ret (v := .tuple #[.slice none 0 0, .bool false]) (by simp [results, Tryz.results31, go_sem]) rfl HF.out
            · have e2 : decide ((2147483647 : Int) < x) = false := by rw [decide_eq_false_iff_not]; exact h1
              have e3 : decide (x ≤ y) = true := by rw [decide_eq_true_eq]; omega
              clear hx
              go_wp2_with fail
              exact bodyPost_ret (v := .tuple #[.slice none 0 0, .bool false]) (by simp [results, Tryz.results31, go_sem]) rfl HF.out
    · obtain rfl : k = n := by omega
      have d1 : decide ((k : Int) < (k : Int)) = false := by simp
      have hu := HU.out
      have ho := HO.out
      rw [List.take_of_length_le (by rw [HL.out]; omega)] at hu ho
      obtain ⟨a5, c5, rfl, _⟩ := ho.slice
      have HF : Hid (SaysL w l (.returned (.tuple #[.slice a5 (enc k ++ encG (-1) l).length c5, .bool true])) wr) := ⟨.inl ⟨hu, _, rfl, by unfold encL; rw [HL.out]; exact ho⟩, HB.out⟩
      clear hu ho
      go_wp2_with fail
      exact bodyPost_ret (v := .tuple #[.slice a5 (enc k ++ encG (-1) l).length c5, .bool true]) (by simp [results, Tryz.results31, go_sem]) rfl HF.out
end Go.Proofs.YtplnaaokapilpaaGreatDoor.Vm

namespace Go.Proofs.YtplnaaokapilpaaGreatDoor.Vm
open Go Go.RowKit
set_option maxRecDepth 100000

/-- A manifest, put. -/
def SaysM (w : World) (a s : List Int) (e : Ending) (w' : World) : Prop :=
  ((CanM a s ∧ ∃ v, e = .returned (.tuple #[v, .int .i64 0]) ∧ Own w' w.heap.size v (encM a s)) ∨ (¬ CanM a s ∧ e = .returned (.tuple #[.slice none 0 0, .int .i64 1]))) ∧ Below w.heap.size w w'
theorem two_slices (w : World) (a a' : Option Addr) (n c n' c' : Nat) (t : TypeId) : (w.alloc (.cells #[.slice a n c, .slice a' n' c'] t)).cell? ⟨w.heap.size, 0, none⟩ = some (.slice a n c) ∧ (w.alloc (.cells #[.slice a n c, .slice a' n' c'] t)).cell? ⟨w.heap.size, 1, none⟩ = some (.slice a' n' c') := ⟨by simp, by simp⟩
set_option maxHeartbeats 2000000 in
theorem rmput14_any (a : Option Addr) (n c : Nat) (l : List Int) (a' : Option Addr) (n' c' : Nat) (l' : List Int) (w : World) (h : RowZ .i64 w w.heap.size a n c l) (h' : RowZ .i64 w w.heap.size a' n' c' l') (hn : n ≤ 40000) (hn' : n' ≤ 40000) :
    Calls Tryz.prog 12 #[.agg #[.slice a n c, .slice a' n' c']] w (SaysM w l l') := by
  obtain ⟨w1, hw1⟩ : ∃ w1, w1 = w.alloc (.cells #[.slice a n c, .slice a' n' c'] 34) := ⟨_, rfl⟩
  have hb1 : Below w.heap.size w w1 := by rw [hw1]; exact (Below.refl _ _).alloc (Nat.le_refl _) _
  have hc1 := two_slices w a a' n c n' c' 34
  rw [← hw1] at hc1
  obtain ⟨q0, q1⟩ := hc1
  have hs1 : w.heap.size < w1.heap.size := by rw [hw1]; simp
  have HB1 := Lib.hid hb1
  have HR' := Lib.hid (fun V (hV : Below w.heap.size w V) => (h'.below hV).mono hV.size)
  have HLI := Lib.hid (rlist14_any a n c l w1 ((h.below hb1).mono hb1.size) (by omega))
  have HL : Hid (l.length = n) := h.1
  have HL' : Hid (l'.length = n') := h'.1
  have HW1 := Lib.hid hw1
  clear h h' hw1 hb1
  go_enter Tryz.func12, Tryz.ntmps12
  go_upto_region 1 with fail
  rw [← HW1.out]
  go_wp2_with fail
  refine HLI.out.mono ?_
  rintro e w2 ⟨hs, hb2⟩
  have HB2 := Lib.hid (HB1.out.trans (hb2.mono HB1.out.size))
  have q1x := (hb2.cell (p := ⟨w.heap.size, 1, none⟩) hs1).trans q1
  have HLJ := Lib.hid (rlist14_any a' n' c' l' w2 (HR'.out w2 HB2.out) (by omega))
  have HSZ := Lib.hid (Nat.le_trans HB1.out.size (Nat.le_refl w1.heap.size))
  have HC2 := Lib.hid hb2
  clear hb2 HLI
  rcases hs with ⟨hu, v2, rfl, ho2⟩ | ⟨hu, rfl⟩
  · obtain ⟨a2, c2, rfl, _⟩ := ho2.slice
    have HU := Lib.hid hu
    have HO2 := Lib.hid (ho2.mono HSZ.out)
    clear ho2 hu
    go_wp2_with fail
    refine HLJ.out.mono ?_
    rintro e w3 ⟨hs', hb3⟩
    have HB3 := Lib.hid (HB2.out.trans (hb3.mono HB2.out.size))
    have HC3 := Lib.hid hb3
    clear hb3 HLJ
    rcases hs' with ⟨hu', v3, rfl, ho3⟩ | ⟨hu', rfl⟩
    · obtain ⟨a3, c3, rfl, hr3⟩ := ho3.slice
      have HU' := Lib.hid hu'
      have HO3 := Lib.hid (own_below HO2.out HC3.out (fun k hk => (World.ownsRow.lt HO2.out k hk).2))
      have HR3 := Lib.hid hr3
      have hll := encL_len (l := l) HU.out (by rw [HL.out]; omega)
      have hll' := encL_len (l := l') hu' (by rw [HL'.out]; omega)
      rw [HL.out] at hll
      rw [HL'.out] at hll'
      have HLE : Hid ((encL l).length ≤ 400010 ∧ (encL l').length ≤ 400010) := ⟨by omega, by omega⟩
      generalize hE : (encL l').length = E at *
      clear ho3 hr3 hu' hll hll'
      go_wp2_with (at_builtin; refine wpList_append_row rfl (.tmp 26) (.tmp 27) rfl rfl HO3.out rfl HR3.out (by have := HLE.out; omega) HB3.out.size ?_; intro v4 w4 hown4 hgrow4 _; obtain ⟨a4, c4, rfl, hr4⟩ := hown4.slice; have HB4 := Lib.hid (Below.grows HB3.out HB3.out.size HO3.out hgrow4); have HR4 := Lib.hid hr4; clear hr4 hown4 hgrow4)
      have hlen : (encL l ++ encL l').length ≤ 1000000 := by rw [List.length_append, hE]; have := HLE.out; omega
      have HFP := Lib.hid (rfput_any a4 (encL l ++ encL l').length c4 _ w4 HR4.out (bodyM_byte l l') hlen)
      rw [List.length_append, hE] at HFP
      clear hlen
      refine HFP.out.mono ?_
      rintro e w5 ⟨v5, rfl, ho5, hb5⟩
      have HF : Hid (SaysM w l l' (.returned (.tuple #[v5, .int .i64 0])) w5) := ⟨.inl ⟨⟨HU.out, HU'.out⟩, v5, rfl, ho5.mono HB4.out.size⟩, HB4.out.trans (hb5.mono HB4.out.size)⟩
      obtain ⟨a5, c5, rfl, _⟩ := ho5.slice
      clear ho5 hb5
      go_wp2_with fail
      exact bodyPost_ret (v := .tuple #[_, .int .i64 0]) (by simp [results, Tryz.results12, go_sem]) rfl HF.out
    · have HF : Hid (SaysM w l l' (.returned (.tuple #[.slice none 0 0, .int .i64 1])) w3) := ⟨.inr ⟨fun h => hu' h.snaps, rfl⟩, HB3.out⟩
      clear hu'
      go_wp2_with fail
      exact bodyPost_ret (v := .tuple #[.slice none 0 0, .int .i64 1]) (by simp [results, Tryz.results12, go_sem]) rfl HF.out
  · have HU := Lib.hid hu
    clear hu
    go_wp2_with fail
    refine HLJ.out.mono ?_
    rintro e w3 ⟨hs', hb3⟩
    have HB3 := Lib.hid (HB2.out.trans (hb3.mono HB2.out.size))
    clear hb3 HLJ
    have HF : Hid (SaysM w l l' (.returned (.tuple #[.slice none 0 0, .int .i64 1])) w3) := ⟨.inr ⟨fun h => HU.out h.segs, rfl⟩, HB3.out⟩
    rcases hs' with ⟨hu', v3, rfl, ho3⟩ | ⟨hu', rfl⟩
    · obtain ⟨a3, c3, rfl, hr3⟩ := ho3.slice
      clear ho3 hr3 hu'
      go_wp2_with fail
      exact bodyPost_ret (v := .tuple #[.slice none 0 0, .int .i64 1]) (by simp [results, Tryz.results12, go_sem]) rfl HF.out
    · clear hu'
      go_wp2_with fail
      exact bodyPost_ret (v := .tuple #[.slice none 0 0, .int .i64 1]) (by simp [results, Tryz.results12, go_sem]) rfl HF.out
end Go.Proofs.YtplnaaokapilpaaGreatDoor.Vm

namespace Go.Proofs.YtplnaaokapilpaaGreatDoor.Vm
open Go Go.RowKit
set_option maxRecDepth 100000

/-- So many numbers, taken from a place on, behind a number. -/
def gapsR (zs : List Nat) : Nat → Nat → Int → Option (List Int × Nat)
  | 0, tq, _ => some ([], tq)
  | k + 1, tq, last => if (takeS zs tq).2.2 ≠ 0 ∨ 2147483647 < (takeS zs tq).1 then none else
    (gapsR zs k (takeS zs tq).2.1 (last + 1 + ((takeS zs tq).1 : Nat))).map fun r => ((last + 1 + ((takeS zs tq).1 : Nat)) :: r.1, r.2)
def risR (zs : List Nat) (p : Nat) : Option (List Int × Nat) := if (takeS zs p).2.2 ≠ 0 ∨ zs.length < (takeS zs p).1 then none else gapsR zs (takeS zs p).1 (takeS zs p).2.1 (-1)
theorem takeS_enc {zs r : List Nat} {p n : Nat} (h : zs.drop p = enc n ++ r) (hp : p ≤ zs.length) (hn : n < 18446744073709551616) : takeS zs p = (n, p + (enc n).length, 0) := by
  rw [takeS_in zs p hp, h]
  exact takeTo_ok (dec_enc64 n r hn)
theorem drop_more {zs a r : List Nat} {p : Nat} (h : zs.drop p = a ++ r) : zs.drop (p + a.length) = r := by
  rw [← List.drop_drop, h, List.drop_left]
theorem drop_le {zs a r : List Nat} {p : Nat} (h : zs.drop p = a ++ r) (ha : a ≠ []) : p ≤ zs.length := by
  rcases Nat.lt_or_ge zs.length p with h1 | h1
  · rw [List.drop_of_length_le (by omega)] at h
    cases a with
    | nil => exact absurd rfl ha
    | cons x a => simp at h
  · exact h1
theorem enc_ne (n : Nat) : enc n ≠ [] := fun e => by
  have := enc_pos n
  rw [e] at this
  simp at this
theorem gapsR_enc {zs : List Nat} : ∀ (l : List Int) (p : Int) (tq : Nat) (r : List Nat), -1 ≤ p → UpIn p l → zs.drop tq = encG p l ++ r → tq ≤ zs.length → gapsR zs l.length tq p = some (l, tq + (encG p l).length)
  | [], _, tq, _, _, _, _, _ => rfl
  | x :: l, p, tq, r, hp, ⟨a, b, c⟩, h, ht => by
    unfold encG encI at h
    rw [List.append_assoc] at h
    have e := takeS_enc h ht (by omega)
    have h2 := drop_more h
    have ht2 : tq + (enc (x - p - 1).toNat).length ≤ zs.length := by
      have h3 := congrArg List.length h
      rw [List.length_drop, List.length_append] at h3
      omega
    have ih := gapsR_enc l x (tq + (enc (x - p - 1).toNat).length) r (by omega) c h2 ht2
    rw [List.length_cons, gapsR, e]
    rw [if_neg (by simp; omega)]
    have e2 : p + 1 + (((x - p - 1).toNat : Nat) : Int) = x := by omega
    have e3 : (encG p (x :: l)).length = (enc (x - p - 1).toNat).length + (encG x l).length := by
      show (encI (x - p - 1) ++ encG x l).length = _
      rw [List.length_append]
      rfl
    simp only [e2, ih, Option.map_some]
    rw [e3]
    exact congrArg some (Prod.ext rfl (by show _ + _ + _ = _ + (_ + _); omega))
theorem risR_enc {zs r : List Nat} {l : List Int} {p : Nat} (h : zs.drop p = encL l ++ r) (hp : p ≤ zs.length) (hl : UpIn (-1) l) (hn : l.length < 18446744073709551616) : risR zs p = some (l, p + (encL l).length) := by
  unfold encL at h
  rw [List.append_assoc] at h
  have e := takeS_enc h hp hn
  have h2 := drop_more h
  have h3 := congrArg List.length h
  rw [List.length_drop, List.length_append, List.length_append] at h3
  have h4 := encG_len l (-1)
  have h5 := gapsR_enc l (-1) _ r (by omega) hl h2 (by omega)
  unfold risR
  rw [e, if_neg (by simp; omega), h5]
  unfold encL
  rw [List.length_append]
  congr 2
  omega
/-- What is taken rises. -/
theorem gapsR_len {zs : List Nat} : ∀ (k tq : Nat) (last : Int) (r : List Int × Nat), gapsR zs k tq last = some r → r.1.length = k
  | 0, _, _, r, h => by unfold gapsR at h; injection h with h; rw [← h]; rfl
  | k + 1, tq, last, r, h => by
    unfold gapsR at h
    split at h
    · cases h
    · cases e : gapsR zs k (takeS zs tq).2.1 (last + 1 + ((takeS zs tq).1 : Nat)) with
      | none => rw [e] at h; cases h
      | some q =>
        rw [e] at h
        injection h with h
        rw [← h, List.length_cons, gapsR_len k _ _ q e]
theorem risR_len {zs : List Nat} {p : Nat} {r : List Int × Nat} (h : risR zs p = some r) : r.1.length ≤ zs.length := by
  unfold risR at h
  split at h
  · cases h
  · rename_i h1
    rw [gapsR_len _ _ _ _ h]
    omega
def SaysR (w : World) (zs : List Nat) (p : Nat) (e : Ending) (w' : World) : Prop :=
  ((∃ l q a c, risR zs p = some (l, q) ∧ e = .returned (.tuple #[.slice a l.length c, .int .i64 (q : Nat)]) ∧ OwnZ w' w.heap.size (.slice a l.length c) l) ∨ (risR zs p = none ∧ e = .returned (.tuple #[.slice none 0 0, .int .i64 (-1)]))) ∧ Below w.heap.size w w'
theorem gaps_next {zs : List Nat} {k tq : Nat} {last : Int} {o : List Int} {R : Option (List Int × Nat)} (h : R = (gapsR zs (k + 1) tq last).map fun r => (o ++ r.1, r.2)) (h1 : ¬ ((takeS zs tq).2.2 ≠ 0 ∨ 2147483647 < (takeS zs tq).1)) :
    R = (gapsR zs k (takeS zs tq).2.1 (last + 1 + ((takeS zs tq).1 : Nat))).map fun r => ((o ++ [last + 1 + ((takeS zs tq).1 : Nat)]) ++ r.1, r.2) := by
  rw [h, gapsR, if_neg h1, Option.map_map]
  congr 1
  funext r
  simp
theorem gaps_stop {zs : List Nat} {k tq : Nat} {last : Int} {o : List Int} {R : Option (List Int × Nat)} (h : R = (gapsR zs (k + 1) tq last).map fun r => (o ++ r.1, r.2)) (h1 : (takeS zs tq).2.2 ≠ 0 ∨ 2147483647 < (takeS zs tq).1) : R = none := by
  rw [h, gapsR, if_pos h1]; rfl
set_option maxHeartbeats 2000000 in
theorem rrising14_any (a : Option Addr) (n c : Nat) (zs : List Nat) (p : Nat) (w : World) (h : Row .u8 w w.heap.size a n c zs) (hz : ∀ x ∈ zs, x < 256) (hn : n ≤ 40000) :
    Calls Tryz.prog 28 #[.slice a n c, .int .i64 p] w (SaysR w zs p) := by
  have HL : Hid (zs.length = n) := h.1
  have HT := Lib.hid (fun V (hV : Below w.heap.size w V) (q : Int) => rtake_any a n c w.heap.size zs q V (h.below hV) hz)
  have HT0 := Lib.hid (rtake_any a n c w.heap.size zs p w h hz)
  have HRI : Hid (risR zs p = if (takeS zs p).2.2 ≠ 0 ∨ zs.length < (takeS zs p).1 then none else gapsR zs (takeS zs p).1 (takeS zs p).2.1 (-1)) := rfl
  have hlt : (takeS zs p).2.2 = 0 → (takeS zs p).1 < 18446744073709551616 := fun e => (takeS_ok hz e).2.2.2.2.1
  have HOK := Lib.hid (fun (q : Nat) (e : (takeS zs q).2.2 = 0) => takeS_ok (p := (q : Int)) hz e)
  have HFA : Hid (risR zs p = none → ∀ V, Below w.heap.size w V → SaysR w zs p (.returned (.tuple #[.slice none 0 0, .int .i64 (-1)])) V) := fun h V hV => ⟨.inr ⟨h, rfl⟩, hV⟩
  have HYE : Hid (∀ (l : List Int) (q : Nat) (b : Option Addr) (d : Nat) V, risR zs p = some (l, q) → OwnZ V w.heap.size (.slice b l.length d) l → Below w.heap.size w V → SaysR w zs p (.returned (.tuple #[.slice b l.length d, .int .i64 (q : Nat)])) V) := fun l q b d V h1 h2 hV => ⟨.inl ⟨l, q, b, d, h1, rfl, h2⟩, hV⟩
  clear h
  generalize risR zs p = R at *
  generalize hT0 : takeS zs p = T at *
  clear hT0
  obtain ⟨cnt, to0, er⟩ := T
  go_enter Tryz.func28, Tryz.ntmps28
  go_wp2_with fail
  refine HT0.out.mono ?_
  rintro e w1 ⟨rfl, rfl⟩
  have hcv : IntKind.u64.wrap (n : Int) = (n : Int) := by
    have := HL.out
    rw [IntKind.wrap_u64]; omega
  by_cases he : er = 0
  · subst he
    have e1 : (((0 : Nat) : Int) != 0) = false := by simp
    have hcl := hlt rfl
    by_cases hc : n < cnt
    · have e2 : decide ((n : Int) < (cnt : Int)) = true := by rw [decide_eq_true_eq]; omega
      have HF := Lib.hid (HFA.out (by rw [HRI.out, if_pos (.inr (by rw [HL.out]; exact hc))]) w (Below.refl _ _))
      clear HRI hlt HFA
      go_wp2_with fail
      exact bodyPost_ret (v := .tuple #[.slice none 0 0, .int .i64 (-1)]) (by simp [results, Tryz.results28, go_sem]) rfl HF.out
    · have e2 : decide ((n : Int) < (cnt : Int)) = false := by rw [decide_eq_false_iff_not]; omega
      have HRG : Hid (R = gapsR zs cnt to0 (-1)) := by unfold Hid; rw [HRI.out, if_neg (by rw [HL.out]; simp; omega)]
      have hwc : IntKind.i64.wrap (cnt : Int) = (cnt : Int) := by rw [IntKind.wrap_i64]; omega
      have hcn : cnt ≤ 40000 := by omega
      clear HRI hlt e2 hcl
      go_wp2_with fail
      go_loopg [7, 9, 10, 11] cnt (fun gg v7 v9 v10 v11 wr => ∃ (i tq : Nat) (last : Int) (o : List Int), i + gg = cnt ∧ v11 = .int .i64 i ∧ v7 = .int .i64 tq ∧ v10 = .int .i64 last ∧ Hid (R = (gapsR zs (cnt - i) tq last).map fun r => (o ++ r.1, r.2)) ∧ Hid (OwnZ wr w.heap.size v9 o) ∧ Hid (o.length = i) ∧ (-1 ≤ last ∧ last ≤ (i : Int) * 2147483648) ∧ Hid (Below w.heap.size w wr))
      case atStart => exact ⟨0, to0, -1, [], by omega, rfl, rfl, rfl, (by rw [HRG.out]; cases gapsR zs cnt to0 (-1) <;> rfl), World.ownsRow_nil _ _ _ _, rfl, by omega, Below.refl _ _⟩
      case round =>
        obtain ⟨i, tq, last, o, hig, rfl, rfl, rfl, HG, HO, HLO, hla, HB⟩ := hrel
        by_cases hi : i < cnt
        · have hii : (i : Int) < (cnt : Int) := by omega
          have d1 : decide ((i : Int) < (cnt : Int)) = true := by rw [decide_eq_true_eq]; exact hii
          have HTK := Lib.hid (HT.out wr HB.out tq)
          have hg := HG.out
          rw [show cnt - i = (cnt - (i + 1)) + 1 by omega] at hg
          have HGN := Lib.hid (gaps_next hg)
          have HGS := Lib.hid (gaps_stop hg)
          have hxb := fun e => (HOK.out tq e).2.2.2.2.1
          clear hg
          generalize takeS zs (tq : Int) = T2 at *
          obtain ⟨x, nx, er2⟩ := T2
          go_wp2_with fail
          refine HTK.out.mono ?_
          rintro e w2 ⟨rfl, rfl⟩
          by_cases he2 : er2 = 0
          · subst he2
            have hx64 := hxb rfl
            by_cases hx : 2147483647 < x
            · have e2 : decide ((2147483647 : Int) < (x : Int)) = true := by rw [decide_eq_true_eq]; omega
              have HF := Lib.hid (HFA.out (HGS.out (.inr hx)) wr HB.out)
              clear HGN HGS HFA HTK
              go_wp2_with fail
              exact bodyPost_ret (v := .tuple #[.slice none 0 0, .int .i64 (-1)]) (by simp [results, Tryz.results28, go_sem]) rfl HF.out
            · have e2 : decide ((2147483647 : Int) < (x : Int)) = false := by rw [decide_eq_false_iff_not]; omega
              have HGX := Lib.hid (HGN.out (by simp; omega))
              have hmul : (i : Int) * 2147483648 ≤ 40000 * 2147483648 := Int.mul_le_mul_of_nonneg_right (by omega) (by omega)
              have hw1 : IntKind.i64.wrap (last + 1) = last + 1 := by rw [IntKind.wrap_i64]; omega
              have hw2 : IntKind.i64.wrap (x : Int) = (x : Int) := by rw [IntKind.wrap_i64]; omega
              have hw3 : IntKind.i64.wrap (last + 1 + (x : Int)) = last + 1 + (x : Int) := by rw [IntKind.wrap_i64]; omega
              have hla2 : -1 ≤ last + 1 + (x : Int) ∧ last + 1 + (x : Int) ≤ ((i : Int) + 1) * 2147483648 := by omega
              have hbz := HB.out.size
              have HOA := Lib.hid (HO.out.calls ((Below.refl wr.heap.size wr).alloc (Nat.le_refl _) (.cells #[.int .i64 (last + 1 + (x : Int))] 3)))
              have HON : Hid (RowZ .i64 (wr.alloc (.cells #[.int .i64 (last + 1 + (x : Int))] 3)) (wr.heap.size + 1) (some ⟨wr.heap.size, 0, none⟩) 1 1 [last + 1 + (x : Int)]) := ⟨rfl, Nat.le_refl _, by simp [maxLen], fun _ => ⟨_, 0, rfl, Nat.lt_succ_self _, fun j hj => by
                obtain rfl : j = 0 := by omega
                simp⟩⟩
              have HBA := Lib.hid (HB.out.alloc hbz (.cells #[.int .i64 (last + 1 + (x : Int))] 3))
              have HBZ := Lib.hid hbz
              clear HGN HGS HTK hxb hbz hmul
              go_wp2_with (at_builtin; refine wpList_append_z rfl (.tmp 55) (.tmp 57) rfl rfl HOA.out rfl HON.out (by have := HLO.out; omega) (by have := HBZ.out; simp; omega) ?_; intro v3 w3 hown3 hbel3; have HO3 := Lib.hid hown3; have HB3 := Lib.hid (HBA.out.trans hbel3); clear hown3 hbel3)
              go_roundg (gk - 1)
              case rel => exact ⟨i + 1, nx, last + 1 + (x : Int), o ++ [last + 1 + (x : Int)], by omega, by first | rfl | go_num, rfl, rfl, HGX.out, HO3.out, (by rw [List.length_append, HLO.out]; rfl), (by rw [Int.natCast_add]; exact hla2), HB3.out⟩
              case measure => omega
          · have e1 : ((er2 : Int) != 0) = true := by rw [bne_iff_ne]; omega
            have HF := Lib.hid (HFA.out (HGS.out (.inl he2)) wr HB.out)
            clear HGN HGS HFA HTK he2
            go_wp2_with fail
            exact bodyPost_ret (v := .tuple #[.slice none 0 0, .int .i64 (-1)]) (by simp [results, Tryz.results28, go_sem]) rfl HF.out
        · obtain rfl : i = cnt := by omega
          have d1 : decide ((i : Int) < (i : Int)) = false := by simp
          have hg := HG.out
          rw [Nat.sub_self, gapsR] at hg
          simp only [Option.map_some, List.append_nil] at hg
          obtain ⟨b, d, rfl, _⟩ := HO.out.row
          have HF := Lib.hid (HYE.out o tq b d wr hg HO.out HB.out)
          clear hg HG
          go_wp2_with fail
          exact bodyPost_ret (v := .tuple #[_, .int .i64 (tq : Nat)]) (by simp [results, Tryz.results28, go_sem]) rfl HF.out
  · have e1 : ((er : Int) != 0) = true := by rw [bne_iff_ne]; omega
    have HF := Lib.hid (HFA.out (by rw [HRI.out, if_pos (.inl he)]) w (Below.refl _ _))
    clear HRI hlt HFA he
    go_wp2_with fail
    exact bodyPost_ret (v := .tuple #[.slice none 0 0, .int .i64 (-1)]) (by simp [results, Tryz.results28, go_sem]) rfl HF.out
end Go.Proofs.YtplnaaokapilpaaGreatDoor.Vm

namespace Go.Proofs.YtplnaaokapilpaaGreatDoor.Vm
open Go Go.RowKit
set_option maxRecDepth 100000

theorem bodyOf_sub (r : List Nat) : (bodyOf r).length ≤ r.length ∧ ∀ x ∈ bodyOf r, x ∈ r := by
  unfold bodyOf
  refine ⟨by rw [List.length_take, List.length_drop]; omega, fun x hx => List.mem_of_mem_drop (List.mem_of_mem_take hx)⟩
/-- What is scanned is part of the bytes. -/
theorem scan_sub : ∀ (n : Nat) (r : List Nat), r.length ≤ n → ∀ z ∈ (scanS r).1, z.length ≤ r.length ∧ ∀ x ∈ z, x ∈ r
  | 0, r, h, z, hz => by
    obtain rfl : r = [] := List.eq_nil_of_length_eq_zero (by omega)
    rw [scanS_nil] at hz
    simp at hz
  | n + 1, r, h, z, hz => by
    by_cases h0 : r = []
    · rw [h0, scanS_nil] at hz
      simp at hz
    · by_cases hw : Whole r
      · rw [scanS_ok hw] at hz
        rcases List.mem_cons.1 hz with rfl | hz
        · exact bodyOf_sub r
        · have hd : (r.drop (sizeF r)).length + 4 ≤ r.length := by
            have := hw.2.2.1
            simp only [List.length_drop]
            unfold sizeF at *
            omega
          have ih := scan_sub n (r.drop (sizeF r)) (by omega) z hz
          exact ⟨by omega, fun x hx => List.mem_of_mem_drop (ih.2 x hx)⟩
      · rw [scanS_no h0 hw] at hz
        simp at hz
theorem scan_one {zs : List Nat} {a s : List Int} (h : encM a s = zs) (hl : zs.length ≤ 1000000) : (scanS zs).1 = [bodyM a s] := by
  have hb : (bodyM a s).length ≤ 1000000 := by
    rw [← h] at hl
    unfold encM fr at hl
    simp only [List.length_append] at hl
    omega
  have h1 := fr_whole (l := bodyM a s) [] hb
  rw [List.append_nil, scanS_nil] at h1
  rw [← h]
  unfold encM
  rw [h1]
theorem encM_lens {zs : List Nat} {a s : List Int} (h : encM a s = zs) : a.length ≤ zs.length ∧ s.length ≤ zs.length := by
  have h1 := encG_len a (-1)
  have h2 := encG_len s (-1)
  rw [← h]
  unfold encM fr bodyM encL
  simp only [List.length_append]
  omega
/-- A manifest of bytes, and its numbers as they lie. -/
def SaysRM (w : World) (zs : List Nat) (e : Ending) (w' : World) : Prop :=
  (∃ a n c a' n' c' er, e = .returned (.tuple #[.agg #[.slice a n c, .slice a' n' c'], .int .i64 er]) ∧
    ((er = 0 ∧ ∃ l l', CanM l l' ∧ encM l l' = zs ∧ RowZ .i64 w' w'.heap.size a n c l ∧ RowZ .i64 w' w'.heap.size a' n' c' l') ∨ (er = 3 ∧ RowZ .i64 w' w'.heap.size a n c [] ∧ RowZ .i64 w' w'.heap.size a' n' c' [] ∧ ¬ ∃ l l', CanM l l' ∧ encM l l' = zs))) ∧ Below w.heap.size w w'
theorem rowZ_none (w : World) (B : Nat) : RowZ .i64 w B none 0 0 [] := ⟨rfl, Nat.le_refl _, by simp [maxLen], fun h => absurd h (by omega)⟩
/-- A manifest in a block. -/
def ManB (w : World) (b : Nat) (t : TypeId) (a : Option Addr) (n c : Nat) (a' : Option Addr) (n' c' : Nat) : Prop := w.heap[b]? = some (.cells #[.slice a n c, .slice a' n' c'] t (0, 0))
section
variable {w w' : World} {b n c n' c' : Nat} {a a' : Option Addr} {t : TypeId}
theorem ManB.cells (h : ManB w b t a n c a' n' c') : w.cell? ⟨b, 0, none⟩ = some (.slice a n c) ∧ w.cell? ⟨b, 1, none⟩ = some (.slice a' n' c') ∧ w.frozen? ⟨b, 0, none⟩ = false ∧ w.frozen? ⟨b, 1, none⟩ = false := by
  have key : ∀ i (u : Value), (#[.slice a n c, .slice a' n' c'] : Array Value)[i]? = some u → w.cell? ⟨b, i, none⟩ = some u := fun i u hu => by
    unfold World.cell?
    rw [show w.heap[b]? = _ from h]
    exact hu
  exact ⟨key 0 _ rfl, key 1 _ rfl, by simp [World.frozen?, show w.heap[b]? = _ from h], by simp [World.frozen?, show w.heap[b]? = _ from h]⟩
theorem ManB.new (w : World) : ManB (w.alloc (.cells #[.slice a n c, .slice a' n' c'] t)) w.heap.size t a n c a' n' c' := heap_alloc_new w _
theorem ManB.below {B : Nat} (h : ManB w b t a n c a' n' c') (hb : Below B w w') (hB : b < B) : ManB w' b t a n c a' n' c' := by
  unfold ManB at h ⊢
  rw [hb.block b hB]
  exact h
theorem below_man {A : World} {B : Nat} (h : Below B A w) (hb : B ≤ b) (u v : Value) : Below B A ((w.setCell ⟨b, 0, none⟩ u).setCell ⟨b, 1, none⟩ v) := by
  have key : ∀ (V : World) (i : Nat) (x : Value), Below B V (V.setCell ⟨b, i, none⟩ x) := fun V i x => ⟨rfl, rfl, rfl, by simp [World.setCell], fun k hk => Below.heap_setCell _ _ _ _ (by simp; omega)⟩
  exact (h.trans (key _ _ _)).trans (key _ _ _)
end

theorem OwnZ.set13 {w : World} {B b i : Nat} {v u : Value} {l : List Int} (h : OwnZ w B v l) (hb : b < B) : OwnZ (w.setCell ⟨b, i, none⟩ u) B v l := by
  refine ⟨h.1, ?_⟩
  rcases h.2 with h2 | ⟨g, cap, cur, rfl, hg, hh, r⟩
  · exact .inl h2
  · exact .inr ⟨g, cap, cur, rfl, hg, (Below.heap_setCell _ _ _ _ (by simp; omega)).trans hh, r⟩
set_option maxHeartbeats 4000000 in
theorem rmread14_any (a : Option Addr) (n c : Nat) (zs : List Nat) (w : World) (h : Row .u8 w w.heap.size a n c zs) (hz : ∀ x ∈ zs, x < 256) (hn : n ≤ 40000) :
    Calls Tryz.prog 9 #[.slice a n c] w (SaysRM w zs) := by
  obtain ⟨w1, hw1⟩ : ∃ w1, w1 = w.alloc (.cells #[.slice none 0 0, .slice none 0 0] 34) := ⟨_, rfl⟩
  have hb1 : Below w.heap.size w w1 := by rw [hw1]; exact (Below.refl _ _).alloc (Nat.le_refl _) _
  have hm1 : ManB w1 w.heap.size 34 none 0 0 none 0 0 := by rw [hw1]; exact ManB.new w
  have hs1 : w1.heap.size = w.heap.size + 1 := by rw [hw1]; simp
  have hzl := h.1
  have HS := Lib.hid (rscan_any a n c zs w1 ((h.below hb1).mono hb1.size) hz (by omega))
  have HB1 := Lib.hid hb1
  have HM := Lib.hid (fun V (hV : Below w1.heap.size w1 V) => (hm1.below hV (by omega)).cells)
  have HZ := Lib.hid (fun V (hV : Below w.heap.size w V) => (h.below hV).mono hV.size)
  have HLZ : Hid (zs.length ≤ 40000) := by unfold Hid; omega
  have HSUB := Lib.hid (fun z hz' => scan_sub zs.length zs (Nat.le_refl _) z hz')
  have HONE : Hid (∀ l l', CanM l l' → encM l l' = zs → (scanS zs).1 = [bodyM l l'] ∧ risR (bodyM l l') 0 = some (l, (encL l).length) ∧ risR (bodyM l l') (encL l).length = some (l', (encL l).length + (encL l').length)) := fun l l' hc he => by
    have hls := encM_lens he
    refine ⟨scan_one he (by omega), ?_, ?_⟩
    · have := risR_enc (zs := bodyM l l') (r := encL l') (p := 0) (by rw [List.drop_zero]; rfl) (Nat.zero_le _) hc.segs (by omega)
      rwa [Nat.zero_add] at this
    · exact risR_enc (zs := bodyM l l') (r := []) (by rw [List.append_nil]; unfold bodyM; rw [List.drop_left]) (by unfold bodyM; rw [List.length_append]; omega) hc.snaps (by omega)
  have HFAIL : Hid ((¬ ∃ l l', CanM l l' ∧ encM l l' = zs) → ∀ V, Below w.heap.size w V → SaysRM w zs (.returned (.tuple #[.agg #[.slice none 0 0, .slice none 0 0], .int .i64 3])) V) := fun hno V hV => ⟨⟨none, 0, 0, none, 0, 0, 3, rfl, .inr ⟨rfl, rowZ_none _ _, rowZ_none _ _, hno⟩⟩, hV⟩
  have HW1 := Lib.hid hw1
  have HS1 := Lib.hid hs1
  clear h hw1 hb1 hm1 hs1 hzl
  go_enter Tryz.func9, Tryz.ntmps9
  go_upto_region 1 with fail
  rw [← HW1.out]
  go_wp2_with fail
  refine HS.out.mono ?_
  rintro e w2 ⟨v2, rfl, ho2, hb2⟩
  obtain ⟨a2, c2, rfl, hr2⟩ := ho2.rows
  have HC2 := Lib.hid hb2
  have HB2 := Lib.hid (HB1.out.trans (hb2.mono HB1.out.size))
  have HR2 := Lib.hid hr2
  have hcc := hr2.2.1
  have hcm := hr2.2.2.1
  unfold maxLen at hcm
  generalize hL : (scanS zs).1 = L at *
  generalize (scanS zs).2.1 = sp at *
  generalize (scanS zs).2.2 = ss at *
  clear ho2 hb2 hr2 HS hL
  by_cases h1 : L.length = 1
  · obtain ⟨z, rfl⟩ : ∃ z, L = [z] := by
      match L, h1 with
      | [z], _ => exact ⟨z, rfl⟩
    have hzz := HSUB.out z (by simp)
    obtain ⟨b, off, rfl, hlb, hcs⟩ := HR2.out.cells (by simp)
    obtain ⟨az, cz, hcell, hrow⟩ := hcs 0 (by simp)
    have e0 : ([z].getD 0 []) = z := rfl
    rw [e0] at hcell hrow
    rw [Nat.add_zero] at hcell
    have hz256 : ∀ x ∈ z, x < 256 := fun x hx => hz x (hzz.2 x hx)
    have hzn : z.length ≤ 40000 := Nat.le_trans hzz.1 HLZ.out
    have HR1 := Lib.hid (rrising14_any az z.length cz z 0 w2 hrow hz256 hzn)
    have HRX := Lib.hid (fun V (hV : Below w2.heap.size w2 V) (q : Nat) => rrising14_any az z.length cz z q V ((hrow.below hV).mono hV.size) hz256 hzn)
    have HZN := Lib.hid hzn
    have HLB := Lib.hid hlb
    have HCE := Lib.hid hcell
    clear hcs hzz hz256 hrow hzn h1 e0
    go_wp2_with fail
    refine HR1.out.mono ?_
    rintro e w3 ⟨hs3, hb3⟩
    have HC3 := Lib.hid (HC2.out.trans (hb3.mono HC2.out.size))
    have HB3 := Lib.hid (HB2.out.trans (hb3.mono HB2.out.size))
    have hcell3 := (hb3.cell (p := ⟨b, off, none⟩) HLB.out).trans HCE.out
    have HD3 := Lib.hid hb3
    clear hb3 HR1
    rcases hs3 with ⟨segs, q, a3, c3, he3, rfl, ho3⟩ | ⟨he3, rfl⟩
    · have HE3 := Lib.hid he3
      have HO3 := Lib.hid ho3
      have HR4 := Lib.hid (HRX.out w3 HD3.out q)
      have hql : decide ((q : Int) < 0) = false := by rw [decide_eq_false_iff_not]; omega
      have hql2 : ¬ (q : Int) < 0 := by omega
      clear he3 ho3
      go_wp2_with fail
      refine HR4.out.mono ?_
      rintro e w4 ⟨hs4, hb4⟩
      have HC4 := Lib.hid (HC3.out.trans (hb4.mono HC3.out.size))
      have HB4 := Lib.hid (HB3.out.trans (hb4.mono HB3.out.size))
      have HSG4 : Hid (OwnZ w4 w2.heap.size (.slice a3 segs.length c3) segs) := HO3.out.calls hb4
      have HSL : Hid (segs.length ≤ 40000) := Nat.le_trans (risR_len HE3.out) HZN.out
      clear hb4 HR4
      rcases hs4 with ⟨snaps, q2, a4, c4, he4, rfl, ho4⟩ | ⟨he4, rfl⟩
      · have HUNI : Hid (∀ l l', CanM l l' → encM l l' = zs → l = segs ∧ l' = snaps) := fun l l' hc he => by
          obtain ⟨g1, g2, g3⟩ := HONE.out l l' hc he
          injection g1 with g1
          rw [← g1, HE3.out] at g2
          injection g2 with g2
          injection g2 with g4 g5
          rw [← g1, ← g5, he4] at g3
          injection g3 with g3
          injection g3 with g6 _
          exact ⟨g4.symm, g6.symm⟩
        have HE4 := Lib.hid he4
        have HSN4 := Lib.hid ho4
        have HSM : Hid (snaps.length ≤ 40000) := Nat.le_trans (risR_len he4) HZN.out
        clear he4 ho4
        obtain ⟨w5, hw5⟩ : ∃ w5, w5 = w4.alloc (.cells #[.slice a3 segs.length c3, .slice a4 snaps.length c4] 34) := ⟨_, rfl⟩
        have hm5 : ManB w5 w4.heap.size 34 a3 segs.length c3 a4 snaps.length c4 := by rw [hw5]; exact ManB.new w4
        have hb5 : Below w4.heap.size w4 w5 := by rw [hw5]; exact (Below.refl _ _).alloc (Nat.le_refl _) _
        have hs5 : w4.heap.size < w5.heap.size := by rw [hw5]; simp
        have HC5 := Lib.hid (HC4.out.trans (hb5.mono HC4.out.size))
        have HB5 := Lib.hid (HB4.out.trans (hb5.mono HB4.out.size))
        have HSG5 := Lib.hid (HSG4.out.calls hb5)
        have HSN5 := Lib.hid (HSN4.out.calls hb5)
        obtain ⟨m0, m1, _, _⟩ := hm5.cells
        have HM5 := Lib.hid (fun V (hV : Below w5.heap.size w5 V) => (hm5.below hV hs5).cells)
        have HPU := Lib.hid (rmput14_any a3 segs.length c3 segs a4 snaps.length c4 snaps w5 (HSG5.out.rowAt rfl) (HSN5.out.rowAt rfl) HSL.out HSM.out)
        have HW5 := Lib.hid hw5
        have hql3 : decide ((q2 : Int) < 0) = false := by rw [decide_eq_false_iff_not]; omega
        clear hw5 hm5 hb5 hs5
        have hsl := HSL.out
        have hsm := HSM.out
        have HLN : Hid (segs.length ≤ 9223372036854775807 ∧ snaps.length ≤ 9223372036854775807) := ⟨by omega, by omega⟩
        clear hsl hsm
        go_upto_region 9 with fail
        rw [← HW5.out]
        go_wp2_with fail
        refine HPU.out.mono ?_
        rintro e w6 ⟨hs6, hb6⟩
        have HC6 := Lib.hid (HC5.out.trans (hb6.mono HC5.out.size))
        have HB6 := Lib.hid (HB5.out.trans (hb6.mono HB5.out.size))
        have HD6 := Lib.hid hb6
        clear hb6 HPU
        rcases hs6 with ⟨hcan, v6, rfl, ho6⟩ | ⟨hcan, rfl⟩
        · obtain ⟨a6, c6, rfl, hr6⟩ := ho6.slice
          have HCAN := Lib.hid hcan
          have HSA := Lib.hid (same_any a a6 n c (encM segs snaps).length c6 w6.heap.size zs (encM segs snaps) w6 (HZ.out w6 HB6.out) hr6)
          clear ho6 hr6 hcan
          generalize (encM segs snaps).length = E at *
          go_wp2_with fail
          refine HSA.out.mono ?_
          rintro e w7 ⟨rfl, m7, hw7⟩
          have hb7 : Below w6.heap.size w6 w7 := by rw [hw7]; exact below_drewN (Below.refl _ _) _
          have HC7 := Lib.hid (HC6.out.trans (hb7.mono HC6.out.size))
          have HB7 := Lib.hid (HB6.out.trans (hb7.mono HB6.out.size))
          have HD7 := Lib.hid (HD6.out.trans (hb7.mono HD6.out.size))
          clear hw7 hb7 HSA
          by_cases hse : zs = encM segs snaps
          · have e7 : sameB zs (encM segs snaps) = true := by unfold sameB; exact decide_eq_true hse
            rw [e7]
            obtain ⟨q0, q1, f0, f1⟩ := HM.out w7 HC7.out
            obtain ⟨k0, k1, _, _⟩ := HM5.out w7 HD7.out
            have hbm := below_man HB7.out (Nat.le_refl w.heap.size) (.slice a3 segs.length c3) (.slice a4 snaps.length c4)
            have HF : Hid (SaysRM w zs (.returned (.tuple #[.agg #[.slice a3 segs.length c3, .slice a4 snaps.length c4], .int .i64 0])) ((w7.setCell ⟨w.heap.size, 0, none⟩ (.slice a3 segs.length c3)).setCell ⟨w.heap.size, 1, none⟩ (.slice a4 snaps.length c4))) := by
              have hsz2 : w.heap.size < w2.heap.size := by have := HC2.out.size; have := HS1.out; omega
              have hsz3 : w.heap.size < w3.heap.size := Nat.lt_of_lt_of_le hsz2 HD3.out.size
              have g1 := ((HSG5.out.calls HD7.out).set13 hsz2 (i := 0) (u := .slice a3 segs.length c3)).set13 hsz2 (i := 1) (u := .slice a4 snaps.length c4)
              have g2 := ((HSN5.out.calls HD7.out).set13 hsz3 (i := 0) (u := .slice a3 segs.length c3)).set13 hsz3 (i := 1) (u := .slice a4 snaps.length c4)
              exact ⟨⟨a3, _, c3, a4, _, c4, 0, rfl, .inl ⟨rfl, segs, snaps, HCAN.out, hse.symm, g1.rowAt rfl, g2.rowAt rfl⟩⟩, hbm⟩
            clear e7 hse hbm HFAIL HONE
            go_wp2_with fail
            exact bodyPost_ret (v := .tuple #[.agg #[.slice a3 segs.length c3, .slice a4 snaps.length c4], .int .i64 0]) (by simp [results, Tryz.results9, go_sem, q0, q1]) rfl HF.out
          · have e7 : sameB zs (encM segs snaps) = false := by unfold sameB; exact decide_eq_false hse
            rw [e7]
            have HNO : Hid (¬ ∃ l l', CanM l l' ∧ encM l l' = zs) := by
              rintro ⟨l, l', hc, he⟩
              obtain ⟨rfl, rfl⟩ := HUNI.out l l' hc he
              exact hse he.symm
            clear e7 hse
            obtain ⟨q0, q1, f0, f1⟩ := HM.out w7 HC7.out
            have HF := Lib.hid (HFAIL.out HNO.out _ (below_man HB7.out (Nat.le_refl _) (.slice none 0 0) (.slice none 0 0)))
            clear HNO HFAIL HONE
            go_wp2_with fail
            exact bodyPost_ret (v := .tuple #[.agg #[.slice none 0 0, .slice none 0 0], .int .i64 3]) (by simp [results, Tryz.results9, go_sem, q0, q1]) rfl HF.out
        · have HNO : Hid (¬ ∃ l l', CanM l l' ∧ encM l l' = zs) := by
            rintro ⟨l, l', hc, he⟩
            obtain ⟨rfl, rfl⟩ := HUNI.out l l' hc he
            exact hcan hc
          clear hcan
          obtain ⟨q0, q1, f0, f1⟩ := HM.out w6 HC6.out
          have HF := Lib.hid (HFAIL.out HNO.out _ (below_man HB6.out (Nat.le_refl _) (.slice none 0 0) (.slice none 0 0)))
          clear HNO HFAIL HONE
          go_wp2_with fail
          exact bodyPost_ret (v := .tuple #[.agg #[.slice none 0 0, .slice none 0 0], .int .i64 3]) (by simp [results, Tryz.results9, go_sem, q0, q1]) rfl HF.out
      · have HNO : Hid (¬ ∃ l l', CanM l l' ∧ encM l l' = zs) := by
          rintro ⟨l, l', hc, he⟩
          obtain ⟨g1, g2, g3⟩ := HONE.out l l' hc he
          injection g1 with g1
          rw [← g1, HE3.out] at g2
          injection g2 with g2
          injection g2 with g4 g5
          rw [← g1, ← g5, he4] at g3
          cases g3
        clear he4
        obtain ⟨w5, hw5⟩ : ∃ w5, w5 = w4.alloc (.cells #[.slice a3 segs.length c3, .slice none 0 0] 34) := ⟨_, rfl⟩
        have hm5 : ManB w5 w4.heap.size 34 a3 segs.length c3 none 0 0 := by rw [hw5]; exact ManB.new w4
        have hb5 : Below w4.heap.size w4 w5 := by rw [hw5]; exact (Below.refl _ _).alloc (Nat.le_refl _) _
        have HC5 := Lib.hid (HC4.out.trans (hb5.mono HC4.out.size))
        have HB5 := Lib.hid (HB4.out.trans (hb5.mono HB4.out.size))
        have HSG5 := Lib.hid (HSG4.out.calls hb5)
        obtain ⟨m0, m1, _, _⟩ := hm5.cells
        have HPU := Lib.hid (rmput14_any a3 segs.length c3 segs none 0 0 [] w5 (HSG5.out.rowAt rfl) (rowZ_none _ _) HSL.out (by omega))
        have HW5 := Lib.hid hw5
        clear hw5 hm5 hb5
        go_upto_region 9 with fail
        rw [← HW5.out]
        go_wp2_with fail
        refine HPU.out.mono ?_
        rintro e w6 ⟨hs6, hb6⟩
        have HC6 := Lib.hid (HC5.out.trans (hb6.mono HC5.out.size))
        have HB6 := Lib.hid (HB5.out.trans (hb6.mono HB5.out.size))
        clear hb6 HPU
        rcases hs6 with ⟨hcan, v6, rfl, ho6⟩ | ⟨hcan, rfl⟩
        · obtain ⟨a6, c6, rfl, hr6⟩ := ho6.slice
          clear ho6 hr6 hcan
          generalize (encM segs []).length = E at *
          obtain ⟨q0, q1, f0, f1⟩ := HM.out w6 HC6.out
          have HF := Lib.hid (HFAIL.out HNO.out _ (below_man HB6.out (Nat.le_refl _) (.slice none 0 0) (.slice none 0 0)))
          clear HNO HFAIL HONE
          go_wp2_with fail
          exact bodyPost_ret (v := .tuple #[.agg #[.slice none 0 0, .slice none 0 0], .int .i64 3]) (by simp [results, Tryz.results9, go_sem, q0, q1]) rfl HF.out
        · clear hcan
          obtain ⟨q0, q1, f0, f1⟩ := HM.out w6 HC6.out
          have HF := Lib.hid (HFAIL.out HNO.out _ (below_man HB6.out (Nat.le_refl _) (.slice none 0 0) (.slice none 0 0)))
          clear HNO HFAIL HONE
          go_wp2_with fail
          exact bodyPost_ret (v := .tuple #[.agg #[.slice none 0 0, .slice none 0 0], .int .i64 3]) (by simp [results, Tryz.results9, go_sem, q0, q1]) rfl HF.out
    · have HNO : Hid (¬ ∃ l l', CanM l l' ∧ encM l l' = zs) := by
        rintro ⟨l, l', hc, he⟩
        obtain ⟨g1, g2, _⟩ := HONE.out l l' hc he
        injection g1 with g1
        rw [g1, g2] at he3
        cases he3
      obtain ⟨q0, q1, f0, f1⟩ := HM.out w3 HC3.out
      have HF := Lib.hid (HFAIL.out HNO.out _ (below_man HB3.out (Nat.le_refl _) (.slice none 0 0) (.slice none 0 0)))
      clear he3 HNO HFAIL HONE
      go_wp2_with fail
      exact bodyPost_ret (v := .tuple #[.agg #[.slice none 0 0, .slice none 0 0], .int .i64 3]) (by simp [results, Tryz.results9, go_sem, q0, q1]) rfl HF.out
  · have e1 : ((L.length : Int) != 1) = true := by rw [bne_iff_ne]; omega
    have HNO : Hid (¬ ∃ l l', CanM l l' ∧ encM l l' = zs) := by
      rintro ⟨l, l', hc, he⟩
      have := (HONE.out l l' hc he).1
      rw [this] at h1
      simp at h1
    obtain ⟨q0, q1, f0, f1⟩ := HM.out w2 HC2.out
    have HF := Lib.hid (HFAIL.out HNO.out _ (below_man HB2.out (Nat.le_refl _) (.slice none 0 0) (.slice none 0 0)))
    clear h1 HNO HFAIL HONE
    go_wp2_with fail
    exact bodyPost_ret (v := .tuple #[.agg #[.slice none 0 0, .slice none 0 0], .int .i64 3]) (by simp [results, Tryz.results9, go_sem, q0, q1]) rfl HF.out
end Go.Proofs.YtplnaaokapilpaaGreatDoor.Vm
