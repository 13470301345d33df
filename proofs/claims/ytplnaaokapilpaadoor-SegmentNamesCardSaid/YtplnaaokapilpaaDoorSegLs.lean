/- The program's lists of a manifest, read: takeList and Read. The program's Read of a manifest. -/
import Derived.Test.YtplnaaokapilpaaDoorSegMath
import Derived.Test.YtplnaaokapilpaaDoorRefScans
import Derived.Test.YtplnaaokapilpaaDoorAppendZ
import Derived.Test.YtplnaaokapilpaaDoorRefTakes
import Derived.Test.YtplnaaokapilpaaDoorRefSegRd
import Derived.Deep.LoopGhost
import Derived.BigRegion
import Derived.Deep.DeepCutAuto
import Derived.Laws.ResultCell
namespace Go.Proofs.YtplnaaokapilpaaDoor.Vm
open Go Go.RowKit
set_option maxRecDepth 100000

/-- So many numbers that rise, up to the greatest tick, taken from a place on, behind a number. -/
def gapsT (zs : List Nat) : Nat → Nat → Int → Option (List Int × Nat)
  | 0, tq, _ => some ([], tq)
  | k + 1, tq, last => if (takeS zs tq).2.2 ≠ 0 ∨ 2147483647 < (takeS zs tq).1 ∨ 2147483647 < last + 1 + ((takeS zs tq).1 : Nat) then none else
    (gapsT zs k (takeS zs tq).2.1 (last + 1 + ((takeS zs tq).1 : Nat))).map fun r => ((last + 1 + ((takeS zs tq).1 : Nat)) :: r.1, r.2)
def listT (zs : List Nat) (p : Nat) : Option (List Int × Nat) := if (takeS zs p).2.2 ≠ 0 then none else gapsT zs (takeS zs p).1 (takeS zs p).2.1 (-1)
theorem gapsT_enc {zs : List Nat} : ∀ (l : List Int) (p : Int) (tq : Nat) (r : List Nat), -1 ≤ p → UpIn p l → zs.drop tq = encG p l ++ r → tq ≤ zs.length → gapsT zs l.length tq p = some (l, tq + (encG p l).length)
  | [], _, tq, _, _, _, _, _ => rfl
  | x :: l, p, tq, r, hp, ⟨a, b, c⟩, h, ht => by
    unfold encG encI at h
    rw [List.append_assoc] at h
    have e := takeS_enc h ht (by omega)
    have h2 := drop_more h
    have ht2 : tq + (enc (x - p - 1).toNat).length ≤ zs.length := by
      have h3 := congrArg List.length h
      rw [List.length_drop, List.length_append] at h3
      omega
    have ih := gapsT_enc l x (tq + (enc (x - p - 1).toNat).length) r (by omega) c h2 ht2
    rw [List.length_cons, gapsT, e]
    rw [if_neg (by simp; omega)]
    have e2 : p + 1 + (((x - p - 1).toNat : Nat) : Int) = x := by omega
    have e3 : (encG p (x :: l)).length = (enc (x - p - 1).toNat).length + (encG x l).length := by
      show (encI (x - p - 1) ++ encG x l).length = _
      rw [List.length_append]
      rfl
    simp only [e2, ih, Option.map_some]
    rw [e3]
    exact congrArg some (Prod.ext rfl (by show _ + _ + _ = _ + (_ + _); omega))
theorem listT_enc {zs r : List Nat} {l : List Int} {p : Nat} (h : zs.drop p = encL l ++ r) (hp : p ≤ zs.length) (hl : UpIn (-1) l) (hn : l.length < 18446744073709551616) : listT zs p = some (l, p + (encL l).length) := by
  unfold encL at h
  rw [List.append_assoc] at h
  have e := takeS_enc h hp hn
  have h2 := drop_more h
  have h3 := congrArg List.length h
  rw [List.length_drop, List.length_append, List.length_append] at h3
  have h5 := gapsT_enc l (-1) _ r (by omega) hl h2 (by omega)
  unfold listT
  rw [e, if_neg (by simp), h5]
  unfold encL
  rw [List.length_append]
  congr 2
  omega
theorem gapsT_is {zs : List Nat} (hz : ∀ x ∈ zs, x < 256) : ∀ (k tq : Nat) (last : Int) (l : List Int) (q : Nat), -1 ≤ last → tq ≤ zs.length → gapsT zs k tq last = some (l, q) → l.length = k ∧ UpIn last l ∧ zs.drop tq = encG last l ++ zs.drop q ∧ q ≤ zs.length
  | 0, tq, last, l, q, _, ht, h => by
    unfold gapsT at h
    injection h with h
    injection h with h1 h2
    subst h1 h2
    exact ⟨rfl, trivial, rfl, ht⟩
  | k + 1, tq, last, l, q, hl, ht, h => by
    unfold gapsT at h
    split at h
    · cases h
    · rename_i h0
      obtain ⟨T, hT⟩ : ∃ T, takeS zs (tq : Int) = T := ⟨_, rfl⟩
      obtain ⟨x, nx, er⟩ := T
      rw [hT] at h h0
      simp only [not_or, Decidable.not_not, Int.not_lt, Nat.not_lt] at h0
      obtain ⟨h1, h2, h3⟩ := h0
      have hy := takeS_yes (p := tq) hz (by rw [hT]; exact h1)
      rw [hT] at hy
      obtain ⟨y1, y2, y3⟩ := hy
      simp only [] at y1 y2 y3
      cases e : gapsT zs k nx (last + 1 + (x : Nat)) with
      | none => rw [e] at h; cases h
      | some R =>
        obtain ⟨l', q'⟩ := R
        rw [e] at h
        injection h with h
        injection h with g1 g2
        subst g1 g2
        obtain ⟨i1, i2, i3, i4⟩ := gapsT_is hz k nx _ l' q' (by omega) y1 e
        refine ⟨by rw [List.length_cons, i1], ⟨by omega, by omega, i2⟩, ?_, i4⟩
        rw [y2, i3, ← List.append_assoc]
        have e3 : encG last ((last + 1 + (x : Nat)) :: l') = encI (last + 1 + (x : Nat) - last - 1) ++ encG (last + 1 + (x : Nat)) l' := rfl
        have e4 : encI (last + 1 + (x : Nat) - last - 1) = enc x := by
          unfold encI
          congr 1
          omega
        rw [e3, e4]
theorem listT_is {zs : List Nat} {p q : Nat} {l : List Int} (hz : ∀ x ∈ zs, x < 256) (hp : p ≤ zs.length) (h : listT zs p = some (l, q)) : UpIn (-1) l ∧ zs.drop p = encL l ++ zs.drop q ∧ q ≤ zs.length := by
  unfold listT at h
  split at h
  · cases h
  · rename_i h0
    have h0 : (takeS zs p).2.2 = 0 := by simpa using h0
    obtain ⟨y1, y2, y3⟩ := takeS_yes (p := p) hz h0
    obtain ⟨i1, i2, i3, i4⟩ := gapsT_is hz _ _ _ _ _ (by omega) y1 h
    refine ⟨i2, ?_, i4⟩
    rw [y2, i3, ← List.append_assoc]
    unfold encL
    rw [i1]
/-- What stands whole at the beginning is its contents' frame. -/
theorem whole_fr {r : List Nat} (hr : ∀ x ∈ r, x < 256) (h : Whole r) : fr (bodyOf r) = r.take (sizeF r) := by
  obtain ⟨h1, h2, h3, h4⟩ := h
  obtain ⟨d1, _, d3, _, _, d6⟩ := dec_ok 9 0 r rfl hr h1
  unfold sizeF at h3 ⊢
  obtain ⟨n, hn⟩ : ∃ n, (dec 0 r).1 = n := ⟨_, rfl⟩
  obtain ⟨k, hk⟩ : ∃ k, (dec 0 r).2.1 = k := ⟨_, rfl⟩
  have hb : bodyOf r = (r.drop k).take n := by unfold bodyOf; rw [hn, hk]
  have hs : sumOf r = (r.drop (k + n)).take 4 := by unfold sumOf; rw [hn, hk]
  rw [hn, hk] at h3 ⊢
  rw [hn, hk] at d6
  have hbl : (bodyOf r).length = n := by rw [hb, List.length_take, List.length_drop]; omega
  have hsl : (sumOf r).length = 4 := by rw [hs, List.length_take, List.length_drop]; omega
  have hsb : ∀ x ∈ sumOf r, x < 256 := fun x hx => by
    rw [hs] at hx
    exact hr x (List.mem_of_mem_drop (List.mem_of_mem_take hx))
  unfold fr
  rw [hbl, h4, four_num hsl hsb, d6, hb, hs, List.take_add, List.take_add]
theorem scan_back1 {zs z : List Nat} {s : Nat} (hz : ∀ x ∈ zs, x < 256) (h : scanS zs = ([z], s, 0)) : zs = fr z := by
  by_cases h0 : zs = []
  · rw [h0, scanS_nil] at h
    simp at h
  · by_cases hw : Whole zs
    · rw [scanS_ok hw] at h
      injection h with h1 h2
      injection h1 with h1 h3
      injection h2 with _ h2
      have hf := whole_fr hz hw
      rw [h1] at hf
      by_cases hd : zs.drop (sizeF zs) = []
      · have := List.take_append_drop (sizeF zs) zs
        rw [hd, List.append_nil] at this
        rw [hf, this]
      · exfalso
        by_cases hw2 : Whole (zs.drop (sizeF zs))
        · rw [scanS_ok hw2] at h3
          cases h3
        · rw [scanS_no hd hw2] at h2
          simp only [] at h2
          unfold restS at h2
          repeat (split at h2 <;> try omega)
    · rw [scanS_no h0 hw] at h
      simp at h

/-- What takeList hands back. -/
def SaysTL (w : World) (zs : List Nat) (p : Nat) (e : Ending) (w' : World) : Prop :=
  ((∃ l q a c, listT zs p = some (l, q) ∧ e = .returned (.tuple #[.slice a l.length c, .int .i64 (q : Nat), .int .i64 0]) ∧ OwnZ w' w.heap.size (.slice a l.length c) l) ∨ (listT zs p = none ∧ ∃ er : Nat, er ≠ 0 ∧ e = .returned (.tuple #[.slice none 0 0, .int .i64 0, .int .i64 er]))) ∧ Below w.heap.size w w'
theorem gapT_next {zs : List Nat} {k tq : Nat} {last : Int} {o : List Int} {R : Option (List Int × Nat)} (h : R = (gapsT zs (k + 1) tq last).map fun r => (o ++ r.1, r.2)) (h1 : ¬ ((takeS zs tq).2.2 ≠ 0 ∨ 2147483647 < (takeS zs tq).1 ∨ 2147483647 < last + 1 + ((takeS zs tq).1 : Nat))) :
    R = (gapsT zs k (takeS zs tq).2.1 (last + 1 + ((takeS zs tq).1 : Nat))).map fun r => ((o ++ [last + 1 + ((takeS zs tq).1 : Nat)]) ++ r.1, r.2) := by
  rw [h, gapsT, if_neg h1, Option.map_map]
  congr 1
  funext r
  simp
theorem gapT_stop {zs : List Nat} {k tq : Nat} {last : Int} {o : List Int} {R : Option (List Int × Nat)} (h : R = (gapsT zs (k + 1) tq last).map fun r => (o ++ r.1, r.2)) (h1 : (takeS zs tq).2.2 ≠ 0 ∨ 2147483647 < (takeS zs tq).1 ∨ 2147483647 < last + 1 + ((takeS zs tq).1 : Nat)) : R = none := by
  rw [h, gapsT, if_pos h1]; rfl
set_option maxHeartbeats 4000000 in
theorem takeList_any (a : Option Addr) (n c : Nat) (zs : List Nat) (p : Nat) (w : World) (h : Row .u8 w w.heap.size a n c zs) (hz : ∀ x ∈ zs, x < 256) (hp : p ≤ n) (hn : n ≤ 900000) :
    Calls Tryd.prog 28 #[.slice a n c, .int .i64 p] w (SaysTL w zs p) := by
  have HL : Hid (zs.length = n) := h.1
  have HT := Lib.hid (fun V (hV : Below w.heap.size w V) (q : Int) => take_any a n c w.heap.size zs q V (h.below hV) hz)
  have HT0 := Lib.hid (take_any a n c w.heap.size zs p w h hz)
  have HRI : Hid (listT zs p = if (takeS zs p).2.2 ≠ 0 then none else gapsT zs (takeS zs p).1 (takeS zs p).2.1 (-1)) := rfl
  have hlt : (takeS zs p).2.2 = 0 → (takeS zs p).1 < 18446744073709551616 ∧ (takeS zs p).2.1 ≤ n := fun e => ⟨(takeS_ok hz e).2.2.2.2.1, by rw [← h.1]; exact (takeS_yes (p := p) hz e).1⟩
  have HOK := Lib.hid (fun (q : Nat) (e : (takeS zs q).2.2 = 0) => takeS_ok (p := (q : Int)) hz e)
  have HFA : Hid (listT zs p = none → ∀ (er : Nat) V, er ≠ 0 → Below w.heap.size w V → SaysTL w zs p (.returned (.tuple #[.slice none 0 0, .int .i64 0, .int .i64 er])) V) := fun h er V he hV => ⟨.inr ⟨h, er, he, rfl⟩, hV⟩
  have HYE : Hid (∀ (l : List Int) (q : Nat) (b : Option Addr) (d : Nat) V, listT zs p = some (l, q) → OwnZ V w.heap.size (.slice b l.length d) l → Below w.heap.size w V → SaysTL w zs p (.returned (.tuple #[.slice b l.length d, .int .i64 (q : Nat), .int .i64 0])) V) := fun l q b d V h1 h2 hV => ⟨.inl ⟨l, q, b, d, h1, rfl, h2⟩, hV⟩
  clear h
  generalize listT zs p = R at *
  generalize hT0 : takeS zs p = T at *
  clear hT0
  obtain ⟨cnt, to0, er⟩ := T
  go_enter Tryd.func28, Tryd.ntmps28
  go_wp2_with fail
  refine HT0.out.mono ?_
  rintro e w1 ⟨rfl, rfl⟩
  by_cases he : er = 0
  · subst he
    have e1 : (((0 : Nat) : Int) != 0) = false := by simp
    obtain ⟨hcl, hto⟩ := hlt rfl
    have HRG : Hid (R = gapsT zs cnt to0 (-1)) := by unfold Hid; rw [HRI.out, if_neg (by simp)]
    have hcl' : cnt < 18446744073709551616 := hcl
    have HTO : Hid (to0 ≤ n) := hto
    clear HRI hlt hcl hto
    go_wp2_with fail
    go_loopg [1, 9, 10, 25] cnt (fun gg v1 v9 v10 v25 wr => ∃ (i tq : Nat) (last : Int) (o : List Int), i + gg = cnt ∧ v25 = .int .u64 i ∧ v1 = .int .i64 tq ∧ v10 = .int .u64 (last + 1) ∧ Hid (R = (gapsT zs (cnt - i) tq last).map fun r => (o ++ r.1, r.2)) ∧ Hid (OwnZ wr w.heap.size v9 o) ∧ Hid (o.length = i) ∧ Hid (i + to0 ≤ tq ∧ tq ≤ n) ∧ (-1 ≤ last ∧ last ≤ 2147483647) ∧ Hid (Below w.heap.size w wr))
    case atStart => exact ⟨0, to0, -1, [], by omega, rfl, rfl, rfl, (by rw [HRG.out]; cases gapsT zs cnt to0 (-1) <;> rfl), World.ownsRow_nil _ _ _ _, rfl, ⟨by omega, HTO.out⟩, by omega, Below.refl _ _⟩
    case round =>
      obtain ⟨i, tq, last, o, hig, rfl, rfl, rfl, HG, HO, HLO, HTQ, hla, HB⟩ := hrel
      by_cases hi : i < cnt
      · have hii : (i : Int) < (cnt : Int) := by omega
        have d1 : decide ((i : Int) < (cnt : Int)) = true := by rw [decide_eq_true_eq]; exact hii
        have HTK := Lib.hid (HT.out wr HB.out tq)
        have hg := HG.out
        rw [show cnt - i = (cnt - (i + 1)) + 1 by omega] at hg
        have HGN := Lib.hid (gapT_next hg)
        have HGS := Lib.hid (gapT_stop hg)
        have hxb := fun e => (HOK.out tq e)
        clear hg
        generalize takeS zs (tq : Int) = T2 at *
        obtain ⟨x, nx, er2⟩ := T2
        go_wp2_with fail
        refine HTK.out.mono ?_
        rintro e w2 ⟨rfl, rfl⟩
        by_cases he2 : er2 = 0
        · subst he2
          have e2 : (((0 : Nat) : Int) != 0) = false := by simp
          obtain ⟨_, hx1, _, hx2, hx64, _⟩ := hxb rfl
          have HNX : Hid (tq < nx ∧ nx ≤ n) := ⟨by rw [Int.toNat_natCast] at hx1; exact hx1, by rw [← HL.out]; exact hx2⟩
          have hx64' : x < 18446744073709551616 := hx64
          clear hxb hx1 hx2 hx64
          by_cases hx : 2147483647 < x
          · have e3 : decide ((2147483647 : Int) < (x : Int)) = true := by rw [decide_eq_true_eq]; omega
            have hxi : (2147483647 : Int) < (x : Int) := by omega
            have HF := Lib.hid (HFA.out (HGS.out (.inr (.inl hx))) 3 wr (by omega) HB.out)
            clear HGN HGS HFA HTK
            go_wp2_with fail
            exact bodyPost_ret (v := .tuple #[.slice none 0 0, .int .i64 0, .int .i64 3]) (by simp [results, Tryd.results28, go_sem]) rfl HF.out
          · have e3 : decide ((2147483647 : Int) < (x : Int)) = false := by rw [decide_eq_false_iff_not]; omega
            have hxi : ¬ (2147483647 : Int) < (x : Int) := by omega
            have hw1 : IntKind.u64.wrap (last + 1 + (x : Int)) = last + 1 + (x : Int) := by rw [IntKind.wrap_u64]; omega
            by_cases hy : 2147483647 < last + 1 + (x : Int)
            · have e4 : decide ((2147483647 : Int) < last + 1 + (x : Int)) = true := by rw [decide_eq_true_eq]; exact hy
              have HF := Lib.hid (HFA.out (HGS.out (.inr (.inr hy))) 3 wr (by omega) HB.out)
              clear HGN HGS HFA HTK
              go_wp2_with fail
              exact bodyPost_ret (v := .tuple #[.slice none 0 0, .int .i64 0, .int .i64 3]) (by simp [results, Tryd.results28, go_sem]) rfl HF.out
            · have e4 : decide ((2147483647 : Int) < last + 1 + (x : Int)) = false := by rw [decide_eq_false_iff_not]; exact hy
              have HGX := Lib.hid (HGN.out (by simp; omega))
              have hw2 : IntKind.i64.wrap (last + 1 + (x : Int)) = last + 1 + (x : Int) := by rw [IntKind.wrap_i64]; omega
              have hw3 : IntKind.u64.wrap ((x : Int) + 1) = (x : Int) + 1 := by rw [IntKind.wrap_u64]; omega
              have hw4 : IntKind.u64.wrap (last + 1 + ((x : Int) + 1)) = last + 1 + (x : Int) + 1 := by rw [IntKind.wrap_u64]; omega
              have hw5 : IntKind.u64.wrap ((i : Int) + 1) = (i : Int) + 1 := by rw [IntKind.wrap_u64]; omega
              have hla2 : -1 ≤ last + 1 + (x : Int) ∧ last + 1 + (x : Int) ≤ 2147483647 := by omega
              have hbz := HB.out.size
              have HOA := Lib.hid (HO.out.calls ((Below.refl wr.heap.size wr).alloc (Nat.le_refl _) (.cells #[.int .i64 (last + 1 + (x : Int))] 3)))
              have HON : Hid (RowZ .i64 (wr.alloc (.cells #[.int .i64 (last + 1 + (x : Int))] 3)) (wr.heap.size + 1) (some ⟨wr.heap.size, 0, none⟩) 1 1 [last + 1 + (x : Int)]) := ⟨rfl, Nat.le_refl _, by simp [maxLen], fun _ => ⟨_, 0, rfl, Nat.lt_succ_self _, fun j hj => by
                obtain rfl : j = 0 := by omega
                simp⟩⟩
              have HBA := Lib.hid (HB.out.alloc hbz (.cells #[.int .i64 (last + 1 + (x : Int))] 3))
              have HBZ := Lib.hid hbz
              have HTQ2 : Hid ((i + 1) + to0 ≤ nx ∧ nx ≤ n) := by
                have h1 := HTQ.out
                have h2 := HNX.out
                exact ⟨by omega, h2.2⟩
              have HLE : Hid (o.length ≤ 900000) := by
                have h1 := HTQ.out
                have h2 := HLO.out
                unfold Hid
                omega
              clear HGN HGS HTK hbz hy hx
              go_wp2_with (at_builtin; refine wpList_append_z rfl (.tmp 45) (.tmp 50) rfl rfl HOA.out rfl HON.out (by have := HLE.out; omega) (by have := HBZ.out; simp; omega) ?_; intro v3 w3 hown3 hbel3; have HO3 := Lib.hid hown3; have HB3 := Lib.hid (HBA.out.trans hbel3); clear hown3 hbel3)
              go_roundg (gk - 1)
              case rel => exact ⟨i + 1, nx, last + 1 + (x : Int), o ++ [last + 1 + (x : Int)], by omega, by first | rfl | go_num, rfl, by first | rfl | go_num, HGX.out, HO3.out, (by rw [List.length_append, HLO.out]; rfl), HTQ2.out, hla2, HB3.out⟩
              case measure => omega
        · have e2 : ((er2 : Int) != 0) = true := by rw [bne_iff_ne]; omega
          have HF := Lib.hid (HFA.out (HGS.out (.inl he2)) er2 wr he2 HB.out)
          clear HGN HGS HFA HTK he2 hxb
          go_wp2_with fail
          exact bodyPost_ret (v := .tuple #[.slice none 0 0, .int .i64 0, .int .i64 (er2 : Nat)]) (by simp [results, Tryd.results28, go_sem]) rfl HF.out
      · obtain rfl : i = cnt := by omega
        have d1 : decide ((i : Int) < (i : Int)) = false := by simp
        have hg := HG.out
        rw [Nat.sub_self, gapsT] at hg
        simp only [Option.map_some, List.append_nil] at hg
        obtain ⟨b, d, rfl, _⟩ := HO.out.row
        have HF := Lib.hid (HYE.out o tq b d wr hg HO.out HB.out)
        clear hg HG
        go_wp2_with fail
        exact bodyPost_ret (v := .tuple #[_, .int .i64 (tq : Nat), .int .i64 0]) (by simp [results, Tryd.results28, go_sem]) rfl HF.out
  · have e1 : ((er : Int) != 0) = true := by rw [bne_iff_ne]; omega
    have HF := Lib.hid (HFA.out (by rw [HRI.out, if_pos he]) er w he (Below.refl _ _))
    clear HRI hlt HFA he
    go_wp2_with fail
    exact bodyPost_ret (v := .tuple #[.slice none 0 0, .int .i64 0, .int .i64 (er : Nat)]) (by simp [results, Tryd.results28, go_sem]) rfl HF.out
end Go.Proofs.YtplnaaokapilpaaDoor.Vm

namespace Go.Proofs.YtplnaaokapilpaaDoor.Vm
open Go Go.RowKit
set_option maxRecDepth 100000

theorem scan_one0 {zs : List Nat} {a s : List Int} (h : encM a s = zs) (hl : zs.length ≤ 1000000) : (scanS zs).2.2 = 0 := by
  have hb : (bodyM a s).length ≤ 1000000 := by
    rw [← h] at hl
    unfold encM fr at hl
    simp only [List.length_append] at hl
    omega
  have h1 := fr_whole (l := bodyM a s) [] hb
  rw [List.append_nil, scanS_nil] at h1
  rw [← h]
  unfold encM
  rw [h1]
theorem listT_len {zs : List Nat} {p q : Nat} {l : List Int} (hz : ∀ x ∈ zs, x < 256) (hp : p ≤ zs.length) (h : listT zs p = some (l, q)) : l.length ≤ zs.length := by
  have h1 := (listT_is hz hp h).2.1
  have h2 := congrArg List.length h1
  unfold encL at h2
  simp only [List.length_append, List.length_drop] at h2
  have h3 := encG_len l (-1)
  omega
set_option maxHeartbeats 4000000 in
theorem mread_any (a : Option Addr) (n c : Nat) (zs : List Nat) (w : World) (h : Row .u8 w w.heap.size a n c zs) (hz : ∀ x ∈ zs, x < 256) (hn : n ≤ 900000) :
    Calls Tryd.prog 13 #[.slice a n c] w (SaysRM w zs) := by
  obtain ⟨w1, hw1⟩ : ∃ w1, w1 = w.alloc (.cells #[.slice none 0 0, .slice none 0 0] 32) := ⟨_, rfl⟩
  have hb1 : Below w.heap.size w w1 := by rw [hw1]; exact (Below.refl _ _).alloc (Nat.le_refl _) _
  have hm1 : ManB w1 w.heap.size 32 none 0 0 none 0 0 := by rw [hw1]; exact ManB.new w
  have hs1 : w1.heap.size = w.heap.size + 1 := by rw [hw1]; simp
  have hzl := h.1
  have HS := Lib.hid (scan_any a n c zs w1 ((h.below hb1).mono hb1.size) hz (by omega))
  have HB1 := Lib.hid hb1
  have HM := Lib.hid (fun V (hV : Below w1.heap.size w1 V) => (hm1.below hV (by omega)).cells)
  have HLZ : Hid (zs.length ≤ 900000) := by unfold Hid; omega
  have HSUB := Lib.hid (fun z hz' => scan_sub zs.length zs (Nat.le_refl _) z hz')
  have HBACK := Lib.hid (fun z s (h : scanS zs = ([z], s, 0)) => scan_back1 hz h)
  have HONE : Hid (∀ l l', CanM l l' → encM l l' = zs → (scanS zs).1 = [bodyM l l'] ∧ (scanS zs).2.2 = 0 ∧ listT (bodyM l l') 0 = some (l, (encL l).length) ∧ listT (bodyM l l') (encL l).length = some (l', (bodyM l l').length)) := fun l l' hc he => by
    have hls := encM_lens he
    refine ⟨scan_one he (by omega), scan_one0 he (by omega), ?_, ?_⟩
    · have := listT_enc (zs := bodyM l l') (r := encL l') (p := 0) (by rw [List.drop_zero]; rfl) (Nat.zero_le _) hc.segs (by omega)
      rwa [Nat.zero_add] at this
    · have := listT_enc (zs := bodyM l l') (r := []) (p := (encL l).length) (by rw [List.append_nil]; unfold bodyM; rw [List.drop_left]) (by unfold bodyM; rw [List.length_append]; omega) hc.snaps (by omega)
      rw [this]
      unfold bodyM
      rw [List.length_append]
  have HFAIL : Hid ((¬ ∃ l l', CanM l l' ∧ encM l l' = zs) → ∀ V, Below w.heap.size w V → SaysRM w zs (.returned (.tuple #[.agg #[.slice none 0 0, .slice none 0 0], .int .i64 3])) V) := fun hno V hV => ⟨⟨none, 0, 0, none, 0, 0, 3, rfl, .inr ⟨rfl, rowZ_none _ _, rowZ_none _ _, hno⟩⟩, hV⟩
  have HW1 := Lib.hid hw1
  have HS1 := Lib.hid hs1
  clear h hw1 hb1 hm1 hs1 hzl
  go_enter Tryd.func13, Tryd.ntmps13
  go_upto_region 1 with fail
  rw [← HW1.out]
  go_wp2_with fail
  refine HS.out.mono ?_
  rintro e w2 ⟨v2, rfl, ho2, hb2⟩
  obtain ⟨a2, c2, rfl, hr2⟩ := ho2.rows
  have HC2 := Lib.hid hb2
  have HB2 := Lib.hid (HB1.out.trans (hb2.mono HB1.out.size))
  have HR2 := Lib.hid hr2
  have hcc := hr2.2.1
  have hcm := hr2.2.2.1
  unfold maxLen at hcm
  obtain ⟨q0, q1, f0, f1⟩ := HM.out w2 hb2
  generalize scanS zs = S at *
  obtain ⟨L, sp, ss⟩ := S
  simp only [] at hcc hr2 HSUB HBACK HONE HR2 ⊢
  clear ho2 hb2 hr2 HS
  have HF2 := Lib.hid (fun hno => HFAIL.out hno _ (below_man HB2.out (Nat.le_refl _) (.slice none 0 0) (.slice none 0 0)))
  by_cases h1 : L.length = 1
  · obtain ⟨z, rfl⟩ : ∃ z, L = [z] := by
      match L, h1 with
      | [z], _ => exact ⟨z, rfl⟩
    have e1 : ((([z].length : Nat) : Int) != 1) = false := by simp
    simp only [List.length_cons, List.length_nil, Nat.zero_add] at hcc e1 HR2 ⊢
    by_cases hss : ss = 0
    · subst hss
      have e2 : (((0 : Nat) : Int) != 0) = false := by simp
      have hzz := HSUB.out z (by simp)
      obtain ⟨b, off, rfl, hlb, hcs⟩ := HR2.out.cells (by omega)
      obtain ⟨az, cz, hcell, hrow⟩ := hcs 0 (by omega)
      have e0 : ([z].getD 0 []) = z := rfl
      rw [e0] at hcell hrow
      rw [Nat.add_zero] at hcell
      have hz256 : ∀ x ∈ z, x < 256 := fun x hx => hz x (hzz.2 x hx)
      have hzn : z.length ≤ 900000 := Nat.le_trans hzz.1 HLZ.out
      have HR1 := Lib.hid (takeList_any az z.length cz z 0 w2 hrow hz256 (Nat.zero_le _) hzn)
      have HRX := Lib.hid (fun V (hV : Below w2.heap.size w2 V) (q : Nat) (hq : q ≤ z.length) => takeList_any az z.length cz z q V ((hrow.below hV).mono hV.size) hz256 hq hzn)
      have HIS := Lib.hid (fun p q l (hp : p ≤ z.length) (h : listT z p = some (l, q)) => listT_is hz256 hp h)
      have HLN := Lib.hid (fun p q l (hp : p ≤ z.length) (h : listT z p = some (l, q)) => Nat.le_trans (listT_len hz256 hp h) hzn)
      have hzr := hrow.2.1
      have hzm := hrow.2.2.1
      unfold maxLen at hzm
      clear hcs hzz hrow hz256 e0
      obtain ⟨N, hN⟩ : ∃ N, z.length = N := ⟨_, rfl⟩
      rw [hN] at hcell HR1 HRX HIS HLN hzn hzr
      have HN := Lib.hid hN
      clear hN hz
      have HZN := Lib.hid hzn
      clear hzn
      go_wp2_with fail
      refine HR1.out.mono ?_
      rintro e w3 ⟨hs3, hb3⟩
      have HC3 := Lib.hid (HC2.out.trans (hb3.mono HC2.out.size))
      have HB3 := Lib.hid (HB2.out.trans (hb3.mono HB2.out.size))
      have HD3 := Lib.hid hb3
      clear hb3 HR1 q0 q1 f0 f1 hcell HF2
      obtain ⟨q0, q1, f0, f1⟩ := HM.out w3 HC3.out
      have HF3 := Lib.hid (fun hno => HFAIL.out hno _ (below_man HB3.out (Nat.le_refl _) (.slice none 0 0) (.slice none 0 0)))
      rcases hs3 with ⟨segs, q, a3, c3, he3, rfl, ho3⟩ | ⟨he3, er, her, rfl⟩
      · have HE3 := Lib.hid he3
        have HO3 := Lib.hid ho3
        obtain ⟨i1, i2, i3⟩ := HIS.out _ _ _ (Nat.zero_le _) he3
        have HI1 := Lib.hid i1
        have HI2 := Lib.hid i2
        have HQ : Hid (q ≤ N) := i3
        have HR4 := Lib.hid (HRX.out w3 HD3.out q HQ.out)
        clear he3 ho3 i1 i2 i3 HF3
        go_wp2_with fail
        refine HR4.out.mono ?_
        rintro e w4 ⟨hs4, hb4⟩
        have HC4 := Lib.hid (HC3.out.trans (hb4.mono HC3.out.size))
        have HB4 := Lib.hid (HB3.out.trans (hb4.mono HB3.out.size))
        have HD4 := Lib.hid hb4
        clear hb4 HR4 q0 q1 f0 f1
        obtain ⟨q0, q1, f0, f1⟩ := HM.out w4 HC4.out
        have HF4 := Lib.hid (fun hno => HFAIL.out hno _ (below_man HB4.out (Nat.le_refl _) (.slice none 0 0) (.slice none 0 0)))
        rcases hs4 with ⟨snaps, q2, a4, c4, he4, rfl, ho4⟩ | ⟨he4, er, her, rfl⟩
        · have HE4 := Lib.hid he4
          have HO4 := Lib.hid ho4
          have HJ := Lib.hid (HIS.out _ _ _ HQ.out he4)
          clear he4 ho4
          have e3 : ((0 : Int) != 0) = false := rfl
          by_cases hq : q2 = N
          · subst hq
            have e4 : ((q2 : Int) != (q2 : Int)) = false := by simp
            have HENC : Hid (encM segs snaps = zs) := by
              unfold Hid
              rw [HBACK.out z sp rfl]
              have h2 := HI2.out
              rw [List.drop_zero, HJ.out.2.1, List.drop_of_length_le (by rw [HN.out]; exact Nat.le_refl _), List.append_nil] at h2
              unfold encM bodyM
              rw [h2]
            have HCAN : Hid (CanM segs snaps) := ⟨HI1.out, HJ.out.1⟩
            have hbm := below_man HB4.out (Nat.le_refl w.heap.size) (.slice a3 segs.length c3) (.slice a4 snaps.length c4)
            have HF : Hid (SaysRM w zs (.returned (.tuple #[.agg #[.slice a3 segs.length c3, .slice a4 snaps.length c4], .int .i64 0])) ((w4.setCell ⟨w.heap.size, 0, none⟩ (.slice a3 segs.length c3)).setCell ⟨w.heap.size, 1, none⟩ (.slice a4 snaps.length c4))) := by
              have hsz2 : w.heap.size < w2.heap.size := by have := HC2.out.size; have := HS1.out; omega
              have hsz3 : w.heap.size < w3.heap.size := Nat.lt_of_lt_of_le hsz2 HD3.out.size
              have g1 := ((HO3.out.calls HD4.out).set13 hsz2 (i := 0) (u := .slice a3 segs.length c3)).set13 hsz2 (i := 1) (u := .slice a4 snaps.length c4)
              have g2 := (HO4.out.set13 hsz3 (i := 0) (u := .slice a3 segs.length c3)).set13 hsz3 (i := 1) (u := .slice a4 snaps.length c4)
              exact ⟨⟨a3, _, c3, a4, _, c4, 0, rfl, .inl ⟨rfl, segs, snaps, HCAN.out, HENC.out, g1.rowAt rfl, g2.rowAt rfl⟩⟩, hbm⟩
            clear hbm HFAIL HONE HF4 HBACK HENC HCAN
            go_wp2_with fail
            exact bodyPost_ret (v := .tuple #[.agg #[.slice a3 segs.length c3, .slice a4 snaps.length c4], .int .i64 0]) (by simp [results, Tryd.results13, go_sem, q0, q1]) rfl HF.out
          · have e4 : ((q2 : Int) != (N : Int)) = true := by rw [bne_iff_ne]; omega
            have HNO : Hid (¬ ∃ l l', CanM l l' ∧ encM l l' = zs) := by
              rintro ⟨l, l', hc, he⟩
              obtain ⟨g1, _, g2, g3⟩ := HONE.out l l' hc he
              injection g1 with g1
              rw [← g1, HE3.out] at g2
              injection g2 with g2
              injection g2 with g4 g5
              rw [← g1, ← g5, HE4.out] at g3
              injection g3 with g3
              injection g3 with _ g6
              exact hq (by rw [g6, HN.out])
            have HF := Lib.hid (HF4.out HNO.out)
            clear HNO HFAIL HONE HF4
            go_wp2_with fail
            exact bodyPost_ret (v := .tuple #[.agg #[.slice none 0 0, .slice none 0 0], .int .i64 3]) (by simp [results, Tryd.results13, go_sem, q0, q1]) rfl HF.out
        · have e3 : ((er : Int) != 0) = true := by rw [bne_iff_ne]; omega
          have HNO : Hid (¬ ∃ l l', CanM l l' ∧ encM l l' = zs) := by
            rintro ⟨l, l', hc, he⟩
            obtain ⟨g1, _, g2, g3⟩ := HONE.out l l' hc he
            injection g1 with g1
            rw [← g1, HE3.out] at g2
            injection g2 with g2
            injection g2 with g4 g5
            rw [← g1, ← g5, he4] at g3
            cases g3
          have HF := Lib.hid (HF4.out HNO.out)
          clear HNO HFAIL HONE HF4 he4
          go_wp2_with fail
          exact bodyPost_ret (v := .tuple #[.agg #[.slice none 0 0, .slice none 0 0], .int .i64 3]) (by simp [results, Tryd.results13, go_sem, q0, q1]) rfl HF.out
      · have e3 : ((er : Int) != 0) = true := by rw [bne_iff_ne]; omega
        have HNO : Hid (¬ ∃ l l', CanM l l' ∧ encM l l' = zs) := by
          rintro ⟨l, l', hc, he⟩
          obtain ⟨g1, _, g2, g3⟩ := HONE.out l l' hc he
          injection g1 with g1
          rw [← g1, he3] at g2
          cases g2
        have HF := Lib.hid (HF3.out HNO.out)
        clear HNO HFAIL HONE HF3 he3
        go_wp2_with fail
        exact bodyPost_ret (v := .tuple #[.agg #[.slice none 0 0, .slice none 0 0], .int .i64 3]) (by simp [results, Tryd.results13, go_sem, q0, q1]) rfl HF.out
    · have e2 : ((ss : Int) != 0) = true := by rw [bne_iff_ne]; omega
      have HNO : Hid (¬ ∃ l l', CanM l l' ∧ encM l l' = zs) := by
        rintro ⟨l, l', hc, he⟩
        exact hss (HONE.out l l' hc he).2.1
      have HF := Lib.hid (HF2.out HNO.out)
      clear HNO HFAIL HONE HF2 hz
      go_wp2_with fail
      exact bodyPost_ret (v := .tuple #[.agg #[.slice none 0 0, .slice none 0 0], .int .i64 3]) (by simp [results, Tryd.results13, go_sem, q0, q1]) rfl HF.out
  · have e1 : ((L.length : Int) != 1) = true := by rw [bne_iff_ne]; omega
    have HNO : Hid (¬ ∃ l l', CanM l l' ∧ encM l l' = zs) := by
      rintro ⟨l, l', hc, he⟩
      have g := (HONE.out l l' hc he).1
      rw [g] at h1
      exact h1 rfl
    have HF := Lib.hid (HF2.out HNO.out)
    clear HNO HFAIL HONE HF2 hz
    generalize L.length = M at *
    go_wp2_with fail
    exact bodyPost_ret (v := .tuple #[.agg #[.slice none 0 0, .slice none 0 0], .int .i64 3]) (by simp [results, Tryd.results13, go_sem, q0, q1]) rfl HF.out
end Go.Proofs.YtplnaaokapilpaaDoor.Vm
