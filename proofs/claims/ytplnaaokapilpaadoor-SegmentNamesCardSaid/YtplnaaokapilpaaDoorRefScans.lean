/- The plain mathematics of frames: how bytes are wrapped (fr), and what stands at the beginning of bytes (scanS). No program is named here. The contracts of frame.Put and of the document's Put: the frame of bytes, in new memory. Words for memory: a slice of slices of bytes ('Rows'), and one that the call owns ('OwnRows'). No function of the program is named here. The contract of frame.Scan: the frames at the beginning of bytes. The contract of the document's Scan: it answers what frame.Scan does. -/
import Derived.Test.YtplnaaokapilpaaDoorMath
import Derived.Test.YtplnaaokapilpaaDoorChecks
import Derived.Test.YtplnaaokapilpaaDoorAppends
import Derived.Test.YtplnaaokapilpaaDoorRefPuts
import Derived.Test.YtplnaaokapilpaaDoorRefTakes
import Derived.Test.YtplnaaokapilpaaDoorSames
import Derived.WalkMore
import Derived.Deep.RegionWith
import Derived.Deep.RegionHeld3
namespace Go.Proofs.YtplnaaokapilpaaDoor.Vm

/-- The frame of bytes. -/
def fr (zs : List Nat) : List Nat := enc zs.length ++ zs ++ four (crc zs)
def frs (ls : List (List Nat)) : List Nat := ls.flatMap fr

/-- The first frame's contents, and its length. -/
def bodyOf (r : List Nat) : List Nat := (r.drop (dec 0 r).2.1).take (dec 0 r).1
def sizeF (r : List Nat) : Nat := (dec 0 r).2.1 + (dec 0 r).1 + 4
def sumOf (r : List Nat) : List Nat := (r.drop ((dec 0 r).2.1 + (dec 0 r).1)).take 4
/-- A whole frame stands at the beginning. -/
abbrev Whole (r : List Nat) : Prop := (dec 0 r).2.2 = 0 ∧ (dec 0 r).1 ≤ 1000000 ∧ sizeF r ≤ r.length ∧ crc (bodyOf r) = num (sumOf r)
/-- The state of a rest at whose beginning no whole frame stands. -/
def restS (r : List Nat) : Nat :=
  if (dec 0 r).2.2 = 2 then 1 else if (dec 0 r).2.2 ≠ 0 ∨ 1000000 < (dec 0 r).1 then 2 else if r.length < sizeF r then 1 else if sizeF r = r.length then 1 else 2

def scanF : Nat → List Nat → List (List Nat) × Nat × Nat
  | 0, _ => ([], 0, 0)
  | f + 1, r => if r = [] then ([], 0, 0) else
      if Whole r then (bodyOf r :: (scanF f (r.drop (sizeF r))).1, sizeF r + (scanF f (r.drop (sizeF r))).2.1, (scanF f (r.drop (sizeF r))).2.2) else ([], 0, restS r)

theorem scanF_any (f : Nat) : ∀ (g : Nat) (r : List Nat), r.length ≤ f → r.length ≤ g → scanF f r = scanF g r := by
  induction f with
  | zero =>
    intro g r hf hg
    obtain rfl : r = [] := List.eq_nil_of_length_eq_zero (by omega)
    cases g <;> simp [scanF]
  | succ f ih =>
    intro g r hf hg
    cases g with
    | zero =>
      obtain rfl : r = [] := List.eq_nil_of_length_eq_zero (by omega)
      simp [scanF]
    | succ g =>
      by_cases h0 : r = []
      · simp [scanF, h0]
      · by_cases hw : Whole r
        · have hl : (r.drop (sizeF r)).length + 4 ≤ r.length := by
            have := hw.2.2.1
            simp only [List.length_drop]
            unfold sizeF at *
            omega
          simp only [scanF, if_neg h0, if_pos hw]
          rw [ih g (r.drop (sizeF r)) (by omega) (by omega)]
        · simp only [scanF, if_neg h0, if_neg hw]
/-- What stands at the beginning of bytes: the contents, their frames' length, the state of the rest. -/
def scanS (r : List Nat) : List (List Nat) × Nat × Nat := scanF r.length r

theorem scanS_nil : scanS [] = ([], 0, 0) := rfl
theorem whole_ne {r : List Nat} (h : Whole r) : r ≠ [] := by
  intro h0
  subst h0
  have := h.1
  simp [dec] at this
theorem scanS_ok {r : List Nat} (h : Whole r) : scanS r = (bodyOf r :: (scanS (r.drop (sizeF r))).1, sizeF r + (scanS (r.drop (sizeF r))).2.1, (scanS (r.drop (sizeF r))).2.2) := by
  have hl : (r.drop (sizeF r)).length + 4 ≤ r.length := by
    have := h.2.2.1
    simp only [List.length_drop]
    unfold sizeF at *
    omega
  obtain ⟨f, hf⟩ : ∃ f, r.length = f + 1 := ⟨r.length - 1, by omega⟩
  unfold scanS
  rw [hf, scanF, if_neg (whole_ne h), if_pos h, scanF_any f (r.drop (sizeF r)).length (r.drop (sizeF r)) (by omega) (Nat.le_refl _)]
theorem scanS_no {r : List Nat} (h0 : r ≠ []) (h : ¬ Whole r) : scanS r = ([], 0, restS r) := by
  obtain ⟨f, hf⟩ : ∃ f, r.length = f + 1 := ⟨r.length - 1, by have := List.length_pos_iff.2 h0; omega⟩
  unfold scanS
  rw [hf, scanF, if_neg h0, if_neg h]

/-- Bytes of a frame's form, whatever its checksum, and whatever stands behind. -/
theorem form_dec (l cs t : List Nat) (hl : l.length ≤ 1000000) : dec 0 (enc l.length ++ l ++ cs ++ t) = (l.length, (enc l.length).length, 0) := by
  rw [List.append_assoc, List.append_assoc]
  exact dec_enc64 l.length _ (by omega)
theorem form_body (l cs t : List Nat) (hl : l.length ≤ 1000000) : bodyOf (enc l.length ++ l ++ cs ++ t) = l := by
  unfold bodyOf
  rw [form_dec l cs t hl]
  simp [List.append_assoc]
theorem form_size (l cs t : List Nat) (hl : l.length ≤ 1000000) : sizeF (enc l.length ++ l ++ cs ++ t) = (enc l.length).length + l.length + 4 := by
  unfold sizeF
  rw [form_dec l cs t hl]
theorem form_sum (l cs t : List Nat) (hl : l.length ≤ 1000000) (hc : cs.length = 4) : sumOf (enc l.length ++ l ++ cs ++ t) = cs := by
  unfold sumOf
  rw [form_dec l cs t hl]
  have e : (enc l.length).length + l.length = (enc l.length ++ l).length := by simp
  rw [List.append_assoc, e, List.drop_left, ← hc, List.take_left]
theorem form_drop (l cs t : List Nat) (hl : l.length ≤ 1000000) (hc : cs.length = 4) : (enc l.length ++ l ++ cs ++ t).drop (sizeF (enc l.length ++ l ++ cs ++ t)) = t := by
  rw [form_size l cs t hl]
  have e : (enc l.length).length + l.length + 4 = (enc l.length ++ l ++ cs).length := by simp; omega
  rw [e, List.drop_left]
theorem form_whole {l cs t : List Nat} (hl : l.length ≤ 1000000) (hc : cs.length = 4) (h : crc l = num cs) : Whole (enc l.length ++ l ++ cs ++ t) := by
  refine ⟨?_, ?_, ?_, ?_⟩
  · rw [form_dec l cs t hl]
  · rw [form_dec l cs t hl]; exact hl
  · rw [form_size l cs t hl]; simp; omega
  · rw [form_body l cs t hl, form_sum l cs t hl hc, h]
theorem form_not {l cs t : List Nat} (hl : l.length ≤ 1000000) (hc : cs.length = 4) (h : crc l ≠ num cs) : scanS (enc l.length ++ l ++ cs ++ t) = ([], 0, if t = [] then 1 else 2) := by
  have hn : enc l.length ++ l ++ cs ++ t ≠ [] := by
    intro h0
    have := congrArg List.length h0
    simp only [List.length_append, List.length_nil] at this
    omega
  have hw : ¬ Whole (enc l.length ++ l ++ cs ++ t) := by
    intro hw
    have := hw.2.2.2
    rw [form_body l cs t hl, form_sum l cs t hl hc] at this
    exact h this
  rw [scanS_no hn hw]
  unfold restS
  rw [form_dec l cs t hl, form_size l cs t hl]
  have hlen : (enc l.length ++ l ++ cs ++ t).length = (enc l.length).length + l.length + 4 + t.length := by simp; omega
  rw [hlen]
  simp only []
  rw [if_neg (by omega), if_neg (by omega), if_neg (by omega)]
  by_cases ht : t = []
  · subst ht; simp
  · have := List.length_pos_iff.2 ht
    rw [if_neg (by omega), if_neg ht]

theorem four_len (c : Nat) : (four c).length = 4 := rfl
theorem fr_whole {l : List Nat} (t : List Nat) (hl : l.length ≤ 1000000) : scanS (fr l ++ t) = (l :: (scanS t).1, (fr l).length + (scanS t).2.1, (scanS t).2.2) := by
  unfold fr
  have h := form_whole (t := t) hl (four_len (crc l)) (num_four (crc_lt l)).symm
  rw [scanS_ok h, form_drop l _ t hl (four_len _), form_body l _ t hl, form_size l _ t hl]
  simp [four_len, Nat.add_assoc]
theorem frs_whole (ls : List (List Nat)) (t : List Nat) (h : ∀ l ∈ ls, l.length ≤ 1000000) : scanS (frs ls ++ t) = (ls ++ (scanS t).1, (frs ls).length + (scanS t).2.1, (scanS t).2.2) := by
  induction ls with
  | nil => simp [frs]
  | cons l r ih =>
    have e : frs (l :: r) ++ t = fr l ++ (frs r ++ t) := by simp [frs]
    have e2 : (frs (l :: r)).length = (fr l).length + (frs r).length := by simp [frs]
    rw [e, fr_whole _ (h l (List.mem_cons_self ..)), ih (fun x hx => h x (List.mem_cons_of_mem _ hx)), e2]
    simp [Nat.add_assoc]

/-- A number whose bytes are cut. -/
theorem dec_short (k : Nat) : ∀ (i n j : Nat), i + k = 9 → n < 2 * 128 ^ k → (0 < i → 0 < n) → j < (enc n).length → dec i ((enc n).take j) = (0, 0, 2) := by
  induction k with
  | zero =>
    intro i n j hi hn h0 hj
    rw [enc_small (by omega)] at hj ⊢
    obtain rfl : j = 0 := by simpa using hj
    simp [dec]
  | succ k ih =>
    intro i n j hi hn h0 hj
    by_cases h1 : n < 128
    · rw [enc_small h1] at hj ⊢
      obtain rfl : j = 0 := by simpa using hj
      simp [dec]
    · rw [enc_big (by omega)] at hj ⊢
      cases j with
      | zero => simp [dec]
      | succ j =>
        have e := ih (i + 1) (n / 128) j (by omega) (by rw [Nat.pow_succ] at hn; omega) (fun _ => by omega) (by simpa using hj)
        rw [List.take_succ_cons, dec_fail _ (by unfold Bad; omega) (by omega) (by rw [e]; simp), e]

/-- A frame that is cut. -/
theorem fr_cut {l : List Nat} (j : Nat) (hl : l.length ≤ 1000000) (hj : j < (fr l).length) : scanS ((fr l).take j) = ([], 0, if j = 0 then 0 else 1) := by
  by_cases h0 : j = 0
  · subst h0; simp [scanS_nil]
  have hfl : (fr l).length = (enc l.length).length + l.length + 4 := by simp [fr, four_len]; omega
  have hlen : ((fr l).take j).length = j := by rw [List.length_take]; omega
  have hn : (fr l).take j ≠ [] := by intro e; rw [e] at hlen; simp at hlen; omega
  rw [if_neg h0]
  by_cases h1 : j < (enc l.length).length
  · have e : (fr l).take j = (enc l.length).take j := by unfold fr; rw [List.append_assoc, List.take_append_of_le_length (by omega)]
    have hd : dec 0 ((fr l).take j) = (0, 0, 2) := by rw [e]; exact dec_short 9 0 l.length j rfl (by omega) (by omega) h1
    rw [scanS_no hn (fun hw => by have := hw.1; rw [hd] at this; simp at this)]
    unfold restS
    rw [hd]; simp
  · have e : (fr l).take j = enc l.length ++ ((l ++ four (crc l)).take (j - (enc l.length).length)) := by
      unfold fr; rw [List.append_assoc, List.take_append, List.take_of_length_le (by omega)]
    have hd : dec 0 ((fr l).take j) = (l.length, (enc l.length).length, 0) := by rw [e]; exact dec_enc64 _ _ (by omega)
    have hs : sizeF ((fr l).take j) = (enc l.length).length + l.length + 4 := by unfold sizeF; rw [hd]
    rw [scanS_no hn (fun hw => by have := hw.2.2.1; rw [hs, hlen] at this; omega)]
    unfold restS
    rw [hd, hs, hlen]
    simp only []
    rw [if_neg (by omega), if_neg (by omega), if_pos (by omega)]

section
variable {r : List Nat} {x k : Nat}
theorem scan_short (h0 : r ≠ []) (hD : dec 0 r = (0, 0, 2)) : scanS r = ([], 0, 1) := by
  rw [scanS_no h0 (fun hw => by have := hw.1; rw [hD] at this; simp at this)]
  unfold restS
  rw [hD]; simp
theorem scan_bad (h0 : r ≠ []) (hD : dec 0 r = (0, 0, 3)) : scanS r = ([], 0, 2) := by
  rw [scanS_no h0 (fun hw => by have := hw.1; rw [hD] at this; simp at this)]
  unfold restS
  rw [hD]; simp
theorem scan_great (h0 : r ≠ []) (hD : dec 0 r = (x, k, 0)) (hx : 1000000 < x) : scanS r = ([], 0, 2) := by
  rw [scanS_no h0 (fun hw => by have := hw.2.1; rw [hD] at this; simp at this; omega)]
  unfold restS
  rw [hD]; simp [hx]
theorem scan_few (h0 : r ≠ []) (hD : dec 0 r = (x, k, 0)) (hx : x ≤ 1000000) (hl : r.length < k + x + 4) : scanS r = ([], 0, 1) := by
  have hs : sizeF r = k + x + 4 := by unfold sizeF; rw [hD]
  rw [scanS_no h0 (fun hw => by have := hw.2.2.1; omega)]
  unfold restS
  rw [hD, hs]
  simp only []
  rw [if_neg (by omega), if_neg (by omega), if_pos hl]
theorem scan_sum (h0 : r ≠ []) (hD : dec 0 r = (x, k, 0)) (hx : x ≤ 1000000) (hl : k + x + 4 ≤ r.length) (hc : crc ((r.drop k).take x) ≠ num ((r.drop (k + x)).take 4)) : scanS r = ([], 0, if k + x + 4 = r.length then 1 else 2) := by
  have hs : sizeF r = k + x + 4 := by unfold sizeF; rw [hD]
  rw [scanS_no h0 (fun hw => by have := hw.2.2.2; unfold bodyOf sumOf at this; rw [hD] at this; exact hc this)]
  unfold restS
  rw [hD, hs]
  simp only []
  rw [if_neg (by omega), if_neg (by omega), if_neg (by omega)]
theorem scan_whole (hD : dec 0 r = (x, k, 0)) (hx : x ≤ 1000000) (hl : k + x + 4 ≤ r.length) (hc : crc ((r.drop k).take x) = num ((r.drop (k + x)).take 4)) : Whole r ∧ bodyOf r = (r.drop k).take x ∧ sizeF r = k + x + 4 := by
  have hs : sizeF r = k + x + 4 := by unfold sizeF; rw [hD]
  have hb : bodyOf r = (r.drop k).take x := by unfold bodyOf; rw [hD]
  refine ⟨⟨by rw [hD], by rw [hD]; exact hx, by omega, ?_⟩, hb, hs⟩
  rw [hb, hc]
  unfold sumOf
  rw [hD]
end

/-- How the loops of both Scans go on. -/
structure Goes (zs : List Nat) (out : List (List Nat)) (p : Nat) : Prop where
  le : p ≤ zs.length
  ls : out ++ (scanS (zs.drop p)).1 = (scanS zs).1
  at' : p + (scanS (zs.drop p)).2.1 = (scanS zs).2.1
  rest : (scanS (zs.drop p)).2.2 = (scanS zs).2.2
theorem Goes.start (zs : List Nat) : Goes zs [] 0 := ⟨Nat.zero_le _, by simp, by simp, by simp⟩
theorem Goes.stop {zs : List Nat} {out : List (List Nat)} {p s : Nat} (h : Goes zs out p) (hs : scanS (zs.drop p) = ([], 0, s)) : scanS zs = (out, p, s) := by
  have h1 := h.ls
  have h2 := h.at'
  have h3 := h.rest
  rw [hs] at h1 h2 h3
  simp only [List.append_nil, Nat.add_zero] at h1 h2 h3
  exact Prod.ext h1.symm (Prod.ext h2.symm h3.symm)
theorem Goes.next {zs : List Nat} {out : List (List Nat)} {p : Nat} (h : Goes zs out p) (hw : Whole (zs.drop p)) : Goes zs (out ++ [bodyOf (zs.drop p)]) (p + sizeF (zs.drop p)) := by
  have hs := scanS_ok hw
  have h1 := h.ls
  have h2 := h.at'
  have h3 := h.rest
  have h4 := hw.2.2.1
  have h5 := h.le
  rw [List.length_drop] at h4
  rw [hs, List.drop_drop] at h1 h2 h3
  exact ⟨by omega, by rw [← h1]; simp, by rw [← h2, Nat.add_assoc], h3⟩
end Go.Proofs.YtplnaaokapilpaaDoor.Vm

namespace Go.Proofs.YtplnaaokapilpaaDoor.Vm
open Go.RowKit

theorem Below.grows {B : Nat} {w w1 w2 : World} {v : Value} {l : List Nat} (h : Below B w w1) (hB : B ≤ w1.heap.size) (hown : Own w1 B v l) (hg : w1.grownBy w2 v.ownBlock) : Below B w w2 :=
  h.grown hg hB (fun k hk => (World.ownsRow.lt hown k hk).1)

set_option maxRecDepth 100000 in
set_option maxHeartbeats 400000 in
theorem fput_many (a : Option Addr) (n c : Nat) (w : World) (hm : n ≤ 9223372036854775807) (hn : 1000000 < n) :
    Calls Tryd.prog 17 #[.slice a n c] w fun e w' => e = .returned (.tuple #[.slice none 0 0, .int .i64 4]) ∧ w = w' := by
  go_enter Tryd.func17, Tryd.ntmps17
  go_wp2_with fail
  go_ret2
  exact ⟨rfl, rfl⟩

set_option maxRecDepth 100000 in
set_option maxHeartbeats 400000 in
theorem fput_any (a : Option Addr) (n c : Nat) (zs : List Nat) (w : World) (h : Row .u8 w w.heap.size a n c zs) (hz : ∀ x ∈ zs, x < 256) (hn : n ≤ 1000000) :
    Calls Tryd.prog 17 #[.slice a n c] w fun e w' => ∃ v, e = .returned (.tuple #[v, .int .i64 0]) ∧ Own w' w.heap.size v (fr zs) ∧ Below w.heap.size w w' := by
  have HK := Lib.hid (fcheck_any a n c _ zs w h (Nat.le_refl _) hz)
  have hc := crc_lt zs
  have HF : Hid (fr zs = enc n ++ zs ++ four (crc zs)) := by unfold Hid fr; rw [h.1]
  have HL := Lib.hid h.1
  clear hz
  generalize crc zs = q at HK hc HF
  go_enter Tryd.func17, Tryd.ntmps17
  go_wp2_with fail
  refine HK.out.mono ?_
  rintro e w1 ⟨rfl, hbel⟩
  have HP := Lib.hid fun t => put_any _ 1 1 [n] (w1.alloc (.cells #[.int .u64 (n : Nat)] t)) ((row_one .u64 w1 n t).mono (by simp)) (by simp; omega) (by omega)
  have hle := (enc_len64 (n := n) (by omega)).2
  go_wp2_with fail
  refine (HP.out _).mono ?_
  rintro e w2 ⟨v, rfl, hown, hbel2⟩
  have hown := Own.mono hown (B' := w.heap.size) (by simp; have := hbel.size; omega)
  have hbel2 : Below w.heap.size w w2 := (hbel.alloc hbel.size _).trans (hbel2.mono (by simp; have := hbel.size; omega))
  have he : encs [n] = enc n := by simp [encs]
  rw [he] at hown
  clear he hbel
  have HR := Lib.hid (h.below hbel2)
  clear h
  have HL3 : Hid ((enc n ++ zs).length ≤ 1000010) := by unfold Hid; have := HL.out; rw [List.length_append]; omega
  go_wp2_with (at_builtin; first
    | (refine wpList_append_row rfl (.tmp 15) (.tmp 16) rfl rfl hown rfl HR.out (by omega) hbel2.size ?_
       intro v3 w3 hown3 hgrow3 _
       have hbel3 := Below.grows hbel2 hbel2.size hown hgrow3
       have H4 := Lib.hid (fun o => own_below hown3 ((Below.refl w3.heap.size w3).alloc (Nat.le_refl _) o) (fun k hk => (World.ownsRow.lt hown3 k hk).2))
       clear hown3 hgrow3)
    | (refine wpList_append_row rfl (.tmp 18) (.tmp 30) rfl rfl (H4.out _) rfl (own_four w3 q _ _ _ _ (by omega) (by omega) (by omega) (by omega)).row (by have := HL3.out; omega) (by have := hbel3.size; simp; omega) ?_
       intro v5 w5 hown5 hgrow5 _))
  have hbel5 := Below.grows (hbel3.alloc hbel3.size _) (by have := hbel3.size; simp; omega) (H4.out _) hgrow5
  go_ret2
  exact ⟨_, rfl, by rw [HF.out]; exact hown5, hbel5⟩

set_option maxRecDepth 100000 in
set_option maxHeartbeats 400000 in
theorem rfput_any (a : Option Addr) (n c : Nat) (zs : List Nat) (w : World) (h : Row .u8 w w.heap.size a n c zs) (hz : ∀ x ∈ zs, x < 256) (hn : n ≤ 1000000) :
    Calls Tryd.prog 24 #[.slice a n c] w fun e w' => ∃ v, e = .returned (.tuple #[v, .int .i64 0]) ∧ Own w' w.heap.size v (fr zs) ∧ Below w.heap.size w w' := by
  have hc := crc_lt zs
  have HF : Hid (fr zs = enc n ++ zs ++ four (crc zs)) := by unfold Hid fr; rw [h.1]
  have HL := Lib.hid h.1
  have HZ := Lib.hid hz
  clear hz
  have hle := (enc_len64 (n := n) (by omega)).2
  go_enter Tryd.func24, Tryd.ntmps24
  go_wp2_with fail
  refine (rput_one n w (by omega)).mono ?_
  rintro e w2 ⟨v, rfl, hown, hbel2⟩
  have HR := Lib.hid (h.below hbel2)
  clear h
  go_wp2_with (at_builtin; refine wpList_append_row rfl (.tmp 12) (.tmp 13) rfl rfl hown rfl HR.out (by omega) hbel2.size ?_; intro v3 w3 hown3 hgrow3 _)
  have hbel3 := Below.grows hbel2 hbel2.size hown hgrow3
  have HR3 := Lib.hid (HR.out.below (Below.grows (Below.refl _ w2) hbel2.size hown hgrow3))
  clear hgrow3 hown hbel2 HR
  have HK := Lib.hid (rcheck_any a n c _ zs w3 HR3.out HZ.out)
  have HL3 : Hid ((enc n ++ zs).length ≤ 1000010) := by unfold Hid; have := HL.out; rw [List.length_append]; omega
  generalize crc zs = q at HK hc HF
  go_wp2_with fail
  refine HK.out.mono ?_
  rintro e w4 ⟨rfl, rfl⟩
  go_wp2_with fail
  refine (rfour_any q w3 hc).mono ?_
  rintro e w4 ⟨v4, rfl, hown4, hbel4⟩
  obtain ⟨a4, c4, rfl, hr4⟩ := hown4.slice
  have hown5 : Own w4 w.heap.size v3 _ := own_below hown3 hbel4 (fun k hk => (World.ownsRow.lt hown3 k hk).2)
  have hbel5 : Below w.heap.size w w4 := hbel3.trans (hbel4.mono hbel3.size)
  clear hown3 hbel4 hown4 hbel3
  go_wp2_with (at_builtin; refine wpList_append_row rfl (.tmp 15) (.tmp 18) rfl rfl hown5 rfl hr4 (by have := HL3.out; simp only [four, List.length_cons, List.length_nil]; omega) hbel5.size ?_; intro v6 w6 hown6 hgrow6 _)
  have hbel6 := Below.grows hbel5 hbel5.size hown5 hgrow6
  go_ret2
  exact ⟨_, rfl, by rw [HF.out]; exact hown6, hbel6⟩
end Go.Proofs.YtplnaaokapilpaaDoor.Vm

namespace Go.Proofs.YtplnaaokapilpaaDoor.Vm
open Go.RowKit

theorem info_rows : (Tryd.prog.info? 27).map (fun i => (i.zero, i.size, i.bytes)) = some (some (.slice none 0 0), 1, 24) := by kernel_rfl

/-- The slice '.slice a n c' holds slices that hold these bytes, all in blocks below B. -/
def Rows (w : World) (B : Nat) (a : Option Addr) (n c : Nat) (ls : List (List Nat)) : Prop :=
  ls.length = n ∧ n ≤ c ∧ c ≤ maxLen ∧
  (0 < n → ∃ b off, a = some ⟨b, off, none⟩ ∧ b < B ∧ ∀ i, i < n → ∃ a' c', w.cell? ⟨b, off + i, none⟩ = some (.slice a' (ls.getD i []).length c') ∧ Row .u8 w B a' (ls.getD i []).length c' (ls.getD i []))

section
variable {w w' : World} {B B' : Nat} {a : Option Addr} {n c : Nat} {ls : List (List Nat)}
theorem Rows.nil (w : World) (B : Nat) : Rows w B none 0 0 [] := ⟨rfl, Nat.le_refl _, by simp [maxLen], fun h => absurd h (by omega)⟩
theorem Rows.keep (h : Rows w B a n c ls) (hk : ∀ p : Addr, p.block < B → w'.cell? p = w.cell? p) : Rows w' B a n c ls :=
  ⟨h.1, h.2.1, h.2.2.1, fun hn => by
    obtain ⟨b, off, e, hb, hc⟩ := h.2.2.2 hn
    refine ⟨b, off, e, hb, fun i hi => ?_⟩
    obtain ⟨a', c', h1, h2⟩ := hc i hi
    exact ⟨a', c', (hk ⟨b, off + i, none⟩ hb).trans h1, h2.keep hk⟩⟩
theorem Rows.mono (h : Rows w B a n c ls) (hB : B ≤ B') : Rows w B' a n c ls :=
  ⟨h.1, h.2.1, h.2.2.1, fun hn => by
    obtain ⟨b, off, e, hb, hc⟩ := h.2.2.2 hn
    refine ⟨b, off, e, by omega, fun i hi => ?_⟩
    obtain ⟨a', c', h1, h2⟩ := hc i hi
    exact ⟨a', c', h1, h2.mono hB⟩⟩
theorem Rows.below (h : Rows w B a n c ls) (hb : Below B w w') : Rows w' B a n c ls := h.keep fun _ hp => hb.cell hp
theorem Rows.alloc (h : Rows w B a n c ls) (hB : B ≤ w.heap.size) (o : Obj) : Rows (w.alloc o) B a n c ls :=
  h.keep fun p hp => World.cell?_alloc_lt w o p (by omega)
theorem Rows.cells (h : Rows w B a n c ls) (hn : 0 < n) : ∃ b off, a = some ⟨b, off, none⟩ ∧ b < B ∧ ∀ i, i < n → ∃ a' c', w.cell? ⟨b, off + i, none⟩ = some (.slice a' (ls.getD i []).length c') ∧ Row .u8 w B a' (ls.getD i []).length c' (ls.getD i []) := h.2.2.2 hn
/-- The first of them. -/
theorem Rows.first (h : Rows w B a n c ls) {k mx : Nat} (hk : k ≤ n) (hm : k ≤ mx) (hx : mx ≤ c) : Rows w B a k mx (ls.take k) :=
  ⟨by have := h.1; simp; omega, hm, by have := h.2.2.1; omega, fun hn => by
    obtain ⟨b, off, e, hb, hc⟩ := h.2.2.2 (by omega)
    refine ⟨b, off, e, hb, fun i hi => ?_⟩
    have := hc i (by omega)
    rwa [show (ls.take k).getD i [] = ls.getD i [] by simp [List.getD, hi]]⟩
end

/-- Slices of bytes, in new memory, each with bytes in new memory. -/
def OwnRows (w : World) (B : Nat) (v : Value) (ls : List (List Nat)) : Prop :=
  ∃ xs : List Value, w.ownsRow B 27 1 v ls.length xs ∧ ∀ (i : Nat) (l : List Nat), ls[i]? = some l → ∃ u, xs[i]? = some u ∧ Own w B u l

theorem OwnRows.nil (w : World) (B : Nat) : OwnRows w B (.slice none 0 0) [] := ⟨[], World.ownsRow_nil _ _ _ _, fun i l h => by simp at h⟩

theorem OwnRows.mono {w : World} {B B' : Nat} {v : Value} {ls : List (List Nat)} (h : OwnRows w B v ls) (hB : B' ≤ B) : OwnRows w B' v ls := by
  obtain ⟨xs, h1, h2⟩ := h
  refine ⟨xs, ⟨h1.1, ?_⟩, fun i l hl => ?_⟩
  · rcases h1.2 with h3 | ⟨g, cap, cur, hv, hb, r⟩
    · exact .inl h3
    · exact .inr ⟨g, cap, cur, hv, by omega, r⟩
  · obtain ⟨u, hu, ho⟩ := h2 i l hl
    exact ⟨u, hu, ho.mono hB⟩

/-- A block of slices is no block of bytes. -/
theorem Own.other {w : World} {B B' : Nat} {u v : Value} {l : List Nat} {n k : Nat} {xs : List Value} (h : Own w B u l) (hv : w.ownsRow B' 27 1 v n xs) (hk : u.ownBlock = some k) : v.ownBlock ≠ some k := by
  intro hk'
  rcases h.2 with ⟨rfl, _⟩ | ⟨g, cap, cur, rfl, _, hg, _⟩
  · simp [Value.ownBlock] at hk
  · rcases hv.2 with ⟨rfl, _⟩ | ⟨g', cap', cur', rfl, _, hg', _⟩
    · simp [Value.ownBlock] at hk'
    · simp only [Value.ownBlock, Option.some.injEq] at hk hk'
      subst hk
      rw [hk', hg] at hg'
      simp at hg'
theorem Own.stay {w w' : World} {B : Nat} {u : Value} {l : List Nat} {row : Option Nat} (h : Own w B u l) (hg : w.grownBy w' row) (hk : ∀ k, u.ownBlock = some k → row ≠ some k) : Own w' B u l := by
  refine ⟨h.1, ?_⟩
  rcases h.2 with h2 | ⟨g, cap, cur, rfl, hb, hh, r⟩
  · exact .inl h2
  · exact .inr ⟨g, cap, cur, rfl, hb, by rw [hg.block g (Array.getElem?_eq_some_iff.1 hh).1 (fun e => hk g rfl e.symm)]; exact hh, r⟩

/-- Bytes are appended elsewhere. -/
theorem OwnRows.below {w w' : World} {B : Nat} {v : Value} {ls : List (List Nat)} (h : OwnRows w B v ls) (hb : Below w.heap.size w w') : OwnRows w' B v ls := by
  obtain ⟨xs, h1, h2⟩ := h
  refine ⟨xs, ⟨h1.1, ?_⟩, fun i l hl => ?_⟩
  · rcases h1.2 with h3 | ⟨g, cap, cur, rfl, hg, hh, r⟩
    · exact .inl h3
    · exact .inr ⟨g, cap, cur, rfl, hg, by rw [hb.block g (Array.getElem?_eq_some_iff.1 hh).1]; exact hh, r⟩
  · obtain ⟨u, hu, ho⟩ := h2 i l hl
    exact ⟨u, hu, own_below ho hb (fun k hk => (World.ownsRow.lt ho k hk).2)⟩
/-- One more slice. -/
theorem OwnRows.push {w w' : World} {B : Nat} {v v' u : Value} {ls : List (List Nat)} {xs : List Value} {l : List Nat} {o : Obj} (h1 : w.ownsRow B 27 1 v ls.length xs) (h2 : ∀ (i : Nat) (l : List Nat), ls[i]? = some l → ∃ u, xs[i]? = some u ∧ Own w B u l)
    (hu : Own w B u l) (h : w'.ownsRow B 27 1 v' (ls.length + 1) (xs ++ [u])) (hg : (w.alloc o).grownBy w' v.ownBlock) : OwnRows w' B v' (ls ++ [l]) := by
  have hlx : xs.length = ls.length := by simpa using h1.1
  have stay : ∀ u l, Own w B u l → Own w' B u l := fun u l hu => by
    have ha : Own (w.alloc o) B u l := own_below hu ((Below.refl w.heap.size w).alloc (Nat.le_refl _) o) (fun k hk => (World.ownsRow.lt hu k hk).2)
    exact ha.stay hg (fun k hk => ha.other (World.ownsRow.alloc h1 o) hk)
  refine ⟨xs ++ [u], by simpa using h, fun i l' hl => ?_⟩
  by_cases hi : i < ls.length
  · rw [List.getElem?_append_left hi] at hl
    obtain ⟨u', hu', ho⟩ := h2 i l' hl
    exact ⟨u', by rw [List.getElem?_append_left (by omega)]; exact hu', stay _ _ ho⟩
  · rw [List.getElem?_append_right (by omega)] at hl
    obtain ⟨h3, h4⟩ := List.getElem?_eq_some_iff.1 hl
    simp at h3 h4
    subst h4
    exact ⟨u, by rw [List.getElem?_append_right (by omega)]; simp [show i - xs.length = 0 by omega], stay _ _ hu⟩
/-- What is owned is there to be read. -/
theorem OwnRows.rows {w : World} {B : Nat} {v : Value} {ls : List (List Nat)} (h : OwnRows w B v ls) : ∃ a c, v = .slice a ls.length c ∧ Rows w w.heap.size a ls.length c ls := by
  obtain ⟨xs, h1, h2⟩ := h
  have hlx : xs.length = ls.length := by simpa using h1.1
  rcases h1.2 with ⟨rfl, hn⟩ | ⟨g, cap, cur, rfl, hb, hg, hnc, hcm, hcs, htake⟩
  · obtain rfl := List.eq_nil_of_length_eq_zero hn
    exact ⟨none, 0, rfl, Rows.nil w _⟩
  · refine ⟨some ⟨g, 0, none⟩, cap, rfl, rfl, hnc, hcm, fun hn => ⟨g, 0, rfl, (Array.getElem?_eq_some_iff.1 hg).1, fun i hi => ?_⟩⟩
    obtain ⟨u, hu, ho⟩ := h2 i ls[i] (by simp [hi])
    obtain ⟨a', c', rfl, hr⟩ := ho.slice
    have hc := World.ownsRow.cells h1 (g := g) rfl i _ hu
    rw [Row.add] at hc
    have e : ls.getD i [] = ls[i] := by simp [List.getD, hi]
    rw [e]
    exact ⟨a', c', hc, hr⟩
end Go.Proofs.YtplnaaokapilpaaDoor.Vm

namespace Go.Proofs.YtplnaaokapilpaaDoor.Vm
open Go.RowKit

theorem takeS_dec {zs : List Nat} {p x k e : Nat} (hp : p ≤ zs.length) (hD : dec 0 (zs.drop p) = (x, k, e)) : takeS zs p = if e = 0 then (x, p + k, 0) else (0, 0, e) := by
  unfold takeS
  rw [if_neg (by omega), Int.toNat_natCast, hD]
theorem fin_scan {S : List (List Nat) × Nat × Nat} {v : Value} {out : List (List Nat)} {p s : Nat} {P Z : Int} (h : S = (out, p, s)) (hP : P = p) (hZ : Z = s) : Ending.returned (.tuple #[v, .int .i64 P, .int .i64 Z]) = .returned (.tuple #[v, .int .i64 (S.2.1 : Nat), .int .i64 (S.2.2 : Nat)]) := by rw [h, hP, hZ]

/-- An empty slice in new memory. -/
theorem own_none (w : World) : Own (w.alloc (.cells #[] 5)) w.heap.size (.slice (some ⟨w.heap.size, 0, none⟩) 0 0) [] :=
  ⟨rfl, .inr ⟨w.heap.size, 0, _, rfl, Nat.le_refl _, heap_alloc_new w _, Nat.le_refl _, by simp [maxLen], rfl, rfl⟩⟩

set_option maxRecDepth 100000 in
set_option maxHeartbeats 1600000 in
theorem scan_any (a : Option Addr) (n c : Nat) (zs : List Nat) (w : World) (h : Row .u8 w w.heap.size a n c zs) (hz : ∀ x ∈ zs, x < 256) (hn : n ≤ 1099511627776) :
    Calls Tryd.prog 27 #[.slice a n c] w fun e w' => ∃ v, e = .returned (.tuple #[v, .int .i64 ((scanS zs).2.1 : Nat), .int .i64 ((scanS zs).2.2 : Nat)]) ∧ OwnRows w' w.heap.size v (scanS zs).1 ∧ Below w.heap.size w w' := by
  obtain ⟨i1, hi1, hy0, hy1, hy2⟩ := info_parts info_rows
  obtain ⟨hzero, hsize⟩ := zero_of_info info_tab
  obtain ⟨Z, hZ⟩ : ∃ Z, Array.replicate 256 (Value.int .u32 0) = Z := ⟨_, rfl⟩
  rw [hZ] at hzero
  have hZs : Z.size = 256 := by rw [← hZ]; simp
  have HZS := Lib.hid hZs
  clear hZ hZs
  have hm := h.2.2.1
  have hnc := h.2.1
  unfold maxLen at hm
  have HL := Lib.hid h.1
  have HZ := Lib.hid hz
  clear hz
  obtain ⟨S, hS⟩ : ∃ S, scanS zs = S := ⟨_, rfl⟩
  rw [hS]
  have HS := Lib.hid hS
  clear hS
  go_enter Tryd.func27, Tryd.ntmps27
  go_wp2_with fail
  go_step3
  go_wp2_with fail
  refine (sums_any w).mono ?_
  rintro e w1 ⟨rfl, hbel⟩
  obtain ⟨T, hT⟩ : ∃ T, tabV 256 = T := ⟨_, rfl⟩
  rw [hT]
  have hTs : T.size = 256 := by rw [← hT, tabV_size]
  have hst := run_storeCells_new (P := Tryd.prog) w1 82 Z T (by rw [hTs]; exact hsize) (by rw [hTs, HZS.out]) (by rw [← hT]; exact tabV_one _)
  have HTab : Tab (w1.alloc (.cells T 82)) w1.heap.size := by unfold Tab; rw [hT]; exact heap_alloc_last w1 _
  have HT := Lib.hid HTab
  have HR := Lib.hid ((h.below hbel).alloc hbel.size (.cells T 82))
  have HB := Lib.hid (hbel.alloc hbel.size (.cells T 82))
  have HG : Hid (w1.heap.size < (w1.alloc (.cells T 82)).heap.size) := by unfold Hid; simp
  clear HTab h hT hsize
  go_wp2_with fail
  go_step3
  go_wp2_with fail
  clear hst hzero hTs
  generalize w1.heap.size = g at *
  generalize w1.alloc (.cells T 82) = W at *
  go_loopw [6, 7, 8] (fun v i z wr => ∃ (p : Nat) (out : List (List Nat)), z = .int .i64 0 ∧ p ≤ n ∧ out.length ≤ p ∧ i = .int .i64 p ∧ OwnRows wr W.heap.size v out ∧ Below W.heap.size W wr ∧ Hid (Goes zs out p)) (fun _ i _ _ => n - (intOf i).toNat)
  case atStart => exact ⟨0, [], rfl, Nat.zero_le _, Nat.le_refl _, rfl, OwnRows.nil _ _, Below.refl _ _, Goes.start zs⟩
  case round =>
    obtain ⟨p, out, rfl, hp, hop, rfl, hown, hwl, HGo⟩ := hrel
    have hBW := HB.out.size
    by_cases hlt : p < n
    · have hr0 : zs.drop p ≠ [] := by intro e; have h1 := congrArg List.length e; have h2 := HL.out; simp only [List.length_drop, List.length_nil] at h1; omega
      obtain ⟨x, k, e, hD⟩ : ∃ x k e, dec 0 (zs.drop p) = (x, k, e) := ⟨_, _, _, rfl⟩
      have htk := take_in a n c _ zs p wr ((HR.out.mono hBW).below hwl) HZ.out hp
      rw [takeS_dec (by have := HL.out; omega) hD] at htk
      have hrl : (zs.drop p).length = n - p := by have := HL.out; rw [List.length_drop]; omega
      by_cases he : e = 0
      · subst he
        rw [if_pos rfl] at htk
        have HTK := Lib.hid htk
        clear htk
        have hok := dec_ok 9 0 (zs.drop p) rfl (fun y hy => HZ.out y (List.mem_of_mem_drop hy)) (by rw [hD])
        rw [hD, hrl] at hok
        obtain ⟨hk1, hk2, hk3, hx64, _, _⟩ := hok
        simp only [] at hk1 hk2 hk3 hx64
        by_cases hx : 1000000 < x
        · have HF := Lib.hid (HGo.out.stop (scan_great hr0 hD hx))
          have e1 : decide ((1000000 : Int) < (x : Int)) = true := by simp; omega
          clear hr0 hD hrl
          go_wp2_with fail
          refine HTK.out.mono ?_
          rintro e w2 ⟨rfl, rfl⟩
          go_wp2_with fail
          rw [Exit.noGoto_ret]
          go_ret3
          exact ⟨_, fin_scan (HS.out.symm.trans HF.out) rfl rfl, by rw [← HS.out, HF.out]; exact hown.mono hBW, HB.out.trans (hwl.mono hBW)⟩
        · have e1 : decide ((1000000 : Int) < (x : Int)) = false := by simp; omega
          have hx' : x ≤ 1000000 := by omega
          clear hx
          obtain ⟨q, hq⟩ : ∃ q, p + k = q := ⟨_, rfl⟩
          rw [hq] at HTK
          by_cases hfit : n - q < x + 4
          · have HF := Lib.hid (HGo.out.stop (scan_few hr0 hD hx' (by omega)))
            clear hr0 hD hrl
            go_wp2_with fail
            refine HTK.out.mono ?_
            rintro e w2 ⟨rfl, rfl⟩
            go_wp2_with fail
            rw [Exit.noGoto_ret]
            go_ret3
            exact ⟨_, fin_scan (HS.out.symm.trans HF.out) rfl rfl, by rw [← HS.out, HF.out]; exact hown.mono hBW, HB.out.trans (hwl.mono hBW)⟩
          · have hfit' : q + x + 4 ≤ n := by omega
            obtain ⟨b, off, rfl, hb, hcs⟩ := HR.out.cells (by omega)
            clear hcs
            have hwm : ∀ m, Below W.heap.size W (wr.drewN m) := fun m => below_drewN hwl m
            have hpart : ∀ w', Below W.heap.size W w' → Row .u8 w' W.heap.size (some ⟨b, off + q, none⟩) x (c - q) ((zs.drop q).take x) := fun w' hw' => by
              have := ((HR.out.mono hBW).below hw').part (lo := q) (hi := q + x) (mx := c) (a' := some ⟨b, off + q, none⟩) (by omega) (by omega) (by omega) (Nat.le_refl _) (fun b' off' e1 _ => by injection e1 with e1; injection e1 with e1 e2; subst e1 e2; rfl)
              rwa [Nat.add_sub_cancel_left] at this
            have hsum : ∀ w', Below W.heap.size W w' → Row .u8 w' W.heap.size (some ⟨b, off + (q + x), none⟩) 4 (c - (q + x)) ((zs.drop (q + x)).take 4) := fun w' hw' => by
              have := ((HR.out.mono hBW).below hw').part (lo := q + x) (hi := q + x + 4) (mx := c) (a' := some ⟨b, off + (q + x), none⟩) (by omega) (by omega) (by omega) (Nat.le_refl _) (fun b' off' e1 _ => by injection e1 with e1; injection e1 with e1 e2; subst e1 e2; rfl)
              rwa [Nat.add_sub_cancel_left] at this
            have hpb : ∀ y ∈ (zs.drop q).take x, y < 256 := fun y hy => HZ.out y (List.mem_of_mem_drop (List.mem_of_mem_take hy))
            have hck : ∀ m, Calls Tryd.prog 44 #[.pointer (some ⟨g, 0, none⟩), .slice (some ⟨b, off + q, none⟩) x (c - q)] (wr.drewN m) fun e w' => e = .returned (.int .u32 (crc ((zs.drop q).take x) : Nat)) ∧ w' = wr.drewN m := fun m =>
              (check_any g _ x (c - q) _ _ _ (HT.out.below (hwm m) HG.out) (hpart _ (hwm m)) hpb).mono (by rintro e w' ⟨rfl, rfl⟩; exact ⟨rfl, rfl⟩)
            have hwd : ∀ m, Calls Tryd.prog 45 #[.slice (some ⟨b, off + (q + x), none⟩) 4 (c - (q + x))] (wr.drewN m) fun e w' => e = .returned (.int .u32 (num ((zs.drop (q + x)).take 4) : Nat)) ∧ ∃ j, w' = (wr.drewN m).drewN j := fun m =>
              word_any _ (c - (q + x)) _ _ _ (hsum _ (hwm m)) (fun y hy => HZ.out y (List.mem_of_mem_drop (List.mem_of_mem_take hy)))
            have hd1 : (zs.drop p).drop k = zs.drop q := by rw [List.drop_drop, hq]
            have hd2 : (zs.drop p).drop (k + x) = zs.drop (q + x) := by rw [List.drop_drop, ← hq, Nat.add_assoc]
            have hno := scan_sum hr0 hD hx' (by omega)
            have hyes := scan_whole hD hx' (by omega)
            rw [hd1, hd2] at hno hyes
            have HP : Hid (∀ w' L, L = x → Below W.heap.size W w' → Row .u8 w' W.heap.size (some ⟨b, off + q, none⟩) L (c - q) ((zs.drop q).take x)) := fun w' L hL hw' => by subst hL; exact hpart w' hw'
            have HPL : Hid (((zs.drop q).take x).length = x) := (hpart W (Below.refl _ _)).1
            have HWM := Lib.hid hwm
            clear hpart hsum hpb hd1 hd2 hr0 hD hwm
            generalize (zs.drop q).take x = part at hck hno hyes HP HPL
            generalize num ((zs.drop (q + x)).take 4) = Y at hwd hno hyes
            generalize crc part = X at hck hno hyes
            have HCK := Lib.hid hck
            have HWD := Lib.hid hwd
            clear hck hwd
            by_cases hXY : X = Y
            · obtain ⟨hw, hbo, hsz⟩ := hyes hXY
              have HN : Hid (Goes zs (out ++ [part]) (q + x + 4)) := by
                have := HGo.out.next hw
                rw [hbo, hsz] at this
                unfold Hid
                rwa [show p + (k + x + 4) = q + x + 4 by omega] at this
              have e2 : ((X : Int) != (Y : Int)) = false := by simp; omega
              clear hno hyes hw hbo hsz hXY HGo
              go_wp2_with fail
              refine HTK.out.mono ?_
              rintro e w2 ⟨rfl, rfl⟩
              go_wp2_with fail
              go_quiet (first
                | (go_at_call 44; exact Calls.quiet_of_same (HCK.out _))
                | (go_at_call 45; exact Calls.quiet_of (HWD.out _)))
              have hwq : Below wr.heap.size wr (wr.drewN nq) := below_drewN (Below.refl _ _) nq
              have hownq := hown.below hwq
              have hWq := HWM.out nq
              generalize wr.drewN nq = wq at *
              clear hown hwq
              have hsq := hWq.size
              go_wp2_with (at_builtin; first
                | (refine wpList_append_row rfl (.tmp 68) (.tmp 72) rfl rfl (own_none wq) rfl (HP.out _ _ (by omega) (hWq.alloc hsq _)) (by simp only [List.length_nil]; omega) (by simp) ?_
                   intro v5 w5 hown5 hgrow5 _
                   rw [List.nil_append] at hown5
                   have hbel5 := Below.grows ((Below.refl wq.heap.size wq).alloc (Nat.le_refl _) _) (by simp) (own_none wq) hgrow5
                   obtain ⟨xs, h1, h2⟩ := hownq.below hbel5
                   obtain ⟨a5, c5, rfl, _⟩ := hown5.slice
                   have hW5 := hWq.trans (hbel5.mono hsq)
                   have hs5 := hW5.size)
                | (refine wpList_append_own _ rfl (.tmp 67) (.tmp 74) 65 rfl W.heap.size 27 i1 (.slice none 0 0) 1 24 Tryd.underlying65 hi1 hy0 hy1 hy2 rfl (by decide) _ _ _ rfl (World.ownsRow.alloc h1 _) ⟨w5.heap.size, 0, none⟩ 1 1 [.slice a5 part.length c5] rfl rfl (one_cell _ _ _) (by simp [Value.oneCell']) (by simp only [maxLen]; omega) (by omega) (by simp; omega) ?_
                   intro v6 w6 hown6 hgrow6 _))
              have hown7 := OwnRows.push h1 h2 (hown5.mono hsq) hown6 hgrow6
              have hW6 := (hW5.alloc hs5 _).grown hgrow6 (by simp; omega) (fun k hk => (World.ownsRow.lt h1 k hk).1)
              clear hown6 hgrow6 h1 h2 hownq
              go_wp2_with fail
              go_roundw
              case rel => exact ⟨q + x + 4, out ++ [part], rfl, hfit', by simp; omega, by go_num, hown7, hW6, HN⟩
              case measure => simp [intOf]; omega
            · have hstop := HGo.out.stop (hno hXY)
              have e2 : ((X : Int) != (Y : Int)) = true := by rw [bne_iff_ne]; omega
              rw [hrl] at hstop
              clear hno hyes hXY HGo
              by_cases hl : q + x + 4 = n
              · rw [if_pos (by omega)] at hstop
                have HF := Lib.hid hstop
                have e3 : ((q : Int) + x + 4 == (n : Int)) = true := by simp; omega
                clear hstop hl
                go_wp2_with fail
                refine HTK.out.mono ?_
                rintro e w2 ⟨rfl, rfl⟩
                go_wp2_with fail
                go_quiet (first
                  | (go_at_call 44; exact Calls.quiet_of_same (HCK.out _))
                  | (go_at_call 45; exact Calls.quiet_of (HWD.out _)))
                go_wp2_with fail
                refine (broken_any true _).mono ?_
                rintro e w2 ⟨rfl, rfl⟩
                go_wp2_with fail
                rw [Exit.noGoto_ret]
                go_ret3
                exact ⟨_, fin_scan (HS.out.symm.trans HF.out) rfl rfl, by rw [← HS.out, HF.out]; exact (hown.below (below_drewN (Below.refl _ _) _)).mono hBW, HB.out.trans ((HWM.out _).mono hBW)⟩
              · rw [if_neg (by omega)] at hstop
                have HF := Lib.hid hstop
                have e3 : ((q : Int) + x + 4 == (n : Int)) = false := by simp; omega
                clear hstop hl
                go_wp2_with fail
                refine HTK.out.mono ?_
                rintro e w2 ⟨rfl, rfl⟩
                go_wp2_with fail
                go_quiet (first
                  | (go_at_call 44; exact Calls.quiet_of_same (HCK.out _))
                  | (go_at_call 45; exact Calls.quiet_of (HWD.out _)))
                go_wp2_with fail
                refine (broken_any false _).mono ?_
                rintro e w2 ⟨rfl, rfl⟩
                go_wp2_with fail
                rw [Exit.noGoto_ret]
                go_ret3
                exact ⟨_, fin_scan (HS.out.symm.trans HF.out) rfl rfl, by rw [← HS.out, HF.out]; exact (hown.below (below_drewN (Below.refl _ _) _)).mono hBW, HB.out.trans ((HWM.out _).mono hBW)⟩
      · have herr := dec_err 0 (zs.drop p) (by rw [hD]; exact he)
        rw [hD] at herr
        obtain ⟨h1, h2, h3⟩ := herr
        simp only [] at h1 h2 h3
        subst h1 h2
        rw [if_neg he] at htk
        have HTK := Lib.hid htk
        clear htk
        rcases h3 with rfl | rfl
        · have HF := Lib.hid (HGo.out.stop (scan_short hr0 hD))
          clear hr0 hD he hrl
          go_wp2_with fail
          refine HTK.out.mono ?_
          rintro e w2 ⟨rfl, rfl⟩
          go_wp2_with fail
          rw [Exit.noGoto_ret]
          go_ret3
          exact ⟨_, fin_scan (HS.out.symm.trans HF.out) rfl rfl, by rw [← HS.out, HF.out]; exact hown.mono hBW, HB.out.trans (hwl.mono hBW)⟩
        · have HF := Lib.hid (HGo.out.stop (scan_bad hr0 hD))
          clear hr0 hD he hrl
          go_wp2_with fail
          refine HTK.out.mono ?_
          rintro e w2 ⟨rfl, rfl⟩
          go_wp2_with fail
          rw [Exit.noGoto_ret]
          go_ret3
          exact ⟨_, fin_scan (HS.out.symm.trans HF.out) rfl rfl, by rw [← HS.out, HF.out]; exact hown.mono hBW, HB.out.trans (hwl.mono hBW)⟩
    · have hpn : p = n := by omega
      have HF := Lib.hid (HGo.out.stop (by rw [List.drop_of_length_le (by rw [HL.out]; omega)]; exact scanS_nil))
      clear hpn
      go_wp2_with fail
      rw [Exit.noGoto_ret]
      go_ret3
      exact ⟨_, fin_scan (HS.out.symm.trans HF.out) rfl rfl, by rw [← HS.out, HF.out]; exact hown.mono hBW, HB.out.trans (hwl.mono hBW)⟩
end Go.Proofs.YtplnaaokapilpaaDoor.Vm

namespace Go.Proofs.YtplnaaokapilpaaDoor.Vm
open Go.RowKit

theorem wrap_sum (q x : Nat) (h : q + x + 4 ≤ 1099511627776) : IntKind.i64.wrap ((q : Int) + x + 4) = (q : Int) + x + 4 := by rw [IntKind.wrap_i64]; omega
theorem cut_facts {q x n c : Nat} (h : q + x + 4 ≤ n) (hnc : n ≤ c) : (0 : Int) ≤ (q : Int) + x ∧ (0 : Int) ≤ (q : Int) + x + 4 ∧ (q : Int) ≤ (q : Int) + x ∧ (q : Int) + x ≤ c ∧ (q : Int) + x + 4 ≤ c ∧ ¬ c = q ∧ ¬ c = q + x ∧ (q : Int) + x ≤ (q : Int) + x + 4 := by omega
theorem four_same {X : Nat} {l : List Nat} (hX : X < 4294967296) (h4 : l.length = 4) (hl : ∀ x ∈ l, x < 256) : sameB (four X) l = decide (X = num l) := by
  unfold sameB
  by_cases h : X = num l
  · rw [decide_eq_true h, h, four_num h4 hl]; simp
  · rw [decide_eq_false h]
    refine decide_eq_false (fun he => h ?_)
    rw [← he, num_four hX]

end Go.Proofs.YtplnaaokapilpaaDoor.Vm
