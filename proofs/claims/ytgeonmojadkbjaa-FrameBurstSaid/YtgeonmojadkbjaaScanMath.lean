/- The plain mathematics of frames: how bytes are wrapped (fr), and what stands at the beginning of bytes (scanS). No program is named here. -/
import Derived.Test.YtgeonmojadkbjaaMath
import Derived.Test.YtgeonmojadkbjaaCrc
namespace Go.Proofs.Ytgeonmojadkbjaa.Vm

/-- The frame of bytes. -/
def fr (zs : List Nat) : List Nat := enc zs.length ++ zs ++ four (crc zs)
def frs (ls : List (List Nat)) : List Nat := ls.flatMap fr

/-- The first frame's contents, and its length. -/
def bodyOf (r : List Nat) : List Nat := (r.drop (dec 0 r).2.1).take (dec 0 r).1
def sizeF (r : List Nat) : Nat := (dec 0 r).2.1 + (dec 0 r).1 + 4
def sumOf (r : List Nat) : List Nat := (r.drop ((dec 0 r).2.1 + (dec 0 r).1)).take 4
/-- A whole frame stands at the beginning. -/
abbrev Whole (r : List Nat) : Prop := (dec 0 r).2.2 = 0 ∧ (dec 0 r).1 ≤ 1000000 ∧ sizeF r ≤ r.length ∧ crc (bodyOf r) = num (sumOf r)
/-- The state of a rest at whose beginning no whole frame stands. -/
def restS (r : List Nat) : Nat :=
  if (dec 0 r).2.2 = 2 then 1 else if (dec 0 r).2.2 ≠ 0 ∨ 1000000 < (dec 0 r).1 then 2 else if r.length < sizeF r then 1 else if sizeF r = r.length then 1 else 2

def scanF : Nat → List Nat → List (List Nat) × Nat × Nat
  | 0, _ => ([], 0, 0)
  | f + 1, r => if r = [] then ([], 0, 0) else
      if Whole r then (bodyOf r :: (scanF f (r.drop (sizeF r))).1, sizeF r + (scanF f (r.drop (sizeF r))).2.1, (scanF f (r.drop (sizeF r))).2.2) else ([], 0, restS r)

theorem scanF_any (f : Nat) : ∀ (g : Nat) (r : List Nat), r.length ≤ f → r.length ≤ g → scanF f r = scanF g r := by
  induction f with
  | zero =>
    intro g r hf hg
    obtain rfl : r = [] := List.eq_nil_of_length_eq_zero (by omega)
    cases g <;> simp [scanF]
  | succ f ih =>
    intro g r hf hg
    cases g with
    | zero =>
      obtain rfl : r = [] := List.eq_nil_of_length_eq_zero (by omega)
      simp [scanF]
    | succ g =>
      by_cases h0 : r = []
      · simp [scanF, h0]
      · by_cases hw : Whole r
        · have hl : (r.drop (sizeF r)).length + 4 ≤ r.length := by
            have := hw.2.2.1
            simp only [List.length_drop]
            unfold sizeF at *
            omega
          simp only [scanF, if_neg h0, if_pos hw]
          rw [ih g (r.drop (sizeF r)) (by omega) (by omega)]
        · simp only [scanF, if_neg h0, if_neg hw]
/-- What stands at the beginning of bytes: the contents, their frames' length, the state of the rest. -/
def scanS (r : List Nat) : List (List Nat) × Nat × Nat := scanF r.length r

theorem scanS_nil : scanS [] = ([], 0, 0) := rfl
theorem whole_ne {r : List Nat} (h : Whole r) : r ≠ [] := by
  intro h0
  subst h0
  have := h.1
  simp [dec] at this
theorem scanS_ok {r : List Nat} (h : Whole r) : scanS r = (bodyOf r :: (scanS (r.drop (sizeF r))).1, sizeF r + (scanS (r.drop (sizeF r))).2.1, (scanS (r.drop (sizeF r))).2.2) := by
  have hl : (r.drop (sizeF r)).length + 4 ≤ r.length := by
    have := h.2.2.1
    simp only [List.length_drop]
    unfold sizeF at *
    omega
  obtain ⟨f, hf⟩ : ∃ f, r.length = f + 1 := ⟨r.length - 1, by omega⟩
  unfold scanS
  rw [hf, scanF, if_neg (whole_ne h), if_pos h, scanF_any f (r.drop (sizeF r)).length (r.drop (sizeF r)) (by omega) (Nat.le_refl _)]
theorem scanS_no {r : List Nat} (h0 : r ≠ []) (h : ¬ Whole r) : scanS r = ([], 0, restS r) := by
  obtain ⟨f, hf⟩ : ∃ f, r.length = f + 1 := ⟨r.length - 1, by have := List.length_pos_iff.2 h0; omega⟩
  unfold scanS
  rw [hf, scanF, if_neg h0, if_neg h]

/-- Bytes of a frame's form, whatever its checksum, and whatever stands behind. -/
theorem form_dec (l cs t : List Nat) (hl : l.length ≤ 1000000) : dec 0 (enc l.length ++ l ++ cs ++ t) = (l.length, (enc l.length).length, 0) := by
  rw [List.append_assoc, List.append_assoc]
  exact dec_enc64 l.length _ (by omega)
theorem form_body (l cs t : List Nat) (hl : l.length ≤ 1000000) : bodyOf (enc l.length ++ l ++ cs ++ t) = l := by
  unfold bodyOf
  rw [form_dec l cs t hl]
  simp [List.append_assoc]
theorem form_size (l cs t : List Nat) (hl : l.length ≤ 1000000) : sizeF (enc l.length ++ l ++ cs ++ t) = (enc l.length).length + l.length + 4 := by
  unfold sizeF
  rw [form_dec l cs t hl]
theorem form_sum (l cs t : List Nat) (hl : l.length ≤ 1000000) (hc : cs.length = 4) : sumOf (enc l.length ++ l ++ cs ++ t) = cs := by
  unfold sumOf
  rw [form_dec l cs t hl]
  have e : (enc l.length).length + l.length = (enc l.length ++ l).length := by simp
  rw [List.append_assoc, e, List.drop_left, ← hc, List.take_left]
theorem form_drop (l cs t : List Nat) (hl : l.length ≤ 1000000) (hc : cs.length = 4) : (enc l.length ++ l ++ cs ++ t).drop (sizeF (enc l.length ++ l ++ cs ++ t)) = t := by
  rw [form_size l cs t hl]
  have e : (enc l.length).length + l.length + 4 = (enc l.length ++ l ++ cs).length := by simp; omega
  rw [e, List.drop_left]
theorem form_whole {l cs t : List Nat} (hl : l.length ≤ 1000000) (hc : cs.length = 4) (h : crc l = num cs) : Whole (enc l.length ++ l ++ cs ++ t) := by
  refine ⟨?_, ?_, ?_, ?_⟩
  · rw [form_dec l cs t hl]
  · rw [form_dec l cs t hl]; exact hl
  · rw [form_size l cs t hl]; simp; omega
  · rw [form_body l cs t hl, form_sum l cs t hl hc, h]
theorem form_not {l cs t : List Nat} (hl : l.length ≤ 1000000) (hc : cs.length = 4) (h : crc l ≠ num cs) : scanS (enc l.length ++ l ++ cs ++ t) = ([], 0, if t = [] then 1 else 2) := by
  have hn : enc l.length ++ l ++ cs ++ t ≠ [] := by
    intro h0
    have := congrArg List.length h0
    simp only [List.length_append, List.length_nil] at this
    omega
  have hw : ¬ Whole (enc l.length ++ l ++ cs ++ t) := by
    intro hw
    have := hw.2.2.2
    rw [form_body l cs t hl, form_sum l cs t hl hc] at this
    exact h this
  rw [scanS_no hn hw]
  unfold restS
  rw [form_dec l cs t hl, form_size l cs t hl]
  have hlen : (enc l.length ++ l ++ cs ++ t).length = (enc l.length).length + l.length + 4 + t.length := by simp; omega
  rw [hlen]
  simp only []
  rw [if_neg (by omega), if_neg (by omega), if_neg (by omega)]
  by_cases ht : t = []
  · subst ht; simp
  · have := List.length_pos_iff.2 ht
    rw [if_neg (by omega), if_neg ht]

theorem four_len (c : Nat) : (four c).length = 4 := rfl
theorem fr_whole {l : List Nat} (t : List Nat) (hl : l.length ≤ 1000000) : scanS (fr l ++ t) = (l :: (scanS t).1, (fr l).length + (scanS t).2.1, (scanS t).2.2) := by
  unfold fr
  have h := form_whole (t := t) hl (four_len (crc l)) (num_four (crc_lt l)).symm
  rw [scanS_ok h, form_drop l _ t hl (four_len _), form_body l _ t hl, form_size l _ t hl]
  simp [four_len, Nat.add_assoc]
theorem frs_whole (ls : List (List Nat)) (t : List Nat) (h : ∀ l ∈ ls, l.length ≤ 1000000) : scanS (frs ls ++ t) = (ls ++ (scanS t).1, (frs ls).length + (scanS t).2.1, (scanS t).2.2) := by
  induction ls with
  | nil => simp [frs]
  | cons l r ih =>
    have e : frs (l :: r) ++ t = fr l ++ (frs r ++ t) := by simp [frs]
    have e2 : (frs (l :: r)).length = (fr l).length + (frs r).length := by simp [frs]
    rw [e, fr_whole _ (h l (List.mem_cons_self ..)), ih (fun x hx => h x (List.mem_cons_of_mem _ hx)), e2]
    simp [Nat.add_assoc]

/-- A number whose bytes are cut. -/
theorem dec_short (k : Nat) : ∀ (i n j : Nat), i + k = 9 → n < 2 * 128 ^ k → (0 < i → 0 < n) → j < (enc n).length → dec i ((enc n).take j) = (0, 0, 2) := by
  induction k with
  | zero =>
    intro i n j hi hn h0 hj
    rw [enc_small (by omega)] at hj ⊢
    obtain rfl : j = 0 := by simpa using hj
    simp [dec]
  | succ k ih =>
    intro i n j hi hn h0 hj
    by_cases h1 : n < 128
    · rw [enc_small h1] at hj ⊢
      obtain rfl : j = 0 := by simpa using hj
      simp [dec]
    · rw [enc_big (by omega)] at hj ⊢
      cases j with
      | zero => simp [dec]
      | succ j =>
        have e := ih (i + 1) (n / 128) j (by omega) (by rw [Nat.pow_succ] at hn; omega) (fun _ => by omega) (by simpa using hj)
        rw [List.take_succ_cons, dec_fail _ (by unfold Bad; omega) (by omega) (by rw [e]; simp), e]

/-- A frame that is cut. -/
theorem fr_cut {l : List Nat} (j : Nat) (hl : l.length ≤ 1000000) (hj : j < (fr l).length) : scanS ((fr l).take j) = ([], 0, if j = 0 then 0 else 1) := by
  by_cases h0 : j = 0
  · subst h0; simp [scanS_nil]
  have hfl : (fr l).length = (enc l.length).length + l.length + 4 := by simp [fr, four_len]; omega
  have hlen : ((fr l).take j).length = j := by rw [List.length_take]; omega
  have hn : (fr l).take j ≠ [] := by intro e; rw [e] at hlen; simp at hlen; omega
  rw [if_neg h0]
  by_cases h1 : j < (enc l.length).length
  · have e : (fr l).take j = (enc l.length).take j := by unfold fr; rw [List.append_assoc, List.take_append_of_le_length (by omega)]
    have hd : dec 0 ((fr l).take j) = (0, 0, 2) := by rw [e]; exact dec_short 9 0 l.length j rfl (by omega) (by omega) h1
    rw [scanS_no hn (fun hw => by have := hw.1; rw [hd] at this; simp at this)]
    unfold restS
    rw [hd]; simp
  · have e : (fr l).take j = enc l.length ++ ((l ++ four (crc l)).take (j - (enc l.length).length)) := by
      unfold fr; rw [List.append_assoc, List.take_append, List.take_of_length_le (by omega)]
    have hd : dec 0 ((fr l).take j) = (l.length, (enc l.length).length, 0) := by rw [e]; exact dec_enc64 _ _ (by omega)
    have hs : sizeF ((fr l).take j) = (enc l.length).length + l.length + 4 := by unfold sizeF; rw [hd]
    rw [scanS_no hn (fun hw => by have := hw.2.2.1; rw [hs, hlen] at this; omega)]
    unfold restS
    rw [hd, hs, hlen]
    simp only []
    rw [if_neg (by omega), if_neg (by omega), if_pos (by omega)]

section
variable {r : List Nat} {x k : Nat}
theorem scan_short (h0 : r ≠ []) (hD : dec 0 r = (0, 0, 2)) : scanS r = ([], 0, 1) := by
  rw [scanS_no h0 (fun hw => by have := hw.1; rw [hD] at this; simp at this)]
  unfold restS
  rw [hD]; simp
theorem scan_bad (h0 : r ≠ []) (hD : dec 0 r = (0, 0, 3)) : scanS r = ([], 0, 2) := by
  rw [scanS_no h0 (fun hw => by have := hw.1; rw [hD] at this; simp at this)]
  unfold restS
  rw [hD]; simp
theorem scan_great (h0 : r ≠ []) (hD : dec 0 r = (x, k, 0)) (hx : 1000000 < x) : scanS r = ([], 0, 2) := by
  rw [scanS_no h0 (fun hw => by have := hw.2.1; rw [hD] at this; simp at this; omega)]
  unfold restS
  rw [hD]; simp [hx]
theorem scan_few (h0 : r ≠ []) (hD : dec 0 r = (x, k, 0)) (hx : x ≤ 1000000) (hl : r.length < k + x + 4) : scanS r = ([], 0, 1) := by
  have hs : sizeF r = k + x + 4 := by unfold sizeF; rw [hD]
  rw [scanS_no h0 (fun hw => by have := hw.2.2.1; omega)]
  unfold restS
  rw [hD, hs]
  simp only []
  rw [if_neg (by omega), if_neg (by omega), if_pos hl]
theorem scan_sum (h0 : r ≠ []) (hD : dec 0 r = (x, k, 0)) (hx : x ≤ 1000000) (hl : k + x + 4 ≤ r.length) (hc : crc ((r.drop k).take x) ≠ num ((r.drop (k + x)).take 4)) : scanS r = ([], 0, if k + x + 4 = r.length then 1 else 2) := by
  have hs : sizeF r = k + x + 4 := by unfold sizeF; rw [hD]
  rw [scanS_no h0 (fun hw => by have := hw.2.2.2; unfold bodyOf sumOf at this; rw [hD] at this; exact hc this)]
  unfold restS
  rw [hD, hs]
  simp only []
  rw [if_neg (by omega), if_neg (by omega), if_neg (by omega)]
theorem scan_whole (hD : dec 0 r = (x, k, 0)) (hx : x ≤ 1000000) (hl : k + x + 4 ≤ r.length) (hc : crc ((r.drop k).take x) = num ((r.drop (k + x)).take 4)) : Whole r ∧ bodyOf r = (r.drop k).take x ∧ sizeF r = k + x + 4 := by
  have hs : sizeF r = k + x + 4 := by unfold sizeF; rw [hD]
  have hb : bodyOf r = (r.drop k).take x := by unfold bodyOf; rw [hD]
  refine ⟨⟨by rw [hD], by rw [hD]; exact hx, by omega, ?_⟩, hb, hs⟩
  rw [hb, hc]
  unfold sumOf
  rw [hD]
end

/-- How the loops of both Scans go on. -/
structure Goes (zs : List Nat) (out : List (List Nat)) (p : Nat) : Prop where
  le : p ≤ zs.length
  ls : out ++ (scanS (zs.drop p)).1 = (scanS zs).1
  at' : p + (scanS (zs.drop p)).2.1 = (scanS zs).2.1
  rest : (scanS (zs.drop p)).2.2 = (scanS zs).2.2
theorem Goes.start (zs : List Nat) : Goes zs [] 0 := ⟨Nat.zero_le _, by simp, by simp, by simp⟩
theorem Goes.stop {zs : List Nat} {out : List (List Nat)} {p s : Nat} (h : Goes zs out p) (hs : scanS (zs.drop p) = ([], 0, s)) : scanS zs = (out, p, s) := by
  have h1 := h.ls
  have h2 := h.at'
  have h3 := h.rest
  rw [hs] at h1 h2 h3
  simp only [List.append_nil, Nat.add_zero] at h1 h2 h3
  exact Prod.ext h1.symm (Prod.ext h2.symm h3.symm)
theorem Goes.next {zs : List Nat} {out : List (List Nat)} {p : Nat} (h : Goes zs out p) (hw : Whole (zs.drop p)) : Goes zs (out ++ [bodyOf (zs.drop p)]) (p + sizeF (zs.drop p)) := by
  have hs := scanS_ok hw
  have h1 := h.ls
  have h2 := h.at'
  have h3 := h.rest
  have h4 := hw.2.2.1
  have h5 := h.le
  rw [List.length_drop] at h4
  rw [hs, List.drop_drop] at h1 h2 h3
  exact ⟨by omega, by rw [← h1]; simp, by rw [← h2, Nat.add_assoc], h3⟩
end Go.Proofs.Ytgeonmojadkbjaa.Vm
