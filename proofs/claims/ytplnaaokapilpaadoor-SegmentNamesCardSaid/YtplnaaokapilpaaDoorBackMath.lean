/- The plain mathematics of frames that are cut: what is scanned of a beginning. No program is named here. -/
import Derived.Test.YtplnaaokapilpaaDoorRefScans
namespace Go.Proofs.YtplnaaokapilpaaDoor.Vm

/-- How much there is, about. -/
def tot (ls : List (List Nat)) : Nat := (ls.map fun l => l.length + 8).sum
theorem tot_cons (l : List Nat) (r : List (List Nat)) : tot (l :: r) = l.length + 8 + tot r := by simp [tot]
theorem tot_snoc (ls : List (List Nat)) (k : Nat) (hk : k < ls.length) : tot (ls.take (k + 1)) = tot (ls.take k) + ((ls.getD k []).length + 8) := by
  unfold tot
  rw [List.take_succ_eq_append_getElem hk, List.map_append, List.sum_append]
  simp [List.getD, hk]
theorem tot_mem {l : List Nat} : ∀ {ls : List (List Nat)}, l ∈ ls → l.length ≤ tot ls
  | l' :: r, h => by
    rw [tot_cons]
    rcases List.mem_cons.1 h with rfl | h
    · omega
    · have := tot_mem h; omega
theorem tot_len : ∀ ls : List (List Nat), ls.length ≤ tot ls
  | [] => Nat.le_refl _
  | l :: r => by rw [tot_cons, List.length_cons]; have := tot_len r; omega
theorem tot_take : ∀ (ls : List (List Nat)) (k : Nat), tot (ls.take k) ≤ tot ls
  | [], k => by simp
  | l :: r, 0 => by simp [tot]
  | l :: r, k + 1 => by rw [List.take_succ_cons, tot_cons, tot_cons]; have := tot_take r k; omega
theorem frs_cons (l : List Nat) (r : List (List Nat)) : frs (l :: r) = fr l ++ frs r := by simp [frs]
theorem frs_append (a b : List (List Nat)) : frs (a ++ b) = frs a ++ frs b := by simp [frs]
theorem fr_length (l : List Nat) : (fr l).length = (enc l.length).length + l.length + 4 := by simp [fr, four_len]; omega
theorem frs_len : ∀ ls : List (List Nat), tot ls ≤ 3000 → (frs ls).length ≤ 2 * tot ls
  | [], _ => by simp [frs]
  | l :: r, h => by
    rw [tot_cons] at h ⊢
    have h1 := frs_len r (by omega)
    have h2 := (enc_len64 (n := l.length) (by omega)).2
    rw [frs_cons, List.length_append, fr_length]
    omega
theorem frs_snoc (ls : List (List Nat)) (k : Nat) (hk : k < ls.length) : frs (ls.take (k + 1)) = frs (ls.take k) ++ fr (ls.getD k []) := by
  rw [List.take_succ_eq_append_getElem hk, frs_append]
  simp [frs, List.getD, hk]
theorem frs_lt {ls : List (List Nat)} (h : ∀ l ∈ ls, ∀ x ∈ l, x < 256) : ∀ x ∈ frs ls, x < 256 := by
  intro x hx
  obtain ⟨l, hl, hx⟩ := List.mem_flatMap.1 hx
  simp only [fr, List.mem_append] at hx
  rcases hx with (hx | hx) | hx
  · exact enc_byte _ _ (Nat.le_refl _) x hx
  · exact h l hl x hx
  · exact four_byte _ x hx

/-- Where the frames end. -/
def endAt (ls : List (List Nat)) (j : Nat) : Nat := (frs (ls.take j)).length
theorem endAt_le (ls : List (List Nat)) (j : Nat) : endAt ls j ≤ (frs ls).length := by
  unfold endAt
  have : frs ls = frs (ls.take j) ++ frs (ls.drop j) := by rw [← frs_append, List.take_append_drop]
  rw [this, List.length_append]
  omega
def endsL (ls : List (List Nat)) (k : Nat) : List Nat := (List.range (k + 1)).map (endAt ls)
theorem endsL_zero (ls : List (List Nat)) : endsL ls 0 = [0] := by simp [endsL, endAt, frs]
theorem endsL_succ (ls : List (List Nat)) (k : Nat) : endsL ls (k + 1) = endsL ls k ++ [endAt ls (k + 1)] := by
  unfold endsL
  rw [List.range_succ, List.map_append]
  rfl
theorem endsL_len (ls : List (List Nat)) (k : Nat) : (endsL ls k).length = k + 1 := by simp [endsL]
theorem endsL_at (ls : List (List Nat)) (k j : Nat) (h : j ≤ k) : (endsL ls k).getD j 0 = endAt ls j := by
  simp [endsL, List.getD, show j < k + 1 by omega]

theorem scan_all (ls : List (List Nat)) (h : ∀ l ∈ ls, l.length ≤ 1000000) : scanS (frs ls) = (ls, (frs ls).length, 0) := by
  have := frs_whole ls [] h
  rw [List.append_nil, scanS_nil] at this
  rw [this]
  simp
/-- Of a beginning just the frames that are whole. -/
theorem scan_cut (ls : List (List Nat)) (h : ∀ l ∈ ls, l.length ≤ 1000000) (cut k : Nat) (hk : k ≤ ls.length) (h1 : endAt ls k ≤ cut) (h2 : k < ls.length → cut < endAt ls (k + 1)) (hc : cut ≤ (frs ls).length) :
    scanS ((frs ls).take cut) = (ls.take k, endAt ls k, if cut = endAt ls k then 0 else 1) := by
  by_cases hkl : k = ls.length
  · have e : endAt ls k = (frs ls).length := by unfold endAt; rw [List.take_of_length_le (by omega)]
    rw [e] at h1 ⊢
    obtain rfl : cut = (frs ls).length := by omega
    rw [List.take_length, scan_all ls h, if_pos rfl, List.take_of_length_le (by omega)]
  · have hlt : k < ls.length := by omega
    have h2 := h2 hlt
    have hd : ls.drop k = ls[k] :: ls.drop (k + 1) := List.drop_eq_getElem_cons hlt
    have e : frs ls = frs (ls.take k) ++ (fr ls[k] ++ frs (ls.drop (k + 1))) := by
      rw [← frs_cons, ← hd, ← frs_append, List.take_append_drop]
    have e1 : endAt ls (k + 1) = endAt ls k + (fr ls[k]).length := by
      unfold endAt
      rw [frs_snoc ls k hlt, List.length_append]
      simp [List.getD, hlt]
    have hb : (frs ls).take cut = frs (ls.take k) ++ (fr ls[k]).take (cut - endAt ls k) := by
      rw [e, List.take_append, List.take_of_length_le (by unfold endAt at h1; omega), List.take_append_of_le_length (by unfold endAt at *; omega)]
      rfl
    rw [hb, frs_whole _ _ (fun l hl => h l (List.mem_of_mem_take hl)), fr_cut (cut - endAt ls k) (h _ (List.getElem_mem _)) (by omega)]
    have e2 : (frs (ls.take k)).length = endAt ls k := rfl
    rw [e2]
    simp only [List.append_nil, Nat.add_zero]
    by_cases h0 : cut = endAt ls k
    · rw [if_pos h0, if_pos (by omega)]
    · rw [if_neg h0, if_neg (by omega)]
end Go.Proofs.YtplnaaokapilpaaDoor.Vm
