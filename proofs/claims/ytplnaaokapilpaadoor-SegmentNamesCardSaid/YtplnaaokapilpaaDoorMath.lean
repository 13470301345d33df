/- The plain mathematics of variable-length numbers: how a number is laid as bytes (enc), and how bytes are read (dec). No program is named here. -/
import Derived.Below
namespace Go.Proofs.YtplnaaokapilpaaDoor.Vm

/-- A number as bytes, with a bound on how many. -/
def encF : Nat → Nat → List Nat
  | 0, n => [n]
  | f + 1, n => if n < 128 then [n] else (n % 128 + 128) :: encF f (n / 128)
theorem encF_any (f : Nat) : ∀ n g, n ≤ f → n ≤ g → encF f n = encF g n := by
  induction f with
  | zero =>
    intro n g hn hg
    obtain rfl : n = 0 := by omega
    cases g <;> rfl
  | succ f ih =>
    intro n g hn hg
    cases g with
    | zero =>
      obtain rfl : n = 0 := by omega
      rfl
    | succ g =>
      by_cases h : n < 128
      · simp [encF, h]
      · simp only [encF, if_neg h]
        rw [ih (n / 128) g (by omega) (by omega)]
/-- A number as bytes. -/
def enc (n : Nat) : List Nat := encF n n

theorem enc_small {n : Nat} (h : n < 128) : enc n = [n] := by unfold enc; cases n <;> simp [encF, h]
theorem enc_big {n : Nat} (h : 128 ≤ n) : enc n = (n % 128 + 128) :: enc (n / 128) := by
  unfold enc
  obtain ⟨m, rfl⟩ : ∃ m, n = m + 1 := ⟨n - 1, by omega⟩
  rw [encF, if_neg (by omega), encF_any m ((m + 1) / 128) ((m + 1) / 128) (by omega) (Nat.le_refl _)]

/-- The numbers of a list, one behind the other. -/
def encs (l : List Nat) : List Nat := l.flatMap enc

theorem enc_len (f : Nat) : ∀ n, n < 128 ^ (f + 1) → 1 ≤ (enc n).length ∧ (enc n).length ≤ f + 1 := by
  induction f with
  | zero => intro n h; rw [enc_small (by omega)]; simp
  | succ f ih =>
    intro n h
    by_cases h1 : n < 128
    · rw [enc_small h1]; simp
    · rw [enc_big (by omega)]
      have := ih (n / 128) (by rw [Nat.div_lt_iff_lt_mul (by omega)]; rw [Nat.pow_succ] at h; omega)
      simp; omega

theorem enc_len64 {n : Nat} (h : n < 18446744073709551616) : 1 ≤ (enc n).length ∧ (enc n).length ≤ 10 := enc_len 9 n (by omega)

theorem enc_byte (f : Nat) : ∀ n, n ≤ f → ∀ x ∈ enc n, x < 256 := by
  induction f with
  | zero => intro n h x hx; rw [enc_small (by omega)] at hx; simp at hx; omega
  | succ f ih =>
    intro n h x hx
    by_cases h1 : n < 128
    · rw [enc_small h1] at hx; simp at hx; omega
    · rw [enc_big (by omega)] at hx
      rcases List.mem_cons.1 hx with rfl | hx
      · omega
      · exact ih _ (by omega) x hx

/-- A number read off bytes, the i-th byte first: the number, how many bytes, the error (0: none; 2: too short; 3: no form). -/
def dec (i : Nat) : List Nat → Nat × Nat × Nat
  | [] => (0, 0, 2)
  | c :: r => if (0 < i ∧ c = 0) ∨ (i = 9 ∧ 1 < c) then (0, 0, 3) else if c < 128 then (c, 1, 0) else
      if (dec (i + 1) r).2.2 = 0 then (c % 128 + 128 * (dec (i + 1) r).1, (dec (i + 1) r).2.1 + 1, 0) else (0, 0, (dec (i + 1) r).2.2)

/-- A byte that can't stand at place i. -/
abbrev Bad (i c : Nat) : Prop := (0 < i ∧ c = 0) ∨ (i = 9 ∧ 1 < c)
theorem dec_bad {i c : Nat} (r : List Nat) (h : Bad i c) : dec i (c :: r) = (0, 0, 3) := by rw [dec, if_pos h]
theorem dec_one {i c : Nat} (r : List Nat) (h : ¬ Bad i c) (hc : c < 128) : dec i (c :: r) = (c, 1, 0) := by rw [dec, if_neg h, if_pos hc]
theorem dec_more {i c : Nat} (r : List Nat) (h : ¬ Bad i c) (hc : ¬ c < 128) (he : (dec (i + 1) r).2.2 = 0) :
    dec i (c :: r) = (c % 128 + 128 * (dec (i + 1) r).1, (dec (i + 1) r).2.1 + 1, 0) := by rw [dec, if_neg h, if_neg hc, if_pos he]
theorem dec_fail {i c : Nat} (r : List Nat) (h : ¬ Bad i c) (hc : ¬ c < 128) (he : ¬ (dec (i + 1) r).2.2 = 0) :
    dec i (c :: r) = (0, 0, (dec (i + 1) r).2.2) := by rw [dec, if_neg h, if_neg hc, if_neg he]

/-- What is read so far, and the rest: the loop's own form. -/
def decTo (i acc : Nat) (l : List Nat) : Nat × Nat × Nat :=
  if (dec i l).2.2 = 0 then (acc + 128 ^ i * (dec i l).1, i + (dec i l).2.1, 0) else (0, 0, (dec i l).2.2)

theorem decTo_nil (i acc : Nat) : decTo i acc [] = (0, 0, 2) := by simp [decTo, dec]
theorem decTo_bad (i acc c : Nat) (r : List Nat) (h : Bad i c) : decTo i acc (c :: r) = (0, 0, 3) := by simp [decTo, dec_bad r h]
theorem decTo_last (i acc c : Nat) (r : List Nat) (h : ¬ Bad i c) (hc : c < 128) : decTo i acc (c :: r) = (acc + 128 ^ i * c, i + 1, 0) := by
  simp [decTo, dec_one r h hc]
theorem decTo_more (i acc c : Nat) (r : List Nat) (h : ¬ Bad i c) (hc : ¬ c < 128) : decTo i acc (c :: r) = decTo (i + 1) (acc + 128 ^ i * (c % 128)) r := by
  unfold decTo
  by_cases he : (dec (i + 1) r).2.2 = 0
  · rw [dec_more r h hc he, if_pos rfl, if_pos he]
    refine Prod.ext ?_ (Prod.ext ?_ rfl)
    · simp only [Nat.pow_succ, Nat.mul_add, Nat.add_assoc, Nat.mul_assoc]
    · simp only []; omega
  · rw [dec_fail r h hc he, if_neg he, if_neg he]

theorem dec_err (i : Nat) : ∀ (l : List Nat), (dec i l).2.2 ≠ 0 → (dec i l).1 = 0 ∧ (dec i l).2.1 = 0 ∧ ((dec i l).2.2 = 2 ∨ (dec i l).2.2 = 3) := by
  intro l
  induction l generalizing i with
  | nil => intro _; simp [dec]
  | cons c r ih =>
    intro h0
    by_cases h : Bad i c
    · rw [dec_bad r h]; simp
    · by_cases hc : c < 128
      · rw [dec_one r h hc] at h0; simp at h0
      · by_cases he : (dec (i + 1) r).2.2 = 0
        · rw [dec_more r h hc he] at h0; simp at h0
        · rw [dec_fail r h hc he]; exact ⟨rfl, rfl, (ih (i + 1) he).2.2⟩

theorem decTo_start (l : List Nat) : decTo 0 0 l = dec 0 l := by
  unfold decTo
  by_cases he : (dec 0 l).2.2 = 0
  · rw [if_pos he]; refine Prod.ext (by simp) (Prod.ext (by simp) (by simp [he]))
  · rw [if_neg he]
    obtain ⟨h1, h2, _⟩ := dec_err 0 l he
    exact Prod.ext h1.symm (Prod.ext h2.symm rfl)

/-- Ten bytes are enough. -/
theorem dec_take (k : Nat) : ∀ (i : Nat) (l : List Nat), i + k = 9 → dec i (l.take (k + 1)) = dec i l := by
  induction k with
  | zero =>
    intro i l hi
    obtain rfl : i = 9 := by omega
    cases l with
    | nil => rfl
    | cons c r =>
      rw [List.take_succ_cons]
      by_cases h : Bad 9 c
      · rw [dec_bad _ h, dec_bad _ h]
      · have hc : c < 128 := by unfold Bad at h; omega
        rw [dec_one _ h hc, dec_one _ h hc]
  | succ k ih =>
    intro i l hi
    cases l with
    | nil => rfl
    | cons c r => rw [List.take_succ_cons, dec, dec, ih (i + 1) r (by omega)]

theorem pow_pos128 (k : Nat) : 1 ≤ 128 ^ k := Nat.pow_pos (by omega)

theorem dec_ok (k : Nat) : ∀ (i : Nat) (l : List Nat), i + k = 9 → (∀ x ∈ l, x < 256) → (dec i l).2.2 = 0 →
    1 ≤ (dec i l).2.1 ∧ (dec i l).2.1 ≤ k + 1 ∧ (dec i l).2.1 ≤ l.length ∧ (dec i l).1 < 2 * 128 ^ k ∧ (0 < i → 0 < (dec i l).1) ∧ enc (dec i l).1 = l.take (dec i l).2.1 := by
  induction k with
  | zero =>
    intro i l hi hl h0
    obtain rfl : i = 9 := by omega
    cases l with
    | nil => simp [dec] at h0
    | cons c r =>
      by_cases h : Bad 9 c
      · rw [dec_bad r h] at h0; simp at h0
      · have hc : c < 128 := by unfold Bad at h; omega
        rw [dec_one r h hc, enc_small hc]
        unfold Bad at h
        simp; omega
  | succ k ih =>
    intro i l hi hl h0
    cases l with
    | nil => simp [dec] at h0
    | cons c r =>
      by_cases h : Bad i c
      · rw [dec_bad r h] at h0; simp at h0
      · have hp := pow_pos128 k
        by_cases hc : c < 128
        · rw [dec_one r h hc, enc_small hc, Nat.pow_succ]
          unfold Bad at h
          simp; omega
        · have hr := ih (i + 1) r (by omega) (fun x hx => hl x (List.mem_cons_of_mem _ hx))
          have hc2 : c < 256 := hl c (List.mem_cons_self ..)
          by_cases he : (dec (i + 1) r).2.2 = 0
          · obtain ⟨a1, a2, a3, a4, a5, a6⟩ := hr he
            have a5 := a5 (by omega)
            rw [dec_more r h hc he]
            simp only [List.length_cons]
            refine ⟨by omega, by omega, by omega, by rw [Nat.pow_succ]; omega, fun _ => by omega, ?_⟩
            rw [enc_big (by omega), List.take_succ_cons, ← a6]
            congr 1
            · omega
            · congr 1; omega
          · rw [dec_fail r h hc he] at h0; exact absurd h0 he

/-- What was laid is read, whatever stands behind. -/
theorem dec_enc (k : Nat) : ∀ (i n : Nat) (r : List Nat), i + k = 9 → n < 2 * 128 ^ k → (0 < i → 0 < n) → dec i (enc n ++ r) = (n, (enc n).length, 0) := by
  induction k with
  | zero =>
    intro i n r hi hn h0
    have := h0 (by omega)
    rw [enc_small (by omega), List.singleton_append, dec_one r (by unfold Bad; omega) (by omega)]
    simp
  | succ k ih =>
    intro i n r hi hn h0
    by_cases h1 : n < 128
    · rw [enc_small h1, List.singleton_append, dec_one r (by unfold Bad; omega) h1]; simp
    · have e := ih (i + 1) (n / 128) r (by omega) (by rw [Nat.pow_succ] at hn; omega) (fun _ => by omega)
      rw [enc_big (by omega), List.cons_append, dec_more _ (by unfold Bad; omega) (by omega) (by rw [e]), e]
      simp
      omega

theorem dec_enc64 (n : Nat) (r : List Nat) (hn : n < 18446744073709551616) : dec 0 (enc n ++ r) = (n, (enc n).length, 0) :=
  dec_enc 9 0 n r rfl (by omega) (by omega)

/-- What Take answers. -/
def takeS (zs : List Nat) (p : Int) : Nat × Nat × Nat :=
  if p < 0 ∨ (zs.length : Int) < p then (0, 0, 1) else
    if (dec 0 (zs.drop p.toNat)).2.2 = 0 then ((dec 0 (zs.drop p.toNat)).1, p.toNat + (dec 0 (zs.drop p.toNat)).2.1, 0) else (0, 0, (dec 0 (zs.drop p.toNat)).2.2)

theorem takeS_ok {zs : List Nat} {p : Int} (hz : ∀ x ∈ zs, x < 256) (he : (takeS zs p).2.2 = 0) :
    0 ≤ p ∧ p.toNat < (takeS zs p).2.1 ∧ (takeS zs p).2.1 ≤ p.toNat + 10 ∧ (takeS zs p).2.1 ≤ zs.length ∧ (takeS zs p).1 < 18446744073709551616 ∧
      enc (takeS zs p).1 = (zs.drop p.toNat).take ((takeS zs p).2.1 - p.toNat) := by
  unfold takeS at he ⊢
  by_cases h1 : p < 0 ∨ (zs.length : Int) < p
  · rw [if_pos h1] at he; simp at he
  · rw [if_neg h1] at he ⊢
    by_cases h2 : (dec 0 (zs.drop p.toNat)).2.2 = 0
    · have h3 := dec_ok 9 0 (zs.drop p.toNat) rfl (fun x hx => hz x (List.mem_of_mem_drop hx)) h2
      obtain ⟨a1, a2, a3, a4, _, a6⟩ := h3
      rw [List.length_drop] at a3
      rw [if_pos h2]
      refine ⟨by omega, by simp only []; omega, by simp only []; omega, by simp only []; omega, by simp only []; omega, ?_⟩
      simp only []
      rw [a6, Nat.add_sub_cancel_left]
    · rw [if_neg h2] at he; exact absurd he h2

theorem takeS_err {zs : List Nat} {p : Int} (he : (takeS zs p).2.2 ≠ 0) : takeS zs p = (0, 0, (takeS zs p).2.2) := by
  unfold takeS at he ⊢
  by_cases h1 : p < 0 ∨ (zs.length : Int) < p
  · rw [if_pos h1]
  · rw [if_neg h1] at he ⊢
    by_cases h2 : (dec 0 (zs.drop p.toNat)).2.2 = 0
    · rw [if_pos h2] at he; simp at he
    · rw [if_neg h2]
def takeTo (p : Nat) (D : Nat × Nat × Nat) : Nat × Nat × Nat := if D.2.2 = 0 then (D.1, p + D.2.1, 0) else (0, 0, D.2.2)
theorem takeTo_ok {p x k : Nat} {D : Nat × Nat × Nat} (h : D = (x, k, 0)) : takeTo p D = (x, p + k, 0) := by rw [h]; rfl
theorem takeTo_err {p e : Nat} {D : Nat × Nat × Nat} (h : D = (0, 0, e)) (he : e ≠ 0) : takeTo p D = (0, 0, e) := by rw [h]; simp [takeTo, he]
theorem takeS_in (zs : List Nat) (p : Nat) (hp : p ≤ zs.length) : takeS zs p = takeTo p (dec 0 (zs.drop p)) := by
  unfold takeS takeTo
  rw [if_neg (by omega), Int.toNat_natCast]

def zig (n : Int) : Int := if 0 ≤ n then 2 * n else 2 * (-(n + 1)) + 1
def zag (n : Int) : Int := if n % 2 = 0 then n / 2 else -(n / 2) - 1

theorem zag_zig (n : Int) : zag (zig n) = n := by unfold zag zig; split <;> omega
theorem zig_bd {n : Int} (h1 : -9223372036854775808 ≤ n) (h2 : n ≤ 9223372036854775807) : 0 ≤ zig n ∧ zig n < 18446744073709551616 := by unfold zig; split <;> omega

end Go.Proofs.YtplnaaokapilpaaDoor.Vm
