/- The plain mathematics of distances on a map: the steps of a grid, and the distance as one number. No program is named here. -/
import Derived.Test.YtgjolllacchdeaaGridMath
import Derived.Test.YtgjolllacchdeaaDistMath
namespace Go.Proofs.Ytgjolllacchdeaa.Vm

open Classical in
/-- The distance, or -1. -/
noncomputable def farI (S : Nat → List Nat) (to c : Nat) : Int := if h : ∃ n, FarS S to c n then (h.choose : Int) else -1
section
variable {S S' : Nat → List Nat} {to c x n m N : Nat} {l : List Int}
theorem farI_far (h : FarS S to c n) : farI S to c = n := by
  unfold farI
  rw [dif_pos ⟨n, h⟩]
  have hs := Exists.choose_spec (p := fun n => FarS S to c n) ⟨n, h⟩
  rw [hs.only h]
theorem farI_no (h : NoWay S to c) : farI S to c = -1 := by
  unfold farI
  rw [dif_neg (fun ⟨n, hn⟩ => hn.not h)]
theorem farI_case (S : Nat → List Nat) (to c : Nat) : (∃ n : Nat, farI S to c = n ∧ FarS S to c n) ∨ (farI S to c = -1 ∧ NoWay S to c) := by
  rcases far_or S to c with ⟨n, h⟩ | h
  · exact .inl ⟨n, farI_far h, h⟩
  · exact .inr ⟨farI_no h, h⟩
theorem farI_self : farI S to to = 0 := farI_far (far_zero.2 rfl)
theorem farI_zero : farI S to c = 0 ↔ c = to := by
  refine ⟨fun h => ?_, fun h => by subst h; exact farI_self⟩
  rcases farI_case S to c with ⟨n, h1, h2⟩ | ⟨h1, _⟩
  · obtain rfl : n = 0 := by omega
    exact far_zero.1 h2
  · omega
theorem farI_ge (S : Nat → List Nat) (to c : Nat) : -1 ≤ farI S to c := by
  rcases farI_case S to c with ⟨n, h, _⟩ | ⟨h, _⟩ <;> omega
theorem IsField.at (h : IsField S to N l) (hc : c < N) : l.getD c 0 = farI S to c := by
  rcases h.2 c hc with ⟨n, h1, h2⟩ | ⟨h1, h2⟩
  · rw [h1, farI_far h2]
  · rw [h1, farI_no h2]
/-- A step leads nearer by one at most. -/
theorem farI_near (hx : x ∈ S c) (h : 0 ≤ farI S to x) : 0 ≤ farI S to c ∧ farI S to c ≤ farI S to x + 1 := by
  rcases farI_case S to x with ⟨n, h1, h2⟩ | ⟨h1, _⟩
  · obtain ⟨k, hk, h3⟩ := h2.near hx
    rw [h1, farI_far h3]
    omega
  · omega
/-- From where it is far some step leads nearer by just one. -/
theorem farI_step (h : 0 < farI S to c) : ∃ x ∈ S c, 0 ≤ farI S to x ∧ farI S to x = farI S to c - 1 := by
  rcases farI_case S to c with ⟨n, h1, h2⟩ | ⟨h1, _⟩
  · obtain ⟨k, rfl⟩ : ∃ k, n = k + 1 := ⟨n - 1, by omega⟩
    obtain ⟨x, hx, h3⟩ := h2.step
    refine ⟨x, hx, ?_⟩
    rw [farI_far h3, h1]
    omega
  · omega
/-- Fewer steps let nothing be nearer. -/
theorem farI_more (hs : ∀ c x, x ∈ S' c → x ∈ S c) (h : 0 ≤ farI S' to c) : 0 ≤ farI S to c ∧ farI S to c ≤ farI S' to c := by
  rcases farI_case S' to c with ⟨n, h1, h2⟩ | ⟨h1, _⟩
  · obtain ⟨k, hk, h3⟩ := (Reach.more hs n c h2.1).far
    rw [h1, farI_far h3]
    omega
  · omega
/-- There, and on from there. -/
theorem farI_on {b : Nat} (h1 : 0 ≤ farI S b c) (h2 : 0 ≤ farI S to b) : 0 ≤ farI S to c ∧ farI S to c ≤ farI S b c + farI S to b := by
  rcases farI_case S b c with ⟨n, e1, f1⟩ | ⟨e1, _⟩
  · rcases farI_case S to b with ⟨m, e2, f2⟩ | ⟨e2, _⟩
    · obtain ⟨k, hk, h3⟩ := (Reach.on f2.1 n c f1.1).far
      rw [e1, e2, farI_far h3]
      omega
    · omega
  · omega
end

/-- The cells to which a step leads, none of them blocked. -/
def stepsS (W H : Int) (l : List Nat) (bl : List Int) (c : Nat) : List Nat :=
  [1, 2, 3, 4].filterMap fun way : Nat => if (goesS W H l c way).2 = true ∧ (goesS W H l c way).1 ∉ bl then some (goesS W H l c way).1.toNat else none
section
variable {W H : Int} {l : List Nat} {bl bl' : List Int} {c x : Nat}
theorem goesS_nat {cell way to : Int} (h : goesS W H l cell way = (to, true)) : 0 ≤ to ∧ to < (l.length : Int) := by
  have := (goesS_step h).1
  unfold floorS at this
  rw [Bool.and_eq_true, decide_eq_true_eq] at this
  exact this.1
theorem steps_mem : x ∈ stepsS W H l bl c ↔ ∃ way : Nat, (1 ≤ way ∧ way ≤ 4) ∧ goesS W H l c way = ((x : Int), true) ∧ (x : Int) ∉ bl := by
  unfold stepsS
  rw [List.mem_filterMap]
  refine ⟨fun ⟨way, hw, h⟩ => ?_, fun ⟨way, hw, h1, h2⟩ => ?_⟩
  · have hw4 : 1 ≤ way ∧ way ≤ 4 := by simp at hw; omega
    by_cases hc : (goesS W H l c way).2 = true ∧ (goesS W H l c way).1 ∉ bl
    · rw [if_pos hc] at h
      have hx : (goesS W H l c way).1.toNat = x := Option.some.inj h
      have hg : goesS W H l c way = ((goesS W H l c way).1, true) := Prod.ext rfl hc.1
      have h0 := (goesS_nat hg).1
      have hx2 : (goesS W H l c way).1 = (x : Int) := by omega
      exact ⟨way, hw4, by rw [hg, hx2], by rw [← hx2]; exact hc.2⟩
    · rw [if_neg hc] at h; cases h
  · refine ⟨way, by simp; omega, ?_⟩
    rw [h1, if_pos ⟨rfl, h2⟩]
    simp
theorem steps_in (h : x ∈ stepsS W H l bl c) : x < l.length := by
  obtain ⟨way, _, h1, _⟩ := steps_mem.1 h
  have := goesS_nat h1
  omega
theorem steps_more (h : ∀ b ∈ bl, b ∈ bl') : ∀ c x, x ∈ stepsS W H l bl' c → x ∈ stepsS W H l bl c := fun c x hx => by
  obtain ⟨way, h1, h2, h3⟩ := steps_mem.1 hx
  exact steps_mem.2 ⟨way, h1, h2, fun h4 => h3 (h _ h4)⟩
theorem steps_shut (h : (x : Int) ∈ bl) (c : Nat) : x ∉ stepsS W H l bl c := fun hx => by
  obtain ⟨_, _, _, h3⟩ := steps_mem.1 hx
  exact h3 h
end

/-- The distance from a cell to another one, as the chapter has it. -/
noncomputable def farG (W H : Int) (l : List Nat) (bl : List Int) (a b : Int) : Int := if floorS l a = true ∧ floorS l b = true then farI (stepsS W H l bl) b.toNat a.toNat else -1
theorem farG_ge (W H : Int) (l : List Nat) (bl : List Int) (a b : Int) : -1 ≤ farG W H l bl a b := by
  unfold farG
  split
  · exact farI_ge _ _ _
  · omega
theorem farG_floor {W H : Int} {l : List Nat} {bl : List Int} {a b : Int} (h : 0 ≤ farG W H l bl a b) : floorS l a = true ∧ floorS l b = true := by
  unfold farG at h
  by_cases hc : floorS l a = true ∧ floorS l b = true
  · exact hc
  · rw [if_neg hc] at h; omega
/-- What is blocked more lets nothing be nearer. -/
theorem farG_more {W H : Int} {l : List Nat} {bl bl' : List Int} {a b : Int} (hs : ∀ x ∈ bl, x ∈ bl') (h : 0 ≤ farG W H l bl' a b) : 0 ≤ farG W H l bl a b ∧ farG W H l bl a b ≤ farG W H l bl' a b := by
  have hf := farG_floor h
  unfold farG at h ⊢
  rw [if_pos hf] at h ⊢
  rw [if_pos hf]
  exact farI_more (steps_more hs) h
theorem farG_on {W H : Int} {l : List Nat} {bl : List Int} {a b c : Int} (h1 : 0 ≤ farG W H l bl a b) (h2 : 0 ≤ farG W H l bl b c) : 0 ≤ farG W H l bl a c ∧ farG W H l bl a c ≤ farG W H l bl a b + farG W H l bl b c := by
  have f1 := farG_floor h1
  have f2 := farG_floor h2
  unfold farG at h1 h2 ⊢
  rw [if_pos f1] at h1 ⊢
  rw [if_pos f2] at h2 ⊢
  rw [if_pos ⟨f1.1, f2.2⟩]
  exact farI_on h1 h2

/-- The nearest so far, the least cell of several: the cell and its distance (-1, -1: none). -/
def nearStep (d : Int → Int) (R : Int × Int) (x : Int) : Int × Int := if 0 ≤ d x ∧ (R.2 < 0 ∨ d x < R.2 ∨ (d x = R.2 ∧ x < R.1)) then (x, d x) else R
def nearS (d : Int → Int) (of : List Int) : Int × Int := of.foldl (nearStep d) (-1, -1)
theorem nearS_snoc (d : Int → Int) (l : List Int) (x : Int) : nearS d (l ++ [x]) = nearStep d (nearS d l) x := by
  unfold nearS
  rw [List.foldl_append]
  rfl
end Go.Proofs.Ytgjolllacchdeaa.Vm
