/- The plain mathematics of one small map: distances that are reckoned. No program is named here. -/
import Derived.Test.YtopgboepkckkjaaLeadMath
import Derived.Test.YtopgboepkckkjaaStrs
namespace Go.Proofs.Ytopgboepkckkjaa.Vm

def reachB (S : Nat → List Nat) (to : Nat) : Nat → Nat → Bool
  | 0, c => c == to
  | n + 1, c => (S c).any (reachB S to n)
theorem reachB_iff (S : Nat → List Nat) (to : Nat) : ∀ n c, reachB S to n c = true ↔ Reach S to n c := by
  intro n
  induction n with
  | zero => intro c; simp [reachB, Reach]
  | succ n ih =>
    intro c
    simp only [reachB, Reach, List.any_eq_true]
    constructor
    · rintro ⟨x, hx, h⟩; exact ⟨x, hx, (ih x).1 h⟩
    · rintro ⟨x, hx, h⟩; exact ⟨x, hx, (ih x).2 h⟩
def farB (S : Nat → List Nat) (to c n : Nat) : Bool := reachB S to n c && (List.range n).all fun m => !reachB S to m c
theorem farB_far {S : Nat → List Nat} {to c n : Nat} (h : farB S to c n = true) : FarS S to c n := by
  unfold farB at h
  rw [Bool.and_eq_true, List.all_eq_true] at h
  refine ⟨(reachB_iff S to n c).1 h.1, fun m hm hr => ?_⟩
  have h2 := h.2 m (List.mem_range.2 hm)
  rw [(reachB_iff S to m c).2 hr] at h2
  cases h2
def fieldB (S : Nat → List Nat) (to N : Nat) (l : List Int) : Bool :=
  l.length == N && (List.range N).all fun c => (0 ≤ l.getD c 0 && farB S to c (l.getD c 0).toNat) || (l.getD c 0 == -1 && (S c).isEmpty && c != to)
theorem fieldB_field {S : Nat → List Nat} {to N : Nat} {l : List Int} (h : fieldB S to N l = true) : IsField S to N l := by
  unfold fieldB at h
  rw [Bool.and_eq_true, List.all_eq_true] at h
  refine ⟨by simpa using h.1, fun c hc => ?_⟩
  have h2 := h.2 c (List.mem_range.2 hc)
  rw [Bool.or_eq_true] at h2
  rcases h2 with h2 | h2
  · rw [Bool.and_eq_true, decide_eq_true_eq] at h2
    exact .inl ⟨_, by omega, farB_far h2.2⟩
  · rw [Bool.and_eq_true, Bool.and_eq_true, beq_iff_eq, List.isEmpty_iff, bne_iff_ne] at h2
    refine .inr ⟨h2.1.1, fun n hr => ?_⟩
    cases n with
    | zero => exact h2.2 hr
    | succ n =>
      obtain ⟨x, hx, _⟩ := hr
      rw [h2.1.2] at hx
      cases hx

/-- The map of awake. -/
abbrev mapA : ByteArray := ⟨#[46, 46, 46, 35, 46, 46, 46, 46]⟩
theorem mapA_okay : Okay 4 2 mapA := Okay.of (by decide +kernel)
def l1A : List Int := [2, 1, 0, -1, 3, 2, 1, 2]
def l2A : List Int := [4, 1, 0, -1, 3, 2, 1, 2]
theorem fieldA1 : IsField (stepsS 4 2 (bytesOf mapA) []) 2 8 l1A := fieldB_field (by decide +kernel)
theorem fieldA2 : IsField (stepsS 4 2 (bytesOf mapA) [1]) 2 8 l2A := fieldB_field (by decide +kernel)
theorem floorA (k : Nat) (h : k < 8) (h3 : k ≠ 3) : floorS (bytesOf mapA) (k : Int) = true := by
  have : ∀ k : Fin 8, k.val ≠ 3 → floorS (bytesOf mapA) (k.val : Int) = true := by decide +kernel
  exact this ⟨k, h⟩ h3
theorem farA {a b n : Nat} (ha : a < 8 ∧ a ≠ 3) (hb : b < 8 ∧ b ≠ 3) (h : farB (stepsS 4 2 (bytesOf mapA) []) b a n = true) : farG 4 2 (bytesOf mapA) [] (a : Nat) (b : Nat) = n := by
  rw [show farG 4 2 (bytesOf mapA) [] (a : Nat) (b : Nat) = farI (stepsS 4 2 (bytesOf mapA) []) b a from by unfold farG; rw [if_pos ⟨floorA a ha.1 ha.2, floorA b hb.1 hb.2⟩]; simp]
  exact farI_far (farB_far h)
theorem farA47 : farG 4 2 (bytesOf mapA) [] 4 7 = 3 := farA (a := 4) (b := 7) (by decide) (by decide) (by decide +kernel)
theorem nearA : nearS (fun x => farG 4 2 (bytesOf mapA) [] 0 x) [7, 2, 3, 5] = (2, 2) := by
  have h7 : farG 4 2 (bytesOf mapA) [] 0 7 = 4 := farA (a := 0) (b := 7) (by decide) (by decide) (by decide +kernel)
  have h2 : farG 4 2 (bytesOf mapA) [] 0 2 = 2 := farA (a := 0) (b := 2) (by decide) (by decide) (by decide +kernel)
  have h5 : farG 4 2 (bytesOf mapA) [] 0 5 = 2 := farA (a := 0) (b := 5) (by decide) (by decide) (by decide +kernel)
  have h3 : farG 4 2 (bytesOf mapA) [] 0 3 = -1 := by
    unfold farG
    rw [if_neg]
    intro h
    have : floorS (bytesOf mapA) 3 = false := by decide +kernel
    rw [this] at h
    exact absurd h.2 (by simp)
  simp [nearS, nearStep, h7, h2, h5, h3]
end Go.Proofs.Ytopgboepkckkjaa.Vm
