/- Walks that are parted and joined; parts of a slice of slices; an append of such a slice to one of the call's own. -/
import Derived.Test.YtacigmjdppoonaaMovesMath
import Derived.Test.YtacigmjdppoonaaOwnQs
namespace Go.Proofs.Ytacigmjdppoonaa.Vm
open Go Go.RowKit
set_option maxRecDepth 100000

section
variable {W H : Int} {l : List Nat}
theorem WalkOut.bad_out {c : List Int} {ls out : List (List Int)} {x : Int} (h : WalkOut W H l c ls out x) (hx : x ≠ 0) : out = [] := by
  cases h with
  | done => exact absurd rfl hx
  | on => exact absurd rfl hx
  | bad => rfl
  | later => rfl
theorem WalkOut.head {c : List Int} {ls out : List (List Int)} (h : WalkOut W H l c ls out 0) : out = c :: out.drop 1 := by
  cases h with
  | done => rfl
  | on => rfl
  | bad _ n => exact absurd rfl n
  | later _ _ n => exact absurd rfl n
theorem WalkOut.length {c : List Int} {ls out : List (List Int)} (h : WalkOut W H l c ls out 0) : out.length = ls.length + 1 := by
  induction ls generalizing c out with
  | nil => cases h with | done => rfl
  | cons w ws ih =>
    cases h with
    | on _ k => simp [ih k]
    | bad _ n => exact absurd rfl n
    | later _ _ n => exact absurd rfl n
theorem WalkOut.lens {ls : List (List Int)} : ∀ {c : List Int} {out : List (List Int)}, WalkOut W H l c ls out 0 → ∀ o ∈ out, o.length = c.length := by
  induction ls with
  | nil =>
    intro c out h o ho
    cases h
    rw [List.mem_singleton.1 ho]
  | cons w ws ih =>
    intro c out h o ho
    cases h with
    | on g k =>
      rcases List.mem_cons.1 ho with rfl | ho
      · rfl
      · rw [ih k o ho]
        rcases g with ⟨_, _, rfl, _⟩ | ⟨_, _, g⟩
        · exact goK_len _ _ _
        · cases g
    | bad _ n => exact absurd rfl n
    | later _ _ n => exact absurd rfl n
/-- What fails among the first lists fails among all. -/
theorem WalkOut.fail {ls : List (List Int)} : ∀ {c : List Int} {k : Nat} {a : List (List Int)} {x : Int}, WalkOut W H l c (ls.take k) a x → x ≠ 0 → WalkOut W H l c ls [] x := by
  induction ls with
  | nil =>
    intro c k a x h hx
    rw [List.take_nil] at h
    cases h
    exact absurd rfl hx
  | cons w ws ih =>
    intro c k a x h hx
    cases k with
    | zero => cases h; exact absurd rfl hx
    | succ k =>
      rw [List.take_succ_cons] at h
      cases h with
      | on => exact absurd rfl hx
      | bad g n => exact .bad g n
      | later g h n => exact .later g (ih h n) n
/-- A walk of some lists, and one of the others behind it, is a walk of all. -/
theorem WalkOut.join {ls : List (List Int)} : ∀ {c : List Int} {k : Nat} {a b : List (List Int)} {x : Int}, WalkOut W H l c (ls.take k) a 0 → k ≤ ls.length → WalkOut W H l (a.getD k []) (ls.drop k) b x → ∃ out, WalkOut W H l c ls out x ∧ (x = 0 → out = a ++ b.drop 1) := by
  induction ls with
  | nil =>
    intro c k a b x h hk hb
    obtain rfl : k = 0 := by simpa using hk
    cases h
    refine ⟨b, hb, fun h0 => ?_⟩
    subst h0
    exact hb.head
  | cons w ws ih =>
    intro c k a b x h hk hb
    cases k with
    | zero =>
      cases h
      refine ⟨b, hb, fun h0 => ?_⟩
      subst h0
      exact hb.head
    | succ k =>
      rw [List.take_succ_cons] at h
      cases h with
      | on g h =>
        obtain ⟨out, h1, h2⟩ := ih h (by simpa using hk) (by simpa using hb)
        by_cases h0 : x = 0
        · subst h0
          exact ⟨_, .on g h1, fun _ => by rw [h2 rfl]; rfl⟩
        · refine ⟨[], .later g ?_ h0, fun h => absurd h h0⟩
          have := h1.bad_out h0
          rw [this] at h1
          exact h1
      | bad g n => exact absurd rfl n
      | later g h n => exact absurd rfl n
end

/-- A part of a slice of slices. -/
theorem RowL.part {w : World} {B n c lo hi : Nat} {a a' : Option Addr} {ls : List (List Int)} (h : RowL w B a n c ls) (h1 : lo ≤ hi) (h2 : hi ≤ n) (ha : ∀ b off, a = some ⟨b, off, none⟩ → lo < hi → a' = some ⟨b, off + lo, none⟩) : RowL w B a' (hi - lo) (c - lo) ((ls.drop lo).take (hi - lo)) := by
  obtain ⟨hl, hc, hm, hcs⟩ := h
  refine ⟨by rw [List.length_take, List.length_drop]; omega, by omega, by omega, fun hn => ?_⟩
  obtain ⟨b, off, e, hb, hq⟩ := hcs (by omega)
  refine ⟨b, off + lo, ha b off e (by omega), hb, fun i hi' => ?_⟩
  obtain ⟨ai, ni, ci, h5, h6⟩ := hq (lo + i) (by omega)
  refine ⟨ai, ni, ci, by rw [Nat.add_assoc]; exact h5, ?_⟩
  have e2 : ((ls.drop lo).take (hi - lo)).getD i [] = ls.getD (lo + i) [] := by
    simp [List.getD, List.getElem?_take, List.getElem?_drop, hi']
  rw [e2]
  exact h6
theorem run_cutQ (a : Option Addr) (n c lo : Nat) (h1 : lo ≤ n) : ∃ a', (∀ b off, a = some ⟨b, off, none⟩ → lo < n → n ≤ c → a' = some ⟨b, off + lo, none⟩) ∧ (a.isSome → a'.isSome) ∧
    ∀ V, (Instr.sliceAt 24 (.slice a n c) (some (.int .i64 (lo : Nat))) none none).run Try.prog V = .ok (.slice a' (n - lo) (c - lo)) V := by
  have hs : ∀ V, (sizeOf (Try.prog.elem 24)).run Try.prog V = .ok 1 V := fun V => by kernel_rfl
  have he : Try.prog.underlying 24 = some (.slice (Try.prog.elem 24)) := by kernel_rfl
  refine ⟨if c = lo then a else a.map (·.add (lo * 1)), fun b off e h2 h3 => ?_, fun hs' => ?_, fun V => ?_⟩
  · rw [if_neg (by omega), e]
    simp [Addr.add]
  · split
    · exact hs'
    · simpa using hs'
  · rw [run_sliceAt_slice (h := he), run_slice_l (ht := he) (h0 := by omega) (h1 := by omega), hs]
    simp [Result.andThen, sliced]
theorem run_cutQ2 (a : Option Addr) (n c lo hi : Nat) (h1 : lo ≤ hi) (h2 : hi ≤ c) : ∃ a', (∀ b off, a = some ⟨b, off, none⟩ → lo < hi → a' = some ⟨b, off + lo, none⟩) ∧
    ∀ V, (Instr.sliceAt 24 (.slice a n c) (some (.int .i64 (lo : Nat))) (some (.int .i64 (hi : Nat))) none).run Try.prog V = .ok (.slice a' (hi - lo) (c - lo)) V := by
  have hs : ∀ V, (sizeOf (Try.prog.elem 24)).run Try.prog V = .ok 1 V := fun V => by kernel_rfl
  have he : Try.prog.underlying 24 = some (.slice (Try.prog.elem 24)) := by kernel_rfl
  refine ⟨if c = lo then a else a.map (·.add (lo * 1)), fun b off e h3 => ?_, fun V => ?_⟩
  · rw [if_neg (by omega), e]
    simp [Addr.add]
  · rw [run_sliceAt_slice (h := he), run_slice_lh (ht := he) (h0 := by omega) (h1 := by omega) (h2 := by omega), hs]
    simp [Result.andThen, sliced]

theorem IntsKept.grown {w w' : World} {B n : Nat} {v : Value} {xs : List Value} (h1 : w.ownsRow B 27 1 v n xs) (hg : w.grownBy w' v.ownBlock) : IntsKept w w' := fun g a ha => by
  have hl := (Array.getElem?_eq_some_iff.1 ha).1
  refine hg.block g hl (fun e => ?_)
  rcases h1.2 with ⟨rfl, _⟩ | ⟨g', cap, cur, rfl, _, hg', _⟩
  · simp [Value.ownBlock] at e
  · simp only [Value.ownBlock, Option.some.injEq] at e
    subst e
    rw [ha] at hg'
    simp at hg'
/-- What two slices of the call's own come to, one behind the other. -/
theorem OwnQ.join {w w' : World} {B m : Nat} {v v' : Value} {la lb : List (List Int)} {xa xb : List Value} (h1 : w.ownsRow B 27 1 v la.length xa) (h2 : ∀ (i : Nat) (l : List Int), la[i]? = some l → ∃ u, xa[i]? = some u ∧ OwnZ w B u l)
    (hb : ∀ (i : Nat) (l : List Int), lb[i]? = some l → ∃ u, xb[i]? = some u ∧ OwnZ w B u l) (hm : lb.length = m) (h : w'.ownsRow B 27 1 v' (la.length + m) (xa ++ xb)) (hg : w.grownBy w' v.ownBlock) : OwnQ w' B v' (la ++ lb) := by
  have hlx : xa.length = la.length := by simpa using h1.1
  have hk : IntsKept w w' := .grown h1 hg
  refine ⟨xa ++ xb, by rw [List.length_append, hm]; exact h, fun i l hl => ?_⟩
  by_cases hi : i < la.length
  · rw [List.getElem?_append_left hi] at hl
    obtain ⟨u, hu, ho⟩ := h2 i l hl
    exact ⟨u, by rw [List.getElem?_append_left (by omega)]; exact hu, ho.kept hk⟩
  · rw [List.getElem?_append_right (by omega)] at hl
    obtain ⟨u, hu, ho⟩ := hb _ l hl
    exact ⟨u, by rw [List.getElem?_append_right (by omega), hlx]; exact hu, ho.kept hk⟩
end Go.Proofs.Ytacigmjdppoonaa.Vm
