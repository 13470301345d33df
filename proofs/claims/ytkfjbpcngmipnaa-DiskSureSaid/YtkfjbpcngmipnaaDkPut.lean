/- The program's disk: a file put into the map, taken out of it; how an operation begins. -/
import Derived.Test.YtkfjbpcngmipnaaDkBurn
import Derived.Test.YtkfjbpcngmipnaaRefDiskE
namespace Go.Proofs.Ytkfjbpcngmipnaa.Vm
open Go Go.RowKit Go.Maps
set_option maxRecDepth 100000

section
variable {no : ByteArray → Prop} {w w1 : World} {bd mb : Nat} {g : ByteArray → Option PF} {F F' : List FileS} {n : ByteArray} {p : PF} {f : FileS}
theorem FilesBut.of_is (his : ∀ y, (g y).isSome = (lookF F y).isSome) (hk : KIn dkM w mb F.length g) (hl : ∀ y p f, g y = some p → lookF F y = some f → FileP w p f)
    (ha : ∀ y z p q k, y ≠ z → g y = some p → g z = some q → (slV p.v).ownBlock = some k → (slV q.v).ownBlock ≠ some k) : FilesP w mb g F :=
  ⟨hk, his, fun y _ => by
    have h1 := his y
    cases e : g y with
    | none => cases e2 : lookF F y with
      | none => trivial
      | some f => rw [e, e2] at h1; cases h1
    | some p => cases e2 : lookF F y with
      | none => rw [e, e2] at h1; cases h1
      | some f => exact hl y p f e e2, ha⟩
theorem FilesBut.put (h : FilesBut (fun y => y = n) w mb g F) (hl : F.length ≤ 999999) (hn : n.size ≤ maxLen) (hp : FileP w p f) (hap : ∀ y q k, y ≠ n → g y = some q → (slV p.v).ownBlock = some k → (slV q.v).ownBlock ≠ some k)
    (hA : Asc F') (hN : ∀ f ∈ F', f.name.size ≤ maxLen) (hL : ∀ y, lookF F' y = if y = n then some f else lookF F y) :
    ∃ w', (Instr.mapUpdate 61 (.map (some mb)) (.string n) (.agg #[slV p.v, .int .i64 p.s])).run Try.prog w = .ok () w' ∧ FilesP w' mb (fun y => if y = n then some p else g y) F' ∧ Alt (fun k => k = mb) w w' ∧ w'.heap.size = w.heap.size := by
  obtain ⟨w', hrun, hk, hg, hsz⟩ := h.kin.put dkL (a := n) (b := p) (by omega) hn trivial
  have hA1 : Alt (fun k => k = mb) w w' := (Alt.refl _ w).grown hg (fun _ => rfl)
  have his : ∀ y, ((fun y => if y = n then some p else g y) y).isSome = (lookF F' y).isSome := fun y => by
    rw [hL y]
    by_cases e : y = n
    · simp [e]
    · simpa [e] using h.is y
  refine ⟨w', hrun, .of_is his (hk.tight hA his hN) (fun y p1 f1 hy hf => ?_) (fun y z p1 q1 k hyz hy hz hk1 hk2 => ?_), hA1, hsz⟩
  · rw [hL y] at hf
    by_cases e : y = n
    · simp only [e, if_true] at hy hf
      injection hy with hy
      injection hf with hf
      subst hy hf
      refine ⟨hp.own.alt hA1 (fun k hk => ?_), hp.sure⟩
      obtain ⟨_, _, cs, hc⟩ := hp.own.blk hk
      exact h.kin.ne_bytes hc
    · simp only [e, if_false] at hy hf
      have h2 := h.like y e
      rw [hy, hf] at h2
      refine ⟨h2.own.alt hA1 (fun k hk => ?_), h2.sure⟩
      obtain ⟨_, _, cs, hc⟩ := h2.own.blk hk
      exact h.kin.ne_bytes hc
  · by_cases e : y = n
    · have e2 : z ≠ n := fun h => hyz (e.trans h.symm)
      simp only [e, if_true] at hy
      simp only [e2, if_false] at hz
      injection hy with hy
      subst hy
      exact hap z q1 k e2 hz hk1 hk2
    · simp only [e, if_false] at hy
      by_cases e2 : z = n
      · simp only [e2, if_true] at hz
        injection hz with hz
        subst hz
        exact hap y p1 k e hy hk2 hk1
      · simp only [e2, if_false] at hz
        exact h.apart y z p1 q1 k hyz hy hz hk1 hk2
theorem FilesBut.drop (h : FilesP w mb g F) (hA : Asc F) (hN : ∀ f ∈ F, f.name.size ≤ maxLen) (hn : n.size ≤ maxLen) (ty : TypeId) :
    ∃ w', (Builtin.delete_ #[61, 9] ty #[.map (some mb), .string n]).run Try.prog w = .ok (.tuple #[]) w' ∧ FilesP w' mb (fun y => if y = n then none else g y) (F.eraseIdx (atS F n)) ∧ Alt (fun k => k = mb) w w' ∧ w'.heap.size = w.heap.size := by
  obtain ⟨w', hrun, hk, hg, hsz⟩ := h.kin.drop dkL ty (a := n) hn
  have hA1 : Alt (fun k => k = mb) w w' := (Alt.refl _ w).grown hg (fun _ => rfl)
  have his : ∀ y, ((fun y => if y = n then none else g y) y).isSome = (lookF (F.eraseIdx (atS F n)) y).isSome := fun y => by
    rw [lookF_erase hA]
    by_cases e : y = n
    · simp [e]
    · simpa [e] using h.is y
  refine ⟨w', hrun, .of_is his (hk.tight (hA.erase _) his (fun f hf => hN f (List.mem_of_mem_eraseIdx hf))) (fun y p1 f1 hy hf => ?_) (fun y z p1 q1 k hyz hy hz hk1 hk2 => ?_), hA1, hsz⟩
  · rw [lookF_erase hA] at hf
    by_cases e : y = n
    · simp only [e, if_true] at hy; cases hy
    · simp only [e, if_false] at hy hf
      have h2 := h.like y id
      rw [hy, hf] at h2
      refine ⟨h2.own.alt hA1 (fun k hk => ?_), h2.sure⟩
      obtain ⟨_, _, cs, hc⟩ := h2.own.blk hk
      exact h.kin.ne_bytes hc
  · by_cases e : y = n
    · simp only [e, if_true] at hy; cases hy
    · by_cases e2 : z = n
      · simp only [e2, if_true] at hz; cases hz
      · simp only [e, e2, if_false] at hy hz
        exact h.apart y z p1 q1 k hyz hy hz hk1 hk2
theorem FilesBut.look (h : FilesP w mb g F) (hn : n.size ≤ maxLen) :
    (g n = none → (Instr.lookup 61 (.map (some mb)) (.string n) true).run Try.prog w = .ok (.tuple #[.agg #[.slice none 0 0, .int .i64 0], .bool false]) w ∧ (Instr.lookup 61 (.map (some mb)) (.string n) false).run Try.prog w = .ok (.agg #[.slice none 0 0, .int .i64 0]) w) ∧
    (g n = some p → (Instr.lookup 61 (.map (some mb)) (.string n) true).run Try.prog w = .ok (.tuple #[.agg #[slV p.v, .int .i64 p.s], .bool true]) w ∧ (Instr.lookup 61 (.map (some mb)) (.string n) false).run Try.prog w = .ok (.agg #[slV p.v, .int .i64 p.s]) w) := by
  have h1 := h.kin.look dkL (a := n) hn
  have h2 := h.kin.look1 dkL (a := n) hn
  refine ⟨fun e => ?_, fun e => ?_⟩
  · rw [e] at h1 h2
    exact ⟨h1, h2⟩
  · rw [e] at h1 h2
    exact ⟨h1, h2⟩
end
theorem OkD.wf13 {d : DiskS} (h : OkD d) : ∀ f ∈ d.F, f.name.size ≤ maxLen := fun f hf => by
  have := (h.names f hf).2
  unfold maxLen
  omega
/-- How an operation begins: its names lie in new memory. -/
theorem begun_one (bd mb : Nat) (g : ByteArray → Option PF) (fu : Int) (d : DiskS) (n : ByteArray) (w : World) (h : PrgAt w bd mb g fu d) (hd : OkD d) (hn : n.size ≤ maxLen) :
    Calls Try.prog 41 #[.pointer (some ⟨bd, 0, none⟩), .slice (some ⟨w.heap.size, 0, none⟩) 1 1] (w.alloc (.cells #[.string n] 9)) fun e w1 => e = .returned (.int .i64 (burnsS d n n).1) ∧ (∃ fu', PrgAt w1 bd mb g fu' (burnsS d n n).2) ∧ Alt (fun k => k = bd) w w1 := by
  have hb : Below w.heap.size w (w.alloc (.cells #[.string n] 9)) := (Below.refl _ w).alloc (Nat.le_refl _) _
  have h1 := h.alt (S := fun _ => False) (Alt.ofBelow hb) (fun _ _ h => h)
  have hr : RowN (w.alloc (.cells #[.string n] 9)) (w.heap.size + 1) (some ⟨w.heap.size, 0, none⟩) 1 1 [n] := ⟨rfl, Nat.le_refl _, by simp [maxLen], fun _ => ⟨_, 0, rfl, Nat.lt_succ_self _, fun i hi => by
    obtain rfl : i = 0 := by omega
    simp⟩⟩
  refine (pBegin13_any bd mb g fu d _ 1 1 _ [n] _ h1 hd hr (fun x hx => by simp at hx; rw [hx]; exact hn) (by omega)).mono ?_
  rintro e w1 ⟨rfl, hp, hA⟩
  rw [beginS_one] at hp ⊢
  exact ⟨rfl, hp, (Alt.ofBelow hb).trans hA (fun k hk _ => hk)⟩
theorem begun_two (bd mb : Nat) (g : ByteArray → Option PF) (fu : Int) (d : DiskS) (n m : ByteArray) (w : World) (h : PrgAt w bd mb g fu d) (hd : OkD d) (hn : n.size ≤ maxLen) (hm : m.size ≤ maxLen) :
    Calls Try.prog 41 #[.pointer (some ⟨bd, 0, none⟩), .slice (some ⟨w.heap.size, 0, none⟩) 2 2] (w.alloc (.cells #[.string n, .string m] 9)) fun e w1 => e = .returned (.int .i64 (burnsS d n m).1) ∧ (∃ fu', PrgAt w1 bd mb g fu' (burnsS d n m).2) ∧ Alt (fun k => k = bd) w w1 := by
  have hb : Below w.heap.size w (w.alloc (.cells #[.string n, .string m] 9)) := (Below.refl _ w).alloc (Nat.le_refl _) _
  have h1 := h.alt (S := fun _ => False) (Alt.ofBelow hb) (fun _ _ h => h)
  have hr : RowN (w.alloc (.cells #[.string n, .string m] 9)) (w.heap.size + 1) (some ⟨w.heap.size, 0, none⟩) 2 2 [n, m] := ⟨rfl, Nat.le_refl _, by simp [maxLen], fun _ => ⟨_, 0, rfl, Nat.lt_succ_self _, fun i hi => by
    match i, hi with
    | 0, _ => simp
    | 1, _ => simp⟩⟩
  refine (pBegin13_any bd mb g fu d _ 2 2 _ [n, m] _ h1 hd hr (fun x hx => by simp at hx; rcases hx with rfl | rfl; exact hn; exact hm) (by omega)).mono ?_
  rintro e w1 ⟨rfl, hp, hA⟩
  rw [beginS_two] at hp ⊢
  exact ⟨rfl, hp, (Alt.ofBelow hb).trans hA (fun k hk _ => hk)⟩
end Go.Proofs.Ytkfjbpcngmipnaa.Vm
